import Derived.Test.YtbojcemamhiodabDoorSet
import Derived.Deep.QuietTactic
import Derived.BigQuiet
namespace Go.Proofs.YtbojcemamhiodabDoor
open Go.RowKit
theorem and255 (x : Int) : ∃ A : Nat, A < 256 ∧ bits .and .i64 x 255 = (A : Int) := by
  have h : ((BitVec.ofInt 64 x) &&& (BitVec.ofInt 64 255)).toNat < 2 ^ 8 := by
    rw [BitVec.toNat_and]
    exact Nat.and_lt_two_pow _ (by decide)
  refine ⟨((BitVec.ofInt 64 x) &&& (BitVec.ofInt 64 255)).toNat, h, ?_⟩
  show IntKind.i64.wrap _ = _
  rw [IntKind.wrap_i64]
  show ((((BitVec.ofInt 64 x) &&& (BitVec.ofInt 64 255)).toNat : Int) + _) % _ - _ = _
  omega
theorem conv1 (b : Int) (c : UInt8) (hb : (c.toNat : Int) = b) (W : World) (B : Nat) (h : W.cell? ⟨B, 0, none⟩ = some (.int .u8 b)) : (convert 22 9 (.slice (some ⟨B, 0, none⟩) 1 1)).run Tryd.prog W = .ok (.string ⟨#[c]⟩) W := by
  refine run_convert_bytes_back (P := Tryd.prog) W 22 9 5 ⟨B, 0, none⟩ 1 [c] Tryd.underlying22 Tryd.underlying5 Tryd.underlying9 ?_
  intro j hj
  simp at hj
  subst hj
  have hadd : (⟨B, 0, none⟩ : Addr).add 0 = ⟨B, 0, none⟩ := by unfold Addr.add; split <;> simp_all
  rw [hadd, h]
  show _ = some (Value.int .u8 (c.toNat : Int))
  rw [hb]
theorem wrap_u8_nat (C : Nat) (h : C < 256) : IntKind.u8.wrap (C : Int) = C := by rw [IntKind.wrap_u8]; omega
def hx : ByteArray := ⟨#[48, 49, 50, 51, 52, 53, 54, 55, 56, 57, 97, 98, 99, 100, 101, 102]⟩
theorem hx_at : ∀ v : Nat, v < 16 → hx.extract v (v + 1) = bl [hexb v] := by decide +kernel
theorem bl_app (a b : List UInt8) : bl a ++ bl b = bl (a ++ b) := by
  apply ByteArray.ext
  rw [ByteArray.data_append]
  simp [bl]
def rr (A B : Nat) : ByteArray := ⟨#[92, 120]⟩ ++ hx.extract (A / 16) (A / 16 + 1) ++ hx.extract (A % 16) (A % 16 + 1) ++ ⟨#[45, 92, 120]⟩ ++ hx.extract (B / 16) (B / 16 + 1) ++ hx.extract (B % 16) (B % 16 + 1) ++ ⟨#[93]⟩
theorem rr_eq (A B : Nat) (hA : A < 256) (hB : B < 256) : rr A B = bl (92 :: 120 :: hexb (A / 16) :: hexb (A % 16) :: 45 :: 92 :: 120 :: hexb (B / 16) :: hexb (B % 16) :: 93 :: []) := by
  unfold rr
  rw [hx_at _ (by omega), hx_at _ (by omega), hx_at _ (by omega), hx_at _ (by omega), show (⟨#[92, 120]⟩ : ByteArray) = bl [92, 120] from rfl, show (⟨#[45, 92, 120]⟩ : ByteArray) = bl [45, 92, 120] from rfl, show (⟨#[93]⟩ : ByteArray) = bl [93] from rfl]
  simp only [bl_app, List.cons_append, List.nil_append]
theorem ask_in (w : World) (A B C : Nat) (hA : A < 256) (hB : B < 256) (hC : C < 256) (hab : A ≤ B) (r : Int) (hr : r = if A ≤ C ∧ C ≤ B then 1 else -1) :
    Calls Tryd.prog 4 #[.string (⟨#[114, 32, 60, 45, 32, 91]⟩ ++ rr A B), .string ⟨#[UInt8.ofNat C]⟩, .int .i64 0, .int .i64 r, .string ⟨#[]⟩] w fun e w' => e = .returned (.bool true) ∧ Below w.heap.size w w' := by
  rw [rr_eq A B hA hB, show (⟨#[114, 32, 60, 45, 32, 91]⟩ : ByteArray) = bl [114, 32, 60, 45, 32, 91] from rfl, bl_app]
  refine set_in w (A / 16) (A % 16) (B / 16) (B % 16) (by omega) (by omega) (by omega) (by omega) (by omega) (UInt8.ofNat C) r ?_
  have e : (UInt8.ofNat C).toNat = C := by rw [UInt8.toNat_ofNat']; omega
  rw [hr, e, Nat.div_add_mod, Nat.div_add_mod]
theorem ask_out (w : World) (A B C : Nat) (hA : A < 256) (hB : B < 256) (hC : C < 256) (hab : A ≤ B) (r : Int) (hr : r = if A ≤ C ∧ C ≤ B then -1 else 1) :
    Calls Tryd.prog 4 #[.string (⟨#[114, 32, 60, 45, 32, 91, 94]⟩ ++ rr A B), .string ⟨#[UInt8.ofNat C]⟩, .int .i64 0, .int .i64 r, .string ⟨#[]⟩] w fun e w' => e = .returned (.bool true) ∧ Below w.heap.size w w' := by
  rw [rr_eq A B hA hB, show (⟨#[114, 32, 60, 45, 32, 91, 94]⟩ : ByteArray) = bl [114, 32, 60, 45, 32, 91, 94] from rfl, bl_app]
  refine set_out w (A / 16) (A % 16) (B / 16) (B % 16) (by omega) (by omega) (by omega) (by omega) (by omega) (UInt8.ofNat C) r ?_
  have e : (UInt8.ofNat C).toNat = C := by rw [UInt8.toNat_ofNat']; omega
  rw [hr, e, Nat.div_add_mod, Nat.div_add_mod]
theorem ask_dots (w : World) (C : Nat) :
    Calls Tryd.prog 4 #[.string ⟨#[114, 32, 60, 45, 32, 46, 32, 33, 46]⟩, .string ⟨#[UInt8.ofNat C]⟩, .int .i64 0, .int .i64 1, .string ⟨#[]⟩] w fun e w' => e = .returned (.bool true) ∧ Below w.heap.size w w' := set_dots w _
set_option maxRecDepth 4000 in
set_option maxHeartbeats 1000000 in
theorem sets_any (w : World) (lo hi c : Int) :
    Calls Tryd.prog 3 #[.int .i64 lo, .int .i64 hi, .int .i64 c] w fun e w' => e = .returned (.bool true) ∧ Below w.heap.size w w' := by
  obtain ⟨A, hA, hAe⟩ := and255 lo
  obtain ⟨B, hB, hBe⟩ := and255 hi
  obtain ⟨C, hC, hCe⟩ := and255 c
  have hwC := wrap_u8_nat C hC
  have hcC : ((UInt8.ofNat C).toNat : Int) = C := by rw [UInt8.toNat_ofNat']; omega
  have hcv := conv1 C (UInt8.ofNat C) hcC
  by_cases hab : A ≤ B
  · by_cases g1 : A ≤ C
    · by_cases g2 : C ≤ B
      · have N1 := hide (fun W : World => ask_in W A B C (by omega) (by omega) (by omega) (by omega) 1 (by rw [if_pos ⟨by omega, by omega⟩]))
        have N2 := hide (fun W : World => ask_out W A B C (by omega) (by omega) (by omega) (by omega) (-1) (by rw [if_pos ⟨by omega, by omega⟩]))
        have N3 := hide (fun W : World => ask_dots W C)
        go_enter Tryd.func3, Tryd.ntmps3
        go_wp2_with fail
        go_quiet (fail)
        have HB0 := hide (below_drewN ((Below.refl w.heap.size w).alloc (Nat.le_refl _) (.cells #[Value.int IntKind.u8 C] 5)) nq)
        go_wp2_with fail
        refine ((unhide N1) _).mono ?_
        rintro e w1 ⟨rfl, hb1⟩
        have HB1 := hide ((unhide HB0).trans (hb1.mono (unhide HB0).size))
        clear hb1
        go_wp2_with fail
        refine ((unhide N2) _).mono ?_
        rintro e w2 ⟨rfl, hb2⟩
        have HB2 := hide ((unhide HB1).trans (hb2.mono (unhide HB1).size))
        clear hb2
        go_wp2_with fail
        refine ((unhide N3) _).mono ?_
        rintro e w3 ⟨rfl, hb3⟩
        have HB3 := hide ((unhide HB2).trans (hb3.mono (unhide HB2).size))
        clear hb3
        go_wp2
        go_ret
        exact ⟨rfl, unhide HB3⟩
      · have N1 := hide (fun W : World => ask_in W A B C (by omega) (by omega) (by omega) (by omega) (-1) (by rw [if_neg (by omega)]))
        have N2 := hide (fun W : World => ask_out W A B C (by omega) (by omega) (by omega) (by omega) 1 (by rw [if_neg (by omega)]))
        have N3 := hide (fun W : World => ask_dots W C)
        go_enter Tryd.func3, Tryd.ntmps3
        go_wp2_with fail
        go_quiet (fail)
        have HB0 := hide (below_drewN ((Below.refl w.heap.size w).alloc (Nat.le_refl _) (.cells #[Value.int IntKind.u8 C] 5)) nq)
        go_wp2_with fail
        refine ((unhide N1) _).mono ?_
        rintro e w1 ⟨rfl, hb1⟩
        have HB1 := hide ((unhide HB0).trans (hb1.mono (unhide HB0).size))
        clear hb1
        go_wp2_with fail
        refine ((unhide N2) _).mono ?_
        rintro e w2 ⟨rfl, hb2⟩
        have HB2 := hide ((unhide HB1).trans (hb2.mono (unhide HB1).size))
        clear hb2
        go_wp2_with fail
        refine ((unhide N3) _).mono ?_
        rintro e w3 ⟨rfl, hb3⟩
        have HB3 := hide ((unhide HB2).trans (hb3.mono (unhide HB2).size))
        clear hb3
        go_wp2
        go_ret
        exact ⟨rfl, unhide HB3⟩
    · have N1 := hide (fun W : World => ask_in W A B C (by omega) (by omega) (by omega) (by omega) (-1) (by rw [if_neg (by omega)]))
      have N2 := hide (fun W : World => ask_out W A B C (by omega) (by omega) (by omega) (by omega) 1 (by rw [if_neg (by omega)]))
      have N3 := hide (fun W : World => ask_dots W C)
      go_enter Tryd.func3, Tryd.ntmps3
      go_wp2_with fail
      go_quiet (fail)
      have HB0 := hide (below_drewN ((Below.refl w.heap.size w).alloc (Nat.le_refl _) (.cells #[Value.int IntKind.u8 C] 5)) nq)
      go_wp2_with fail
      refine ((unhide N1) _).mono ?_
      rintro e w1 ⟨rfl, hb1⟩
      have HB1 := hide ((unhide HB0).trans (hb1.mono (unhide HB0).size))
      clear hb1
      go_wp2_with fail
      refine ((unhide N2) _).mono ?_
      rintro e w2 ⟨rfl, hb2⟩
      have HB2 := hide ((unhide HB1).trans (hb2.mono (unhide HB1).size))
      clear hb2
      go_wp2_with fail
      refine ((unhide N3) _).mono ?_
      rintro e w3 ⟨rfl, hb3⟩
      have HB3 := hide ((unhide HB2).trans (hb3.mono (unhide HB2).size))
      clear hb3
      go_wp2
      go_ret
      exact ⟨rfl, unhide HB3⟩
  · by_cases g1 : B ≤ C
    · by_cases g2 : C ≤ A
      · have N1 := hide (fun W : World => ask_in W B A C (by omega) (by omega) (by omega) (by omega) 1 (by rw [if_pos ⟨by omega, by omega⟩]))
        have N2 := hide (fun W : World => ask_out W B A C (by omega) (by omega) (by omega) (by omega) (-1) (by rw [if_pos ⟨by omega, by omega⟩]))
        have N3 := hide (fun W : World => ask_dots W C)
        go_enter Tryd.func3, Tryd.ntmps3
        go_wp2_with fail
        go_quiet (fail)
        have HB0 := hide (below_drewN ((Below.refl w.heap.size w).alloc (Nat.le_refl _) (.cells #[Value.int IntKind.u8 C] 5)) nq)
        go_wp2_with fail
        refine ((unhide N1) _).mono ?_
        rintro e w1 ⟨rfl, hb1⟩
        have HB1 := hide ((unhide HB0).trans (hb1.mono (unhide HB0).size))
        clear hb1
        go_wp2_with fail
        refine ((unhide N2) _).mono ?_
        rintro e w2 ⟨rfl, hb2⟩
        have HB2 := hide ((unhide HB1).trans (hb2.mono (unhide HB1).size))
        clear hb2
        go_wp2_with fail
        refine ((unhide N3) _).mono ?_
        rintro e w3 ⟨rfl, hb3⟩
        have HB3 := hide ((unhide HB2).trans (hb3.mono (unhide HB2).size))
        clear hb3
        go_wp2
        go_ret
        exact ⟨rfl, unhide HB3⟩
      · have N1 := hide (fun W : World => ask_in W B A C (by omega) (by omega) (by omega) (by omega) (-1) (by rw [if_neg (by omega)]))
        have N2 := hide (fun W : World => ask_out W B A C (by omega) (by omega) (by omega) (by omega) 1 (by rw [if_neg (by omega)]))
        have N3 := hide (fun W : World => ask_dots W C)
        go_enter Tryd.func3, Tryd.ntmps3
        go_wp2_with fail
        go_quiet (fail)
        have HB0 := hide (below_drewN ((Below.refl w.heap.size w).alloc (Nat.le_refl _) (.cells #[Value.int IntKind.u8 C] 5)) nq)
        go_wp2_with fail
        refine ((unhide N1) _).mono ?_
        rintro e w1 ⟨rfl, hb1⟩
        have HB1 := hide ((unhide HB0).trans (hb1.mono (unhide HB0).size))
        clear hb1
        go_wp2_with fail
        refine ((unhide N2) _).mono ?_
        rintro e w2 ⟨rfl, hb2⟩
        have HB2 := hide ((unhide HB1).trans (hb2.mono (unhide HB1).size))
        clear hb2
        go_wp2_with fail
        refine ((unhide N3) _).mono ?_
        rintro e w3 ⟨rfl, hb3⟩
        have HB3 := hide ((unhide HB2).trans (hb3.mono (unhide HB2).size))
        clear hb3
        go_wp2
        go_ret
        exact ⟨rfl, unhide HB3⟩
    · have N1 := hide (fun W : World => ask_in W B A C (by omega) (by omega) (by omega) (by omega) (-1) (by rw [if_neg (by omega)]))
      have N2 := hide (fun W : World => ask_out W B A C (by omega) (by omega) (by omega) (by omega) 1 (by rw [if_neg (by omega)]))
      have N3 := hide (fun W : World => ask_dots W C)
      go_enter Tryd.func3, Tryd.ntmps3
      go_wp2_with fail
      go_quiet (fail)
      have HB0 := hide (below_drewN ((Below.refl w.heap.size w).alloc (Nat.le_refl _) (.cells #[Value.int IntKind.u8 C] 5)) nq)
      go_wp2_with fail
      refine ((unhide N1) _).mono ?_
      rintro e w1 ⟨rfl, hb1⟩
      have HB1 := hide ((unhide HB0).trans (hb1.mono (unhide HB0).size))
      clear hb1
      go_wp2_with fail
      refine ((unhide N2) _).mono ?_
      rintro e w2 ⟨rfl, hb2⟩
      have HB2 := hide ((unhide HB1).trans (hb2.mono (unhide HB1).size))
      clear hb2
      go_wp2_with fail
      refine ((unhide N3) _).mono ?_
      rintro e w3 ⟨rfl, hb3⟩
      have HB3 := hide ((unhide HB2).trans (hb3.mono (unhide HB2).size))
      clear hb3
      go_wp2
      go_ret
      exact ⟨rfl, unhide HB3⟩
end Go.Proofs.YtbojcemamhiodabDoor

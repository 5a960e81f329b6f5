import Derived.Test.YtbojcemamhiodabGreatDoorHx
import Derived.Test.YtbojcemamhiodabGreatDoorTx2
namespace Go.Proofs.YtbojcemamhiodabGreatDoor
open Go.RowKit

theorem hex_dig : ∀ n : Nat, n < 16 → ∃ h : n < Lib.digits36.size, Lib.digits36[n]'h = hexC n := by decide +kernel
theorem z64 : Tryz.zeroCells135[64]? = some (.int .u8 0) := by kernel_rfl
theorem z63 : Tryz.zeroCells135[63]? = some (.int .u8 0) := by kernel_rfl
theorem conv_off (l : List UInt8) (W : World) (B o : Nat) (h : ∀ j (hj : j < l.length), W.cell? ⟨B, o + j, none⟩ = some (.int .u8 (l[j].toNat : Int))) : (convert 44 9 (.slice (some ⟨B, o, none⟩) l.length l.length)).run Tryz.prog W = .ok (.string (bl l)) W := by
  refine run_convert_bytes_back (P := Tryz.prog) W 44 9 5 ⟨B, o, none⟩ l.length l Tryz.underlying44 Tryz.underlying5 Tryz.underlying9 ?_
  intro j hj
  have hadd : (⟨B, o, none⟩ : Addr).add j = ⟨B, o + j, none⟩ := by unfold Addr.add; split <;> simp_all
  rw [hadd]
  exact h j hj
theorem and15 (n : Nat) (h : n < 256) : bits .and .u64 (n : Int) 15 = ((n % 16 : Nat) : Int) := by
  have key : ∀ k : Nat, k < 256 → bits .and .u64 (k : Int) 15 = ((k % 16 : Nat) : Int) := by decide +kernel
  exact key n h
theorem size65' : Tryz.zeroCells135.size = 65 := by kernel_rfl
theorem size65 : 64 < Tryz.zeroCells135.size := by rw [size65']; omega
/-- where the round stands -/
def HxR (w : World) (n : Nat) (u i : Value) (wr : World) : Prop :=
  (u = .int .u64 (n : Int) ∧ i = .int .i64 65 ∧ wr = w.alloc (.cells Tryz.zeroCells135 135)) ∨
  (16 ≤ n ∧ u = .int .u64 ((n / 16 : Nat) : Int) ∧ i = .int .i64 64 ∧ wr = w.alloc (.cells (Tryz.zeroCells135.setIfInBounds 64 (.int .u8 ((hexC (n % 16)).toNat : Int))) 135))

set_option maxRecDepth 100000 in
set_option maxHeartbeats 1000000 in
theorem bits_16 (n : Nat) (h : n < 256) (w : World) (ht : Tab w) :
    Calls Tryz.prog 105 #[.slice none 0 0, .int .u64 n, .int .i64 16, .bool false, .bool false] w fun e w' => e = .returned (.tuple #[.slice none 0 0, .string (bl (hex2 n))]) ∧ Below w.heap.size w w' := by
  have hA : Below w.heap.size w (w.alloc (.cells Tryz.zeroCells135 135)) := (Below.refl _ _).alloc (Nat.le_refl _) _
  have HT := hide (tz_16 _ (ht.below hA).1)
  have c64 : (w.alloc (.cells Tryz.zeroCells135 135)).cell? ⟨w.heap.size, 64, none⟩ = some (.int .u8 0) := by simp only [World.cell?, heap_alloc_new]; exact z64
  have c63 : (w.alloc (.cells Tryz.zeroCells135 135)).cell? ⟨w.heap.size, 63, none⟩ = some (.int .u8 0) := by simp only [World.cell?, heap_alloc_new]; exact z63
  have f64 : (w.alloc (.cells Tryz.zeroCells135 135)).frozen? ⟨w.heap.size, 64, none⟩ = false := World.frozen?_alloc_new _ _ _ _
  have f63 : (w.alloc (.cells Tryz.zeroCells135 135)).frozen? ⟨w.heap.size, 63, none⟩ = false := World.frozen?_alloc_new _ _ _ _
  have HA := hide hA
  clear ht hA
  go_enter Tryz.func105, Tryz.ntmps105
  go_name_bytes_deep 38 MSG hMSG
  clear hMSG
  go_name_bytes_deep 30 DG hDG
  have eDG : DG = Lib.digits36 := by rw [← hDG]; decide +kernel
  subst eDG
  clear hDG
  go_wp2_with fail
  go_at_call 112
  refine (pow2_16 _).mono ?_
  rintro e w1 ⟨rfl, hw⟩
  replace hw := hw.symm
  subst hw
  go_wp2_with fail
  go_at_call 113
  refine (unhide HT).mono ?_
  rintro e w1 ⟨rfl, hw⟩
  replace hw := hw.symm
  subst hw
  go_wp2_with fail
  go_loopw [1, 13] (fun u i wr => HxR w n u i wr) (fun u _ _ => (intOf u).toNat)
  case atStart => exact .inl ⟨rfl, rfl, rfl⟩
  case round =>
    rcases hrel with ⟨rfl, rfl, rfl⟩ | ⟨h16, rfl, rfl, rfl⟩
    · by_cases h16 : n < 16
      · have hI : ¬ (16 : Int) ≤ n := by omega
        obtain ⟨hd, hx⟩ := hex_dig n h16
        have hdI : (n : Int) < Lib.digits36.size := by omega
        have hx2 : hex2 n = [hexC n] := by unfold hex2; rw [if_pos h16]
        have hcv := conv_off [hexC n] (w.alloc (.cells (Tryz.zeroCells135.setIfInBounds 64 (.int .u8 ((hexC n).toNat : Int))) 135)) w.heap.size 64 (fun j hj => by
          have hj0 : j = 0 := by simp at hj; omega
          subst hj0
          rw [World.cell?_alloc_new, Array.getElem?_setIfInBounds_self_of_lt size65]
          rfl)
        simp only [List.length_cons, List.length_nil] at hcv
        go_wp2
        refine bodyPost_ret (v := .tuple #[.slice none 0 0, .string (bl [hexC n])]) (by simp [results, Tryz.results105, go_sem]) rfl ⟨by first | rfl | rw [hx2], (Below.refl _ _).alloc (Nat.le_refl _) _⟩
      · have hI : (16 : Int) ≤ n := by omega
        have ha := and15 n h
        obtain ⟨r, hr⟩ : ∃ r, r = n % 16 := ⟨_, rfl⟩
        rw [← hr] at ha
        obtain ⟨hd, hx⟩ := hex_dig r (by omega)
        have hdI : (r : Int) < Lib.digits36.size := by omega
        obtain ⟨q, hq⟩ : ∃ q, q = n / 16 := ⟨_, rfl⟩
        have hdiv : (n : Int) / 16 = (q : Int) := by omega
        have hqn : (q : Int) < n := by omega
        have Hr := hide hr
        have HE : Hid (HxR w n (.int .u64 (q : Int)) (.int .i64 64) (w.alloc (.cells (Tryz.zeroCells135.setIfInBounds 64 (.int .u8 ((hexC r).toNat : Int))) 135))) := .inr ⟨by omega, by rw [hq], rfl, by rw [hr]⟩
        clear hr hq
        go_wp2_with fail
        go_roundw
        case rel => exact unhide HE
        case measure => simp [intOf] <;> omega
    · have hq : n / 16 < 16 := by omega
      have hx2 : hex2 n = [hexC (n / 16), hexC (n % 16)] := by unfold hex2; rw [if_neg (by omega)]
      obtain ⟨q, hqq⟩ : ∃ q, q = n / 16 := ⟨_, rfl⟩
      rw [← hqq] at hq hx2 ⊢
      obtain ⟨hd, hx⟩ := hex_dig q hq
      have hI : ¬ (16 : Int) ≤ q := by omega
      have hdI : (q : Int) < Lib.digits36.size := by omega
      generalize hexC (n % 16) = y at *
      have hcv := conv_off [hexC q, y] (w.alloc (.cells ((Tryz.zeroCells135.setIfInBounds 64 (.int .u8 (y.toNat : Int))).setIfInBounds 63 (.int .u8 ((hexC q).toNat : Int))) 135)) w.heap.size 63 (fun j hj => by
        rw [World.cell?_alloc_new]
        have hs : (Tryz.zeroCells135.setIfInBounds 64 (.int .u8 (y.toNat : Int))).size = 65 := by rw [Array.size_setIfInBounds]; exact size65'
        cases j with
        | zero => rw [Array.getElem?_setIfInBounds_self_of_lt (by omega)]; rfl
        | succ j =>
          have hj0 : j = 0 := by simp at hj; omega
          subst hj0
          rw [Array.getElem?_setIfInBounds_ne (by omega), Array.getElem?_setIfInBounds_self_of_lt size65]
          rfl)
      simp only [List.length_cons, List.length_nil] at hcv
      have g63 : (w.alloc (.cells (Tryz.zeroCells135.setIfInBounds 64 (.int .u8 (y.toNat : Int))) 135)).cell? ⟨w.heap.size, 63, none⟩ = some (.int .u8 0) := by
        rw [World.cell?_alloc_new, Array.getElem?_setIfInBounds_ne (by omega)]
        exact z63
      clear hqq
      go_wp2
      refine bodyPost_ret (v := .tuple #[.slice none 0 0, .string (bl [hexC q, y])]) (by simp [results, Tryz.results105, go_sem]) rfl ⟨by first | rfl | rw [hx2], (Below.refl _ _).alloc (Nat.le_refl _) _⟩

set_option maxRecDepth 4000 in
set_option maxHeartbeats 1000000 in
theorem fmtI_16 (n : Nat) (h : n < 256) (w : World) (ht : Tab w) :
    Calls Tryz.prog 97 #[.int .i64 n, .int .i64 16] w fun e w' => e = .returned (.string (bl (hex2 n))) ∧ Below w.heap.size w w' := by
  have HS := hide (bits_16 n h w ht)
  have hI : (n : Int) < 256 := by omega
  have hw1 : IntKind.u64.wrap (n : Int) = n := by rw [IntKind.wrap_u64]; omega
  clear ht
  go_enter Tryz.func97, Tryz.ntmps97
  go_wp2_with fail
  go_at_call 105
  refine (unhide HS).mono ?_
  rintro e w' ⟨rfl, hb⟩
  have HB := hide hb
  clear hb
  go_wp2
  go_ret
  exact ⟨rfl, unhide HB⟩
set_option maxRecDepth 4000 in
set_option maxHeartbeats 1000000 in
theorem fmt_16 : SaidH := by
  intro n w h ht
  have HS := hide (fmtI_16 n h w ht)
  clear ht
  go_enter Tryz.func89, Tryz.ntmps89
  go_wp2_with fail
  go_at_call 97
  refine (unhide HS).mono ?_
  rintro e w' ⟨rfl, hb⟩
  have HB := hide hb
  clear hb
  go_wp2
  go_ret
  exact ⟨rfl, unhide HB⟩
end Go.Proofs.YtbojcemamhiodabGreatDoor

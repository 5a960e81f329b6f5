import Derived.Test.YtbojcemamhiodabGreatDoorCats
import Derived.Test.YtbojcemamhiodabGreatDoorToks
import Derived.Test.YtbojcemamhiodabGreatDoorParse
namespace Go.Proofs.YtbojcemamhiodabGreatDoor
open Go.RowKit

theorem conv_at1 (b : Int) (c : UInt8) (hb : (c.toNat : Int) = b) (W : World) (B : Nat) (h : W.cell? ⟨B, 0, none⟩ = some (.int .u8 b)) : (convert 44 9 (.slice (some ⟨B, 0, none⟩) 1 1)).run Tryz.prog W = .ok (.string ⟨#[c]⟩) W := by
  refine run_convert_bytes_back (P := Tryz.prog) W 44 9 5 ⟨B, 0, none⟩ 1 [c] Tryz.underlying44 Tryz.underlying5 Tryz.underlying9 ?_
  intro j hj
  simp at hj
  subst hj
  have hadd : (⟨B, 0, none⟩ : Addr).add 0 = ⟨B, 0, none⟩ := by unfold Addr.add; split <;> simp_all
  rw [hadd, h]
  show _ = some (Value.int .u8 (c.toNat : Int))
  rw [hb]
def dgC (n : Nat) : UInt8 := UInt8.ofNat (48 + n)
theorem dgC_toNat (n : Nat) (h : n < 10) : ((dgC n).toNat : Int) = 48 + n := by unfold dgC; rw [UInt8.toNat_ofNat']; omega

set_option maxHeartbeats 1000000 in
theorem number_1 (n : Nat) (w : World) (h : n < 10) :
    Calls Tryz.prog 12 #[.int .i64 n] w fun e w' => e = .returned (.string ⟨#[dgC n]⟩) ∧ Below w.heap.size w w' := by
  have hcv := conv_at1 (48 + n) (dgC n) (dgC_toNat n h)
  go_enter Tryz.func12, Tryz.ntmps12
  go_wp2
  go_ret
  exact ⟨rfl, (Below.refl _ _).alloc (Nat.le_refl _) _⟩

set_option maxHeartbeats 1000000 in
theorem number_2 (n a b : Nat) (w : World) (hn : n = 10 * a + b) (ha : 1 ≤ a) (ha2 : a < 10) (hb : b < 10) :
    Calls Tryz.prog 12 #[.int .i64 n] w fun e w' => e = .returned (.string (⟨#[dgC a]⟩ ++ ⟨#[dgC b]⟩)) ∧ Below w.heap.size w w' := by
  have hcv := conv_at1 (48 + b) (dgC b) (dgC_toNat b hb)
  have f1 : (n : Int) / 10 = a := by omega
  have f2 : (n : Int) % 10 = b := by omega
  have e1 : (n : Int).tdiv 10 = a := by rw [Int.tdiv_eq_ediv_of_nonneg (by omega)]; omega
  have e2 : (n : Int).tmod 10 = b := by rw [Int.tmod_eq_emod_of_nonneg (by omega)]; omega
  have g1 : IntKind.i64.wrap (a : Int) = a := by rw [IntKind.wrap_i64]; omega
  have g2 : IntKind.i64.wrap (b : Int) = b := by rw [IntKind.wrap_i64]; omega
  have g3 : IntKind.i64.wrap (48 + (b : Int)) = 48 + b := by rw [IntKind.wrap_i64]; omega
  have g4 : IntKind.u8.wrap (48 + (b : Int)) = 48 + b := by rw [IntKind.wrap_u8]; omega
  have hge : 10 ≤ (n : Int) := by omega
  have hle : (n : Int) < 100 := by omega
  have hbI : (b : Int) < 10 := by omega
  clear hn
  go_enter Tryz.func12, Tryz.ntmps12
  go_wp2_with fail
  go_region_with (go_at_call 12; refine (number_1 a _ ha2).mono ?_; rintro e w' ⟨rfl, hb⟩; obtain ⟨hc, hf⟩ := bcell hb; have hz1 := hb.size; simp at hz1 hc hf)
  all_goals
    first
    | (have hB : Below w.heap.size w w' := below_drew hb
       go_wp2
       go_ret
       exact ⟨rfl, hB.alloc hB.size _⟩)
    | (have hB : Below w.heap.size w w' := below_drew_alloc hb
       go_wp2
       go_ret
       exact ⟨rfl, hB⟩)

theorem number_any (n : Nat) (w : World) (h : n < 100) :
    Calls Tryz.prog 12 #[.int .i64 n] w fun e w' => e = .returned (.string ⟨(decC n).toArray⟩) ∧ Below w.heap.size w w' := by
  unfold decC
  by_cases h1 : n < 10
  · rw [if_pos (by omega), Int.toNat_natCast]
    exact number_1 n w h1
  · rw [if_neg (by omega), Int.toNat_natCast]
    exact number_2 n (n / 10) (n % 10) w (by omega) (by omega) (by omega) (by omega)
end Go.Proofs.YtbojcemamhiodabGreatDoor

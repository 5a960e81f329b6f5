import Derived.Test.YtbojcemamhiodabTbl
namespace Go.Proofs.Ytbojcemamhiodab
open Go.RowKit

set_option maxHeartbeats 1000000 in
theorem pick_any (c : Int) (w : World) (h0 : -9223372036854775808 ≤ c) (h1 : c ≤ 9223372036854775807) :
    Calls Try.prog 5 #[.int .i64 c, .int .i64 80] w fun e w' => ∃ k : Nat, k < 80 ∧ e = .returned (.int .i64 k) ∧ w' = w := by
  by_cases hc : c < 0
  · go_enter Try.func5, Try.ntmps5
    go_wp2
    go_ret
    refine ⟨((-(c + 1)) % 80).toNat, by omega, ret_int ?_, rfl⟩
    rw [← Int.neg_tmod, Int.tmod_eq_emod_of_nonneg (by omega)]
    omega
  · go_enter Try.func5, Try.ntmps5
    go_wp2
    go_ret
    exact ⟨(c % 80).toNat, by omega, ret_int (by omega), rfl⟩

theorem conv_at (b : Int) (c : UInt8) (hb : (c.toNat : Int) = b) (W : World) (B : Nat) (h : W.cell? ⟨B, 0, none⟩ = some (.int .u8 b)) : (convert 39 9 (.slice (some ⟨B, 0, none⟩) 1 1)).run Try.prog W = .ok (.string ⟨#[c]⟩) W := by
  refine run_convert_bytes_back (P := Try.prog) W 39 9 5 ⟨B, 0, none⟩ 1 [c] Try.underlying39 Try.underlying5 Try.underlying9 ?_
  intro j hj
  simp at hj
  subst hj
  have hadd : (⟨B, 0, none⟩ : Addr).add 0 = ⟨B, 0, none⟩ := by unfold Addr.add; split <;> simp_all
  rw [hadd, h]
  show _ = some (Value.int .u8 (c.toNat : Int))
  rw [hb]

def dg (n : Nat) : UInt8 := UInt8.ofNat (48 + n)
theorem dg_toNat (n : Nat) (h : n < 10) : ((dg n).toNat : Int) = 48 + n := by unfold dg; rw [UInt8.toNat_ofNat']; omega

set_option maxHeartbeats 1000000 in
theorem number_small (n : Nat) (w : World) (h : n < 10) :
    Calls Try.prog 7 #[.int .i64 n] w fun e w' => e = .returned (.string ⟨#[dg n]⟩) ∧ Below w.heap.size w w' := by
  have hcv := conv_at (48 + n) (dg n) (dg_toNat n h)
  go_enter Try.func7, Try.ntmps7
  go_wp2
  go_ret
  exact ⟨rfl, (Below.refl _ _).alloc (Nat.le_refl _) _⟩

set_option maxHeartbeats 1000000 in
theorem number_10 (w : World) :
    Calls Try.prog 7 #[.int .i64 10] w fun e w' => e = .returned (.string (⟨#[dg 1]⟩ ++ ⟨#[48]⟩)) ∧ Below w.heap.size w w' := by
  have hcv := conv_at (IntKind.u8.wrap (IntKind.i64.wrap 48)) 48 rfl
  go_enter Try.func7, Try.ntmps7
  go_wp2_with fail
  go_region_with (go_at_call 7; refine (number_small 1 _ (by omega)).mono ?_; rintro e w' ⟨rfl, hb⟩; obtain ⟨hc, hf⟩ := bcell hb; have hz1 := hb.size; simp at hz1 hc hf)
  all_goals
    first
    | (have hB : Below w.heap.size w w' := below_drew hb
       go_wp2
       go_ret
       exact ⟨rfl, hB.alloc hB.size _⟩)
    | (have hB : Below w.heap.size w w' := below_drew_alloc hb
       go_wp2
       go_ret
       exact ⟨rfl, hB⟩)

set_option maxHeartbeats 1000000 in
theorem number_11 (w : World) :
    Calls Try.prog 7 #[.int .i64 11] w fun e w' => e = .returned (.string (⟨#[dg 1]⟩ ++ ⟨#[49]⟩)) ∧ Below w.heap.size w w' := by
  have hcv := conv_at (IntKind.u8.wrap (IntKind.i64.wrap 49)) 49 rfl
  go_enter Try.func7, Try.ntmps7
  go_wp2_with fail
  go_region_with (go_at_call 7; refine (number_small 1 _ (by omega)).mono ?_; rintro e w' ⟨rfl, hb⟩; obtain ⟨hc, hf⟩ := bcell hb; have hz1 := hb.size; simp at hz1 hc hf)
  all_goals
    first
    | (have hB : Below w.heap.size w w' := below_drew hb
       go_wp2
       go_ret
       exact ⟨rfl, hB.alloc hB.size _⟩)
    | (have hB : Below w.heap.size w w' := below_drew_alloc hb
       go_wp2
       go_ret
       exact ⟨rfl, hB⟩)

end Go.Proofs.Ytbojcemamhiodab

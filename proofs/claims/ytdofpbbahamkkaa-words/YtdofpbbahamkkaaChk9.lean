import Derived.Test.YtdofpbbahamkkaaChk8
namespace Go.Proofs.Ytdofpbbahamkkaa
open Go.RowKit

def bitI (i : Int) : Int := ((2 ^ i.toNat : Nat) : Int)

set_option maxHeartbeats 1000000 in
theorem bit_any (i : Nat) (w : World) (h : i < 12) :
    Calls Try.prog 52 #[.int .i64 i] w fun e w' => e = .returned (.int .i64 (bitI i)) ∧ w' = w := by
  have h2 : 2 ^ i ≤ 2 ^ 11 := Nat.pow_le_pow_right (by omega) (by omega)
  have H2 := hide h2
  clear h2
  go_enter Try.func52, Try.ntmps52
  go_wp2
  go_ret
  refine ⟨ret_int ?_, rfl⟩
  have h3 := unhide H2
  unfold bitI
  simp only [Int.toNat_natCast]
  have e : ((2 : Int) ^ i) = ((2 ^ i : Nat) : Int) := by simp
  rw [e]
  generalize 2 ^ i = x at h3
  unfold wrap64
  omega

def leftL : List Rl → Nat → Int
  | [], _ => -1
  | r :: rs, i => if (bits .and .i64 r.begins (bitI i) != 0) = true then r.at_ else leftL rs (i + 1)

set_option maxHeartbeats 1000000 in
theorem left_any (w : World) (S : Nat → Prop) (c g cap : Nat) (rs : List Rl) (hc : Ck w S c g cap rs) :
    Calls Try.prog 32 #[.pointer (some ⟨c, 0, none⟩)] w fun e w' => e = .returned (.int .i64 (leftL rs 0)) ∧ Below w.heap.size w w' := by
  have hn := hc.few
  have Hc := hide hc
  obtain ⟨cc, hlt⟩ := hc.cells
  have hltg := hc.row.lt
  clear hc
  go_enter Try.func32, Try.ntmps32
  go_wp2
  go_loopw [10] (fun i wr => ∃ k : Nat, k ≤ rs.length ∧ i = .int .i64 k ∧ Hid (leftL rs 0 = leftL (rs.drop k) k) ∧ Hid (Below w.heap.size w wr)) (fun i _ => rs.length - (intOf i).toNat)
  case atStart => exact ⟨0, Nat.zero_le _, rfl, rfl, Below.refl _ _⟩
  case round =>
    obtain ⟨k, hk, rfl, HS, HB⟩ := hrel
    have hzb := (unhide HB).size
    by_cases hlt2 : k < rs.length
    · have hi : rs[k]? = some rs[k] := List.getElem?_eq_getElem hlt2
      obtain ⟨ao, n, cp, _, a0, a1, a2, a3, a4, a6, a7, a8, _⟩ := ((unhide Hc).below (unhide HB)).row.at k _ hi
      have hd : rs.drop k = rs[k] :: rs.drop (k + 1) := List.drop_eq_getElem_cons hlt2
      cases hx : (bits .and .i64 rs[k].begins (bitI k) != 0)
      · have HE : Hid (leftL rs 0 = leftL (rs.drop (k + 1)) (k + 1)) := by
          refine (unhide HS).trans ?_
          rw [hd, leftL, if_neg (by simp [hx])]
        clear hd hi
        go_wp2_with fail
        go_region_held3 (fun w' => w'.cell? ⟨wr.heap.size, 7, none⟩ = some (.int .i64 rs[k].begins)) (go_keep)
          (first | (go_at_call 52; refine (bit_any _ _ (by omega)).mono ?_; rintro e w4 ⟨rfl, rfl⟩))
        go_wp2_with fail
        go_roundw
        case rel => exact ⟨k + 1, by omega, by go_num, HE, ((unhide HB).alloc (by omega) _).drew⟩
        case measure => simp [intOf]; omega
      · have HE : Hid (leftL rs 0 = rs[k].at_) := by
          refine (unhide HS).trans ?_
          rw [hd, leftL, if_pos hx]
        clear hd hi
        go_wp2_with fail
        go_region_held3 (fun w' => w'.cell? ⟨wr.heap.size, 7, none⟩ = some (.int .i64 rs[k].begins)) (go_keep)
          (first | (go_at_call 52; refine (bit_any _ _ (by omega)).mono ?_; rintro e w4 ⟨rfl, rfl⟩))
        go_wp2
        go_ret
        exact ⟨ret_int (unhide HE).symm, ((unhide HB).alloc (by omega) _).drew⟩
    · have HE : Hid (leftL rs 0 = -1) := by
        refine (unhide HS).trans ?_
        rw [List.drop_eq_nil_of_le (by omega)]; rfl
      go_wp2
      go_ret
      exact ⟨ret_int (unhide HE).symm, unhide HB⟩
end Go.Proofs.Ytdofpbbahamkkaa

import Derived.Test.YtbojcemamhiodaaGreatDoorKps
import Derived.Test.YtbojcemamhiodaaGreatDoorGr
import Derived.Test.YtbojcemamhiodaaGreatDoorMat
import Derived.Test.YtbojcemamhiodaaGreatDoorFam7
import Derived.Test.YtbojcemamhiodaaGreatDoorNm
namespace Go.Proofs.YtbojcemamhiodaaGreatDoor
open Go.RowKit

def askG1 (c : UInt8) (w : List UInt8) : ByteArray := ⟨#[114, 32, 60, 45, 32, 123, 39]⟩ ++ bl [c] ++ ⟨#[39, 42, 125, 32, 39]⟩ ++ bl w ++ ⟨#[39]⟩
def askG2 (c : UInt8) (w : List UInt8) : ByteArray := ⟨#[114, 32, 60, 45, 32, 110, 32, 39]⟩ ++ bl w ++ ⟨#[39, 32, 110, 32, 60, 45, 32, 123, 120, 58, 32, 91]⟩ ++ bl [c] ++ ⟨#[93, 43, 125]⟩
theorem askG1_text (c : UInt8) (w : List UInt8) : askG1 c w = bl (textG1 [c] w) := by
  unfold askG1
  rw [show (⟨#[114, 32, 60, 45, 32, 123, 39]⟩ : ByteArray) = bl [114, 32, 60, 45, 32, 123, 39] from rfl, show (⟨#[39, 42, 125, 32, 39]⟩ : ByteArray) = bl [39, 42, 125, 32, 39] from rfl, show (⟨#[39]⟩ : ByteArray) = bl [39] from rfl]
  simp only [bl_app]
  congr 1
theorem askG2_text (c : UInt8) (w : List UInt8) : askG2 c w = bl (textG2 w c) := by
  unfold askG2
  rw [show (⟨#[114, 32, 60, 45, 32, 110, 32, 39]⟩ : ByteArray) = bl [114, 32, 60, 45, 32, 110, 32, 39] from rfl, show (⟨#[39, 32, 110, 32, 60, 45, 32, 123, 120, 58, 32, 91]⟩ : ByteArray) = bl [39, 32, 110, 32, 60, 45, 32, 123, 120, 58, 32, 91] from rfl, show (⟨#[93, 43, 125]⟩ : ByteArray) = bl [93, 43, 125] from rfl]
  simp only [bl_app]
  congr 1
  simp [textG2]
theorem wr_part (k : Nat) (nm : List UInt8) : wrL [.mk 0 k nm []] = (if nm = [] then [] else nm ++ [61]) ++ [48, 45] ++ decC k := by
  show wrC _ ++ wrC.rest [] = _
  rw [show (Ct.mk 0 k nm []) = Ct.mk ((0 : Nat) : Int) k nm [] from rfl, wrC_part]
  unfold wrC.rest
  have h0 : decC ((0 : Nat) : Int) = [48] := by decide +kernel
  rw [h0]
  simp
theorem decC_len2 (a : Int) : (decC a).length ≤ 2 := by unfold decC; split <;> simp
theorem greedy1_ask (W : World) (c : UInt8) (w s : List UInt8) (k : Nat) (r : Int) (hc : isPlain c = true) (hw : w.all isPlain = true) (hlw : w.length ≤ 5) (hls : s.length ≤ 60) (hk : k = runTo s c s.length 0) (hr : r = if standsB s k w = true then ((k + w.length : Nat) : Int) else -1) :
    Calls Tryz.prog 24 #[.string (askG1 c w), .string (bl s), .int .i64 0, .int .i64 r, .string (⟨#[48, 45]⟩ ++ ⟨(decC k).toArray⟩)] W fun e w' => e = .returned (.bool true) ∧ Below W.heap.size W w' := by
  rw [askG1_text]
  have hlen : (textG1 [c] w).length = 14 + w.length := by simp [textG1]; omega
  have hcp : ([c] : List UInt8).all isPlain = true := by simp [hc]
  obtain ⟨k', hk', _, hy, hn⟩ := greedy1 s w c
  rw [← hk] at hk'
  subst hk'
  have hm : Mr (TG1 c w) (bl s) 0 0 r ∧ (r ≠ -1 → Cr (TG1 c w) (bl s) 0 0 [.mk 0 k' [] []]) := by
    by_cases h : standsB s k' w = true
    · rw [if_pos h] at hr
      subst hr
      exact ⟨(hy h).1, fun _ => (hy h).2⟩
    · rw [if_neg h] at hr
      subst hr
      exact ⟨hn (by simpa using h), fun e => absurd rfl e⟩
  have hd := decC_len2 k'
  refine matches_any W _ _ _ 0 r 4 3 (TG1 c w) [.mk 0 k' [] []] (by rw [bl_size, hlen]; omega) (compile_greedy1 [c] w hcp hw (by simp; omega) (by rw [ByteArray.toList_eq]; rfl)) (by rw [parse_greedy1 [c] w hcp hw (by simp; omega)]; exact build_greedy1 [c] w) (by simp [TG1]) ?_ (by rw [bl_size]; omega) (by omega) (by omega) hm.1 (fun hne => ⟨hm.2 hne, by rw [wr_part]; simp; omega, ?_⟩)
  · intro t ht
    simp only [TG1, List.mem_cons, List.not_mem_nil, or_false] at ht
    rcases ht with rfl | rfl | rfl | rfl | rfl
    all_goals first | (show (bl w).size ≤ 400; rw [bl_size]; omega) | (show (bl [c]).size ≤ 400; rw [bl_size]; simp) | simp
  · rw [wr_part, if_pos rfl]
    exact bl_app [48, 45] (decC k')
theorem greedy2_ask (W : World) (c : UInt8) (w s : List UInt8) (k : Nat) (r : Int) (hc : isNameC c.toNat = true) (hw : w.all isPlain = true) (hlw : w.length ≤ 5) (hls : s.length ≤ 60) (hk : k = runTo s c s.length 0) (hr : r = if 0 < k ∧ standsB s k w = true then ((k + w.length : Nat) : Int) else -1) :
    Calls Tryz.prog 24 #[.string (askG2 c w), .string (bl s), .int .i64 0, .int .i64 r, .string (⟨#[120, 61, 48, 45]⟩ ++ ⟨(decC k).toArray⟩)] W fun e w' => e = .returned (.bool true) ∧ Below W.heap.size W w' := by
  rw [askG2_text]
  have hlen : (textG2 w c).length = 24 + w.length := by simp [textG2]; omega
  obtain ⟨k', hk', _, hy, hn⟩ := greedy2 s w c
  rw [← hk] at hk'
  subst hk'
  have hm : Mr (TG2 c w) (bl s) 0 0 r ∧ (r ≠ -1 → Cr (TG2 c w) (bl s) 0 0 [.mk 0 k' [120] []]) := by
    by_cases h : 0 < k' ∧ standsB s k' w = true
    · rw [if_pos h] at hr
      subst hr
      exact ⟨(hy h.1 h.2).1, fun _ => (hy h.1 h.2).2⟩
    · rw [if_neg h] at hr
      subst hr
      refine ⟨hn ?_, fun e => absurd rfl e⟩
      by_cases h0 : k' = 0
      · exact .inl h0
      · right
        cases hs : standsB s k' w
        · rfl
        · exact absurd ⟨by omega, hs⟩ h
  have hd := decC_len2 k'
  refine matches_any W _ _ _ 0 r 4 4 (TG2 c w) [.mk 0 k' [120] []] (by rw [bl_size, hlen]; omega) (compile_greedy2 w c hw hc (by omega)) (by rw [parse_greedy2 w c hw hc (by omega)]; exact build_greedy2 w c _) (by simp [TG2]) ?_ (by rw [bl_size]; omega) (by omega) (by omega) hm.1 (fun hne => ⟨hm.2 hne, by rw [wr_part]; simp; omega, ?_⟩)
  · intro t ht
    simp only [TG2, List.mem_cons, List.not_mem_nil, or_false] at ht
    rcases ht with rfl | rfl | rfl | rfl | rfl | rfl
    all_goals first | (show (bl w).size ≤ 400; rw [bl_size]; omega) | (show (bl [c]).size ≤ 400; rw [bl_size]; simp) | (show (bl [120]).size ≤ 400; rw [bl_size]; simp) | (show (bl [110]).size ≤ 400; rw [bl_size]; simp) | simp
  · rw [wr_part, if_neg (by simp)]
    exact bl_app [120, 61, 48, 45] (decC k')

theorem abc_head (a : ByteArray) : ∃ (c : UInt8) (l : List UInt8), abcL (a ++ ⟨#[97]⟩).data.toList = c :: l ∧ isPlain c = true ∧ isNameC c.toNat = true := by
  have hne : (a ++ ⟨#[97]⟩ : ByteArray).data.toList ≠ [] := by
    rw [ByteArray.data_append]
    simp
  obtain ⟨x, l, hx⟩ : ∃ x l, (a ++ ⟨#[97]⟩ : ByteArray).data.toList = x :: l := by
    cases h : (a ++ ⟨#[97]⟩ : ByteArray).data.toList with
    | nil => exact absurd h hne
    | cons x l => exact ⟨x, l, rfl⟩
  refine ⟨abcC x, (l.take 59).map abcC, ?_, abcC_plain x, ?_⟩
  · rw [hx]
    rfl
  · have key : ∀ n : Nat, n < 3 → isNameC (UInt8.ofNat (97 + n)).toNat = true := by decide +kernel
    exact key _ (by omega)
theorem run_stop {s : List UInt8} {c : UInt8} {n k : Nat} (h : ¬ s[k]? = some c) : runTo s c n k = k := by
  cases n with
  | zero => rfl
  | succ n => unfold runTo; rw [if_neg h]
theorem run_go {s : List UInt8} {c : UInt8} {k : Nat} (hk : k < s.length) (h : s[k]? = some c) : runTo s c (s.length - k) k = runTo s c (s.length - (k + 1)) (k + 1) := by
  rw [show s.length - k = (s.length - (k + 1)) + 1 from by omega]
  show (if s[k]? = some c then _ else _) = _
  rw [if_pos h]
end Go.Proofs.YtbojcemamhiodaaGreatDoor

import Derived.Test.YtdofpbbahamkkaaKps
import Derived.Test.YtdofpbbahamkkaaMch
import Derived.Test.YtdofpbbahamkkaaFams
namespace Go.Proofs.Ytdofpbbahamkkaa

theorem wordM_bl (s u : List UInt8) (k : Nat) : wordM (bl s) (bl u) k = if standsB s k u = true then ((k + u.length : Nat) : Int) else -1 := by
  have key : ((List.range (bl u).size).all fun j => bAt (bl s) ((k : Int) + j) == bAt (bl u) j) = true ↔ standsB s k u = true := by
    unfold standsB
    rw [List.all_eq_true, decide_eq_true_eq, List.prefix_iff_getElem?, bl_size]
    constructor
    · intro h i hi
      have h1 := h i (List.mem_range.2 hi)
      rw [beq_iff_eq, show (k : Int) + i = ((k + i : Nat) : Int) from by omega, bAt_bl, bAt_bl, List.getElem?_eq_getElem hi] at h1
      rw [List.getElem?_drop]
      cases hx : s[k + i]? with
      | none => rw [hx] at h1; simp at h1
      | some b =>
        rw [hx] at h1
        simp only at h1
        congr 1
        exact UInt8.toNat_inj.1 (by omega)
    · intro h j hj
      rw [List.mem_range] at hj
      have h1 := h j hj
      rw [List.getElem?_drop] at h1
      rw [beq_iff_eq, show (k : Int) + j = ((k + j : Nat) : Int) from by omega, bAt_bl, bAt_bl, List.getElem?_eq_getElem hj, h1]
  unfold wordM
  by_cases h : standsB s k u = true
  · rw [if_pos (key.2 h), if_pos h, bl_size]
    omega
  · rw [if_neg (fun x => h (key.1 x)), if_neg h]
theorem match_leaf {T : List Tm} {s u : List UInt8} {i k F : Nat} (h : T[i]? = some ⟨0, bl u, []⟩) (hk : k ≤ s.length) : matchN T (bl s) (F + 1) i k = some (if standsB s k u = true then ((k + u.length : Nat) : Int) else -1) := by
  have hi : i < T.length := by
    rcases Nat.lt_or_ge i T.length with h1 | h1
    · exact h1
    · rw [List.getElem?_eq_none h1] at h; cases h
  rw [matchN, bl_size, if_neg (by omega), Int.toNat_natCast, h]
  show runN _ _ _ _ _ = _
  unfold runN
  rw [if_pos rfl, ← wordM_bl]
theorem match_words (s u v w : List UInt8) : matchN [⟨5, ByteArray.empty, [3, 4]⟩, ⟨0, bl u, []⟩, ⟨0, bl v, []⟩, ⟨6, ByteArray.empty, [1, 2]⟩, ⟨0, bl w, []⟩] (bl s) 3 0 0 = some (toW s u v w) := by
  obtain ⟨T, hT⟩ : ∃ T : List Tm, T = [⟨5, ByteArray.empty, [3, 4]⟩, ⟨0, bl u, []⟩, ⟨0, bl v, []⟩, ⟨6, ByteArray.empty, [1, 2]⟩, ⟨0, bl w, []⟩] := ⟨_, rfl⟩
  rw [← hT]
  have hl : T.length = 5 := by rw [hT]; rfl
  have t0 : T[0]? = some ⟨5, ByteArray.empty, [3, 4]⟩ := by rw [hT]; rfl
  have t1 : T[1]? = some ⟨0, bl u, []⟩ := by rw [hT]; rfl
  have t2 : T[2]? = some ⟨0, bl v, []⟩ := by rw [hT]; rfl
  have t3 : T[3]? = some ⟨6, ByteArray.empty, [1, 2]⟩ := by rw [hT]; rfl
  have t4 : T[4]? = some ⟨0, bl w, []⟩ := by rw [hT]; rfl
  clear hT
  have m1 : matchN T (bl s) 1 1 0 = some (if standsB s 0 u = true then ((0 + u.length : Nat) : Int) else -1) := match_leaf (i := 1) (k := 0) (F := 0) t1 (by omega)
  have m2 : matchN T (bl s) 1 2 0 = some (if standsB s 0 v = true then ((0 + v.length : Nat) : Int) else -1) := match_leaf (i := 2) (k := 0) (F := 0) t2 (by omega)
  have m4 : ∀ k : Nat, k ≤ s.length → matchN T (bl s) 2 4 k = some (if standsB s k w = true then ((k + w.length : Nat) : Int) else -1) := fun k hk => match_leaf (i := 4) (F := 1) t4 hk
  have m3 : matchN T (bl s) 2 3 0 = choiceM (matchN T (bl s) 1) [1, 2] 0 := by
    rw [matchN, hl, bl_size, if_neg (by simp)]
    show (match T[3]? with | none => _ | some t => _) = _
    rw [t3]
    rfl
  rw [matchN, hl, bl_size, if_neg (by simp)]
  show (match T[0]? with | none => _ | some t => _) = _
  rw [t0]
  show rowM (matchN T (bl s) 2) [3, 4] 0 = _
  unfold toW
  by_cases hu : standsB s 0 u = true
  · rw [if_pos hu] at m1 ⊢
    have hlen := stands_len (by omega) hu
    have m3' : matchN T (bl s) 2 3 0 = some (u.length : Int) := by
      rw [m3]
      simp only [choiceM, m1, Option.bind_some]
      rw [if_neg (by omega)]
      simp
    have h4 := m4 u.length (by omega)
    simp only [rowM, m3', Option.bind_some]
    rw [if_neg (by omega), h4]
    by_cases hw : standsB s u.length w = true
    · rw [if_pos hw]
      simp only [Option.bind_some]
      rw [if_neg (by omega)]
    · rw [if_neg hw]
      rfl
  · rw [if_neg hu] at m1 ⊢
    by_cases hv : standsB s 0 v = true
    · rw [if_pos hv] at m2 ⊢
      have hlen := stands_len (by omega) hv
      have m3' : matchN T (bl s) 2 3 0 = some (v.length : Int) := by
        rw [m3]
        simp only [choiceM, m1, m2, Option.bind_some]
        rw [if_pos trivial, if_neg (by omega)]
        simp
      have h4 := m4 v.length (by omega)
      simp only [rowM, m3', Option.bind_some]
      rw [if_neg (by omega), h4]
      by_cases hw : standsB s v.length w = true
      · rw [if_pos hw]
        simp only [Option.bind_some]
        rw [if_neg (by omega)]
      · rw [if_neg hw]
        rfl
    · rw [if_neg hv] at m2 ⊢
      have m3' : matchN T (bl s) 2 3 0 = some (-1) := by
        rw [m3]
        simp only [choiceM, m1, m2, Option.bind_some]
        simp
      simp only [rowM, m3', Option.bind_some]
      simp
end Go.Proofs.Ytdofpbbahamkkaa

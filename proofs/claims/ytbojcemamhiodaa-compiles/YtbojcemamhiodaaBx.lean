import Derived.Test.YtbojcemamhiodaaByts
namespace Go.Proofs.Ytbojcemamhiodaa

/-- a part of a text -/
theorem ext_size {s : ByteArray} {a b : Nat} (hb : b ≤ s.size) : (s.extract a b).size = b - a := by
  rw [ByteArray.size_extract]; omega
theorem bAt_ext {s : ByteArray} {a b : Nat} (hb : b ≤ s.size) (k : Int) (h0 : (a : Int) ≤ k) (h1 : k < b) : bAt (s.extract a b) (k - a) = bAt s k := by
  have hz : (s.extract a b).size = b - a := ext_size hb
  unfold bAt
  rw [dif_pos ⟨by omega, by omega⟩, dif_pos ⟨by omega, by omega⟩]
  have e : (s.extract a b)[(k - a).toNat]'(by omega) = s[k.toNat]'(by omega) := by
    rw [ByteArray.getElem_extract]
    congr 1
    omega
  rw [e]
theorem digit_ext {s : ByteArray} {a b : Nat} (hb : b ≤ s.size) (k : Int) (h0 : (a : Int) ≤ k) (h1 : k < b) : digit (s.extract a b) (k - a) = digit s k := by
  unfold digit
  rw [bAt_ext hb k h0 h1]
theorem escC_ext {s : ByteArray} {a b : Nat} (hb : b ≤ s.size) (p : Int) (m : Bool) (h0 : (a : Int) ≤ p) (h : 0 ≤ (escC s p m).1) (hr : (escC s p m).2 ≤ b) : escC (s.extract a b) (p - a) m = ((escC s p m).1, (escC s p m).2 - a) := by
  unfold escC at h hr ⊢
  have e1 : p - a + 1 = (p + 1) - a := by omega
  have e2 : p - a + 2 = (p + 2) - a := by omega
  have e3 : p - a + 3 = (p + 3) - a := by omega
  by_cases hm : m = true
  · rw [if_pos hm] at h hr ⊢
    rw [if_pos hm, e1, bAt_ext hb _ (by omega) (by have : p + 2 ≤ b := hr; omega)]
    show (_, _) = (bAt s (p + 1), p + 2 - (a : Int))
    rw [show p - (a : Int) + 2 = p + 2 - a by omega]
  · rw [if_neg hm] at h hr ⊢
    rw [if_neg hm]
    by_cases hx : bAt s (p + 1) ≠ 120
    · rw [if_pos hx] at h
      have : (0 : Int) ≤ -1 := h
      omega
    · rw [if_neg hx] at h hr ⊢
      by_cases hd : digit s (p + 2) < 0 ∨ digit s (p + 3) < 0
      · rw [if_pos hd] at h
        have : (0 : Int) ≤ -1 := h
        omega
      · rw [if_neg hd] at h hr ⊢
        have hr' : p + 4 ≤ b := hr
        rw [e1, e2, e3, bAt_ext hb _ (by omega) (by omega), digit_ext hb _ (by omega) (by omega), digit_ext hb _ (by omega) (by omega), if_neg hx, if_neg hd]
        show (_, _) = (_, p + 4 - (a : Int))
        rw [show p - (a : Int) + 4 = p + 4 - a by omega]
theorem plainC_ext {c p : Int} {m : Bool} {a : Nat} : plainC c (p - a) m = ((plainC c p m).1, (plainC c p m).2 - a) := by
  unfold plainC
  split
  · rfl
  · rename_i hc
    show (c, p - a + 1) = (c, p + 1 - (a : Int))
    rw [show p - (a : Int) + 1 = p + 1 - a by omega]
theorem wordC_lt {s : ByteArray} {p : Int} (h : 0 ≤ (wordC s p).1) : p < (wordC s p).2 := by
  have := wordC_good s p
  unfold GoodC at this
  omega
theorem setC_lt {s : ByteArray} {p : Int} (h : 0 ≤ (setC s p).1) : p < (setC s p).2 := by
  have := setC_good s p
  unfold GoodC at this
  omega
theorem escC_two {s : ByteArray} {p : Int} {m : Bool} (h : 0 ≤ (escC s p m).1) : p + 2 ≤ (escC s p m).2 := by
  unfold escC at h ⊢
  split
  · show p + 2 ≤ p + 2; omega
  · rename_i h1
    rw [if_neg h1] at h
    split
    · rename_i h2
      rw [if_pos h2] at h
      have : (0 : Int) ≤ -1 := h
      omega
    · rename_i h2
      rw [if_neg h2] at h
      split
      · rename_i h3
        rw [if_pos h3] at h
        have : (0 : Int) ≤ -1 := h
        omega
      · show p + 2 ≤ p + 4; omega
theorem wordC_ext {s : ByteArray} {a b : Nat} (hb : b ≤ s.size) (p : Int) (h0 : (a : Int) ≤ p) (h : 0 ≤ (wordC s p).1) (hr : (wordC s p).2 ≤ b) : wordC (s.extract a b) (p - a) = ((wordC s p).1, (wordC s p).2 - a) := by
  have hlt := wordC_lt h
  have e1 : p - a + 1 = (p + 1) - a := by omega
  unfold wordC at h hr hlt ⊢
  rw [bAt_ext hb p h0 (by omega)]
  split
  · rename_i h92
    rw [if_pos h92] at h hr
    have h2 := escC_two h
    rw [e1, bAt_ext hb _ (by omega) (by omega)]
    exact escC_ext hb p _ h0 h hr
  · rename_i h92
    exact plainC_ext
theorem setC_ext {s : ByteArray} {a b : Nat} (hb : b ≤ s.size) (p : Int) (h0 : (a : Int) ≤ p) (h : 0 ≤ (setC s p).1) (hr : (setC s p).2 ≤ b) : setC (s.extract a b) (p - a) = ((setC s p).1, (setC s p).2 - a) := by
  have hlt := setC_lt h
  have e1 : p - a + 1 = (p + 1) - a := by omega
  unfold setC at h hr hlt ⊢
  rw [bAt_ext hb p h0 (by omega)]
  split
  · rename_i h92
    rw [if_pos h92] at h hr
    have h2 := escC_two h
    rw [e1, bAt_ext hb _ (by omega) (by omega)]
    exact escC_ext hb p _ h0 h hr
  · rename_i h92
    exact plainC_ext
theorem wordC_39 {s : ByteArray} {j : Int} (h : bAt s j = 39) : (wordC s j).1 < 0 := by
  unfold wordC
  rw [if_neg (by omega)]
  unfold plainC
  rw [h, if_pos (by right; right; rfl)]
  show (-1 : Int) < 0
  omega
theorem setC_39 {s : ByteArray} {j : Int} (h : bAt s j = 93) : (setC s j).1 < 0 := by
  unfold setC
  rw [if_neg (by omega)]
  unfold plainC
  rw [h, if_pos (by right; right; rfl)]
  show (-1 : Int) < 0
  omega
theorem wordBs_ext {s : ByteArray} {a : Nat} {j : Nat} (hj : j < s.size) : ∀ (n : Nat) (p : Int) (m m' : Nat), wordEnd s n p = some (j : Int) → (a : Int) ≤ p → 0 ≤ p → (j : Int) < m + p → (j : Int) < m' + p → wordBs (s.extract a (j + 1)) m (p - a) = wordBs s m' p
  | 0, p, m, m', h, _, _, _, _ => by cases h
  | n + 1, p, m, m', h, ha, hp, hm, hm' => by
    have hle := (wordEnd_range s _ p j hp h).1
    unfold wordEnd at h
    split at h
    · rename_i h39
      have e : bAt (s.extract a (j + 1)) (p - a) = 39 := by rw [bAt_ext (by omega) p ha (by omega)]; exact h39
      rw [wordBs_no (wordC_39 e), wordBs_no (wordC_39 h39)]
    · split at h
      · cases h
      · rename_i h39 hc
        have hc' : 0 ≤ (wordC s p).1 := by omega
        have hlt := wordC_lt hc'
        have hle2 := (wordEnd_range s _ _ j (by omega) h).1
        have he := wordC_ext (b := j + 1) (by omega) p ha hc' (by omega)
        obtain ⟨m, rfl⟩ : ∃ x, m = x + 1 := ⟨m - 1, by omega⟩
        obtain ⟨m', rfl⟩ : ∃ x, m' = x + 1 := ⟨m' - 1, by omega⟩
        rw [wordBs_yes (by rw [he]; exact hc'), wordBs_yes hc', he]
        show _ :: wordBs _ m ((wordC s p).2 - a) = _
        rw [wordBs_ext hj n _ m m' h (by omega) (by omega) (by omega) (by omega)]
theorem member_lt {s : ByteArray} {p : Int} (h : 0 ≤ (member s p).1) : p < (member s p).2.2 := by
  have := member_good s p
  unfold GoodM at this
  omega
theorem member_ext {s : ByteArray} {a b : Nat} (hb : b ≤ s.size) (p : Int) (h0 : (a : Int) ≤ p) (h : 0 ≤ (member s p).1) (hr : (member s p).2.2 < b) : member (s.extract a b) (p - a) = ((member s p).1, (member s p).2.1, (member s p).2.2 - a) := by
  have h1 : 0 ≤ (setC s p).1 := by
    unfold member at h
    split at h
    · exact h
    · omega
  have hlt := setC_lt h1
  unfold member at h hr ⊢
  by_cases h2 : bAt s (setC s p).2 = 45
  · have hn : ¬ ((setC s p).1 < 0 ∨ bAt s (setC s p).2 ≠ 45) := by omega
    rw [if_neg hn] at h hr ⊢
    by_cases h3 : (setC s ((setC s p).2 + 1)).1 < (setC s p).1
    · rw [if_pos h3] at h
      have : (0 : Int) ≤ -1 := h
      omega
    · rw [if_neg h3] at h hr ⊢
      have hr' : (setC s ((setC s p).2 + 1)).2 < b := hr
      have hlt2 := setC_lt (s := s) (p := (setC s p).2 + 1) (by omega)
      rw [setC_ext hb p h0 h1 (by omega)]
      dsimp only
      rw [bAt_ext hb _ (by omega) (by omega), if_neg hn, show (setC s p).2 - (a : Int) + 1 = ((setC s p).2 + 1) - a by omega, setC_ext hb _ (by omega) (by omega) (by omega), if_neg h3]
  · have hn : (setC s p).1 < 0 ∨ bAt s (setC s p).2 ≠ 45 := .inr h2
    rw [if_pos hn] at h hr ⊢
    have hr' : (setC s p).2 < b := hr
    rw [setC_ext hb p h0 h1 (by omega)]
    dsimp only
    rw [bAt_ext hb _ (by omega) (by omega), if_pos hn]
theorem membs_ext {s : ByteArray} {a : Nat} {j : Nat} {f : Int} (hj : j < s.size) : ∀ (n : Nat) (p : Int) (m m' : Nat), setEnd s f n p = some (j : Int) → (a : Int) ≤ p → 0 ≤ p → (j : Int) < m + p → (j : Int) < m' + p → membs (s.extract a (j + 1)) m (p - a) = membs s m' p
  | 0, p, m, m', h, _, _, _, _ => by cases h
  | n + 1, p, m, m', h, ha, hp, hm, hm' => by
    have hle := (setEnd_range s f _ p j hp h).1
    unfold setEnd at h
    split at h
    · rename_i h93
      have e : bAt (s.extract a (j + 1)) (p - a) = 93 := by rw [bAt_ext (by omega) p ha (by omega)]; exact h93.2
      have m1 : ∀ {x : ByteArray} {q : Int}, bAt x q = 93 → (member x q).1 < 0 := fun hq => by
        unfold member
        rw [if_pos (.inl (setC_39 hq))]
        exact setC_39 hq
      rw [membs_no (m1 e), membs_no (m1 h93.2)]
    · split at h
      · cases h
      · rename_i h93 hc
        have hc' : 0 ≤ (member s p).1 := by omega
        have hlt := member_lt hc'
        have hle2 := (setEnd_range s f _ _ j (by omega) h).1
        have he := member_ext (b := j + 1) (by omega) p ha hc' (by omega)
        obtain ⟨m, rfl⟩ : ∃ x, m = x + 1 := ⟨m - 1, by omega⟩
        obtain ⟨m', rfl⟩ : ∃ x, m' = x + 1 := ⟨m' - 1, by omega⟩
        rw [membs_yes (by rw [he]; exact hc'), membs_yes hc', he]
        show _ :: membs _ m ((member s p).2.2 - a) = _
        rw [membs_ext hj n _ m m' h (by omega) (by omega) (by omega) (by omega)]
/-- the bytes of the set that begins at i -/
def SetF (s : ByteArray) (i : Nat) (c : Nat) : Bool := if bAt s (i + 1) = 94 then !isIn (membs s (s.size + 1) (setFrom s i)) c else isIn (membs s (s.size + 1) (setFrom s i)) c
theorem word_bytes_of (s : ByteArray) (i : Nat) (j : Nat) (n : Nat) (hj : j < s.size) (h : wordEnd s n (i + 1) = some (j : Int)) : (⟨4, i, j + 1⟩ : Tk).bytes s = ⟨(wordBs s (s.size + 1) (i + 1)).toArray⟩ := by
  have hle := (wordEnd_range s _ _ _ (by omega) h).1
  rw [bytes_4 rfl]
  have e : (⟨4, i, j + 1⟩ : Tk).of s = s.extract i (j + 1) := by
    unfold Tk.of
    congr 1
  rw [e, ext_size (by omega), ← wordBs_ext (a := i) hj n (i + 1) (j + 1 - i + 1) (s.size + 1) h (by omega) (by omega) (by omega) (by omega), show (i : Int) + 1 - i = 1 by omega]
theorem bytesOf_congr {f g : Nat → Bool} {b c : Bool} (h : ∀ x, x < 256 → (f x == b) = (g x == c)) : bytesOf f b = bytesOf g c := by
  unfold bytesOf
  congr 1
  exact List.filter_congr fun x hx => h x (List.mem_range.1 hx)
theorem set_bytes_of (s : ByteArray) (i : Nat) (j : Nat) (n : Nat) (f : Nat → Bool) (hj : j < s.size) (h : setEnd s (setFrom s i) n (setFrom s i) = some (j : Int)) (hf : ∀ c, c < 256 → f c = SetF s i c) : (⟨5, i, j + 1⟩ : Tk).bytes s = ⟨(bytesOf f true).toArray⟩ := by
  have hfr : (i : Int) + 1 ≤ setFrom s i := by unfold setFrom; split <;> omega
  have hle := (setEnd_range s _ _ _ _ (by omega) h).1
  rw [bytes_5 rfl]
  have e : (⟨5, i, j + 1⟩ : Tk).of s = s.extract i (j + 1) := by
    unfold Tk.of
    congr 1
  have hm := membs_ext (a := i) hj n (setFrom s i) (j + 1 - i + 1) (s.size + 1) h (by omega) (by omega) (by omega) (by omega)
  rw [e]
  congr 1
  congr 1
  unfold setBs
  have e1 : bAt (s.extract i (j + 1)) 1 = bAt s (i + 1) := by
    have := bAt_ext (s := s) (a := i) (b := j + 1) (by omega) ((i : Int) + 1) (by omega) (by omega)
    rwa [show (i : Int) + 1 - i = 1 by omega] at this
  rw [e1, ext_size (by omega)]
  by_cases h94 : bAt s (i + 1) = 94
  · have hs2 : setFrom s i = i + 2 := by unfold setFrom; rw [if_pos h94]
    rw [if_pos h94]
    rw [hs2, show (i : Int) + 2 - i = 2 by omega] at hm
    rw [hm]
    refine bytesOf_congr fun x hx => ?_
    rw [hf x hx]
    unfold SetF
    rw [if_pos h94, hs2]
    cases isIn (membs s (s.size + 1) ((i : Int) + 2)) x <;> rfl
  · have hs2 : setFrom s i = i + 1 := by unfold setFrom; rw [if_neg h94]
    rw [if_neg h94]
    rw [hs2, show (i : Int) + 1 - i = 1 by omega] at hm
    rw [hm]
    refine bytesOf_congr fun x hx => ?_
    rw [hf x hx]
    unfold SetF
    rw [if_neg h94, hs2]
theorem dot_bytes (s : ByteArray) (t : Tk) (h : t.k = 12) : t.bytes s = ⟨(bytesOf (fun _ => true) true).toArray⟩ := by
  rw [bytes_12 h]
  congr 1
end Go.Proofs.Ytbojcemamhiodaa

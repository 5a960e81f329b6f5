import Derived.Test.YtdofpbbahamkkabPure
import Derived.Test.YtdofpbbahamkkabParse
import Derived.Test.YtdofpbbahamkkabComp
namespace Go.Proofs.Ytdofpbbahamkkab

/-- bytes by a list -/
def bl (l : List UInt8) : ByteArray := ⟨l.toArray⟩
theorem bl_size (l : List UInt8) : (bl l).size = l.length := by simp [bl, ByteArray.size]
theorem bAt_bl (l : List UInt8) (i : Nat) : bAt (bl l) i = match l[i]? with | some b => (b.toNat : Int) | none => -1 := by
  unfold bAt
  by_cases h : i < l.length
  · rw [dif_pos (by rw [bl_size]; omega), List.getElem?_eq_getElem h]
    simp [bl]
    rfl
  · rw [dif_neg (by rw [bl_size]; omega), List.getElem?_eq_none (by omega)]
theorem bAt_cons (c : UInt8) (l : List UInt8) : bAt (bl (c :: l)) 0 = c.toNat := by
  have := bAt_bl (c :: l) 0
  simpa using this
theorem bAt_nil (i : Nat) : bAt (bl []) i = -1 := by
  have := bAt_bl [] i
  simpa using this
/-- what stands behind A is what stands there -/
theorem bAt_shift (A B : List UInt8) (j : Int) (hj : 0 ≤ j) : bAt (bl (A ++ B)) (A.length + j) = bAt (bl B) j := by
  obtain ⟨n, rfl⟩ : ∃ n : Nat, j = n := ⟨j.toNat, by omega⟩
  have h1 := bAt_bl (A ++ B) (A.length + n)
  have h2 := bAt_bl B n
  rw [List.getElem?_append_right (by omega)] at h1
  rw [show A.length + n - A.length = n from by omega] at h1
  rw [h2, ← h1]
  congr 1

section
variable {A B : List UInt8}
def sh (A : List UInt8) (p : Int × Int) : Int × Int := (p.1, A.length + p.2)
theorem skipN_shift : ∀ (n : Nat) (j : Int), 0 ≤ j → skipN (bl (A ++ B)) n (A.length + j) = A.length + skipN (bl B) n j
  | 0, _, _ => rfl
  | n + 1, j, hj => by
    unfold skipN
    rw [bAt_shift A B j hj]
    split
    · rw [show (A.length : Int) + j + 1 = A.length + (j + 1) from by omega]
      exact skipN_shift n (j + 1) (by omega)
    · rfl
theorem digit_shift (j : Int) (hj : 0 ≤ j) : digit (bl (A ++ B)) (A.length + j) = digit (bl B) j := by unfold digit; rw [bAt_shift A B j hj]
theorem plainC_shift (c j : Int) (m : Bool) : plainC c (A.length + j) m = sh A (plainC c j m) := by
  unfold plainC sh
  split
  · rfl
  · show (c, _) = (c, _); congr 1; omega
theorem escC_shift (j : Int) (hj : 0 ≤ j) (m : Bool) : escC (bl (A ++ B)) (A.length + j) m = sh A (escC (bl B) j m) := by
  unfold escC
  rw [show (A.length : Int) + j + 1 = A.length + (j + 1) from by omega, show (A.length : Int) + j + 2 = A.length + (j + 2) from by omega, show (A.length : Int) + j + 3 = A.length + (j + 3) from by omega, show (A.length : Int) + j + 4 = A.length + (j + 4) from by omega]
  rw [bAt_shift A B _ (by omega), digit_shift _ (by omega), digit_shift _ (by omega)]
  unfold sh
  repeat' split
  all_goals rfl
theorem wordC_shift (j : Int) (hj : 0 ≤ j) : wordC (bl (A ++ B)) (A.length + j) = sh A (wordC (bl B) j) := by
  unfold wordC
  rw [bAt_shift A B j hj, show (A.length : Int) + j + 1 = A.length + (j + 1) from by omega, bAt_shift A B _ (by omega)]
  split
  · exact escC_shift j hj _
  · exact plainC_shift _ _ _
theorem setC_shift (j : Int) (hj : 0 ≤ j) : setC (bl (A ++ B)) (A.length + j) = sh A (setC (bl B) j) := by
  unfold setC
  rw [bAt_shift A B j hj, show (A.length : Int) + j + 1 = A.length + (j + 1) from by omega, bAt_shift A B _ (by omega)]
  split
  · exact escC_shift j hj _
  · exact plainC_shift _ _ _
theorem wordC_ge (s : ByteArray) (j : Int) (hj : 0 ≤ j) : 0 ≤ (wordC s j).2 := by
  have := wordC_good s j
  unfold GoodC at this
  omega
theorem setC_ge (s : ByteArray) (j : Int) (hj : 0 ≤ j) : 0 ≤ (setC s j).2 := by
  have := setC_good s j
  unfold GoodC at this
  omega
theorem wordEnd_shift : ∀ (n : Nat) (j : Int), 0 ≤ j → wordEnd (bl (A ++ B)) n (A.length + j) = (wordEnd (bl B) n j).map (fun k : Int => (A.length : Int) + k)
  | 0, _, _ => rfl
  | n + 1, j, hj => by
    unfold wordEnd
    have s1 : (wordC (bl (A ++ B)) (A.length + j)).1 = (wordC (bl B) j).1 := by rw [wordC_shift j hj]; rfl
    have s2 : (wordC (bl (A ++ B)) (A.length + j)).2 = A.length + (wordC (bl B) j).2 := by rw [wordC_shift j hj]; rfl
    simp only [bAt_shift A B j hj, s1, s2]
    by_cases h0 : bAt (bl B) j = 39
    · rw [if_pos h0, if_pos h0]; rfl
    · rw [if_neg h0, if_neg h0]
      by_cases hc : (wordC (bl B) j).1 < 0
      · rw [if_pos hc, if_pos hc]; rfl
      · rw [if_neg hc, if_neg hc]
        exact wordEnd_shift n _ (wordC_ge _ j hj)
theorem member_shift (j : Int) (hj : 0 ≤ j) : member (bl (A ++ B)) (A.length + j) = ((member (bl B) j).1, (member (bl B) j).2.1, A.length + (member (bl B) j).2.2) := by
  have h1 := setC_ge (bl B) j hj
  have s1 : (setC (bl (A ++ B)) (A.length + j)).1 = (setC (bl B) j).1 := by rw [setC_shift j hj]; rfl
  have s2 : (setC (bl (A ++ B)) (A.length + j)).2 = A.length + (setC (bl B) j).2 := by rw [setC_shift j hj]; rfl
  have e0 : (A.length : Int) + (setC (bl B) j).2 + 1 = A.length + ((setC (bl B) j).2 + 1) := by omega
  have s3 : (setC (bl (A ++ B)) (A.length + ((setC (bl B) j).2 + 1))).1 = (setC (bl B) ((setC (bl B) j).2 + 1)).1 := by rw [setC_shift _ (by omega)]; rfl
  have s4 : (setC (bl (A ++ B)) (A.length + ((setC (bl B) j).2 + 1))).2 = A.length + (setC (bl B) ((setC (bl B) j).2 + 1)).2 := by rw [setC_shift _ (by omega)]; rfl
  unfold member
  simp only [s1, s2, e0, s3, s4, bAt_shift A B _ h1]
  repeat' split
  all_goals rfl
theorem setEnd_shift (f : Int) : ∀ (n : Nat) (j : Int), 0 ≤ j → setEnd (bl (A ++ B)) (A.length + f) n (A.length + j) = (setEnd (bl B) f n j).map (fun k : Int => (A.length : Int) + k)
  | 0, _, _ => rfl
  | n + 1, j, hj => by
    have hm := member_good (bl B) j
    unfold GoodM at hm
    unfold setEnd
    rw [bAt_shift A B j hj, member_shift j hj]
    have e : ((A.length : Int) + j ≠ A.length + f ∧ bAt (bl B) j = 93) ↔ (j ≠ f ∧ bAt (bl B) j = 93) := by omega
    simp only [e]
    by_cases h1 : j ≠ f ∧ bAt (bl B) j = 93
    · rw [if_pos h1, if_pos h1]; rfl
    · rw [if_neg h1, if_neg h1]
      by_cases h2 : (member (bl B) j).1 < 0
      · rw [if_pos h2, if_pos h2]; rfl
      · rw [if_neg h2, if_neg h2]
        exact setEnd_shift f n _ (by omega)
theorem nameEnd_shift : ∀ (n : Nat) (j : Int), 0 ≤ j → nameEnd (bl (A ++ B)) n (A.length + j) = A.length + nameEnd (bl B) n j
  | 0, _, _ => rfl
  | n + 1, j, hj => by
    unfold nameEnd
    rw [bAt_shift A B j hj]
    split
    · rw [show (A.length : Int) + j + 1 = A.length + (j + 1) from by omega]
      exact nameEnd_shift n (j + 1) (by omega)
    · rfl
theorem size_app : (bl (A ++ B)).size = A.length + (bl B).size := by simp [bl_size]
theorem readT_shift (j : Int) (hj : 0 ≤ j) : readT (bl (A ++ B)) (A.length + j) = sh A (readT (bl B) j) := by
  have ef : (bl (A ++ B)).size + 1 - ((A.length : Int) + j).toNat = (bl B).size + 1 - j.toNat := by rw [size_app]; omega
  have ef2 : (bl (A ++ B)).size + 2 - ((A.length : Int) + j).toNat = (bl B).size + 2 - j.toNat := by rw [size_app]; omega
  have e1 : (A.length : Int) + j + 1 = A.length + (j + 1) := by omega
  have e2 : (A.length : Int) + j + 2 = A.length + (j + 2) := by omega
  unfold readT
  rw [bAt_shift A B j hj]
  split
  · unfold readNm
    rw [ef, nameEnd_shift _ j hj]
    rw [show (A.length : Int) + nameEnd (bl B) ((bl B).size + 1 - j.toNat) j - (A.length + j) = nameEnd (bl B) ((bl B).size + 1 - j.toNat) j - j from by omega]
    unfold sh
    split <;> rfl
  · split
    · unfold readAr
      rw [e1, e2, bAt_shift A B _ (by omega)]
      unfold sh
      split <;> rfl
    · split
      · unfold readWd
        rw [ef, e1, wordEnd_shift _ _ (by omega)]
        unfold sh
        cases wordEnd (bl B) ((bl B).size + 1 - j.toNat) (j + 1) with
        | none => rfl
        | some k => simp; omega
      · split
        · unfold readSt
          have hsf : setFrom (bl (A ++ B)) (A.length + j) = A.length + setFrom (bl B) j := by
            unfold setFrom
            rw [e1, e2, bAt_shift A B _ (by omega)]
            split <;> rfl
          have h0 : 0 ≤ setFrom (bl B) j := by unfold setFrom; split <;> omega
          rw [ef2, hsf, setEnd_shift _ _ _ h0]
          unfold sh
          cases setEnd (bl B) (setFrom (bl B) j) ((bl B).size + 2 - j.toNat) (setFrom (bl B) j) with
          | none => rfl
          | some k => simp; omega
        · unfold sh
          split
          · rfl
          · simp; omega
def shT (A : List UInt8) (t : Tk) : Tk := ⟨t.k, A.length + t.from_, A.length + t.to⟩
theorem nextT_shift (A B : List UInt8) (j : Int) (hj : 0 ≤ j) : nextT (bl (A ++ B)) (A.length + j) = shT A (nextT (bl B) j) := by
  have hs : skip (bl (A ++ B)) (A.length + j) = A.length + skip (bl B) j := by
    unfold skip
    rw [show (bl (A ++ B)).size + 1 - ((A.length : Int) + j).toNat = (bl B).size + 1 - j.toNat from by rw [size_app]; omega]
    exact skipN_shift _ j hj
  have hge : 0 ≤ skip (bl B) j := by
    have : ∀ (n : Nat) (i : Int), i ≤ skipN (bl B) n i := by
      intro n
      induction n with
      | zero => exact fun i => Int.le_refl _
      | succ n ih =>
        intro i
        unfold skipN
        split
        · have := ih (i + 1); omega
        · exact Int.le_refl _
    have := this ((bl B).size + 1 - j.toNat) j
    unfold skip
    omega
  unfold nextT
  rw [hs, size_app, readT_shift _ hge]
  unfold shT sh
  have e : ((A.length : Int) + skip (bl B) j ≥ ((A.length + (bl B).size : Nat) : Int)) ↔ (skip (bl B) j ≥ ((bl B).size : Int)) := by omega
  simp only [e]
  split
  · simp
  · rfl
end

/-- a byte that stands for itself in a word -/
def isPlain (c : UInt8) : Bool := decide (32 ≤ c.toNat) && decide (c.toNat ≤ 126) && c.toNat != 39 && c.toNat != 92
theorem wordC_plain {c : UInt8} {l : List UInt8} (h : isPlain c = true) : wordC (bl (c :: l)) 0 = ((c.toNat : Int), 1) := by
  simp [isPlain] at h
  unfold wordC
  rw [bAt_cons, if_neg (by omega)]
  unfold plainC isWM
  rw [if_neg (by simp; omega)]
  rfl
theorem wordC_end {c : UInt8} {l : List UInt8} (h : c.toNat = 39) : wordC (bl (c :: l)) 0 = (-1, 0) := by
  unfold wordC
  rw [bAt_cons, if_neg (by omega)]
  unfold plainC isWM
  rw [if_pos (by simp; omega)]
theorem app_one (c : UInt8) (l : List UInt8) : c :: l = [c] ++ l := rfl
/-- the quote that ends a word -/
theorem wordEnd_word (u rest : List UInt8) (hu : u.all isPlain = true) : ∀ n, u.length < n → wordEnd (bl (u ++ 39 :: rest)) n 0 = some (u.length : Int) := by
  induction u with
  | nil =>
    intro n hn
    obtain ⟨m, rfl⟩ : ∃ m, n = m + 1 := ⟨n - 1, by simp at hn; omega⟩
    unfold wordEnd
    rw [List.nil_append, bAt_cons, if_pos (by rfl)]
    rfl
  | cons c u ih =>
    intro n hn
    simp at hu
    obtain ⟨m, rfl⟩ : ∃ m, n = m + 1 := ⟨n - 1, by simp at hn; omega⟩
    have hc := hu.1
    have h39 : ¬ (c.toNat : Int) = 39 := by simp [isPlain] at hc; omega
    unfold wordEnd
    rw [List.cons_append, bAt_cons, if_neg h39, wordC_plain hc, if_neg (by show ¬ (c.toNat : Int) < 0; omega)]
    have h1 := wordEnd_shift (A := [c]) (B := u ++ 39 :: rest) m 0 (by omega)
    rw [ih (by simpa using hu.2) m (by simp at hn; omega)] at h1
    show wordEnd (bl ([c] ++ (u ++ 39 :: rest))) m 1 = _
    have e : ((([c] : List UInt8).length : Int) + 0) = 1 := rfl
    rw [e] at h1
    rw [h1]
    simp
    omega
theorem wordBs_word (u rest : List UInt8) (hu : u.all isPlain = true) (A : List UInt8) : ∀ n, u.length ≤ n → wordBs (bl (A ++ (u ++ 39 :: rest))) n A.length = u := by
  induction u generalizing A with
  | nil =>
    intro n _
    cases n with
    | zero => rfl
    | succ n =>
      have h := wordC_shift (A := A) (B := 39 :: rest) 0 (by omega)
      rw [wordC_end rfl, Int.add_zero] at h
      unfold wordBs
      rw [List.nil_append, h, if_pos (by show (-1 : Int) < 0; omega)]
  | cons c u ih =>
    intro n hn
    simp at hu
    obtain ⟨m, rfl⟩ : ∃ m, n = m + 1 := ⟨n - 1, by simp at hn; omega⟩
    have h := wordC_shift (A := A) (B := c :: (u ++ 39 :: rest)) 0 (by omega)
    rw [wordC_plain hu.1, Int.add_zero] at h
    unfold wordBs
    rw [List.cons_append, h, if_neg (by show ¬ (c.toNat : Int) < 0; omega)]
    simp only [sh]
    have h2 := ih (by simpa using hu.2) (A ++ [c]) m (by simp at hn; omega)
    rw [List.append_assoc, List.singleton_append] at h2
    rw [show ((A ++ [c]).length : Int) = (A.length : Int) + 1 from by simp] at h2
    rw [h2]
    congr 1
    rw [Int.toNat_natCast, UInt8.ofNat_toNat]

theorem skip_zero (c : UInt8) (l : List UInt8) (h : isBlank c.toNat = false) : skip (bl (c :: l)) 0 = 0 := by
  unfold skip
  rw [bl_size]
  show skipN (bl (c :: l)) (l.length + 1 + 1 - 0) 0 = 0
  rw [show l.length + 1 + 1 - 0 = (l.length + 1) + 1 from rfl, skipN, bAt_cons, if_neg (by simp [h])]
/-- a word at the head -/
theorem nextT_word (u rest : List UInt8) (hu : u.all isPlain = true) : nextT (bl (39 :: (u ++ 39 :: rest))) 0 = ⟨4, 0, u.length + 2⟩ := by
  have hs : skip (bl (39 :: (u ++ 39 :: rest))) 0 = 0 := skip_zero _ _ rfl
  have hr : readT (bl (39 :: (u ++ 39 :: rest))) 0 = (4, (u.length : Int) + 2) := by
    unfold readT
    rw [bAt_cons, if_neg (by decide), if_neg (by decide), if_pos (by rfl)]
    unfold readWd
    have h1 := wordEnd_shift (A := [39]) (B := u ++ 39 :: rest) ((bl (39 :: (u ++ 39 :: rest))).size + 1 - (0 : Int).toNat) 0 (by omega)
    rw [wordEnd_word u rest hu _ (by rw [bl_size]; simp; omega)] at h1
    have e : ((([39] : List UInt8).length : Int) + 0) = 0 + 1 := rfl
    rw [e] at h1
    rw [show (39 : UInt8) :: (u ++ 39 :: rest) = [39] ++ (u ++ 39 :: rest) from rfl]
    rw [show (39 : UInt8) :: (u ++ 39 :: rest) = [39] ++ (u ++ 39 :: rest) from rfl] at h1
    rw [h1]
    simp
    omega
  unfold nextT
  rw [hs, if_neg (by rw [bl_size]; simp; omega), hr]
/-- a blank ahead -/
theorem nextT_blank (c : UInt8) (l : List UInt8) (h : isBlank c.toNat = true) : nextT (bl (c :: l)) 0 = shT [c] (nextT (bl l) 0) := by
  have h1 : skip (bl (c :: l)) 0 = skip (bl (c :: l)) 1 := by
    unfold skip
    rw [bl_size]
    show skipN (bl (c :: l)) (l.length + 1 + 1 - 0) 0 = skipN (bl (c :: l)) (l.length + 1 + 1 - 1) 1
    rw [show l.length + 1 + 1 - 0 = (l.length + 1) + 1 from rfl, show l.length + 1 + 1 - 1 = l.length + 1 from rfl]
    rw [skipN, bAt_cons, if_pos h]
    rfl
  have h2 := nextT_shift [c] l 0 (by omega)
  have e : ((([c] : List UInt8).length : Int) + 0) = 1 := rfl
  rw [e] at h2
  rw [← h2]
  show nextT (bl (c :: l)) 0 = nextT (bl (c :: l)) 1
  unfold nextT
  rw [h1]
theorem nextT_head (c : UInt8) (l : List UInt8) (k j : Int) (hb : isBlank c.toNat = false) (hr : readT (bl (c :: l)) 0 = (k, j)) : nextT (bl (c :: l)) 0 = ⟨k, 0, j⟩ := by
  unfold nextT
  rw [skip_zero c l hb, if_neg (by rw [bl_size, List.length_cons]; omega), hr]
/-- a sign at the head -/
theorem nextT_sign (c : UInt8) (l : List UInt8) (k : Int) (h0 : (c.toNat : Int) < 97 ∨ 122 < (c.toNat : Int)) (h1 : (c.toNat : Int) ≠ 60) (h2 : (c.toNat : Int) ≠ 39) (h3 : (c.toNat : Int) ≠ 91) (hk : signK c.toNat = k) (h : k ≠ 0) : nextT (bl (c :: l)) 0 = ⟨k, 0, 1⟩ := by
  refine nextT_head c l k 1 ?_ ?_
  · cases hb : isBlank (c.toNat : Int) with
    | false => rfl
    | true =>
      simp [isBlank] at hb
      rcases hb with hb | hb <;> (rw [hb] at hk; simp [signK] at hk; omega)
  · unfold readT
    rw [bAt_cons, if_neg (by omega), if_neg h1, if_neg h2, if_neg h3, hk, if_neg h]
    rfl
theorem nextT_arrow (l : List UInt8) : nextT (bl (60 :: 45 :: l)) 0 = ⟨3, 0, 2⟩ := by
  refine nextT_head 60 _ 3 2 rfl ?_
  unfold readT
  rw [bAt_cons, if_neg (by decide), if_pos (by rfl)]
  unfold readAr
  have h := bAt_shift [60] (45 :: l) 0 (by omega)
  rw [bAt_cons] at h
  rw [show ((([60] : List UInt8).length : Int) + 0) = 0 + 1 from rfl] at h
  rw [show (60 : UInt8) :: 45 :: l = [60] ++ (45 :: l) from rfl, h, if_pos (by rfl)]
  rfl
/-- a name of one letter -/
theorem nextT_letter (c d : UInt8) (l : List UInt8) (h : (97 : Int) ≤ c.toNat) (h' : (c.toNat : Int) ≤ 122) (hd : isNameC d.toNat = false) : nextT (bl (c :: d :: l)) 0 = ⟨2, 0, 1⟩ := by
  refine nextT_head c _ 2 1 ?_ ?_
  · simp [isBlank]; omega
  · unfold readT
    rw [bAt_cons, if_pos ⟨h, h'⟩]
    have hn : nameEnd (bl (c :: d :: l)) ((bl (c :: d :: l)).size + 1 - (0 : Int).toNat) 0 = 1 := by
      rw [bl_size]
      show nameEnd _ (l.length + 1 + 1 + 1) 0 = 1
      rw [nameEnd, bAt_cons, if_pos (by simp [isNameC]; omega)]
      have h2 := bAt_shift [c] (d :: l) 0 (by omega)
      rw [bAt_cons] at h2
      rw [show ((([c] : List UInt8).length : Int) + 0) = 0 + 1 from rfl] at h2
      rw [show c :: d :: l = [c] ++ (d :: l) from rfl, nameEnd, h2, if_neg (by simp [hd])]
      rfl
    unfold readNm
    rw [hn]
    rfl
theorem nextT_end : nextT (bl []) 0 = ⟨1, 0, 0⟩ := by rfl
end Go.Proofs.Ytdofpbbahamkkab
namespace Go.Proofs.Ytdofpbbahamkkab

section
variable {s : ByteArray} {E : Tk → Int → Res} {t t1 t2 : Tk} {d : Int} {n : Nd} {acc : List Nd} {k : Nat}

def isSign (t : Tk) : Bool := t.k == 9 || t.k == 10 || t.k == 11
theorem item_single (h7 : t.k ≠ 7) (h8 : t.k ≠ 8) : itemF s E (k + 1) t d = signedF s (singleF s E t d) := by
  rw [itemF, if_neg (by omega)]
  rfl
theorem signed_no (h : isSign t = false) : signedF s ⟨0, n, t, d⟩ = ⟨0, n, t, d⟩ := by
  unfold signedF
  rw [if_neg (by simp), signsF_no h]
theorem signed_one (h : isSign t = true) (h1 : isSign (nextT s t.to) = false) : signedF s ⟨0, n, t, d⟩ = ⟨0, ⟨repK t.k, t.from_, ByteArray.empty, [n]⟩, nextT s t.to, d⟩ := by
  unfold signedF
  rw [if_neg (by simp), signsF_yes h, signsF_no h1]
theorem single_leaf (h3 : t.k ≠ 13) (h5 : t.k ≠ 15) : singleF s E t d = ⟨0, leafF s t, nextT s t.to, d⟩ := by
  unfold singleF
  rw [if_neg h3, if_neg h5]
theorem single_brackets (h : t.k = 13) (hd : d < 12) (hE : E (nextT s t.to) (d + 1) = ⟨0, n, t2, d + 1⟩) (h2 : t2.k = 14) : singleF s E t d = ⟨0, n, nextT s t2.to, d⟩ := by
  unfold singleF bracketsF
  rw [if_pos h, if_neg (by omega), hE]
  unfold withinF
  rw [if_neg (by simp), if_neg (by simp [h2])]
  simp
theorem single_place (h : t.k = 15) (hd : d < 12) (h1 : (nextT s t.to).k = 16) : singleF s E t d = ⟨0, nd0 3 [], nextT s (nextT s t.to).to, d⟩ := by
  unfold singleF
  rw [if_neg (by omega), if_pos h]
  unfold catchF
  rw [if_neg (by omega), if_pos h1]
theorem single_part (h : t.k = 15) (hd : d < 12) (h1 : (nextT s t.to).k ≠ 16) (hE : E (namedT s (nextT s t.to)) (d + 1) = ⟨0, n, t2, d + 1⟩) (h2 : t2.k = 16) : singleF s E t d = ⟨0, ⟨4, 0, namedN s (nextT s t.to), [n]⟩, nextT s t2.to, d⟩ := by
  unfold singleF
  rw [if_neg (by omega), if_pos h]
  unfold catchF
  rw [if_neg (by omega), if_neg h1, hE]
  unfold withinF
  rw [if_neg (by simp), if_neg (by simp [h2])]
  unfold partF
  rw [if_neg (by simp)]
  simp
theorem item_look (h : t.k = 7 ∨ t.k = 8) (ha : atIt s (nextT s t.to) = true) (hi : itemF s E k (nextT s t.to) d = ⟨0, n, t2, d⟩) : itemF s E (k + 1) t d = ⟨0, nd0 t.k [n], t2, d⟩ := by
  rw [itemF, if_pos h, if_pos ha, hi]
  unfold lookF
  rw [if_neg (by simp)]
theorem row_step (ha : atIt s t = true) (hi : itemF s E (s.size + 1) t d = ⟨0, n, t1, d⟩) : rowF s E (k + 1) acc t d = rowF s E k (acc ++ [n]) t1 d := rowF_yes ha hi rfl
theorem row_end (ha : atIt s t = false) : rowF s E (k + 1) acc t d = ⟨0, joinF 5 acc, t, d⟩ := rowF_no ha
theorem rows_step (h : t.k = 6) (hr : rowF s E (s.size + 1) [] (nextT s t.to) d = ⟨0, n, t1, d⟩) : rowsF s E (k + 1) acc t d = rowsF s E k (acc ++ [n]) t1 d := rowsF_yes h hr rfl
theorem rows_end (h : t.k ≠ 6) : rowsF s E (k + 1) acc t d = ⟨0, joinF 6 acc, t, d⟩ := rowsF_no h
theorem expr_rows {m : Nat} (hr : rowF s (exprN s m) (s.size + 1) [] t d = ⟨0, n, t1, d⟩) : exprN s (m + 1) t d = rowsF s (exprN s m) (s.size + 1) [n] t1 d := exprF_ok hr rfl
theorem rule_ok {T1 T2 : Tk} (h : t.k = 2) (h1 : nextT s t.to = T1) (hk : T1.k = 3) (h2 : nextT s T1.to = T2) (hE : exprN s 13 T2 0 = ⟨0, n, t2, 0⟩) : ruleF s t = ⟨0, ⟨t.of s, t.from_, n, false, 0⟩, t2, 0⟩ := by
  unfold ruleF
  rw [if_neg (by omega), h1, if_neg (by omega), h2, hE]
  unfold ruleEnd
  rw [if_neg (by simp)]
theorem parse_step {acc : List Rl} {r : Rl} (h : t.k = 2) (hr : ruleF s t = ⟨0, r, t1, 0⟩) : parseL s (k + 1) acc t = parseL s k (acc ++ [r]) t1 := parseL_ok (by omega) hr rfl
theorem parse_end {acc : List Rl} (h : t.k = 1) : parseL s (k + 1) acc t = ⟨0, acc, 0⟩ := parseL_end h
theorem parse_text (hs : s.size ≤ 400) : parseF s = parseL s (s.size + 2) [] (nextT s 0) := if_neg (by omega)
theorem atIt_word (h : t.k = 4) : atIt s t = true := by simp [atIt, h]
theorem atIt_set (h : t.k = 5) : atIt s t = true := by simp [atIt, h]
theorem atIt_dot (h : t.k = 12) : atIt s t = true := by simp [atIt, h]
theorem atIt_open (h : t.k = 13) : atIt s t = true := by simp [atIt, h]
theorem atIt_brace (h : t.k = 15) : atIt s t = true := by simp [atIt, h]
theorem atIt_look (h : t.k = 7 ∨ t.k = 8) : atIt s t = true := by rcases h with h | h <;> simp [atIt, h]
theorem atIt_name (h : t.k = 2) (h1 : (nextT s t.to).k ≠ 3) : atIt s t = true := by simp [atIt, nmBefore, h, h1]
theorem atIt_rule (h : t.k = 2) (h1 : (nextT s t.to).k = 3) : atIt s t = false := by simp [atIt, nmBefore, h, h1]
theorem atIt_no (h : t.k = 1 ∨ t.k = 6 ∨ t.k = 14 ∨ t.k = 16) : atIt s t = false := by rcases h with h | h | h | h <;> simp [atIt, h]
theorem sign_no (h : t.k = 1 ∨ t.k = 2 ∨ t.k = 4 ∨ t.k = 5 ∨ t.k = 6 ∨ t.k = 7 ∨ t.k = 8 ∨ t.k = 12 ∨ t.k = 13 ∨ t.k = 14 ∨ t.k = 15 ∨ t.k = 16) : isSign t = false := by
  unfold isSign
  simp
  omega
/-- a word, or another leaf, with no sign behind it -/
theorem item_leaf (h : t.k = 2 ∨ t.k = 4 ∨ t.k = 5 ∨ t.k = 12) (h1 : isSign (nextT s t.to) = false) : itemF s E (k + 1) t d = ⟨0, leafF s t, nextT s t.to, d⟩ := by
  rw [item_single (by omega) (by omega), single_leaf (by omega) (by omega), signed_no h1]
theorem leaf_word (h : t.k = 4) : leafF s t = ⟨0, 0, t.bytes s, []⟩ := by
  unfold leafF
  rw [if_neg (by omega), if_pos h]
theorem leaf_set (h : t.k = 5 ∨ t.k = 12) : leafF s t = ⟨1, 0, t.bytes s, []⟩ := by
  unfold leafF
  rw [if_neg (by omega), if_neg (by omega)]
theorem leaf_name (h : t.k = 2) : leafF s t = ⟨2, t.from_, t.of s, []⟩ := by
  unfold leafF
  rw [if_pos h]
end

theorem join_one5 (n : Nd) (h : n.kind ≠ 5) : joinF 5 [n] = n := by simp [joinF, flatL, h, joinL]
theorem join_one6 (n : Nd) (h : n.kind ≠ 6) : joinF 6 [n] = n := by simp [joinF, flatL, h, joinL]
theorem join_two5 (n m : Nd) (h : n.kind ≠ 5) (h' : m.kind ≠ 5) : joinF 5 [n, m] = nd0 5 [n, m] := by simp [joinF, flatL, h, h', joinL]
theorem join_two6 (n m : Nd) (h : n.kind ≠ 6) (h' : m.kind ≠ 6) : joinF 6 [n, m] = nd0 6 [n, m] := by simp [joinF, flatL, h, h', joinL]

/-- a row of one item -/
theorem row_one {s : ByteArray} {E : Tk → Int → Res} {t t1 : Tk} {d : Int} {n : Nd} {m : Nat} (hs : s.size = m + 1) (ha : atIt s t = true) (hi : itemF s E (s.size + 1) t d = ⟨0, n, t1, d⟩) (h2 : atIt s t1 = false) (h5 : n.kind ≠ 5) : rowF s E (s.size + 1) [] t d = ⟨0, n, t1, d⟩ := by
  rw [row_step ha hi, hs, row_end h2, List.nil_append, join_one5 _ h5]
theorem row_two {s : ByteArray} {E : Tk → Int → Res} {t t1 t2 : Tk} {d : Int} {n n2 : Nd} {m : Nat} (hs : s.size = m + 2) (ha : atIt s t = true) (hi : itemF s E (s.size + 1) t d = ⟨0, n, t1, d⟩) (ha2 : atIt s t1 = true) (hi2 : itemF s E (s.size + 1) t1 d = ⟨0, n2, t2, d⟩) (h2 : atIt s t2 = false) (h5 : n.kind ≠ 5) (h5' : n2.kind ≠ 5) :
    rowF s E (s.size + 1) [] t d = ⟨0, nd0 5 [n, n2], t2, d⟩ := by
  rw [row_step ha hi, hs, row_step ha2 hi2, row_end h2, List.nil_append, List.singleton_append, join_two5 _ _ h5 h5']
/-- an expression of one row -/
theorem expr_one {s : ByteArray} {t t1 : Tk} {d : Int} {n : Nd} {m : Nat} (hr : rowF s (exprN s m) (s.size + 1) [] t d = ⟨0, n, t1, d⟩) (h : t1.k ≠ 6) (h6 : n.kind ≠ 6) : exprN s (m + 1) t d = ⟨0, n, t1, d⟩ := by
  rw [expr_rows hr, rows_end h, join_one6 _ h6]
theorem expr_two {s : ByteArray} {t t1 t2 : Tk} {d : Int} {n n2 : Nd} {m z : Nat} (hs : s.size = z + 1) (hr : rowF s (exprN s m) (s.size + 1) [] t d = ⟨0, n, t1, d⟩) (h : t1.k = 6) (hr2 : rowF s (exprN s m) (s.size + 1) [] (nextT s t1.to) d = ⟨0, n2, t2, d⟩) (h2 : t2.k ≠ 6) (h6 : n.kind ≠ 6) (h6' : n2.kind ≠ 6) :
    exprN s (m + 1) t d = ⟨0, nd0 6 [n, n2], t2, d⟩ := by
  rw [expr_rows hr, rows_step h hr2, hs, rows_end h2, List.singleton_append, join_two6 _ _ h6 h6']

/-- 'r <- (u / v) w' by its tokens -/
theorem eval_words (s : ByteArray) (m : Nat) (hs : s.size = m + 2) (hs4 : s.size ≤ 400) (T0 T1 T2 T3 T4 T5 T6 T7 T8 : Tk) (h0 : nextT s 0 = T0) (h1 : nextT s T0.to = T1) (h2 : nextT s T1.to = T2) (h3 : nextT s T2.to = T3) (h4 : nextT s T3.to = T4) (h5 : nextT s T4.to = T5) (h6 : nextT s T5.to = T6) (h7 : nextT s T6.to = T7) (h8 : nextT s T7.to = T8)
    (k0 : T0.k = 2) (k1 : T1.k = 3) (k2 : T2.k = 13) (k3 : T3.k = 4) (k4 : T4.k = 6) (k5 : T5.k = 4) (k6 : T6.k = 14) (k7 : T7.k = 4) (k8 : T8.k = 1) :
    parseF s = ⟨0, [⟨T0.of s, T0.from_, nd0 5 [nd0 6 [⟨0, 0, T3.bytes s, []⟩, ⟨0, 0, T5.bytes s, []⟩], ⟨0, 0, T7.bytes s, []⟩], false, 0⟩], 0⟩ := by
  have hs1 : s.size = (m + 1) + 1 := by omega
  have w3 : ∀ (E : Tk → Int → Res) (d : Int), itemF s E (s.size + 1) T3 d = ⟨0, ⟨0, 0, T3.bytes s, []⟩, T4, d⟩ := fun E d => by rw [item_leaf (.inr (.inl k3)) (by rw [h4]; exact sign_no (by omega)), leaf_word k3, h4]
  have w5 : ∀ (E : Tk → Int → Res) (d : Int), itemF s E (s.size + 1) T5 d = ⟨0, ⟨0, 0, T5.bytes s, []⟩, T6, d⟩ := fun E d => by rw [item_leaf (.inr (.inl k5)) (by rw [h6]; exact sign_no (by omega)), leaf_word k5, h6]
  have w7 : ∀ (E : Tk → Int → Res) (d : Int), itemF s E (s.size + 1) T7 d = ⟨0, ⟨0, 0, T7.bytes s, []⟩, T8, d⟩ := fun E d => by rw [item_leaf (.inr (.inl k7)) (by rw [h8]; exact sign_no (by omega)), leaf_word k7, h8]
  have hin : exprN s 12 T3 1 = ⟨0, nd0 6 [⟨0, 0, T3.bytes s, []⟩, ⟨0, 0, T5.bytes s, []⟩], T6, 1⟩ :=
    expr_two hs1 (row_one hs1 (atIt_word k3) (w3 _ _) (atIt_no (by omega)) (by simp)) k4 (by rw [h5]; exact row_one hs1 (atIt_word k5) (w5 _ _) (atIt_no (by omega)) (by simp)) (by omega) (by simp) (by simp)
  have h2i : itemF s (exprN s 12) (s.size + 1) T2 0 = ⟨0, nd0 6 [⟨0, 0, T3.bytes s, []⟩, ⟨0, 0, T5.bytes s, []⟩], T7, 0⟩ := by
    rw [item_single (by omega) (by omega), single_brackets k2 (by omega) (by rw [h3]; exact hin) k6, h7, signed_no (sign_no (by omega))]
  have hex : exprN s 13 T2 0 = ⟨0, nd0 5 [nd0 6 [⟨0, 0, T3.bytes s, []⟩, ⟨0, 0, T5.bytes s, []⟩], ⟨0, 0, T7.bytes s, []⟩], T8, 0⟩ :=
    expr_one (row_two hs (atIt_open k2) h2i (atIt_word k7) (w7 _ _) (atIt_no (by omega)) (by simp [nd0]) (by simp)) (by omega) (by simp [nd0])
  rw [parse_text hs4, h0, hs, parse_step k0 (rule_ok k0 h1 k1 h2 hex), parse_end k8]
  rfl
end Go.Proofs.Ytdofpbbahamkkab
namespace Go.Proofs.Ytdofpbbahamkkab

theorem next_at {L A B : List UInt8} {k f e : Int} {p : Int} (h : L = A ++ B) (hn : nextT (bl B) 0 = ⟨k, f, e⟩) (hp : p = A.length) : nextT (bl L) p = ⟨k, A.length + f, A.length + e⟩ := by
  subst h
  subst hp
  have h1 := nextT_shift A B 0 (by omega)
  rw [Int.add_zero, hn] at h1
  exact h1
theorem blank_any (l : List UInt8) {k f e : Int} (hn : nextT (bl l) 0 = ⟨k, f, e⟩) : nextT (bl (32 :: l)) 0 = ⟨k, 1 + f, 1 + e⟩ := by
  rw [nextT_blank 32 l rfl, hn]
  rfl
theorem of_bl (A X : List UInt8) (n : Nat) (k : Int) : (⟨k, A.length, A.length + n⟩ : Tk).of (bl (A ++ X)) = bl (X.take n) := by
  unfold Tk.of bl
  simp only
  rw [show ((A.length : Int) + n).toNat = A.length + n from by omega, Int.toNat_natCast]
  apply ByteArray.ext
  simp
theorem word_bytes (A u rest : List UInt8) (hu : u.all isPlain = true) : (⟨4, A.length, A.length + (u.length + 2)⟩ : Tk).bytes (bl (A ++ 39 :: (u ++ 39 :: rest))) = bl u := by
  have h := of_bl A (39 :: (u ++ 39 :: rest)) (u.length + 2) 4
  have e : ((39 : UInt8) :: (u ++ 39 :: rest)).take (u.length + 2) = [39] ++ (u ++ 39 :: []) := by
    simp [List.take_append]
    exact List.take_of_length_le (by omega)
  rw [e] at h
  rw [bytes_4 rfl]
  have h2 : (⟨4, A.length, A.length + (u.length + 2)⟩ : Tk).of (bl (A ++ 39 :: (u ++ 39 :: rest))) = bl ([39] ++ (u ++ 39 :: [])) := by
    rw [← h]
    rfl
  rw [h2]
  have h3 := wordBs_word u [] hu [39] ((bl ([39] ++ (u ++ 39 :: []))).size + 1) (by rw [bl_size]; simp; omega)
  unfold bl at *
  rw [show (1 : Int) = ((([39] : List UInt8).length : Nat) : Int) from rfl, h3]
theorem word_at {L A u rest : List UInt8} {p : Int} (hu : u.all isPlain = true) (h : L = A ++ 39 :: (u ++ 39 :: rest)) (hp : p = A.length) : (⟨4, p, p + (u.length + 2)⟩ : Tk).bytes (bl L) = bl u := by
  subst h
  subst hp
  exact word_bytes A u rest hu

/-- r <- ('u' / 'v') 'w' -/
def textW (u v w : List UInt8) : List UInt8 := 114 :: 32 :: 60 :: 45 :: 32 :: 40 :: 39 :: (u ++ 39 :: 32 :: 47 :: 32 :: 39 :: (v ++ 39 :: 41 :: 32 :: 39 :: (w ++ 39 :: [])))
def bodyW (u v w : List UInt8) : Nd := nd0 5 [nd0 6 [⟨0, 0, bl u, []⟩, ⟨0, 0, bl v, []⟩], ⟨0, 0, bl w, []⟩]

theorem parse_words (u v w : List UInt8) (hu : u.all isPlain = true) (hv : v.all isPlain = true) (hw : w.all isPlain = true) (h5 : u.length + v.length + w.length ≤ 300) :
    parseF (bl (textW u v w)) = ⟨0, [⟨bl [114], 0, bodyW u v w, false, 0⟩], 0⟩ := by
  have hlen : (textW u v w).length = 17 + u.length + v.length + w.length := by simp [textW]; omega
  have t0 : nextT (bl (textW u v w)) 0 = ⟨2, 0, 1⟩ := nextT_letter 114 32 _ (by decide) (by decide) rfl
  have t1 : nextT (bl (textW u v w)) 1 = ⟨3, 2, 4⟩ := next_at (A := [114]) (B := 32 :: 60 :: 45 :: 32 :: 40 :: 39 :: (u ++ 39 :: 32 :: 47 :: 32 :: 39 :: (v ++ 39 :: 41 :: 32 :: 39 :: (w ++ 39 :: [])))) rfl (blank_any _ (nextT_arrow _)) rfl
  have t2 : nextT (bl (textW u v w)) 4 = ⟨13, 5, 6⟩ := next_at (A := [114, 32, 60, 45]) (B := 32 :: 40 :: 39 :: (u ++ 39 :: 32 :: 47 :: 32 :: 39 :: (v ++ 39 :: 41 :: 32 :: 39 :: (w ++ 39 :: [])))) rfl (blank_any _ (nextT_sign 40 _ 13 (by decide) (by decide) (by decide) (by decide) rfl (by decide))) rfl
  have t3 : nextT (bl (textW u v w)) 6 = ⟨4, 6, 6 + (u.length + 2)⟩ := by
    have h := next_at (L := textW u v w) (A := [114, 32, 60, 45, 32, 40]) (p := 6) rfl (nextT_word u (32 :: 47 :: 32 :: 39 :: (v ++ 39 :: 41 :: 32 :: 39 :: (w ++ 39 :: []))) hu) rfl
    exact h
  have t4 : nextT (bl (textW u v w)) (6 + (u.length + 2)) = ⟨6, 9 + u.length, 10 + u.length⟩ := by
    have h := next_at (L := textW u v w) (A := [114, 32, 60, 45, 32, 40, 39] ++ (u ++ [39])) (B := 32 :: 47 :: 32 :: 39 :: (v ++ 39 :: 41 :: 32 :: 39 :: (w ++ 39 :: []))) (p := 6 + (u.length + 2)) (by simp [textW]) (blank_any _ (nextT_sign 47 _ 6 (by decide) (by decide) (by decide) (by decide) rfl (by decide))) (by simp; omega)
    rw [h]
    congr 1 <;> (simp; omega)
  have t5 : nextT (bl (textW u v w)) (10 + u.length) = ⟨4, 11 + u.length, 11 + u.length + (v.length + 2)⟩ := by
    have h := next_at (L := textW u v w) (A := [114, 32, 60, 45, 32, 40, 39] ++ (u ++ [39, 32, 47])) (B := 32 :: 39 :: (v ++ 39 :: 41 :: 32 :: 39 :: (w ++ 39 :: []))) (p := 10 + u.length) (by simp [textW]) (blank_any _ (nextT_word v _ hv)) (by simp; omega)
    rw [h]
    congr 1 <;> (simp; omega)
  have t6 : nextT (bl (textW u v w)) (11 + u.length + (v.length + 2)) = ⟨14, 13 + u.length + v.length, 14 + u.length + v.length⟩ := by
    have h := next_at (L := textW u v w) (A := [114, 32, 60, 45, 32, 40, 39] ++ (u ++ [39, 32, 47, 32, 39] ++ (v ++ [39]))) (B := 41 :: 32 :: 39 :: (w ++ 39 :: [])) (p := 11 + u.length + (v.length + 2)) (by simp [textW]) (nextT_sign 41 _ 14 (by decide) (by decide) (by decide) (by decide) rfl (by decide)) (by simp; omega)
    rw [h]
    congr 1 <;> (simp; omega)
  have t7 : nextT (bl (textW u v w)) (14 + u.length + v.length) = ⟨4, 15 + u.length + v.length, 15 + u.length + v.length + (w.length + 2)⟩ := by
    have h := next_at (L := textW u v w) (A := [114, 32, 60, 45, 32, 40, 39] ++ (u ++ [39, 32, 47, 32, 39] ++ (v ++ [39, 41]))) (B := 32 :: 39 :: (w ++ 39 :: [])) (p := 14 + u.length + v.length) (by simp [textW]) (blank_any _ (nextT_word w _ hw)) (by simp; omega)
    rw [h]
    congr 1 <;> (simp; omega)
  have t8 : nextT (bl (textW u v w)) (15 + u.length + v.length + (w.length + 2)) = ⟨1, 17 + u.length + v.length + w.length, 17 + u.length + v.length + w.length⟩ := by
    have h := next_at (L := textW u v w) (A := textW u v w) (B := []) (p := 15 + u.length + v.length + (w.length + 2)) (by simp) nextT_end (by rw [hlen]; omega)
    rw [h, hlen]
    congr 1 <;> omega
  rw [eval_words (bl (textW u v w)) (15 + u.length + v.length + w.length) (by rw [bl_size, hlen]; omega) (by rw [bl_size, hlen]; omega) _ _ _ _ _ _ _ _ _ t0 t1 t2 t3 t4 t5 t6 t7 t8 rfl rfl rfl rfl rfl rfl rfl rfl rfl]
  have b0 : (⟨2, 0, 1⟩ : Tk).of (bl (textW u v w)) = bl [114] := of_bl [] (textW u v w) 1 2
  have b3 : (⟨4, 6, 6 + (u.length + 2)⟩ : Tk).bytes (bl (textW u v w)) = bl u := word_at (A := [114, 32, 60, 45, 32, 40]) hu rfl rfl
  have b5 : (⟨4, 11 + u.length, 11 + u.length + (v.length + 2)⟩ : Tk).bytes (bl (textW u v w)) = bl v :=
    word_at (A := [114, 32, 60, 45, 32, 40, 39] ++ (u ++ [39, 32, 47, 32])) (rest := 41 :: 32 :: 39 :: (w ++ 39 :: [])) hv (by simp [textW]) (by simp; omega)
  have b7 : (⟨4, 15 + u.length + v.length, 15 + u.length + v.length + (w.length + 2)⟩ : Tk).bytes (bl (textW u v w)) = bl w :=
    word_at (A := [114, 32, 60, 45, 32, 40, 39] ++ (u ++ [39, 32, 47, 32, 39] ++ (v ++ [39, 41, 32]))) (rest := []) hw (by simp [textW]) (by simp; omega)
  rw [b0, b3, b5, b7]
  rfl
end Go.Proofs.Ytdofpbbahamkkab
namespace Go.Proofs.Ytdofpbbahamkkab

theorem or_zero : orI 0 0 = 0 := by decide +kernel
theorem and_zero : bits BinOp.and IntKind.i64 0 (bitI 0) = 0 := by decide +kernel
set_option maxHeartbeats 1000000 in
theorem check_words (bu bv bw : ByteArray) : checkF 3 3 [⟨bl [114], 0, nd0 5 [nd0 6 [⟨0, 0, bu, []⟩, ⟨0, 0, bv, []⟩], ⟨0, 0, bw, []⟩], false, 0⟩] = some (0, 0) := by
  cases h1 : bu.toList.isEmpty <;> cases h2 : bv.toList.isEmpty <;> cases h3 : bw.toList.isEmpty <;>
    simp [checkF, check2, check3, twiceL, findF, findFrom, firstR, unkN, firstL, fixE, roundE, mayE, setE, fixB, roundB, nd0, begN, begL, or_zero, and_zero, leftL, loopN, h1, h2, h3]
theorem compile_words (u v w : List UInt8) (hu : u.all isPlain = true) (hv : v.all isPlain = true) (hw : w.all isPlain = true) (h5 : u.length + v.length + w.length ≤ 300) :
    compileF 3 3 (bl (textW u v w)) = some (0, 0) := by
  unfold compileF
  rw [parse_words u v w hu hv hw h5]
  simp only [bodyW, check_words]
  rfl
theorem build_words (u v w : List UInt8) : buildF 4 [⟨bl [114], 0, bodyW u v w, false, 0⟩] = [⟨5, ByteArray.empty, [3, 4]⟩, ⟨0, bl u, []⟩, ⟨0, bl v, []⟩, ⟨6, ByteArray.empty, [1, 2]⟩, ⟨0, bl w, []⟩] := by rfl
end Go.Proofs.Ytdofpbbahamkkab
namespace Go.Proofs.Ytdofpbbahamkkab

/-- a name of one letter that ends the text -/
theorem nextT_last (c : UInt8) (h : (97 : Int) ≤ c.toNat) (h' : (c.toNat : Int) ≤ 122) : nextT (bl [c]) 0 = ⟨2, 0, 1⟩ := by
  refine nextT_head c _ 2 1 ?_ ?_
  · simp [isBlank]; omega
  · unfold readT
    rw [bAt_cons, if_pos ⟨h, h'⟩]
    have hn : nameEnd (bl [c]) ((bl [c]).size + 1 - (0 : Int).toNat) 0 = 1 := by
      rw [bl_size]
      show nameEnd _ (1 + 1) 0 = 1
      rw [nameEnd, bAt_cons, if_pos (by simp [isNameC]; omega)]
      have h2 := bAt_shift [c] [] 0 (by omega)
      rw [show ((([c] : List UInt8).length : Int) + 0) = 0 + 1 from rfl] at h2
      rw [List.append_nil] at h2
      rw [nameEnd, h2, if_neg (by rw [show bAt (bl []) 0 = -1 from bAt_nil 0]; decide)]
      rfl
    unfold readNm
    rw [hn]
    rfl
theorem of_at {L A X : List UInt8} {p e k : Int} (n : Nat) (h : L = A ++ X) (hp : p = A.length) (he : e = A.length + n) : (⟨k, p, e⟩ : Tk).of (bl L) = bl (X.take n) := by
  subst h
  subst hp
  subst he
  exact of_bl A X n k

/-- r <- 'u' {} / . r -/
def textF (u : List UInt8) : List UInt8 := 114 :: 32 :: 60 :: 45 :: 32 :: 39 :: (u ++ 39 :: 32 :: 123 :: 125 :: 32 :: 47 :: 32 :: 46 :: 32 :: 114 :: [])
def allB : ByteArray := ⟨(bytesOf (fun _ => false) false).toArray⟩
def bodyF (u : List UInt8) : Nd := nd0 6 [nd0 5 [⟨0, 0, bl u, []⟩, nd0 3 []], nd0 5 [⟨1, 0, allB, []⟩, ⟨2, 15 + u.length, bl [114], []⟩]]

theorem eval_first (s : ByteArray) (m : Nat) (hs : s.size = m + 2) (hs4 : s.size ≤ 400) (T0 T1 T2 T3 T4 T5 T6 T7 T8 : Tk) (h0 : nextT s 0 = T0) (h1 : nextT s T0.to = T1) (h2 : nextT s T1.to = T2) (h3 : nextT s T2.to = T3) (h4 : nextT s T3.to = T4) (h5 : nextT s T4.to = T5) (h6 : nextT s T5.to = T6) (h7 : nextT s T6.to = T7) (h8 : nextT s T7.to = T8)
    (k0 : T0.k = 2) (k1 : T1.k = 3) (k2 : T2.k = 4) (k3 : T3.k = 15) (k4 : T4.k = 16) (k5 : T5.k = 6) (k6 : T6.k = 12) (k7 : T7.k = 2) (k8 : T8.k = 1) :
    parseF s = ⟨0, [⟨T0.of s, T0.from_, nd0 6 [nd0 5 [⟨0, 0, T2.bytes s, []⟩, nd0 3 []], nd0 5 [⟨1, 0, T6.bytes s, []⟩, ⟨2, T7.from_, T7.of s, []⟩]], false, 0⟩], 0⟩ := by
  have hs1 : s.size = (m + 1) + 1 := by omega
  have i2 : itemF s (exprN s 12) (s.size + 1) T2 0 = ⟨0, ⟨0, 0, T2.bytes s, []⟩, T3, 0⟩ := by rw [item_leaf (.inr (.inl k2)) (by rw [h3]; exact sign_no (by omega)), leaf_word k2, h3]
  have i3 : itemF s (exprN s 12) (s.size + 1) T3 0 = ⟨0, nd0 3 [], T5, 0⟩ := by
    rw [item_single (by omega) (by omega), single_place k3 (by omega) (by rw [h4]; exact k4), h4, h5, signed_no (sign_no (by omega))]
  have i6 : itemF s (exprN s 12) (s.size + 1) T6 0 = ⟨0, ⟨1, 0, T6.bytes s, []⟩, T7, 0⟩ := by rw [item_leaf (.inr (.inr (.inr k6))) (by rw [h7]; exact sign_no (by omega)), leaf_set (.inr k6), h7]
  have i7 : itemF s (exprN s 12) (s.size + 1) T7 0 = ⟨0, ⟨2, T7.from_, T7.of s, []⟩, T8, 0⟩ := by rw [item_leaf (.inl k7) (by rw [h8]; exact sign_no (by omega)), leaf_name k7, h8]
  have hex : exprN s 13 T2 0 = ⟨0, nd0 6 [nd0 5 [⟨0, 0, T2.bytes s, []⟩, nd0 3 []], nd0 5 [⟨1, 0, T6.bytes s, []⟩, ⟨2, T7.from_, T7.of s, []⟩]], T8, 0⟩ :=
    expr_two hs1 (row_two hs (atIt_word k2) i2 (atIt_brace k3) i3 (atIt_no (by omega)) (by simp) (by simp [nd0])) k5 (by rw [h6]; exact row_two hs (atIt_dot k6) i6 (atIt_name k7 (by rw [h8]; omega)) i7 (atIt_no (by omega)) (by simp) (by simp)) (by omega) (by simp [nd0]) (by simp [nd0])
  rw [parse_text hs4, h0, hs, parse_step k0 (rule_ok k0 h1 k1 h2 hex), parse_end k8]
  rfl

theorem parse_first (u : List UInt8) (hu : u.all isPlain = true) (h5 : u.length ≤ 300) : parseF (bl (textF u)) = ⟨0, [⟨bl [114], 0, bodyF u, false, 0⟩], 0⟩ := by
  have hlen : (textF u).length = 16 + u.length := by simp [textF]; omega
  have t0 : nextT (bl (textF u)) 0 = ⟨2, 0, 1⟩ := nextT_letter 114 32 _ (by decide) (by decide) rfl
  have t1 : nextT (bl (textF u)) 1 = ⟨3, 2, 4⟩ := next_at (A := [114]) (B := 32 :: 60 :: 45 :: 32 :: 39 :: (u ++ 39 :: 32 :: 123 :: 125 :: 32 :: 47 :: 32 :: 46 :: 32 :: 114 :: [])) rfl (blank_any _ (nextT_arrow _)) rfl
  have t2 : nextT (bl (textF u)) 4 = ⟨4, 5, 5 + (u.length + 2)⟩ := by
    have h := next_at (L := textF u) (A := [114, 32, 60, 45]) (B := 32 :: 39 :: (u ++ 39 :: 32 :: 123 :: 125 :: 32 :: 47 :: 32 :: 46 :: 32 :: 114 :: [])) (p := 4) rfl (blank_any _ (nextT_word u _ hu)) rfl
    rw [h]
    congr 1 <;> (simp; try omega)
  have t3 : nextT (bl (textF u)) (5 + (u.length + 2)) = ⟨15, 8 + u.length, 9 + u.length⟩ := by
    have h := next_at (L := textF u) (A := [114, 32, 60, 45, 32, 39] ++ (u ++ [39])) (B := 32 :: 123 :: 125 :: 32 :: 47 :: 32 :: 46 :: 32 :: 114 :: []) (p := 5 + (u.length + 2)) (by simp [textF]) (blank_any _ (nextT_sign 123 _ 15 (by decide) (by decide) (by decide) (by decide) rfl (by decide))) (by simp; omega)
    rw [h]
    congr 1 <;> (simp; omega)
  have t4 : nextT (bl (textF u)) (9 + u.length) = ⟨16, 9 + u.length, 10 + u.length⟩ := by
    have h := next_at (L := textF u) (A := [114, 32, 60, 45, 32, 39] ++ (u ++ [39, 32, 123])) (B := 125 :: 32 :: 47 :: 32 :: 46 :: 32 :: 114 :: []) (p := 9 + u.length) (by simp [textF]) (nextT_sign 125 _ 16 (by decide) (by decide) (by decide) (by decide) rfl (by decide)) (by simp; omega)
    rw [h]
    congr 1 <;> (simp; omega)
  have t5 : nextT (bl (textF u)) (10 + u.length) = ⟨6, 11 + u.length, 12 + u.length⟩ := by
    have h := next_at (L := textF u) (A := [114, 32, 60, 45, 32, 39] ++ (u ++ [39, 32, 123, 125])) (B := 32 :: 47 :: 32 :: 46 :: 32 :: 114 :: []) (p := 10 + u.length) (by simp [textF]) (blank_any _ (nextT_sign 47 _ 6 (by decide) (by decide) (by decide) (by decide) rfl (by decide))) (by simp; omega)
    rw [h]
    congr 1 <;> (simp; omega)
  have t6 : nextT (bl (textF u)) (12 + u.length) = ⟨12, 13 + u.length, 14 + u.length⟩ := by
    have h := next_at (L := textF u) (A := [114, 32, 60, 45, 32, 39] ++ (u ++ [39, 32, 123, 125, 32, 47])) (B := 32 :: 46 :: 32 :: 114 :: []) (p := 12 + u.length) (by simp [textF]) (blank_any _ (nextT_sign 46 _ 12 (by decide) (by decide) (by decide) (by decide) rfl (by decide))) (by simp; omega)
    rw [h]
    congr 1 <;> (simp; omega)
  have t7 : nextT (bl (textF u)) (14 + u.length) = ⟨2, 15 + u.length, 16 + u.length⟩ := by
    have h := next_at (L := textF u) (A := [114, 32, 60, 45, 32, 39] ++ (u ++ [39, 32, 123, 125, 32, 47, 32, 46])) (B := 32 :: 114 :: []) (p := 14 + u.length) (by simp [textF]) (blank_any _ (nextT_last 114 (by decide) (by decide))) (by simp; omega)
    rw [h]
    congr 1 <;> (simp; omega)
  have t8 : nextT (bl (textF u)) (16 + u.length) = ⟨1, 16 + u.length, 16 + u.length⟩ := by
    have h := next_at (L := textF u) (A := textF u) (B := []) (p := 16 + u.length) (by simp) nextT_end (by rw [hlen]; omega)
    rw [h, hlen]
    congr 1 <;> omega
  rw [eval_first (bl (textF u)) (14 + u.length) (by rw [bl_size, hlen]; omega) (by rw [bl_size, hlen]; omega) _ _ _ _ _ _ _ _ _ t0 t1 t2 t3 t4 t5 t6 t7 t8 rfl rfl rfl rfl rfl rfl rfl rfl rfl]
  have b0 : (⟨2, 0, 1⟩ : Tk).of (bl (textF u)) = bl [114] := of_bl [] (textF u) 1 2
  have b2 : (⟨4, 5, 5 + (u.length + 2)⟩ : Tk).bytes (bl (textF u)) = bl u := word_at (A := [114, 32, 60, 45, 32]) (rest := 32 :: 123 :: 125 :: 32 :: 47 :: 32 :: 46 :: 32 :: 114 :: []) hu rfl rfl
  have b6 : (⟨12, 13 + u.length, 14 + u.length⟩ : Tk).bytes (bl (textF u)) = allB := bytes_12 rfl
  have b7 : (⟨2, 15 + u.length, 16 + u.length⟩ : Tk).of (bl (textF u)) = bl [114] := of_at (A := [114, 32, 60, 45, 32, 39] ++ (u ++ [39, 32, 123, 125, 32, 47, 32, 46, 32])) (X := [114]) 1 (by simp [textF]) (by simp; omega) (by simp; omega)
  rw [b0, b2, b6, b7]
  rfl
set_option maxHeartbeats 1000000 in
theorem check_first (bu ba : ByteArray) (a : Int) : checkF 3 3 [⟨bl [114], 0, nd0 6 [nd0 5 [⟨0, 0, bu, []⟩, nd0 3 []], nd0 5 [⟨1, 0, ba, []⟩, ⟨2, a, bl [114], []⟩]], false, 0⟩] = some (0, 0) := by
  cases h1 : bu.toList.isEmpty <;>
    simp [checkF, check2, check3, twiceL, findF, findFrom, firstR, unkN, firstL, fixE, roundE, mayE, setE, fixB, roundB, nd0, begN, begL, or_zero, and_zero, leftL, loopN, h1]
theorem compile_first (u : List UInt8) (hu : u.all isPlain = true) (h5 : u.length ≤ 300) : compileF 3 3 (bl (textF u)) = some (0, 0) := by
  unfold compileF
  rw [parse_first u hu h5]
  simp only [bodyF, check_first]
  rfl
theorem find_r (n : Nd) : findF [⟨bl [114], 0, n, false, 0⟩] (bl [114]) = 0 := by simp [findF, findFrom]
theorem build_first (u : List UInt8) : buildF 4 [⟨bl [114], 0, bodyF u, false, 0⟩] = [⟨6, ByteArray.empty, [3, 6]⟩, ⟨0, bl u, []⟩, ⟨3, ByteArray.empty, []⟩, ⟨5, ByteArray.empty, [1, 2]⟩, ⟨1, allB, []⟩, ⟨2, bl [114], [0]⟩, ⟨5, ByteArray.empty, [4, 5]⟩] := by
  simp [buildF, buildL, termN, termsL, baseK, bodyF, nd0, findF, findFrom, Tm.zero]
end Go.Proofs.Ytdofpbbahamkkab
namespace Go.Proofs.Ytdofpbbahamkkab

def textL1 (u : List UInt8) : List UInt8 := 114 :: 32 :: 60 :: 45 :: 32 :: 38 :: 123 :: 39 :: (u ++ 39 :: 125 :: 32 :: 123 :: 125 :: [])
def bodyL1 (u : List UInt8) : Nd := nd0 5 [nd0 7 [⟨4, 0, ByteArray.empty, [⟨0, 0, bl u, []⟩]⟩], nd0 3 []]
theorem named_no {s : ByteArray} {t : Tk} (h : t.k ≠ 2) : namedN s t = ByteArray.empty ∧ namedT s t = t := by
  have hb : nmBefore s t 17 = false := by unfold nmBefore; simp [h]
  exact ⟨namedN_no hb, namedT_no hb⟩
/-- { word }, not followed by a sign -/
theorem item_part {s : ByteArray} {E : Tk → Int → Res} {t t1 t2 t3 : Tk} {d : Int} {n : Nd} {k : Nat} (h : t.k = 15) (hd : d < 12) (h1 : nextT s t.to = t1) (hk : t1.k ≠ 16) (hk2 : t1.k ≠ 2) (hE : E t1 (d + 1) = ⟨0, n, t2, d + 1⟩) (h2 : t2.k = 16) (h3 : nextT s t2.to = t3) (hs : isSign t3 = false) :
    itemF s E (k + 1) t d = ⟨0, ⟨4, 0, ByteArray.empty, [n]⟩, t3, d⟩ := by
  have hn := named_no (s := s) hk2
  rw [item_single (by omega) (by omega), single_part h hd (by rw [h1]; exact hk) (by rw [h1, hn.2]; exact hE) h2, h3, h1, hn.1, signed_no hs]
theorem item_place {s : ByteArray} {E : Tk → Int → Res} {t t1 t2 : Tk} {d : Int} {k : Nat} (h : t.k = 15) (hd : d < 12) (h1 : nextT s t.to = t1) (hk : t1.k = 16) (h2 : nextT s t1.to = t2) (hs : isSign t2 = false) : itemF s E (k + 1) t d = ⟨0, nd0 3 [], t2, d⟩ := by
  rw [item_single (by omega) (by omega), single_place h hd (by rw [h1]; exact hk), h1, h2, signed_no hs]
theorem item_wd {s : ByteArray} {E : Tk → Int → Res} {t t1 : Tk} {d : Int} {k : Nat} (h : t.k = 4) (h1 : nextT s t.to = t1) (hs : isSign t1 = false) : itemF s E (k + 1) t d = ⟨0, ⟨0, 0, t.bytes s, []⟩, t1, d⟩ := by
  rw [item_leaf (.inr (.inl h)) (by rw [h1]; exact hs), leaf_word h, h1]
/-- an expression that is one word -/
theorem expr_wd {s : ByteArray} {t t1 : Tk} {d : Int} {m z : Nat} (hs : s.size = z + 1) (h : t.k = 4) (h1 : nextT s t.to = t1) (hk : t1.k = 16 ∨ t1.k = 14 ∨ t1.k = 1) : exprN s (m + 1) t d = ⟨0, ⟨0, 0, t.bytes s, []⟩, t1, d⟩ :=
  expr_one (row_one hs (atIt_word h) (item_wd h h1 (sign_no (by omega))) (atIt_no (by omega)) (by simp)) (by omega) (by simp)

theorem eval_looks1 (s : ByteArray) (m : Nat) (hs : s.size = m + 2) (hs4 : s.size ≤ 400) (T0 T1 T2 T3 T4 T5 T6 T7 T8 : Tk) (h0 : nextT s 0 = T0) (h1 : nextT s T0.to = T1) (h2 : nextT s T1.to = T2) (h3 : nextT s T2.to = T3) (h4 : nextT s T3.to = T4) (h5 : nextT s T4.to = T5) (h6 : nextT s T5.to = T6) (h7 : nextT s T6.to = T7) (h8 : nextT s T7.to = T8)
    (k0 : T0.k = 2) (k1 : T1.k = 3) (k2 : T2.k = 7) (k3 : T3.k = 15) (k4 : T4.k = 4) (k5 : T5.k = 16) (k6 : T6.k = 15) (k7 : T7.k = 16) (k8 : T8.k = 1) :
    parseF s = ⟨0, [⟨T0.of s, T0.from_, nd0 5 [nd0 7 [⟨4, 0, ByteArray.empty, [⟨0, 0, T4.bytes s, []⟩]⟩], nd0 3 []], false, 0⟩], 0⟩ := by
  have hs1 : s.size = (m + 1) + 1 := by omega
  have i3 : ∀ k, itemF s (exprN s 12) (k + 1) T3 0 = ⟨0, ⟨4, 0, ByteArray.empty, [⟨0, 0, T4.bytes s, []⟩]⟩, T6, 0⟩ := fun k =>
    item_part k3 (by omega) h4 (by omega) (by omega) (expr_wd hs1 k4 h5 (.inl k5)) k5 h6 (sign_no (by omega))
  have i2 : itemF s (exprN s 12) (s.size + 1) T2 0 = ⟨0, nd0 7 [⟨4, 0, ByteArray.empty, [⟨0, 0, T4.bytes s, []⟩]⟩], T6, 0⟩ := by
    have h := item_look (s := s) (E := exprN s 12) (t := T2) (d := 0) (k := s.size) (.inl k2) (by rw [h3]; exact atIt_brace k3) (by rw [h3, hs1]; exact i3 _)
    rw [k2] at h
    exact h
  have hex : exprN s 13 T2 0 = ⟨0, nd0 5 [nd0 7 [⟨4, 0, ByteArray.empty, [⟨0, 0, T4.bytes s, []⟩]⟩], nd0 3 []], T8, 0⟩ :=
    expr_one (row_two hs (atIt_look (.inl k2)) i2 (atIt_brace k6) (item_place k6 (by omega) h7 k7 h8 (sign_no (by omega))) (atIt_no (by omega)) (by simp [nd0]) (by simp [nd0])) (by omega) (by simp [nd0])
  rw [parse_text hs4, h0, hs, parse_step k0 (rule_ok k0 h1 k1 h2 hex), parse_end k8]
  rfl
theorem parse_looks1 (u : List UInt8) (hu : u.all isPlain = true) (h5 : u.length ≤ 300) : parseF (bl (textL1 u)) = ⟨0, [⟨bl [114], 0, bodyL1 u, false, 0⟩], 0⟩ := by
  have hlen : (textL1 u).length = 13 + u.length := by simp [textL1]; try omega
  have t0 : nextT (bl (textL1 u)) (0) = ⟨2, 0, 1⟩ := by
    have h := next_at (L := (textL1 u)) (A := []) (B := 114 :: 32 :: 60 :: 45 :: 32 :: 38 :: 123 :: 39 :: (u ++ 39 :: 125 :: 32 :: 123 :: 125 :: [])) (p := 0) (by simp [textL1]) (nextT_letter 114 32 _ (by decide) (by decide) rfl) (by simp; try omega)
    rw [h]
    congr 1 <;> (simp; try omega)
  have t1 : nextT (bl (textL1 u)) (1) = ⟨3, 2, 4⟩ := by
    have h := next_at (L := (textL1 u)) (A := [114]) (B := 32 :: 60 :: 45 :: 32 :: 38 :: 123 :: 39 :: (u ++ 39 :: 125 :: 32 :: 123 :: 125 :: [])) (p := 1) (by simp [textL1]) (blank_any _ (nextT_arrow _)) (by simp; try omega)
    rw [h]
    congr 1 <;> (simp; try omega)
  have t2 : nextT (bl (textL1 u)) (4) = ⟨7, 5, 6⟩ := by
    have h := next_at (L := (textL1 u)) (A := [114, 32, 60, 45]) (B := 32 :: 38 :: 123 :: 39 :: (u ++ 39 :: 125 :: 32 :: 123 :: 125 :: [])) (p := 4) (by simp [textL1]) (blank_any _ (nextT_sign 38 _ 7 (by decide) (by decide) (by decide) (by decide) rfl (by decide))) (by simp; try omega)
    rw [h]
    congr 1 <;> (simp; try omega)
  have t3 : nextT (bl (textL1 u)) (6) = ⟨15, 6, 7⟩ := by
    have h := next_at (L := (textL1 u)) (A := [114, 32, 60, 45, 32, 38]) (B := 123 :: 39 :: (u ++ 39 :: 125 :: 32 :: 123 :: 125 :: [])) (p := 6) (by simp [textL1]) (nextT_sign 123 _ 15 (by decide) (by decide) (by decide) (by decide) rfl (by decide)) (by simp; try omega)
    rw [h]
    congr 1 <;> (simp; try omega)
  have t4 : nextT (bl (textL1 u)) (7) = ⟨4, 7, 7 + (u.length + 2)⟩ := by
    have h := next_at (L := (textL1 u)) (A := [114, 32, 60, 45, 32, 38, 123]) (B := 39 :: (u ++ 39 :: 125 :: 32 :: 123 :: 125 :: [])) (p := 7) (by simp [textL1]) (nextT_word u _ hu) (by simp; try omega)
    rw [h]
    congr 1 <;> (simp; try omega)
  have t5 : nextT (bl (textL1 u)) (7 + (u.length + 2)) = ⟨16, 9 + u.length, 10 + u.length⟩ := by
    have h := next_at (L := (textL1 u)) (A := [114, 32, 60, 45, 32, 38, 123, 39] ++ (u ++ ([39]))) (B := 125 :: 32 :: 123 :: 125 :: []) (p := 7 + (u.length + 2)) (by simp [textL1]) (nextT_sign 125 _ 16 (by decide) (by decide) (by decide) (by decide) rfl (by decide)) (by simp; try omega)
    rw [h]
    congr 1 <;> (simp; try omega)
  have t6 : nextT (bl (textL1 u)) (10 + u.length) = ⟨15, 11 + u.length, 12 + u.length⟩ := by
    have h := next_at (L := (textL1 u)) (A := [114, 32, 60, 45, 32, 38, 123, 39] ++ (u ++ ([39, 125]))) (B := 32 :: 123 :: 125 :: []) (p := 10 + u.length) (by simp [textL1]) (blank_any _ (nextT_sign 123 _ 15 (by decide) (by decide) (by decide) (by decide) rfl (by decide))) (by simp; try omega)
    rw [h]
    congr 1 <;> (simp; try omega)
  have t7 : nextT (bl (textL1 u)) (12 + u.length) = ⟨16, 12 + u.length, 13 + u.length⟩ := by
    have h := next_at (L := (textL1 u)) (A := [114, 32, 60, 45, 32, 38, 123, 39] ++ (u ++ ([39, 125, 32, 123]))) (B := 125 :: []) (p := 12 + u.length) (by simp [textL1]) (nextT_sign 125 _ 16 (by decide) (by decide) (by decide) (by decide) rfl (by decide)) (by simp; try omega)
    rw [h]
    congr 1 <;> (simp; try omega)
  have t8 : nextT (bl (textL1 u)) (13 + u.length) = ⟨1, 13 + u.length, 13 + u.length⟩ := by
    have h := next_at (L := (textL1 u)) (A := (textL1 u)) (B := []) (p := 13 + u.length) (by simp) nextT_end (by rw [hlen]; omega)
    rw [h, hlen]
    congr 1 <;> omega
  rw [eval_looks1 (bl (textL1 u)) (13 + u.length - 2) (by rw [bl_size, hlen]; omega) (by rw [bl_size, hlen]; omega) _ _ _ _ _ _ _ _ _ t0 t1 t2 t3 t4 t5 t6 t7 t8 rfl rfl rfl rfl rfl rfl rfl rfl rfl]
  have b0 : (⟨2, 0, 1⟩ : Tk).of (bl (textL1 u)) = bl [114] := of_bl [] (textL1 u) 1 2
  have b4 : (⟨4, 7, 7 + (u.length + 2)⟩ : Tk).bytes (bl (textL1 u)) = bl u := word_at (A := [114, 32, 60, 45, 32, 38, 123]) (rest := 125 :: 32 :: 123 :: 125 :: []) hu rfl rfl
  rw [b0, b4]
  rfl
theorem check_looks1 (bu : ByteArray) : checkF 4 3 [⟨bl [114], 0, nd0 5 [nd0 7 [⟨4, 0, ByteArray.empty, [⟨0, 0, bu, []⟩]⟩], nd0 3 []], false, 0⟩] = some (0, 0) := by
  cases h1 : bu.toList.isEmpty <;>
    simp [checkF, check2, check3, twiceL, findF, findFrom, firstR, unkN, firstL, fixE, roundE, mayE, setE, fixB, roundB, nd0, begN, begL, or_zero, and_zero, leftL, loopN, h1]
theorem compile_looks1 (u : List UInt8) (hu : u.all isPlain = true) (h5 : u.length ≤ 300) : compileF 4 3 (bl (textL1 u)) = some (0, 0) := by
  unfold compileF
  rw [parse_looks1 u hu h5]
  simp only [bodyL1, check_looks1]
  rfl
theorem build_looks1 (u : List UInt8) : buildF 5 [⟨bl [114], 0, bodyL1 u, false, 0⟩] = [⟨5, ByteArray.empty, [3, 4]⟩, ⟨0, bl u, []⟩, ⟨4, ByteArray.empty, [1]⟩, ⟨7, ByteArray.empty, [2]⟩, ⟨3, ByteArray.empty, []⟩] := by rfl

def textL2 (u : List UInt8) : List UInt8 := 114 :: 32 :: 60 :: 45 :: 32 :: 33 :: 40 :: 123 :: 39 :: (u ++ 39 :: 125 :: 32 :: 123 :: 125 :: 41 :: 32 :: 123 :: 125 :: [])
def bodyL2 (u : List UInt8) : Nd := nd0 5 [nd0 8 [nd0 5 [⟨4, 0, ByteArray.empty, [⟨0, 0, bl u, []⟩]⟩, nd0 3 []]], nd0 3 []]
theorem eval_looks2 (s : ByteArray) (m : Nat) (hs : s.size = m + 2) (hs4 : s.size ≤ 400) (T0 T1 T2 T3 T4 T5 T6 T7 T8 T9 T10 T11 T12 : Tk) (h0 : nextT s 0 = T0) (h1 : nextT s T0.to = T1) (h2 : nextT s T1.to = T2) (h3 : nextT s T2.to = T3) (h4 : nextT s T3.to = T4) (h5 : nextT s T4.to = T5) (h6 : nextT s T5.to = T6) (h7 : nextT s T6.to = T7) (h8 : nextT s T7.to = T8) (h9 : nextT s T8.to = T9) (h10 : nextT s T9.to = T10) (h11 : nextT s T10.to = T11) (h12 : nextT s T11.to = T12)
    (k0 : T0.k = 2) (k1 : T1.k = 3) (k2 : T2.k = 8) (k3 : T3.k = 13) (k4 : T4.k = 15) (k5 : T5.k = 4) (k6 : T6.k = 16) (k7 : T7.k = 15) (k8 : T8.k = 16) (k9 : T9.k = 14) (k10 : T10.k = 15) (k11 : T11.k = 16) (k12 : T12.k = 1) :
    parseF s = ⟨0, [⟨T0.of s, T0.from_, nd0 5 [nd0 8 [nd0 5 [⟨4, 0, ByteArray.empty, [⟨0, 0, T5.bytes s, []⟩]⟩, nd0 3 []]], nd0 3 []], false, 0⟩], 0⟩ := by
  have hs1 : s.size = (m + 1) + 1 := by omega
  have hin : exprN s 12 T4 1 = ⟨0, nd0 5 [⟨4, 0, ByteArray.empty, [⟨0, 0, T5.bytes s, []⟩]⟩, nd0 3 []], T9, 1⟩ :=
    expr_one (row_two hs (atIt_brace k4) (item_part k4 (by omega) h5 (by omega) (by omega) (expr_wd hs1 k5 h6 (.inl k6)) k6 h7 (sign_no (by omega))) (atIt_brace k7) (item_place k7 (by omega) h8 k8 h9 (sign_no (by omega))) (atIt_no (by omega)) (by simp) (by simp [nd0])) (by omega) (by simp [nd0])
  have i3 : ∀ k, itemF s (exprN s 12) (k + 1) T3 0 = ⟨0, nd0 5 [⟨4, 0, ByteArray.empty, [⟨0, 0, T5.bytes s, []⟩]⟩, nd0 3 []], T10, 0⟩ := fun k => by
    rw [item_single (by omega) (by omega), single_brackets k3 (by omega) (by rw [h4]; exact hin) k9, h10, signed_no (sign_no (by omega))]
  have i2 : itemF s (exprN s 12) (s.size + 1) T2 0 = ⟨0, nd0 8 [nd0 5 [⟨4, 0, ByteArray.empty, [⟨0, 0, T5.bytes s, []⟩]⟩, nd0 3 []]], T10, 0⟩ := by
    have h := item_look (s := s) (E := exprN s 12) (t := T2) (d := 0) (k := s.size) (.inr k2) (by rw [h3]; exact atIt_open k3) (by rw [h3, hs1]; exact i3 _)
    rw [k2] at h
    exact h
  have hex : exprN s 13 T2 0 = ⟨0, nd0 5 [nd0 8 [nd0 5 [⟨4, 0, ByteArray.empty, [⟨0, 0, T5.bytes s, []⟩]⟩, nd0 3 []]], nd0 3 []], T12, 0⟩ :=
    expr_one (row_two hs (atIt_look (.inr k2)) i2 (atIt_brace k10) (item_place k10 (by omega) h11 k11 h12 (sign_no (by omega))) (atIt_no (by omega)) (by simp [nd0]) (by simp [nd0])) (by omega) (by simp [nd0])
  rw [parse_text hs4, h0, hs, parse_step k0 (rule_ok k0 h1 k1 h2 hex), parse_end k12]
  rfl
theorem parse_looks2 (u : List UInt8) (hu : u.all isPlain = true) (h5 : u.length ≤ 300) : parseF (bl (textL2 u)) = ⟨0, [⟨bl [114], 0, bodyL2 u, false, 0⟩], 0⟩ := by
  have hlen : (textL2 u).length = 18 + u.length := by simp [textL2]; try omega
  have t0 : nextT (bl (textL2 u)) (0) = ⟨2, 0, 1⟩ := by
    have h := next_at (L := (textL2 u)) (A := []) (B := 114 :: 32 :: 60 :: 45 :: 32 :: 33 :: 40 :: 123 :: 39 :: (u ++ 39 :: 125 :: 32 :: 123 :: 125 :: 41 :: 32 :: 123 :: 125 :: [])) (p := 0) (by simp [textL2]) (nextT_letter 114 32 _ (by decide) (by decide) rfl) (by simp; try omega)
    rw [h]
    congr 1 <;> (simp; try omega)
  have t1 : nextT (bl (textL2 u)) (1) = ⟨3, 2, 4⟩ := by
    have h := next_at (L := (textL2 u)) (A := [114]) (B := 32 :: 60 :: 45 :: 32 :: 33 :: 40 :: 123 :: 39 :: (u ++ 39 :: 125 :: 32 :: 123 :: 125 :: 41 :: 32 :: 123 :: 125 :: [])) (p := 1) (by simp [textL2]) (blank_any _ (nextT_arrow _)) (by simp; try omega)
    rw [h]
    congr 1 <;> (simp; try omega)
  have t2 : nextT (bl (textL2 u)) (4) = ⟨8, 5, 6⟩ := by
    have h := next_at (L := (textL2 u)) (A := [114, 32, 60, 45]) (B := 32 :: 33 :: 40 :: 123 :: 39 :: (u ++ 39 :: 125 :: 32 :: 123 :: 125 :: 41 :: 32 :: 123 :: 125 :: [])) (p := 4) (by simp [textL2]) (blank_any _ (nextT_sign 33 _ 8 (by decide) (by decide) (by decide) (by decide) rfl (by decide))) (by simp; try omega)
    rw [h]
    congr 1 <;> (simp; try omega)
  have t3 : nextT (bl (textL2 u)) (6) = ⟨13, 6, 7⟩ := by
    have h := next_at (L := (textL2 u)) (A := [114, 32, 60, 45, 32, 33]) (B := 40 :: 123 :: 39 :: (u ++ 39 :: 125 :: 32 :: 123 :: 125 :: 41 :: 32 :: 123 :: 125 :: [])) (p := 6) (by simp [textL2]) (nextT_sign 40 _ 13 (by decide) (by decide) (by decide) (by decide) rfl (by decide)) (by simp; try omega)
    rw [h]
    congr 1 <;> (simp; try omega)
  have t4 : nextT (bl (textL2 u)) (7) = ⟨15, 7, 8⟩ := by
    have h := next_at (L := (textL2 u)) (A := [114, 32, 60, 45, 32, 33, 40]) (B := 123 :: 39 :: (u ++ 39 :: 125 :: 32 :: 123 :: 125 :: 41 :: 32 :: 123 :: 125 :: [])) (p := 7) (by simp [textL2]) (nextT_sign 123 _ 15 (by decide) (by decide) (by decide) (by decide) rfl (by decide)) (by simp; try omega)
    rw [h]
    congr 1 <;> (simp; try omega)
  have t5 : nextT (bl (textL2 u)) (8) = ⟨4, 8, 8 + (u.length + 2)⟩ := by
    have h := next_at (L := (textL2 u)) (A := [114, 32, 60, 45, 32, 33, 40, 123]) (B := 39 :: (u ++ 39 :: 125 :: 32 :: 123 :: 125 :: 41 :: 32 :: 123 :: 125 :: [])) (p := 8) (by simp [textL2]) (nextT_word u _ hu) (by simp; try omega)
    rw [h]
    congr 1 <;> (simp; try omega)
  have t6 : nextT (bl (textL2 u)) (8 + (u.length + 2)) = ⟨16, 10 + u.length, 11 + u.length⟩ := by
    have h := next_at (L := (textL2 u)) (A := [114, 32, 60, 45, 32, 33, 40, 123, 39] ++ (u ++ ([39]))) (B := 125 :: 32 :: 123 :: 125 :: 41 :: 32 :: 123 :: 125 :: []) (p := 8 + (u.length + 2)) (by simp [textL2]) (nextT_sign 125 _ 16 (by decide) (by decide) (by decide) (by decide) rfl (by decide)) (by simp; try omega)
    rw [h]
    congr 1 <;> (simp; try omega)
  have t7 : nextT (bl (textL2 u)) (11 + u.length) = ⟨15, 12 + u.length, 13 + u.length⟩ := by
    have h := next_at (L := (textL2 u)) (A := [114, 32, 60, 45, 32, 33, 40, 123, 39] ++ (u ++ ([39, 125]))) (B := 32 :: 123 :: 125 :: 41 :: 32 :: 123 :: 125 :: []) (p := 11 + u.length) (by simp [textL2]) (blank_any _ (nextT_sign 123 _ 15 (by decide) (by decide) (by decide) (by decide) rfl (by decide))) (by simp; try omega)
    rw [h]
    congr 1 <;> (simp; try omega)
  have t8 : nextT (bl (textL2 u)) (13 + u.length) = ⟨16, 13 + u.length, 14 + u.length⟩ := by
    have h := next_at (L := (textL2 u)) (A := [114, 32, 60, 45, 32, 33, 40, 123, 39] ++ (u ++ ([39, 125, 32, 123]))) (B := 125 :: 41 :: 32 :: 123 :: 125 :: []) (p := 13 + u.length) (by simp [textL2]) (nextT_sign 125 _ 16 (by decide) (by decide) (by decide) (by decide) rfl (by decide)) (by simp; try omega)
    rw [h]
    congr 1 <;> (simp; try omega)
  have t9 : nextT (bl (textL2 u)) (14 + u.length) = ⟨14, 14 + u.length, 15 + u.length⟩ := by
    have h := next_at (L := (textL2 u)) (A := [114, 32, 60, 45, 32, 33, 40, 123, 39] ++ (u ++ ([39, 125, 32, 123, 125]))) (B := 41 :: 32 :: 123 :: 125 :: []) (p := 14 + u.length) (by simp [textL2]) (nextT_sign 41 _ 14 (by decide) (by decide) (by decide) (by decide) rfl (by decide)) (by simp; try omega)
    rw [h]
    congr 1 <;> (simp; try omega)
  have t10 : nextT (bl (textL2 u)) (15 + u.length) = ⟨15, 16 + u.length, 17 + u.length⟩ := by
    have h := next_at (L := (textL2 u)) (A := [114, 32, 60, 45, 32, 33, 40, 123, 39] ++ (u ++ ([39, 125, 32, 123, 125, 41]))) (B := 32 :: 123 :: 125 :: []) (p := 15 + u.length) (by simp [textL2]) (blank_any _ (nextT_sign 123 _ 15 (by decide) (by decide) (by decide) (by decide) rfl (by decide))) (by simp; try omega)
    rw [h]
    congr 1 <;> (simp; try omega)
  have t11 : nextT (bl (textL2 u)) (17 + u.length) = ⟨16, 17 + u.length, 18 + u.length⟩ := by
    have h := next_at (L := (textL2 u)) (A := [114, 32, 60, 45, 32, 33, 40, 123, 39] ++ (u ++ ([39, 125, 32, 123, 125, 41, 32, 123]))) (B := 125 :: []) (p := 17 + u.length) (by simp [textL2]) (nextT_sign 125 _ 16 (by decide) (by decide) (by decide) (by decide) rfl (by decide)) (by simp; try omega)
    rw [h]
    congr 1 <;> (simp; try omega)
  have t12 : nextT (bl (textL2 u)) (18 + u.length) = ⟨1, 18 + u.length, 18 + u.length⟩ := by
    have h := next_at (L := (textL2 u)) (A := (textL2 u)) (B := []) (p := 18 + u.length) (by simp) nextT_end (by rw [hlen]; omega)
    rw [h, hlen]
    congr 1 <;> omega
  rw [eval_looks2 (bl (textL2 u)) (18 + u.length - 2) (by rw [bl_size, hlen]; omega) (by rw [bl_size, hlen]; omega) _ _ _ _ _ _ _ _ _ _ _ _ _ t0 t1 t2 t3 t4 t5 t6 t7 t8 t9 t10 t11 t12 rfl rfl rfl rfl rfl rfl rfl rfl rfl rfl rfl rfl rfl]
  have b0 : (⟨2, 0, 1⟩ : Tk).of (bl (textL2 u)) = bl [114] := of_bl [] (textL2 u) 1 2
  have b5 : (⟨4, 8, 8 + (u.length + 2)⟩ : Tk).bytes (bl (textL2 u)) = bl u := word_at (A := [114, 32, 60, 45, 32, 33, 40, 123]) (rest := 125 :: 32 :: 123 :: 125 :: 41 :: 32 :: 123 :: 125 :: []) hu rfl rfl
  rw [b0, b5]
  rfl
theorem check_looks2 (bu : ByteArray) : checkF 5 3 [⟨bl [114], 0, nd0 5 [nd0 8 [nd0 5 [⟨4, 0, ByteArray.empty, [⟨0, 0, bu, []⟩]⟩, nd0 3 []]], nd0 3 []], false, 0⟩] = some (0, 0) := by
  cases h1 : bu.toList.isEmpty <;>
    simp [checkF, check2, check3, twiceL, findF, findFrom, firstR, unkN, firstL, fixE, roundE, mayE, setE, fixB, roundB, nd0, begN, begL, or_zero, and_zero, leftL, loopN, h1]
theorem compile_looks2 (u : List UInt8) (hu : u.all isPlain = true) (h5 : u.length ≤ 300) : compileF 5 3 (bl (textL2 u)) = some (0, 0) := by
  unfold compileF
  rw [parse_looks2 u hu h5]
  simp only [bodyL2, check_looks2]
  rfl
theorem build_looks2 (u : List UInt8) : buildF 6 [⟨bl [114], 0, bodyL2 u, false, 0⟩] = [⟨5, ByteArray.empty, [5, 6]⟩, ⟨0, bl u, []⟩, ⟨4, ByteArray.empty, [1]⟩, ⟨3, ByteArray.empty, []⟩, ⟨5, ByteArray.empty, [2, 3]⟩, ⟨8, ByteArray.empty, [4]⟩, ⟨3, ByteArray.empty, []⟩] := by rfl

end Go.Proofs.Ytdofpbbahamkkab
namespace Go.Proofs.Ytdofpbbahamkkab

def textG1 (u w : List UInt8) : List UInt8 := 114 :: 32 :: 60 :: 45 :: 32 :: 123 :: 39 :: (u ++ 39 :: 42 :: 125 :: 32 :: 39 :: (w ++ 39 :: []))
def bodyG1 (u w : List UInt8) : Nd := nd0 5 [⟨4, 0, ByteArray.empty, [⟨9, 8 + u.length, ByteArray.empty, [⟨0, 0, bl u, []⟩]⟩]⟩, ⟨0, 0, bl w, []⟩]
theorem eval_greedy1 (s : ByteArray) (m : Nat) (hs : s.size = m + 2) (hs4 : s.size ≤ 400) (T0 T1 T2 T3 T4 T5 T6 T7 : Tk) (h0 : nextT s 0 = T0) (h1 : nextT s T0.to = T1) (h2 : nextT s T1.to = T2) (h3 : nextT s T2.to = T3) (h4 : nextT s T3.to = T4) (h5 : nextT s T4.to = T5) (h6 : nextT s T5.to = T6) (h7 : nextT s T6.to = T7)
    (k0 : T0.k = 2) (k1 : T1.k = 3) (k2 : T2.k = 15) (k3 : T3.k = 4) (k4 : T4.k = 9) (k5 : T5.k = 16) (k6 : T6.k = 4) (k7 : T7.k = 1) :
    parseF s = ⟨0, [⟨T0.of s, T0.from_, nd0 5 [⟨4, 0, ByteArray.empty, [⟨9, T4.from_, ByteArray.empty, [⟨0, 0, T3.bytes s, []⟩]⟩]⟩, ⟨0, 0, T6.bytes s, []⟩], false, 0⟩], 0⟩ := by
  have hs1 : s.size = (m + 1) + 1 := by omega
  have i3 : ∀ (E : Tk → Int → Res) (d : Int), itemF s E (s.size + 1) T3 d = ⟨0, ⟨9, T4.from_, ByteArray.empty, [⟨0, 0, T3.bytes s, []⟩]⟩, T5, d⟩ := fun E d => by
    rw [item_single (by omega) (by omega), single_leaf (by omega) (by omega), h4, signed_one (by simp [isSign, k4]) (by rw [h5]; exact sign_no (by omega)), leaf_word k3, h5, k4]
    rfl
  have hin : exprN s 12 T3 1 = ⟨0, ⟨9, T4.from_, ByteArray.empty, [⟨0, 0, T3.bytes s, []⟩]⟩, T5, 1⟩ := expr_one (row_one hs1 (atIt_word k3) (i3 _ _) (atIt_no (by omega)) (by simp)) (by omega) (by simp)
  have hex : exprN s 13 T2 0 = ⟨0, nd0 5 [⟨4, 0, ByteArray.empty, [⟨9, T4.from_, ByteArray.empty, [⟨0, 0, T3.bytes s, []⟩]⟩]⟩, ⟨0, 0, T6.bytes s, []⟩], T7, 0⟩ :=
    expr_one (row_two hs (atIt_brace k2) (item_part k2 (by omega) h3 (by omega) (by omega) hin k5 h6 (sign_no (by omega))) (atIt_word k6) (item_wd k6 h7 (sign_no (by omega))) (atIt_no (by omega)) (by simp) (by simp)) (by omega) (by simp [nd0])
  rw [parse_text hs4, h0, hs, parse_step k0 (rule_ok k0 h1 k1 h2 hex), parse_end k7]
  rfl
theorem parse_greedy1 (u w : List UInt8) (hu : u.all isPlain = true) (hw : w.all isPlain = true) (h5 : u.length + w.length ≤ 300) : parseF (bl (textG1 u w)) = ⟨0, [⟨bl [114], 0, bodyG1 u w, false, 0⟩], 0⟩ := by
  have hlen : (textG1 u w).length = 13 + u.length + w.length := by simp [textG1]; try omega
  have t0 : nextT (bl (textG1 u w)) (0) = ⟨2, 0, 1⟩ := by
    have h := next_at (L := (textG1 u w)) (A := []) (B := 114 :: 32 :: 60 :: 45 :: 32 :: 123 :: 39 :: (u ++ 39 :: 42 :: 125 :: 32 :: 39 :: (w ++ 39 :: []))) (p := 0) (by simp [textG1]) (nextT_letter 114 32 _ (by decide) (by decide) rfl) (by simp; try omega)
    rw [h]
    congr 1 <;> (simp; try omega)
  have t1 : nextT (bl (textG1 u w)) (1) = ⟨3, 2, 4⟩ := by
    have h := next_at (L := (textG1 u w)) (A := [114]) (B := 32 :: 60 :: 45 :: 32 :: 123 :: 39 :: (u ++ 39 :: 42 :: 125 :: 32 :: 39 :: (w ++ 39 :: []))) (p := 1) (by simp [textG1]) (blank_any _ (nextT_arrow _)) (by simp; try omega)
    rw [h]
    congr 1 <;> (simp; try omega)
  have t2 : nextT (bl (textG1 u w)) (4) = ⟨15, 5, 6⟩ := by
    have h := next_at (L := (textG1 u w)) (A := [114, 32, 60, 45]) (B := 32 :: 123 :: 39 :: (u ++ 39 :: 42 :: 125 :: 32 :: 39 :: (w ++ 39 :: []))) (p := 4) (by simp [textG1]) (blank_any _ (nextT_sign 123 _ 15 (by decide) (by decide) (by decide) (by decide) rfl (by decide))) (by simp; try omega)
    rw [h]
    congr 1 <;> (simp; try omega)
  have t3 : nextT (bl (textG1 u w)) (6) = ⟨4, 6, 6 + (u.length + 2)⟩ := by
    have h := next_at (L := (textG1 u w)) (A := [114, 32, 60, 45, 32, 123]) (B := 39 :: (u ++ 39 :: 42 :: 125 :: 32 :: 39 :: (w ++ 39 :: []))) (p := 6) (by simp [textG1]) (nextT_word u _ hu) (by simp; try omega)
    rw [h]
    congr 1 <;> (simp; try omega)
  have t4 : nextT (bl (textG1 u w)) (6 + (u.length + 2)) = ⟨9, 8 + u.length, 9 + u.length⟩ := by
    have h := next_at (L := (textG1 u w)) (A := [114, 32, 60, 45, 32, 123, 39] ++ (u ++ ([39]))) (B := 42 :: 125 :: 32 :: 39 :: (w ++ 39 :: [])) (p := 6 + (u.length + 2)) (by simp [textG1]) (nextT_sign 42 _ 9 (by decide) (by decide) (by decide) (by decide) rfl (by decide)) (by simp; try omega)
    rw [h]
    congr 1 <;> (simp; try omega)
  have t5 : nextT (bl (textG1 u w)) (9 + u.length) = ⟨16, 9 + u.length, 10 + u.length⟩ := by
    have h := next_at (L := (textG1 u w)) (A := [114, 32, 60, 45, 32, 123, 39] ++ (u ++ ([39, 42]))) (B := 125 :: 32 :: 39 :: (w ++ 39 :: [])) (p := 9 + u.length) (by simp [textG1]) (nextT_sign 125 _ 16 (by decide) (by decide) (by decide) (by decide) rfl (by decide)) (by simp; try omega)
    rw [h]
    congr 1 <;> (simp; try omega)
  have t6 : nextT (bl (textG1 u w)) (10 + u.length) = ⟨4, 11 + u.length, 11 + u.length + (w.length + 2)⟩ := by
    have h := next_at (L := (textG1 u w)) (A := [114, 32, 60, 45, 32, 123, 39] ++ (u ++ ([39, 42, 125]))) (B := 32 :: 39 :: (w ++ 39 :: [])) (p := 10 + u.length) (by simp [textG1]) (blank_any _ (nextT_word w _ hw)) (by simp; try omega)
    rw [h]
    congr 1 <;> (simp; try omega)
  have t7 : nextT (bl (textG1 u w)) (11 + u.length + (w.length + 2)) = ⟨1, 13 + u.length + w.length, 13 + u.length + w.length⟩ := by
    have h := next_at (L := (textG1 u w)) (A := (textG1 u w)) (B := []) (p := 11 + u.length + (w.length + 2)) (by simp) nextT_end (by rw [hlen]; omega)
    rw [h, hlen]
    congr 1 <;> omega
  rw [eval_greedy1 (bl (textG1 u w)) (13 + u.length + w.length - 2) (by rw [bl_size, hlen]; omega) (by rw [bl_size, hlen]; omega) _ _ _ _ _ _ _ _ t0 t1 t2 t3 t4 t5 t6 t7 rfl rfl rfl rfl rfl rfl rfl rfl]
  have b0 : (⟨2, 0, 1⟩ : Tk).of (bl (textG1 u w)) = bl [114] := of_bl [] (textG1 u w) 1 2
  have b3 : (⟨4, 6, 6 + (u.length + 2)⟩ : Tk).bytes (bl (textG1 u w)) = bl u := word_at (A := [114, 32, 60, 45, 32, 123]) (rest := 42 :: 125 :: 32 :: 39 :: (w ++ 39 :: [])) hu rfl rfl
  have b6 : (⟨4, 11 + u.length, 11 + u.length + (w.length + 2)⟩ : Tk).bytes (bl (textG1 u w)) = bl w := word_at (A := [114, 32, 60, 45, 32, 123, 39] ++ (u ++ [39, 42, 125, 32])) (rest := []) hw (by simp [textG1]) (by simp; omega)
  rw [b0, b3, b6]
  rfl
theorem check_greedy1 (bu bw : ByteArray) (a : Int) (hu : bu.toList.isEmpty = false) : checkF 4 3 [⟨bl [114], 0, nd0 5 [⟨4, 0, ByteArray.empty, [⟨9, a, ByteArray.empty, [⟨0, 0, bu, []⟩]⟩]⟩, ⟨0, 0, bw, []⟩], false, 0⟩] = some (0, 0) := by
  cases h1 : bw.toList.isEmpty <;>
    simp [checkF, check2, check3, twiceL, findF, findFrom, firstR, unkN, firstL, fixE, roundE, mayE, setE, fixB, roundB, nd0, begN, begL, or_zero, and_zero, leftL, loopN, h1, hu]
theorem compile_greedy1 (u w : List UInt8) (hu : u.all isPlain = true) (hw : w.all isPlain = true) (h5 : u.length + w.length ≤ 300) (hn : (bl u).toList.isEmpty = false) : compileF 4 3 (bl (textG1 u w)) = some (0, 0) := by
  unfold compileF
  rw [parse_greedy1 u w hu hw h5]
  simp only [bodyG1, check_greedy1 _ _ _ hn]
  rfl
theorem build_greedy1 (u w : List UInt8) : buildF 5 [⟨bl [114], 0, bodyG1 u w, false, 0⟩] = [⟨5, ByteArray.empty, [3, 4]⟩, ⟨0, bl u, []⟩, ⟨9, ByteArray.empty, [1]⟩, ⟨4, ByteArray.empty, [2]⟩, ⟨0, bl w, []⟩] := by rfl

def textG2 (w : List UInt8) (c : UInt8) : List UInt8 := 114 :: 32 :: 60 :: 45 :: 32 :: 110 :: 32 :: 39 :: (w ++ 39 :: 32 :: 110 :: 32 :: 60 :: 45 :: 32 :: 123 :: 120 :: 58 :: 32 :: 91 :: c :: 93 :: 43 :: 125 :: [])
def bodyG2 (w : List UInt8) : Nd := nd0 5 [⟨2, 5, bl [110], []⟩, ⟨0, 0, bl w, []⟩]
def bodyG2n (w : List UInt8) (c : UInt8) : Nd := ⟨4, 0, bl [120], [⟨10, 22 + w.length, ByteArray.empty, [⟨1, 0, bl [c], []⟩]⟩]⟩
theorem item_named {s : ByteArray} {E : Tk → Int → Res} {t t1 t2 t3 t4 t5 : Tk} {d : Int} {n : Nd} {k : Nat} (h : t.k = 15) (hd : d < 12) (h1 : nextT s t.to = t1) (hk : t1.k = 2) (h2 : nextT s t1.to = t2) (hk2 : t2.k = 17) (h3 : nextT s t2.to = t3) (hE : E t3 (d + 1) = ⟨0, n, t4, d + 1⟩) (h4 : t4.k = 16) (h5 : nextT s t4.to = t5) (hs : isSign t5 = false) :
    itemF s E (k + 1) t d = ⟨0, ⟨4, 0, t1.of s, [n]⟩, t5, d⟩ := by
  have hb : nmBefore s t1 17 = true := by unfold nmBefore; simp [hk, h2, hk2]
  rw [item_single (by omega) (by omega), single_part h hd (by rw [h1]; omega) (by rw [h1, namedT_yes hb, h2, h3]; exact hE) h4, h5, h1, namedN_yes hb, signed_no hs]
/-- a set of one letter -/
theorem nextT_set1 (c : UInt8) (l : List UInt8) (hc : isNameC c.toNat = true) : nextT (bl (91 :: c :: 93 :: l)) 0 = ⟨5, 0, 3⟩ := by
  refine nextT_head 91 _ 5 3 rfl ?_
  unfold readT
  rw [bAt_cons, if_neg (by decide), if_neg (by decide), if_neg (by decide), if_pos (by rfl)]
  have hcr : (97 ≤ c.toNat ∧ c.toNat ≤ 122) ∨ (48 ≤ c.toNat ∧ c.toNat ≤ 57) := by simp [isNameC] at hc; omega
  have a1 : bAt (bl (91 :: c :: 93 :: l)) 1 = c.toNat := by have := bAt_bl (91 :: c :: 93 :: l) 1; simpa using this
  have a2 : bAt (bl (91 :: c :: 93 :: l)) 2 = 93 := by have := bAt_bl (91 :: c :: 93 :: l) 2; simpa using this
  have hsc : setC (bl (91 :: c :: 93 :: l)) 1 = ((c.toNat : Int), 2) := by
    unfold setC plainC isSM
    rw [a1, if_neg (by omega), if_neg (by simp; omega)]
    rfl
  have hm : member (bl (91 :: c :: 93 :: l)) 1 = ((c.toNat : Int), (c.toNat : Int), 2) := by
    rw [member_1 (.inr (by rw [hsc]; show bAt _ 2 ≠ 45; rw [a2]; decide)), hsc]
  unfold readSt
  have hf : setFrom (bl (91 :: c :: 93 :: l)) 0 = 1 := by
    unfold setFrom
    rw [if_neg (by show ¬ bAt _ 1 = 94; rw [a1]; omega)]
    rfl
  have he : setEnd (bl (91 :: c :: 93 :: l)) 1 ((bl (91 :: c :: 93 :: l)).size + 2 - (0 : Int).toNat) 1 = some 2 := by
    rw [bl_size]
    show setEnd _ 1 (l.length + 1 + 1 + 1 + 1 + 1) 1 = some 2
    rw [setEnd, if_neg (by omega), hm, if_neg (by show ¬ (c.toNat : Int) < 0; omega)]
    show setEnd _ 1 (l.length + 1 + 1 + 1 + 1) 2 = some 2
    rw [setEnd, if_pos ⟨by decide, a2⟩]
  rw [hf, he]
  rfl
theorem filter_one (c : UInt8) : ((List.range 256).filter fun k => isIn [((c.toNat : Int), (c.toNat : Int))] k == true).map UInt8.ofNat = [c] := by
  have h : ∀ n : Nat, n < 256 → (((List.range 256).filter fun k => isIn [((n : Int), (n : Int))] k == true).map UInt8.ofNat) = [UInt8.ofNat n] := by decide +kernel
  have := h c.toNat c.toNat_lt
  rw [UInt8.ofNat_toNat] at this
  exact this
theorem set1_bytes {L A rest : List UInt8} {c : UInt8} {p e : Int} (hc : isNameC c.toNat = true) (h : L = A ++ 91 :: c :: 93 :: rest) (hp : p = A.length) (he : e = A.length + 3) : (⟨5, p, e⟩ : Tk).bytes (bl L) = bl [c] := by
  rw [bytes_5 rfl, of_at 3 h hp (by rw [he]; rfl)]
  show (⟨(setBs (bl [91, c, 93])).toArray⟩ : ByteArray) = bl [c]
  have hcr : (97 ≤ c.toNat ∧ c.toNat ≤ 122) ∨ (48 ≤ c.toNat ∧ c.toNat ≤ 57) := by simp [isNameC] at hc; omega
  have a1 : bAt (bl [91, c, 93]) 1 = c.toNat := by have := bAt_bl [91, c, 93] 1; simpa using this
  have a2 : bAt (bl [91, c, 93]) 2 = 93 := by have := bAt_bl [91, c, 93] 2; simpa using this
  have hsc : setC (bl [91, c, 93]) 1 = ((c.toNat : Int), 2) := by
    unfold setC plainC isSM
    rw [a1, if_neg (by omega), if_neg (by simp; omega)]
    rfl
  have hsc2 : setC (bl [91, c, 93]) 2 = (-1, 2) := by
    unfold setC plainC isSM
    rw [a2, if_neg (by omega), if_pos (by simp)]
  have hm : member (bl [91, c, 93]) 1 = ((c.toNat : Int), (c.toNat : Int), 2) := by
    rw [member_1 (.inr (by rw [hsc]; show bAt _ 2 ≠ 45; rw [a2]; decide)), hsc]
  have hm2 : member (bl [91, c, 93]) 2 = (-1, -1, 2) := by
    rw [member_1 (.inl (by rw [hsc2]; decide)), hsc2]
  unfold setBs
  rw [if_neg (by rw [a1]; omega)]
  have hmb : membs (bl [91, c, 93]) ((bl [91, c, 93]).size + 1) 1 = [((c.toNat : Int), (c.toNat : Int))] := by
    rw [bl_size]
    show membs _ (3 + 1) 1 = _
    rw [membs, hm, if_neg (by show ¬ (c.toNat : Int) < 0; omega)]
    show ((c.toNat : Int), (c.toNat : Int)) :: membs _ 3 2 = _
    rw [membs, hm2, if_pos (by decide)]
  rw [hmb, bytesOf, filter_one]
  rfl
theorem eval_greedy2 (s : ByteArray) (m : Nat) (hs : s.size = m + 2) (hs4 : s.size ≤ 400) (T0 T1 T2 T3 T4 T5 T6 T7 T8 T9 T10 T11 T12 : Tk) (h0 : nextT s 0 = T0) (h1 : nextT s T0.to = T1) (h2 : nextT s T1.to = T2) (h3 : nextT s T2.to = T3) (h4 : nextT s T3.to = T4) (h5 : nextT s T4.to = T5) (h6 : nextT s T5.to = T6) (h7 : nextT s T6.to = T7) (h8 : nextT s T7.to = T8) (h9 : nextT s T8.to = T9) (h10 : nextT s T9.to = T10) (h11 : nextT s T10.to = T11) (h12 : nextT s T11.to = T12)
    (k0 : T0.k = 2) (k1 : T1.k = 3) (k2 : T2.k = 2) (k3 : T3.k = 4) (k4 : T4.k = 2) (k5 : T5.k = 3) (k6 : T6.k = 15) (k7 : T7.k = 2) (k8 : T8.k = 17) (k9 : T9.k = 5) (k10 : T10.k = 10) (k11 : T11.k = 16) (k12 : T12.k = 1) :
    parseF s = ⟨0, [⟨T0.of s, T0.from_, nd0 5 [⟨2, T2.from_, T2.of s, []⟩, ⟨0, 0, T3.bytes s, []⟩], false, 0⟩, ⟨T4.of s, T4.from_, ⟨4, 0, T7.of s, [⟨10, T10.from_, ByteArray.empty, [⟨1, 0, T9.bytes s, []⟩]⟩]⟩, false, 0⟩], 0⟩ := by
  have hs1 : s.size = (m + 1) + 1 := by omega
  have i2 : itemF s (exprN s 12) (s.size + 1) T2 0 = ⟨0, ⟨2, T2.from_, T2.of s, []⟩, T3, 0⟩ := by rw [item_leaf (.inl k2) (by rw [h3]; exact sign_no (by omega)), leaf_name k2, h3]
  have hex : exprN s 13 T2 0 = ⟨0, nd0 5 [⟨2, T2.from_, T2.of s, []⟩, ⟨0, 0, T3.bytes s, []⟩], T4, 0⟩ :=
    expr_one (row_two hs (atIt_name k2 (by rw [h3]; omega)) i2 (atIt_word k3) (item_wd k3 h4 (sign_no (by omega))) (atIt_rule k4 (by rw [h5]; exact k5)) (by simp) (by simp)) (by omega) (by simp [nd0])
  have i9 : ∀ (E : Tk → Int → Res) (d : Int), itemF s E (s.size + 1) T9 d = ⟨0, ⟨10, T10.from_, ByteArray.empty, [⟨1, 0, T9.bytes s, []⟩]⟩, T11, d⟩ := fun E d => by
    rw [item_single (by omega) (by omega), single_leaf (by omega) (by omega), h10, signed_one (by simp [isSign, k10]) (by rw [h11]; exact sign_no (by omega)), leaf_set (.inl k9), h11, k10]
    rfl
  have hin : exprN s 12 T9 1 = ⟨0, ⟨10, T10.from_, ByteArray.empty, [⟨1, 0, T9.bytes s, []⟩]⟩, T11, 1⟩ := expr_one (row_one hs1 (atIt_set k9) (i9 _ _) (atIt_no (by omega)) (by simp)) (by omega) (by simp)
  have hex2 : exprN s 13 T6 0 = ⟨0, ⟨4, 0, T7.of s, [⟨10, T10.from_, ByteArray.empty, [⟨1, 0, T9.bytes s, []⟩]⟩]⟩, T12, 0⟩ :=
    expr_one (row_one hs1 (atIt_brace k6) (item_named k6 (by omega) h7 k7 h8 k8 h9 hin k11 h12 (sign_no (by omega))) (atIt_no (by omega)) (by simp)) (by omega) (by simp)
  rw [parse_text hs4, h0, hs, parse_step k0 (rule_ok k0 h1 k1 h2 hex), parse_step k4 (rule_ok k4 h5 k5 h6 hex2), parse_end k12]
  rfl
theorem parse_greedy2 (w : List UInt8) (c : UInt8) (hw : w.all isPlain = true) (hc : isNameC c.toNat = true) (h5 : w.length ≤ 300) : parseF (bl (textG2 w c)) = ⟨0, [⟨bl [114], 0, bodyG2 w, false, 0⟩, ⟨bl [110], 10 + w.length, bodyG2n w c, false, 0⟩], 0⟩ := by
  have hlen : (textG2 w c).length = 24 + w.length := by simp [textG2]; try omega
  have t0 : nextT (bl (textG2 w c)) (0) = ⟨2, 0, 1⟩ := by
    have h := next_at (L := (textG2 w c)) (A := []) (B := 114 :: 32 :: 60 :: 45 :: 32 :: 110 :: 32 :: 39 :: (w ++ 39 :: 32 :: 110 :: 32 :: 60 :: 45 :: 32 :: 123 :: 120 :: 58 :: 32 :: 91 :: c :: 93 :: 43 :: 125 :: [])) (p := 0) (by simp [textG2]) (nextT_letter 114 32 _ (by decide) (by decide) rfl) (by simp; try omega)
    rw [h]
    congr 1 <;> (simp; try omega)
  have t1 : nextT (bl (textG2 w c)) (1) = ⟨3, 2, 4⟩ := by
    have h := next_at (L := (textG2 w c)) (A := [114]) (B := 32 :: 60 :: 45 :: 32 :: 110 :: 32 :: 39 :: (w ++ 39 :: 32 :: 110 :: 32 :: 60 :: 45 :: 32 :: 123 :: 120 :: 58 :: 32 :: 91 :: c :: 93 :: 43 :: 125 :: [])) (p := 1) (by simp [textG2]) (blank_any _ (nextT_arrow _)) (by simp; try omega)
    rw [h]
    congr 1 <;> (simp; try omega)
  have t2 : nextT (bl (textG2 w c)) (4) = ⟨2, 5, 6⟩ := by
    have h := next_at (L := (textG2 w c)) (A := [114, 32, 60, 45]) (B := 32 :: 110 :: 32 :: 39 :: (w ++ 39 :: 32 :: 110 :: 32 :: 60 :: 45 :: 32 :: 123 :: 120 :: 58 :: 32 :: 91 :: c :: 93 :: 43 :: 125 :: [])) (p := 4) (by simp [textG2]) (blank_any _ (nextT_letter 110 32 _ (by decide) (by decide) rfl)) (by simp; try omega)
    rw [h]
    congr 1 <;> (simp; try omega)
  have t3 : nextT (bl (textG2 w c)) (6) = ⟨4, 7, 7 + (w.length + 2)⟩ := by
    have h := next_at (L := (textG2 w c)) (A := [114, 32, 60, 45, 32, 110]) (B := 32 :: 39 :: (w ++ 39 :: 32 :: 110 :: 32 :: 60 :: 45 :: 32 :: 123 :: 120 :: 58 :: 32 :: 91 :: c :: 93 :: 43 :: 125 :: [])) (p := 6) (by simp [textG2]) (blank_any _ (nextT_word w _ hw)) (by simp; try omega)
    rw [h]
    congr 1 <;> (simp; try omega)
  have t4 : nextT (bl (textG2 w c)) (7 + (w.length + 2)) = ⟨2, 10 + w.length, 11 + w.length⟩ := by
    have h := next_at (L := (textG2 w c)) (A := [114, 32, 60, 45, 32, 110, 32, 39] ++ (w ++ ([39]))) (B := 32 :: 110 :: 32 :: 60 :: 45 :: 32 :: 123 :: 120 :: 58 :: 32 :: 91 :: c :: 93 :: 43 :: 125 :: []) (p := 7 + (w.length + 2)) (by simp [textG2]) (blank_any _ (nextT_letter 110 32 _ (by decide) (by decide) rfl)) (by simp; try omega)
    rw [h]
    congr 1 <;> (simp; try omega)
  have t5 : nextT (bl (textG2 w c)) (11 + w.length) = ⟨3, 12 + w.length, 14 + w.length⟩ := by
    have h := next_at (L := (textG2 w c)) (A := [114, 32, 60, 45, 32, 110, 32, 39] ++ (w ++ ([39, 32, 110]))) (B := 32 :: 60 :: 45 :: 32 :: 123 :: 120 :: 58 :: 32 :: 91 :: c :: 93 :: 43 :: 125 :: []) (p := 11 + w.length) (by simp [textG2]) (blank_any _ (nextT_arrow _)) (by simp; try omega)
    rw [h]
    congr 1 <;> (simp; try omega)
  have t6 : nextT (bl (textG2 w c)) (14 + w.length) = ⟨15, 15 + w.length, 16 + w.length⟩ := by
    have h := next_at (L := (textG2 w c)) (A := [114, 32, 60, 45, 32, 110, 32, 39] ++ (w ++ ([39, 32, 110, 32, 60, 45]))) (B := 32 :: 123 :: 120 :: 58 :: 32 :: 91 :: c :: 93 :: 43 :: 125 :: []) (p := 14 + w.length) (by simp [textG2]) (blank_any _ (nextT_sign 123 _ 15 (by decide) (by decide) (by decide) (by decide) rfl (by decide))) (by simp; try omega)
    rw [h]
    congr 1 <;> (simp; try omega)
  have t7 : nextT (bl (textG2 w c)) (16 + w.length) = ⟨2, 16 + w.length, 17 + w.length⟩ := by
    have h := next_at (L := (textG2 w c)) (A := [114, 32, 60, 45, 32, 110, 32, 39] ++ (w ++ ([39, 32, 110, 32, 60, 45, 32, 123]))) (B := 120 :: 58 :: 32 :: 91 :: c :: 93 :: 43 :: 125 :: []) (p := 16 + w.length) (by simp [textG2]) (nextT_letter 120 58 _ (by decide) (by decide) rfl) (by simp; try omega)
    rw [h]
    congr 1 <;> (simp; try omega)
  have t8 : nextT (bl (textG2 w c)) (17 + w.length) = ⟨17, 17 + w.length, 18 + w.length⟩ := by
    have h := next_at (L := (textG2 w c)) (A := [114, 32, 60, 45, 32, 110, 32, 39] ++ (w ++ ([39, 32, 110, 32, 60, 45, 32, 123, 120]))) (B := 58 :: 32 :: 91 :: c :: 93 :: 43 :: 125 :: []) (p := 17 + w.length) (by simp [textG2]) (nextT_sign 58 _ 17 (by decide) (by decide) (by decide) (by decide) rfl (by decide)) (by simp; try omega)
    rw [h]
    congr 1 <;> (simp; try omega)
  have t9 : nextT (bl (textG2 w c)) (18 + w.length) = ⟨5, 19 + w.length, 22 + w.length⟩ := by
    have h := next_at (L := (textG2 w c)) (A := [114, 32, 60, 45, 32, 110, 32, 39] ++ (w ++ ([39, 32, 110, 32, 60, 45, 32, 123, 120, 58]))) (B := 32 :: 91 :: c :: 93 :: 43 :: 125 :: []) (p := 18 + w.length) (by simp [textG2]) (blank_any _ (nextT_set1 c _ hc)) (by simp; try omega)
    rw [h]
    congr 1 <;> (simp; try omega)
  have t10 : nextT (bl (textG2 w c)) (22 + w.length) = ⟨10, 22 + w.length, 23 + w.length⟩ := by
    have h := next_at (L := (textG2 w c)) (A := [114, 32, 60, 45, 32, 110, 32, 39] ++ (w ++ ([39, 32, 110, 32, 60, 45, 32, 123, 120, 58, 32, 91, c, 93]))) (B := 43 :: 125 :: []) (p := 22 + w.length) (by simp [textG2]) (nextT_sign 43 _ 10 (by decide) (by decide) (by decide) (by decide) rfl (by decide)) (by simp; try omega)
    rw [h]
    congr 1 <;> (simp; try omega)
  have t11 : nextT (bl (textG2 w c)) (23 + w.length) = ⟨16, 23 + w.length, 24 + w.length⟩ := by
    have h := next_at (L := (textG2 w c)) (A := [114, 32, 60, 45, 32, 110, 32, 39] ++ (w ++ ([39, 32, 110, 32, 60, 45, 32, 123, 120, 58, 32, 91, c, 93, 43]))) (B := 125 :: []) (p := 23 + w.length) (by simp [textG2]) (nextT_sign 125 _ 16 (by decide) (by decide) (by decide) (by decide) rfl (by decide)) (by simp; try omega)
    rw [h]
    congr 1 <;> (simp; try omega)
  have t12 : nextT (bl (textG2 w c)) (24 + w.length) = ⟨1, 24 + w.length, 24 + w.length⟩ := by
    have h := next_at (L := (textG2 w c)) (A := (textG2 w c)) (B := []) (p := 24 + w.length) (by simp) nextT_end (by rw [hlen]; omega)
    rw [h, hlen]
    congr 1 <;> omega
  rw [eval_greedy2 (bl (textG2 w c)) (24 + w.length - 2) (by rw [bl_size, hlen]; omega) (by rw [bl_size, hlen]; omega) _ _ _ _ _ _ _ _ _ _ _ _ _ t0 t1 t2 t3 t4 t5 t6 t7 t8 t9 t10 t11 t12 rfl rfl rfl rfl rfl rfl rfl rfl rfl rfl rfl rfl rfl]
  have b0 : (⟨2, 0, 1⟩ : Tk).of (bl (textG2 w c)) = bl [114] := of_bl [] (textG2 w c) 1 2
  have b2 : (⟨2, 5, 6⟩ : Tk).of (bl (textG2 w c)) = bl [110] := of_bl [114, 32, 60, 45, 32] _ 1 2
  have b3 : (⟨4, 7, 7 + (w.length + 2)⟩ : Tk).bytes (bl (textG2 w c)) = bl w := word_at (A := [114, 32, 60, 45, 32, 110, 32]) (rest := 32 :: 110 :: 32 :: 60 :: 45 :: 32 :: 123 :: 120 :: 58 :: 32 :: 91 :: c :: 93 :: 43 :: 125 :: []) hw rfl rfl
  have b4 : (⟨2, 10 + w.length, 11 + w.length⟩ : Tk).of (bl (textG2 w c)) = bl [110] := of_at (A := [114, 32, 60, 45, 32, 110, 32, 39] ++ (w ++ [39, 32])) (X := 110 :: 32 :: 60 :: 45 :: 32 :: 123 :: 120 :: 58 :: 32 :: 91 :: c :: 93 :: 43 :: 125 :: []) 1 (by simp [textG2]) (by simp; omega) (by simp; omega)
  have b7 : (⟨2, 16 + w.length, 17 + w.length⟩ : Tk).of (bl (textG2 w c)) = bl [120] := of_at (A := [114, 32, 60, 45, 32, 110, 32, 39] ++ (w ++ [39, 32, 110, 32, 60, 45, 32, 123])) (X := 120 :: 58 :: 32 :: 91 :: c :: 93 :: 43 :: 125 :: []) 1 (by simp [textG2]) (by simp; omega) (by simp; omega)
  have b9 : (⟨5, 19 + w.length, 22 + w.length⟩ : Tk).bytes (bl (textG2 w c)) = bl [c] := set1_bytes (A := [114, 32, 60, 45, 32, 110, 32, 39] ++ (w ++ [39, 32, 110, 32, 60, 45, 32, 123, 120, 58, 32])) (rest := 43 :: 125 :: []) hc (by simp [textG2]) (by simp; omega) (by simp; omega)
  rw [b0, b2, b3, b4, b7, b9]
  rfl
theorem ne_rn : ¬ (bl [114]).toList = (bl [110]).toList := by decide +kernel
theorem or_1 : orI (bitI 1) 0 = 2 := by decide +kernel
theorem or_2 : orI 0 2 = 2 := by decide +kernel
theorem and_20 : bits BinOp.and IntKind.i64 2 (bitI 0) = 0 := by decide +kernel
theorem and_01 : bits BinOp.and IntKind.i64 0 (bitI 1) = 0 := by decide +kernel
theorem check_greedy2 (bw bc : ByteArray) (a b d : Int) : checkF 4 4 [⟨bl [114], 0, nd0 5 [⟨2, a, bl [110], []⟩, ⟨0, 0, bw, []⟩], false, 0⟩, ⟨bl [110], b, ⟨4, 0, bl [120], [⟨10, d, ByteArray.empty, [⟨1, 0, bc, []⟩]⟩]⟩, false, 0⟩] = some (0, 0) := by
  cases h1 : bw.toList.isEmpty <;>
    simp [checkF, check2, check3, twiceL, findF, findFrom, firstR, unkN, firstL, fixE, roundE, mayE, setB, emptyAt, beginsAt, fixB, roundB, nd0, begN, begL, or_zero, or_1, or_2, and_20, and_01, ne_rn, leftL, loopN, h1]
theorem compile_greedy2 (w : List UInt8) (c : UInt8) (hw : w.all isPlain = true) (hc : isNameC c.toNat = true) (h5 : w.length ≤ 300) : compileF 4 4 (bl (textG2 w c)) = some (0, 0) := by
  unfold compileF
  rw [parse_greedy2 w c hw hc h5]
  simp only [bodyG2, bodyG2n, check_greedy2]
  rfl
theorem build_greedy2 (w : List UInt8) (c : UInt8) (b : Int) : buildF 5 [⟨bl [114], 0, bodyG2 w, false, 0⟩, ⟨bl [110], b, bodyG2n w c, false, 0⟩] = [⟨5, ByteArray.empty, [2, 3]⟩, ⟨4, bl [120], [5]⟩, ⟨2, bl [110], [1]⟩, ⟨0, bl w, []⟩, ⟨1, bl [c], []⟩, ⟨10, ByteArray.empty, [4]⟩] := by
  simp [buildF, buildL, termN, termsL, baseK, bodyG2, bodyG2n, nd0, findF, findFrom, Tm.zero, ne_rn, List.replicate]
end Go.Proofs.Ytdofpbbahamkkab
namespace Go.Proofs.Ytdofpbbahamkkab

def hexb (v : Nat) : UInt8 := if v < 10 then UInt8.ofNat (48 + v) else UInt8.ofNat (87 + v)
theorem hexb_digit {s : ByteArray} {i : Int} {v : Nat} (hv : v < 16) (h : bAt s i = (hexb v).toNat) : digit s i = v := by
  have key : ∀ v : Nat, v < 16 → (10 ≤ v → ((hexb v).toNat : Int) = 87 + v) ∧ (v < 10 → ((hexb v).toNat : Int) = 48 + v) := by decide
  have hk := key v hv
  unfold digit
  rw [h]
  by_cases h10 : v < 10
  · rw [hk.2 h10, if_pos (by omega)]; omega
  · rw [hk.1 (by omega), if_neg (by omega), if_pos (by omega)]; omega
theorem setC_hex {s : ByteArray} {i : Int} {v1 v2 : Nat} (h1 : v1 < 16) (h2 : v2 < 16) (a0 : bAt s i = 92) (a1 : bAt s (i + 1) = 120) (a2 : bAt s (i + 2) = (hexb v1).toNat) (a3 : bAt s (i + 3) = (hexb v2).toNat) : setC s i = (((16 * v1 + v2 : Nat) : Int), i + 4) := by
  unfold setC
  rw [if_pos a0]
  unfold escC isSM
  rw [a1, if_neg (by simp), if_neg (by simp), hexb_digit h1 a2, hexb_digit h2 a3, if_neg (by omega)]
  congr 1
  omega
theorem setC_close {s : ByteArray} {i : Int} (a : bAt s i = 93) : setC s i = (-1, i) := by
  unfold setC plainC isSM
  rw [a, if_neg (by omega), if_pos (by simp)]
theorem member_hex {s : ByteArray} {i : Int} {v1 v2 v3 v4 : Nat} (h1 : v1 < 16) (h2 : v2 < 16) (h3 : v3 < 16) (h4 : v4 < 16) (hab : 16 * v1 + v2 ≤ 16 * v3 + v4) (a0 : bAt s i = 92) (a1 : bAt s (i + 1) = 120) (a2 : bAt s (i + 2) = (hexb v1).toNat) (a3 : bAt s (i + 3) = (hexb v2).toNat)
    (a4 : bAt s (i + 4) = 45) (a5 : bAt s (i + 5) = 92) (a6 : bAt s (i + 6) = 120) (a7 : bAt s (i + 7) = (hexb v3).toNat) (a8 : bAt s (i + 8) = (hexb v4).toNat) :
    member s i = (((16 * v1 + v2 : Nat) : Int), ((16 * v3 + v4 : Nat) : Int), i + 9) := by
  have e1 := setC_hex h1 h2 a0 a1 a2 a3
  have e2 := setC_hex (i := i + 5) h3 h4 a5 (by rw [show i + 5 + 1 = i + 6 from by omega]; exact a6) (by rw [show i + 5 + 2 = i + 7 from by omega]; exact a7) (by rw [show i + 5 + 3 = i + 8 from by omega]; exact a8)
  have e3 : (setC s i).2 + 1 = i + 5 := by rw [e1]; show i + 4 + 1 = i + 5; omega
  rw [member_3 (by rw [e1]; show (0 : Int) ≤ _; omega) (by rw [e1]; exact a4) (by rw [e3, e1, e2]; show ((16 * v1 + v2 : Nat) : Int) ≤ ((16 * v3 + v4 : Nat) : Int); omega), e3, e1, e2]
  show (_, _, i + 5 + 4) = (_, _, i + 9)
  rw [show i + 5 + 4 = i + 9 from by omega]
theorem member_close {s : ByteArray} {i : Int} (a : bAt s i = 93) : member s i = (-1, -1, i) := by
  rw [member_1 (.inl (by rw [setC_close a]; show (-1 : Int) < 0; omega)), setC_close a]

theorem nextT_S1 (v1 v2 v3 v4 : Nat) (h1 : v1 < 16) (h2 : v2 < 16) (h3 : v3 < 16) (h4 : v4 < 16) (hab : 16 * v1 + v2 ≤ 16 * v3 + v4) (l : List UInt8) : nextT (bl (91 :: 92 :: 120 :: hexb v1 :: hexb v2 :: 45 :: 92 :: 120 :: hexb v3 :: hexb v4 :: 93 :: l)) 0 = ⟨5, 0, 11⟩ := by
  have a0 : bAt (bl (91 :: 92 :: 120 :: hexb v1 :: hexb v2 :: 45 :: 92 :: 120 :: hexb v3 :: hexb v4 :: 93 :: l)) 1 = 92 := by have := bAt_bl (91 :: 92 :: 120 :: hexb v1 :: hexb v2 :: 45 :: 92 :: 120 :: hexb v3 :: hexb v4 :: 93 :: l) 1; simpa using this
  have a1 : bAt (bl (91 :: 92 :: 120 :: hexb v1 :: hexb v2 :: 45 :: 92 :: 120 :: hexb v3 :: hexb v4 :: 93 :: l)) 2 = 120 := by have := bAt_bl (91 :: 92 :: 120 :: hexb v1 :: hexb v2 :: 45 :: 92 :: 120 :: hexb v3 :: hexb v4 :: 93 :: l) 2; simpa using this
  have a2 : bAt (bl (91 :: 92 :: 120 :: hexb v1 :: hexb v2 :: 45 :: 92 :: 120 :: hexb v3 :: hexb v4 :: 93 :: l)) 3 = (hexb v1).toNat := by have := bAt_bl (91 :: 92 :: 120 :: hexb v1 :: hexb v2 :: 45 :: 92 :: 120 :: hexb v3 :: hexb v4 :: 93 :: l) 3; simpa using this
  have a3 : bAt (bl (91 :: 92 :: 120 :: hexb v1 :: hexb v2 :: 45 :: 92 :: 120 :: hexb v3 :: hexb v4 :: 93 :: l)) 4 = (hexb v2).toNat := by have := bAt_bl (91 :: 92 :: 120 :: hexb v1 :: hexb v2 :: 45 :: 92 :: 120 :: hexb v3 :: hexb v4 :: 93 :: l) 4; simpa using this
  have a4 : bAt (bl (91 :: 92 :: 120 :: hexb v1 :: hexb v2 :: 45 :: 92 :: 120 :: hexb v3 :: hexb v4 :: 93 :: l)) 5 = 45 := by have := bAt_bl (91 :: 92 :: 120 :: hexb v1 :: hexb v2 :: 45 :: 92 :: 120 :: hexb v3 :: hexb v4 :: 93 :: l) 5; simpa using this
  have a5 : bAt (bl (91 :: 92 :: 120 :: hexb v1 :: hexb v2 :: 45 :: 92 :: 120 :: hexb v3 :: hexb v4 :: 93 :: l)) 6 = 92 := by have := bAt_bl (91 :: 92 :: 120 :: hexb v1 :: hexb v2 :: 45 :: 92 :: 120 :: hexb v3 :: hexb v4 :: 93 :: l) 6; simpa using this
  have a6 : bAt (bl (91 :: 92 :: 120 :: hexb v1 :: hexb v2 :: 45 :: 92 :: 120 :: hexb v3 :: hexb v4 :: 93 :: l)) 7 = 120 := by have := bAt_bl (91 :: 92 :: 120 :: hexb v1 :: hexb v2 :: 45 :: 92 :: 120 :: hexb v3 :: hexb v4 :: 93 :: l) 7; simpa using this
  have a7 : bAt (bl (91 :: 92 :: 120 :: hexb v1 :: hexb v2 :: 45 :: 92 :: 120 :: hexb v3 :: hexb v4 :: 93 :: l)) 8 = (hexb v3).toNat := by have := bAt_bl (91 :: 92 :: 120 :: hexb v1 :: hexb v2 :: 45 :: 92 :: 120 :: hexb v3 :: hexb v4 :: 93 :: l) 8; simpa using this
  have a8 : bAt (bl (91 :: 92 :: 120 :: hexb v1 :: hexb v2 :: 45 :: 92 :: 120 :: hexb v3 :: hexb v4 :: 93 :: l)) 9 = (hexb v4).toNat := by have := bAt_bl (91 :: 92 :: 120 :: hexb v1 :: hexb v2 :: 45 :: 92 :: 120 :: hexb v3 :: hexb v4 :: 93 :: l) 9; simpa using this
  have a9 : bAt (bl (91 :: 92 :: 120 :: hexb v1 :: hexb v2 :: 45 :: 92 :: 120 :: hexb v3 :: hexb v4 :: 93 :: l)) 10 = 93 := by have := bAt_bl (91 :: 92 :: 120 :: hexb v1 :: hexb v2 :: 45 :: 92 :: 120 :: hexb v3 :: hexb v4 :: 93 :: l) 10; simpa using this
  skip
  have hm := member_hex (s := bl (91 :: 92 :: 120 :: hexb v1 :: hexb v2 :: 45 :: 92 :: 120 :: hexb v3 :: hexb v4 :: 93 :: l)) (i := 1) h1 h2 h3 h4 hab a0 a1 a2 a3 a4 a5 a6 a7 a8
  refine nextT_head 91 _ 5 11 rfl ?_
  unfold readT
  rw [bAt_cons, if_neg (by decide), if_neg (by decide), if_neg (by decide), if_pos (by rfl)]
  have hf : setFrom (bl (91 :: 92 :: 120 :: hexb v1 :: hexb v2 :: 45 :: 92 :: 120 :: hexb v3 :: hexb v4 :: 93 :: l)) 0 = 1 := by
    unfold setFrom
    rw [if_neg (by show ¬ bAt _ 1 = 94; rw [a0]; decide)]
    rfl
  have he : setEnd (bl (91 :: 92 :: 120 :: hexb v1 :: hexb v2 :: 45 :: 92 :: 120 :: hexb v3 :: hexb v4 :: 93 :: l)) 1 ((bl (91 :: 92 :: 120 :: hexb v1 :: hexb v2 :: 45 :: 92 :: 120 :: hexb v3 :: hexb v4 :: 93 :: l)).size + 2 - (0 : Int).toNat) 1 = some 10 := by
    rw [bl_size]
    show setEnd _ 1 (l.length + 11 + 1 + 1) 1 = some 10
    rw [setEnd, if_neg (by omega), hm, if_neg (by show ¬ ((16 * v1 + v2 : Nat) : Int) < 0; omega)]
    show setEnd _ 1 (l.length + 11 + 1) 10 = some 10
    rw [setEnd, if_pos ⟨by decide, a9⟩]
  unfold readSt
  rw [hf, he]
  rfl
theorem bytes_S1 (v1 v2 v3 v4 : Nat) (h1 : v1 < 16) (h2 : v2 < 16) (h3 : v3 < 16) (h4 : v4 < 16) (hab : 16 * v1 + v2 ≤ 16 * v3 + v4) : setBs (bl (91 :: 92 :: 120 :: hexb v1 :: hexb v2 :: 45 :: 92 :: 120 :: hexb v3 :: hexb v4 :: 93 :: [])) = bytesOf (isIn [(((16 * v1 + v2 : Nat) : Int), ((16 * v3 + v4 : Nat) : Int))]) true := by
  have a0 : bAt (bl (91 :: 92 :: 120 :: hexb v1 :: hexb v2 :: 45 :: 92 :: 120 :: hexb v3 :: hexb v4 :: 93 :: [])) 1 = 92 := by have := bAt_bl (91 :: 92 :: 120 :: hexb v1 :: hexb v2 :: 45 :: 92 :: 120 :: hexb v3 :: hexb v4 :: 93 :: []) 1; simpa using this
  have a1 : bAt (bl (91 :: 92 :: 120 :: hexb v1 :: hexb v2 :: 45 :: 92 :: 120 :: hexb v3 :: hexb v4 :: 93 :: [])) 2 = 120 := by have := bAt_bl (91 :: 92 :: 120 :: hexb v1 :: hexb v2 :: 45 :: 92 :: 120 :: hexb v3 :: hexb v4 :: 93 :: []) 2; simpa using this
  have a2 : bAt (bl (91 :: 92 :: 120 :: hexb v1 :: hexb v2 :: 45 :: 92 :: 120 :: hexb v3 :: hexb v4 :: 93 :: [])) 3 = (hexb v1).toNat := by have := bAt_bl (91 :: 92 :: 120 :: hexb v1 :: hexb v2 :: 45 :: 92 :: 120 :: hexb v3 :: hexb v4 :: 93 :: []) 3; simpa using this
  have a3 : bAt (bl (91 :: 92 :: 120 :: hexb v1 :: hexb v2 :: 45 :: 92 :: 120 :: hexb v3 :: hexb v4 :: 93 :: [])) 4 = (hexb v2).toNat := by have := bAt_bl (91 :: 92 :: 120 :: hexb v1 :: hexb v2 :: 45 :: 92 :: 120 :: hexb v3 :: hexb v4 :: 93 :: []) 4; simpa using this
  have a4 : bAt (bl (91 :: 92 :: 120 :: hexb v1 :: hexb v2 :: 45 :: 92 :: 120 :: hexb v3 :: hexb v4 :: 93 :: [])) 5 = 45 := by have := bAt_bl (91 :: 92 :: 120 :: hexb v1 :: hexb v2 :: 45 :: 92 :: 120 :: hexb v3 :: hexb v4 :: 93 :: []) 5; simpa using this
  have a5 : bAt (bl (91 :: 92 :: 120 :: hexb v1 :: hexb v2 :: 45 :: 92 :: 120 :: hexb v3 :: hexb v4 :: 93 :: [])) 6 = 92 := by have := bAt_bl (91 :: 92 :: 120 :: hexb v1 :: hexb v2 :: 45 :: 92 :: 120 :: hexb v3 :: hexb v4 :: 93 :: []) 6; simpa using this
  have a6 : bAt (bl (91 :: 92 :: 120 :: hexb v1 :: hexb v2 :: 45 :: 92 :: 120 :: hexb v3 :: hexb v4 :: 93 :: [])) 7 = 120 := by have := bAt_bl (91 :: 92 :: 120 :: hexb v1 :: hexb v2 :: 45 :: 92 :: 120 :: hexb v3 :: hexb v4 :: 93 :: []) 7; simpa using this
  have a7 : bAt (bl (91 :: 92 :: 120 :: hexb v1 :: hexb v2 :: 45 :: 92 :: 120 :: hexb v3 :: hexb v4 :: 93 :: [])) 8 = (hexb v3).toNat := by have := bAt_bl (91 :: 92 :: 120 :: hexb v1 :: hexb v2 :: 45 :: 92 :: 120 :: hexb v3 :: hexb v4 :: 93 :: []) 8; simpa using this
  have a8 : bAt (bl (91 :: 92 :: 120 :: hexb v1 :: hexb v2 :: 45 :: 92 :: 120 :: hexb v3 :: hexb v4 :: 93 :: [])) 9 = (hexb v4).toNat := by have := bAt_bl (91 :: 92 :: 120 :: hexb v1 :: hexb v2 :: 45 :: 92 :: 120 :: hexb v3 :: hexb v4 :: 93 :: []) 9; simpa using this
  have a9 : bAt (bl (91 :: 92 :: 120 :: hexb v1 :: hexb v2 :: 45 :: 92 :: 120 :: hexb v3 :: hexb v4 :: 93 :: [])) 10 = 93 := by have := bAt_bl (91 :: 92 :: 120 :: hexb v1 :: hexb v2 :: 45 :: 92 :: 120 :: hexb v3 :: hexb v4 :: 93 :: []) 10; simpa using this
  skip
  have hm := member_hex (s := bl (91 :: 92 :: 120 :: hexb v1 :: hexb v2 :: 45 :: 92 :: 120 :: hexb v3 :: hexb v4 :: 93 :: [])) (i := 1) h1 h2 h3 h4 hab a0 a1 a2 a3 a4 a5 a6 a7 a8
  have hmb : membs (bl (91 :: 92 :: 120 :: hexb v1 :: hexb v2 :: 45 :: 92 :: 120 :: hexb v3 :: hexb v4 :: 93 :: [])) ((bl (91 :: 92 :: 120 :: hexb v1 :: hexb v2 :: 45 :: 92 :: 120 :: hexb v3 :: hexb v4 :: 93 :: [])).size + 1) 1 = [(((16 * v1 + v2 : Nat) : Int), ((16 * v3 + v4 : Nat) : Int))] := by
    rw [bl_size]
    show membs _ (11 + 1) 1 = _
    rw [membs, hm, if_neg (by show ¬ ((16 * v1 + v2 : Nat) : Int) < 0; omega)]
    show _ :: membs _ 11 10 = _
    rw [membs, member_close a9, if_pos (by decide)]
  unfold setBs
  rw [if_neg (by rw [a0]; decide), hmb]
def textS1 (v1 v2 v3 v4 : Nat) : List UInt8 := 114 :: 32 :: 60 :: 45 :: 32 :: 91 :: 92 :: 120 :: hexb v1 :: hexb v2 :: 45 :: 92 :: 120 :: hexb v3 :: hexb v4 :: 93 :: []

theorem nextT_S2 (v1 v2 v3 v4 : Nat) (h1 : v1 < 16) (h2 : v2 < 16) (h3 : v3 < 16) (h4 : v4 < 16) (hab : 16 * v1 + v2 ≤ 16 * v3 + v4) (l : List UInt8) : nextT (bl (91 :: 94 :: 92 :: 120 :: hexb v1 :: hexb v2 :: 45 :: 92 :: 120 :: hexb v3 :: hexb v4 :: 93 :: l)) 0 = ⟨5, 0, 12⟩ := by
  have a0 : bAt (bl (91 :: 94 :: 92 :: 120 :: hexb v1 :: hexb v2 :: 45 :: 92 :: 120 :: hexb v3 :: hexb v4 :: 93 :: l)) 2 = 92 := by have := bAt_bl (91 :: 94 :: 92 :: 120 :: hexb v1 :: hexb v2 :: 45 :: 92 :: 120 :: hexb v3 :: hexb v4 :: 93 :: l) 2; simpa using this
  have a1 : bAt (bl (91 :: 94 :: 92 :: 120 :: hexb v1 :: hexb v2 :: 45 :: 92 :: 120 :: hexb v3 :: hexb v4 :: 93 :: l)) 3 = 120 := by have := bAt_bl (91 :: 94 :: 92 :: 120 :: hexb v1 :: hexb v2 :: 45 :: 92 :: 120 :: hexb v3 :: hexb v4 :: 93 :: l) 3; simpa using this
  have a2 : bAt (bl (91 :: 94 :: 92 :: 120 :: hexb v1 :: hexb v2 :: 45 :: 92 :: 120 :: hexb v3 :: hexb v4 :: 93 :: l)) 4 = (hexb v1).toNat := by have := bAt_bl (91 :: 94 :: 92 :: 120 :: hexb v1 :: hexb v2 :: 45 :: 92 :: 120 :: hexb v3 :: hexb v4 :: 93 :: l) 4; simpa using this
  have a3 : bAt (bl (91 :: 94 :: 92 :: 120 :: hexb v1 :: hexb v2 :: 45 :: 92 :: 120 :: hexb v3 :: hexb v4 :: 93 :: l)) 5 = (hexb v2).toNat := by have := bAt_bl (91 :: 94 :: 92 :: 120 :: hexb v1 :: hexb v2 :: 45 :: 92 :: 120 :: hexb v3 :: hexb v4 :: 93 :: l) 5; simpa using this
  have a4 : bAt (bl (91 :: 94 :: 92 :: 120 :: hexb v1 :: hexb v2 :: 45 :: 92 :: 120 :: hexb v3 :: hexb v4 :: 93 :: l)) 6 = 45 := by have := bAt_bl (91 :: 94 :: 92 :: 120 :: hexb v1 :: hexb v2 :: 45 :: 92 :: 120 :: hexb v3 :: hexb v4 :: 93 :: l) 6; simpa using this
  have a5 : bAt (bl (91 :: 94 :: 92 :: 120 :: hexb v1 :: hexb v2 :: 45 :: 92 :: 120 :: hexb v3 :: hexb v4 :: 93 :: l)) 7 = 92 := by have := bAt_bl (91 :: 94 :: 92 :: 120 :: hexb v1 :: hexb v2 :: 45 :: 92 :: 120 :: hexb v3 :: hexb v4 :: 93 :: l) 7; simpa using this
  have a6 : bAt (bl (91 :: 94 :: 92 :: 120 :: hexb v1 :: hexb v2 :: 45 :: 92 :: 120 :: hexb v3 :: hexb v4 :: 93 :: l)) 8 = 120 := by have := bAt_bl (91 :: 94 :: 92 :: 120 :: hexb v1 :: hexb v2 :: 45 :: 92 :: 120 :: hexb v3 :: hexb v4 :: 93 :: l) 8; simpa using this
  have a7 : bAt (bl (91 :: 94 :: 92 :: 120 :: hexb v1 :: hexb v2 :: 45 :: 92 :: 120 :: hexb v3 :: hexb v4 :: 93 :: l)) 9 = (hexb v3).toNat := by have := bAt_bl (91 :: 94 :: 92 :: 120 :: hexb v1 :: hexb v2 :: 45 :: 92 :: 120 :: hexb v3 :: hexb v4 :: 93 :: l) 9; simpa using this
  have a8 : bAt (bl (91 :: 94 :: 92 :: 120 :: hexb v1 :: hexb v2 :: 45 :: 92 :: 120 :: hexb v3 :: hexb v4 :: 93 :: l)) 10 = (hexb v4).toNat := by have := bAt_bl (91 :: 94 :: 92 :: 120 :: hexb v1 :: hexb v2 :: 45 :: 92 :: 120 :: hexb v3 :: hexb v4 :: 93 :: l) 10; simpa using this
  have a9 : bAt (bl (91 :: 94 :: 92 :: 120 :: hexb v1 :: hexb v2 :: 45 :: 92 :: 120 :: hexb v3 :: hexb v4 :: 93 :: l)) 11 = 93 := by have := bAt_bl (91 :: 94 :: 92 :: 120 :: hexb v1 :: hexb v2 :: 45 :: 92 :: 120 :: hexb v3 :: hexb v4 :: 93 :: l) 11; simpa using this
  have ah : bAt (bl (91 :: 94 :: 92 :: 120 :: hexb v1 :: hexb v2 :: 45 :: 92 :: 120 :: hexb v3 :: hexb v4 :: 93 :: l)) 1 = 94 := by have := bAt_bl (91 :: 94 :: 92 :: 120 :: hexb v1 :: hexb v2 :: 45 :: 92 :: 120 :: hexb v3 :: hexb v4 :: 93 :: l) 1; simpa using this
  have hm := member_hex (s := bl (91 :: 94 :: 92 :: 120 :: hexb v1 :: hexb v2 :: 45 :: 92 :: 120 :: hexb v3 :: hexb v4 :: 93 :: l)) (i := 2) h1 h2 h3 h4 hab a0 a1 a2 a3 a4 a5 a6 a7 a8
  refine nextT_head 91 _ 5 12 rfl ?_
  unfold readT
  rw [bAt_cons, if_neg (by decide), if_neg (by decide), if_neg (by decide), if_pos (by rfl)]
  have hf : setFrom (bl (91 :: 94 :: 92 :: 120 :: hexb v1 :: hexb v2 :: 45 :: 92 :: 120 :: hexb v3 :: hexb v4 :: 93 :: l)) 0 = 2 := by
    unfold setFrom
    rw [if_pos (by show bAt _ 1 = 94; exact ah)]
    rfl
  have he : setEnd (bl (91 :: 94 :: 92 :: 120 :: hexb v1 :: hexb v2 :: 45 :: 92 :: 120 :: hexb v3 :: hexb v4 :: 93 :: l)) 2 ((bl (91 :: 94 :: 92 :: 120 :: hexb v1 :: hexb v2 :: 45 :: 92 :: 120 :: hexb v3 :: hexb v4 :: 93 :: l)).size + 2 - (0 : Int).toNat) 2 = some 11 := by
    rw [bl_size]
    show setEnd _ 2 (l.length + 12 + 1 + 1) 2 = some 11
    rw [setEnd, if_neg (by omega), hm, if_neg (by show ¬ ((16 * v1 + v2 : Nat) : Int) < 0; omega)]
    show setEnd _ 2 (l.length + 12 + 1) 11 = some 11
    rw [setEnd, if_pos ⟨by decide, a9⟩]
  unfold readSt
  rw [hf, he]
  rfl
theorem bytes_S2 (v1 v2 v3 v4 : Nat) (h1 : v1 < 16) (h2 : v2 < 16) (h3 : v3 < 16) (h4 : v4 < 16) (hab : 16 * v1 + v2 ≤ 16 * v3 + v4) : setBs (bl (91 :: 94 :: 92 :: 120 :: hexb v1 :: hexb v2 :: 45 :: 92 :: 120 :: hexb v3 :: hexb v4 :: 93 :: [])) = bytesOf (isIn [(((16 * v1 + v2 : Nat) : Int), ((16 * v3 + v4 : Nat) : Int))]) false := by
  have a0 : bAt (bl (91 :: 94 :: 92 :: 120 :: hexb v1 :: hexb v2 :: 45 :: 92 :: 120 :: hexb v3 :: hexb v4 :: 93 :: [])) 2 = 92 := by have := bAt_bl (91 :: 94 :: 92 :: 120 :: hexb v1 :: hexb v2 :: 45 :: 92 :: 120 :: hexb v3 :: hexb v4 :: 93 :: []) 2; simpa using this
  have a1 : bAt (bl (91 :: 94 :: 92 :: 120 :: hexb v1 :: hexb v2 :: 45 :: 92 :: 120 :: hexb v3 :: hexb v4 :: 93 :: [])) 3 = 120 := by have := bAt_bl (91 :: 94 :: 92 :: 120 :: hexb v1 :: hexb v2 :: 45 :: 92 :: 120 :: hexb v3 :: hexb v4 :: 93 :: []) 3; simpa using this
  have a2 : bAt (bl (91 :: 94 :: 92 :: 120 :: hexb v1 :: hexb v2 :: 45 :: 92 :: 120 :: hexb v3 :: hexb v4 :: 93 :: [])) 4 = (hexb v1).toNat := by have := bAt_bl (91 :: 94 :: 92 :: 120 :: hexb v1 :: hexb v2 :: 45 :: 92 :: 120 :: hexb v3 :: hexb v4 :: 93 :: []) 4; simpa using this
  have a3 : bAt (bl (91 :: 94 :: 92 :: 120 :: hexb v1 :: hexb v2 :: 45 :: 92 :: 120 :: hexb v3 :: hexb v4 :: 93 :: [])) 5 = (hexb v2).toNat := by have := bAt_bl (91 :: 94 :: 92 :: 120 :: hexb v1 :: hexb v2 :: 45 :: 92 :: 120 :: hexb v3 :: hexb v4 :: 93 :: []) 5; simpa using this
  have a4 : bAt (bl (91 :: 94 :: 92 :: 120 :: hexb v1 :: hexb v2 :: 45 :: 92 :: 120 :: hexb v3 :: hexb v4 :: 93 :: [])) 6 = 45 := by have := bAt_bl (91 :: 94 :: 92 :: 120 :: hexb v1 :: hexb v2 :: 45 :: 92 :: 120 :: hexb v3 :: hexb v4 :: 93 :: []) 6; simpa using this
  have a5 : bAt (bl (91 :: 94 :: 92 :: 120 :: hexb v1 :: hexb v2 :: 45 :: 92 :: 120 :: hexb v3 :: hexb v4 :: 93 :: [])) 7 = 92 := by have := bAt_bl (91 :: 94 :: 92 :: 120 :: hexb v1 :: hexb v2 :: 45 :: 92 :: 120 :: hexb v3 :: hexb v4 :: 93 :: []) 7; simpa using this
  have a6 : bAt (bl (91 :: 94 :: 92 :: 120 :: hexb v1 :: hexb v2 :: 45 :: 92 :: 120 :: hexb v3 :: hexb v4 :: 93 :: [])) 8 = 120 := by have := bAt_bl (91 :: 94 :: 92 :: 120 :: hexb v1 :: hexb v2 :: 45 :: 92 :: 120 :: hexb v3 :: hexb v4 :: 93 :: []) 8; simpa using this
  have a7 : bAt (bl (91 :: 94 :: 92 :: 120 :: hexb v1 :: hexb v2 :: 45 :: 92 :: 120 :: hexb v3 :: hexb v4 :: 93 :: [])) 9 = (hexb v3).toNat := by have := bAt_bl (91 :: 94 :: 92 :: 120 :: hexb v1 :: hexb v2 :: 45 :: 92 :: 120 :: hexb v3 :: hexb v4 :: 93 :: []) 9; simpa using this
  have a8 : bAt (bl (91 :: 94 :: 92 :: 120 :: hexb v1 :: hexb v2 :: 45 :: 92 :: 120 :: hexb v3 :: hexb v4 :: 93 :: [])) 10 = (hexb v4).toNat := by have := bAt_bl (91 :: 94 :: 92 :: 120 :: hexb v1 :: hexb v2 :: 45 :: 92 :: 120 :: hexb v3 :: hexb v4 :: 93 :: []) 10; simpa using this
  have a9 : bAt (bl (91 :: 94 :: 92 :: 120 :: hexb v1 :: hexb v2 :: 45 :: 92 :: 120 :: hexb v3 :: hexb v4 :: 93 :: [])) 11 = 93 := by have := bAt_bl (91 :: 94 :: 92 :: 120 :: hexb v1 :: hexb v2 :: 45 :: 92 :: 120 :: hexb v3 :: hexb v4 :: 93 :: []) 11; simpa using this
  have ah : bAt (bl (91 :: 94 :: 92 :: 120 :: hexb v1 :: hexb v2 :: 45 :: 92 :: 120 :: hexb v3 :: hexb v4 :: 93 :: [])) 1 = 94 := by have := bAt_bl (91 :: 94 :: 92 :: 120 :: hexb v1 :: hexb v2 :: 45 :: 92 :: 120 :: hexb v3 :: hexb v4 :: 93 :: []) 1; simpa using this
  have hm := member_hex (s := bl (91 :: 94 :: 92 :: 120 :: hexb v1 :: hexb v2 :: 45 :: 92 :: 120 :: hexb v3 :: hexb v4 :: 93 :: [])) (i := 2) h1 h2 h3 h4 hab a0 a1 a2 a3 a4 a5 a6 a7 a8
  have hmb : membs (bl (91 :: 94 :: 92 :: 120 :: hexb v1 :: hexb v2 :: 45 :: 92 :: 120 :: hexb v3 :: hexb v4 :: 93 :: [])) ((bl (91 :: 94 :: 92 :: 120 :: hexb v1 :: hexb v2 :: 45 :: 92 :: 120 :: hexb v3 :: hexb v4 :: 93 :: [])).size + 1) 2 = [(((16 * v1 + v2 : Nat) : Int), ((16 * v3 + v4 : Nat) : Int))] := by
    rw [bl_size]
    show membs _ (12 + 1) 2 = _
    rw [membs, hm, if_neg (by show ¬ ((16 * v1 + v2 : Nat) : Int) < 0; omega)]
    show _ :: membs _ 12 11 = _
    rw [membs, member_close a9, if_pos (by decide)]
  unfold setBs
  rw [if_pos ah, hmb]
def textS2 (v1 v2 v3 v4 : Nat) : List UInt8 := 114 :: 32 :: 60 :: 45 :: 32 :: 91 :: 94 :: 92 :: 120 :: hexb v1 :: hexb v2 :: 45 :: 92 :: 120 :: hexb v3 :: hexb v4 :: 93 :: []

theorem eval_set (s : ByteArray) (m : Nat) (hs : s.size = m + 2) (hs4 : s.size ≤ 400) (T0 T1 T2 T3 : Tk) (h0 : nextT s 0 = T0) (h1 : nextT s T0.to = T1) (h2 : nextT s T1.to = T2) (h3 : nextT s T2.to = T3) (k0 : T0.k = 2) (k1 : T1.k = 3) (k2 : T2.k = 5) (k3 : T3.k = 1) :
    parseF s = ⟨0, [⟨T0.of s, T0.from_, ⟨1, 0, T2.bytes s, []⟩, false, 0⟩], 0⟩ := by
  have hs1 : s.size = (m + 1) + 1 := by omega
  have hex : exprN s 13 T2 0 = ⟨0, ⟨1, 0, T2.bytes s, []⟩, T3, 0⟩ := expr_one (row_one hs1 (atIt_set k2) (by rw [item_leaf (.inr (.inr (.inl k2))) (by rw [h3]; exact sign_no (by omega)), leaf_set (.inl k2), h3]) (atIt_no (by omega)) (by simp)) (by omega) (by simp)
  rw [parse_text hs4, h0, hs, parse_step k0 (rule_ok k0 h1 k1 h2 hex), parse_end k3]
  rfl
theorem check_set (b : ByteArray) : checkF 3 3 [⟨bl [114], 0, ⟨1, 0, b, []⟩, false, 0⟩] = some (0, 0) := by
  simp [checkF, check2, check3, twiceL, findF, findFrom, firstR, unkN, firstL, fixE, roundE, mayE, fixB, roundB, begN, begL, and_zero, leftL, loopN]
theorem build_set (b : ByteArray) : buildF 4 [⟨bl [114], 0, ⟨1, 0, b, []⟩, false, 0⟩] = [⟨1, b, []⟩] := by rfl

theorem parse_S1 (v1 v2 v3 v4 : Nat) (h1 : v1 < 16) (h2 : v2 < 16) (h3 : v3 < 16) (h4 : v4 < 16) (hab : 16 * v1 + v2 ≤ 16 * v3 + v4) : parseF (bl (textS1 v1 v2 v3 v4)) = ⟨0, [⟨bl [114], 0, ⟨1, 0, ⟨(bytesOf (isIn [(((16 * v1 + v2 : Nat) : Int), ((16 * v3 + v4 : Nat) : Int))]) true).toArray⟩, []⟩, false, 0⟩], 0⟩ := by
  have t0 : nextT (bl (textS1 v1 v2 v3 v4)) 0 = ⟨2, 0, 1⟩ := nextT_letter 114 32 _ (by decide) (by decide) rfl
  have t1 : nextT (bl (textS1 v1 v2 v3 v4)) 1 = ⟨3, 2, 4⟩ := next_at (A := [114]) (B := 32 :: 60 :: 45 :: 32 :: 91 :: 92 :: 120 :: hexb v1 :: hexb v2 :: 45 :: 92 :: 120 :: hexb v3 :: hexb v4 :: 93 :: []) rfl (blank_any _ (nextT_arrow _)) rfl
  have t2 : nextT (bl (textS1 v1 v2 v3 v4)) 4 = ⟨5, 5, 16⟩ := next_at (A := [114, 32, 60, 45]) (B := 32 :: 91 :: 92 :: 120 :: hexb v1 :: hexb v2 :: 45 :: 92 :: 120 :: hexb v3 :: hexb v4 :: 93 :: []) rfl (blank_any _ (nextT_S1 v1 v2 v3 v4 h1 h2 h3 h4 hab [])) rfl
  have t3 : nextT (bl (textS1 v1 v2 v3 v4)) 16 = ⟨1, 16, 16⟩ := next_at (A := (textS1 v1 v2 v3 v4)) (B := []) (by simp) nextT_end rfl
  rw [eval_set (bl (textS1 v1 v2 v3 v4)) 14 rfl (by show (16 : Nat) ≤ 400; omega) _ _ _ _ t0 t1 t2 t3 rfl rfl rfl rfl]
  have b0 : (⟨2, 0, 1⟩ : Tk).of (bl (textS1 v1 v2 v3 v4)) = bl [114] := of_bl [] (textS1 v1 v2 v3 v4) 1 2
  have b2 : (⟨5, 5, 16⟩ : Tk).of (bl (textS1 v1 v2 v3 v4)) = bl (91 :: 92 :: 120 :: hexb v1 :: hexb v2 :: 45 :: 92 :: 120 :: hexb v3 :: hexb v4 :: 93 :: []) := of_bl [114, 32, 60, 45, 32] (91 :: 92 :: 120 :: hexb v1 :: hexb v2 :: 45 :: 92 :: 120 :: hexb v3 :: hexb v4 :: 93 :: []) 11 5
  rw [b0, bytes_5 rfl, b2, bytes_S1 v1 v2 v3 v4 h1 h2 h3 h4 hab]
theorem compile_S1 (v1 v2 v3 v4 : Nat) (h1 : v1 < 16) (h2 : v2 < 16) (h3 : v3 < 16) (h4 : v4 < 16) (hab : 16 * v1 + v2 ≤ 16 * v3 + v4) : compileF 3 3 (bl (textS1 v1 v2 v3 v4)) = some (0, 0) := by
  unfold compileF
  rw [parse_S1 v1 v2 v3 v4 h1 h2 h3 h4 hab]
  simp only [check_set]
  rfl

theorem parse_S2 (v1 v2 v3 v4 : Nat) (h1 : v1 < 16) (h2 : v2 < 16) (h3 : v3 < 16) (h4 : v4 < 16) (hab : 16 * v1 + v2 ≤ 16 * v3 + v4) : parseF (bl (textS2 v1 v2 v3 v4)) = ⟨0, [⟨bl [114], 0, ⟨1, 0, ⟨(bytesOf (isIn [(((16 * v1 + v2 : Nat) : Int), ((16 * v3 + v4 : Nat) : Int))]) false).toArray⟩, []⟩, false, 0⟩], 0⟩ := by
  have t0 : nextT (bl (textS2 v1 v2 v3 v4)) 0 = ⟨2, 0, 1⟩ := nextT_letter 114 32 _ (by decide) (by decide) rfl
  have t1 : nextT (bl (textS2 v1 v2 v3 v4)) 1 = ⟨3, 2, 4⟩ := next_at (A := [114]) (B := 32 :: 60 :: 45 :: 32 :: 91 :: 94 :: 92 :: 120 :: hexb v1 :: hexb v2 :: 45 :: 92 :: 120 :: hexb v3 :: hexb v4 :: 93 :: []) rfl (blank_any _ (nextT_arrow _)) rfl
  have t2 : nextT (bl (textS2 v1 v2 v3 v4)) 4 = ⟨5, 5, 17⟩ := next_at (A := [114, 32, 60, 45]) (B := 32 :: 91 :: 94 :: 92 :: 120 :: hexb v1 :: hexb v2 :: 45 :: 92 :: 120 :: hexb v3 :: hexb v4 :: 93 :: []) rfl (blank_any _ (nextT_S2 v1 v2 v3 v4 h1 h2 h3 h4 hab [])) rfl
  have t3 : nextT (bl (textS2 v1 v2 v3 v4)) 17 = ⟨1, 17, 17⟩ := next_at (A := (textS2 v1 v2 v3 v4)) (B := []) (by simp) nextT_end rfl
  rw [eval_set (bl (textS2 v1 v2 v3 v4)) 15 rfl (by show (17 : Nat) ≤ 400; omega) _ _ _ _ t0 t1 t2 t3 rfl rfl rfl rfl]
  have b0 : (⟨2, 0, 1⟩ : Tk).of (bl (textS2 v1 v2 v3 v4)) = bl [114] := of_bl [] (textS2 v1 v2 v3 v4) 1 2
  have b2 : (⟨5, 5, 17⟩ : Tk).of (bl (textS2 v1 v2 v3 v4)) = bl (91 :: 94 :: 92 :: 120 :: hexb v1 :: hexb v2 :: 45 :: 92 :: 120 :: hexb v3 :: hexb v4 :: 93 :: []) := of_bl [114, 32, 60, 45, 32] (91 :: 94 :: 92 :: 120 :: hexb v1 :: hexb v2 :: 45 :: 92 :: 120 :: hexb v3 :: hexb v4 :: 93 :: []) 12 5
  rw [b0, bytes_5 rfl, b2, bytes_S2 v1 v2 v3 v4 h1 h2 h3 h4 hab]
theorem compile_S2 (v1 v2 v3 v4 : Nat) (h1 : v1 < 16) (h2 : v2 < 16) (h3 : v3 < 16) (h4 : v4 < 16) (hab : 16 * v1 + v2 ≤ 16 * v3 + v4) : compileF 3 3 (bl (textS2 v1 v2 v3 v4)) = some (0, 0) := by
  unfold compileF
  rw [parse_S2 v1 v2 v3 v4 h1 h2 h3 h4 hab]
  simp only [check_set]
  rfl

/-- r <- . !. -/
def textD : List UInt8 := [114, 32, 60, 45, 32, 46, 32, 33, 46]
theorem eval_dots (s : ByteArray) (m : Nat) (hs : s.size = m + 2) (hs4 : s.size ≤ 400) (T0 T1 T2 T3 T4 T5 : Tk) (h0 : nextT s 0 = T0) (h1 : nextT s T0.to = T1) (h2 : nextT s T1.to = T2) (h3 : nextT s T2.to = T3) (h4 : nextT s T3.to = T4) (h5 : nextT s T4.to = T5) (k0 : T0.k = 2) (k1 : T1.k = 3) (k2 : T2.k = 12) (k3 : T3.k = 8) (k4 : T4.k = 12) (k5 : T5.k = 1) :
    parseF s = ⟨0, [⟨T0.of s, T0.from_, nd0 5 [⟨1, 0, allB, []⟩, nd0 8 [⟨1, 0, allB, []⟩]], false, 0⟩], 0⟩ := by
  have hs1 : s.size = (m + 1) + 1 := by omega
  have d : ∀ (t t1 : Tk) (k : Nat), t.k = 12 → nextT s t.to = t1 → isSign t1 = false → itemF s (exprN s 12) (k + 1) t 0 = ⟨0, ⟨1, 0, allB, []⟩, t1, 0⟩ := fun t t1 k hk hn hsg => by
    rw [item_leaf (.inr (.inr (.inr hk))) (by rw [hn]; exact hsg), leaf_set (.inr hk), hn, bytes_12 hk]
    rfl
  have i3 : itemF s (exprN s 12) (s.size + 1) T3 0 = ⟨0, nd0 8 [⟨1, 0, allB, []⟩], T5, 0⟩ := by
    have h := item_look (s := s) (E := exprN s 12) (t := T3) (d := 0) (k := s.size) (.inr k3) (by rw [h4]; exact atIt_dot k4) (by rw [h4, hs1]; exact d T4 T5 _ k4 h5 (sign_no (by omega)))
    rw [k3] at h
    exact h
  have hex : exprN s 13 T2 0 = ⟨0, nd0 5 [⟨1, 0, allB, []⟩, nd0 8 [⟨1, 0, allB, []⟩]], T5, 0⟩ :=
    expr_one (row_two hs (atIt_dot k2) (d T2 T3 _ k2 h3 (sign_no (by omega))) (atIt_look (.inr k3)) i3 (atIt_no (by omega)) (by simp) (by simp [nd0])) (by omega) (by simp [nd0])
  rw [parse_text hs4, h0, hs, parse_step k0 (rule_ok k0 h1 k1 h2 hex), parse_end k5]
  rfl
theorem parse_dots : parseF (bl textD) = ⟨0, [⟨bl [114], 0, nd0 5 [⟨1, 0, allB, []⟩, nd0 8 [⟨1, 0, allB, []⟩]], false, 0⟩], 0⟩ := by
  have t0 : nextT (bl textD) 0 = ⟨2, 0, 1⟩ := nextT_letter 114 32 _ (by decide) (by decide) rfl
  have t1 : nextT (bl textD) 1 = ⟨3, 2, 4⟩ := next_at (A := [114]) (B := 32 :: 60 :: 45 :: [32, 46, 32, 33, 46]) rfl (blank_any _ (nextT_arrow _)) rfl
  have t2 : nextT (bl textD) 4 = ⟨12, 5, 6⟩ := next_at (A := [114, 32, 60, 45]) (B := 32 :: 46 :: [32, 33, 46]) rfl (blank_any _ (nextT_sign 46 _ 12 (by decide) (by decide) (by decide) (by decide) rfl (by decide))) rfl
  have t3 : nextT (bl textD) 6 = ⟨8, 7, 8⟩ := next_at (A := [114, 32, 60, 45, 32, 46]) (B := 32 :: 33 :: [46]) rfl (blank_any _ (nextT_sign 33 _ 8 (by decide) (by decide) (by decide) (by decide) rfl (by decide))) rfl
  have t4 : nextT (bl textD) 8 = ⟨12, 8, 9⟩ := next_at (A := [114, 32, 60, 45, 32, 46, 32, 33]) (B := 46 :: []) rfl (nextT_sign 46 _ 12 (by decide) (by decide) (by decide) (by decide) rfl (by decide)) rfl
  have t5 : nextT (bl textD) 9 = ⟨1, 9, 9⟩ := next_at (A := textD) (B := []) (by simp) nextT_end rfl
  rw [eval_dots (bl textD) 7 rfl (by show (9 : Nat) ≤ 400; omega) _ _ _ _ _ _ t0 t1 t2 t3 t4 t5 rfl rfl rfl rfl rfl rfl]
  have b0 : (⟨2, 0, 1⟩ : Tk).of (bl textD) = bl [114] := of_bl [] textD 1 2
  rw [b0]
theorem check_dots (a b : ByteArray) : checkF 3 3 [⟨bl [114], 0, nd0 5 [⟨1, 0, a, []⟩, nd0 8 [⟨1, 0, b, []⟩]], false, 0⟩] = some (0, 0) := by
  simp [checkF, check2, check3, twiceL, findF, findFrom, firstR, unkN, firstL, fixE, roundE, mayE, fixB, roundB, nd0, begN, begL, or_zero, and_zero, leftL, loopN]
theorem compile_dots : compileF 3 3 (bl textD) = some (0, 0) := by
  unfold compileF
  rw [parse_dots]
  simp only [check_dots]
  rfl
theorem build_dots (a b : ByteArray) : buildF 4 [⟨bl [114], 0, nd0 5 [⟨1, 0, a, []⟩, nd0 8 [⟨1, 0, b, []⟩]], false, 0⟩] = [⟨5, ByteArray.empty, [1, 3]⟩, ⟨1, a, []⟩, ⟨1, b, []⟩, ⟨8, ByteArray.empty, [2]⟩] := by rfl
end Go.Proofs.Ytdofpbbahamkkab

import Derived.Test.YtbojcemamhiodaaToks
import Derived.Test.YtbojcemamhiodaaParse
import Derived.Test.YtbojcemamhiodaaComp
namespace Go.Proofs.Ytbojcemamhiodaa

/-- bytes by a list -/
def bl (l : List UInt8) : ByteArray := ⟨l.toArray⟩
theorem bl_size (l : List UInt8) : (bl l).size = l.length := by simp [bl, ByteArray.size]
theorem bAt_bl (l : List UInt8) (i : Nat) : bAt (bl l) i = match l[i]? with | some b => (b.toNat : Int) | none => -1 := by
  unfold bAt
  by_cases h : i < l.length
  · rw [dif_pos (by rw [bl_size]; omega), List.getElem?_eq_getElem h]
    simp [bl]
    rfl
  · rw [dif_neg (by rw [bl_size]; omega), List.getElem?_eq_none (by omega)]
theorem bAt_cons (c : UInt8) (l : List UInt8) : bAt (bl (c :: l)) 0 = c.toNat := by
  have := bAt_bl (c :: l) 0
  simpa using this
theorem bAt_nil (i : Nat) : bAt (bl []) i = -1 := by
  have := bAt_bl [] i
  simpa using this
/-- what stands behind A is what stands there -/
theorem bAt_shift (A B : List UInt8) (j : Int) (hj : 0 ≤ j) : bAt (bl (A ++ B)) (A.length + j) = bAt (bl B) j := by
  obtain ⟨n, rfl⟩ : ∃ n : Nat, j = n := ⟨j.toNat, by omega⟩
  have h1 := bAt_bl (A ++ B) (A.length + n)
  have h2 := bAt_bl B n
  rw [List.getElem?_append_right (by omega)] at h1
  rw [show A.length + n - A.length = n from by omega] at h1
  rw [h2, ← h1]
  congr 1

section
variable {A B : List UInt8}
def sh (A : List UInt8) (p : Int × Int) : Int × Int := (p.1, A.length + p.2)
theorem skipN_shift : ∀ (n : Nat) (j : Int), 0 ≤ j → skipN (bl (A ++ B)) n (A.length + j) = A.length + skipN (bl B) n j
  | 0, _, _ => rfl
  | n + 1, j, hj => by
    unfold skipN
    rw [bAt_shift A B j hj]
    split
    · rw [show (A.length : Int) + j + 1 = A.length + (j + 1) from by omega]
      exact skipN_shift n (j + 1) (by omega)
    · rfl
theorem digit_shift (j : Int) (hj : 0 ≤ j) : digit (bl (A ++ B)) (A.length + j) = digit (bl B) j := by unfold digit; rw [bAt_shift A B j hj]
theorem plainC_shift (c j : Int) (m : Bool) : plainC c (A.length + j) m = sh A (plainC c j m) := by
  unfold plainC sh
  split
  · rfl
  · show (c, _) = (c, _); congr 1; omega
theorem escC_shift (j : Int) (hj : 0 ≤ j) (m : Bool) : escC (bl (A ++ B)) (A.length + j) m = sh A (escC (bl B) j m) := by
  unfold escC
  rw [show (A.length : Int) + j + 1 = A.length + (j + 1) from by omega, show (A.length : Int) + j + 2 = A.length + (j + 2) from by omega, show (A.length : Int) + j + 3 = A.length + (j + 3) from by omega, show (A.length : Int) + j + 4 = A.length + (j + 4) from by omega]
  rw [bAt_shift A B _ (by omega), digit_shift _ (by omega), digit_shift _ (by omega)]
  unfold sh
  repeat' split
  all_goals rfl
theorem wordC_shift (j : Int) (hj : 0 ≤ j) : wordC (bl (A ++ B)) (A.length + j) = sh A (wordC (bl B) j) := by
  unfold wordC
  rw [bAt_shift A B j hj, show (A.length : Int) + j + 1 = A.length + (j + 1) from by omega, bAt_shift A B _ (by omega)]
  split
  · exact escC_shift j hj _
  · exact plainC_shift _ _ _
theorem setC_shift (j : Int) (hj : 0 ≤ j) : setC (bl (A ++ B)) (A.length + j) = sh A (setC (bl B) j) := by
  unfold setC
  rw [bAt_shift A B j hj, show (A.length : Int) + j + 1 = A.length + (j + 1) from by omega, bAt_shift A B _ (by omega)]
  split
  · exact escC_shift j hj _
  · exact plainC_shift _ _ _
theorem wordC_ge (s : ByteArray) (j : Int) (hj : 0 ≤ j) : 0 ≤ (wordC s j).2 := by
  have := wordC_good s j
  unfold GoodC at this
  omega
theorem setC_ge (s : ByteArray) (j : Int) (hj : 0 ≤ j) : 0 ≤ (setC s j).2 := by
  have := setC_good s j
  unfold GoodC at this
  omega
theorem wordEnd_shift : ∀ (n : Nat) (j : Int), 0 ≤ j → wordEnd (bl (A ++ B)) n (A.length + j) = (wordEnd (bl B) n j).map (fun k : Int => (A.length : Int) + k)
  | 0, _, _ => rfl
  | n + 1, j, hj => by
    unfold wordEnd
    have s1 : (wordC (bl (A ++ B)) (A.length + j)).1 = (wordC (bl B) j).1 := by rw [wordC_shift j hj]; rfl
    have s2 : (wordC (bl (A ++ B)) (A.length + j)).2 = A.length + (wordC (bl B) j).2 := by rw [wordC_shift j hj]; rfl
    simp only [bAt_shift A B j hj, s1, s2]
    by_cases h0 : bAt (bl B) j = 39
    · rw [if_pos h0, if_pos h0]; rfl
    · rw [if_neg h0, if_neg h0]
      by_cases hc : (wordC (bl B) j).1 < 0
      · rw [if_pos hc, if_pos hc]; rfl
      · rw [if_neg hc, if_neg hc]
        exact wordEnd_shift n _ (wordC_ge _ j hj)
theorem member_shift (j : Int) (hj : 0 ≤ j) : member (bl (A ++ B)) (A.length + j) = ((member (bl B) j).1, (member (bl B) j).2.1, A.length + (member (bl B) j).2.2) := by
  have h1 := setC_ge (bl B) j hj
  have s1 : (setC (bl (A ++ B)) (A.length + j)).1 = (setC (bl B) j).1 := by rw [setC_shift j hj]; rfl
  have s2 : (setC (bl (A ++ B)) (A.length + j)).2 = A.length + (setC (bl B) j).2 := by rw [setC_shift j hj]; rfl
  have e0 : (A.length : Int) + (setC (bl B) j).2 + 1 = A.length + ((setC (bl B) j).2 + 1) := by omega
  have s3 : (setC (bl (A ++ B)) (A.length + ((setC (bl B) j).2 + 1))).1 = (setC (bl B) ((setC (bl B) j).2 + 1)).1 := by rw [setC_shift _ (by omega)]; rfl
  have s4 : (setC (bl (A ++ B)) (A.length + ((setC (bl B) j).2 + 1))).2 = A.length + (setC (bl B) ((setC (bl B) j).2 + 1)).2 := by rw [setC_shift _ (by omega)]; rfl
  unfold member
  simp only [s1, s2, e0, s3, s4, bAt_shift A B _ h1]
  repeat' split
  all_goals rfl
theorem setEnd_shift (f : Int) : ∀ (n : Nat) (j : Int), 0 ≤ j → setEnd (bl (A ++ B)) (A.length + f) n (A.length + j) = (setEnd (bl B) f n j).map (fun k : Int => (A.length : Int) + k)
  | 0, _, _ => rfl
  | n + 1, j, hj => by
    have hm := member_good (bl B) j
    unfold GoodM at hm
    unfold setEnd
    rw [bAt_shift A B j hj, member_shift j hj]
    have e : ((A.length : Int) + j ≠ A.length + f ∧ bAt (bl B) j = 93) ↔ (j ≠ f ∧ bAt (bl B) j = 93) := by omega
    simp only [e]
    by_cases h1 : j ≠ f ∧ bAt (bl B) j = 93
    · rw [if_pos h1, if_pos h1]; rfl
    · rw [if_neg h1, if_neg h1]
      by_cases h2 : (member (bl B) j).1 < 0
      · rw [if_pos h2, if_pos h2]; rfl
      · rw [if_neg h2, if_neg h2]
        exact setEnd_shift f n _ (by omega)
theorem nameEnd_shift : ∀ (n : Nat) (j : Int), 0 ≤ j → nameEnd (bl (A ++ B)) n (A.length + j) = A.length + nameEnd (bl B) n j
  | 0, _, _ => rfl
  | n + 1, j, hj => by
    unfold nameEnd
    rw [bAt_shift A B j hj]
    split
    · rw [show (A.length : Int) + j + 1 = A.length + (j + 1) from by omega]
      exact nameEnd_shift n (j + 1) (by omega)
    · rfl
theorem size_app : (bl (A ++ B)).size = A.length + (bl B).size := by simp [bl_size]
theorem readT_shift (j : Int) (hj : 0 ≤ j) : readT (bl (A ++ B)) (A.length + j) = sh A (readT (bl B) j) := by
  have ef : (bl (A ++ B)).size + 1 - ((A.length : Int) + j).toNat = (bl B).size + 1 - j.toNat := by rw [size_app]; omega
  have ef2 : (bl (A ++ B)).size + 2 - ((A.length : Int) + j).toNat = (bl B).size + 2 - j.toNat := by rw [size_app]; omega
  have e1 : (A.length : Int) + j + 1 = A.length + (j + 1) := by omega
  have e2 : (A.length : Int) + j + 2 = A.length + (j + 2) := by omega
  unfold readT
  rw [bAt_shift A B j hj]
  split
  · unfold readNm
    rw [ef, nameEnd_shift _ j hj]
    rw [show (A.length : Int) + nameEnd (bl B) ((bl B).size + 1 - j.toNat) j - (A.length + j) = nameEnd (bl B) ((bl B).size + 1 - j.toNat) j - j from by omega]
    unfold sh
    split <;> rfl
  · split
    · unfold readAr
      rw [e1, e2, bAt_shift A B _ (by omega)]
      unfold sh
      split <;> rfl
    · split
      · unfold readWd
        rw [ef, e1, wordEnd_shift _ _ (by omega)]
        unfold sh
        cases wordEnd (bl B) ((bl B).size + 1 - j.toNat) (j + 1) with
        | none => rfl
        | some k => simp; omega
      · split
        · unfold readSt
          have hsf : setFrom (bl (A ++ B)) (A.length + j) = A.length + setFrom (bl B) j := by
            unfold setFrom
            rw [e1, e2, bAt_shift A B _ (by omega)]
            split <;> rfl
          have h0 : 0 ≤ setFrom (bl B) j := by unfold setFrom; split <;> omega
          rw [ef2, hsf, setEnd_shift _ _ _ h0]
          unfold sh
          cases setEnd (bl B) (setFrom (bl B) j) ((bl B).size + 2 - j.toNat) (setFrom (bl B) j) with
          | none => rfl
          | some k => simp; omega
        · unfold sh
          split
          · rfl
          · simp; omega
def shT (A : List UInt8) (t : Tk) : Tk := ⟨t.k, A.length + t.from_, A.length + t.to⟩
theorem nextT_shift (A B : List UInt8) (j : Int) (hj : 0 ≤ j) : nextT (bl (A ++ B)) (A.length + j) = shT A (nextT (bl B) j) := by
  have hs : skip (bl (A ++ B)) (A.length + j) = A.length + skip (bl B) j := by
    unfold skip
    rw [show (bl (A ++ B)).size + 1 - ((A.length : Int) + j).toNat = (bl B).size + 1 - j.toNat from by rw [size_app]; omega]
    exact skipN_shift _ j hj
  have hge : 0 ≤ skip (bl B) j := by
    have : ∀ (n : Nat) (i : Int), i ≤ skipN (bl B) n i := by
      intro n
      induction n with
      | zero => exact fun i => Int.le_refl _
      | succ n ih =>
        intro i
        unfold skipN
        split
        · have := ih (i + 1); omega
        · exact Int.le_refl _
    have := this ((bl B).size + 1 - j.toNat) j
    unfold skip
    omega
  unfold nextT
  rw [hs, size_app, readT_shift _ hge]
  unfold shT sh
  have e : ((A.length : Int) + skip (bl B) j ≥ ((A.length + (bl B).size : Nat) : Int)) ↔ (skip (bl B) j ≥ ((bl B).size : Int)) := by omega
  simp only [e]
  split
  · simp
  · rfl
end

/-- a byte that stands for itself in a word -/
def isPlain (c : UInt8) : Bool := decide (32 ≤ c.toNat) && decide (c.toNat ≤ 126) && c.toNat != 39 && c.toNat != 92
theorem wordC_plain {c : UInt8} {l : List UInt8} (h : isPlain c = true) : wordC (bl (c :: l)) 0 = ((c.toNat : Int), 1) := by
  simp [isPlain] at h
  unfold wordC
  rw [bAt_cons, if_neg (by omega)]
  unfold plainC isWM
  rw [if_neg (by simp; omega)]
  rfl
theorem wordC_end {c : UInt8} {l : List UInt8} (h : c.toNat = 39) : wordC (bl (c :: l)) 0 = (-1, 0) := by
  unfold wordC
  rw [bAt_cons, if_neg (by omega)]
  unfold plainC isWM
  rw [if_pos (by simp; omega)]
theorem app_one (c : UInt8) (l : List UInt8) : c :: l = [c] ++ l := rfl
/-- the quote that ends a word -/
theorem wordEnd_word (u rest : List UInt8) (hu : u.all isPlain = true) : ∀ n, u.length < n → wordEnd (bl (u ++ 39 :: rest)) n 0 = some (u.length : Int) := by
  induction u with
  | nil =>
    intro n hn
    obtain ⟨m, rfl⟩ : ∃ m, n = m + 1 := ⟨n - 1, by simp at hn; omega⟩
    unfold wordEnd
    rw [List.nil_append, bAt_cons, if_pos (by rfl)]
    rfl
  | cons c u ih =>
    intro n hn
    simp at hu
    obtain ⟨m, rfl⟩ : ∃ m, n = m + 1 := ⟨n - 1, by simp at hn; omega⟩
    have hc := hu.1
    have h39 : ¬ (c.toNat : Int) = 39 := by simp [isPlain] at hc; omega
    unfold wordEnd
    rw [List.cons_append, bAt_cons, if_neg h39, wordC_plain hc, if_neg (by show ¬ (c.toNat : Int) < 0; omega)]
    have h1 := wordEnd_shift (A := [c]) (B := u ++ 39 :: rest) m 0 (by omega)
    rw [ih (by simpa using hu.2) m (by simp at hn; omega)] at h1
    show wordEnd (bl ([c] ++ (u ++ 39 :: rest))) m 1 = _
    have e : ((([c] : List UInt8).length : Int) + 0) = 1 := rfl
    rw [e] at h1
    rw [h1]
    simp
    omega
theorem wordBs_word (u rest : List UInt8) (hu : u.all isPlain = true) (A : List UInt8) : ∀ n, u.length ≤ n → wordBs (bl (A ++ (u ++ 39 :: rest))) n A.length = u := by
  induction u generalizing A with
  | nil =>
    intro n _
    cases n with
    | zero => rfl
    | succ n =>
      have h := wordC_shift (A := A) (B := 39 :: rest) 0 (by omega)
      rw [wordC_end rfl, Int.add_zero] at h
      unfold wordBs
      rw [List.nil_append, h, if_pos (by show (-1 : Int) < 0; omega)]
  | cons c u ih =>
    intro n hn
    simp at hu
    obtain ⟨m, rfl⟩ : ∃ m, n = m + 1 := ⟨n - 1, by simp at hn; omega⟩
    have h := wordC_shift (A := A) (B := c :: (u ++ 39 :: rest)) 0 (by omega)
    rw [wordC_plain hu.1, Int.add_zero] at h
    unfold wordBs
    rw [List.cons_append, h, if_neg (by show ¬ (c.toNat : Int) < 0; omega)]
    simp only [sh]
    have h2 := ih (by simpa using hu.2) (A ++ [c]) m (by simp at hn; omega)
    rw [List.append_assoc, List.singleton_append] at h2
    rw [show ((A ++ [c]).length : Int) = (A.length : Int) + 1 from by simp] at h2
    rw [h2]
    congr 1
    rw [Int.toNat_natCast, UInt8.ofNat_toNat]

theorem skip_zero (c : UInt8) (l : List UInt8) (h : isBlank c.toNat = false) : skip (bl (c :: l)) 0 = 0 := by
  unfold skip
  rw [bl_size]
  show skipN (bl (c :: l)) (l.length + 1 + 1 - 0) 0 = 0
  rw [show l.length + 1 + 1 - 0 = (l.length + 1) + 1 from rfl, skipN, bAt_cons, if_neg (by simp [h])]
/-- a word at the head -/
theorem nextT_word (u rest : List UInt8) (hu : u.all isPlain = true) : nextT (bl (39 :: (u ++ 39 :: rest))) 0 = ⟨4, 0, u.length + 2⟩ := by
  have hs : skip (bl (39 :: (u ++ 39 :: rest))) 0 = 0 := skip_zero _ _ rfl
  have hr : readT (bl (39 :: (u ++ 39 :: rest))) 0 = (4, (u.length : Int) + 2) := by
    unfold readT
    rw [bAt_cons, if_neg (by decide), if_neg (by decide), if_pos (by rfl)]
    unfold readWd
    have h1 := wordEnd_shift (A := [39]) (B := u ++ 39 :: rest) ((bl (39 :: (u ++ 39 :: rest))).size + 1 - (0 : Int).toNat) 0 (by omega)
    rw [wordEnd_word u rest hu _ (by rw [bl_size]; simp; omega)] at h1
    have e : ((([39] : List UInt8).length : Int) + 0) = 0 + 1 := rfl
    rw [e] at h1
    rw [show (39 : UInt8) :: (u ++ 39 :: rest) = [39] ++ (u ++ 39 :: rest) from rfl]
    rw [show (39 : UInt8) :: (u ++ 39 :: rest) = [39] ++ (u ++ 39 :: rest) from rfl] at h1
    rw [h1]
    simp
    omega
  unfold nextT
  rw [hs, if_neg (by rw [bl_size]; simp; omega), hr]
/-- a blank ahead -/
theorem nextT_blank (c : UInt8) (l : List UInt8) (h : isBlank c.toNat = true) : nextT (bl (c :: l)) 0 = shT [c] (nextT (bl l) 0) := by
  have h1 : skip (bl (c :: l)) 0 = skip (bl (c :: l)) 1 := by
    unfold skip
    rw [bl_size]
    show skipN (bl (c :: l)) (l.length + 1 + 1 - 0) 0 = skipN (bl (c :: l)) (l.length + 1 + 1 - 1) 1
    rw [show l.length + 1 + 1 - 0 = (l.length + 1) + 1 from rfl, show l.length + 1 + 1 - 1 = l.length + 1 from rfl]
    rw [skipN, bAt_cons, if_pos h]
    rfl
  have h2 := nextT_shift [c] l 0 (by omega)
  have e : ((([c] : List UInt8).length : Int) + 0) = 1 := rfl
  rw [e] at h2
  rw [← h2]
  show nextT (bl (c :: l)) 0 = nextT (bl (c :: l)) 1
  unfold nextT
  rw [h1]
theorem nextT_head (c : UInt8) (l : List UInt8) (k j : Int) (hb : isBlank c.toNat = false) (hr : readT (bl (c :: l)) 0 = (k, j)) : nextT (bl (c :: l)) 0 = ⟨k, 0, j⟩ := by
  unfold nextT
  rw [skip_zero c l hb, if_neg (by rw [bl_size, List.length_cons]; omega), hr]
/-- a sign at the head -/
theorem nextT_sign (c : UInt8) (l : List UInt8) (k : Int) (h0 : (c.toNat : Int) < 97 ∨ 122 < (c.toNat : Int)) (h1 : (c.toNat : Int) ≠ 60) (h2 : (c.toNat : Int) ≠ 39) (h3 : (c.toNat : Int) ≠ 91) (hk : signK c.toNat = k) (h : k ≠ 0) : nextT (bl (c :: l)) 0 = ⟨k, 0, 1⟩ := by
  refine nextT_head c l k 1 ?_ ?_
  · cases hb : isBlank (c.toNat : Int) with
    | false => rfl
    | true =>
      simp [isBlank] at hb
      rcases hb with hb | hb <;> (rw [hb] at hk; simp [signK] at hk; omega)
  · unfold readT
    rw [bAt_cons, if_neg (by omega), if_neg h1, if_neg h2, if_neg h3, hk, if_neg h]
    rfl
theorem nextT_arrow (l : List UInt8) : nextT (bl (60 :: 45 :: l)) 0 = ⟨3, 0, 2⟩ := by
  refine nextT_head 60 _ 3 2 rfl ?_
  unfold readT
  rw [bAt_cons, if_neg (by decide), if_pos (by rfl)]
  unfold readAr
  have h := bAt_shift [60] (45 :: l) 0 (by omega)
  rw [bAt_cons] at h
  rw [show ((([60] : List UInt8).length : Int) + 0) = 0 + 1 from rfl] at h
  rw [show (60 : UInt8) :: 45 :: l = [60] ++ (45 :: l) from rfl, h, if_pos (by rfl)]
  rfl
/-- a name of one letter -/
theorem nextT_letter (c d : UInt8) (l : List UInt8) (h : (97 : Int) ≤ c.toNat) (h' : (c.toNat : Int) ≤ 122) (hd : isNameC d.toNat = false) : nextT (bl (c :: d :: l)) 0 = ⟨2, 0, 1⟩ := by
  refine nextT_head c _ 2 1 ?_ ?_
  · simp [isBlank]; omega
  · unfold readT
    rw [bAt_cons, if_pos ⟨h, h'⟩]
    have hn : nameEnd (bl (c :: d :: l)) ((bl (c :: d :: l)).size + 1 - (0 : Int).toNat) 0 = 1 := by
      rw [bl_size]
      show nameEnd _ (l.length + 1 + 1 + 1) 0 = 1
      rw [nameEnd, bAt_cons, if_pos (by simp [isNameC]; omega)]
      have h2 := bAt_shift [c] (d :: l) 0 (by omega)
      rw [bAt_cons] at h2
      rw [show ((([c] : List UInt8).length : Int) + 0) = 0 + 1 from rfl] at h2
      rw [show c :: d :: l = [c] ++ (d :: l) from rfl, nameEnd, h2, if_neg (by simp [hd])]
      rfl
    unfold readNm
    rw [hn]
    rfl
theorem nextT_end : nextT (bl []) 0 = ⟨1, 0, 0⟩ := by rfl
end Go.Proofs.Ytbojcemamhiodaa
namespace Go.Proofs.Ytbojcemamhiodaa

section
variable {s : ByteArray} {E : Tk → Int → Res} {t t1 t2 : Tk} {d : Int} {n : Nd} {acc : List Nd} {k : Nat}

def isSign (t : Tk) : Bool := t.k == 9 || t.k == 10 || t.k == 11
theorem item_single (h7 : t.k ≠ 7) (h8 : t.k ≠ 8) : itemF s E (k + 1) t d = signedF s (singleF s E t d) := by
  rw [itemF, if_neg (by omega)]
  rfl
theorem signed_no (h : isSign t = false) : signedF s ⟨0, n, t, d⟩ = ⟨0, n, t, d⟩ := by
  unfold signedF
  rw [if_neg (by simp), signsF_no h]
theorem signed_one (h : isSign t = true) (h1 : isSign (nextT s t.to) = false) : signedF s ⟨0, n, t, d⟩ = ⟨0, ⟨repK t.k, t.from_, ByteArray.empty, [n]⟩, nextT s t.to, d⟩ := by
  unfold signedF
  rw [if_neg (by simp), signsF_yes h, signsF_no h1]
theorem single_leaf (h3 : t.k ≠ 13) (h5 : t.k ≠ 15) : singleF s E t d = ⟨0, leafF s t, nextT s t.to, d⟩ := by
  unfold singleF
  rw [if_neg h3, if_neg h5]
theorem single_brackets (h : t.k = 13) (hd : d < 12) (hE : E (nextT s t.to) (d + 1) = ⟨0, n, t2, d + 1⟩) (h2 : t2.k = 14) : singleF s E t d = ⟨0, n, nextT s t2.to, d⟩ := by
  unfold singleF bracketsF
  rw [if_pos h, if_neg (by omega), hE]
  unfold withinF
  rw [if_neg (by simp), if_neg (by simp [h2])]
  simp
theorem single_place (h : t.k = 15) (hd : d < 12) (h1 : (nextT s t.to).k = 16) : singleF s E t d = ⟨0, nd0 3 [], nextT s (nextT s t.to).to, d⟩ := by
  unfold singleF
  rw [if_neg (by omega), if_pos h]
  unfold catchF
  rw [if_neg (by omega), if_pos h1]
theorem single_part (h : t.k = 15) (hd : d < 12) (h1 : (nextT s t.to).k ≠ 16) (hE : E (namedT s (nextT s t.to)) (d + 1) = ⟨0, n, t2, d + 1⟩) (h2 : t2.k = 16) : singleF s E t d = ⟨0, ⟨4, 0, namedN s (nextT s t.to), [n]⟩, nextT s t2.to, d⟩ := by
  unfold singleF
  rw [if_neg (by omega), if_pos h]
  unfold catchF
  rw [if_neg (by omega), if_neg h1, hE]
  unfold withinF
  rw [if_neg (by simp), if_neg (by simp [h2])]
  unfold partF
  rw [if_neg (by simp)]
  simp
theorem item_look (h : t.k = 7 ∨ t.k = 8) (ha : atIt s (nextT s t.to) = true) (hi : itemF s E k (nextT s t.to) d = ⟨0, n, t2, d⟩) : itemF s E (k + 1) t d = ⟨0, nd0 t.k [n], t2, d⟩ := by
  rw [itemF, if_pos h, if_pos ha, hi]
  unfold lookF
  rw [if_neg (by simp)]
theorem row_step (ha : atIt s t = true) (hi : itemF s E (s.size + 1) t d = ⟨0, n, t1, d⟩) : rowF s E (k + 1) acc t d = rowF s E k (acc ++ [n]) t1 d := rowF_yes ha hi rfl
theorem row_end (ha : atIt s t = false) : rowF s E (k + 1) acc t d = ⟨0, joinF 5 acc, t, d⟩ := rowF_no ha
theorem rows_step (h : t.k = 6) (hr : rowF s E (s.size + 1) [] (nextT s t.to) d = ⟨0, n, t1, d⟩) : rowsF s E (k + 1) acc t d = rowsF s E k (acc ++ [n]) t1 d := rowsF_yes h hr rfl
theorem rows_end (h : t.k ≠ 6) : rowsF s E (k + 1) acc t d = ⟨0, joinF 6 acc, t, d⟩ := rowsF_no h
theorem expr_rows {m : Nat} (hr : rowF s (exprN s m) (s.size + 1) [] t d = ⟨0, n, t1, d⟩) : exprN s (m + 1) t d = rowsF s (exprN s m) (s.size + 1) [n] t1 d := exprF_ok hr rfl
theorem rule_ok {T1 T2 : Tk} (h : t.k = 2) (h1 : nextT s t.to = T1) (hk : T1.k = 3) (h2 : nextT s T1.to = T2) (hE : exprN s 13 T2 0 = ⟨0, n, t2, 0⟩) : ruleF s t = ⟨0, ⟨t.of s, t.from_, n, false, 0⟩, t2, 0⟩ := by
  unfold ruleF
  rw [if_neg (by omega), h1, if_neg (by omega), h2, hE]
  unfold ruleEnd
  rw [if_neg (by simp)]
theorem parse_step {acc : List Rl} {r : Rl} (h : t.k = 2) (hr : ruleF s t = ⟨0, r, t1, 0⟩) : parseL s (k + 1) acc t = parseL s k (acc ++ [r]) t1 := parseL_ok (by omega) hr rfl
theorem parse_end {acc : List Rl} (h : t.k = 1) : parseL s (k + 1) acc t = ⟨0, acc, 0⟩ := parseL_end h
theorem parse_text (hs : s.size ≤ 400) : parseF s = parseL s (s.size + 2) [] (nextT s 0) := if_neg (by omega)
theorem atIt_word (h : t.k = 4) : atIt s t = true := by simp [atIt, h]
theorem atIt_set (h : t.k = 5) : atIt s t = true := by simp [atIt, h]
theorem atIt_dot (h : t.k = 12) : atIt s t = true := by simp [atIt, h]
theorem atIt_open (h : t.k = 13) : atIt s t = true := by simp [atIt, h]
theorem atIt_brace (h : t.k = 15) : atIt s t = true := by simp [atIt, h]
theorem atIt_look (h : t.k = 7 ∨ t.k = 8) : atIt s t = true := by rcases h with h | h <;> simp [atIt, h]
theorem atIt_name (h : t.k = 2) (h1 : (nextT s t.to).k ≠ 3) : atIt s t = true := by simp [atIt, nmBefore, h, h1]
theorem atIt_rule (h : t.k = 2) (h1 : (nextT s t.to).k = 3) : atIt s t = false := by simp [atIt, nmBefore, h, h1]
theorem atIt_no (h : t.k = 1 ∨ t.k = 6 ∨ t.k = 14 ∨ t.k = 16) : atIt s t = false := by rcases h with h | h | h | h <;> simp [atIt, h]
theorem sign_no (h : t.k = 1 ∨ t.k = 2 ∨ t.k = 4 ∨ t.k = 5 ∨ t.k = 6 ∨ t.k = 7 ∨ t.k = 8 ∨ t.k = 12 ∨ t.k = 13 ∨ t.k = 14 ∨ t.k = 15 ∨ t.k = 16) : isSign t = false := by
  unfold isSign
  simp
  omega
/-- a word, or another leaf, with no sign behind it -/
theorem item_leaf (h : t.k = 2 ∨ t.k = 4 ∨ t.k = 5 ∨ t.k = 12) (h1 : isSign (nextT s t.to) = false) : itemF s E (k + 1) t d = ⟨0, leafF s t, nextT s t.to, d⟩ := by
  rw [item_single (by omega) (by omega), single_leaf (by omega) (by omega), signed_no h1]
theorem leaf_word (h : t.k = 4) : leafF s t = ⟨0, 0, t.bytes s, []⟩ := by
  unfold leafF
  rw [if_neg (by omega), if_pos h]
theorem leaf_set (h : t.k = 5 ∨ t.k = 12) : leafF s t = ⟨1, 0, t.bytes s, []⟩ := by
  unfold leafF
  rw [if_neg (by omega), if_neg (by omega)]
theorem leaf_name (h : t.k = 2) : leafF s t = ⟨2, t.from_, t.of s, []⟩ := by
  unfold leafF
  rw [if_pos h]
end

theorem join_one5 (n : Nd) (h : n.kind ≠ 5) : joinF 5 [n] = n := by simp [joinF, flatL, h, joinL]
theorem join_one6 (n : Nd) (h : n.kind ≠ 6) : joinF 6 [n] = n := by simp [joinF, flatL, h, joinL]
theorem join_two5 (n m : Nd) (h : n.kind ≠ 5) (h' : m.kind ≠ 5) : joinF 5 [n, m] = nd0 5 [n, m] := by simp [joinF, flatL, h, h', joinL]
theorem join_two6 (n m : Nd) (h : n.kind ≠ 6) (h' : m.kind ≠ 6) : joinF 6 [n, m] = nd0 6 [n, m] := by simp [joinF, flatL, h, h', joinL]

/-- a row of one item -/
theorem row_one {s : ByteArray} {E : Tk → Int → Res} {t t1 : Tk} {d : Int} {n : Nd} {m : Nat} (hs : s.size = m + 1) (ha : atIt s t = true) (hi : itemF s E (s.size + 1) t d = ⟨0, n, t1, d⟩) (h2 : atIt s t1 = false) (h5 : n.kind ≠ 5) : rowF s E (s.size + 1) [] t d = ⟨0, n, t1, d⟩ := by
  rw [row_step ha hi, hs, row_end h2, List.nil_append, join_one5 _ h5]
theorem row_two {s : ByteArray} {E : Tk → Int → Res} {t t1 t2 : Tk} {d : Int} {n n2 : Nd} {m : Nat} (hs : s.size = m + 2) (ha : atIt s t = true) (hi : itemF s E (s.size + 1) t d = ⟨0, n, t1, d⟩) (ha2 : atIt s t1 = true) (hi2 : itemF s E (s.size + 1) t1 d = ⟨0, n2, t2, d⟩) (h2 : atIt s t2 = false) (h5 : n.kind ≠ 5) (h5' : n2.kind ≠ 5) :
    rowF s E (s.size + 1) [] t d = ⟨0, nd0 5 [n, n2], t2, d⟩ := by
  rw [row_step ha hi, hs, row_step ha2 hi2, row_end h2, List.nil_append, List.singleton_append, join_two5 _ _ h5 h5']
/-- an expression of one row -/
theorem expr_one {s : ByteArray} {t t1 : Tk} {d : Int} {n : Nd} {m : Nat} (hr : rowF s (exprN s m) (s.size + 1) [] t d = ⟨0, n, t1, d⟩) (h : t1.k ≠ 6) (h6 : n.kind ≠ 6) : exprN s (m + 1) t d = ⟨0, n, t1, d⟩ := by
  rw [expr_rows hr, rows_end h, join_one6 _ h6]
theorem expr_two {s : ByteArray} {t t1 t2 : Tk} {d : Int} {n n2 : Nd} {m z : Nat} (hs : s.size = z + 1) (hr : rowF s (exprN s m) (s.size + 1) [] t d = ⟨0, n, t1, d⟩) (h : t1.k = 6) (hr2 : rowF s (exprN s m) (s.size + 1) [] (nextT s t1.to) d = ⟨0, n2, t2, d⟩) (h2 : t2.k ≠ 6) (h6 : n.kind ≠ 6) (h6' : n2.kind ≠ 6) :
    exprN s (m + 1) t d = ⟨0, nd0 6 [n, n2], t2, d⟩ := by
  rw [expr_rows hr, rows_step h hr2, hs, rows_end h2, List.singleton_append, join_two6 _ _ h6 h6']

/-- 'r <- (u / v) w' by its tokens -/
theorem eval_words (s : ByteArray) (m : Nat) (hs : s.size = m + 2) (hs4 : s.size ≤ 400) (T0 T1 T2 T3 T4 T5 T6 T7 T8 : Tk) (h0 : nextT s 0 = T0) (h1 : nextT s T0.to = T1) (h2 : nextT s T1.to = T2) (h3 : nextT s T2.to = T3) (h4 : nextT s T3.to = T4) (h5 : nextT s T4.to = T5) (h6 : nextT s T5.to = T6) (h7 : nextT s T6.to = T7) (h8 : nextT s T7.to = T8)
    (k0 : T0.k = 2) (k1 : T1.k = 3) (k2 : T2.k = 13) (k3 : T3.k = 4) (k4 : T4.k = 6) (k5 : T5.k = 4) (k6 : T6.k = 14) (k7 : T7.k = 4) (k8 : T8.k = 1) :
    parseF s = ⟨0, [⟨T0.of s, T0.from_, nd0 5 [nd0 6 [⟨0, 0, T3.bytes s, []⟩, ⟨0, 0, T5.bytes s, []⟩], ⟨0, 0, T7.bytes s, []⟩], false, 0⟩], 0⟩ := by
  have hs1 : s.size = (m + 1) + 1 := by omega
  have w3 : ∀ (E : Tk → Int → Res) (d : Int), itemF s E (s.size + 1) T3 d = ⟨0, ⟨0, 0, T3.bytes s, []⟩, T4, d⟩ := fun E d => by rw [item_leaf (.inr (.inl k3)) (by rw [h4]; exact sign_no (by omega)), leaf_word k3, h4]
  have w5 : ∀ (E : Tk → Int → Res) (d : Int), itemF s E (s.size + 1) T5 d = ⟨0, ⟨0, 0, T5.bytes s, []⟩, T6, d⟩ := fun E d => by rw [item_leaf (.inr (.inl k5)) (by rw [h6]; exact sign_no (by omega)), leaf_word k5, h6]
  have w7 : ∀ (E : Tk → Int → Res) (d : Int), itemF s E (s.size + 1) T7 d = ⟨0, ⟨0, 0, T7.bytes s, []⟩, T8, d⟩ := fun E d => by rw [item_leaf (.inr (.inl k7)) (by rw [h8]; exact sign_no (by omega)), leaf_word k7, h8]
  have hin : exprN s 12 T3 1 = ⟨0, nd0 6 [⟨0, 0, T3.bytes s, []⟩, ⟨0, 0, T5.bytes s, []⟩], T6, 1⟩ :=
    expr_two hs1 (row_one hs1 (atIt_word k3) (w3 _ _) (atIt_no (by omega)) (by simp)) k4 (by rw [h5]; exact row_one hs1 (atIt_word k5) (w5 _ _) (atIt_no (by omega)) (by simp)) (by omega) (by simp) (by simp)
  have h2i : itemF s (exprN s 12) (s.size + 1) T2 0 = ⟨0, nd0 6 [⟨0, 0, T3.bytes s, []⟩, ⟨0, 0, T5.bytes s, []⟩], T7, 0⟩ := by
    rw [item_single (by omega) (by omega), single_brackets k2 (by omega) (by rw [h3]; exact hin) k6, h7, signed_no (sign_no (by omega))]
  have hex : exprN s 13 T2 0 = ⟨0, nd0 5 [nd0 6 [⟨0, 0, T3.bytes s, []⟩, ⟨0, 0, T5.bytes s, []⟩], ⟨0, 0, T7.bytes s, []⟩], T8, 0⟩ :=
    expr_one (row_two hs (atIt_open k2) h2i (atIt_word k7) (w7 _ _) (atIt_no (by omega)) (by simp [nd0]) (by simp)) (by omega) (by simp [nd0])
  rw [parse_text hs4, h0, hs, parse_step k0 (rule_ok k0 h1 k1 h2 hex), parse_end k8]
  rfl
end Go.Proofs.Ytbojcemamhiodaa
namespace Go.Proofs.Ytbojcemamhiodaa

theorem next_at {L A B : List UInt8} {k f e : Int} {p : Int} (h : L = A ++ B) (hn : nextT (bl B) 0 = ⟨k, f, e⟩) (hp : p = A.length) : nextT (bl L) p = ⟨k, A.length + f, A.length + e⟩ := by
  subst h
  subst hp
  have h1 := nextT_shift A B 0 (by omega)
  rw [Int.add_zero, hn] at h1
  exact h1
theorem blank_any (l : List UInt8) {k f e : Int} (hn : nextT (bl l) 0 = ⟨k, f, e⟩) : nextT (bl (32 :: l)) 0 = ⟨k, 1 + f, 1 + e⟩ := by
  rw [nextT_blank 32 l rfl, hn]
  rfl
theorem of_bl (A X : List UInt8) (n : Nat) (k : Int) : (⟨k, A.length, A.length + n⟩ : Tk).of (bl (A ++ X)) = bl (X.take n) := by
  unfold Tk.of bl
  simp only
  rw [show ((A.length : Int) + n).toNat = A.length + n from by omega, Int.toNat_natCast]
  apply ByteArray.ext
  simp
theorem word_bytes (A u rest : List UInt8) (hu : u.all isPlain = true) : (⟨4, A.length, A.length + (u.length + 2)⟩ : Tk).bytes (bl (A ++ 39 :: (u ++ 39 :: rest))) = bl u := by
  have h := of_bl A (39 :: (u ++ 39 :: rest)) (u.length + 2) 4
  have e : ((39 : UInt8) :: (u ++ 39 :: rest)).take (u.length + 2) = [39] ++ (u ++ 39 :: []) := by
    simp [List.take_append]
    exact List.take_of_length_le (by omega)
  rw [e] at h
  rw [bytes_4 rfl]
  have h2 : (⟨4, A.length, A.length + (u.length + 2)⟩ : Tk).of (bl (A ++ 39 :: (u ++ 39 :: rest))) = bl ([39] ++ (u ++ 39 :: [])) := by
    rw [← h]
    rfl
  rw [h2]
  have h3 := wordBs_word u [] hu [39] ((bl ([39] ++ (u ++ 39 :: []))).size + 1) (by rw [bl_size]; simp; omega)
  unfold bl at *
  rw [show (1 : Int) = ((([39] : List UInt8).length : Nat) : Int) from rfl, h3]
theorem word_at {L A u rest : List UInt8} {p : Int} (hu : u.all isPlain = true) (h : L = A ++ 39 :: (u ++ 39 :: rest)) (hp : p = A.length) : (⟨4, p, p + (u.length + 2)⟩ : Tk).bytes (bl L) = bl u := by
  subst h
  subst hp
  exact word_bytes A u rest hu

/-- r <- ('u' / 'v') 'w' -/
def textW (u v w : List UInt8) : List UInt8 := 114 :: 32 :: 60 :: 45 :: 32 :: 40 :: 39 :: (u ++ 39 :: 32 :: 47 :: 32 :: 39 :: (v ++ 39 :: 41 :: 32 :: 39 :: (w ++ 39 :: [])))
def bodyW (u v w : List UInt8) : Nd := nd0 5 [nd0 6 [⟨0, 0, bl u, []⟩, ⟨0, 0, bl v, []⟩], ⟨0, 0, bl w, []⟩]

theorem parse_words (u v w : List UInt8) (hu : u.all isPlain = true) (hv : v.all isPlain = true) (hw : w.all isPlain = true) (h5 : u.length + v.length + w.length ≤ 300) :
    parseF (bl (textW u v w)) = ⟨0, [⟨bl [114], 0, bodyW u v w, false, 0⟩], 0⟩ := by
  have hlen : (textW u v w).length = 17 + u.length + v.length + w.length := by simp [textW]; omega
  have t0 : nextT (bl (textW u v w)) 0 = ⟨2, 0, 1⟩ := nextT_letter 114 32 _ (by decide) (by decide) rfl
  have t1 : nextT (bl (textW u v w)) 1 = ⟨3, 2, 4⟩ := next_at (A := [114]) (B := 32 :: 60 :: 45 :: 32 :: 40 :: 39 :: (u ++ 39 :: 32 :: 47 :: 32 :: 39 :: (v ++ 39 :: 41 :: 32 :: 39 :: (w ++ 39 :: [])))) rfl (blank_any _ (nextT_arrow _)) rfl
  have t2 : nextT (bl (textW u v w)) 4 = ⟨13, 5, 6⟩ := next_at (A := [114, 32, 60, 45]) (B := 32 :: 40 :: 39 :: (u ++ 39 :: 32 :: 47 :: 32 :: 39 :: (v ++ 39 :: 41 :: 32 :: 39 :: (w ++ 39 :: [])))) rfl (blank_any _ (nextT_sign 40 _ 13 (by decide) (by decide) (by decide) (by decide) rfl (by decide))) rfl
  have t3 : nextT (bl (textW u v w)) 6 = ⟨4, 6, 6 + (u.length + 2)⟩ := by
    have h := next_at (L := textW u v w) (A := [114, 32, 60, 45, 32, 40]) (p := 6) rfl (nextT_word u (32 :: 47 :: 32 :: 39 :: (v ++ 39 :: 41 :: 32 :: 39 :: (w ++ 39 :: []))) hu) rfl
    exact h
  have t4 : nextT (bl (textW u v w)) (6 + (u.length + 2)) = ⟨6, 9 + u.length, 10 + u.length⟩ := by
    have h := next_at (L := textW u v w) (A := [114, 32, 60, 45, 32, 40, 39] ++ (u ++ [39])) (B := 32 :: 47 :: 32 :: 39 :: (v ++ 39 :: 41 :: 32 :: 39 :: (w ++ 39 :: []))) (p := 6 + (u.length + 2)) (by simp [textW]) (blank_any _ (nextT_sign 47 _ 6 (by decide) (by decide) (by decide) (by decide) rfl (by decide))) (by simp; omega)
    rw [h]
    congr 1 <;> (simp; omega)
  have t5 : nextT (bl (textW u v w)) (10 + u.length) = ⟨4, 11 + u.length, 11 + u.length + (v.length + 2)⟩ := by
    have h := next_at (L := textW u v w) (A := [114, 32, 60, 45, 32, 40, 39] ++ (u ++ [39, 32, 47])) (B := 32 :: 39 :: (v ++ 39 :: 41 :: 32 :: 39 :: (w ++ 39 :: []))) (p := 10 + u.length) (by simp [textW]) (blank_any _ (nextT_word v _ hv)) (by simp; omega)
    rw [h]
    congr 1 <;> (simp; omega)
  have t6 : nextT (bl (textW u v w)) (11 + u.length + (v.length + 2)) = ⟨14, 13 + u.length + v.length, 14 + u.length + v.length⟩ := by
    have h := next_at (L := textW u v w) (A := [114, 32, 60, 45, 32, 40, 39] ++ (u ++ [39, 32, 47, 32, 39] ++ (v ++ [39]))) (B := 41 :: 32 :: 39 :: (w ++ 39 :: [])) (p := 11 + u.length + (v.length + 2)) (by simp [textW]) (nextT_sign 41 _ 14 (by decide) (by decide) (by decide) (by decide) rfl (by decide)) (by simp; omega)
    rw [h]
    congr 1 <;> (simp; omega)
  have t7 : nextT (bl (textW u v w)) (14 + u.length + v.length) = ⟨4, 15 + u.length + v.length, 15 + u.length + v.length + (w.length + 2)⟩ := by
    have h := next_at (L := textW u v w) (A := [114, 32, 60, 45, 32, 40, 39] ++ (u ++ [39, 32, 47, 32, 39] ++ (v ++ [39, 41]))) (B := 32 :: 39 :: (w ++ 39 :: [])) (p := 14 + u.length + v.length) (by simp [textW]) (blank_any _ (nextT_word w _ hw)) (by simp; omega)
    rw [h]
    congr 1 <;> (simp; omega)
  have t8 : nextT (bl (textW u v w)) (15 + u.length + v.length + (w.length + 2)) = ⟨1, 17 + u.length + v.length + w.length, 17 + u.length + v.length + w.length⟩ := by
    have h := next_at (L := textW u v w) (A := textW u v w) (B := []) (p := 15 + u.length + v.length + (w.length + 2)) (by simp) nextT_end (by rw [hlen]; omega)
    rw [h, hlen]
    congr 1 <;> omega
  rw [eval_words (bl (textW u v w)) (15 + u.length + v.length + w.length) (by rw [bl_size, hlen]; omega) (by rw [bl_size, hlen]; omega) _ _ _ _ _ _ _ _ _ t0 t1 t2 t3 t4 t5 t6 t7 t8 rfl rfl rfl rfl rfl rfl rfl rfl rfl]
  have b0 : (⟨2, 0, 1⟩ : Tk).of (bl (textW u v w)) = bl [114] := of_bl [] (textW u v w) 1 2
  have b3 : (⟨4, 6, 6 + (u.length + 2)⟩ : Tk).bytes (bl (textW u v w)) = bl u := word_at (A := [114, 32, 60, 45, 32, 40]) hu rfl rfl
  have b5 : (⟨4, 11 + u.length, 11 + u.length + (v.length + 2)⟩ : Tk).bytes (bl (textW u v w)) = bl v :=
    word_at (A := [114, 32, 60, 45, 32, 40, 39] ++ (u ++ [39, 32, 47, 32])) (rest := 41 :: 32 :: 39 :: (w ++ 39 :: [])) hv (by simp [textW]) (by simp; omega)
  have b7 : (⟨4, 15 + u.length + v.length, 15 + u.length + v.length + (w.length + 2)⟩ : Tk).bytes (bl (textW u v w)) = bl w :=
    word_at (A := [114, 32, 60, 45, 32, 40, 39] ++ (u ++ [39, 32, 47, 32, 39] ++ (v ++ [39, 41, 32]))) (rest := []) hw (by simp [textW]) (by simp; omega)
  rw [b0, b3, b5, b7]
  rfl
end Go.Proofs.Ytbojcemamhiodaa
namespace Go.Proofs.Ytbojcemamhiodaa

theorem or_zero : orI 0 0 = 0 := by decide +kernel
theorem and_zero : bits BinOp.and IntKind.i64 0 (bitI 0) = 0 := by decide +kernel
set_option maxHeartbeats 1000000 in
theorem check_words (bu bv bw : ByteArray) : checkF 3 3 [⟨bl [114], 0, nd0 5 [nd0 6 [⟨0, 0, bu, []⟩, ⟨0, 0, bv, []⟩], ⟨0, 0, bw, []⟩], false, 0⟩] = some (0, 0) := by
  cases h1 : bu.toList.isEmpty <;> cases h2 : bv.toList.isEmpty <;> cases h3 : bw.toList.isEmpty <;>
    simp [checkF, check2, check3, twiceL, findF, findFrom, firstR, unkN, firstL, fixE, roundE, mayE, setE, fixB, roundB, nd0, begN, begL, or_zero, and_zero, leftL, loopN, h1, h2, h3]
theorem compile_words (u v w : List UInt8) (hu : u.all isPlain = true) (hv : v.all isPlain = true) (hw : w.all isPlain = true) (h5 : u.length + v.length + w.length ≤ 300) :
    compileF 3 3 (bl (textW u v w)) = some (0, 0) := by
  unfold compileF
  rw [parse_words u v w hu hv hw h5]
  simp only [bodyW, check_words]
  rfl
theorem build_words (u v w : List UInt8) : buildF 4 [⟨bl [114], 0, bodyW u v w, false, 0⟩] = [⟨5, ByteArray.empty, [3, 4]⟩, ⟨0, bl u, []⟩, ⟨0, bl v, []⟩, ⟨6, ByteArray.empty, [1, 2]⟩, ⟨0, bl w, []⟩] := by rfl
end Go.Proofs.Ytbojcemamhiodaa

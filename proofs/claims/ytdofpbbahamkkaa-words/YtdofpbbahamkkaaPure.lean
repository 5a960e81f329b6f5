namespace Go.Proofs.Ytdofpbbahamkkaa

def bAt (s : ByteArray) (i : Int) : Int := if h : 0 ≤ i ∧ i < s.size then (s[i.toNat]'(by omega)).toNat else -1

theorem bAt_range (s : ByteArray) (i : Int) : -1 ≤ bAt s i ∧ bAt s i ≤ 255 := by
  unfold bAt
  split
  · have := (s[i.toNat]'(by omega)).toNat_lt; omega
  · omega

theorem bAt_in {s : ByteArray} {i : Int} (h : 0 ≤ bAt s i) : 0 ≤ i ∧ i < s.size := by
  unfold bAt at h
  split at h
  · assumption
  · omega

def isBlank (c : Int) : Bool := c == 32 || c == 10

/-- the place behind the blanks from i on -/
def skipN (s : ByteArray) : Nat → Int → Int
  | 0, i => i
  | n + 1, i => if isBlank (bAt s i) then skipN s n (i + 1) else i
def skip (s : ByteArray) (i : Int) : Int := skipN s (s.size + 1 - i.toNat) i

def digit (s : ByteArray) (i : Int) : Int :=
  if 48 ≤ bAt s i ∧ bAt s i ≤ 57 then bAt s i - 48 else if 97 ≤ bAt s i ∧ bAt s i ≤ 102 then bAt s i - 97 + 10 else -1

theorem digit_range (s : ByteArray) (i : Int) : -1 ≤ digit s i ∧ digit s i ≤ 15 := by unfold digit; split <;> (try split) <;> omega
theorem digit_in {s : ByteArray} {i : Int} (h : 0 ≤ digit s i) : 0 ≤ i ∧ i < s.size := by
  apply bAt_in; unfold digit at h; split at h <;> (try split at h) <;> omega

def isWM (c : Int) : Bool := c == 39 || c == 92
def isSM (c : Int) : Bool := c == 93 || c == 92 || c == 45 || c == 94 || c == 91
def plainC (c i : Int) (m : Bool) : Int × Int := if c < 32 ∨ 126 < c ∨ m = true then (-1, i) else (c, i + 1)
def escC (s : ByteArray) (i : Int) (m : Bool) : Int × Int :=
  if m = true then (bAt s (i + 1), i + 2) else
  if bAt s (i + 1) ≠ 120 then (-1, i) else
  if digit s (i + 2) < 0 ∨ digit s (i + 3) < 0 then (-1, i) else (digit s (i + 2) * 16 + digit s (i + 3), i + 4)
def wordC (s : ByteArray) (i : Int) : Int × Int :=
  if bAt s i = 92 then escC s i (isWM (bAt s (i + 1))) else plainC (bAt s i) i (isWM (bAt s i))
def setC (s : ByteArray) (i : Int) : Int × Int :=
  if bAt s i = 92 then escC s i (isSM (bAt s (i + 1))) else plainC (bAt s i) i (isSM (bAt s i))

/-- what a reader of a character may answer -/
def GoodC (s : ByteArray) (i : Int) (r : Int × Int) : Prop :=
  (r.1 = -1 ∧ r.2 = i) ∨ (0 ≤ r.1 ∧ r.1 ≤ 255 ∧ i < r.2 ∧ r.2 ≤ s.size)

theorem plainC_good (s : ByteArray) (i : Int) (m : Bool) : GoodC s i (plainC (bAt s i) i m) := by
  have h := bAt_range s i
  unfold plainC GoodC
  split
  · exact .inl ⟨rfl, rfl⟩
  · rename_i hn
    have := bAt_in (s := s) (i := i) (by omega)
    exact .inr ⟨by show 0 ≤ bAt s i; omega, by show bAt s i ≤ 255; omega, by show i < i + 1; omega, by show i + 1 ≤ _; omega⟩

theorem escC_good (s : ByteArray) (i : Int) (m : Bool) (hm : m = true → 0 ≤ bAt s (i + 1)) : GoodC s i (escC s i m) := by
  have h := bAt_range s (i + 1)
  unfold escC GoodC
  split
  · rename_i h1
    have h2 := hm h1
    have := bAt_in h2
    exact .inr ⟨h2, h.2, by show i < i + 2; omega, by show i + 2 ≤ _; omega⟩
  · split
    · exact .inl ⟨rfl, rfl⟩
    · split
      · exact .inl ⟨rfl, rfl⟩
      · rename_i hd
        have d2 := digit_range s (i + 2)
        have d3 := digit_range s (i + 3)
        have := digit_in (s := s) (i := i + 3) (by omega)
        exact .inr ⟨by show 0 ≤ _ * 16 + _; omega, by show _ * 16 + _ ≤ _; omega, by show i < i + 4; omega, by show i + 4 ≤ _; omega⟩

theorem isWM_pos {c : Int} (h : isWM c = true) : 0 ≤ c := by unfold isWM at h; simp at h; omega
theorem isSM_pos {c : Int} (h : isSM c = true) : 0 ≤ c := by unfold isSM at h; simp at h; omega

theorem wordC_good (s : ByteArray) (i : Int) : GoodC s i (wordC s i) := by
  unfold wordC
  split
  · exact escC_good _ _ _ isWM_pos
  · exact plainC_good _ _ _
theorem setC_good (s : ByteArray) (i : Int) : GoodC s i (setC s i) := by
  unfold setC
  split
  · exact escC_good _ _ _ isSM_pos
  · exact plainC_good _ _ _

/-- the place of the quote that ends a word; none: there is none -/
def wordEnd (s : ByteArray) : Nat → Int → Option Int
  | 0, _ => none
  | n + 1, i => if bAt s i = 39 then some i else if (wordC s i).1 < 0 then none else wordEnd s n (wordC s i).2

def member (s : ByteArray) (i : Int) : Int × Int × Int :=
  if (setC s i).1 < 0 ∨ bAt s (setC s i).2 ≠ 45 then ((setC s i).1, (setC s i).1, (setC s i).2) else
  if (setC s ((setC s i).2 + 1)).1 < (setC s i).1 then (-1, -1, i) else ((setC s i).1, (setC s ((setC s i).2 + 1)).1, (setC s ((setC s i).2 + 1)).2)

/-- what a reader of a member may answer -/
def GoodM (s : ByteArray) (i : Int) (r : Int × Int × Int) : Prop :=
  (r.1 = -1 ∧ r.2.1 = -1 ∧ r.2.2 = i) ∨ (0 ≤ r.1 ∧ r.1 ≤ r.2.1 ∧ r.2.1 ≤ 255 ∧ i < r.2.2 ∧ r.2.2 ≤ s.size)

theorem member_good (s : ByteArray) (i : Int) : GoodM s i (member s i) := by
  have h1 := setC_good s i
  have h2 := setC_good s ((setC s i).2 + 1)
  unfold member GoodM
  unfold GoodC at h1 h2
  split
  · rcases h1 with ⟨h, h'⟩ | ⟨h0, h3, h, h'⟩
    · exact .inl ⟨h, h, h'⟩
    · exact .inr ⟨h0, Int.le_refl _, h3, h, h'⟩
  · split
    · exact .inl ⟨rfl, rfl, rfl⟩
    · refine .inr ⟨?_, ?_, ?_, ?_, ?_⟩ <;> dsimp only <;> omega

def setEnd (s : ByteArray) (first : Int) : Nat → Int → Option Int
  | 0, _ => none
  | n + 1, i => if i ≠ first ∧ bAt s i = 93 then some i else if (member s i).1 < 0 then none else setEnd s first n (member s i).2.2

def isNameC (c : Int) : Bool := (97 ≤ c && c ≤ 122) || (48 ≤ c && c ≤ 57)
def nameEnd (s : ByteArray) : Nat → Int → Int
  | 0, i => i
  | n + 1, i => if isNameC (bAt s i) then nameEnd s n (i + 1) else i

def signK (c : Int) : Int :=
  if c = 47 then 6 else if c = 38 then 7 else if c = 33 then 8 else if c = 42 then 9 else if c = 43 then 10 else if c = 63 then 11 else
  if c = 46 then 12 else if c = 40 then 13 else if c = 41 then 14 else if c = 123 then 15 else if c = 125 then 16 else if c = 58 then 17 else 0

def readNm (s : ByteArray) (i : Int) : Int × Int :=
  if 8 < nameEnd s (s.size + 1 - i.toNat) i - i then (0, i) else (2, nameEnd s (s.size + 1 - i.toNat) i)
def readAr (s : ByteArray) (i : Int) : Int × Int := if bAt s (i + 1) = 45 then (3, i + 2) else (0, i)
def readWd (s : ByteArray) (i : Int) : Int × Int :=
  match wordEnd s (s.size + 1 - i.toNat) (i + 1) with
  | some j => (4, j + 1)
  | none => (0, i)
def setFrom (s : ByteArray) (i : Int) : Int := if bAt s (i + 1) = 94 then i + 2 else i + 1
def readSt (s : ByteArray) (i : Int) : Int × Int :=
  match setEnd s (setFrom s i) (s.size + 2 - i.toNat) (setFrom s i) with
  | some j => (5, j + 1)
  | none => (0, i)
def readT (s : ByteArray) (i : Int) : Int × Int :=
  if 97 ≤ bAt s i ∧ bAt s i ≤ 122 then readNm s i else
  if bAt s i = 60 then readAr s i else
  if bAt s i = 39 then readWd s i else
  if bAt s i = 91 then readSt s i else
  if signK (bAt s i) = 0 then (0, i) else (signK (bAt s i), i + 1)

/-- a token: kind, from, to -/
structure Tk where
  k : Int
  from_ : Int
  to : Int
def Tk.of (t : Tk) (s : ByteArray) : ByteArray := s.extract t.from_.toNat t.to.toNat

/-- the bytes of a word, from its character at i on -/
def wordBs (s : ByteArray) : Nat → Int → List UInt8
  | 0, _ => []
  | n + 1, i => if (wordC s i).1 < 0 then [] else UInt8.ofNat (wordC s i).1.toNat :: wordBs s n (wordC s i).2
/-- the members of a set, from the one at i on -/
def membs (s : ByteArray) : Nat → Int → List (Int × Int)
  | 0, _ => []
  | n + 1, i => if (member s i).1 < 0 then [] else ((member s i).1, (member s i).2.1) :: membs s n (member s i).2.2
def isIn (l : List (Int × Int)) (c : Nat) : Bool := l.any fun p => decide (p.1 ≤ c) && decide (c ≤ p.2)
/-- the bytes that a set has, rising -/
def bytesOf (f : Nat → Bool) (b : Bool) : List UInt8 := ((List.range 256).filter fun c => f c == b).map UInt8.ofNat
def setBs (s : ByteArray) : List UInt8 :=
  if bAt s 1 = 94 then bytesOf (isIn (membs s (s.size + 1) 2)) false else bytesOf (isIn (membs s (s.size + 1) 1)) true
def Tk.bytes (t : Tk) (s : ByteArray) : ByteArray :=
  if t.k = 4 then ⟨(wordBs (t.of s) ((t.of s).size + 1) 1).toArray⟩ else if t.k = 5 then ⟨(setBs (t.of s)).toArray⟩ else if t.k = 12 then ⟨(bytesOf (fun _ => false) false).toArray⟩ else ByteArray.empty

def nextT (s : ByteArray) (i : Int) : Tk :=
  if skip s i ≥ s.size then ⟨1, s.size, s.size⟩ else ⟨(readT s (skip s i)).1, skip s i, (readT s (skip s i)).2⟩

theorem skipN_range (s : ByteArray) : ∀ (n : Nat) (i : Int), 0 ≤ i → i ≤ s.size → i ≤ skipN s n i ∧ skipN s n i ≤ s.size
  | 0, i, h, h' => ⟨Int.le_refl _, h'⟩
  | n + 1, i, h, h' => by
    unfold skipN
    split
    · rename_i hb
      have : 0 ≤ bAt s i := by unfold isBlank at hb; simp at hb; omega
      have := bAt_in this
      have := skipN_range s n (i + 1) (by omega) (by omega)
      omega
    · omega
theorem skip_range (s : ByteArray) (i : Int) (h : 0 ≤ i) (h' : i ≤ s.size) : i ≤ skip s i ∧ skip s i ≤ s.size := skipN_range s _ i h h'
theorem nameEnd_range (s : ByteArray) : ∀ (n : Nat) (i : Int), 0 ≤ i → i ≤ s.size → i ≤ nameEnd s n i ∧ nameEnd s n i ≤ s.size
  | 0, i, h, h' => ⟨Int.le_refl _, h'⟩
  | n + 1, i, h, h' => by
    unfold nameEnd
    split
    · rename_i hb
      have : 0 ≤ bAt s i := by unfold isNameC at hb; simp at hb; omega
      have := bAt_in this
      have := nameEnd_range s n (i + 1) (by omega) (by omega)
      omega
    · omega
theorem wordEnd_range (s : ByteArray) : ∀ n i j, 0 ≤ i → wordEnd s n i = some j → i ≤ j ∧ j < s.size
  | 0, i, j, _, h => by simp [wordEnd] at h
  | n + 1, i, j, h0, h => by
    unfold wordEnd at h
    split at h
    · rename_i hb
      have := bAt_in (s := s) (i := i) (by omega)
      cases h; omega
    · split at h
      · cases h
      · have hg := wordC_good s i
        unfold GoodC at hg
        have := wordEnd_range s n _ j (by omega) h
        omega
theorem setEnd_range (s : ByteArray) (f : Int) : ∀ n i j, 0 ≤ i → setEnd s f n i = some j → i ≤ j ∧ j < s.size
  | 0, i, j, _, h => by simp [setEnd] at h
  | n + 1, i, j, h0, h => by
    unfold setEnd at h
    split at h
    · rename_i hb
      have := bAt_in (s := s) (i := i) (by omega)
      cases h; omega
    · split at h
      · cases h
      · have hg := member_good s i
        unfold GoodM at hg
        have := setEnd_range s f n _ j (by omega) h
        omega
theorem signK_range (c : Int) : 0 ≤ signK c ∧ signK c ≤ 17 := by
  unfold signK
  repeat' split
  all_goals omega
theorem readT_range (s : ByteArray) (i : Int) (h : 0 ≤ i) (h' : i < s.size) : 0 ≤ (readT s i).1 ∧ (readT s i).1 ≤ 17 ∧ i ≤ (readT s i).2 ∧ (readT s i).2 ≤ s.size := by
  unfold readT
  split
  · unfold readNm
    have := nameEnd_range s (s.size + 1 - i.toNat) i (by omega) (by omega)
    split <;> simp <;> omega
  · split
    · unfold readAr
      split
      · rename_i hb
        have := bAt_in (s := s) (i := i + 1) (by omega)
        simp; omega
      · simp; omega
    · split
      · unfold readWd
        split
        · rename_i j hj
          have := wordEnd_range s _ _ j (by omega) hj
          simp; omega
        · simp; omega
      · split
        · unfold readSt
          split
          · rename_i j hj
            have : i + 1 ≤ setFrom s i := by unfold setFrom; split <;> omega
            have := setEnd_range s _ _ _ j (by omega) hj
            simp; omega
          · simp; omega
        · have := signK_range (bAt s i)
          generalize signK (bAt s i) = k at *
          split
          · simp; omega
          · simp; omega
theorem nextT_range (s : ByteArray) (i : Int) (h : 0 ≤ i) (h' : i ≤ s.size) :
    0 ≤ (nextT s i).k ∧ (nextT s i).k ≤ 17 ∧ i ≤ (nextT s i).from_ ∧ (nextT s i).from_ ≤ (nextT s i).to ∧ (nextT s i).to ≤ s.size := by
  have hs := skip_range s i h h'
  unfold nextT
  split
  · simp; omega
  · have := readT_range s (skip s i) (by omega) (by omega)
    simp; omega
end Go.Proofs.Ytdofpbbahamkkaa

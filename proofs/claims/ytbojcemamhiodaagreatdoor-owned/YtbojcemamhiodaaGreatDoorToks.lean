import Derived.Test.YtbojcemamhiodaaGreatDoorRows
import Derived.WalkKit
import Derived.WalkSpells
import Derived.WalkLawsBesides
namespace Go.Proofs.YtbojcemamhiodaaGreatDoor

def bAt (s : ByteArray) (i : Int) : Int := if h : 0 ≤ i ∧ i < s.size then (s[i.toNat]'(by omega)).toNat else -1

theorem bAt_range (s : ByteArray) (i : Int) : -1 ≤ bAt s i ∧ bAt s i ≤ 255 := by
  unfold bAt
  split
  · have := (s[i.toNat]'(by omega)).toNat_lt; omega
  · omega

theorem bAt_in {s : ByteArray} {i : Int} (h : 0 ≤ bAt s i) : 0 ≤ i ∧ i < s.size := by
  unfold bAt at h
  split at h
  · assumption
  · omega

def isBlank (c : Int) : Bool := c == 32 || c == 10

/-- the place behind the blanks from i on -/
def skipN (s : ByteArray) : Nat → Int → Int
  | 0, i => i
  | n + 1, i => if isBlank (bAt s i) then skipN s n (i + 1) else i
def skip (s : ByteArray) (i : Int) : Int := skipN s (s.size + 1 - i.toNat) i

def digit (s : ByteArray) (i : Int) : Int :=
  if 48 ≤ bAt s i ∧ bAt s i ≤ 57 then bAt s i - 48 else if 97 ≤ bAt s i ∧ bAt s i ≤ 102 then bAt s i - 97 + 10 else -1

theorem digit_range (s : ByteArray) (i : Int) : -1 ≤ digit s i ∧ digit s i ≤ 15 := by unfold digit; split <;> (try split) <;> omega
theorem digit_in {s : ByteArray} {i : Int} (h : 0 ≤ digit s i) : 0 ≤ i ∧ i < s.size := by
  apply bAt_in; unfold digit at h; split at h <;> (try split at h) <;> omega

def isWM (c : Int) : Bool := c == 39 || c == 92
def isSM (c : Int) : Bool := c == 93 || c == 92 || c == 45 || c == 94 || c == 91
def plainC (c i : Int) (m : Bool) : Int × Int := if c < 32 ∨ 126 < c ∨ m = true then (-1, i) else (c, i + 1)
def escC (s : ByteArray) (i : Int) (m : Bool) : Int × Int :=
  if m = true then (bAt s (i + 1), i + 2) else
  if bAt s (i + 1) ≠ 120 then (-1, i) else
  if digit s (i + 2) < 0 ∨ digit s (i + 3) < 0 then (-1, i) else (digit s (i + 2) * 16 + digit s (i + 3), i + 4)
def wordC (s : ByteArray) (i : Int) : Int × Int :=
  if bAt s i = 92 then escC s i (isWM (bAt s (i + 1))) else plainC (bAt s i) i (isWM (bAt s i))
def setC (s : ByteArray) (i : Int) : Int × Int :=
  if bAt s i = 92 then escC s i (isSM (bAt s (i + 1))) else plainC (bAt s i) i (isSM (bAt s i))

/-- what a reader of a character may answer -/
def GoodC (s : ByteArray) (i : Int) (r : Int × Int) : Prop :=
  (r.1 = -1 ∧ r.2 = i) ∨ (0 ≤ r.1 ∧ r.1 ≤ 255 ∧ i < r.2 ∧ r.2 ≤ s.size)

theorem plainC_good (s : ByteArray) (i : Int) (m : Bool) : GoodC s i (plainC (bAt s i) i m) := by
  have h := bAt_range s i
  unfold plainC GoodC
  split
  · exact .inl ⟨rfl, rfl⟩
  · rename_i hn
    have := bAt_in (s := s) (i := i) (by omega)
    exact .inr ⟨by show 0 ≤ bAt s i; omega, by show bAt s i ≤ 255; omega, by show i < i + 1; omega, by show i + 1 ≤ _; omega⟩

theorem escC_good (s : ByteArray) (i : Int) (m : Bool) (hm : m = true → 0 ≤ bAt s (i + 1)) : GoodC s i (escC s i m) := by
  have h := bAt_range s (i + 1)
  unfold escC GoodC
  split
  · rename_i h1
    have h2 := hm h1
    have := bAt_in h2
    exact .inr ⟨h2, h.2, by show i < i + 2; omega, by show i + 2 ≤ _; omega⟩
  · split
    · exact .inl ⟨rfl, rfl⟩
    · split
      · exact .inl ⟨rfl, rfl⟩
      · rename_i hd
        have d2 := digit_range s (i + 2)
        have d3 := digit_range s (i + 3)
        have := digit_in (s := s) (i := i + 3) (by omega)
        exact .inr ⟨by show 0 ≤ _ * 16 + _; omega, by show _ * 16 + _ ≤ _; omega, by show i < i + 4; omega, by show i + 4 ≤ _; omega⟩

theorem isWM_pos {c : Int} (h : isWM c = true) : 0 ≤ c := by unfold isWM at h; simp at h; omega
theorem isSM_pos {c : Int} (h : isSM c = true) : 0 ≤ c := by unfold isSM at h; simp at h; omega

theorem wordC_good (s : ByteArray) (i : Int) : GoodC s i (wordC s i) := by
  unfold wordC
  split
  · exact escC_good _ _ _ isWM_pos
  · exact plainC_good _ _ _
theorem setC_good (s : ByteArray) (i : Int) : GoodC s i (setC s i) := by
  unfold setC
  split
  · exact escC_good _ _ _ isSM_pos
  · exact plainC_good _ _ _

/-- the place of the quote that ends a word; none: there is none -/
def wordEnd (s : ByteArray) : Nat → Int → Option Int
  | 0, _ => none
  | n + 1, i => if bAt s i = 39 then some i else if (wordC s i).1 < 0 then none else wordEnd s n (wordC s i).2

def member (s : ByteArray) (i : Int) : Int × Int × Int :=
  if (setC s i).1 < 0 ∨ bAt s (setC s i).2 ≠ 45 then ((setC s i).1, (setC s i).1, (setC s i).2) else
  if (setC s ((setC s i).2 + 1)).1 < (setC s i).1 then (-1, -1, i) else ((setC s i).1, (setC s ((setC s i).2 + 1)).1, (setC s ((setC s i).2 + 1)).2)

/-- what a reader of a member may answer -/
def GoodM (s : ByteArray) (i : Int) (r : Int × Int × Int) : Prop :=
  (r.1 = -1 ∧ r.2.1 = -1 ∧ r.2.2 = i) ∨ (0 ≤ r.1 ∧ r.1 ≤ r.2.1 ∧ r.2.1 ≤ 255 ∧ i < r.2.2 ∧ r.2.2 ≤ s.size)

theorem member_good (s : ByteArray) (i : Int) : GoodM s i (member s i) := by
  have h1 := setC_good s i
  have h2 := setC_good s ((setC s i).2 + 1)
  unfold member GoodM
  unfold GoodC at h1 h2
  split
  · rcases h1 with ⟨h, h'⟩ | ⟨h0, h3, h, h'⟩
    · exact .inl ⟨h, h, h'⟩
    · exact .inr ⟨h0, Int.le_refl _, h3, h, h'⟩
  · split
    · exact .inl ⟨rfl, rfl, rfl⟩
    · refine .inr ⟨?_, ?_, ?_, ?_, ?_⟩ <;> dsimp only <;> omega

def setEnd (s : ByteArray) (first : Int) : Nat → Int → Option Int
  | 0, _ => none
  | n + 1, i => if i ≠ first ∧ bAt s i = 93 then some i else if (member s i).1 < 0 then none else setEnd s first n (member s i).2.2

def isNameC (c : Int) : Bool := (97 ≤ c && c ≤ 122) || (48 ≤ c && c ≤ 57)
def nameEnd (s : ByteArray) : Nat → Int → Int
  | 0, i => i
  | n + 1, i => if isNameC (bAt s i) then nameEnd s n (i + 1) else i

def signK (c : Int) : Int :=
  if c = 47 then 6 else if c = 38 then 7 else if c = 33 then 8 else if c = 42 then 9 else if c = 43 then 10 else if c = 63 then 11 else
  if c = 46 then 12 else if c = 40 then 13 else if c = 41 then 14 else if c = 123 then 15 else if c = 125 then 16 else if c = 58 then 17 else 0

def readNm (s : ByteArray) (i : Int) : Int × Int :=
  if 8 < nameEnd s (s.size + 1 - i.toNat) i - i then (0, i) else (2, nameEnd s (s.size + 1 - i.toNat) i)
def readAr (s : ByteArray) (i : Int) : Int × Int := if bAt s (i + 1) = 45 then (3, i + 2) else (0, i)
def readWd (s : ByteArray) (i : Int) : Int × Int :=
  match wordEnd s (s.size + 1 - i.toNat) (i + 1) with
  | some j => (4, j + 1)
  | none => (0, i)
def setFrom (s : ByteArray) (i : Int) : Int := if bAt s (i + 1) = 94 then i + 2 else i + 1
def readSt (s : ByteArray) (i : Int) : Int × Int :=
  match setEnd s (setFrom s i) (s.size + 2 - i.toNat) (setFrom s i) with
  | some j => (5, j + 1)
  | none => (0, i)
def readT (s : ByteArray) (i : Int) : Int × Int :=
  if 97 ≤ bAt s i ∧ bAt s i ≤ 122 then readNm s i else
  if bAt s i = 60 then readAr s i else
  if bAt s i = 39 then readWd s i else
  if bAt s i = 91 then readSt s i else
  if signK (bAt s i) = 0 then (0, i) else (signK (bAt s i), i + 1)

/-- a token: kind, from, to -/
structure Tk where
  k : Int
  from_ : Int
  to : Int
def Tk.of (t : Tk) (s : ByteArray) : ByteArray := s.extract t.from_.toNat t.to.toNat

/-- the bytes of a word, from its character at i on -/
def wordBs (s : ByteArray) : Nat → Int → List UInt8
  | 0, _ => []
  | n + 1, i => if (wordC s i).1 < 0 then [] else UInt8.ofNat (wordC s i).1.toNat :: wordBs s n (wordC s i).2
/-- the members of a set, from the one at i on -/
def membs (s : ByteArray) : Nat → Int → List (Int × Int)
  | 0, _ => []
  | n + 1, i => if (member s i).1 < 0 then [] else ((member s i).1, (member s i).2.1) :: membs s n (member s i).2.2
def isIn (l : List (Int × Int)) (c : Nat) : Bool := l.any fun p => decide (p.1 ≤ c) && decide (c ≤ p.2)
/-- the bytes that a set has, rising -/
def bytesOf (f : Nat → Bool) (b : Bool) : List UInt8 := ((List.range 256).filter fun c => f c == b).map UInt8.ofNat
def setBs (s : ByteArray) : List UInt8 :=
  if bAt s 1 = 94 then bytesOf (isIn (membs s (s.size + 1) 2)) false else bytesOf (isIn (membs s (s.size + 1) 1)) true
def Tk.bytes (t : Tk) (s : ByteArray) : ByteArray :=
  if t.k = 4 then ⟨(wordBs (t.of s) ((t.of s).size + 1) 1).toArray⟩ else if t.k = 5 then ⟨(setBs (t.of s)).toArray⟩ else if t.k = 12 then ⟨(bytesOf (fun _ => false) false).toArray⟩ else ByteArray.empty

def nextT (s : ByteArray) (i : Int) : Tk :=
  if skip s i ≥ s.size then ⟨1, s.size, s.size⟩ else ⟨(readT s (skip s i)).1, skip s i, (readT s (skip s i)).2⟩

theorem skipN_range (s : ByteArray) : ∀ (n : Nat) (i : Int), 0 ≤ i → i ≤ s.size → i ≤ skipN s n i ∧ skipN s n i ≤ s.size
  | 0, i, h, h' => ⟨Int.le_refl _, h'⟩
  | n + 1, i, h, h' => by
    unfold skipN
    split
    · rename_i hb
      have : 0 ≤ bAt s i := by unfold isBlank at hb; simp at hb; omega
      have := bAt_in this
      have := skipN_range s n (i + 1) (by omega) (by omega)
      omega
    · omega
theorem skip_range (s : ByteArray) (i : Int) (h : 0 ≤ i) (h' : i ≤ s.size) : i ≤ skip s i ∧ skip s i ≤ s.size := skipN_range s _ i h h'
theorem nameEnd_range (s : ByteArray) : ∀ (n : Nat) (i : Int), 0 ≤ i → i ≤ s.size → i ≤ nameEnd s n i ∧ nameEnd s n i ≤ s.size
  | 0, i, h, h' => ⟨Int.le_refl _, h'⟩
  | n + 1, i, h, h' => by
    unfold nameEnd
    split
    · rename_i hb
      have : 0 ≤ bAt s i := by unfold isNameC at hb; simp at hb; omega
      have := bAt_in this
      have := nameEnd_range s n (i + 1) (by omega) (by omega)
      omega
    · omega
theorem wordEnd_range (s : ByteArray) : ∀ n i j, 0 ≤ i → wordEnd s n i = some j → i ≤ j ∧ j < s.size
  | 0, i, j, _, h => by simp [wordEnd] at h
  | n + 1, i, j, h0, h => by
    unfold wordEnd at h
    split at h
    · rename_i hb
      have := bAt_in (s := s) (i := i) (by omega)
      cases h; omega
    · split at h
      · cases h
      · have hg := wordC_good s i
        unfold GoodC at hg
        have := wordEnd_range s n _ j (by omega) h
        omega
theorem setEnd_range (s : ByteArray) (f : Int) : ∀ n i j, 0 ≤ i → setEnd s f n i = some j → i ≤ j ∧ j < s.size
  | 0, i, j, _, h => by simp [setEnd] at h
  | n + 1, i, j, h0, h => by
    unfold setEnd at h
    split at h
    · rename_i hb
      have := bAt_in (s := s) (i := i) (by omega)
      cases h; omega
    · split at h
      · cases h
      · have hg := member_good s i
        unfold GoodM at hg
        have := setEnd_range s f n _ j (by omega) h
        omega
theorem signK_range (c : Int) : 0 ≤ signK c ∧ signK c ≤ 17 := by
  unfold signK
  repeat' split
  all_goals omega
theorem readT_range (s : ByteArray) (i : Int) (h : 0 ≤ i) (h' : i < s.size) : 0 ≤ (readT s i).1 ∧ (readT s i).1 ≤ 17 ∧ i ≤ (readT s i).2 ∧ (readT s i).2 ≤ s.size := by
  unfold readT
  split
  · unfold readNm
    have := nameEnd_range s (s.size + 1 - i.toNat) i (by omega) (by omega)
    split <;> simp <;> omega
  · split
    · unfold readAr
      split
      · rename_i hb
        have := bAt_in (s := s) (i := i + 1) (by omega)
        simp; omega
      · simp; omega
    · split
      · unfold readWd
        split
        · rename_i j hj
          have := wordEnd_range s _ _ j (by omega) hj
          simp; omega
        · simp; omega
      · split
        · unfold readSt
          split
          · rename_i j hj
            have : i + 1 ≤ setFrom s i := by unfold setFrom; split <;> omega
            have := setEnd_range s _ _ _ j (by omega) hj
            simp; omega
          · simp; omega
        · have := signK_range (bAt s i)
          generalize signK (bAt s i) = k at *
          split
          · simp; omega
          · simp; omega
theorem nextT_range (s : ByteArray) (i : Int) (h : 0 ≤ i) (h' : i ≤ s.size) :
    0 ≤ (nextT s i).k ∧ (nextT s i).k ≤ 17 ∧ i ≤ (nextT s i).from_ ∧ (nextT s i).from_ ≤ (nextT s i).to ∧ (nextT s i).to ≤ s.size := by
  have hs := skip_range s i h h'
  unfold nextT
  split
  · simp; omega
  · have := readT_range s (skip s i) (by omega) (by omega)
    simp; omega
end Go.Proofs.YtbojcemamhiodaaGreatDoor
namespace Go.Proofs.YtbojcemamhiodaaGreatDoor
open Go.RowKit

theorem hide {p : Prop} (h : p) : Hid p := h
theorem unhide {p : Prop} (h : Hid p) : p := h
theorem wrap64_byte (b : UInt8) : wrap64 (b.toNat : Int) = b.toNat := by
  have := b.toNat_lt
  unfold wrap64; omega
theorem ret_int {k : IntKind} {a b : Int} (h : a = b) : Ending.returned (.int k a) = .returned (.int k b) := by rw [h]
theorem ret_bool {a b : Bool} (h : a = b) : Ending.returned (.bool a) = .returned (.bool b) := by rw [h]
theorem ret_ii {k l : IntKind} {a c : Int} {r : Int × Int} (h : r = (a, c)) : Ending.returned (.tuple #[.int k a, .int l c]) = .returned (.tuple #[.int k r.1, .int l r.2]) := by rw [h]

set_option maxHeartbeats 400000 in
theorem byteAt_any (s : ByteArray) (i : Int) (w : World) :
    Calls Tryz.prog 112 #[.string s, .int .i64 i] w fun e w' => e = .returned (.int .i64 (bAt s i)) ∧ w' = w := by
  by_cases h0 : i < 0
  · go_enter Tryz.func112, Tryz.ntmps112
    go_wp2
    go_ret
    exact ⟨ret_int (by rw [bAt, dif_neg (by omega)]), rfl⟩
  · by_cases h1 : i < s.size
    · go_enter Tryz.func112, Tryz.ntmps112
      go_wp2
      go_ret
      exact ⟨ret_int (by rw [bAt, dif_pos (by omega), wrap64_byte]), rfl⟩
    · go_enter Tryz.func112, Tryz.ntmps112
      go_wp2
      go_ret
      exact ⟨ret_int (by rw [bAt, dif_neg (by omega)]), rfl⟩

set_option maxHeartbeats 400000 in
theorem digitAt_any (s : ByteArray) (i : Int) (w : World) :
    Calls Tryz.prog 156 #[.string s, .int .i64 i] w fun e w' => e = .returned (.int .i64 (digit s i)) ∧ w' = w := by
  have hr := bAt_range s i
  unfold digit
  generalize hc : bAt s i = c at hr ⊢
  have Hc := hide hc; clear hc
  go_enter Tryz.func156, Tryz.ntmps156
  go_wp2_with (go_at_call 112; refine (byteAt_any _ _ _).mono ?_; rintro e w' ⟨rfl, rfl⟩; rw [unhide Hc])
  all_goals go_ret
  all_goals exact ⟨ret_int (by first | rfl | omega), rfl⟩

theorem isWM_def (c : Int) : isWM c = (c == 39 || c == 92) := rfl
theorem isSM_def (c : Int) : isSM c = (c == 93 || c == 92 || c == 45 || c == 94 || c == 91) := rfl

set_option maxHeartbeats 400000 in
theorem isWordMark_any (c : Int) (w : World) :
    Calls Tryz.prog 96 #[.int .i64 c] w fun e w' => e = .returned (.bool (isWM c)) ∧ w' = w := by
  rw [isWM_def]
  cases h1 : (c == 39) <;> cases h2 : (c == 92)
  all_goals
    go_enter Tryz.func96, Tryz.ntmps96
    go_wp2
    go_ret
    exact ⟨rfl, rfl⟩

set_option maxHeartbeats 400000 in
theorem isSetMark_any (c : Int) (w : World) :
    Calls Tryz.prog 99 #[.int .i64 c] w fun e w' => e = .returned (.bool (isSM c)) ∧ w' = w := by
  rw [isSM_def]
  cases h1 : (c == 93)
  · cases h2 : (c == 92)
    · cases h3 : (c == 45)
      · cases h4 : (c == 94)
        · cases h5 : (c == 91)
          all_goals
            go_enter Tryz.func99, Tryz.ntmps99
            go_wp2
            go_ret
            exact ⟨rfl, rfl⟩
        · go_enter Tryz.func99, Tryz.ntmps99
          go_wp2
          go_ret
          exact ⟨rfl, rfl⟩
      · go_enter Tryz.func99, Tryz.ntmps99
        go_wp2
        go_ret
        exact ⟨rfl, rfl⟩
    · go_enter Tryz.func99, Tryz.ntmps99
      go_wp2
      go_ret
      exact ⟨rfl, rfl⟩
  · go_enter Tryz.func99, Tryz.ntmps99
    go_wp2
    go_ret
    exact ⟨rfl, rfl⟩

theorem plainC_no {c i : Int} {m : Bool} (h : c < 32 ∨ 126 < c ∨ m = true) : plainC c i m = (-1, i) := if_pos h
theorem plainC_yes {c i : Int} {m : Bool} (h1 : 32 ≤ c) (h2 : c ≤ 126) (h3 : m = false) : plainC c i m = (c, i + 1) := if_neg (by subst h3; simp; omega)

set_option maxHeartbeats 400000 in
theorem plain_any (c i : Int) (m : Bool) (w : World) (h : 0 ≤ i) (h' : i ≤ 1000) :
    Calls Tryz.prog 148 #[.int .i64 c, .int .i64 i, .bool m] w fun e w' => e = .returned (.tuple #[.int .i64 (plainC c i m).1, .int .i64 (plainC c i m).2]) ∧ w' = w := by
  by_cases h1 : c < 32
  · go_enter Tryz.func148, Tryz.ntmps148
    go_wp2
    go_ret2
    exact ⟨ret_ii (plainC_no (.inl h1)), rfl⟩
  · by_cases h2 : 126 < c
    · go_enter Tryz.func148, Tryz.ntmps148
      go_wp2
      go_ret2
      exact ⟨ret_ii (plainC_no (.inr (.inl h2))), rfl⟩
    · cases m
      · go_enter Tryz.func148, Tryz.ntmps148
        go_wp2
        go_ret2
        exact ⟨ret_ii (plainC_yes (by omega) (by omega) rfl), rfl⟩
      · go_enter Tryz.func148, Tryz.ntmps148
        go_wp2
        go_ret2
        exact ⟨ret_ii (plainC_no (.inr (.inr rfl))), rfl⟩

theorem escC_1 {s : ByteArray} {i : Int} : escC s i true = (bAt s (i + 1), i + 2) := rfl
theorem escC_2 {s : ByteArray} {i : Int} (h : bAt s (i + 1) ≠ 120) : escC s i false = (-1, i) := by
  unfold escC; rw [if_neg (by simp), if_pos h]
theorem escC_3 {s : ByteArray} {i : Int} (h : bAt s (i + 1) = 120) (hd : digit s (i + 2) < 0 ∨ digit s (i + 3) < 0) : escC s i false = (-1, i) := by
  unfold escC; rw [if_neg (by simp), if_neg (by simpa using h), if_pos hd]
theorem escC_4 {s : ByteArray} {i : Int} (h : bAt s (i + 1) = 120) (h2 : 0 ≤ digit s (i + 2)) (h3 : 0 ≤ digit s (i + 3)) :
    escC s i false = (digit s (i + 2) * 16 + digit s (i + 3), i + 4) := by
  unfold escC; rw [if_neg (by simp), if_neg (by simpa using h), if_neg (by omega)]

set_option maxHeartbeats 1000000 in
theorem escaped_any (s : ByteArray) (i : Int) (m : Bool) (w : World) (h : 0 ≤ i) (h' : i ≤ 1000) :
    Calls Tryz.prog 149 #[.string s, .int .i64 i, .bool m] w fun e w' => e = .returned (.tuple #[.int .i64 (escC s i m).1, .int .i64 (escC s i m).2]) ∧ w' = w := by
  cases m
  · by_cases h1 : bAt s (i + 1) = 120
    · have b1 : (bAt s (i + 1) != 120) = false := by simp [h1]
      have H1 := hide h1; clear h1
      have d2 := digit_range s (i + 2)
      have d3 := digit_range s (i + 3)
      by_cases h2 : digit s (i + 2) < 0
      · go_enter Tryz.func149, Tryz.ntmps149
        go_wp2_with (first | (go_at_call 112; refine (byteAt_any _ _ _).mono ?_; rintro e w' ⟨rfl, rfl⟩) | (go_at_call 156; refine (digitAt_any _ _ _).mono ?_; rintro e w' ⟨rfl, rfl⟩))
        go_ret2
        exact ⟨ret_ii (escC_3 (unhide H1) (.inl h2)), rfl⟩
      · by_cases h3 : digit s (i + 3) < 0
        · go_enter Tryz.func149, Tryz.ntmps149
          go_wp2_with (first | (go_at_call 112; refine (byteAt_any _ _ _).mono ?_; rintro e w' ⟨rfl, rfl⟩) | (go_at_call 156; refine (digitAt_any _ _ _).mono ?_; rintro e w' ⟨rfl, rfl⟩))
          go_ret2
          exact ⟨ret_ii (escC_3 (unhide H1) (.inr h3)), rfl⟩
        · go_enter Tryz.func149, Tryz.ntmps149
          go_wp2_with (first | (go_at_call 112; refine (byteAt_any _ _ _).mono ?_; rintro e w' ⟨rfl, rfl⟩) | (go_at_call 156; refine (digitAt_any _ _ _).mono ?_; rintro e w' ⟨rfl, rfl⟩))
          go_ret2
          exact ⟨ret_ii (escC_4 (unhide H1) (by omega) (by omega)), rfl⟩
    · have b1 : (bAt s (i + 1) != 120) = true := by simp [h1]
      have H1 := hide h1; clear h1
      go_enter Tryz.func149, Tryz.ntmps149
      go_wp2_with (first | (go_at_call 112; refine (byteAt_any _ _ _).mono ?_; rintro e w' ⟨rfl, rfl⟩))
      go_ret2
      exact ⟨ret_ii (escC_2 (unhide H1)), rfl⟩
  · go_enter Tryz.func149, Tryz.ntmps149
    go_wp2_with (first | (go_at_call 112; refine (byteAt_any _ _ _).mono ?_; rintro e w' ⟨rfl, rfl⟩))
    go_ret2
    exact ⟨ret_ii escC_1, rfl⟩
end Go.Proofs.YtbojcemamhiodaaGreatDoor
namespace Go.Proofs.YtbojcemamhiodaaGreatDoor
open Go.RowKit

theorem ret_pair {k l : IntKind} {r r' : Int × Int} (h : r' = r) : Ending.returned (.tuple #[.int k r.1, .int l r.2]) = .returned (.tuple #[.int k r'.1, .int l r'.2]) := by rw [h]
theorem wordC_1 {s : ByteArray} {i : Int} (h : bAt s i = 92) : wordC s i = escC s i (isWM (bAt s (i + 1))) := if_pos h
theorem wordC_2 {s : ByteArray} {i : Int} (h : bAt s i ≠ 92) : wordC s i = plainC (bAt s i) i (isWM (bAt s i)) := if_neg h
theorem setC_1 {s : ByteArray} {i : Int} (h : bAt s i = 92) : setC s i = escC s i (isSM (bAt s (i + 1))) := if_pos h
theorem setC_2 {s : ByteArray} {i : Int} (h : bAt s i ≠ 92) : setC s i = plainC (bAt s i) i (isSM (bAt s i)) := if_neg h

set_option maxHeartbeats 1000000 in
theorem wordChar_any (s : ByteArray) (i : Int) (w : World) (h : 0 ≤ i) (h' : i ≤ 1000) :
    Calls Tryz.prog 137 #[.string s, .int .i64 i] w fun e w' => e = .returned (.tuple #[.int .i64 (wordC s i).1, .int .i64 (wordC s i).2]) ∧ w' = w := by
  by_cases h1 : bAt s i = 92
  · have b1 : (bAt s i != 92) = false := by simp [h1]
    have H1 := hide h1; clear h1
    go_enter Tryz.func137, Tryz.ntmps137
    go_wp2_with (first | (go_at_call 112; refine (byteAt_any _ _ _).mono ?_; rintro e w' ⟨rfl, rfl⟩) | (go_at_call 96; refine (isWordMark_any _ _).mono ?_; rintro e w' ⟨rfl, rfl⟩) | (go_at_call 149; refine (escaped_any _ _ _ _ h h').mono ?_; rintro e w' ⟨rfl, rfl⟩))
    go_ret2
    exact ⟨ret_pair (wordC_1 (unhide H1)), rfl⟩
  · have b1 : (bAt s i != 92) = true := by simp [h1]
    have H1 := hide h1; clear h1
    go_enter Tryz.func137, Tryz.ntmps137
    go_wp2_with (first | (go_at_call 112; refine (byteAt_any _ _ _).mono ?_; rintro e w' ⟨rfl, rfl⟩) | (go_at_call 96; refine (isWordMark_any _ _).mono ?_; rintro e w' ⟨rfl, rfl⟩) | (go_at_call 148; refine (plain_any _ _ _ _ h h').mono ?_; rintro e w' ⟨rfl, rfl⟩))
    go_ret2
    exact ⟨ret_pair (wordC_2 (unhide H1)), rfl⟩

set_option maxHeartbeats 1000000 in
theorem setChar_any (s : ByteArray) (i : Int) (w : World) (h : 0 ≤ i) (h' : i ≤ 1000) :
    Calls Tryz.prog 150 #[.string s, .int .i64 i] w fun e w' => e = .returned (.tuple #[.int .i64 (setC s i).1, .int .i64 (setC s i).2]) ∧ w' = w := by
  by_cases h1 : bAt s i = 92
  · have b1 : (bAt s i != 92) = false := by simp [h1]
    have H1 := hide h1; clear h1
    go_enter Tryz.func150, Tryz.ntmps150
    go_wp2_with (first | (go_at_call 112; refine (byteAt_any _ _ _).mono ?_; rintro e w' ⟨rfl, rfl⟩) | (go_at_call 99; refine (isSetMark_any _ _).mono ?_; rintro e w' ⟨rfl, rfl⟩) | (go_at_call 149; refine (escaped_any _ _ _ _ h h').mono ?_; rintro e w' ⟨rfl, rfl⟩))
    go_ret2
    exact ⟨ret_pair (setC_1 (unhide H1)), rfl⟩
  · have b1 : (bAt s i != 92) = true := by simp [h1]
    have H1 := hide h1; clear h1
    go_enter Tryz.func150, Tryz.ntmps150
    go_wp2_with (first | (go_at_call 112; refine (byteAt_any _ _ _).mono ?_; rintro e w' ⟨rfl, rfl⟩) | (go_at_call 99; refine (isSetMark_any _ _).mono ?_; rintro e w' ⟨rfl, rfl⟩) | (go_at_call 148; refine (plain_any _ _ _ _ h h').mono ?_; rintro e w' ⟨rfl, rfl⟩))
    go_ret2
    exact ⟨ret_pair (setC_2 (unhide H1)), rfl⟩

/- skipBlanks -/
theorem skipN_yes {s : ByteArray} {n : Nat} {i : Int} (h : isBlank (bAt s i) = true) : skipN s (n + 1) i = skipN s n (i + 1) := if_pos h
theorem skipN_no {s : ByteArray} {n : Nat} {i : Int} (h : isBlank (bAt s i) = false) : skipN s n i = i := by
  cases n with
  | zero => rfl
  | succ n => exact if_neg (by simp [h])
theorem isBlank_def (c : Int) : isBlank c = (c == 32 || c == 10) := rfl

set_option maxHeartbeats 1000000 in
theorem skipBlanks_any (s : ByteArray) (i : Int) (w : World) (hs : s.size ≤ 400) (h : 0 ≤ i) (h' : i ≤ s.size) :
    Calls Tryz.prog 79 #[.string s, .int .i64 i] w fun e w' => e = .returned (.int .i64 (skip s i)) ∧ w' = w := by
  go_enter Tryz.func79, Tryz.ntmps79
  go_wp2_with (first | (go_at_call 112; refine (byteAt_any _ _ _).mono ?_; rintro e w' ⟨rfl, rfl⟩))
  go_loop [1, 5] (fun a c => ∃ (j : Int) (n : Nat), 0 ≤ j ∧ j ≤ s.size ∧ (s.size : Int) < n + j ∧ a = .int .i64 j ∧ c = .int .i64 (bAt s j) ∧ Hid (skip s i = skipN s n j)) (fun a _ => (s.size - intOf a).toNat)
  case atStart => exact ⟨i, s.size + 1 - i.toNat, h, h', by omega, rfl, rfl, rfl⟩
  case round =>
    obtain ⟨j, n, h1, h2, h3, rfl, rfl, H⟩ := hrel
    cases hb : isBlank (bAt s j)
    · have HE := hide (skipN_no (n := n) hb)
      rw [isBlank_def] at hb
      have b1 : (bAt s j == 32) = false := by cases hx : (bAt s j == 32) <;> simp_all
      have b2 : (bAt s j == 10) = false := by cases hx : (bAt s j == 10) <;> simp_all
      clear hb
      go_wp2
      go_ret
      exact ⟨ret_int (by rw [unhide H, unhide HE]), rfl⟩
    · have hlt := bAt_in (s := s) (i := j) (by rw [isBlank_def] at hb; simp at hb; omega)
      obtain ⟨n, rfl⟩ : ∃ m, n = m + 1 := ⟨n - 1, by omega⟩
      have HE := hide (skipN_yes (n := n) hb)
      rw [isBlank_def] at hb
      cases b1 : (bAt s j == 32)
      · have b2 : (bAt s j == 10) = true := by simpa [b1] using hb
        clear hb
        go_wp2_with (first | (go_at_call 112; refine (byteAt_any _ _ _).mono ?_; rintro e w' ⟨rfl, rfl⟩))
        go_round
        case rel => exact ⟨j + 1, n, by omega, by omega, by omega, rfl, rfl, by rw [unhide H, unhide HE]; rfl⟩
        case measure => simp [intOf]; omega
      · clear hb
        go_wp2_with (first | (go_at_call 112; refine (byteAt_any _ _ _).mono ?_; rintro e w' ⟨rfl, rfl⟩))
        go_round
        case rel => exact ⟨j + 1, n, by omega, by omega, by omega, rfl, rfl, by rw [unhide H, unhide HE]; rfl⟩
        case measure => simp [intOf]; omega
end Go.Proofs.YtbojcemamhiodaaGreatDoor
namespace Go.Proofs.YtbojcemamhiodaaGreatDoor
open Go.RowKit

theorem nameEnd_yes {s : ByteArray} {n : Nat} {i : Int} (h : isNameC (bAt s i) = true) : nameEnd s (n + 1) i = nameEnd s n (i + 1) := if_pos h
theorem nameEnd_no {s : ByteArray} {n : Nat} {i : Int} (h : isNameC (bAt s i) = false) : nameEnd s n i = i := by
  cases n with
  | zero => rfl
  | succ n => exact if_neg (by simp [h])
theorem isNameC_cases (c : Int) : (isNameC c = false ∧ (c < 48 ∨ (57 < c ∧ c < 97) ∨ 122 < c)) ∨ (isNameC c = true ∧ 97 ≤ c ∧ c ≤ 122) ∨ (isNameC c = true ∧ 48 ≤ c ∧ c ≤ 57) := by
  unfold isNameC
  simp
  omega
theorem readNm_1 {s : ByteArray} {i j : Int} (h : nameEnd s (s.size + 1 - i.toNat) i = j) (h' : 8 < j - i) : readNm s i = (0, i) := by
  unfold readNm; rw [h, if_pos h']
theorem readNm_2 {s : ByteArray} {i j : Int} (h : nameEnd s (s.size + 1 - i.toNat) i = j) (h' : j - i ≤ 8) : readNm s i = (2, j) := by
  unfold readNm; rw [h, if_neg (by omega)]

set_option maxHeartbeats 1000000 in
theorem readName_any (s : ByteArray) (i : Int) (w : World) (hs : s.size ≤ 400) (h : 0 ≤ i) (h' : i ≤ s.size) :
    Calls Tryz.prog 113 #[.string s, .int .i64 i] w fun e w' => e = .returned (.tuple #[.int .i64 (readNm s i).1, .int .i64 (readNm s i).2]) ∧ w' = w := by
  go_enter Tryz.func113, Tryz.ntmps113
  go_wp2_with (first | (go_at_call 112; refine (byteAt_any _ _ _).mono ?_; rintro e w' ⟨rfl, rfl⟩))
  go_loop [6, 7] (fun a c => ∃ (j : Int) (n : Nat), i ≤ j ∧ j ≤ s.size ∧ (s.size : Int) < n + j ∧ a = .int .i64 j ∧ c = .int .i64 (bAt s j) ∧ Hid (nameEnd s (s.size + 1 - i.toNat) i = nameEnd s n j)) (fun a _ => (s.size - intOf a).toNat)
  case atStart => exact ⟨i, s.size + 1 - i.toNat, by omega, h', by omega, rfl, rfl, rfl⟩
  case round =>
    obtain ⟨j, n, h1, h2, h3, rfl, rfl, H⟩ := hrel
    rcases isNameC_cases (bAt s j) with ⟨hb, hc | ⟨hc, hd⟩ | hc⟩ | ⟨hb, hc, hd⟩ | ⟨hb, hc, hd⟩
    · have HE := hide ((unhide H).trans (nameEnd_no hb)); clear hb
      by_cases h8 : 8 < j - i
      · go_wp2
        go_ret2
        exact ⟨ret_ii (readNm_1 (unhide HE) h8), rfl⟩
      · go_wp2
        go_ret2
        exact ⟨ret_ii (readNm_2 (unhide HE) (by omega)), rfl⟩
    · have HE := hide ((unhide H).trans (nameEnd_no hb)); clear hb
      by_cases h8 : 8 < j - i
      · go_wp2
        go_ret2
        exact ⟨ret_ii (readNm_1 (unhide HE) h8), rfl⟩
      · go_wp2
        go_ret2
        exact ⟨ret_ii (readNm_2 (unhide HE) (by omega)), rfl⟩
    · have HE := hide ((unhide H).trans (nameEnd_no hb)); clear hb
      by_cases h8 : 8 < j - i
      · go_wp2
        go_ret2
        exact ⟨ret_ii (readNm_1 (unhide HE) h8), rfl⟩
      · go_wp2
        go_ret2
        exact ⟨ret_ii (readNm_2 (unhide HE) (by omega)), rfl⟩
    all_goals
      have hlt := bAt_in (s := s) (i := j) (by omega)
      obtain ⟨n, rfl⟩ : ∃ m, n = m + 1 := ⟨n - 1, by omega⟩
      have HE := hide ((unhide H).trans (nameEnd_yes hb)); clear hb
      go_wp2_with (first | (go_at_call 112; refine (byteAt_any _ _ _).mono ?_; rintro e w' ⟨rfl, rfl⟩))
      go_round
      case rel => exact ⟨j + 1, n, by omega, by omega, by omega, rfl, rfl, HE⟩
      case measure => simp [intOf]; omega

theorem readAr_1 {s : ByteArray} {i : Int} (h : bAt s (i + 1) = 45) : readAr s i = (3, i + 2) := if_pos h
theorem readAr_2 {s : ByteArray} {i : Int} (h : bAt s (i + 1) ≠ 45) : readAr s i = (0, i) := if_neg h

set_option maxHeartbeats 1000000 in
theorem readArrow_any (s : ByteArray) (i : Int) (w : World) (h : 0 ≤ i) (h' : i ≤ 1000) :
    Calls Tryz.prog 114 #[.string s, .int .i64 i] w fun e w' => e = .returned (.tuple #[.int .i64 (readAr s i).1, .int .i64 (readAr s i).2]) ∧ w' = w := by
  by_cases h1 : bAt s (i + 1) = 45
  · have b1 : (bAt s (i + 1) != 45) = false := by simp [h1]
    have H1 := hide h1; clear h1
    go_enter Tryz.func114, Tryz.ntmps114
    go_wp2_with (first | (go_at_call 112; refine (byteAt_any _ _ _).mono ?_; rintro e w' ⟨rfl, rfl⟩))
    go_ret2
    exact ⟨ret_ii (readAr_1 (unhide H1)), rfl⟩
  · have b1 : (bAt s (i + 1) != 45) = true := by simp [h1]
    have H1 := hide h1; clear h1
    go_enter Tryz.func114, Tryz.ntmps114
    go_wp2_with (first | (go_at_call 112; refine (byteAt_any _ _ _).mono ?_; rintro e w' ⟨rfl, rfl⟩))
    go_ret2
    exact ⟨ret_ii (readAr_2 (unhide H1)), rfl⟩

theorem wordEnd_1 {s : ByteArray} {n : Nat} {i : Int} (h : bAt s i = 39) : wordEnd s (n + 1) i = some i := if_pos h
theorem wordEnd_2 {s : ByteArray} {n : Nat} {i : Int} (h : bAt s i ≠ 39) (h' : (wordC s i).1 < 0) : wordEnd s (n + 1) i = none := by
  unfold wordEnd; rw [if_neg h, if_pos h']
theorem wordEnd_3 {s : ByteArray} {n : Nat} {i : Int} (h : bAt s i ≠ 39) (h' : 0 ≤ (wordC s i).1) : wordEnd s (n + 1) i = wordEnd s n (wordC s i).2 := by
  rw [wordEnd, if_neg h, if_neg (by omega)]
theorem readWd_1 {s : ByteArray} {i j : Int} (h : wordEnd s (s.size + 1 - i.toNat) (i + 1) = some j) : readWd s i = (4, j + 1) := by
  unfold readWd; rw [h]
theorem readWd_2 {s : ByteArray} {i : Int} (h : wordEnd s (s.size + 1 - i.toNat) (i + 1) = none) : readWd s i = (0, i) := by
  unfold readWd; rw [h]

set_option maxHeartbeats 1000000 in
theorem readWord_any (s : ByteArray) (i : Int) (w : World) (hs : s.size ≤ 400) (h : 0 ≤ i) (h' : i < s.size) :
    Calls Tryz.prog 115 #[.string s, .int .i64 i] w fun e w' => e = .returned (.tuple #[.int .i64 (readWd s i).1, .int .i64 (readWd s i).2]) ∧ w' = w := by
  go_enter Tryz.func115, Tryz.ntmps115
  go_wp2
  go_loop [6] (fun a => ∃ (j : Int) (n : Nat), i ≤ j ∧ j ≤ s.size ∧ (s.size : Int) < n + j ∧ a = .int .i64 j ∧ Hid (wordEnd s (s.size + 1 - i.toNat) (i + 1) = wordEnd s n j)) (fun a => (s.size - intOf a).toNat)
  case atStart => exact ⟨i + 1, s.size + 1 - i.toNat, by omega, by omega, by omega, rfl, rfl⟩
  case round =>
    obtain ⟨j, n, h1, h2, h3, rfl, H⟩ := hrel
    obtain ⟨n, rfl⟩ : ∃ m, n = m + 1 := ⟨n - 1, by omega⟩
    by_cases hq : bAt s j = 39
    · have HE := hide ((unhide H).trans (wordEnd_1 hq))
      have b1 : (bAt s j != 39) = false := by simp [hq]
      clear hq
      go_wp2_with (first | (go_at_call 112; refine (byteAt_any _ _ _).mono ?_; rintro e w' ⟨rfl, rfl⟩))
      go_ret2
      exact ⟨ret_ii (readWd_1 (unhide HE)), rfl⟩
    · have b1 : (bAt s j != 39) = true := by simp [hq]
      have hg := wordC_good s j
      unfold GoodC at hg
      by_cases hn : (wordC s j).1 < 0
      · have HE := hide ((unhide H).trans (wordEnd_2 hq hn))
        clear hq hg
        go_wp2_with (first | (go_at_call 112; refine (byteAt_any _ _ _).mono ?_; rintro e w' ⟨rfl, rfl⟩) | (go_at_call 137; refine (wordChar_any _ _ _ (by omega) (by omega)).mono ?_; rintro e w' ⟨rfl, rfl⟩))
        go_ret2
        exact ⟨ret_ii (readWd_2 (unhide HE)), rfl⟩
      · have HE := hide ((unhide H).trans (wordEnd_3 hq (by omega)))
        have hlo : j < (wordC s j).2 := by omega
        have hhi : (wordC s j).2 ≤ s.size := by omega
        clear hq hg
        go_wp2_with (first | (go_at_call 112; refine (byteAt_any _ _ _).mono ?_; rintro e w' ⟨rfl, rfl⟩) | (go_at_call 137; refine (wordChar_any _ _ _ (by omega) (by omega)).mono ?_; rintro e w' ⟨rfl, rfl⟩))
        go_round
        case rel => exact ⟨(wordC s j).2, n, by omega, by omega, by omega, rfl, HE⟩
        case measure => simp [intOf]; omega
end Go.Proofs.YtbojcemamhiodaaGreatDoor
namespace Go.Proofs.YtbojcemamhiodaaGreatDoor
open Go.RowKit

theorem member_1 {s : ByteArray} {i : Int} (h : (setC s i).1 < 0 ∨ bAt s (setC s i).2 ≠ 45) : member s i = ((setC s i).1, (setC s i).1, (setC s i).2) := if_pos h
theorem member_2 {s : ByteArray} {i : Int} (h : 0 ≤ (setC s i).1) (h' : bAt s (setC s i).2 = 45) (hl : (setC s ((setC s i).2 + 1)).1 < (setC s i).1) : member s i = (-1, -1, i) := by
  unfold member; rw [if_neg (by omega), if_pos hl]
theorem member_3 {s : ByteArray} {i : Int} (h : 0 ≤ (setC s i).1) (h' : bAt s (setC s i).2 = 45) (hl : (setC s i).1 ≤ (setC s ((setC s i).2 + 1)).1) : member s i = ((setC s i).1, (setC s ((setC s i).2 + 1)).1, (setC s ((setC s i).2 + 1)).2) := by
  unfold member; rw [if_neg (by omega), if_neg (by omega)]
theorem ret_iii {k l m : IntKind} {a c d : Int} {r : Int × Int × Int} (h : r = (a, c, d)) : Ending.returned (.tuple #[.int k a, .int l c, .int m d]) = .returned (.tuple #[.int k r.1, .int l r.2.1, .int m r.2.2]) := by rw [h]

set_option maxHeartbeats 1000000 in
theorem readMember_any (s : ByteArray) (i : Int) (w : World) (hs : s.size ≤ 400) (h : 0 ≤ i) (h' : i ≤ 1000) :
    Calls Tryz.prog 138 #[.string s, .int .i64 i] w fun e w' => e = .returned (.tuple #[.int .i64 (member s i).1, .int .i64 (member s i).2.1, .int .i64 (member s i).2.2]) ∧ w' = w := by
  have hg := setC_good s i
  unfold GoodC at hg
  by_cases h1 : (setC s i).1 < 0
  · have HE := hide (member_1 (.inl h1))
    clear hg
    go_enter Tryz.func138, Tryz.ntmps138
    go_wp2_with (first | (go_at_call 150; refine (setChar_any _ _ _ (by omega) (by omega)).mono ?_; rintro e w' ⟨rfl, rfl⟩))
    go_ret3
    exact ⟨ret_iii (unhide HE), rfl⟩
  · have hlo : i < (setC s i).2 := by omega
    have hhi : (setC s i).2 ≤ s.size := by omega
    clear hg
    by_cases h2 : bAt s (setC s i).2 = 45
    · have b2 : (bAt s (setC s i).2 != 45) = false := by simp [h2]
      by_cases h3 : (setC s ((setC s i).2 + 1)).1 < (setC s i).1
      · have HE := hide (member_2 (by omega) h2 h3)
        clear h2
        go_enter Tryz.func138, Tryz.ntmps138
        go_wp2_with (first | (go_at_call 150; refine (setChar_any _ _ _ (by omega) (by omega)).mono ?_; rintro e w' ⟨rfl, rfl⟩) | (go_at_call 112; refine (byteAt_any _ _ _).mono ?_; rintro e w' ⟨rfl, rfl⟩))
        go_ret3
        exact ⟨ret_iii (unhide HE), rfl⟩
      · have HE := hide (member_3 (by omega) h2 (by omega))
        clear h2
        go_enter Tryz.func138, Tryz.ntmps138
        go_wp2_with (first | (go_at_call 150; refine (setChar_any _ _ _ (by omega) (by omega)).mono ?_; rintro e w' ⟨rfl, rfl⟩) | (go_at_call 112; refine (byteAt_any _ _ _).mono ?_; rintro e w' ⟨rfl, rfl⟩))
        go_ret3
        exact ⟨ret_iii (unhide HE), rfl⟩
    · have b2 : (bAt s (setC s i).2 != 45) = true := by simp [h2]
      have HE := hide (member_1 (.inr h2))
      clear h2
      go_enter Tryz.func138, Tryz.ntmps138
      go_wp2_with (first | (go_at_call 150; refine (setChar_any _ _ _ (by omega) (by omega)).mono ?_; rintro e w' ⟨rfl, rfl⟩) | (go_at_call 112; refine (byteAt_any _ _ _).mono ?_; rintro e w' ⟨rfl, rfl⟩))
      go_ret3
      exact ⟨ret_iii (unhide HE), rfl⟩

theorem setEnd_1 {s : ByteArray} {f : Int} {n : Nat} {i : Int} (h : i ≠ f) (h' : bAt s i = 93) : setEnd s f (n + 1) i = some i := if_pos ⟨h, h'⟩
theorem setEnd_2 {s : ByteArray} {f : Int} {n : Nat} {i : Int} (h : i = f ∨ bAt s i ≠ 93) (h' : (member s i).1 < 0) : setEnd s f (n + 1) i = none := by
  rw [setEnd, if_neg (by omega), if_pos h']
theorem setEnd_3 {s : ByteArray} {f : Int} {n : Nat} {i : Int} (h : i = f ∨ bAt s i ≠ 93) (h' : ¬ (member s i).1 < 0) : setEnd s f (n + 1) i = setEnd s f n (member s i).2.2 := by
  rw [setEnd, if_neg (by omega), if_neg h']
theorem readSt_1 {s : ByteArray} {i f j : Int} (hf : setFrom s i = f) (h : setEnd s f (s.size + 2 - i.toNat) f = some j) : readSt s i = (5, j + 1) := by
  unfold readSt; rw [hf, h]
theorem readSt_2 {s : ByteArray} {i f : Int} (hf : setFrom s i = f) (h : setEnd s f (s.size + 2 - i.toNat) f = none) : readSt s i = (0, i) := by
  unfold readSt; rw [hf, h]
theorem setFrom_1 {s : ByteArray} {i : Int} (h : bAt s (i + 1) = 94) : setFrom s i = i + 1 + 1 := by rw [setFrom, if_pos h]; omega
theorem setFrom_2 {s : ByteArray} {i : Int} (h : bAt s (i + 1) ≠ 94) : setFrom s i = i + 1 := if_neg h

/-- the loop of readSet, as a case that both its beginnings share -/
theorem setRound {s : ByteArray} {f j : Int} {n : Nat} (h : (s.size : Int) < n + j) (hj : j ≤ s.size) :
    (∃ m, n = m + 1 ∧ ((j ≠ f ∧ bAt s j = 93 ∧ setEnd s f n j = some j) ∨
      (j = f ∧ (member s j).1 < 0 ∧ setEnd s f n j = none) ∨ (j ≠ f ∧ bAt s j ≠ 93 ∧ (member s j).1 < 0 ∧ setEnd s f n j = none) ∨
      (j = f ∧ 0 ≤ (member s j).1 ∧ j < (member s j).2.2 ∧ (member s j).2.2 ≤ s.size ∧ setEnd s f n j = setEnd s f m (member s j).2.2) ∨
      (j ≠ f ∧ bAt s j ≠ 93 ∧ 0 ≤ (member s j).1 ∧ j < (member s j).2.2 ∧ (member s j).2.2 ≤ s.size ∧ setEnd s f n j = setEnd s f m (member s j).2.2))) := by
  obtain ⟨m, rfl⟩ : ∃ m, n = m + 1 := ⟨n - 1, by omega⟩
  refine ⟨m, rfl, ?_⟩
  have hm := member_good s j
  unfold GoodM at hm
  by_cases h1 : j = f
  · by_cases h2 : (member s j).1 < 0
    · exact .inr (.inl ⟨h1, h2, setEnd_2 (.inl h1) h2⟩)
    · exact .inr (.inr (.inr (.inl ⟨h1, by omega, by omega, by omega, setEnd_3 (.inl h1) h2⟩)))
  · by_cases h3 : bAt s j = 93
    · exact .inl ⟨h1, h3, setEnd_1 h1 h3⟩
    · by_cases h2 : (member s j).1 < 0
      · exact .inr (.inr (.inl ⟨h1, h3, h2, setEnd_2 (.inr h3) h2⟩))
      · exact .inr (.inr (.inr (.inr ⟨h1, h3, by omega, by omega, by omega, setEnd_3 (.inr h3) h2⟩)))

set_option maxHeartbeats 2000000 in
theorem readSet_any (s : ByteArray) (i : Int) (w : World) (hs : s.size ≤ 400) (h : 0 ≤ i) (h' : i < s.size) :
    Calls Tryz.prog 116 #[.string s, .int .i64 i] w fun e w' => e = .returned (.tuple #[.int .i64 (readSt s i).1, .int .i64 (readSt s i).2]) ∧ w' = w := by
  by_cases hc : bAt s (i + 1) = 94
  · have bc : (bAt s (i + 1) == 94) = true := by simp [hc]
    have HF := hide (setFrom_1 hc)
    have hin := bAt_in (s := s) (i := i + 1) (by omega)
    clear hc
    go_enter Tryz.func116, Tryz.ntmps116
    go_wp2_with (first | (go_at_call 112; refine (byteAt_any _ _ _).mono ?_; rintro e w' ⟨rfl, rfl⟩))
    go_loop [6] (fun a => ∃ (j : Int) (n : Nat), i + 1 + 1 ≤ j ∧ j ≤ s.size ∧ (s.size : Int) < n + j ∧ a = .int .i64 j ∧ Hid (setEnd s (i + 1 + 1) (s.size + 2 - i.toNat) (i + 1 + 1) = setEnd s (i + 1 + 1) n j)) (fun a => (s.size - intOf a).toNat)
    case atStart => exact ⟨_, s.size + 2 - i.toNat, by omega, by omega, by omega, rfl, rfl⟩
    case round =>
      obtain ⟨j, n, h1, h2, h3, rfl, H⟩ := hrel
      obtain ⟨m, rfl, ⟨c1, c2, c3⟩ | ⟨c1, c2, c3⟩ | ⟨c1, c2, c4, c3⟩ | ⟨c1, c6, c4, c5, c3⟩ | ⟨c1, c2, c6, c4, c5, c3⟩⟩ := setRound (f := i + 1 + 1) h3 h2
      · have HE := hide ((unhide H).trans c3)
        have b1 : (j == i + 1 + 1) = false := by simp [c1]
        have b2 : (bAt s j != 93) = false := by simp [c2]
        clear c1 c2 c3
        go_wp2_with (first | (go_at_call 112; refine (byteAt_any _ _ _).mono ?_; rintro e w' ⟨rfl, rfl⟩))
        go_ret2
        exact ⟨ret_ii (readSt_1 (unhide HF) (unhide HE)), rfl⟩
      · have HE := hide ((unhide H).trans c3)
        have b1 : (j == i + 1 + 1) = true := by simp [c1]
        clear c1 c3
        go_wp2_with (first | (go_at_call 138; refine (readMember_any _ _ _ hs (by omega) (by omega)).mono ?_; rintro e w' ⟨rfl, rfl⟩))
        go_ret2
        exact ⟨ret_ii (readSt_2 (unhide HF) (unhide HE)), rfl⟩
      · have HE := hide ((unhide H).trans c3)
        have b1 : (j == i + 1 + 1) = false := by simp [c1]
        have b2 : (bAt s j != 93) = true := by simp [c2]
        clear c1 c2 c3
        go_wp2_with (first | (go_at_call 112; refine (byteAt_any _ _ _).mono ?_; rintro e w' ⟨rfl, rfl⟩) | (go_at_call 138; refine (readMember_any _ _ _ hs (by omega) (by omega)).mono ?_; rintro e w' ⟨rfl, rfl⟩))
        go_ret2
        exact ⟨ret_ii (readSt_2 (unhide HF) (unhide HE)), rfl⟩
      · have HE := hide ((unhide H).trans c3)
        have b1 : (j == i + 1 + 1) = true := by simp [c1]
        clear c1 c3
        go_wp2_with (first | (go_at_call 138; refine (readMember_any _ _ _ hs (by omega) (by omega)).mono ?_; rintro e w' ⟨rfl, rfl⟩))
        go_round
        case rel => exact ⟨(member s j).2.2, m, by omega, by omega, by omega, rfl, HE⟩
        case measure => simp [intOf]; omega
      · have HE := hide ((unhide H).trans c3)
        have b1 : (j == i + 1 + 1) = false := by simp [c1]
        have b2 : (bAt s j != 93) = true := by simp [c2]
        clear c1 c2 c3
        go_wp2_with (first | (go_at_call 112; refine (byteAt_any _ _ _).mono ?_; rintro e w' ⟨rfl, rfl⟩) | (go_at_call 138; refine (readMember_any _ _ _ hs (by omega) (by omega)).mono ?_; rintro e w' ⟨rfl, rfl⟩))
        go_round
        case rel => exact ⟨(member s j).2.2, m, by omega, by omega, by omega, rfl, HE⟩
        case measure => simp [intOf]; omega
  · have bc : (bAt s (i + 1) == 94) = false := by simp [hc]
    have HF := hide (setFrom_2 hc)
    clear hc
    go_enter Tryz.func116, Tryz.ntmps116
    go_wp2_with (first | (go_at_call 112; refine (byteAt_any _ _ _).mono ?_; rintro e w' ⟨rfl, rfl⟩))
    go_loop [6] (fun a => ∃ (j : Int) (n : Nat), i + 1 ≤ j ∧ j ≤ s.size ∧ (s.size : Int) < n + j ∧ a = .int .i64 j ∧ Hid (setEnd s (i + 1) (s.size + 2 - i.toNat) (i + 1) = setEnd s (i + 1) n j)) (fun a => (s.size - intOf a).toNat)
    case atStart => exact ⟨_, s.size + 2 - i.toNat, by omega, by omega, by omega, rfl, rfl⟩
    case round =>
      obtain ⟨j, n, h1, h2, h3, rfl, H⟩ := hrel
      obtain ⟨m, rfl, ⟨c1, c2, c3⟩ | ⟨c1, c2, c3⟩ | ⟨c1, c2, c4, c3⟩ | ⟨c1, c6, c4, c5, c3⟩ | ⟨c1, c2, c6, c4, c5, c3⟩⟩ := setRound (f := i + 1) h3 h2
      · have HE := hide ((unhide H).trans c3)
        have b1 : (j == i + 1) = false := by simp [c1]
        have b2 : (bAt s j != 93) = false := by simp [c2]
        clear c1 c2 c3
        go_wp2_with (first | (go_at_call 112; refine (byteAt_any _ _ _).mono ?_; rintro e w' ⟨rfl, rfl⟩))
        go_ret2
        exact ⟨ret_ii (readSt_1 (unhide HF) (unhide HE)), rfl⟩
      · have HE := hide ((unhide H).trans c3)
        have b1 : (j == i + 1) = true := by simp [c1]
        clear c1 c3
        go_wp2_with (first | (go_at_call 138; refine (readMember_any _ _ _ hs (by omega) (by omega)).mono ?_; rintro e w' ⟨rfl, rfl⟩))
        go_ret2
        exact ⟨ret_ii (readSt_2 (unhide HF) (unhide HE)), rfl⟩
      · have HE := hide ((unhide H).trans c3)
        have b1 : (j == i + 1) = false := by simp [c1]
        have b2 : (bAt s j != 93) = true := by simp [c2]
        clear c1 c2 c3
        go_wp2_with (first | (go_at_call 112; refine (byteAt_any _ _ _).mono ?_; rintro e w' ⟨rfl, rfl⟩) | (go_at_call 138; refine (readMember_any _ _ _ hs (by omega) (by omega)).mono ?_; rintro e w' ⟨rfl, rfl⟩))
        go_ret2
        exact ⟨ret_ii (readSt_2 (unhide HF) (unhide HE)), rfl⟩
      · have HE := hide ((unhide H).trans c3)
        have b1 : (j == i + 1) = true := by simp [c1]
        clear c1 c3
        go_wp2_with (first | (go_at_call 138; refine (readMember_any _ _ _ hs (by omega) (by omega)).mono ?_; rintro e w' ⟨rfl, rfl⟩))
        go_round
        case rel => exact ⟨(member s j).2.2, m, by omega, by omega, by omega, rfl, HE⟩
        case measure => simp [intOf]; omega
      · have HE := hide ((unhide H).trans c3)
        have b1 : (j == i + 1) = false := by simp [c1]
        have b2 : (bAt s j != 93) = true := by simp [c2]
        clear c1 c2 c3
        go_wp2_with (first | (go_at_call 112; refine (byteAt_any _ _ _).mono ?_; rintro e w' ⟨rfl, rfl⟩) | (go_at_call 138; refine (readMember_any _ _ _ hs (by omega) (by omega)).mono ?_; rintro e w' ⟨rfl, rfl⟩))
        go_round
        case rel => exact ⟨(member s j).2.2, m, by omega, by omega, by omega, rfl, HE⟩
        case measure => simp [intOf]; omega

theorem signK_def (c : Int) : signK c = if c == 47 then 6 else if c == 38 then 7 else if c == 33 then 8 else if c == 42 then 9 else if c == 43 then 10 else if c == 63 then 11 else
  if c == 46 then 12 else if c == 40 then 13 else if c == 41 then 14 else if c == 123 then 15 else if c == 125 then 16 else if c == 58 then 17 else 0 := by simp [signK]

set_option maxHeartbeats 2000000 in
theorem signKind_any (c : Int) (w : World) :
    Calls Tryz.prog 117 #[.int .i64 c] w fun e w' => e = .returned (.int .i64 (signK c)) ∧ w' = w := by
  rw [signK_def]
  go_enter Tryz.func117, Tryz.ntmps117
  go_wp2
  all_goals go_ret
  all_goals exact ⟨rfl, rfl⟩

theorem readT_1 {s : ByteArray} {i : Int} (h : 97 ≤ bAt s i) (h' : bAt s i ≤ 122) : readT s i = readNm s i := if_pos ⟨h, h'⟩
theorem readT_2 {s : ByteArray} {i : Int} (h : bAt s i = 60) : readT s i = readAr s i := by
  unfold readT; rw [if_neg (by omega), if_pos h]
theorem readT_3 {s : ByteArray} {i : Int} (h : bAt s i = 39) : readT s i = readWd s i := by
  unfold readT; rw [if_neg (by omega), if_neg (by omega), if_pos h]
theorem readT_4 {s : ByteArray} {i : Int} (h : bAt s i = 91) : readT s i = readSt s i := by
  unfold readT; rw [if_neg (by omega), if_neg (by omega), if_neg (by omega), if_pos h]
theorem readT_5 {s : ByteArray} {i : Int} (h0 : bAt s i < 97 ∨ 122 < bAt s i) (h1 : bAt s i ≠ 60) (h2 : bAt s i ≠ 39) (h3 : bAt s i ≠ 91) (h : signK (bAt s i) = 0) : readT s i = (0, i) := by
  unfold readT; rw [if_neg (by omega), if_neg h1, if_neg h2, if_neg h3, if_pos h]
theorem readT_6 {s : ByteArray} {i : Int} (h0 : bAt s i < 97 ∨ 122 < bAt s i) (h1 : bAt s i ≠ 60) (h2 : bAt s i ≠ 39) (h3 : bAt s i ≠ 91) (h : signK (bAt s i) ≠ 0) : readT s i = (signK (bAt s i), i + 1) := by
  unfold readT; rw [if_neg (by omega), if_neg h1, if_neg h2, if_neg h3, if_neg h]

set_option maxHeartbeats 2000000 in
theorem read_any (s : ByteArray) (i : Int) (w : World) (hs : s.size ≤ 400) (h : 0 ≤ i) (h' : i < s.size) :
    Calls Tryz.prog 80 #[.string s, .int .i64 i] w fun e w' => e = .returned (.tuple #[.int .i64 (readT s i).1, .int .i64 (readT s i).2]) ∧ w' = w := by
  by_cases h1 : 97 ≤ bAt s i ∧ bAt s i ≤ 122
  · obtain ⟨h1, h1'⟩ := h1
    go_enter Tryz.func80, Tryz.ntmps80
    go_wp2_with (first | (go_at_call 112; refine (byteAt_any _ _ _).mono ?_; rintro e w' ⟨rfl, rfl⟩) | (go_at_call 113; refine (readName_any _ _ _ hs (by omega) (by omega)).mono ?_; rintro e w' ⟨rfl, rfl⟩))
    go_ret2
    exact ⟨ret_pair (readT_1 h1 h1'), rfl⟩
  · by_cases h2 : bAt s i = 60
    · have HE := hide (readT_2 h2)
      have b2 : (bAt s i == 60) = true := by simp [h2]
      have b3 : bAt s i < 97 := by omega
      clear h2 h1
      go_enter Tryz.func80, Tryz.ntmps80
      go_wp2_with (first | (go_at_call 112; refine (byteAt_any _ _ _).mono ?_; rintro e w' ⟨rfl, rfl⟩) | (go_at_call 114; refine (readArrow_any _ _ _ (by omega) (by omega)).mono ?_; rintro e w' ⟨rfl, rfl⟩))
      go_ret2
      exact ⟨ret_pair (unhide HE), rfl⟩
    · have b2 : (bAt s i == 60) = false := by simp [h2]
      by_cases h3 : bAt s i = 39
      · have HE := hide (readT_3 h3)
        have b3 : (bAt s i == 39) = true := by simp [h3]
        have b4 : bAt s i < 97 := by omega
        clear h3 h2 h1
        go_enter Tryz.func80, Tryz.ntmps80
        go_wp2_with (first | (go_at_call 112; refine (byteAt_any _ _ _).mono ?_; rintro e w' ⟨rfl, rfl⟩) | (go_at_call 115; refine (readWord_any _ _ _ hs (by omega) (by omega)).mono ?_; rintro e w' ⟨rfl, rfl⟩))
        go_ret2
        exact ⟨ret_pair (unhide HE), rfl⟩
      · have b3 : (bAt s i == 39) = false := by simp [h3]
        by_cases h4 : bAt s i = 91
        · have HE := hide (readT_4 h4)
          have b4 : (bAt s i == 91) = true := by simp [h4]
          have b5 : bAt s i < 97 := by omega
          clear h4 h3 h2 h1
          go_enter Tryz.func80, Tryz.ntmps80
          go_wp2_with (first | (go_at_call 112; refine (byteAt_any _ _ _).mono ?_; rintro e w' ⟨rfl, rfl⟩) | (go_at_call 116; refine (readSet_any _ _ _ hs (by omega) (by omega)).mono ?_; rintro e w' ⟨rfl, rfl⟩))
          go_ret2
          exact ⟨ret_pair (unhide HE), rfl⟩
        · have b4 : (bAt s i == 91) = false := by simp [h4]
          have h1' : bAt s i < 97 ∨ 122 < bAt s i := by omega
          by_cases h5 : signK (bAt s i) = 0
          · have HE := hide (readT_5 h1' h2 h3 h4 h5)
            have b5 : (signK (bAt s i) == 0) = true := by simp [h5]
            clear h5 h4 h3 h2 h1
            rcases h1' with h1' | h1'
            all_goals
              go_enter Tryz.func80, Tryz.ntmps80
              go_wp2_with (first | (go_at_call 112; refine (byteAt_any _ _ _).mono ?_; rintro e w' ⟨rfl, rfl⟩) | (go_at_call 117; refine (signKind_any _ _).mono ?_; rintro e w' ⟨rfl, rfl⟩))
              go_ret2
              exact ⟨ret_ii (unhide HE), rfl⟩
          · have HE := hide (readT_6 h1' h2 h3 h4 h5)
            have b5 : (signK (bAt s i) == 0) = false := by simp [h5]
            clear h5 h4 h3 h2 h1
            rcases h1' with h1' | h1'
            all_goals
              go_enter Tryz.func80, Tryz.ntmps80
              go_wp2_with (first | (go_at_call 112; refine (byteAt_any _ _ _).mono ?_; rintro e w' ⟨rfl, rfl⟩) | (go_at_call 117; refine (signKind_any _ _).mono ?_; rintro e w' ⟨rfl, rfl⟩))
              go_ret2
              exact ⟨ret_ii (unhide HE), rfl⟩

theorem nextT_1 {s : ByteArray} {i : Int} (h : s.size ≤ skip s i) : nextT s i = ⟨1, s.size, s.size⟩ := if_pos h
theorem nextT_2 {s : ByteArray} {i : Int} (h : skip s i < s.size) : nextT s i = ⟨(readT s (skip s i)).1, skip s i, (readT s (skip s i)).2⟩ := if_neg (by omega)

set_option maxHeartbeats 2000000 in
theorem next_any (s : ByteArray) (i : Int) (w : World) (hs : s.size ≤ 400) (h : 0 ≤ i) (h' : i ≤ s.size) :
    Calls Tryz.prog 52 #[.string s, .int .i64 i] w fun e w' => e = .returned (.agg #[.int .i64 (nextT s i).k, .int .i64 (nextT s i).from_, .int .i64 (nextT s i).to]) ∧ Below w.heap.size w w' := by
  have hk := skip_range s i h h'
  by_cases h1 : s.size ≤ skip s i
  · have HE := hide (nextT_1 h1)
    go_enter Tryz.func52, Tryz.ntmps52
    go_wp2_with (first | (go_at_call 79; refine (skipBlanks_any _ _ _ hs (by omega) (by omega)).mono ?_; rintro e w' ⟨rfl, rfl⟩))
    exact bodyPost_ret (v := .agg #[.int .i64 1, .int .i64 s.size, .int .i64 s.size]) (by simp [results, Tryz.results52, go_sem]) rfl ⟨by rw [unhide HE], (Below.refl _ _).alloc (Nat.le_refl _) _⟩
  · have HE := hide (nextT_2 (s := s) (i := i) (by omega))
    go_enter Tryz.func52, Tryz.ntmps52
    go_wp2_with (first | (go_at_call 79; refine (skipBlanks_any _ _ _ hs (by omega) (by omega)).mono ?_; rintro e w' ⟨rfl, rfl⟩) | (go_at_call 80; refine (read_any _ _ _ hs (by omega) (by omega)).mono ?_; rintro e w' ⟨rfl, rfl⟩))
    exact bodyPost_ret (v := .agg #[.int .i64 (readT s (skip s i)).1, .int .i64 (skip s i), .int .i64 (readT s (skip s i)).2]) (by simp [results, Tryz.results52, go_sem]) rfl ⟨by rw [unhide HE], (Below.refl _ _).alloc (Nat.le_refl _) _⟩
end Go.Proofs.YtbojcemamhiodaaGreatDoor

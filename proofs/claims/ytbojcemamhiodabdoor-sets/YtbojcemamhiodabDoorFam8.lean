import Derived.Test.YtbojcemamhiodabDoorFam7
namespace Go.Proofs.YtbojcemamhiodabDoor

def hexb (v : Nat) : UInt8 := if v < 10 then UInt8.ofNat (48 + v) else UInt8.ofNat (87 + v)
theorem hexb_digit {s : ByteArray} {i : Int} {v : Nat} (hv : v < 16) (h : bAt s i = (hexb v).toNat) : digit s i = v := by
  have key : ∀ v : Nat, v < 16 → (10 ≤ v → ((hexb v).toNat : Int) = 87 + v) ∧ (v < 10 → ((hexb v).toNat : Int) = 48 + v) := by decide
  have hk := key v hv
  unfold digit
  rw [h]
  by_cases h10 : v < 10
  · rw [hk.2 h10, if_pos (by omega)]; omega
  · rw [hk.1 (by omega), if_neg (by omega), if_pos (by omega)]; omega
theorem setC_hex {s : ByteArray} {i : Int} {v1 v2 : Nat} (h1 : v1 < 16) (h2 : v2 < 16) (a0 : bAt s i = 92) (a1 : bAt s (i + 1) = 120) (a2 : bAt s (i + 2) = (hexb v1).toNat) (a3 : bAt s (i + 3) = (hexb v2).toNat) : setC s i = (((16 * v1 + v2 : Nat) : Int), i + 4) := by
  unfold setC
  rw [if_pos a0]
  unfold escC isSM
  rw [a1, if_neg (by simp), if_neg (by simp), hexb_digit h1 a2, hexb_digit h2 a3, if_neg (by omega)]
  congr 1
  omega
theorem setC_close {s : ByteArray} {i : Int} (a : bAt s i = 93) : setC s i = (-1, i) := by
  unfold setC plainC isSM
  rw [a, if_neg (by omega), if_pos (by simp)]
theorem member_hex {s : ByteArray} {i : Int} {v1 v2 v3 v4 : Nat} (h1 : v1 < 16) (h2 : v2 < 16) (h3 : v3 < 16) (h4 : v4 < 16) (hab : 16 * v1 + v2 ≤ 16 * v3 + v4) (a0 : bAt s i = 92) (a1 : bAt s (i + 1) = 120) (a2 : bAt s (i + 2) = (hexb v1).toNat) (a3 : bAt s (i + 3) = (hexb v2).toNat)
    (a4 : bAt s (i + 4) = 45) (a5 : bAt s (i + 5) = 92) (a6 : bAt s (i + 6) = 120) (a7 : bAt s (i + 7) = (hexb v3).toNat) (a8 : bAt s (i + 8) = (hexb v4).toNat) :
    member s i = (((16 * v1 + v2 : Nat) : Int), ((16 * v3 + v4 : Nat) : Int), i + 9) := by
  have e1 := setC_hex h1 h2 a0 a1 a2 a3
  have e2 := setC_hex (i := i + 5) h3 h4 a5 (by rw [show i + 5 + 1 = i + 6 from by omega]; exact a6) (by rw [show i + 5 + 2 = i + 7 from by omega]; exact a7) (by rw [show i + 5 + 3 = i + 8 from by omega]; exact a8)
  have e3 : (setC s i).2 + 1 = i + 5 := by rw [e1]; show i + 4 + 1 = i + 5; omega
  rw [member_3 (by rw [e1]; show (0 : Int) ≤ _; omega) (by rw [e1]; exact a4) (by rw [e3, e1, e2]; show ((16 * v1 + v2 : Nat) : Int) ≤ ((16 * v3 + v4 : Nat) : Int); omega), e3, e1, e2]
  show (_, _, i + 5 + 4) = (_, _, i + 9)
  rw [show i + 5 + 4 = i + 9 from by omega]
theorem member_close {s : ByteArray} {i : Int} (a : bAt s i = 93) : member s i = (-1, -1, i) := by
  rw [member_1 (.inl (by rw [setC_close a]; show (-1 : Int) < 0; omega)), setC_close a]

theorem nextT_S1 (v1 v2 v3 v4 : Nat) (h1 : v1 < 16) (h2 : v2 < 16) (h3 : v3 < 16) (h4 : v4 < 16) (hab : 16 * v1 + v2 ≤ 16 * v3 + v4) (l : List UInt8) : nextT (bl (91 :: 92 :: 120 :: hexb v1 :: hexb v2 :: 45 :: 92 :: 120 :: hexb v3 :: hexb v4 :: 93 :: l)) 0 = ⟨5, 0, 11⟩ := by
  have a0 : bAt (bl (91 :: 92 :: 120 :: hexb v1 :: hexb v2 :: 45 :: 92 :: 120 :: hexb v3 :: hexb v4 :: 93 :: l)) 1 = 92 := by have := bAt_bl (91 :: 92 :: 120 :: hexb v1 :: hexb v2 :: 45 :: 92 :: 120 :: hexb v3 :: hexb v4 :: 93 :: l) 1; simpa using this
  have a1 : bAt (bl (91 :: 92 :: 120 :: hexb v1 :: hexb v2 :: 45 :: 92 :: 120 :: hexb v3 :: hexb v4 :: 93 :: l)) 2 = 120 := by have := bAt_bl (91 :: 92 :: 120 :: hexb v1 :: hexb v2 :: 45 :: 92 :: 120 :: hexb v3 :: hexb v4 :: 93 :: l) 2; simpa using this
  have a2 : bAt (bl (91 :: 92 :: 120 :: hexb v1 :: hexb v2 :: 45 :: 92 :: 120 :: hexb v3 :: hexb v4 :: 93 :: l)) 3 = (hexb v1).toNat := by have := bAt_bl (91 :: 92 :: 120 :: hexb v1 :: hexb v2 :: 45 :: 92 :: 120 :: hexb v3 :: hexb v4 :: 93 :: l) 3; simpa using this
  have a3 : bAt (bl (91 :: 92 :: 120 :: hexb v1 :: hexb v2 :: 45 :: 92 :: 120 :: hexb v3 :: hexb v4 :: 93 :: l)) 4 = (hexb v2).toNat := by have := bAt_bl (91 :: 92 :: 120 :: hexb v1 :: hexb v2 :: 45 :: 92 :: 120 :: hexb v3 :: hexb v4 :: 93 :: l) 4; simpa using this
  have a4 : bAt (bl (91 :: 92 :: 120 :: hexb v1 :: hexb v2 :: 45 :: 92 :: 120 :: hexb v3 :: hexb v4 :: 93 :: l)) 5 = 45 := by have := bAt_bl (91 :: 92 :: 120 :: hexb v1 :: hexb v2 :: 45 :: 92 :: 120 :: hexb v3 :: hexb v4 :: 93 :: l) 5; simpa using this
  have a5 : bAt (bl (91 :: 92 :: 120 :: hexb v1 :: hexb v2 :: 45 :: 92 :: 120 :: hexb v3 :: hexb v4 :: 93 :: l)) 6 = 92 := by have := bAt_bl (91 :: 92 :: 120 :: hexb v1 :: hexb v2 :: 45 :: 92 :: 120 :: hexb v3 :: hexb v4 :: 93 :: l) 6; simpa using this
  have a6 : bAt (bl (91 :: 92 :: 120 :: hexb v1 :: hexb v2 :: 45 :: 92 :: 120 :: hexb v3 :: hexb v4 :: 93 :: l)) 7 = 120 := by have := bAt_bl (91 :: 92 :: 120 :: hexb v1 :: hexb v2 :: 45 :: 92 :: 120 :: hexb v3 :: hexb v4 :: 93 :: l) 7; simpa using this
  have a7 : bAt (bl (91 :: 92 :: 120 :: hexb v1 :: hexb v2 :: 45 :: 92 :: 120 :: hexb v3 :: hexb v4 :: 93 :: l)) 8 = (hexb v3).toNat := by have := bAt_bl (91 :: 92 :: 120 :: hexb v1 :: hexb v2 :: 45 :: 92 :: 120 :: hexb v3 :: hexb v4 :: 93 :: l) 8; simpa using this
  have a8 : bAt (bl (91 :: 92 :: 120 :: hexb v1 :: hexb v2 :: 45 :: 92 :: 120 :: hexb v3 :: hexb v4 :: 93 :: l)) 9 = (hexb v4).toNat := by have := bAt_bl (91 :: 92 :: 120 :: hexb v1 :: hexb v2 :: 45 :: 92 :: 120 :: hexb v3 :: hexb v4 :: 93 :: l) 9; simpa using this
  have a9 : bAt (bl (91 :: 92 :: 120 :: hexb v1 :: hexb v2 :: 45 :: 92 :: 120 :: hexb v3 :: hexb v4 :: 93 :: l)) 10 = 93 := by have := bAt_bl (91 :: 92 :: 120 :: hexb v1 :: hexb v2 :: 45 :: 92 :: 120 :: hexb v3 :: hexb v4 :: 93 :: l) 10; simpa using this
  skip
  have hm := member_hex (s := bl (91 :: 92 :: 120 :: hexb v1 :: hexb v2 :: 45 :: 92 :: 120 :: hexb v3 :: hexb v4 :: 93 :: l)) (i := 1) h1 h2 h3 h4 hab a0 a1 a2 a3 a4 a5 a6 a7 a8
  refine nextT_head 91 _ 5 11 rfl ?_
  unfold readT
  rw [bAt_cons, if_neg (by decide), if_neg (by decide), if_neg (by decide), if_pos (by rfl)]
  have hf : setFrom (bl (91 :: 92 :: 120 :: hexb v1 :: hexb v2 :: 45 :: 92 :: 120 :: hexb v3 :: hexb v4 :: 93 :: l)) 0 = 1 := by
    unfold setFrom
    rw [if_neg (by show ¬ bAt _ 1 = 94; rw [a0]; decide)]
    rfl
  have he : setEnd (bl (91 :: 92 :: 120 :: hexb v1 :: hexb v2 :: 45 :: 92 :: 120 :: hexb v3 :: hexb v4 :: 93 :: l)) 1 ((bl (91 :: 92 :: 120 :: hexb v1 :: hexb v2 :: 45 :: 92 :: 120 :: hexb v3 :: hexb v4 :: 93 :: l)).size + 2 - (0 : Int).toNat) 1 = some 10 := by
    rw [bl_size]
    show setEnd _ 1 (l.length + 11 + 1 + 1) 1 = some 10
    rw [setEnd, if_neg (by omega), hm, if_neg (by show ¬ ((16 * v1 + v2 : Nat) : Int) < 0; omega)]
    show setEnd _ 1 (l.length + 11 + 1) 10 = some 10
    rw [setEnd, if_pos ⟨by decide, a9⟩]
  unfold readSt
  rw [hf, he]
  rfl
theorem bytes_S1 (v1 v2 v3 v4 : Nat) (h1 : v1 < 16) (h2 : v2 < 16) (h3 : v3 < 16) (h4 : v4 < 16) (hab : 16 * v1 + v2 ≤ 16 * v3 + v4) : setBs (bl (91 :: 92 :: 120 :: hexb v1 :: hexb v2 :: 45 :: 92 :: 120 :: hexb v3 :: hexb v4 :: 93 :: [])) = bytesOf (isIn [(((16 * v1 + v2 : Nat) : Int), ((16 * v3 + v4 : Nat) : Int))]) true := by
  have a0 : bAt (bl (91 :: 92 :: 120 :: hexb v1 :: hexb v2 :: 45 :: 92 :: 120 :: hexb v3 :: hexb v4 :: 93 :: [])) 1 = 92 := by have := bAt_bl (91 :: 92 :: 120 :: hexb v1 :: hexb v2 :: 45 :: 92 :: 120 :: hexb v3 :: hexb v4 :: 93 :: []) 1; simpa using this
  have a1 : bAt (bl (91 :: 92 :: 120 :: hexb v1 :: hexb v2 :: 45 :: 92 :: 120 :: hexb v3 :: hexb v4 :: 93 :: [])) 2 = 120 := by have := bAt_bl (91 :: 92 :: 120 :: hexb v1 :: hexb v2 :: 45 :: 92 :: 120 :: hexb v3 :: hexb v4 :: 93 :: []) 2; simpa using this
  have a2 : bAt (bl (91 :: 92 :: 120 :: hexb v1 :: hexb v2 :: 45 :: 92 :: 120 :: hexb v3 :: hexb v4 :: 93 :: [])) 3 = (hexb v1).toNat := by have := bAt_bl (91 :: 92 :: 120 :: hexb v1 :: hexb v2 :: 45 :: 92 :: 120 :: hexb v3 :: hexb v4 :: 93 :: []) 3; simpa using this
  have a3 : bAt (bl (91 :: 92 :: 120 :: hexb v1 :: hexb v2 :: 45 :: 92 :: 120 :: hexb v3 :: hexb v4 :: 93 :: [])) 4 = (hexb v2).toNat := by have := bAt_bl (91 :: 92 :: 120 :: hexb v1 :: hexb v2 :: 45 :: 92 :: 120 :: hexb v3 :: hexb v4 :: 93 :: []) 4; simpa using this
  have a4 : bAt (bl (91 :: 92 :: 120 :: hexb v1 :: hexb v2 :: 45 :: 92 :: 120 :: hexb v3 :: hexb v4 :: 93 :: [])) 5 = 45 := by have := bAt_bl (91 :: 92 :: 120 :: hexb v1 :: hexb v2 :: 45 :: 92 :: 120 :: hexb v3 :: hexb v4 :: 93 :: []) 5; simpa using this
  have a5 : bAt (bl (91 :: 92 :: 120 :: hexb v1 :: hexb v2 :: 45 :: 92 :: 120 :: hexb v3 :: hexb v4 :: 93 :: [])) 6 = 92 := by have := bAt_bl (91 :: 92 :: 120 :: hexb v1 :: hexb v2 :: 45 :: 92 :: 120 :: hexb v3 :: hexb v4 :: 93 :: []) 6; simpa using this
  have a6 : bAt (bl (91 :: 92 :: 120 :: hexb v1 :: hexb v2 :: 45 :: 92 :: 120 :: hexb v3 :: hexb v4 :: 93 :: [])) 7 = 120 := by have := bAt_bl (91 :: 92 :: 120 :: hexb v1 :: hexb v2 :: 45 :: 92 :: 120 :: hexb v3 :: hexb v4 :: 93 :: []) 7; simpa using this
  have a7 : bAt (bl (91 :: 92 :: 120 :: hexb v1 :: hexb v2 :: 45 :: 92 :: 120 :: hexb v3 :: hexb v4 :: 93 :: [])) 8 = (hexb v3).toNat := by have := bAt_bl (91 :: 92 :: 120 :: hexb v1 :: hexb v2 :: 45 :: 92 :: 120 :: hexb v3 :: hexb v4 :: 93 :: []) 8; simpa using this
  have a8 : bAt (bl (91 :: 92 :: 120 :: hexb v1 :: hexb v2 :: 45 :: 92 :: 120 :: hexb v3 :: hexb v4 :: 93 :: [])) 9 = (hexb v4).toNat := by have := bAt_bl (91 :: 92 :: 120 :: hexb v1 :: hexb v2 :: 45 :: 92 :: 120 :: hexb v3 :: hexb v4 :: 93 :: []) 9; simpa using this
  have a9 : bAt (bl (91 :: 92 :: 120 :: hexb v1 :: hexb v2 :: 45 :: 92 :: 120 :: hexb v3 :: hexb v4 :: 93 :: [])) 10 = 93 := by have := bAt_bl (91 :: 92 :: 120 :: hexb v1 :: hexb v2 :: 45 :: 92 :: 120 :: hexb v3 :: hexb v4 :: 93 :: []) 10; simpa using this
  skip
  have hm := member_hex (s := bl (91 :: 92 :: 120 :: hexb v1 :: hexb v2 :: 45 :: 92 :: 120 :: hexb v3 :: hexb v4 :: 93 :: [])) (i := 1) h1 h2 h3 h4 hab a0 a1 a2 a3 a4 a5 a6 a7 a8
  have hmb : membs (bl (91 :: 92 :: 120 :: hexb v1 :: hexb v2 :: 45 :: 92 :: 120 :: hexb v3 :: hexb v4 :: 93 :: [])) ((bl (91 :: 92 :: 120 :: hexb v1 :: hexb v2 :: 45 :: 92 :: 120 :: hexb v3 :: hexb v4 :: 93 :: [])).size + 1) 1 = [(((16 * v1 + v2 : Nat) : Int), ((16 * v3 + v4 : Nat) : Int))] := by
    rw [bl_size]
    show membs _ (11 + 1) 1 = _
    rw [membs, hm, if_neg (by show ¬ ((16 * v1 + v2 : Nat) : Int) < 0; omega)]
    show _ :: membs _ 11 10 = _
    rw [membs, member_close a9, if_pos (by decide)]
  unfold setBs
  rw [if_neg (by rw [a0]; decide), hmb]
def textS1 (v1 v2 v3 v4 : Nat) : List UInt8 := 114 :: 32 :: 60 :: 45 :: 32 :: 91 :: 92 :: 120 :: hexb v1 :: hexb v2 :: 45 :: 92 :: 120 :: hexb v3 :: hexb v4 :: 93 :: []

theorem nextT_S2 (v1 v2 v3 v4 : Nat) (h1 : v1 < 16) (h2 : v2 < 16) (h3 : v3 < 16) (h4 : v4 < 16) (hab : 16 * v1 + v2 ≤ 16 * v3 + v4) (l : List UInt8) : nextT (bl (91 :: 94 :: 92 :: 120 :: hexb v1 :: hexb v2 :: 45 :: 92 :: 120 :: hexb v3 :: hexb v4 :: 93 :: l)) 0 = ⟨5, 0, 12⟩ := by
  have a0 : bAt (bl (91 :: 94 :: 92 :: 120 :: hexb v1 :: hexb v2 :: 45 :: 92 :: 120 :: hexb v3 :: hexb v4 :: 93 :: l)) 2 = 92 := by have := bAt_bl (91 :: 94 :: 92 :: 120 :: hexb v1 :: hexb v2 :: 45 :: 92 :: 120 :: hexb v3 :: hexb v4 :: 93 :: l) 2; simpa using this
  have a1 : bAt (bl (91 :: 94 :: 92 :: 120 :: hexb v1 :: hexb v2 :: 45 :: 92 :: 120 :: hexb v3 :: hexb v4 :: 93 :: l)) 3 = 120 := by have := bAt_bl (91 :: 94 :: 92 :: 120 :: hexb v1 :: hexb v2 :: 45 :: 92 :: 120 :: hexb v3 :: hexb v4 :: 93 :: l) 3; simpa using this
  have a2 : bAt (bl (91 :: 94 :: 92 :: 120 :: hexb v1 :: hexb v2 :: 45 :: 92 :: 120 :: hexb v3 :: hexb v4 :: 93 :: l)) 4 = (hexb v1).toNat := by have := bAt_bl (91 :: 94 :: 92 :: 120 :: hexb v1 :: hexb v2 :: 45 :: 92 :: 120 :: hexb v3 :: hexb v4 :: 93 :: l) 4; simpa using this
  have a3 : bAt (bl (91 :: 94 :: 92 :: 120 :: hexb v1 :: hexb v2 :: 45 :: 92 :: 120 :: hexb v3 :: hexb v4 :: 93 :: l)) 5 = (hexb v2).toNat := by have := bAt_bl (91 :: 94 :: 92 :: 120 :: hexb v1 :: hexb v2 :: 45 :: 92 :: 120 :: hexb v3 :: hexb v4 :: 93 :: l) 5; simpa using this
  have a4 : bAt (bl (91 :: 94 :: 92 :: 120 :: hexb v1 :: hexb v2 :: 45 :: 92 :: 120 :: hexb v3 :: hexb v4 :: 93 :: l)) 6 = 45 := by have := bAt_bl (91 :: 94 :: 92 :: 120 :: hexb v1 :: hexb v2 :: 45 :: 92 :: 120 :: hexb v3 :: hexb v4 :: 93 :: l) 6; simpa using this
  have a5 : bAt (bl (91 :: 94 :: 92 :: 120 :: hexb v1 :: hexb v2 :: 45 :: 92 :: 120 :: hexb v3 :: hexb v4 :: 93 :: l)) 7 = 92 := by have := bAt_bl (91 :: 94 :: 92 :: 120 :: hexb v1 :: hexb v2 :: 45 :: 92 :: 120 :: hexb v3 :: hexb v4 :: 93 :: l) 7; simpa using this
  have a6 : bAt (bl (91 :: 94 :: 92 :: 120 :: hexb v1 :: hexb v2 :: 45 :: 92 :: 120 :: hexb v3 :: hexb v4 :: 93 :: l)) 8 = 120 := by have := bAt_bl (91 :: 94 :: 92 :: 120 :: hexb v1 :: hexb v2 :: 45 :: 92 :: 120 :: hexb v3 :: hexb v4 :: 93 :: l) 8; simpa using this
  have a7 : bAt (bl (91 :: 94 :: 92 :: 120 :: hexb v1 :: hexb v2 :: 45 :: 92 :: 120 :: hexb v3 :: hexb v4 :: 93 :: l)) 9 = (hexb v3).toNat := by have := bAt_bl (91 :: 94 :: 92 :: 120 :: hexb v1 :: hexb v2 :: 45 :: 92 :: 120 :: hexb v3 :: hexb v4 :: 93 :: l) 9; simpa using this
  have a8 : bAt (bl (91 :: 94 :: 92 :: 120 :: hexb v1 :: hexb v2 :: 45 :: 92 :: 120 :: hexb v3 :: hexb v4 :: 93 :: l)) 10 = (hexb v4).toNat := by have := bAt_bl (91 :: 94 :: 92 :: 120 :: hexb v1 :: hexb v2 :: 45 :: 92 :: 120 :: hexb v3 :: hexb v4 :: 93 :: l) 10; simpa using this
  have a9 : bAt (bl (91 :: 94 :: 92 :: 120 :: hexb v1 :: hexb v2 :: 45 :: 92 :: 120 :: hexb v3 :: hexb v4 :: 93 :: l)) 11 = 93 := by have := bAt_bl (91 :: 94 :: 92 :: 120 :: hexb v1 :: hexb v2 :: 45 :: 92 :: 120 :: hexb v3 :: hexb v4 :: 93 :: l) 11; simpa using this
  have ah : bAt (bl (91 :: 94 :: 92 :: 120 :: hexb v1 :: hexb v2 :: 45 :: 92 :: 120 :: hexb v3 :: hexb v4 :: 93 :: l)) 1 = 94 := by have := bAt_bl (91 :: 94 :: 92 :: 120 :: hexb v1 :: hexb v2 :: 45 :: 92 :: 120 :: hexb v3 :: hexb v4 :: 93 :: l) 1; simpa using this
  have hm := member_hex (s := bl (91 :: 94 :: 92 :: 120 :: hexb v1 :: hexb v2 :: 45 :: 92 :: 120 :: hexb v3 :: hexb v4 :: 93 :: l)) (i := 2) h1 h2 h3 h4 hab a0 a1 a2 a3 a4 a5 a6 a7 a8
  refine nextT_head 91 _ 5 12 rfl ?_
  unfold readT
  rw [bAt_cons, if_neg (by decide), if_neg (by decide), if_neg (by decide), if_pos (by rfl)]
  have hf : setFrom (bl (91 :: 94 :: 92 :: 120 :: hexb v1 :: hexb v2 :: 45 :: 92 :: 120 :: hexb v3 :: hexb v4 :: 93 :: l)) 0 = 2 := by
    unfold setFrom
    rw [if_pos (by show bAt _ 1 = 94; exact ah)]
    rfl
  have he : setEnd (bl (91 :: 94 :: 92 :: 120 :: hexb v1 :: hexb v2 :: 45 :: 92 :: 120 :: hexb v3 :: hexb v4 :: 93 :: l)) 2 ((bl (91 :: 94 :: 92 :: 120 :: hexb v1 :: hexb v2 :: 45 :: 92 :: 120 :: hexb v3 :: hexb v4 :: 93 :: l)).size + 2 - (0 : Int).toNat) 2 = some 11 := by
    rw [bl_size]
    show setEnd _ 2 (l.length + 12 + 1 + 1) 2 = some 11
    rw [setEnd, if_neg (by omega), hm, if_neg (by show ¬ ((16 * v1 + v2 : Nat) : Int) < 0; omega)]
    show setEnd _ 2 (l.length + 12 + 1) 11 = some 11
    rw [setEnd, if_pos ⟨by decide, a9⟩]
  unfold readSt
  rw [hf, he]
  rfl
theorem bytes_S2 (v1 v2 v3 v4 : Nat) (h1 : v1 < 16) (h2 : v2 < 16) (h3 : v3 < 16) (h4 : v4 < 16) (hab : 16 * v1 + v2 ≤ 16 * v3 + v4) : setBs (bl (91 :: 94 :: 92 :: 120 :: hexb v1 :: hexb v2 :: 45 :: 92 :: 120 :: hexb v3 :: hexb v4 :: 93 :: [])) = bytesOf (isIn [(((16 * v1 + v2 : Nat) : Int), ((16 * v3 + v4 : Nat) : Int))]) false := by
  have a0 : bAt (bl (91 :: 94 :: 92 :: 120 :: hexb v1 :: hexb v2 :: 45 :: 92 :: 120 :: hexb v3 :: hexb v4 :: 93 :: [])) 2 = 92 := by have := bAt_bl (91 :: 94 :: 92 :: 120 :: hexb v1 :: hexb v2 :: 45 :: 92 :: 120 :: hexb v3 :: hexb v4 :: 93 :: []) 2; simpa using this
  have a1 : bAt (bl (91 :: 94 :: 92 :: 120 :: hexb v1 :: hexb v2 :: 45 :: 92 :: 120 :: hexb v3 :: hexb v4 :: 93 :: [])) 3 = 120 := by have := bAt_bl (91 :: 94 :: 92 :: 120 :: hexb v1 :: hexb v2 :: 45 :: 92 :: 120 :: hexb v3 :: hexb v4 :: 93 :: []) 3; simpa using this
  have a2 : bAt (bl (91 :: 94 :: 92 :: 120 :: hexb v1 :: hexb v2 :: 45 :: 92 :: 120 :: hexb v3 :: hexb v4 :: 93 :: [])) 4 = (hexb v1).toNat := by have := bAt_bl (91 :: 94 :: 92 :: 120 :: hexb v1 :: hexb v2 :: 45 :: 92 :: 120 :: hexb v3 :: hexb v4 :: 93 :: []) 4; simpa using this
  have a3 : bAt (bl (91 :: 94 :: 92 :: 120 :: hexb v1 :: hexb v2 :: 45 :: 92 :: 120 :: hexb v3 :: hexb v4 :: 93 :: [])) 5 = (hexb v2).toNat := by have := bAt_bl (91 :: 94 :: 92 :: 120 :: hexb v1 :: hexb v2 :: 45 :: 92 :: 120 :: hexb v3 :: hexb v4 :: 93 :: []) 5; simpa using this
  have a4 : bAt (bl (91 :: 94 :: 92 :: 120 :: hexb v1 :: hexb v2 :: 45 :: 92 :: 120 :: hexb v3 :: hexb v4 :: 93 :: [])) 6 = 45 := by have := bAt_bl (91 :: 94 :: 92 :: 120 :: hexb v1 :: hexb v2 :: 45 :: 92 :: 120 :: hexb v3 :: hexb v4 :: 93 :: []) 6; simpa using this
  have a5 : bAt (bl (91 :: 94 :: 92 :: 120 :: hexb v1 :: hexb v2 :: 45 :: 92 :: 120 :: hexb v3 :: hexb v4 :: 93 :: [])) 7 = 92 := by have := bAt_bl (91 :: 94 :: 92 :: 120 :: hexb v1 :: hexb v2 :: 45 :: 92 :: 120 :: hexb v3 :: hexb v4 :: 93 :: []) 7; simpa using this
  have a6 : bAt (bl (91 :: 94 :: 92 :: 120 :: hexb v1 :: hexb v2 :: 45 :: 92 :: 120 :: hexb v3 :: hexb v4 :: 93 :: [])) 8 = 120 := by have := bAt_bl (91 :: 94 :: 92 :: 120 :: hexb v1 :: hexb v2 :: 45 :: 92 :: 120 :: hexb v3 :: hexb v4 :: 93 :: []) 8; simpa using this
  have a7 : bAt (bl (91 :: 94 :: 92 :: 120 :: hexb v1 :: hexb v2 :: 45 :: 92 :: 120 :: hexb v3 :: hexb v4 :: 93 :: [])) 9 = (hexb v3).toNat := by have := bAt_bl (91 :: 94 :: 92 :: 120 :: hexb v1 :: hexb v2 :: 45 :: 92 :: 120 :: hexb v3 :: hexb v4 :: 93 :: []) 9; simpa using this
  have a8 : bAt (bl (91 :: 94 :: 92 :: 120 :: hexb v1 :: hexb v2 :: 45 :: 92 :: 120 :: hexb v3 :: hexb v4 :: 93 :: [])) 10 = (hexb v4).toNat := by have := bAt_bl (91 :: 94 :: 92 :: 120 :: hexb v1 :: hexb v2 :: 45 :: 92 :: 120 :: hexb v3 :: hexb v4 :: 93 :: []) 10; simpa using this
  have a9 : bAt (bl (91 :: 94 :: 92 :: 120 :: hexb v1 :: hexb v2 :: 45 :: 92 :: 120 :: hexb v3 :: hexb v4 :: 93 :: [])) 11 = 93 := by have := bAt_bl (91 :: 94 :: 92 :: 120 :: hexb v1 :: hexb v2 :: 45 :: 92 :: 120 :: hexb v3 :: hexb v4 :: 93 :: []) 11; simpa using this
  have ah : bAt (bl (91 :: 94 :: 92 :: 120 :: hexb v1 :: hexb v2 :: 45 :: 92 :: 120 :: hexb v3 :: hexb v4 :: 93 :: [])) 1 = 94 := by have := bAt_bl (91 :: 94 :: 92 :: 120 :: hexb v1 :: hexb v2 :: 45 :: 92 :: 120 :: hexb v3 :: hexb v4 :: 93 :: []) 1; simpa using this
  have hm := member_hex (s := bl (91 :: 94 :: 92 :: 120 :: hexb v1 :: hexb v2 :: 45 :: 92 :: 120 :: hexb v3 :: hexb v4 :: 93 :: [])) (i := 2) h1 h2 h3 h4 hab a0 a1 a2 a3 a4 a5 a6 a7 a8
  have hmb : membs (bl (91 :: 94 :: 92 :: 120 :: hexb v1 :: hexb v2 :: 45 :: 92 :: 120 :: hexb v3 :: hexb v4 :: 93 :: [])) ((bl (91 :: 94 :: 92 :: 120 :: hexb v1 :: hexb v2 :: 45 :: 92 :: 120 :: hexb v3 :: hexb v4 :: 93 :: [])).size + 1) 2 = [(((16 * v1 + v2 : Nat) : Int), ((16 * v3 + v4 : Nat) : Int))] := by
    rw [bl_size]
    show membs _ (12 + 1) 2 = _
    rw [membs, hm, if_neg (by show ¬ ((16 * v1 + v2 : Nat) : Int) < 0; omega)]
    show _ :: membs _ 12 11 = _
    rw [membs, member_close a9, if_pos (by decide)]
  unfold setBs
  rw [if_pos ah, hmb]
def textS2 (v1 v2 v3 v4 : Nat) : List UInt8 := 114 :: 32 :: 60 :: 45 :: 32 :: 91 :: 94 :: 92 :: 120 :: hexb v1 :: hexb v2 :: 45 :: 92 :: 120 :: hexb v3 :: hexb v4 :: 93 :: []

theorem eval_set (s : ByteArray) (m : Nat) (hs : s.size = m + 2) (hs4 : s.size ≤ 400) (T0 T1 T2 T3 : Tk) (h0 : nextT s 0 = T0) (h1 : nextT s T0.to = T1) (h2 : nextT s T1.to = T2) (h3 : nextT s T2.to = T3) (k0 : T0.k = 2) (k1 : T1.k = 3) (k2 : T2.k = 5) (k3 : T3.k = 1) :
    parseF s = ⟨0, [⟨T0.of s, T0.from_, ⟨1, 0, T2.bytes s, []⟩, false, 0⟩], 0⟩ := by
  have hs1 : s.size = (m + 1) + 1 := by omega
  have hex : exprN s 13 T2 0 = ⟨0, ⟨1, 0, T2.bytes s, []⟩, T3, 0⟩ := expr_one (row_one hs1 (atIt_set k2) (by rw [item_leaf (.inr (.inr (.inl k2))) (by rw [h3]; exact sign_no (by omega)), leaf_set (.inl k2), h3]) (atIt_no (by omega)) (by simp)) (by omega) (by simp)
  rw [parse_text hs4, h0, hs, parse_step k0 (rule_ok k0 h1 k1 h2 hex), parse_end k3]
  rfl
theorem check_set (b : ByteArray) : checkF 3 3 [⟨bl [114], 0, ⟨1, 0, b, []⟩, false, 0⟩] = some (0, 0) := by
  simp [checkF, check2, check3, twiceL, findF, findFrom, firstR, unkN, firstL, fixE, roundE, mayE, fixB, roundB, begN, begL, and_zero, leftL, loopN]
theorem build_set (b : ByteArray) : buildF 4 [⟨bl [114], 0, ⟨1, 0, b, []⟩, false, 0⟩] = [⟨1, b, []⟩] := by rfl

theorem parse_S1 (v1 v2 v3 v4 : Nat) (h1 : v1 < 16) (h2 : v2 < 16) (h3 : v3 < 16) (h4 : v4 < 16) (hab : 16 * v1 + v2 ≤ 16 * v3 + v4) : parseF (bl (textS1 v1 v2 v3 v4)) = ⟨0, [⟨bl [114], 0, ⟨1, 0, ⟨(bytesOf (isIn [(((16 * v1 + v2 : Nat) : Int), ((16 * v3 + v4 : Nat) : Int))]) true).toArray⟩, []⟩, false, 0⟩], 0⟩ := by
  have t0 : nextT (bl (textS1 v1 v2 v3 v4)) 0 = ⟨2, 0, 1⟩ := nextT_letter 114 32 _ (by decide) (by decide) rfl
  have t1 : nextT (bl (textS1 v1 v2 v3 v4)) 1 = ⟨3, 2, 4⟩ := next_at (A := [114]) (B := 32 :: 60 :: 45 :: 32 :: 91 :: 92 :: 120 :: hexb v1 :: hexb v2 :: 45 :: 92 :: 120 :: hexb v3 :: hexb v4 :: 93 :: []) rfl (blank_any _ (nextT_arrow _)) rfl
  have t2 : nextT (bl (textS1 v1 v2 v3 v4)) 4 = ⟨5, 5, 16⟩ := next_at (A := [114, 32, 60, 45]) (B := 32 :: 91 :: 92 :: 120 :: hexb v1 :: hexb v2 :: 45 :: 92 :: 120 :: hexb v3 :: hexb v4 :: 93 :: []) rfl (blank_any _ (nextT_S1 v1 v2 v3 v4 h1 h2 h3 h4 hab [])) rfl
  have t3 : nextT (bl (textS1 v1 v2 v3 v4)) 16 = ⟨1, 16, 16⟩ := next_at (A := (textS1 v1 v2 v3 v4)) (B := []) (by simp) nextT_end rfl
  rw [eval_set (bl (textS1 v1 v2 v3 v4)) 14 rfl (by show (16 : Nat) ≤ 400; omega) _ _ _ _ t0 t1 t2 t3 rfl rfl rfl rfl]
  have b0 : (⟨2, 0, 1⟩ : Tk).of (bl (textS1 v1 v2 v3 v4)) = bl [114] := of_bl [] (textS1 v1 v2 v3 v4) 1 2
  have b2 : (⟨5, 5, 16⟩ : Tk).of (bl (textS1 v1 v2 v3 v4)) = bl (91 :: 92 :: 120 :: hexb v1 :: hexb v2 :: 45 :: 92 :: 120 :: hexb v3 :: hexb v4 :: 93 :: []) := of_bl [114, 32, 60, 45, 32] (91 :: 92 :: 120 :: hexb v1 :: hexb v2 :: 45 :: 92 :: 120 :: hexb v3 :: hexb v4 :: 93 :: []) 11 5
  rw [b0, bytes_5 rfl, b2, bytes_S1 v1 v2 v3 v4 h1 h2 h3 h4 hab]
theorem compile_S1 (v1 v2 v3 v4 : Nat) (h1 : v1 < 16) (h2 : v2 < 16) (h3 : v3 < 16) (h4 : v4 < 16) (hab : 16 * v1 + v2 ≤ 16 * v3 + v4) : compileF 3 3 (bl (textS1 v1 v2 v3 v4)) = some (0, 0) := by
  unfold compileF
  rw [parse_S1 v1 v2 v3 v4 h1 h2 h3 h4 hab]
  simp only [check_set]
  rfl

theorem parse_S2 (v1 v2 v3 v4 : Nat) (h1 : v1 < 16) (h2 : v2 < 16) (h3 : v3 < 16) (h4 : v4 < 16) (hab : 16 * v1 + v2 ≤ 16 * v3 + v4) : parseF (bl (textS2 v1 v2 v3 v4)) = ⟨0, [⟨bl [114], 0, ⟨1, 0, ⟨(bytesOf (isIn [(((16 * v1 + v2 : Nat) : Int), ((16 * v3 + v4 : Nat) : Int))]) false).toArray⟩, []⟩, false, 0⟩], 0⟩ := by
  have t0 : nextT (bl (textS2 v1 v2 v3 v4)) 0 = ⟨2, 0, 1⟩ := nextT_letter 114 32 _ (by decide) (by decide) rfl
  have t1 : nextT (bl (textS2 v1 v2 v3 v4)) 1 = ⟨3, 2, 4⟩ := next_at (A := [114]) (B := 32 :: 60 :: 45 :: 32 :: 91 :: 94 :: 92 :: 120 :: hexb v1 :: hexb v2 :: 45 :: 92 :: 120 :: hexb v3 :: hexb v4 :: 93 :: []) rfl (blank_any _ (nextT_arrow _)) rfl
  have t2 : nextT (bl (textS2 v1 v2 v3 v4)) 4 = ⟨5, 5, 17⟩ := next_at (A := [114, 32, 60, 45]) (B := 32 :: 91 :: 94 :: 92 :: 120 :: hexb v1 :: hexb v2 :: 45 :: 92 :: 120 :: hexb v3 :: hexb v4 :: 93 :: []) rfl (blank_any _ (nextT_S2 v1 v2 v3 v4 h1 h2 h3 h4 hab [])) rfl
  have t3 : nextT (bl (textS2 v1 v2 v3 v4)) 17 = ⟨1, 17, 17⟩ := next_at (A := (textS2 v1 v2 v3 v4)) (B := []) (by simp) nextT_end rfl
  rw [eval_set (bl (textS2 v1 v2 v3 v4)) 15 rfl (by show (17 : Nat) ≤ 400; omega) _ _ _ _ t0 t1 t2 t3 rfl rfl rfl rfl]
  have b0 : (⟨2, 0, 1⟩ : Tk).of (bl (textS2 v1 v2 v3 v4)) = bl [114] := of_bl [] (textS2 v1 v2 v3 v4) 1 2
  have b2 : (⟨5, 5, 17⟩ : Tk).of (bl (textS2 v1 v2 v3 v4)) = bl (91 :: 94 :: 92 :: 120 :: hexb v1 :: hexb v2 :: 45 :: 92 :: 120 :: hexb v3 :: hexb v4 :: 93 :: []) := of_bl [114, 32, 60, 45, 32] (91 :: 94 :: 92 :: 120 :: hexb v1 :: hexb v2 :: 45 :: 92 :: 120 :: hexb v3 :: hexb v4 :: 93 :: []) 12 5
  rw [b0, bytes_5 rfl, b2, bytes_S2 v1 v2 v3 v4 h1 h2 h3 h4 hab]
theorem compile_S2 (v1 v2 v3 v4 : Nat) (h1 : v1 < 16) (h2 : v2 < 16) (h3 : v3 < 16) (h4 : v4 < 16) (hab : 16 * v1 + v2 ≤ 16 * v3 + v4) : compileF 3 3 (bl (textS2 v1 v2 v3 v4)) = some (0, 0) := by
  unfold compileF
  rw [parse_S2 v1 v2 v3 v4 h1 h2 h3 h4 hab]
  simp only [check_set]
  rfl

/-- r <- . !. -/
def textD : List UInt8 := [114, 32, 60, 45, 32, 46, 32, 33, 46]
theorem eval_dots (s : ByteArray) (m : Nat) (hs : s.size = m + 2) (hs4 : s.size ≤ 400) (T0 T1 T2 T3 T4 T5 : Tk) (h0 : nextT s 0 = T0) (h1 : nextT s T0.to = T1) (h2 : nextT s T1.to = T2) (h3 : nextT s T2.to = T3) (h4 : nextT s T3.to = T4) (h5 : nextT s T4.to = T5) (k0 : T0.k = 2) (k1 : T1.k = 3) (k2 : T2.k = 12) (k3 : T3.k = 8) (k4 : T4.k = 12) (k5 : T5.k = 1) :
    parseF s = ⟨0, [⟨T0.of s, T0.from_, nd0 5 [⟨1, 0, allB, []⟩, nd0 8 [⟨1, 0, allB, []⟩]], false, 0⟩], 0⟩ := by
  have hs1 : s.size = (m + 1) + 1 := by omega
  have d : ∀ (t t1 : Tk) (k : Nat), t.k = 12 → nextT s t.to = t1 → isSign t1 = false → itemF s (exprN s 12) (k + 1) t 0 = ⟨0, ⟨1, 0, allB, []⟩, t1, 0⟩ := fun t t1 k hk hn hsg => by
    rw [item_leaf (.inr (.inr (.inr hk))) (by rw [hn]; exact hsg), leaf_set (.inr hk), hn, bytes_12 hk]
    rfl
  have i3 : itemF s (exprN s 12) (s.size + 1) T3 0 = ⟨0, nd0 8 [⟨1, 0, allB, []⟩], T5, 0⟩ := by
    have h := item_look (s := s) (E := exprN s 12) (t := T3) (d := 0) (k := s.size) (.inr k3) (by rw [h4]; exact atIt_dot k4) (by rw [h4, hs1]; exact d T4 T5 _ k4 h5 (sign_no (by omega)))
    rw [k3] at h
    exact h
  have hex : exprN s 13 T2 0 = ⟨0, nd0 5 [⟨1, 0, allB, []⟩, nd0 8 [⟨1, 0, allB, []⟩]], T5, 0⟩ :=
    expr_one (row_two hs (atIt_dot k2) (d T2 T3 _ k2 h3 (sign_no (by omega))) (atIt_look (.inr k3)) i3 (atIt_no (by omega)) (by simp) (by simp [nd0])) (by omega) (by simp [nd0])
  rw [parse_text hs4, h0, hs, parse_step k0 (rule_ok k0 h1 k1 h2 hex), parse_end k5]
  rfl
theorem parse_dots : parseF (bl textD) = ⟨0, [⟨bl [114], 0, nd0 5 [⟨1, 0, allB, []⟩, nd0 8 [⟨1, 0, allB, []⟩]], false, 0⟩], 0⟩ := by
  have t0 : nextT (bl textD) 0 = ⟨2, 0, 1⟩ := nextT_letter 114 32 _ (by decide) (by decide) rfl
  have t1 : nextT (bl textD) 1 = ⟨3, 2, 4⟩ := next_at (A := [114]) (B := 32 :: 60 :: 45 :: [32, 46, 32, 33, 46]) rfl (blank_any _ (nextT_arrow _)) rfl
  have t2 : nextT (bl textD) 4 = ⟨12, 5, 6⟩ := next_at (A := [114, 32, 60, 45]) (B := 32 :: 46 :: [32, 33, 46]) rfl (blank_any _ (nextT_sign 46 _ 12 (by decide) (by decide) (by decide) (by decide) rfl (by decide))) rfl
  have t3 : nextT (bl textD) 6 = ⟨8, 7, 8⟩ := next_at (A := [114, 32, 60, 45, 32, 46]) (B := 32 :: 33 :: [46]) rfl (blank_any _ (nextT_sign 33 _ 8 (by decide) (by decide) (by decide) (by decide) rfl (by decide))) rfl
  have t4 : nextT (bl textD) 8 = ⟨12, 8, 9⟩ := next_at (A := [114, 32, 60, 45, 32, 46, 32, 33]) (B := 46 :: []) rfl (nextT_sign 46 _ 12 (by decide) (by decide) (by decide) (by decide) rfl (by decide)) rfl
  have t5 : nextT (bl textD) 9 = ⟨1, 9, 9⟩ := next_at (A := textD) (B := []) (by simp) nextT_end rfl
  rw [eval_dots (bl textD) 7 rfl (by show (9 : Nat) ≤ 400; omega) _ _ _ _ _ _ t0 t1 t2 t3 t4 t5 rfl rfl rfl rfl rfl rfl]
  have b0 : (⟨2, 0, 1⟩ : Tk).of (bl textD) = bl [114] := of_bl [] textD 1 2
  rw [b0]
theorem check_dots (a b : ByteArray) : checkF 3 3 [⟨bl [114], 0, nd0 5 [⟨1, 0, a, []⟩, nd0 8 [⟨1, 0, b, []⟩]], false, 0⟩] = some (0, 0) := by
  simp [checkF, check2, check3, twiceL, findF, findFrom, firstR, unkN, firstL, fixE, roundE, mayE, fixB, roundB, nd0, begN, begL, or_zero, and_zero, leftL, loopN]
theorem compile_dots : compileF 3 3 (bl textD) = some (0, 0) := by
  unfold compileF
  rw [parse_dots]
  simp only [check_dots]
  rfl
theorem build_dots (a b : ByteArray) : buildF 4 [⟨bl [114], 0, nd0 5 [⟨1, 0, a, []⟩, nd0 8 [⟨1, 0, b, []⟩]], false, 0⟩] = [⟨5, ByteArray.empty, [1, 3]⟩, ⟨1, a, []⟩, ⟨1, b, []⟩, ⟨8, ByteArray.empty, [2]⟩] := by rfl
end Go.Proofs.YtbojcemamhiodabDoor

import Derived.Test.YtbojcemamhiodaaGreatDoorFam6
namespace Go.Proofs.YtbojcemamhiodaaGreatDoor

def textG1 (u w : List UInt8) : List UInt8 := 114 :: 32 :: 60 :: 45 :: 32 :: 123 :: 39 :: (u ++ 39 :: 42 :: 125 :: 32 :: 39 :: (w ++ 39 :: []))
def bodyG1 (u w : List UInt8) : Nd := nd0 5 [⟨4, 0, ByteArray.empty, [⟨9, 8 + u.length, ByteArray.empty, [⟨0, 0, bl u, []⟩]⟩]⟩, ⟨0, 0, bl w, []⟩]
theorem eval_greedy1 (s : ByteArray) (m : Nat) (hs : s.size = m + 2) (hs4 : s.size ≤ 400) (T0 T1 T2 T3 T4 T5 T6 T7 : Tk) (h0 : nextT s 0 = T0) (h1 : nextT s T0.to = T1) (h2 : nextT s T1.to = T2) (h3 : nextT s T2.to = T3) (h4 : nextT s T3.to = T4) (h5 : nextT s T4.to = T5) (h6 : nextT s T5.to = T6) (h7 : nextT s T6.to = T7)
    (k0 : T0.k = 2) (k1 : T1.k = 3) (k2 : T2.k = 15) (k3 : T3.k = 4) (k4 : T4.k = 9) (k5 : T5.k = 16) (k6 : T6.k = 4) (k7 : T7.k = 1) :
    parseF s = ⟨0, [⟨T0.of s, T0.from_, nd0 5 [⟨4, 0, ByteArray.empty, [⟨9, T4.from_, ByteArray.empty, [⟨0, 0, T3.bytes s, []⟩]⟩]⟩, ⟨0, 0, T6.bytes s, []⟩], false, 0⟩], 0⟩ := by
  have hs1 : s.size = (m + 1) + 1 := by omega
  have i3 : ∀ (E : Tk → Int → Res) (d : Int), itemF s E (s.size + 1) T3 d = ⟨0, ⟨9, T4.from_, ByteArray.empty, [⟨0, 0, T3.bytes s, []⟩]⟩, T5, d⟩ := fun E d => by
    rw [item_single (by omega) (by omega), single_leaf (by omega) (by omega), h4, signed_one (by simp [isSign, k4]) (by rw [h5]; exact sign_no (by omega)), leaf_word k3, h5, k4]
    rfl
  have hin : exprN s 12 T3 1 = ⟨0, ⟨9, T4.from_, ByteArray.empty, [⟨0, 0, T3.bytes s, []⟩]⟩, T5, 1⟩ := expr_one (row_one hs1 (atIt_word k3) (i3 _ _) (atIt_no (by omega)) (by simp)) (by omega) (by simp)
  have hex : exprN s 13 T2 0 = ⟨0, nd0 5 [⟨4, 0, ByteArray.empty, [⟨9, T4.from_, ByteArray.empty, [⟨0, 0, T3.bytes s, []⟩]⟩]⟩, ⟨0, 0, T6.bytes s, []⟩], T7, 0⟩ :=
    expr_one (row_two hs (atIt_brace k2) (item_part k2 (by omega) h3 (by omega) (by omega) hin k5 h6 (sign_no (by omega))) (atIt_word k6) (item_wd k6 h7 (sign_no (by omega))) (atIt_no (by omega)) (by simp) (by simp)) (by omega) (by simp [nd0])
  rw [parse_text hs4, h0, hs, parse_step k0 (rule_ok k0 h1 k1 h2 hex), parse_end k7]
  rfl
theorem parse_greedy1 (u w : List UInt8) (hu : u.all isPlain = true) (hw : w.all isPlain = true) (h5 : u.length + w.length ≤ 300) : parseF (bl (textG1 u w)) = ⟨0, [⟨bl [114], 0, bodyG1 u w, false, 0⟩], 0⟩ := by
  have hlen : (textG1 u w).length = 13 + u.length + w.length := by simp [textG1]; try omega
  have t0 : nextT (bl (textG1 u w)) (0) = ⟨2, 0, 1⟩ := by
    have h := next_at (L := (textG1 u w)) (A := []) (B := 114 :: 32 :: 60 :: 45 :: 32 :: 123 :: 39 :: (u ++ 39 :: 42 :: 125 :: 32 :: 39 :: (w ++ 39 :: []))) (p := 0) (by simp [textG1]) (nextT_letter 114 32 _ (by decide) (by decide) rfl) (by simp; try omega)
    rw [h]
    congr 1 <;> (simp; try omega)
  have t1 : nextT (bl (textG1 u w)) (1) = ⟨3, 2, 4⟩ := by
    have h := next_at (L := (textG1 u w)) (A := [114]) (B := 32 :: 60 :: 45 :: 32 :: 123 :: 39 :: (u ++ 39 :: 42 :: 125 :: 32 :: 39 :: (w ++ 39 :: []))) (p := 1) (by simp [textG1]) (blank_any _ (nextT_arrow _)) (by simp; try omega)
    rw [h]
    congr 1 <;> (simp; try omega)
  have t2 : nextT (bl (textG1 u w)) (4) = ⟨15, 5, 6⟩ := by
    have h := next_at (L := (textG1 u w)) (A := [114, 32, 60, 45]) (B := 32 :: 123 :: 39 :: (u ++ 39 :: 42 :: 125 :: 32 :: 39 :: (w ++ 39 :: []))) (p := 4) (by simp [textG1]) (blank_any _ (nextT_sign 123 _ 15 (by decide) (by decide) (by decide) (by decide) rfl (by decide))) (by simp; try omega)
    rw [h]
    congr 1 <;> (simp; try omega)
  have t3 : nextT (bl (textG1 u w)) (6) = ⟨4, 6, 6 + (u.length + 2)⟩ := by
    have h := next_at (L := (textG1 u w)) (A := [114, 32, 60, 45, 32, 123]) (B := 39 :: (u ++ 39 :: 42 :: 125 :: 32 :: 39 :: (w ++ 39 :: []))) (p := 6) (by simp [textG1]) (nextT_word u _ hu) (by simp; try omega)
    rw [h]
    congr 1 <;> (simp; try omega)
  have t4 : nextT (bl (textG1 u w)) (6 + (u.length + 2)) = ⟨9, 8 + u.length, 9 + u.length⟩ := by
    have h := next_at (L := (textG1 u w)) (A := [114, 32, 60, 45, 32, 123, 39] ++ (u ++ ([39]))) (B := 42 :: 125 :: 32 :: 39 :: (w ++ 39 :: [])) (p := 6 + (u.length + 2)) (by simp [textG1]) (nextT_sign 42 _ 9 (by decide) (by decide) (by decide) (by decide) rfl (by decide)) (by simp; try omega)
    rw [h]
    congr 1 <;> (simp; try omega)
  have t5 : nextT (bl (textG1 u w)) (9 + u.length) = ⟨16, 9 + u.length, 10 + u.length⟩ := by
    have h := next_at (L := (textG1 u w)) (A := [114, 32, 60, 45, 32, 123, 39] ++ (u ++ ([39, 42]))) (B := 125 :: 32 :: 39 :: (w ++ 39 :: [])) (p := 9 + u.length) (by simp [textG1]) (nextT_sign 125 _ 16 (by decide) (by decide) (by decide) (by decide) rfl (by decide)) (by simp; try omega)
    rw [h]
    congr 1 <;> (simp; try omega)
  have t6 : nextT (bl (textG1 u w)) (10 + u.length) = ⟨4, 11 + u.length, 11 + u.length + (w.length + 2)⟩ := by
    have h := next_at (L := (textG1 u w)) (A := [114, 32, 60, 45, 32, 123, 39] ++ (u ++ ([39, 42, 125]))) (B := 32 :: 39 :: (w ++ 39 :: [])) (p := 10 + u.length) (by simp [textG1]) (blank_any _ (nextT_word w _ hw)) (by simp; try omega)
    rw [h]
    congr 1 <;> (simp; try omega)
  have t7 : nextT (bl (textG1 u w)) (11 + u.length + (w.length + 2)) = ⟨1, 13 + u.length + w.length, 13 + u.length + w.length⟩ := by
    have h := next_at (L := (textG1 u w)) (A := (textG1 u w)) (B := []) (p := 11 + u.length + (w.length + 2)) (by simp) nextT_end (by rw [hlen]; omega)
    rw [h, hlen]
    congr 1 <;> omega
  rw [eval_greedy1 (bl (textG1 u w)) (13 + u.length + w.length - 2) (by rw [bl_size, hlen]; omega) (by rw [bl_size, hlen]; omega) _ _ _ _ _ _ _ _ t0 t1 t2 t3 t4 t5 t6 t7 rfl rfl rfl rfl rfl rfl rfl rfl]
  have b0 : (⟨2, 0, 1⟩ : Tk).of (bl (textG1 u w)) = bl [114] := of_bl [] (textG1 u w) 1 2
  have b3 : (⟨4, 6, 6 + (u.length + 2)⟩ : Tk).bytes (bl (textG1 u w)) = bl u := word_at (A := [114, 32, 60, 45, 32, 123]) (rest := 42 :: 125 :: 32 :: 39 :: (w ++ 39 :: [])) hu rfl rfl
  have b6 : (⟨4, 11 + u.length, 11 + u.length + (w.length + 2)⟩ : Tk).bytes (bl (textG1 u w)) = bl w := word_at (A := [114, 32, 60, 45, 32, 123, 39] ++ (u ++ [39, 42, 125, 32])) (rest := []) hw (by simp [textG1]) (by simp; omega)
  rw [b0, b3, b6]
  rfl
theorem check_greedy1 (bu bw : ByteArray) (a : Int) (hu : bu.toList.isEmpty = false) : checkF 4 3 [⟨bl [114], 0, nd0 5 [⟨4, 0, ByteArray.empty, [⟨9, a, ByteArray.empty, [⟨0, 0, bu, []⟩]⟩]⟩, ⟨0, 0, bw, []⟩], false, 0⟩] = some (0, 0) := by
  cases h1 : bw.toList.isEmpty <;>
    simp [checkF, check2, check3, twiceL, findF, findFrom, firstR, unkN, firstL, fixE, roundE, mayE, setE, fixB, roundB, nd0, begN, begL, or_zero, and_zero, leftL, loopN, h1, hu]
theorem compile_greedy1 (u w : List UInt8) (hu : u.all isPlain = true) (hw : w.all isPlain = true) (h5 : u.length + w.length ≤ 300) (hn : (bl u).toList.isEmpty = false) : compileF 4 3 (bl (textG1 u w)) = some (0, 0) := by
  unfold compileF
  rw [parse_greedy1 u w hu hw h5]
  simp only [bodyG1, check_greedy1 _ _ _ hn]
  rfl
theorem build_greedy1 (u w : List UInt8) : buildF 5 [⟨bl [114], 0, bodyG1 u w, false, 0⟩] = [⟨5, ByteArray.empty, [3, 4]⟩, ⟨0, bl u, []⟩, ⟨9, ByteArray.empty, [1]⟩, ⟨4, ByteArray.empty, [2]⟩, ⟨0, bl w, []⟩] := by rfl

def textG2 (w : List UInt8) (c : UInt8) : List UInt8 := 114 :: 32 :: 60 :: 45 :: 32 :: 110 :: 32 :: 39 :: (w ++ 39 :: 32 :: 110 :: 32 :: 60 :: 45 :: 32 :: 123 :: 120 :: 58 :: 32 :: 91 :: c :: 93 :: 43 :: 125 :: [])
def bodyG2 (w : List UInt8) : Nd := nd0 5 [⟨2, 5, bl [110], []⟩, ⟨0, 0, bl w, []⟩]
def bodyG2n (w : List UInt8) (c : UInt8) : Nd := ⟨4, 0, bl [120], [⟨10, 22 + w.length, ByteArray.empty, [⟨1, 0, bl [c], []⟩]⟩]⟩
theorem item_named {s : ByteArray} {E : Tk → Int → Res} {t t1 t2 t3 t4 t5 : Tk} {d : Int} {n : Nd} {k : Nat} (h : t.k = 15) (hd : d < 12) (h1 : nextT s t.to = t1) (hk : t1.k = 2) (h2 : nextT s t1.to = t2) (hk2 : t2.k = 17) (h3 : nextT s t2.to = t3) (hE : E t3 (d + 1) = ⟨0, n, t4, d + 1⟩) (h4 : t4.k = 16) (h5 : nextT s t4.to = t5) (hs : isSign t5 = false) :
    itemF s E (k + 1) t d = ⟨0, ⟨4, 0, t1.of s, [n]⟩, t5, d⟩ := by
  have hb : nmBefore s t1 17 = true := by unfold nmBefore; simp [hk, h2, hk2]
  rw [item_single (by omega) (by omega), single_part h hd (by rw [h1]; omega) (by rw [h1, namedT_yes hb, h2, h3]; exact hE) h4, h5, h1, namedN_yes hb, signed_no hs]
/-- a set of one letter -/
theorem nextT_set1 (c : UInt8) (l : List UInt8) (hc : isNameC c.toNat = true) : nextT (bl (91 :: c :: 93 :: l)) 0 = ⟨5, 0, 3⟩ := by
  refine nextT_head 91 _ 5 3 rfl ?_
  unfold readT
  rw [bAt_cons, if_neg (by decide), if_neg (by decide), if_neg (by decide), if_pos (by rfl)]
  have hcr : (97 ≤ c.toNat ∧ c.toNat ≤ 122) ∨ (48 ≤ c.toNat ∧ c.toNat ≤ 57) := by simp [isNameC] at hc; omega
  have a1 : bAt (bl (91 :: c :: 93 :: l)) 1 = c.toNat := by have := bAt_bl (91 :: c :: 93 :: l) 1; simpa using this
  have a2 : bAt (bl (91 :: c :: 93 :: l)) 2 = 93 := by have := bAt_bl (91 :: c :: 93 :: l) 2; simpa using this
  have hsc : setC (bl (91 :: c :: 93 :: l)) 1 = ((c.toNat : Int), 2) := by
    unfold setC plainC isSM
    rw [a1, if_neg (by omega), if_neg (by simp; omega)]
    rfl
  have hm : member (bl (91 :: c :: 93 :: l)) 1 = ((c.toNat : Int), (c.toNat : Int), 2) := by
    rw [member_1 (.inr (by rw [hsc]; show bAt _ 2 ≠ 45; rw [a2]; decide)), hsc]
  unfold readSt
  have hf : setFrom (bl (91 :: c :: 93 :: l)) 0 = 1 := by
    unfold setFrom
    rw [if_neg (by show ¬ bAt _ 1 = 94; rw [a1]; omega)]
    rfl
  have he : setEnd (bl (91 :: c :: 93 :: l)) 1 ((bl (91 :: c :: 93 :: l)).size + 2 - (0 : Int).toNat) 1 = some 2 := by
    rw [bl_size]
    show setEnd _ 1 (l.length + 1 + 1 + 1 + 1 + 1) 1 = some 2
    rw [setEnd, if_neg (by omega), hm, if_neg (by show ¬ (c.toNat : Int) < 0; omega)]
    show setEnd _ 1 (l.length + 1 + 1 + 1 + 1) 2 = some 2
    rw [setEnd, if_pos ⟨by decide, a2⟩]
  rw [hf, he]
  rfl
theorem filter_one (c : UInt8) : ((List.range 256).filter fun k => isIn [((c.toNat : Int), (c.toNat : Int))] k == true).map UInt8.ofNat = [c] := by
  have h : ∀ n : Nat, n < 256 → (((List.range 256).filter fun k => isIn [((n : Int), (n : Int))] k == true).map UInt8.ofNat) = [UInt8.ofNat n] := by decide +kernel
  have := h c.toNat c.toNat_lt
  rw [UInt8.ofNat_toNat] at this
  exact this
theorem set1_bytes {L A rest : List UInt8} {c : UInt8} {p e : Int} (hc : isNameC c.toNat = true) (h : L = A ++ 91 :: c :: 93 :: rest) (hp : p = A.length) (he : e = A.length + 3) : (⟨5, p, e⟩ : Tk).bytes (bl L) = bl [c] := by
  rw [bytes_5 rfl, of_at 3 h hp (by rw [he]; rfl)]
  show (⟨(setBs (bl [91, c, 93])).toArray⟩ : ByteArray) = bl [c]
  have hcr : (97 ≤ c.toNat ∧ c.toNat ≤ 122) ∨ (48 ≤ c.toNat ∧ c.toNat ≤ 57) := by simp [isNameC] at hc; omega
  have a1 : bAt (bl [91, c, 93]) 1 = c.toNat := by have := bAt_bl [91, c, 93] 1; simpa using this
  have a2 : bAt (bl [91, c, 93]) 2 = 93 := by have := bAt_bl [91, c, 93] 2; simpa using this
  have hsc : setC (bl [91, c, 93]) 1 = ((c.toNat : Int), 2) := by
    unfold setC plainC isSM
    rw [a1, if_neg (by omega), if_neg (by simp; omega)]
    rfl
  have hsc2 : setC (bl [91, c, 93]) 2 = (-1, 2) := by
    unfold setC plainC isSM
    rw [a2, if_neg (by omega), if_pos (by simp)]
  have hm : member (bl [91, c, 93]) 1 = ((c.toNat : Int), (c.toNat : Int), 2) := by
    rw [member_1 (.inr (by rw [hsc]; show bAt _ 2 ≠ 45; rw [a2]; decide)), hsc]
  have hm2 : member (bl [91, c, 93]) 2 = (-1, -1, 2) := by
    rw [member_1 (.inl (by rw [hsc2]; decide)), hsc2]
  unfold setBs
  rw [if_neg (by rw [a1]; omega)]
  have hmb : membs (bl [91, c, 93]) ((bl [91, c, 93]).size + 1) 1 = [((c.toNat : Int), (c.toNat : Int))] := by
    rw [bl_size]
    show membs _ (3 + 1) 1 = _
    rw [membs, hm, if_neg (by show ¬ (c.toNat : Int) < 0; omega)]
    show ((c.toNat : Int), (c.toNat : Int)) :: membs _ 3 2 = _
    rw [membs, hm2, if_pos (by decide)]
  rw [hmb, bytesOf, filter_one]
  rfl
theorem eval_greedy2 (s : ByteArray) (m : Nat) (hs : s.size = m + 2) (hs4 : s.size ≤ 400) (T0 T1 T2 T3 T4 T5 T6 T7 T8 T9 T10 T11 T12 : Tk) (h0 : nextT s 0 = T0) (h1 : nextT s T0.to = T1) (h2 : nextT s T1.to = T2) (h3 : nextT s T2.to = T3) (h4 : nextT s T3.to = T4) (h5 : nextT s T4.to = T5) (h6 : nextT s T5.to = T6) (h7 : nextT s T6.to = T7) (h8 : nextT s T7.to = T8) (h9 : nextT s T8.to = T9) (h10 : nextT s T9.to = T10) (h11 : nextT s T10.to = T11) (h12 : nextT s T11.to = T12)
    (k0 : T0.k = 2) (k1 : T1.k = 3) (k2 : T2.k = 2) (k3 : T3.k = 4) (k4 : T4.k = 2) (k5 : T5.k = 3) (k6 : T6.k = 15) (k7 : T7.k = 2) (k8 : T8.k = 17) (k9 : T9.k = 5) (k10 : T10.k = 10) (k11 : T11.k = 16) (k12 : T12.k = 1) :
    parseF s = ⟨0, [⟨T0.of s, T0.from_, nd0 5 [⟨2, T2.from_, T2.of s, []⟩, ⟨0, 0, T3.bytes s, []⟩], false, 0⟩, ⟨T4.of s, T4.from_, ⟨4, 0, T7.of s, [⟨10, T10.from_, ByteArray.empty, [⟨1, 0, T9.bytes s, []⟩]⟩]⟩, false, 0⟩], 0⟩ := by
  have hs1 : s.size = (m + 1) + 1 := by omega
  have i2 : itemF s (exprN s 12) (s.size + 1) T2 0 = ⟨0, ⟨2, T2.from_, T2.of s, []⟩, T3, 0⟩ := by rw [item_leaf (.inl k2) (by rw [h3]; exact sign_no (by omega)), leaf_name k2, h3]
  have hex : exprN s 13 T2 0 = ⟨0, nd0 5 [⟨2, T2.from_, T2.of s, []⟩, ⟨0, 0, T3.bytes s, []⟩], T4, 0⟩ :=
    expr_one (row_two hs (atIt_name k2 (by rw [h3]; omega)) i2 (atIt_word k3) (item_wd k3 h4 (sign_no (by omega))) (atIt_rule k4 (by rw [h5]; exact k5)) (by simp) (by simp)) (by omega) (by simp [nd0])
  have i9 : ∀ (E : Tk → Int → Res) (d : Int), itemF s E (s.size + 1) T9 d = ⟨0, ⟨10, T10.from_, ByteArray.empty, [⟨1, 0, T9.bytes s, []⟩]⟩, T11, d⟩ := fun E d => by
    rw [item_single (by omega) (by omega), single_leaf (by omega) (by omega), h10, signed_one (by simp [isSign, k10]) (by rw [h11]; exact sign_no (by omega)), leaf_set (.inl k9), h11, k10]
    rfl
  have hin : exprN s 12 T9 1 = ⟨0, ⟨10, T10.from_, ByteArray.empty, [⟨1, 0, T9.bytes s, []⟩]⟩, T11, 1⟩ := expr_one (row_one hs1 (atIt_set k9) (i9 _ _) (atIt_no (by omega)) (by simp)) (by omega) (by simp)
  have hex2 : exprN s 13 T6 0 = ⟨0, ⟨4, 0, T7.of s, [⟨10, T10.from_, ByteArray.empty, [⟨1, 0, T9.bytes s, []⟩]⟩]⟩, T12, 0⟩ :=
    expr_one (row_one hs1 (atIt_brace k6) (item_named k6 (by omega) h7 k7 h8 k8 h9 hin k11 h12 (sign_no (by omega))) (atIt_no (by omega)) (by simp)) (by omega) (by simp)
  rw [parse_text hs4, h0, hs, parse_step k0 (rule_ok k0 h1 k1 h2 hex), parse_step k4 (rule_ok k4 h5 k5 h6 hex2), parse_end k12]
  rfl
theorem parse_greedy2 (w : List UInt8) (c : UInt8) (hw : w.all isPlain = true) (hc : isNameC c.toNat = true) (h5 : w.length ≤ 300) : parseF (bl (textG2 w c)) = ⟨0, [⟨bl [114], 0, bodyG2 w, false, 0⟩, ⟨bl [110], 10 + w.length, bodyG2n w c, false, 0⟩], 0⟩ := by
  have hlen : (textG2 w c).length = 24 + w.length := by simp [textG2]; try omega
  have t0 : nextT (bl (textG2 w c)) (0) = ⟨2, 0, 1⟩ := by
    have h := next_at (L := (textG2 w c)) (A := []) (B := 114 :: 32 :: 60 :: 45 :: 32 :: 110 :: 32 :: 39 :: (w ++ 39 :: 32 :: 110 :: 32 :: 60 :: 45 :: 32 :: 123 :: 120 :: 58 :: 32 :: 91 :: c :: 93 :: 43 :: 125 :: [])) (p := 0) (by simp [textG2]) (nextT_letter 114 32 _ (by decide) (by decide) rfl) (by simp; try omega)
    rw [h]
    congr 1 <;> (simp; try omega)
  have t1 : nextT (bl (textG2 w c)) (1) = ⟨3, 2, 4⟩ := by
    have h := next_at (L := (textG2 w c)) (A := [114]) (B := 32 :: 60 :: 45 :: 32 :: 110 :: 32 :: 39 :: (w ++ 39 :: 32 :: 110 :: 32 :: 60 :: 45 :: 32 :: 123 :: 120 :: 58 :: 32 :: 91 :: c :: 93 :: 43 :: 125 :: [])) (p := 1) (by simp [textG2]) (blank_any _ (nextT_arrow _)) (by simp; try omega)
    rw [h]
    congr 1 <;> (simp; try omega)
  have t2 : nextT (bl (textG2 w c)) (4) = ⟨2, 5, 6⟩ := by
    have h := next_at (L := (textG2 w c)) (A := [114, 32, 60, 45]) (B := 32 :: 110 :: 32 :: 39 :: (w ++ 39 :: 32 :: 110 :: 32 :: 60 :: 45 :: 32 :: 123 :: 120 :: 58 :: 32 :: 91 :: c :: 93 :: 43 :: 125 :: [])) (p := 4) (by simp [textG2]) (blank_any _ (nextT_letter 110 32 _ (by decide) (by decide) rfl)) (by simp; try omega)
    rw [h]
    congr 1 <;> (simp; try omega)
  have t3 : nextT (bl (textG2 w c)) (6) = ⟨4, 7, 7 + (w.length + 2)⟩ := by
    have h := next_at (L := (textG2 w c)) (A := [114, 32, 60, 45, 32, 110]) (B := 32 :: 39 :: (w ++ 39 :: 32 :: 110 :: 32 :: 60 :: 45 :: 32 :: 123 :: 120 :: 58 :: 32 :: 91 :: c :: 93 :: 43 :: 125 :: [])) (p := 6) (by simp [textG2]) (blank_any _ (nextT_word w _ hw)) (by simp; try omega)
    rw [h]
    congr 1 <;> (simp; try omega)
  have t4 : nextT (bl (textG2 w c)) (7 + (w.length + 2)) = ⟨2, 10 + w.length, 11 + w.length⟩ := by
    have h := next_at (L := (textG2 w c)) (A := [114, 32, 60, 45, 32, 110, 32, 39] ++ (w ++ ([39]))) (B := 32 :: 110 :: 32 :: 60 :: 45 :: 32 :: 123 :: 120 :: 58 :: 32 :: 91 :: c :: 93 :: 43 :: 125 :: []) (p := 7 + (w.length + 2)) (by simp [textG2]) (blank_any _ (nextT_letter 110 32 _ (by decide) (by decide) rfl)) (by simp; try omega)
    rw [h]
    congr 1 <;> (simp; try omega)
  have t5 : nextT (bl (textG2 w c)) (11 + w.length) = ⟨3, 12 + w.length, 14 + w.length⟩ := by
    have h := next_at (L := (textG2 w c)) (A := [114, 32, 60, 45, 32, 110, 32, 39] ++ (w ++ ([39, 32, 110]))) (B := 32 :: 60 :: 45 :: 32 :: 123 :: 120 :: 58 :: 32 :: 91 :: c :: 93 :: 43 :: 125 :: []) (p := 11 + w.length) (by simp [textG2]) (blank_any _ (nextT_arrow _)) (by simp; try omega)
    rw [h]
    congr 1 <;> (simp; try omega)
  have t6 : nextT (bl (textG2 w c)) (14 + w.length) = ⟨15, 15 + w.length, 16 + w.length⟩ := by
    have h := next_at (L := (textG2 w c)) (A := [114, 32, 60, 45, 32, 110, 32, 39] ++ (w ++ ([39, 32, 110, 32, 60, 45]))) (B := 32 :: 123 :: 120 :: 58 :: 32 :: 91 :: c :: 93 :: 43 :: 125 :: []) (p := 14 + w.length) (by simp [textG2]) (blank_any _ (nextT_sign 123 _ 15 (by decide) (by decide) (by decide) (by decide) rfl (by decide))) (by simp; try omega)
    rw [h]
    congr 1 <;> (simp; try omega)
  have t7 : nextT (bl (textG2 w c)) (16 + w.length) = ⟨2, 16 + w.length, 17 + w.length⟩ := by
    have h := next_at (L := (textG2 w c)) (A := [114, 32, 60, 45, 32, 110, 32, 39] ++ (w ++ ([39, 32, 110, 32, 60, 45, 32, 123]))) (B := 120 :: 58 :: 32 :: 91 :: c :: 93 :: 43 :: 125 :: []) (p := 16 + w.length) (by simp [textG2]) (nextT_letter 120 58 _ (by decide) (by decide) rfl) (by simp; try omega)
    rw [h]
    congr 1 <;> (simp; try omega)
  have t8 : nextT (bl (textG2 w c)) (17 + w.length) = ⟨17, 17 + w.length, 18 + w.length⟩ := by
    have h := next_at (L := (textG2 w c)) (A := [114, 32, 60, 45, 32, 110, 32, 39] ++ (w ++ ([39, 32, 110, 32, 60, 45, 32, 123, 120]))) (B := 58 :: 32 :: 91 :: c :: 93 :: 43 :: 125 :: []) (p := 17 + w.length) (by simp [textG2]) (nextT_sign 58 _ 17 (by decide) (by decide) (by decide) (by decide) rfl (by decide)) (by simp; try omega)
    rw [h]
    congr 1 <;> (simp; try omega)
  have t9 : nextT (bl (textG2 w c)) (18 + w.length) = ⟨5, 19 + w.length, 22 + w.length⟩ := by
    have h := next_at (L := (textG2 w c)) (A := [114, 32, 60, 45, 32, 110, 32, 39] ++ (w ++ ([39, 32, 110, 32, 60, 45, 32, 123, 120, 58]))) (B := 32 :: 91 :: c :: 93 :: 43 :: 125 :: []) (p := 18 + w.length) (by simp [textG2]) (blank_any _ (nextT_set1 c _ hc)) (by simp; try omega)
    rw [h]
    congr 1 <;> (simp; try omega)
  have t10 : nextT (bl (textG2 w c)) (22 + w.length) = ⟨10, 22 + w.length, 23 + w.length⟩ := by
    have h := next_at (L := (textG2 w c)) (A := [114, 32, 60, 45, 32, 110, 32, 39] ++ (w ++ ([39, 32, 110, 32, 60, 45, 32, 123, 120, 58, 32, 91, c, 93]))) (B := 43 :: 125 :: []) (p := 22 + w.length) (by simp [textG2]) (nextT_sign 43 _ 10 (by decide) (by decide) (by decide) (by decide) rfl (by decide)) (by simp; try omega)
    rw [h]
    congr 1 <;> (simp; try omega)
  have t11 : nextT (bl (textG2 w c)) (23 + w.length) = ⟨16, 23 + w.length, 24 + w.length⟩ := by
    have h := next_at (L := (textG2 w c)) (A := [114, 32, 60, 45, 32, 110, 32, 39] ++ (w ++ ([39, 32, 110, 32, 60, 45, 32, 123, 120, 58, 32, 91, c, 93, 43]))) (B := 125 :: []) (p := 23 + w.length) (by simp [textG2]) (nextT_sign 125 _ 16 (by decide) (by decide) (by decide) (by decide) rfl (by decide)) (by simp; try omega)
    rw [h]
    congr 1 <;> (simp; try omega)
  have t12 : nextT (bl (textG2 w c)) (24 + w.length) = ⟨1, 24 + w.length, 24 + w.length⟩ := by
    have h := next_at (L := (textG2 w c)) (A := (textG2 w c)) (B := []) (p := 24 + w.length) (by simp) nextT_end (by rw [hlen]; omega)
    rw [h, hlen]
    congr 1 <;> omega
  rw [eval_greedy2 (bl (textG2 w c)) (24 + w.length - 2) (by rw [bl_size, hlen]; omega) (by rw [bl_size, hlen]; omega) _ _ _ _ _ _ _ _ _ _ _ _ _ t0 t1 t2 t3 t4 t5 t6 t7 t8 t9 t10 t11 t12 rfl rfl rfl rfl rfl rfl rfl rfl rfl rfl rfl rfl rfl]
  have b0 : (⟨2, 0, 1⟩ : Tk).of (bl (textG2 w c)) = bl [114] := of_bl [] (textG2 w c) 1 2
  have b2 : (⟨2, 5, 6⟩ : Tk).of (bl (textG2 w c)) = bl [110] := of_bl [114, 32, 60, 45, 32] _ 1 2
  have b3 : (⟨4, 7, 7 + (w.length + 2)⟩ : Tk).bytes (bl (textG2 w c)) = bl w := word_at (A := [114, 32, 60, 45, 32, 110, 32]) (rest := 32 :: 110 :: 32 :: 60 :: 45 :: 32 :: 123 :: 120 :: 58 :: 32 :: 91 :: c :: 93 :: 43 :: 125 :: []) hw rfl rfl
  have b4 : (⟨2, 10 + w.length, 11 + w.length⟩ : Tk).of (bl (textG2 w c)) = bl [110] := of_at (A := [114, 32, 60, 45, 32, 110, 32, 39] ++ (w ++ [39, 32])) (X := 110 :: 32 :: 60 :: 45 :: 32 :: 123 :: 120 :: 58 :: 32 :: 91 :: c :: 93 :: 43 :: 125 :: []) 1 (by simp [textG2]) (by simp; omega) (by simp; omega)
  have b7 : (⟨2, 16 + w.length, 17 + w.length⟩ : Tk).of (bl (textG2 w c)) = bl [120] := of_at (A := [114, 32, 60, 45, 32, 110, 32, 39] ++ (w ++ [39, 32, 110, 32, 60, 45, 32, 123])) (X := 120 :: 58 :: 32 :: 91 :: c :: 93 :: 43 :: 125 :: []) 1 (by simp [textG2]) (by simp; omega) (by simp; omega)
  have b9 : (⟨5, 19 + w.length, 22 + w.length⟩ : Tk).bytes (bl (textG2 w c)) = bl [c] := set1_bytes (A := [114, 32, 60, 45, 32, 110, 32, 39] ++ (w ++ [39, 32, 110, 32, 60, 45, 32, 123, 120, 58, 32])) (rest := 43 :: 125 :: []) hc (by simp [textG2]) (by simp; omega) (by simp; omega)
  rw [b0, b2, b3, b4, b7, b9]
  rfl
theorem ne_rn : ¬ (bl [114]).toList = (bl [110]).toList := by decide +kernel
theorem or_1 : orI (bitI 1) 0 = 2 := by decide +kernel
theorem or_2 : orI 0 2 = 2 := by decide +kernel
theorem and_20 : bits BinOp.and IntKind.i64 2 (bitI 0) = 0 := by decide +kernel
theorem and_01 : bits BinOp.and IntKind.i64 0 (bitI 1) = 0 := by decide +kernel
theorem check_greedy2 (bw bc : ByteArray) (a b d : Int) : checkF 4 4 [⟨bl [114], 0, nd0 5 [⟨2, a, bl [110], []⟩, ⟨0, 0, bw, []⟩], false, 0⟩, ⟨bl [110], b, ⟨4, 0, bl [120], [⟨10, d, ByteArray.empty, [⟨1, 0, bc, []⟩]⟩]⟩, false, 0⟩] = some (0, 0) := by
  cases h1 : bw.toList.isEmpty <;>
    simp [checkF, check2, check3, twiceL, findF, findFrom, firstR, unkN, firstL, fixE, roundE, mayE, setB, emptyAt, beginsAt, fixB, roundB, nd0, begN, begL, or_zero, or_1, or_2, and_20, and_01, ne_rn, leftL, loopN, h1]
theorem compile_greedy2 (w : List UInt8) (c : UInt8) (hw : w.all isPlain = true) (hc : isNameC c.toNat = true) (h5 : w.length ≤ 300) : compileF 4 4 (bl (textG2 w c)) = some (0, 0) := by
  unfold compileF
  rw [parse_greedy2 w c hw hc h5]
  simp only [bodyG2, bodyG2n, check_greedy2]
  rfl
theorem build_greedy2 (w : List UInt8) (c : UInt8) (b : Int) : buildF 5 [⟨bl [114], 0, bodyG2 w, false, 0⟩, ⟨bl [110], b, bodyG2n w c, false, 0⟩] = [⟨5, ByteArray.empty, [2, 3]⟩, ⟨4, bl [120], [5]⟩, ⟨2, bl [110], [1]⟩, ⟨0, bl w, []⟩, ⟨1, bl [c], []⟩, ⟨10, ByteArray.empty, [4]⟩] := by
  simp [buildF, buildL, termN, termsL, baseK, bodyG2, bodyG2n, nd0, findF, findFrom, Tm.zero, ne_rn, List.replicate]
end Go.Proofs.YtbojcemamhiodaaGreatDoor

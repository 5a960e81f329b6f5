import Derived.Test.YtbojcemamhiodaaGreatDoorFams
namespace Go.Proofs.YtbojcemamhiodaaGreatDoor

/-- a name of one letter that ends the text -/
theorem nextT_last (c : UInt8) (h : (97 : Int) ≤ c.toNat) (h' : (c.toNat : Int) ≤ 122) : nextT (bl [c]) 0 = ⟨2, 0, 1⟩ := by
  refine nextT_head c _ 2 1 ?_ ?_
  · simp [isBlank]; omega
  · unfold readT
    rw [bAt_cons, if_pos ⟨h, h'⟩]
    have hn : nameEnd (bl [c]) ((bl [c]).size + 1 - (0 : Int).toNat) 0 = 1 := by
      rw [bl_size]
      show nameEnd _ (1 + 1) 0 = 1
      rw [nameEnd, bAt_cons, if_pos (by simp [isNameC]; omega)]
      have h2 := bAt_shift [c] [] 0 (by omega)
      rw [show ((([c] : List UInt8).length : Int) + 0) = 0 + 1 from rfl] at h2
      rw [List.append_nil] at h2
      rw [nameEnd, h2, if_neg (by rw [show bAt (bl []) 0 = -1 from bAt_nil 0]; decide)]
      rfl
    unfold readNm
    rw [hn]
    rfl
theorem of_at {L A X : List UInt8} {p e k : Int} (n : Nat) (h : L = A ++ X) (hp : p = A.length) (he : e = A.length + n) : (⟨k, p, e⟩ : Tk).of (bl L) = bl (X.take n) := by
  subst h
  subst hp
  subst he
  exact of_bl A X n k

/-- r <- 'u' {} / . r -/
def textF (u : List UInt8) : List UInt8 := 114 :: 32 :: 60 :: 45 :: 32 :: 39 :: (u ++ 39 :: 32 :: 123 :: 125 :: 32 :: 47 :: 32 :: 46 :: 32 :: 114 :: [])
def allB : ByteArray := ⟨(bytesOf (fun _ => false) false).toArray⟩
def bodyF (u : List UInt8) : Nd := nd0 6 [nd0 5 [⟨0, 0, bl u, []⟩, nd0 3 []], nd0 5 [⟨1, 0, allB, []⟩, ⟨2, 15 + u.length, bl [114], []⟩]]

theorem eval_first (s : ByteArray) (m : Nat) (hs : s.size = m + 2) (hs4 : s.size ≤ 400) (T0 T1 T2 T3 T4 T5 T6 T7 T8 : Tk) (h0 : nextT s 0 = T0) (h1 : nextT s T0.to = T1) (h2 : nextT s T1.to = T2) (h3 : nextT s T2.to = T3) (h4 : nextT s T3.to = T4) (h5 : nextT s T4.to = T5) (h6 : nextT s T5.to = T6) (h7 : nextT s T6.to = T7) (h8 : nextT s T7.to = T8)
    (k0 : T0.k = 2) (k1 : T1.k = 3) (k2 : T2.k = 4) (k3 : T3.k = 15) (k4 : T4.k = 16) (k5 : T5.k = 6) (k6 : T6.k = 12) (k7 : T7.k = 2) (k8 : T8.k = 1) :
    parseF s = ⟨0, [⟨T0.of s, T0.from_, nd0 6 [nd0 5 [⟨0, 0, T2.bytes s, []⟩, nd0 3 []], nd0 5 [⟨1, 0, T6.bytes s, []⟩, ⟨2, T7.from_, T7.of s, []⟩]], false, 0⟩], 0⟩ := by
  have hs1 : s.size = (m + 1) + 1 := by omega
  have i2 : itemF s (exprN s 12) (s.size + 1) T2 0 = ⟨0, ⟨0, 0, T2.bytes s, []⟩, T3, 0⟩ := by rw [item_leaf (.inr (.inl k2)) (by rw [h3]; exact sign_no (by omega)), leaf_word k2, h3]
  have i3 : itemF s (exprN s 12) (s.size + 1) T3 0 = ⟨0, nd0 3 [], T5, 0⟩ := by
    rw [item_single (by omega) (by omega), single_place k3 (by omega) (by rw [h4]; exact k4), h4, h5, signed_no (sign_no (by omega))]
  have i6 : itemF s (exprN s 12) (s.size + 1) T6 0 = ⟨0, ⟨1, 0, T6.bytes s, []⟩, T7, 0⟩ := by rw [item_leaf (.inr (.inr (.inr k6))) (by rw [h7]; exact sign_no (by omega)), leaf_set (.inr k6), h7]
  have i7 : itemF s (exprN s 12) (s.size + 1) T7 0 = ⟨0, ⟨2, T7.from_, T7.of s, []⟩, T8, 0⟩ := by rw [item_leaf (.inl k7) (by rw [h8]; exact sign_no (by omega)), leaf_name k7, h8]
  have hex : exprN s 13 T2 0 = ⟨0, nd0 6 [nd0 5 [⟨0, 0, T2.bytes s, []⟩, nd0 3 []], nd0 5 [⟨1, 0, T6.bytes s, []⟩, ⟨2, T7.from_, T7.of s, []⟩]], T8, 0⟩ :=
    expr_two hs1 (row_two hs (atIt_word k2) i2 (atIt_brace k3) i3 (atIt_no (by omega)) (by simp) (by simp [nd0])) k5 (by rw [h6]; exact row_two hs (atIt_dot k6) i6 (atIt_name k7 (by rw [h8]; omega)) i7 (atIt_no (by omega)) (by simp) (by simp)) (by omega) (by simp [nd0]) (by simp [nd0])
  rw [parse_text hs4, h0, hs, parse_step k0 (rule_ok k0 h1 k1 h2 hex), parse_end k8]
  rfl

theorem parse_first (u : List UInt8) (hu : u.all isPlain = true) (h5 : u.length ≤ 300) : parseF (bl (textF u)) = ⟨0, [⟨bl [114], 0, bodyF u, false, 0⟩], 0⟩ := by
  have hlen : (textF u).length = 16 + u.length := by simp [textF]; omega
  have t0 : nextT (bl (textF u)) 0 = ⟨2, 0, 1⟩ := nextT_letter 114 32 _ (by decide) (by decide) rfl
  have t1 : nextT (bl (textF u)) 1 = ⟨3, 2, 4⟩ := next_at (A := [114]) (B := 32 :: 60 :: 45 :: 32 :: 39 :: (u ++ 39 :: 32 :: 123 :: 125 :: 32 :: 47 :: 32 :: 46 :: 32 :: 114 :: [])) rfl (blank_any _ (nextT_arrow _)) rfl
  have t2 : nextT (bl (textF u)) 4 = ⟨4, 5, 5 + (u.length + 2)⟩ := by
    have h := next_at (L := textF u) (A := [114, 32, 60, 45]) (B := 32 :: 39 :: (u ++ 39 :: 32 :: 123 :: 125 :: 32 :: 47 :: 32 :: 46 :: 32 :: 114 :: [])) (p := 4) rfl (blank_any _ (nextT_word u _ hu)) rfl
    rw [h]
    congr 1 <;> (simp; try omega)
  have t3 : nextT (bl (textF u)) (5 + (u.length + 2)) = ⟨15, 8 + u.length, 9 + u.length⟩ := by
    have h := next_at (L := textF u) (A := [114, 32, 60, 45, 32, 39] ++ (u ++ [39])) (B := 32 :: 123 :: 125 :: 32 :: 47 :: 32 :: 46 :: 32 :: 114 :: []) (p := 5 + (u.length + 2)) (by simp [textF]) (blank_any _ (nextT_sign 123 _ 15 (by decide) (by decide) (by decide) (by decide) rfl (by decide))) (by simp; omega)
    rw [h]
    congr 1 <;> (simp; omega)
  have t4 : nextT (bl (textF u)) (9 + u.length) = ⟨16, 9 + u.length, 10 + u.length⟩ := by
    have h := next_at (L := textF u) (A := [114, 32, 60, 45, 32, 39] ++ (u ++ [39, 32, 123])) (B := 125 :: 32 :: 47 :: 32 :: 46 :: 32 :: 114 :: []) (p := 9 + u.length) (by simp [textF]) (nextT_sign 125 _ 16 (by decide) (by decide) (by decide) (by decide) rfl (by decide)) (by simp; omega)
    rw [h]
    congr 1 <;> (simp; omega)
  have t5 : nextT (bl (textF u)) (10 + u.length) = ⟨6, 11 + u.length, 12 + u.length⟩ := by
    have h := next_at (L := textF u) (A := [114, 32, 60, 45, 32, 39] ++ (u ++ [39, 32, 123, 125])) (B := 32 :: 47 :: 32 :: 46 :: 32 :: 114 :: []) (p := 10 + u.length) (by simp [textF]) (blank_any _ (nextT_sign 47 _ 6 (by decide) (by decide) (by decide) (by decide) rfl (by decide))) (by simp; omega)
    rw [h]
    congr 1 <;> (simp; omega)
  have t6 : nextT (bl (textF u)) (12 + u.length) = ⟨12, 13 + u.length, 14 + u.length⟩ := by
    have h := next_at (L := textF u) (A := [114, 32, 60, 45, 32, 39] ++ (u ++ [39, 32, 123, 125, 32, 47])) (B := 32 :: 46 :: 32 :: 114 :: []) (p := 12 + u.length) (by simp [textF]) (blank_any _ (nextT_sign 46 _ 12 (by decide) (by decide) (by decide) (by decide) rfl (by decide))) (by simp; omega)
    rw [h]
    congr 1 <;> (simp; omega)
  have t7 : nextT (bl (textF u)) (14 + u.length) = ⟨2, 15 + u.length, 16 + u.length⟩ := by
    have h := next_at (L := textF u) (A := [114, 32, 60, 45, 32, 39] ++ (u ++ [39, 32, 123, 125, 32, 47, 32, 46])) (B := 32 :: 114 :: []) (p := 14 + u.length) (by simp [textF]) (blank_any _ (nextT_last 114 (by decide) (by decide))) (by simp; omega)
    rw [h]
    congr 1 <;> (simp; omega)
  have t8 : nextT (bl (textF u)) (16 + u.length) = ⟨1, 16 + u.length, 16 + u.length⟩ := by
    have h := next_at (L := textF u) (A := textF u) (B := []) (p := 16 + u.length) (by simp) nextT_end (by rw [hlen]; omega)
    rw [h, hlen]
    congr 1 <;> omega
  rw [eval_first (bl (textF u)) (14 + u.length) (by rw [bl_size, hlen]; omega) (by rw [bl_size, hlen]; omega) _ _ _ _ _ _ _ _ _ t0 t1 t2 t3 t4 t5 t6 t7 t8 rfl rfl rfl rfl rfl rfl rfl rfl rfl]
  have b0 : (⟨2, 0, 1⟩ : Tk).of (bl (textF u)) = bl [114] := of_bl [] (textF u) 1 2
  have b2 : (⟨4, 5, 5 + (u.length + 2)⟩ : Tk).bytes (bl (textF u)) = bl u := word_at (A := [114, 32, 60, 45, 32]) (rest := 32 :: 123 :: 125 :: 32 :: 47 :: 32 :: 46 :: 32 :: 114 :: []) hu rfl rfl
  have b6 : (⟨12, 13 + u.length, 14 + u.length⟩ : Tk).bytes (bl (textF u)) = allB := bytes_12 rfl
  have b7 : (⟨2, 15 + u.length, 16 + u.length⟩ : Tk).of (bl (textF u)) = bl [114] := of_at (A := [114, 32, 60, 45, 32, 39] ++ (u ++ [39, 32, 123, 125, 32, 47, 32, 46, 32])) (X := [114]) 1 (by simp [textF]) (by simp; omega) (by simp; omega)
  rw [b0, b2, b6, b7]
  rfl
set_option maxHeartbeats 1000000 in
theorem check_first (bu ba : ByteArray) (a : Int) : checkF 3 3 [⟨bl [114], 0, nd0 6 [nd0 5 [⟨0, 0, bu, []⟩, nd0 3 []], nd0 5 [⟨1, 0, ba, []⟩, ⟨2, a, bl [114], []⟩]], false, 0⟩] = some (0, 0) := by
  cases h1 : bu.toList.isEmpty <;>
    simp [checkF, check2, check3, twiceL, findF, findFrom, firstR, unkN, firstL, fixE, roundE, mayE, setE, fixB, roundB, nd0, begN, begL, or_zero, and_zero, leftL, loopN, h1]
theorem compile_first (u : List UInt8) (hu : u.all isPlain = true) (h5 : u.length ≤ 300) : compileF 3 3 (bl (textF u)) = some (0, 0) := by
  unfold compileF
  rw [parse_first u hu h5]
  simp only [bodyF, check_first]
  rfl
theorem find_r (n : Nd) : findF [⟨bl [114], 0, n, false, 0⟩] (bl [114]) = 0 := by simp [findF, findFrom]
theorem build_first (u : List UInt8) : buildF 4 [⟨bl [114], 0, bodyF u, false, 0⟩] = [⟨6, ByteArray.empty, [3, 6]⟩, ⟨0, bl u, []⟩, ⟨3, ByteArray.empty, []⟩, ⟨5, ByteArray.empty, [1, 2]⟩, ⟨1, allB, []⟩, ⟨2, bl [114], [0]⟩, ⟨5, ByteArray.empty, [4, 5]⟩] := by
  simp [buildF, buildL, termN, termsL, baseK, bodyF, nd0, findF, findFrom, Tm.zero]
end Go.Proofs.YtbojcemamhiodaaGreatDoor

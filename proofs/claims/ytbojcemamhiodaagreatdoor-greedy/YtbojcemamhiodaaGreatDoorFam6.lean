import Derived.Test.YtbojcemamhiodaaGreatDoorFam5
namespace Go.Proofs.YtbojcemamhiodaaGreatDoor

def textL1 (u : List UInt8) : List UInt8 := 114 :: 32 :: 60 :: 45 :: 32 :: 38 :: 123 :: 39 :: (u ++ 39 :: 125 :: 32 :: 123 :: 125 :: [])
def bodyL1 (u : List UInt8) : Nd := nd0 5 [nd0 7 [⟨4, 0, ByteArray.empty, [⟨0, 0, bl u, []⟩]⟩], nd0 3 []]
theorem named_no {s : ByteArray} {t : Tk} (h : t.k ≠ 2) : namedN s t = ByteArray.empty ∧ namedT s t = t := by
  have hb : nmBefore s t 17 = false := by unfold nmBefore; simp [h]
  exact ⟨namedN_no hb, namedT_no hb⟩
/-- { word }, not followed by a sign -/
theorem item_part {s : ByteArray} {E : Tk → Int → Res} {t t1 t2 t3 : Tk} {d : Int} {n : Nd} {k : Nat} (h : t.k = 15) (hd : d < 12) (h1 : nextT s t.to = t1) (hk : t1.k ≠ 16) (hk2 : t1.k ≠ 2) (hE : E t1 (d + 1) = ⟨0, n, t2, d + 1⟩) (h2 : t2.k = 16) (h3 : nextT s t2.to = t3) (hs : isSign t3 = false) :
    itemF s E (k + 1) t d = ⟨0, ⟨4, 0, ByteArray.empty, [n]⟩, t3, d⟩ := by
  have hn := named_no (s := s) hk2
  rw [item_single (by omega) (by omega), single_part h hd (by rw [h1]; exact hk) (by rw [h1, hn.2]; exact hE) h2, h3, h1, hn.1, signed_no hs]
theorem item_place {s : ByteArray} {E : Tk → Int → Res} {t t1 t2 : Tk} {d : Int} {k : Nat} (h : t.k = 15) (hd : d < 12) (h1 : nextT s t.to = t1) (hk : t1.k = 16) (h2 : nextT s t1.to = t2) (hs : isSign t2 = false) : itemF s E (k + 1) t d = ⟨0, nd0 3 [], t2, d⟩ := by
  rw [item_single (by omega) (by omega), single_place h hd (by rw [h1]; exact hk), h1, h2, signed_no hs]
theorem item_wd {s : ByteArray} {E : Tk → Int → Res} {t t1 : Tk} {d : Int} {k : Nat} (h : t.k = 4) (h1 : nextT s t.to = t1) (hs : isSign t1 = false) : itemF s E (k + 1) t d = ⟨0, ⟨0, 0, t.bytes s, []⟩, t1, d⟩ := by
  rw [item_leaf (.inr (.inl h)) (by rw [h1]; exact hs), leaf_word h, h1]
/-- an expression that is one word -/
theorem expr_wd {s : ByteArray} {t t1 : Tk} {d : Int} {m z : Nat} (hs : s.size = z + 1) (h : t.k = 4) (h1 : nextT s t.to = t1) (hk : t1.k = 16 ∨ t1.k = 14 ∨ t1.k = 1) : exprN s (m + 1) t d = ⟨0, ⟨0, 0, t.bytes s, []⟩, t1, d⟩ :=
  expr_one (row_one hs (atIt_word h) (item_wd h h1 (sign_no (by omega))) (atIt_no (by omega)) (by simp)) (by omega) (by simp)

theorem eval_looks1 (s : ByteArray) (m : Nat) (hs : s.size = m + 2) (hs4 : s.size ≤ 400) (T0 T1 T2 T3 T4 T5 T6 T7 T8 : Tk) (h0 : nextT s 0 = T0) (h1 : nextT s T0.to = T1) (h2 : nextT s T1.to = T2) (h3 : nextT s T2.to = T3) (h4 : nextT s T3.to = T4) (h5 : nextT s T4.to = T5) (h6 : nextT s T5.to = T6) (h7 : nextT s T6.to = T7) (h8 : nextT s T7.to = T8)
    (k0 : T0.k = 2) (k1 : T1.k = 3) (k2 : T2.k = 7) (k3 : T3.k = 15) (k4 : T4.k = 4) (k5 : T5.k = 16) (k6 : T6.k = 15) (k7 : T7.k = 16) (k8 : T8.k = 1) :
    parseF s = ⟨0, [⟨T0.of s, T0.from_, nd0 5 [nd0 7 [⟨4, 0, ByteArray.empty, [⟨0, 0, T4.bytes s, []⟩]⟩], nd0 3 []], false, 0⟩], 0⟩ := by
  have hs1 : s.size = (m + 1) + 1 := by omega
  have i3 : ∀ k, itemF s (exprN s 12) (k + 1) T3 0 = ⟨0, ⟨4, 0, ByteArray.empty, [⟨0, 0, T4.bytes s, []⟩]⟩, T6, 0⟩ := fun k =>
    item_part k3 (by omega) h4 (by omega) (by omega) (expr_wd hs1 k4 h5 (.inl k5)) k5 h6 (sign_no (by omega))
  have i2 : itemF s (exprN s 12) (s.size + 1) T2 0 = ⟨0, nd0 7 [⟨4, 0, ByteArray.empty, [⟨0, 0, T4.bytes s, []⟩]⟩], T6, 0⟩ := by
    have h := item_look (s := s) (E := exprN s 12) (t := T2) (d := 0) (k := s.size) (.inl k2) (by rw [h3]; exact atIt_brace k3) (by rw [h3, hs1]; exact i3 _)
    rw [k2] at h
    exact h
  have hex : exprN s 13 T2 0 = ⟨0, nd0 5 [nd0 7 [⟨4, 0, ByteArray.empty, [⟨0, 0, T4.bytes s, []⟩]⟩], nd0 3 []], T8, 0⟩ :=
    expr_one (row_two hs (atIt_look (.inl k2)) i2 (atIt_brace k6) (item_place k6 (by omega) h7 k7 h8 (sign_no (by omega))) (atIt_no (by omega)) (by simp [nd0]) (by simp [nd0])) (by omega) (by simp [nd0])
  rw [parse_text hs4, h0, hs, parse_step k0 (rule_ok k0 h1 k1 h2 hex), parse_end k8]
  rfl
theorem parse_looks1 (u : List UInt8) (hu : u.all isPlain = true) (h5 : u.length ≤ 300) : parseF (bl (textL1 u)) = ⟨0, [⟨bl [114], 0, bodyL1 u, false, 0⟩], 0⟩ := by
  have hlen : (textL1 u).length = 13 + u.length := by simp [textL1]; try omega
  have t0 : nextT (bl (textL1 u)) (0) = ⟨2, 0, 1⟩ := by
    have h := next_at (L := (textL1 u)) (A := []) (B := 114 :: 32 :: 60 :: 45 :: 32 :: 38 :: 123 :: 39 :: (u ++ 39 :: 125 :: 32 :: 123 :: 125 :: [])) (p := 0) (by simp [textL1]) (nextT_letter 114 32 _ (by decide) (by decide) rfl) (by simp; try omega)
    rw [h]
    congr 1 <;> (simp; try omega)
  have t1 : nextT (bl (textL1 u)) (1) = ⟨3, 2, 4⟩ := by
    have h := next_at (L := (textL1 u)) (A := [114]) (B := 32 :: 60 :: 45 :: 32 :: 38 :: 123 :: 39 :: (u ++ 39 :: 125 :: 32 :: 123 :: 125 :: [])) (p := 1) (by simp [textL1]) (blank_any _ (nextT_arrow _)) (by simp; try omega)
    rw [h]
    congr 1 <;> (simp; try omega)
  have t2 : nextT (bl (textL1 u)) (4) = ⟨7, 5, 6⟩ := by
    have h := next_at (L := (textL1 u)) (A := [114, 32, 60, 45]) (B := 32 :: 38 :: 123 :: 39 :: (u ++ 39 :: 125 :: 32 :: 123 :: 125 :: [])) (p := 4) (by simp [textL1]) (blank_any _ (nextT_sign 38 _ 7 (by decide) (by decide) (by decide) (by decide) rfl (by decide))) (by simp; try omega)
    rw [h]
    congr 1 <;> (simp; try omega)
  have t3 : nextT (bl (textL1 u)) (6) = ⟨15, 6, 7⟩ := by
    have h := next_at (L := (textL1 u)) (A := [114, 32, 60, 45, 32, 38]) (B := 123 :: 39 :: (u ++ 39 :: 125 :: 32 :: 123 :: 125 :: [])) (p := 6) (by simp [textL1]) (nextT_sign 123 _ 15 (by decide) (by decide) (by decide) (by decide) rfl (by decide)) (by simp; try omega)
    rw [h]
    congr 1 <;> (simp; try omega)
  have t4 : nextT (bl (textL1 u)) (7) = ⟨4, 7, 7 + (u.length + 2)⟩ := by
    have h := next_at (L := (textL1 u)) (A := [114, 32, 60, 45, 32, 38, 123]) (B := 39 :: (u ++ 39 :: 125 :: 32 :: 123 :: 125 :: [])) (p := 7) (by simp [textL1]) (nextT_word u _ hu) (by simp; try omega)
    rw [h]
    congr 1 <;> (simp; try omega)
  have t5 : nextT (bl (textL1 u)) (7 + (u.length + 2)) = ⟨16, 9 + u.length, 10 + u.length⟩ := by
    have h := next_at (L := (textL1 u)) (A := [114, 32, 60, 45, 32, 38, 123, 39] ++ (u ++ ([39]))) (B := 125 :: 32 :: 123 :: 125 :: []) (p := 7 + (u.length + 2)) (by simp [textL1]) (nextT_sign 125 _ 16 (by decide) (by decide) (by decide) (by decide) rfl (by decide)) (by simp; try omega)
    rw [h]
    congr 1 <;> (simp; try omega)
  have t6 : nextT (bl (textL1 u)) (10 + u.length) = ⟨15, 11 + u.length, 12 + u.length⟩ := by
    have h := next_at (L := (textL1 u)) (A := [114, 32, 60, 45, 32, 38, 123, 39] ++ (u ++ ([39, 125]))) (B := 32 :: 123 :: 125 :: []) (p := 10 + u.length) (by simp [textL1]) (blank_any _ (nextT_sign 123 _ 15 (by decide) (by decide) (by decide) (by decide) rfl (by decide))) (by simp; try omega)
    rw [h]
    congr 1 <;> (simp; try omega)
  have t7 : nextT (bl (textL1 u)) (12 + u.length) = ⟨16, 12 + u.length, 13 + u.length⟩ := by
    have h := next_at (L := (textL1 u)) (A := [114, 32, 60, 45, 32, 38, 123, 39] ++ (u ++ ([39, 125, 32, 123]))) (B := 125 :: []) (p := 12 + u.length) (by simp [textL1]) (nextT_sign 125 _ 16 (by decide) (by decide) (by decide) (by decide) rfl (by decide)) (by simp; try omega)
    rw [h]
    congr 1 <;> (simp; try omega)
  have t8 : nextT (bl (textL1 u)) (13 + u.length) = ⟨1, 13 + u.length, 13 + u.length⟩ := by
    have h := next_at (L := (textL1 u)) (A := (textL1 u)) (B := []) (p := 13 + u.length) (by simp) nextT_end (by rw [hlen]; omega)
    rw [h, hlen]
    congr 1 <;> omega
  rw [eval_looks1 (bl (textL1 u)) (13 + u.length - 2) (by rw [bl_size, hlen]; omega) (by rw [bl_size, hlen]; omega) _ _ _ _ _ _ _ _ _ t0 t1 t2 t3 t4 t5 t6 t7 t8 rfl rfl rfl rfl rfl rfl rfl rfl rfl]
  have b0 : (⟨2, 0, 1⟩ : Tk).of (bl (textL1 u)) = bl [114] := of_bl [] (textL1 u) 1 2
  have b4 : (⟨4, 7, 7 + (u.length + 2)⟩ : Tk).bytes (bl (textL1 u)) = bl u := word_at (A := [114, 32, 60, 45, 32, 38, 123]) (rest := 125 :: 32 :: 123 :: 125 :: []) hu rfl rfl
  rw [b0, b4]
  rfl
theorem check_looks1 (bu : ByteArray) : checkF 4 3 [⟨bl [114], 0, nd0 5 [nd0 7 [⟨4, 0, ByteArray.empty, [⟨0, 0, bu, []⟩]⟩], nd0 3 []], false, 0⟩] = some (0, 0) := by
  cases h1 : bu.toList.isEmpty <;>
    simp [checkF, check2, check3, twiceL, findF, findFrom, firstR, unkN, firstL, fixE, roundE, mayE, setE, fixB, roundB, nd0, begN, begL, or_zero, and_zero, leftL, loopN, h1]
theorem compile_looks1 (u : List UInt8) (hu : u.all isPlain = true) (h5 : u.length ≤ 300) : compileF 4 3 (bl (textL1 u)) = some (0, 0) := by
  unfold compileF
  rw [parse_looks1 u hu h5]
  simp only [bodyL1, check_looks1]
  rfl
theorem build_looks1 (u : List UInt8) : buildF 5 [⟨bl [114], 0, bodyL1 u, false, 0⟩] = [⟨5, ByteArray.empty, [3, 4]⟩, ⟨0, bl u, []⟩, ⟨4, ByteArray.empty, [1]⟩, ⟨7, ByteArray.empty, [2]⟩, ⟨3, ByteArray.empty, []⟩] := by rfl

def textL2 (u : List UInt8) : List UInt8 := 114 :: 32 :: 60 :: 45 :: 32 :: 33 :: 40 :: 123 :: 39 :: (u ++ 39 :: 125 :: 32 :: 123 :: 125 :: 41 :: 32 :: 123 :: 125 :: [])
def bodyL2 (u : List UInt8) : Nd := nd0 5 [nd0 8 [nd0 5 [⟨4, 0, ByteArray.empty, [⟨0, 0, bl u, []⟩]⟩, nd0 3 []]], nd0 3 []]
theorem eval_looks2 (s : ByteArray) (m : Nat) (hs : s.size = m + 2) (hs4 : s.size ≤ 400) (T0 T1 T2 T3 T4 T5 T6 T7 T8 T9 T10 T11 T12 : Tk) (h0 : nextT s 0 = T0) (h1 : nextT s T0.to = T1) (h2 : nextT s T1.to = T2) (h3 : nextT s T2.to = T3) (h4 : nextT s T3.to = T4) (h5 : nextT s T4.to = T5) (h6 : nextT s T5.to = T6) (h7 : nextT s T6.to = T7) (h8 : nextT s T7.to = T8) (h9 : nextT s T8.to = T9) (h10 : nextT s T9.to = T10) (h11 : nextT s T10.to = T11) (h12 : nextT s T11.to = T12)
    (k0 : T0.k = 2) (k1 : T1.k = 3) (k2 : T2.k = 8) (k3 : T3.k = 13) (k4 : T4.k = 15) (k5 : T5.k = 4) (k6 : T6.k = 16) (k7 : T7.k = 15) (k8 : T8.k = 16) (k9 : T9.k = 14) (k10 : T10.k = 15) (k11 : T11.k = 16) (k12 : T12.k = 1) :
    parseF s = ⟨0, [⟨T0.of s, T0.from_, nd0 5 [nd0 8 [nd0 5 [⟨4, 0, ByteArray.empty, [⟨0, 0, T5.bytes s, []⟩]⟩, nd0 3 []]], nd0 3 []], false, 0⟩], 0⟩ := by
  have hs1 : s.size = (m + 1) + 1 := by omega
  have hin : exprN s 12 T4 1 = ⟨0, nd0 5 [⟨4, 0, ByteArray.empty, [⟨0, 0, T5.bytes s, []⟩]⟩, nd0 3 []], T9, 1⟩ :=
    expr_one (row_two hs (atIt_brace k4) (item_part k4 (by omega) h5 (by omega) (by omega) (expr_wd hs1 k5 h6 (.inl k6)) k6 h7 (sign_no (by omega))) (atIt_brace k7) (item_place k7 (by omega) h8 k8 h9 (sign_no (by omega))) (atIt_no (by omega)) (by simp) (by simp [nd0])) (by omega) (by simp [nd0])
  have i3 : ∀ k, itemF s (exprN s 12) (k + 1) T3 0 = ⟨0, nd0 5 [⟨4, 0, ByteArray.empty, [⟨0, 0, T5.bytes s, []⟩]⟩, nd0 3 []], T10, 0⟩ := fun k => by
    rw [item_single (by omega) (by omega), single_brackets k3 (by omega) (by rw [h4]; exact hin) k9, h10, signed_no (sign_no (by omega))]
  have i2 : itemF s (exprN s 12) (s.size + 1) T2 0 = ⟨0, nd0 8 [nd0 5 [⟨4, 0, ByteArray.empty, [⟨0, 0, T5.bytes s, []⟩]⟩, nd0 3 []]], T10, 0⟩ := by
    have h := item_look (s := s) (E := exprN s 12) (t := T2) (d := 0) (k := s.size) (.inr k2) (by rw [h3]; exact atIt_open k3) (by rw [h3, hs1]; exact i3 _)
    rw [k2] at h
    exact h
  have hex : exprN s 13 T2 0 = ⟨0, nd0 5 [nd0 8 [nd0 5 [⟨4, 0, ByteArray.empty, [⟨0, 0, T5.bytes s, []⟩]⟩, nd0 3 []]], nd0 3 []], T12, 0⟩ :=
    expr_one (row_two hs (atIt_look (.inr k2)) i2 (atIt_brace k10) (item_place k10 (by omega) h11 k11 h12 (sign_no (by omega))) (atIt_no (by omega)) (by simp [nd0]) (by simp [nd0])) (by omega) (by simp [nd0])
  rw [parse_text hs4, h0, hs, parse_step k0 (rule_ok k0 h1 k1 h2 hex), parse_end k12]
  rfl
theorem parse_looks2 (u : List UInt8) (hu : u.all isPlain = true) (h5 : u.length ≤ 300) : parseF (bl (textL2 u)) = ⟨0, [⟨bl [114], 0, bodyL2 u, false, 0⟩], 0⟩ := by
  have hlen : (textL2 u).length = 18 + u.length := by simp [textL2]; try omega
  have t0 : nextT (bl (textL2 u)) (0) = ⟨2, 0, 1⟩ := by
    have h := next_at (L := (textL2 u)) (A := []) (B := 114 :: 32 :: 60 :: 45 :: 32 :: 33 :: 40 :: 123 :: 39 :: (u ++ 39 :: 125 :: 32 :: 123 :: 125 :: 41 :: 32 :: 123 :: 125 :: [])) (p := 0) (by simp [textL2]) (nextT_letter 114 32 _ (by decide) (by decide) rfl) (by simp; try omega)
    rw [h]
    congr 1 <;> (simp; try omega)
  have t1 : nextT (bl (textL2 u)) (1) = ⟨3, 2, 4⟩ := by
    have h := next_at (L := (textL2 u)) (A := [114]) (B := 32 :: 60 :: 45 :: 32 :: 33 :: 40 :: 123 :: 39 :: (u ++ 39 :: 125 :: 32 :: 123 :: 125 :: 41 :: 32 :: 123 :: 125 :: [])) (p := 1) (by simp [textL2]) (blank_any _ (nextT_arrow _)) (by simp; try omega)
    rw [h]
    congr 1 <;> (simp; try omega)
  have t2 : nextT (bl (textL2 u)) (4) = ⟨8, 5, 6⟩ := by
    have h := next_at (L := (textL2 u)) (A := [114, 32, 60, 45]) (B := 32 :: 33 :: 40 :: 123 :: 39 :: (u ++ 39 :: 125 :: 32 :: 123 :: 125 :: 41 :: 32 :: 123 :: 125 :: [])) (p := 4) (by simp [textL2]) (blank_any _ (nextT_sign 33 _ 8 (by decide) (by decide) (by decide) (by decide) rfl (by decide))) (by simp; try omega)
    rw [h]
    congr 1 <;> (simp; try omega)
  have t3 : nextT (bl (textL2 u)) (6) = ⟨13, 6, 7⟩ := by
    have h := next_at (L := (textL2 u)) (A := [114, 32, 60, 45, 32, 33]) (B := 40 :: 123 :: 39 :: (u ++ 39 :: 125 :: 32 :: 123 :: 125 :: 41 :: 32 :: 123 :: 125 :: [])) (p := 6) (by simp [textL2]) (nextT_sign 40 _ 13 (by decide) (by decide) (by decide) (by decide) rfl (by decide)) (by simp; try omega)
    rw [h]
    congr 1 <;> (simp; try omega)
  have t4 : nextT (bl (textL2 u)) (7) = ⟨15, 7, 8⟩ := by
    have h := next_at (L := (textL2 u)) (A := [114, 32, 60, 45, 32, 33, 40]) (B := 123 :: 39 :: (u ++ 39 :: 125 :: 32 :: 123 :: 125 :: 41 :: 32 :: 123 :: 125 :: [])) (p := 7) (by simp [textL2]) (nextT_sign 123 _ 15 (by decide) (by decide) (by decide) (by decide) rfl (by decide)) (by simp; try omega)
    rw [h]
    congr 1 <;> (simp; try omega)
  have t5 : nextT (bl (textL2 u)) (8) = ⟨4, 8, 8 + (u.length + 2)⟩ := by
    have h := next_at (L := (textL2 u)) (A := [114, 32, 60, 45, 32, 33, 40, 123]) (B := 39 :: (u ++ 39 :: 125 :: 32 :: 123 :: 125 :: 41 :: 32 :: 123 :: 125 :: [])) (p := 8) (by simp [textL2]) (nextT_word u _ hu) (by simp; try omega)
    rw [h]
    congr 1 <;> (simp; try omega)
  have t6 : nextT (bl (textL2 u)) (8 + (u.length + 2)) = ⟨16, 10 + u.length, 11 + u.length⟩ := by
    have h := next_at (L := (textL2 u)) (A := [114, 32, 60, 45, 32, 33, 40, 123, 39] ++ (u ++ ([39]))) (B := 125 :: 32 :: 123 :: 125 :: 41 :: 32 :: 123 :: 125 :: []) (p := 8 + (u.length + 2)) (by simp [textL2]) (nextT_sign 125 _ 16 (by decide) (by decide) (by decide) (by decide) rfl (by decide)) (by simp; try omega)
    rw [h]
    congr 1 <;> (simp; try omega)
  have t7 : nextT (bl (textL2 u)) (11 + u.length) = ⟨15, 12 + u.length, 13 + u.length⟩ := by
    have h := next_at (L := (textL2 u)) (A := [114, 32, 60, 45, 32, 33, 40, 123, 39] ++ (u ++ ([39, 125]))) (B := 32 :: 123 :: 125 :: 41 :: 32 :: 123 :: 125 :: []) (p := 11 + u.length) (by simp [textL2]) (blank_any _ (nextT_sign 123 _ 15 (by decide) (by decide) (by decide) (by decide) rfl (by decide))) (by simp; try omega)
    rw [h]
    congr 1 <;> (simp; try omega)
  have t8 : nextT (bl (textL2 u)) (13 + u.length) = ⟨16, 13 + u.length, 14 + u.length⟩ := by
    have h := next_at (L := (textL2 u)) (A := [114, 32, 60, 45, 32, 33, 40, 123, 39] ++ (u ++ ([39, 125, 32, 123]))) (B := 125 :: 41 :: 32 :: 123 :: 125 :: []) (p := 13 + u.length) (by simp [textL2]) (nextT_sign 125 _ 16 (by decide) (by decide) (by decide) (by decide) rfl (by decide)) (by simp; try omega)
    rw [h]
    congr 1 <;> (simp; try omega)
  have t9 : nextT (bl (textL2 u)) (14 + u.length) = ⟨14, 14 + u.length, 15 + u.length⟩ := by
    have h := next_at (L := (textL2 u)) (A := [114, 32, 60, 45, 32, 33, 40, 123, 39] ++ (u ++ ([39, 125, 32, 123, 125]))) (B := 41 :: 32 :: 123 :: 125 :: []) (p := 14 + u.length) (by simp [textL2]) (nextT_sign 41 _ 14 (by decide) (by decide) (by decide) (by decide) rfl (by decide)) (by simp; try omega)
    rw [h]
    congr 1 <;> (simp; try omega)
  have t10 : nextT (bl (textL2 u)) (15 + u.length) = ⟨15, 16 + u.length, 17 + u.length⟩ := by
    have h := next_at (L := (textL2 u)) (A := [114, 32, 60, 45, 32, 33, 40, 123, 39] ++ (u ++ ([39, 125, 32, 123, 125, 41]))) (B := 32 :: 123 :: 125 :: []) (p := 15 + u.length) (by simp [textL2]) (blank_any _ (nextT_sign 123 _ 15 (by decide) (by decide) (by decide) (by decide) rfl (by decide))) (by simp; try omega)
    rw [h]
    congr 1 <;> (simp; try omega)
  have t11 : nextT (bl (textL2 u)) (17 + u.length) = ⟨16, 17 + u.length, 18 + u.length⟩ := by
    have h := next_at (L := (textL2 u)) (A := [114, 32, 60, 45, 32, 33, 40, 123, 39] ++ (u ++ ([39, 125, 32, 123, 125, 41, 32, 123]))) (B := 125 :: []) (p := 17 + u.length) (by simp [textL2]) (nextT_sign 125 _ 16 (by decide) (by decide) (by decide) (by decide) rfl (by decide)) (by simp; try omega)
    rw [h]
    congr 1 <;> (simp; try omega)
  have t12 : nextT (bl (textL2 u)) (18 + u.length) = ⟨1, 18 + u.length, 18 + u.length⟩ := by
    have h := next_at (L := (textL2 u)) (A := (textL2 u)) (B := []) (p := 18 + u.length) (by simp) nextT_end (by rw [hlen]; omega)
    rw [h, hlen]
    congr 1 <;> omega
  rw [eval_looks2 (bl (textL2 u)) (18 + u.length - 2) (by rw [bl_size, hlen]; omega) (by rw [bl_size, hlen]; omega) _ _ _ _ _ _ _ _ _ _ _ _ _ t0 t1 t2 t3 t4 t5 t6 t7 t8 t9 t10 t11 t12 rfl rfl rfl rfl rfl rfl rfl rfl rfl rfl rfl rfl rfl]
  have b0 : (⟨2, 0, 1⟩ : Tk).of (bl (textL2 u)) = bl [114] := of_bl [] (textL2 u) 1 2
  have b5 : (⟨4, 8, 8 + (u.length + 2)⟩ : Tk).bytes (bl (textL2 u)) = bl u := word_at (A := [114, 32, 60, 45, 32, 33, 40, 123]) (rest := 125 :: 32 :: 123 :: 125 :: 41 :: 32 :: 123 :: 125 :: []) hu rfl rfl
  rw [b0, b5]
  rfl
theorem check_looks2 (bu : ByteArray) : checkF 5 3 [⟨bl [114], 0, nd0 5 [nd0 8 [nd0 5 [⟨4, 0, ByteArray.empty, [⟨0, 0, bu, []⟩]⟩, nd0 3 []]], nd0 3 []], false, 0⟩] = some (0, 0) := by
  cases h1 : bu.toList.isEmpty <;>
    simp [checkF, check2, check3, twiceL, findF, findFrom, firstR, unkN, firstL, fixE, roundE, mayE, setE, fixB, roundB, nd0, begN, begL, or_zero, and_zero, leftL, loopN, h1]
theorem compile_looks2 (u : List UInt8) (hu : u.all isPlain = true) (h5 : u.length ≤ 300) : compileF 5 3 (bl (textL2 u)) = some (0, 0) := by
  unfold compileF
  rw [parse_looks2 u hu h5]
  simp only [bodyL2, check_looks2]
  rfl
theorem build_looks2 (u : List UInt8) : buildF 6 [⟨bl [114], 0, bodyL2 u, false, 0⟩] = [⟨5, ByteArray.empty, [5, 6]⟩, ⟨0, bl u, []⟩, ⟨4, ByteArray.empty, [1]⟩, ⟨3, ByteArray.empty, []⟩, ⟨5, ByteArray.empty, [2, 3]⟩, ⟨8, ByteArray.empty, [4]⟩, ⟨3, ByteArray.empty, []⟩] := by rfl

end Go.Proofs.YtbojcemamhiodaaGreatDoor

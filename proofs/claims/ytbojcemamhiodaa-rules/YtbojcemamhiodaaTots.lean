import Derived.Test.YtbojcemamhiodaaChkt
namespace Go.Proofs.Ytbojcemamhiodaa

theorem fits_succ : ∀ (F : Nat) (ts : List Nd), fits F ts = true → fits (F + 1) ts = true
  | 0, ts, h => by simp [fits] at h
  | F + 1, ts, h => by
    unfold fits at h ⊢
    rw [List.all_eq_true] at h ⊢
    exact fun t ht => fits_succ F t.kids (h t ht)
theorem fits_mono {F F' : Nat} (hF : F ≤ F') {ts : List Nd} (h : fits F ts = true) : fits F' ts = true := by
  induction hF with
  | refl => exact h
  | step _ ih => exact fits_succ _ _ ih
theorem fits_list : ∀ ts : List Nd, (∀ t ∈ ts, ∃ F, fits F t.kids = true) → ∃ F, (ts.all fun t => fits F t.kids) = true
  | [], _ => ⟨0, rfl⟩
  | t :: ts, h => by
    obtain ⟨F1, h1⟩ := h t (by simp)
    obtain ⟨F2, h2⟩ := fits_list ts (fun t ht => h t (by simp [ht]))
    refine ⟨max F1 F2, ?_⟩
    rw [List.all_cons, Bool.and_eq_true]
    refine ⟨fits_mono (Nat.le_max_left _ _) h1, ?_⟩
    rw [List.all_eq_true] at h2 ⊢
    exact fun t ht => fits_mono (Nat.le_max_right _ _) (h2 t ht)
theorem Nd.ind {P : Nd → Prop} (h : ∀ e : Nd, (∀ k ∈ e.kids, P k) → P e) (e : Nd) : P e :=
  Nd.rec (motive_1 := P) (motive_2 := fun l => ∀ k ∈ l, P k) (fun k a t kids ih => h ⟨k, a, t, kids⟩ ih) (fun k hk => by simp at hk)
    (fun k l h1 h2 j hj => by
      rw [List.mem_cons] at hj
      rcases hj with rfl | hj
      · exact h1
      · exact h2 j hj) e
theorem fits_nd (n : Nd) : ∃ F, fits F n.kids = true := by
  refine Nd.ind (P := fun n => ∃ F, fits F n.kids = true) (fun n ih => ?_) n
  obtain ⟨F, hF⟩ := fits_list n.kids ih
  exact ⟨F + 1, by unfold fits; exact hF⟩
/-- some depth is enough for a list of rules -/
theorem fits_rules : ∀ rs : List Rl, ∃ F, (rs.all fun r => fits F r.body.kids) = true
  | [] => ⟨0, rfl⟩
  | r :: rs => by
    obtain ⟨F1, h1⟩ := fits_nd r.body
    obtain ⟨F2, h2⟩ := fits_rules rs
    refine ⟨max F1 F2, ?_⟩
    rw [List.all_cons, Bool.and_eq_true]
    refine ⟨fits_mono (Nat.le_max_left _ _) h1, ?_⟩
    rw [List.all_eq_true] at h2 ⊢
    exact fun t ht => fits_mono (Nat.le_max_right _ _) (h2 t ht)

/-- an int's bits -/
def bv (a : Int) : BitVec 64 := BitVec.ofInt 64 a
def Rng (a : Int) : Prop := -9223372036854775808 ≤ a ∧ a ≤ 9223372036854775807
def subB (a b : Int) : Prop := bv a ||| bv b = bv b
theorem bv_inj {a b : Int} (ha : Rng a) (hb : Rng b) (h : bv a = bv b) : a = b := by
  unfold bv at h
  have h1 := congrArg BitVec.toInt h
  rw [BitVec.toInt_ofInt, BitVec.toInt_ofInt] at h1
  unfold Rng at ha hb
  rw [Int.bmod_def, Int.bmod_def] at h1
  split at h1 <;> split at h1 <;> omega
theorem wrap_bv (X : BitVec 64) : BitVec.ofInt 64 (IntKind.i64.wrap (X.toNat : Int)) = X ∧ Rng (IntKind.i64.wrap (X.toNat : Int)) := by
  have hlt := X.isLt
  rw [IntKind.wrap_i64]
  constructor
  · apply BitVec.eq_of_toNat_eq
    rw [BitVec.toNat_ofInt]
    omega
  · unfold Rng
    omega
theorem orI_bv (a b : Int) : bv (orI a b) = bv a ||| bv b ∧ Rng (orI a b) := wrap_bv (BitVec.ofInt 64 a ||| BitVec.ofInt 64 b)
theorem subB_refl (a : Int) : subB a a := BitVec.or_self
theorem subB_trans {a b c : Int} (h : subB a b) (k : subB b c) : subB a c := by
  unfold subB at *
  rw [← k, ← BitVec.or_assoc, h]
theorem subB_left (a b : Int) : subB a (orI a b) := by
  unfold subB
  rw [(orI_bv a b).1, ← BitVec.or_assoc, BitVec.or_self]
theorem subB_or {a b c d : Int} (h : subB a c) (k : subB b d) : subB (orI a b) (orI c d) := by
  unfold subB at *
  rw [(orI_bv a b).1, (orI_bv c d).1, BitVec.or_assoc, ← BitVec.or_assoc (bv b), BitVec.or_comm (bv b) (bv c), BitVec.or_assoc (bv c), k, ← BitVec.or_assoc, h]

section
variable {rs rs' : List Rl}
/-- the same rules, with sets that are no less -/
structure Up (rs rs' : List Rl) : Prop where
  find : ∀ nm, findF rs' nm = findF rs nm
  emp : ∀ i, emptyAt rs' i = emptyAt rs i
  beg : ∀ i, subB (beginsAt rs i) (beginsAt rs' i)
theorem Up.may (h : Up rs rs') : ∀ (F : Nat) (n : Nd), mayE rs' F n = mayE rs F n
  | 0, n => rfl
  | F + 1, n => by
    have ih := Up.may h F
    have e : mayE rs' F = mayE rs F := funext ih
    unfold mayE
    rw [h.find, h.emp, e]
theorem begL_up {f g : Nd → Int} {e : Nd → Bool} {row : Bool} (hf : ∀ n, subB (f n) (g n)) : ∀ (l : List Nd) (s t : Int), subB s t → subB (begL f e row l s) (begL g e row l t)
  | [], s, t, h => h
  | n :: l, s, t, h => by
    unfold begL
    have h1 := subB_or h (hf n)
    split
    · split
      · exact begL_up hf l _ _ h1
      · exact h1
    · exact begL_up hf l _ _ h1
theorem Up.begN (h : Up rs rs') : ∀ (F : Nat) (n : Nd), subB (begN rs F n) (begN rs' F n)
  | 0, n => subB_refl _
  | F + 1, n => by
    have ih := Up.begN h F
    have e : mayE rs' F = mayE rs F := funext (h.may F)
    unfold Go.Proofs.Ytbojcemamhiodaa.begN
    rw [h.find, e]
    split
    · split
      · exact subB_refl _
      · exact subB_or (subB_refl _) (h.beg _)
    · exact begL_up ih _ _ _ (subB_refl _)
end
end Go.Proofs.Ytbojcemamhiodaa
namespace Go.Proofs.Ytbojcemamhiodaa

theorem findFrom_mod (f : Rl → Rl) (hf : ∀ r, (f r).name = r.name) : ∀ (rs : List Rl) (i : Nat) (k : Int) (nm : ByteArray), findFrom (rs.modify i f) k nm = findFrom rs k nm
  | [], i, k, nm => by cases i <;> rfl
  | r :: rs, 0, k, nm => by
    show findFrom (f r :: rs) k nm = _
    unfold findFrom
    rw [hf]
  | r :: rs, i + 1, k, nm => by
    show findFrom (r :: rs.modify i f) k nm = _
    unfold findFrom
    rw [findFrom_mod f hf rs i (k + 1) nm]
theorem mod_at (f : Rl → Rl) (rs : List Rl) (i j : Nat) : (rs.modify i f)[j]? = if i = j then (rs[j]?).map f else rs[j]? := by
  rw [List.getElem?_modify]
  split
  · rename_i h
    cases rs[j]? <;> rfl
  · cases rs[j]? <;> rfl
theorem setB_up {rs : List Rl} {i : Nat} {r : Rl} {v : Int} (hr : rs[i]? = some r) (hs : subB r.begins v) : Up rs (setB rs i v) := by
  refine ⟨fun nm => findFrom_mod (fun r => { r with begins := v }) (fun _ => rfl) rs i 0 nm, fun k => ?_, fun k => ?_⟩
  · unfold emptyAt setB
    rw [mod_at]
    by_cases h : i = k.toNat
    · rw [if_pos h]
      cases rs[k.toNat]? <;> rfl
    · rw [if_neg h]
  · unfold beginsAt setB
    rw [mod_at]
    by_cases h : i = k.toNat
    · rw [if_pos h, ← h, hr]
      exact hs
    · rw [if_neg h]
      exact subB_refl _
def mu : List Rl → Nat
  | [] => 0
  | r :: rs => (18446744073709551616 - (bv r.begins).toNat) + mu rs
theorem mu_set : ∀ (rs : List Rl) (i : Nat) (r : Rl) (v : Int), rs[i]? = some r → (bv r.begins).toNat < (bv v).toNat → mu (setB rs i v) < mu rs
  | [], i, r, v, h, _ => by simp at h
  | q :: rs, 0, r, v, h, hl => by
    have hq : q = r := by simpa using h
    subst hq
    show (18446744073709551616 - (bv v).toNat) + mu rs < (18446744073709551616 - (bv q.begins).toNat) + mu rs
    have := (bv v).isLt
    omega
  | q :: rs, i + 1, r, v, h, hl => by
    have := mu_set rs i r v (by simpa using h) hl
    show (18446744073709551616 - (bv q.begins).toNat) + mu (setB rs i v) < (18446744073709551616 - (bv q.begins).toNat) + mu rs
    omega
theorem subB_lt {a b : Int} (h : subB a b) (hne : b ≠ a) (ha : Rng a) (hb : Rng b) : (bv a).toNat < (bv b).toNat := by
  have h1 : (bv a).toNat ≤ (bv b).toNat := by
    unfold subB at h
    rw [← h, BitVec.toNat_or]
    exact Nat.left_le_or
  have h2 : (bv a).toNat ≠ (bv b).toNat := fun e => hne (bv_inj ha hb (BitVec.eq_of_toNat_eq e)).symm
  omega
theorem begL_rng {f : Nd → Int} {e : Nd → Bool} {row : Bool} : ∀ (l : List Nd) (s : Int), Rng s → Rng (begL f e row l s)
  | [], s, h => h
  | n :: l, s, h => by
    unfold begL
    have h1 := (orI_bv s (f n)).2
    split
    · split
      · exact begL_rng l _ h1
      · exact h1
    · exact begL_rng l _ h1
theorem rng0 : Rng 0 := by unfold Rng; omega
theorem begN_rng (rs : List Rl) (F : Nat) (n : Nd) : Rng (begN rs F n) := by
  cases F with
  | zero => exact rng0
  | succ F =>
    unfold begN
    split
    · split
      · exact rng0
      · exact (orI_bv _ _).2
    · exact begL_rng _ _ rng0
def InvB (F : Nat) (rs : List Rl) : Prop := ∀ (i : Nat) (r : Rl), rs[i]? = some r → subB r.begins (begN rs (F + 1) r.body) ∧ Rng r.begins
theorem inv_set {F : Nat} {rs : List Rl} {i : Nat} {r : Rl} (h : InvB F rs) (hr : rs[i]? = some r) : InvB F (setB rs i (begN rs (F + 1) r.body)) := by
  intro j q hq
  have hu := setB_up hr (h i r hr).1
  unfold setB at hq
  rw [mod_at] at hq
  split at hq
  · rename_i hij
    subst hij
    rw [hr] at hq
    have hq' : { r with begins := begN rs (F + 1) r.body } = q := by simpa using hq
    subst hq'
    exact ⟨hu.begN (F + 1) r.body, begN_rng _ _ _⟩
  · have h1 := h j q hq
    exact ⟨subB_trans h1.1 (hu.begN (F + 1) q.body), h1.2⟩
theorem roundB_end (F : Nat) : ∀ (n i : Nat) (rs : List Rl) (m : Bool), InvB F rs → InvB F (roundB F n i rs m).1 ∧ mu (roundB F n i rs m).1 ≤ mu rs ∧ ((roundB F n i rs m).2 = true → m = true ∨ mu (roundB F n i rs m).1 < mu rs)
  | 0, i, rs, m, h => ⟨h, Nat.le_refl _, fun e => .inl e⟩
  | n + 1, i, rs, m, h => by
    unfold roundB
    cases hr : rs[i]? with
    | none => exact roundB_end F n (i + 1) rs m h
    | some r =>
      dsimp only
      split
      · rename_i hne
        have hne' : begN rs (F + 1) r.body ≠ r.begins := by simpa using hne
        have hlt := mu_set rs i r _ hr (subB_lt (h i r hr).1 hne' (h i r hr).2 (begN_rng _ _ _))
        have ih := roundB_end F n (i + 1) _ true (inv_set h hr)
        exact ⟨ih.1, by omega, fun _ => .inr (by omega)⟩
      · exact roundB_end F n (i + 1) rs m h
/-- the rounds come to an end -/
theorem fixB_ends (F : Nat) : ∀ (N : Nat) (rs : List Rl), mu rs ≤ N → InvB F rs → ∃ Z rz, fixB F Z rs = some rz
  | 0, rs, hN, h => by
    have hr := roundB_end F rs.length 0 rs false h
    cases hp : (roundB F rs.length 0 rs false).2 with
    | false => exact ⟨1, _, fixB_no rfl hp⟩
    | true =>
      rcases hr.2.2 hp with e | e
      · cases e
      · omega
  | N + 1, rs, hN, h => by
    have hr := roundB_end F rs.length 0 rs false h
    cases hp : (roundB F rs.length 0 rs false).2 with
    | false => exact ⟨1, _, fixB_no rfl hp⟩
    | true =>
      rcases hr.2.2 hp with e | e
      · cases e
      · obtain ⟨Z, rz, hz⟩ := fixB_ends F N _ (by omega) hr.1
        exact ⟨Z + 1, rz, by rw [fixB_yes rfl hp]; exact hz⟩
theorem inv_zero (F : Nat) (rs : List Rl) (h : ∀ r ∈ rs, r.begins = 0) : InvB F rs := by
  intro i r hr
  rw [h r (List.mem_of_getElem? hr)]
  refine ⟨?_, rng0⟩
  unfold subB
  rw [show bv 0 = 0#64 from rfl, BitVec.zero_or]
theorem mod_zero (f : Rl → Rl) (hf : ∀ r, (f r).begins = r.begins) (rs : List Rl) (i : Nat) (h : ∀ r ∈ rs, r.begins = 0) : ∀ r ∈ rs.modify i f, r.begins = 0 := by
  intro r hr
  obtain ⟨j, hj⟩ := List.mem_iff_getElem?.1 hr
  rw [mod_at] at hj
  split at hj
  · cases hq : rs[j]? with
    | none => rw [hq] at hj; cases hj
    | some q =>
      rw [hq] at hj
      have hj' : f q = r := by simpa using hj
      rw [← hj', hf]
      exact h q (List.mem_of_getElem? hq)
  · exact h r (List.mem_of_getElem? hj)
theorem roundE_zero (F : Nat) : ∀ (n i : Nat) (rs : List Rl) (m : Bool), (∀ r ∈ rs, r.begins = 0) → ∀ r ∈ (roundE F n i rs m).1, r.begins = 0
  | 0, i, rs, m, h => h
  | n + 1, i, rs, m, h => by
    unfold roundE
    cases hr : rs[i]? with
    | none => exact roundE_zero F n (i + 1) rs m h
    | some r =>
      dsimp only
      split
      · exact roundE_zero F n (i + 1) _ true (mod_zero (fun r => { r with empty := true }) (fun _ => rfl) rs i h)
      · exact roundE_zero F n (i + 1) rs m h
theorem fixE_zero (F : Nat) : ∀ (k : Nat) (rs : List Rl), (∀ r ∈ rs, r.begins = 0) → ∀ r ∈ fixE F k rs, r.begins = 0
  | 0, rs, h => h
  | k + 1, rs, h => by
    have h1 := roundE_zero F rs.length 0 rs false h
    unfold fixE
    split
    · exact fixE_zero F k _ h1
    · exact h1
/-- check comes to an answer -/
theorem checkF_ends (F : Nat) (rs : List Rl) (h : ∀ r ∈ rs, r.begins = 0) : ∃ Z r, checkF F Z rs = some r := by
  unfold checkF
  by_cases h0 : rs.length = 0 ∨ 12 < rs.length
  · exact ⟨0, _, by rw [if_pos h0]⟩
  · obtain ⟨Z, rz, hz⟩ := fixB_ends F _ _ (Nat.le_refl _) (inv_zero F (fixE F 13 rs) (fixE_zero F 13 rs h))
    refine ⟨Z, ?_⟩
    rw [if_neg h0]
    unfold check2
    split
    · exact ⟨_, rfl⟩
    · split
      · exact ⟨_, rfl⟩
      · exact ⟨_, by rw [hz]; rfl⟩
end Go.Proofs.Ytbojcemamhiodaa

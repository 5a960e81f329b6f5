import Derived.Test.YtbojcemamhiodaaGreatDoorChkt
import Derived.Test.YtbojcemamhiodaaGreatDoorComp
import Derived.Test.YtbojcemamhiodaaGreatDoorByts
namespace Go.Proofs.YtbojcemamhiodaaGreatDoor

theorem fits_succ : ∀ (F : Nat) (ts : List Nd), fits F ts = true → fits (F + 1) ts = true
  | 0, ts, h => by simp [fits] at h
  | F + 1, ts, h => by
    unfold fits at h ⊢
    rw [List.all_eq_true] at h ⊢
    exact fun t ht => fits_succ F t.kids (h t ht)
theorem fits_mono {F F' : Nat} (hF : F ≤ F') {ts : List Nd} (h : fits F ts = true) : fits F' ts = true := by
  induction hF with
  | refl => exact h
  | step _ ih => exact fits_succ _ _ ih
theorem fits_list : ∀ ts : List Nd, (∀ t ∈ ts, ∃ F, fits F t.kids = true) → ∃ F, (ts.all fun t => fits F t.kids) = true
  | [], _ => ⟨0, rfl⟩
  | t :: ts, h => by
    obtain ⟨F1, h1⟩ := h t (by simp)
    obtain ⟨F2, h2⟩ := fits_list ts (fun t ht => h t (by simp [ht]))
    refine ⟨max F1 F2, ?_⟩
    rw [List.all_cons, Bool.and_eq_true]
    refine ⟨fits_mono (Nat.le_max_left _ _) h1, ?_⟩
    rw [List.all_eq_true] at h2 ⊢
    exact fun t ht => fits_mono (Nat.le_max_right _ _) (h2 t ht)
theorem Nd.ind {P : Nd → Prop} (h : ∀ e : Nd, (∀ k ∈ e.kids, P k) → P e) (e : Nd) : P e :=
  Nd.rec (motive_1 := P) (motive_2 := fun l => ∀ k ∈ l, P k) (fun k a t kids ih => h ⟨k, a, t, kids⟩ ih) (fun k hk => by simp at hk)
    (fun k l h1 h2 j hj => by
      rw [List.mem_cons] at hj
      rcases hj with rfl | hj
      · exact h1
      · exact h2 j hj) e
theorem fits_nd (n : Nd) : ∃ F, fits F n.kids = true := by
  refine Nd.ind (P := fun n => ∃ F, fits F n.kids = true) (fun n ih => ?_) n
  obtain ⟨F, hF⟩ := fits_list n.kids ih
  exact ⟨F + 1, by unfold fits; exact hF⟩
/-- some depth is enough for a list of rules -/
theorem fits_rules : ∀ rs : List Rl, ∃ F, (rs.all fun r => fits F r.body.kids) = true
  | [] => ⟨0, rfl⟩
  | r :: rs => by
    obtain ⟨F1, h1⟩ := fits_nd r.body
    obtain ⟨F2, h2⟩ := fits_rules rs
    refine ⟨max F1 F2, ?_⟩
    rw [List.all_cons, Bool.and_eq_true]
    refine ⟨fits_mono (Nat.le_max_left _ _) h1, ?_⟩
    rw [List.all_eq_true] at h2 ⊢
    exact fun t ht => fits_mono (Nat.le_max_right _ _) (h2 t ht)

/-- an int's bits -/
def bv (a : Int) : BitVec 64 := BitVec.ofInt 64 a
def Rng (a : Int) : Prop := -9223372036854775808 ≤ a ∧ a ≤ 9223372036854775807
def subB (a b : Int) : Prop := bv a ||| bv b = bv b
theorem bv_inj {a b : Int} (ha : Rng a) (hb : Rng b) (h : bv a = bv b) : a = b := by
  unfold bv at h
  have h1 := congrArg BitVec.toInt h
  rw [BitVec.toInt_ofInt, BitVec.toInt_ofInt] at h1
  unfold Rng at ha hb
  rw [Int.bmod_def, Int.bmod_def] at h1
  split at h1 <;> split at h1 <;> omega
theorem wrap_bv (X : BitVec 64) : BitVec.ofInt 64 (IntKind.i64.wrap (X.toNat : Int)) = X ∧ Rng (IntKind.i64.wrap (X.toNat : Int)) := by
  have hlt := X.isLt
  rw [IntKind.wrap_i64]
  constructor
  · apply BitVec.eq_of_toNat_eq
    rw [BitVec.toNat_ofInt]
    omega
  · unfold Rng
    omega
theorem orI_bv (a b : Int) : bv (orI a b) = bv a ||| bv b ∧ Rng (orI a b) := wrap_bv (BitVec.ofInt 64 a ||| BitVec.ofInt 64 b)
theorem subB_refl (a : Int) : subB a a := BitVec.or_self
theorem subB_trans {a b c : Int} (h : subB a b) (k : subB b c) : subB a c := by
  unfold subB at *
  rw [← k, ← BitVec.or_assoc, h]
theorem subB_left (a b : Int) : subB a (orI a b) := by
  unfold subB
  rw [(orI_bv a b).1, ← BitVec.or_assoc, BitVec.or_self]
theorem subB_or {a b c d : Int} (h : subB a c) (k : subB b d) : subB (orI a b) (orI c d) := by
  unfold subB at *
  rw [(orI_bv a b).1, (orI_bv c d).1, BitVec.or_assoc, ← BitVec.or_assoc (bv b), BitVec.or_comm (bv b) (bv c), BitVec.or_assoc (bv c), k, ← BitVec.or_assoc, h]

section
variable {rs rs' : List Rl}
/-- the same rules, with sets that are no less -/
structure Up (rs rs' : List Rl) : Prop where
  find : ∀ nm, findF rs' nm = findF rs nm
  emp : ∀ i, emptyAt rs' i = emptyAt rs i
  beg : ∀ i, subB (beginsAt rs i) (beginsAt rs' i)
theorem Up.may (h : Up rs rs') : ∀ (F : Nat) (n : Nd), mayE rs' F n = mayE rs F n
  | 0, n => rfl
  | F + 1, n => by
    have ih := Up.may h F
    have e : mayE rs' F = mayE rs F := funext ih
    unfold mayE
    rw [h.find, h.emp, e]
theorem begL_up {f g : Nd → Int} {e : Nd → Bool} {row : Bool} (hf : ∀ n, subB (f n) (g n)) : ∀ (l : List Nd) (s t : Int), subB s t → subB (begL f e row l s) (begL g e row l t)
  | [], s, t, h => h
  | n :: l, s, t, h => by
    unfold begL
    have h1 := subB_or h (hf n)
    split
    · split
      · exact begL_up hf l _ _ h1
      · exact h1
    · exact begL_up hf l _ _ h1
theorem Up.begN (h : Up rs rs') : ∀ (F : Nat) (n : Nd), subB (begN rs F n) (begN rs' F n)
  | 0, n => subB_refl _
  | F + 1, n => by
    have ih := Up.begN h F
    have e : mayE rs' F = mayE rs F := funext (h.may F)
    unfold Go.Proofs.YtbojcemamhiodaaGreatDoor.begN
    rw [h.find, e]
    split
    · split
      · exact subB_refl _
      · exact subB_or (subB_refl _) (h.beg _)
    · exact begL_up ih _ _ _ (subB_refl _)
end
end Go.Proofs.YtbojcemamhiodaaGreatDoor
namespace Go.Proofs.YtbojcemamhiodaaGreatDoor

theorem findFrom_mod (f : Rl → Rl) (hf : ∀ r, (f r).name = r.name) : ∀ (rs : List Rl) (i : Nat) (k : Int) (nm : ByteArray), findFrom (rs.modify i f) k nm = findFrom rs k nm
  | [], i, k, nm => by cases i <;> rfl
  | r :: rs, 0, k, nm => by
    show findFrom (f r :: rs) k nm = _
    unfold findFrom
    rw [hf]
  | r :: rs, i + 1, k, nm => by
    show findFrom (r :: rs.modify i f) k nm = _
    unfold findFrom
    rw [findFrom_mod f hf rs i (k + 1) nm]
theorem mod_at (f : Rl → Rl) (rs : List Rl) (i j : Nat) : (rs.modify i f)[j]? = if i = j then (rs[j]?).map f else rs[j]? := by
  rw [List.getElem?_modify]
  split
  · rename_i h
    cases rs[j]? <;> rfl
  · cases rs[j]? <;> rfl
theorem setB_up {rs : List Rl} {i : Nat} {r : Rl} {v : Int} (hr : rs[i]? = some r) (hs : subB r.begins v) : Up rs (setB rs i v) := by
  refine ⟨fun nm => findFrom_mod (fun r => { r with begins := v }) (fun _ => rfl) rs i 0 nm, fun k => ?_, fun k => ?_⟩
  · unfold emptyAt setB
    rw [mod_at]
    by_cases h : i = k.toNat
    · rw [if_pos h]
      cases rs[k.toNat]? <;> rfl
    · rw [if_neg h]
  · unfold beginsAt setB
    rw [mod_at]
    by_cases h : i = k.toNat
    · rw [if_pos h, ← h, hr]
      exact hs
    · rw [if_neg h]
      exact subB_refl _
def mu : List Rl → Nat
  | [] => 0
  | r :: rs => (18446744073709551616 - (bv r.begins).toNat) + mu rs
theorem mu_set : ∀ (rs : List Rl) (i : Nat) (r : Rl) (v : Int), rs[i]? = some r → (bv r.begins).toNat < (bv v).toNat → mu (setB rs i v) < mu rs
  | [], i, r, v, h, _ => by simp at h
  | q :: rs, 0, r, v, h, hl => by
    have hq : q = r := by simpa using h
    subst hq
    show (18446744073709551616 - (bv v).toNat) + mu rs < (18446744073709551616 - (bv q.begins).toNat) + mu rs
    have := (bv v).isLt
    omega
  | q :: rs, i + 1, r, v, h, hl => by
    have := mu_set rs i r v (by simpa using h) hl
    show (18446744073709551616 - (bv q.begins).toNat) + mu (setB rs i v) < (18446744073709551616 - (bv q.begins).toNat) + mu rs
    omega
theorem subB_lt {a b : Int} (h : subB a b) (hne : b ≠ a) (ha : Rng a) (hb : Rng b) : (bv a).toNat < (bv b).toNat := by
  have h1 : (bv a).toNat ≤ (bv b).toNat := by
    unfold subB at h
    rw [← h, BitVec.toNat_or]
    exact Nat.left_le_or
  have h2 : (bv a).toNat ≠ (bv b).toNat := fun e => hne (bv_inj ha hb (BitVec.eq_of_toNat_eq e)).symm
  omega
theorem begL_rng {f : Nd → Int} {e : Nd → Bool} {row : Bool} : ∀ (l : List Nd) (s : Int), Rng s → Rng (begL f e row l s)
  | [], s, h => h
  | n :: l, s, h => by
    unfold begL
    have h1 := (orI_bv s (f n)).2
    split
    · split
      · exact begL_rng l _ h1
      · exact h1
    · exact begL_rng l _ h1
theorem rng0 : Rng 0 := by unfold Rng; omega
theorem begN_rng (rs : List Rl) (F : Nat) (n : Nd) : Rng (begN rs F n) := by
  cases F with
  | zero => exact rng0
  | succ F =>
    unfold begN
    split
    · split
      · exact rng0
      · exact (orI_bv _ _).2
    · exact begL_rng _ _ rng0
def InvB (F : Nat) (rs : List Rl) : Prop := ∀ (i : Nat) (r : Rl), rs[i]? = some r → subB r.begins (begN rs (F + 1) r.body) ∧ Rng r.begins
theorem inv_set {F : Nat} {rs : List Rl} {i : Nat} {r : Rl} (h : InvB F rs) (hr : rs[i]? = some r) : InvB F (setB rs i (begN rs (F + 1) r.body)) := by
  intro j q hq
  have hu := setB_up hr (h i r hr).1
  unfold setB at hq
  rw [mod_at] at hq
  split at hq
  · rename_i hij
    subst hij
    rw [hr] at hq
    have hq' : { r with begins := begN rs (F + 1) r.body } = q := by simpa using hq
    subst hq'
    exact ⟨hu.begN (F + 1) r.body, begN_rng _ _ _⟩
  · have h1 := h j q hq
    exact ⟨subB_trans h1.1 (hu.begN (F + 1) q.body), h1.2⟩
theorem roundB_end (F : Nat) : ∀ (n i : Nat) (rs : List Rl) (m : Bool), InvB F rs → InvB F (roundB F n i rs m).1 ∧ mu (roundB F n i rs m).1 ≤ mu rs ∧ ((roundB F n i rs m).2 = true → m = true ∨ mu (roundB F n i rs m).1 < mu rs)
  | 0, i, rs, m, h => ⟨h, Nat.le_refl _, fun e => .inl e⟩
  | n + 1, i, rs, m, h => by
    unfold roundB
    cases hr : rs[i]? with
    | none => exact roundB_end F n (i + 1) rs m h
    | some r =>
      dsimp only
      split
      · rename_i hne
        have hne' : begN rs (F + 1) r.body ≠ r.begins := by simpa using hne
        have hlt := mu_set rs i r _ hr (subB_lt (h i r hr).1 hne' (h i r hr).2 (begN_rng _ _ _))
        have ih := roundB_end F n (i + 1) _ true (inv_set h hr)
        exact ⟨ih.1, by omega, fun _ => .inr (by omega)⟩
      · exact roundB_end F n (i + 1) rs m h
/-- the rounds come to an end -/
theorem fixB_ends (F : Nat) : ∀ (N : Nat) (rs : List Rl), mu rs ≤ N → InvB F rs → ∃ Z rz, fixB F Z rs = some rz
  | 0, rs, hN, h => by
    have hr := roundB_end F rs.length 0 rs false h
    cases hp : (roundB F rs.length 0 rs false).2 with
    | false => exact ⟨1, _, fixB_no rfl hp⟩
    | true =>
      rcases hr.2.2 hp with e | e
      · cases e
      · omega
  | N + 1, rs, hN, h => by
    have hr := roundB_end F rs.length 0 rs false h
    cases hp : (roundB F rs.length 0 rs false).2 with
    | false => exact ⟨1, _, fixB_no rfl hp⟩
    | true =>
      rcases hr.2.2 hp with e | e
      · cases e
      · obtain ⟨Z, rz, hz⟩ := fixB_ends F N _ (by omega) hr.1
        exact ⟨Z + 1, rz, by rw [fixB_yes rfl hp]; exact hz⟩
theorem inv_zero (F : Nat) (rs : List Rl) (h : ∀ r ∈ rs, r.begins = 0) : InvB F rs := by
  intro i r hr
  rw [h r (List.mem_of_getElem? hr)]
  refine ⟨?_, rng0⟩
  unfold subB
  rw [show bv 0 = 0#64 from rfl, BitVec.zero_or]
theorem mod_zero (f : Rl → Rl) (hf : ∀ r, (f r).begins = r.begins) (rs : List Rl) (i : Nat) (h : ∀ r ∈ rs, r.begins = 0) : ∀ r ∈ rs.modify i f, r.begins = 0 := by
  intro r hr
  obtain ⟨j, hj⟩ := List.mem_iff_getElem?.1 hr
  rw [mod_at] at hj
  split at hj
  · cases hq : rs[j]? with
    | none => rw [hq] at hj; cases hj
    | some q =>
      rw [hq] at hj
      have hj' : f q = r := by simpa using hj
      rw [← hj', hf]
      exact h q (List.mem_of_getElem? hq)
  · exact h r (List.mem_of_getElem? hj)
theorem roundE_zero (F : Nat) : ∀ (n i : Nat) (rs : List Rl) (m : Bool), (∀ r ∈ rs, r.begins = 0) → ∀ r ∈ (roundE F n i rs m).1, r.begins = 0
  | 0, i, rs, m, h => h
  | n + 1, i, rs, m, h => by
    unfold roundE
    cases hr : rs[i]? with
    | none => exact roundE_zero F n (i + 1) rs m h
    | some r =>
      dsimp only
      split
      · exact roundE_zero F n (i + 1) _ true (mod_zero (fun r => { r with empty := true }) (fun _ => rfl) rs i h)
      · exact roundE_zero F n (i + 1) rs m h
theorem fixE_zero (F : Nat) : ∀ (k : Nat) (rs : List Rl), (∀ r ∈ rs, r.begins = 0) → ∀ r ∈ fixE F k rs, r.begins = 0
  | 0, rs, h => h
  | k + 1, rs, h => by
    have h1 := roundE_zero F rs.length 0 rs false h
    unfold fixE
    split
    · exact fixE_zero F k _ h1
    · exact h1
/-- check comes to an answer -/
theorem checkF_ends (F : Nat) (rs : List Rl) (h : ∀ r ∈ rs, r.begins = 0) : ∃ Z r, checkF F Z rs = some r := by
  unfold checkF
  by_cases h0 : rs.length = 0 ∨ 12 < rs.length
  · exact ⟨0, _, by rw [if_pos h0]⟩
  · obtain ⟨Z, rz, hz⟩ := fixB_ends F _ _ (Nat.le_refl _) (inv_zero F (fixE F 13 rs) (fixE_zero F 13 rs h))
    refine ⟨Z, ?_⟩
    rw [if_neg h0]
    unfold check2
    split
    · exact ⟨_, rfl⟩
    · split
      · exact ⟨_, rfl⟩
      · exact ⟨_, by rw [hz]; rfl⟩
end Go.Proofs.YtbojcemamhiodaaGreatDoor
namespace Go.Proofs.YtbojcemamhiodaaGreatDoor

/-- an expression as the document's answer has it: its block, what it is (numbered as a node's kinds), and what hangs on it -/
structure Ex where
  b : Nat
  op : Int
  str : ByteArray
  set : Nat → Bool
  at_ : Int
  kids : List Ex

/-- the program's node of an expression -/
def Ex.norm : Ex → Nd
  | ⟨_, op, str, f, a, kids⟩ => if op = 5 ∨ op = 6 then joinF op (kids.map Ex.norm) else ⟨op, a, if op = 1 then ⟨(bytesOf f true).toArray⟩ else str, kids.map Ex.norm⟩
def normL (l : List Ex) : List Nd := l.map Ex.norm
theorem normL_map (l : List Ex) : normL l = l.map Ex.norm := rfl
theorem normL_append (l m : List Ex) : normL (l ++ m) = normL l ++ normL m := by rw [normL_map, normL_map, normL_map, List.map_append]
theorem normL_length (l : List Ex) : (normL l).length = l.length := by rw [normL_map, List.length_map]
theorem Ex.norm_join (e : Ex) (h : e.op = 5 ∨ e.op = 6) : e.norm = joinF e.op (normL e.kids) := by
  obtain ⟨b, op, str, f, a, kids⟩ := e
  rw [Ex.norm, if_pos h]
  rfl
theorem Ex.norm_else (e : Ex) (h : ¬ (e.op = 5 ∨ e.op = 6)) : e.norm = ⟨e.op, e.at_, if e.op = 1 then ⟨(bytesOf e.set true).toArray⟩ else e.str, normL e.kids⟩ := by
  obtain ⟨b, op, str, f, a, kids⟩ := e
  rw [Ex.norm, if_neg h]
  rfl

/-- well made -/
def OkX : Ex → Prop
  | ⟨_, op, _, _, a, kids⟩ => (0 ≤ op ∧ op ≤ 11) ∧ 0 ≤ a ∧ (op ≤ 3 → kids = []) ∧ (op = 4 ∨ 7 ≤ op → kids.length = 1) ∧ (op = 5 → kids.length ≠ 1) ∧ (op = 6 → 2 ≤ kids.length) ∧ ∀ k ∈ kids, OkX k
structure OkN (e : Ex) : Prop where
  op : 0 ≤ e.op ∧ e.op ≤ 11
  at0 : 0 ≤ e.at_
  leaf : e.op ≤ 3 → e.kids = []
  one : e.op = 4 ∨ 7 ≤ e.op → e.kids.length = 1
  row : e.op = 5 → e.kids.length ≠ 1
  choice : e.op = 6 → 2 ≤ e.kids.length
  kids : ∀ k ∈ e.kids, OkX k
theorem OkX_iff (e : Ex) : OkX e ↔ OkN e := by
  obtain ⟨b, op, str, f, a, kids⟩ := e
  rw [OkX]
  constructor
  · rintro ⟨h1, h2, h3, h4, h5, h6, h7⟩
    exact ⟨h1, h2, h3, h4, h5, h6, h7⟩
  · rintro ⟨h1, h2, h3, h4, h5, h6, h7⟩
    exact ⟨h1, h2, h3, h4, h5, h6, h7⟩

/-- by an expression's parts -/
theorem Ex.ind {P : Ex → Prop} (h : ∀ e : Ex, (∀ k ∈ e.kids, P k) → P e) (e : Ex) : P e :=
  Ex.rec (motive_1 := P) (motive_2 := fun l => ∀ k ∈ l, P k) (fun b op str f a kids ih => h ⟨b, op, str, f, a, kids⟩ ih) (fun k hk => by simp at hk)
    (fun k l h1 h2 j hj => by
      rw [List.mem_cons] at hj
      rcases hj with rfl | hj
      · exact h1
      · exact h2 j hj) e
theorem flat_ge {k : Int} (hk : k = 5 ∨ k = 6) : ∀ {l : List Nd}, (∀ n ∈ l, WideN n) → l.length ≤ (flatL k l).length
  | [], _ => Nat.le_refl _
  | n :: l, h => by
    have ih := flat_ge hk (l := l) fun m hm => h m (by simp [hm])
    rw [flatL, List.length_append, List.length_cons]
    split
    · rename_i e
      have := h n (by simp) (by omega)
      omega
    · simp
      omega
theorem joinL_two (k : Int) : ∀ {l : List Nd}, 2 ≤ l.length → joinL k l = nd0 k l
  | [], h => by simp at h
  | [_], h => by simp at h
  | _ :: _ :: _, _ => rfl
theorem joinF_two {k : Int} (hk : k = 5 ∨ k = 6) {l : List Nd} (hw : ∀ n ∈ l, WideN n) (h : 2 ≤ l.length) : joinF k l = nd0 k (flatL k l) := by
  unfold joinF
  exact joinL_two k (Nat.le_trans h (flat_ge hk hw))

/-- what an expression's node is -/
theorem norm_cases {e : Ex} (h : OkN e) (hw : ∀ k ∈ e.kids, WideN k.norm) :
    (¬ (e.op = 5 ∨ e.op = 6) ∧ e.norm = ⟨e.op, e.at_, if e.op = 1 then ⟨(bytesOf e.set true).toArray⟩ else e.str, normL e.kids⟩) ∨
    (e.op = 5 ∧ e.kids = [] ∧ e.norm = nd0 0 []) ∨ ((e.op = 5 ∨ e.op = 6) ∧ 2 ≤ e.kids.length ∧ e.norm = nd0 e.op (flatL e.op (normL e.kids))) := by
  by_cases ho : e.op = 5 ∨ e.op = 6
  · right
    rw [e.norm_join ho]
    by_cases h0 : e.kids.length = 0
    · have h1 : e.kids = [] := List.eq_nil_of_length_eq_zero h0
      left
      refine ⟨?_, h1, ?_⟩
      · rcases ho with ho | ho
        · exact ho
        · have := h.choice ho; omega
      · rw [h1]; rfl
    · right
      have h2 : 2 ≤ e.kids.length := by
        rcases ho with ho | ho
        · have := h.row ho; omega
        · exact h.choice ho
      refine ⟨ho, h2, joinF_two ho (fun n hn => ?_) (by rw [normL_length]; exact h2)⟩
      rw [normL_map, List.mem_map] at hn
      obtain ⟨k, hk, rfl⟩ := hn
      exact hw k hk
  · exact .inl ⟨ho, e.norm_else ho⟩
theorem norm_wide (e : Ex) : OkX e → WideN e.norm := by
  refine Ex.ind (P := fun e => OkX e → WideN e.norm) (fun e ih h => ?_) e
  rw [OkX_iff] at h
  have hw : ∀ k ∈ e.kids, WideN k.norm := fun k hk => ih k hk (h.kids k hk)
  rcases norm_cases h hw with ⟨h1, h2⟩ | ⟨_, _, h2⟩ | ⟨h1, h3, h2⟩
  · rw [h2]; intro hh; exact absurd hh h1
  · rw [h2]; intro hh; simp [nd0] at hh
  · rw [h2]
    intro _
    have := flat_ge (k := e.op) h1 (l := normL e.kids) (fun n hn => by
      rw [normL_map, List.mem_map] at hn
      obtain ⟨k, hk, rfl⟩ := hn
      exact hw k hk)
    rw [normL_length] at this
    show 2 ≤ (flatL e.op (normL e.kids)).length
    omega
theorem norm_of {e : Ex} (h : OkX e) : (¬ (e.op = 5 ∨ e.op = 6) ∧ e.norm = ⟨e.op, e.at_, if e.op = 1 then ⟨(bytesOf e.set true).toArray⟩ else e.str, normL e.kids⟩) ∨
    (e.op = 5 ∧ e.kids = [] ∧ e.norm = nd0 0 []) ∨ ((e.op = 5 ∨ e.op = 6) ∧ 2 ≤ e.kids.length ∧ e.norm = nd0 e.op (flatL e.op (normL e.kids))) := by
  rw [OkX_iff] at h
  exact norm_cases h fun k hk => norm_wide k (h.kids k hk)

/-- how many parts an expression has -/
def szX : Ex → Nat
  | ⟨_, _, _, _, _, kids⟩ => 1 + (kids.map szX).sum
def szL (l : List Ex) : Nat := (l.map szX).sum
def szN : Nd → Nat
  | ⟨_, _, _, kids⟩ => 1 + (kids.map szN).sum
def szNL (l : List Nd) : Nat := (l.map szN).sum
/-- how many that are no rows or choices -/
def cN : Nd → Nat
  | ⟨k, _, _, kids⟩ => if k = 5 ∨ k = 6 then (kids.map cN).sum else 1 + (kids.map cN).sum
def cL (l : List Nd) : Nat := (l.map cN).sum
theorem szL_cons (e : Ex) (l : List Ex) : szL (e :: l) = szX e + szL l := by simp [szL]
theorem szNL_cons (e : Nd) (l : List Nd) : szNL (e :: l) = szN e + szNL l := by simp [szNL]
theorem cL_cons (e : Nd) (l : List Nd) : cL (e :: l) = cN e + cL l := by simp [cL]
theorem szX_def (e : Ex) : szX e = 1 + szL e.kids := by obtain ⟨b, op, str, f, a, kids⟩ := e; rw [szX]; rfl
theorem szN_def (e : Nd) : szN e = 1 + szNL e.kids := by obtain ⟨b, op, str, kids⟩ := e; rw [szN]; rfl
theorem cN_def (e : Nd) : cN e = if e.kind = 5 ∨ e.kind = 6 then cL e.kids else 1 + cL e.kids := by obtain ⟨b, op, str, kids⟩ := e; rw [cN]; rfl
theorem cL_append (l m : List Nd) : cL (l ++ m) = cL l + cL m := by simp [cL]
theorem szNL_append (l m : List Nd) : szNL (l ++ m) = szNL l + szNL m := by simp [szNL]
theorem szL_append (l m : List Ex) : szL (l ++ m) = szL l + szL m := by simp [szL]
theorem cL_flat {k : Int} (hk : k = 5 ∨ k = 6) : ∀ l, cL (flatL k l) = cL l
  | [] => rfl
  | n :: l => by
    rw [flatL, cL_append, cL_cons, cL_flat hk l]
    split
    · rename_i e
      rw [cN_def, if_pos (by omega)]
    · rw [cL_cons]; rfl
theorem cL_le (l : List Nd) (h : ∀ n ∈ l, cN n ≤ szN n) : cL l ≤ szNL l := by
  induction l with
  | nil => exact Nat.le_refl _
  | cons n l ih =>
    rw [cL_cons, szNL_cons]
    have := h n (by simp)
    have := ih fun m hm => h m (by simp [hm])
    omega
theorem cN_le (n : Nd) : cN n ≤ szN n := by
  refine Nd.ind (P := fun n => cN n ≤ szN n) (fun n ih => ?_) n
  have := cL_le n.kids ih
  rw [cN_def, szN_def]
  split <;> omega
theorem szL_c : ∀ (l : List Ex), (∀ k ∈ l, szX k + 1 ≤ 2 * cN k.norm) → szL l + l.length ≤ 2 * cL (normL l)
  | [], _ => Nat.le_refl _
  | e :: l, h => by
    rw [szL_cons, show normL (e :: l) = e.norm :: normL l from rfl, cL_cons, List.length_cons]
    have h1 := h e (by simp)
    have h2 := szL_c l fun k hk => h k (by simp [hk])
    omega
theorem szX_c (e : Ex) : OkX e → szX e + 1 ≤ 2 * cN e.norm := by
  refine Ex.ind (P := fun e => OkX e → szX e + 1 ≤ 2 * cN e.norm) (fun e ih h => ?_) e
  have h' := (OkX_iff e).1 h
  have hl := szL_c e.kids fun k hk => ih k hk (h'.kids k hk)
  rw [szX_def]
  rcases norm_of h with ⟨h1, h2⟩ | ⟨_, h3, h2⟩ | ⟨h1, h3, h2⟩
  · rw [h2, cN_def, if_neg h1]
    show _ ≤ 2 * (1 + cL (normL e.kids))
    omega
  · rw [h2, h3, cN_def]; decide
  · rw [h2, cN_def, if_pos (show (nd0 e.op (flatL e.op (normL e.kids))).kind = 5 ∨ (nd0 e.op (flatL e.op (normL e.kids))).kind = 6 from h1)]
    show _ ≤ 2 * cL (flatL e.op (normL e.kids))
    rw [cL_flat h1]
    omega

/-- may an expression match nothing, by what is known of names -/
def bareX (kn : ByteArray → Bool) : Ex → Bool
  | ⟨_, op, str, _, _, kids⟩ => if op = 1 then false else if op = 0 then str.toList.isEmpty else if op = 2 then kn str else
    if op = 3 ∨ op = 7 ∨ op = 8 ∨ op = 9 ∨ op = 11 then true else if op = 6 then (kids.map fun k => bareX kn k).any id else (kids.map fun k => bareX kn k).all id
def mayW (kn : ByteArray → Bool) : Nd → Bool
  | ⟨k, _, t, kids⟩ => if k = 0 then t.toList.isEmpty else if k = 2 then kn t else
    if k = 3 ∨ k = 7 ∨ k = 8 ∨ k = 9 ∨ k = 11 then true else if k = 10 ∨ k = 4 ∨ k = 5 then (kids.map fun k => mayW kn k).all id else if k = 6 then (kids.map fun k => mayW kn k).any id else false
theorem map_any {α : Type} (f : α → Bool) (l : List α) : (l.map f).any id = l.any f := by rw [List.any_map]; rfl
theorem map_all {α : Type} (f : α → Bool) (l : List α) : (l.map f).all id = l.all f := by rw [List.all_map]; rfl
theorem bareX_def (kn : ByteArray → Bool) (e : Ex) : bareX kn e = if e.op = 1 then false else if e.op = 0 then e.str.toList.isEmpty else if e.op = 2 then kn e.str else
    if e.op = 3 ∨ e.op = 7 ∨ e.op = 8 ∨ e.op = 9 ∨ e.op = 11 then true else if e.op = 6 then e.kids.any (bareX kn) else e.kids.all (bareX kn) := by
  obtain ⟨b, op, str, f, a, kids⟩ := e
  rw [bareX, map_any, map_all]
theorem mayW_def (kn : ByteArray → Bool) (n : Nd) : mayW kn n = if n.kind = 0 then n.text.toList.isEmpty else if n.kind = 2 then kn n.text else
    if n.kind = 3 ∨ n.kind = 7 ∨ n.kind = 8 ∨ n.kind = 9 ∨ n.kind = 11 then true else if n.kind = 10 ∨ n.kind = 4 ∨ n.kind = 5 then n.kids.all (mayW kn) else if n.kind = 6 then n.kids.any (mayW kn) else false := by
  obtain ⟨k, a, t, kids⟩ := n
  rw [mayW, map_any, map_all]
/-- what the program knows of a name -/
def knR (rs : List Rl) (nm : ByteArray) : Bool := decide (0 ≤ findF rs nm) && emptyAt rs (findF rs nm)
theorem all_congr' {α : Type} {f g : α → Bool} : ∀ {l : List α}, (∀ x ∈ l, f x = g x) → l.all f = l.all g
  | [], _ => rfl
  | x :: l, h => by rw [List.all_cons, List.all_cons, h x (by simp), all_congr' fun y hy => h y (by simp [hy])]
theorem any_congr' {α : Type} {f g : α → Bool} : ∀ {l : List α}, (∀ x ∈ l, f x = g x) → l.any f = l.any g
  | [], _ => rfl
  | x :: l, h => by rw [List.any_cons, List.any_cons, h x (by simp), any_congr' fun y hy => h y (by simp [hy])]
theorem fits_kid {F : Nat} {n k : Nd} (h : fits F n.kids = true) (hk : k ∈ n.kids) : ∃ F', F = F' + 1 ∧ fits F' k.kids = true := by
  cases F with
  | zero => simp [fits] at h
  | succ F => 
    rw [fits, List.all_eq_true] at h
    exact ⟨F, rfl, h k hk⟩
theorem mayE_W (rs : List Rl) (n : Nd) : ∀ F, fits F n.kids = true → mayE rs (F + 1) n = mayW (knR rs) n := by
  refine Nd.ind (P := fun n => ∀ F, fits F n.kids = true → mayE rs (F + 1) n = mayW (knR rs) n) (fun n ih F h => ?_) n
  have hk : ∀ k ∈ n.kids, mayE rs F k = mayW (knR rs) k := fun k hk => by
    obtain ⟨F', rfl, hf⟩ := fits_kid h hk
    exact ih k hk F' hf
  rw [mayE, mayW_def, all_congr' hk, any_congr' hk]
  rfl
theorem flat_all {k : Int} {f : Nd → Bool} (hf : ∀ n, n.kind = k → f n = n.kids.all f) : ∀ l, (flatL k l).all f = l.all f
  | [] => rfl
  | n :: l => by
    rw [flatL, List.all_append, List.all_cons, flat_all hf l]
    split
    · rename_i e; rw [hf n e]
    · simp
theorem flat_any {k : Int} {f : Nd → Bool} (hf : ∀ n, n.kind = k → f n = n.kids.any f) : ∀ l, (flatL k l).any f = l.any f
  | [] => rfl
  | n :: l => by
    rw [flatL, List.any_append, List.any_cons, flat_any hf l]
    split
    · rename_i e; rw [hf n e]
    · simp
theorem all_norm {f : Nd → Bool} {g : Ex → Bool} {l : List Ex} (h : ∀ k ∈ l, f k.norm = g k) : (normL l).all f = l.all g := by
  rw [normL_map, List.all_map]
  exact all_congr' h
theorem any_norm {f : Nd → Bool} {g : Ex → Bool} {l : List Ex} (h : ∀ k ∈ l, f k.norm = g k) : (normL l).any f = l.any g := by
  rw [normL_map, List.any_map]
  exact any_congr' h
theorem mayW_5 (kn : ByteArray → Bool) {n : Nd} (h : n.kind = 5) : mayW kn n = n.kids.all (mayW kn) := by
  rw [mayW_def, h]; rfl
theorem mayW_6 (kn : ByteArray → Bool) {n : Nd} (h : n.kind = 6) : mayW kn n = n.kids.any (mayW kn) := by
  rw [mayW_def, h]; rfl
theorem may_norm (kn : ByteArray → Bool) (e : Ex) : OkX e → mayW kn e.norm = bareX kn e := by
  refine Ex.ind (P := fun e => OkX e → mayW kn e.norm = bareX kn e) (fun e ih h => ?_) e
  have h' := (OkX_iff e).1 h
  have hk : ∀ k ∈ e.kids, mayW kn k.norm = bareX kn k := fun k hk => ih k hk (h'.kids k hk)
  have ho := h'.op
  rw [bareX_def]
  rcases norm_of h with ⟨h1, h2⟩ | ⟨h1, h3, h2⟩ | ⟨h1, h3, h2⟩
  · rw [h2, mayW_def]
    dsimp only
    rw [all_norm hk, any_norm hk]
    by_cases e1 : e.op = 1
    · simp [e1]
    · simp only [e1, if_false]
      by_cases e0 : e.op = 0
      · simp [e0]
      · by_cases e2 : e.op = 2
        · simp [e2]
        · by_cases e3 : e.op = 3 ∨ e.op = 7 ∨ e.op = 8 ∨ e.op = 9 ∨ e.op = 11
          · simp [e0, e2, e3]
          · have e4 : e.op = 10 ∨ e.op = 4 ∨ e.op = 5 := by omega
            have e6 : e.op ≠ 6 := by omega
            simp [e0, e2, e3, e4, e6]
  · rw [h2, mayW_def, h1, h3]; simp [nd0]
  · rcases h1 with h1 | h1
    · rw [h2, h1, mayW_5 kn rfl]
      show (flatL 5 (normL e.kids)).all (mayW kn) = _
      rw [flat_all (fun n hn => mayW_5 kn hn), all_norm hk]; rfl
    · rw [h2, h1, mayW_6 kn rfl]
      show (flatL 6 (normL e.kids)).any (mayW kn) = _
      rw [flat_any (fun n hn => mayW_6 kn hn), any_norm hk]; rfl
end Go.Proofs.YtbojcemamhiodaaGreatDoor
namespace Go.Proofs.YtbojcemamhiodaaGreatDoor

/-- the first that is told of a list of expressions -/
def firstX (f : Ex → Int) : List Ex → Int
  | [] => -1
  | e :: l => if (f e != -1) = true then f e else firstX f l
theorem firstL_norm {f : Nd → Int} {g : Ex → Int} : ∀ {l : List Ex}, (∀ k ∈ l, f k.norm = g k) → firstL f (normL l) = firstX g l
  | [], _ => rfl
  | e :: l, h => by
    rw [show normL (e :: l) = e.norm :: normL l from rfl, firstL, firstX, h e (by simp), firstL_norm fun k hk => h k (by simp [hk])]
theorem firstL_congr {f g : Nd → Int} : ∀ {l : List Nd}, (∀ k ∈ l, f k = g k) → firstL f l = firstL g l
  | [], _ => rfl
  | e :: l, h => by
    rw [firstL, firstL, h e (by simp), firstL_congr fun k hk => h k (by simp [hk])]
theorem firstL_append (f : Nd → Int) : ∀ l m, firstL f (l ++ m) = if (firstL f l != -1) = true then firstL f l else firstL f m
  | [], m => by simp [firstL]
  | e :: l, m => by
    rw [List.cons_append, firstL, firstL, firstL_append f l m]
    by_cases h : (f e != -1) = true
    · simp [h]
    · simp [h]
theorem firstL_flat {k : Int} {f : Nd → Int} (hf : ∀ n, n.kind = k → f n = firstL f n.kids) : ∀ l, firstL f (flatL k l) = firstL f l
  | [] => rfl
  | n :: l => by
    rw [flatL, firstL_append, firstL, firstL_flat hf l]
    split
    · rename_i e
      rw [hf n e]
    · have e1 : firstL f [n] = f n := by
        unfold firstL firstL
        split
        · rfl
        · rename_i h; exact (by simpa using h : f n = -1).symm
      rw [e1]

/-- a name that is not known -/
def unkX (un : ByteArray → Bool) : Ex → Int
  | ⟨_, op, str, _, a, kids⟩ => if op = 2 ∧ un str = true then a else ((kids.map fun k => unkX un k).find? (· != -1)).getD (-1)
theorem find_first {α : Type} (f : α → Int) (g : List α → Int) (h0 : g [] = -1) (h1 : ∀ x l, g (x :: l) = if (f x != -1) = true then f x else g l) : ∀ l, ((l.map f).find? (· != -1)).getD (-1) = g l
  | [] => by rw [h0]; rfl
  | x :: l => by
    rw [h1, List.map_cons, List.find?_cons]
    cases hx : (f x != -1)
    · rw [if_neg (by simp)]; exact find_first f g h0 h1 l
    · simp
theorem unkX_def (un : ByteArray → Bool) (e : Ex) : unkX un e = if e.op = 2 ∧ un e.str = true then e.at_ else firstX (unkX un) e.kids := by
  obtain ⟨b, op, str, f, a, kids⟩ := e
  rw [unkX, find_first (unkX un) (firstX (unkX un)) rfl (fun _ _ => rfl)]
/-- the same of a node -/
def unkW (un : ByteArray → Bool) : Nd → Int
  | ⟨k, a, t, kids⟩ => if k = 2 ∧ un t = true then a else ((kids.map fun n => unkW un n).find? (· != -1)).getD (-1)
theorem unkW_def (un : ByteArray → Bool) (n : Nd) : unkW un n = if n.kind = 2 ∧ un n.text = true then n.at_ else firstL (unkW un) n.kids := by
  obtain ⟨k, a, t, kids⟩ := n
  rw [unkW, find_first (unkW un) (firstL (unkW un)) rfl (fun _ _ => rfl)]
def unR (rs : List Rl) (nm : ByteArray) : Bool := decide (findF rs nm < 0)
theorem unkN_W (rs : List Rl) (n : Nd) : ∀ F, fits F n.kids = true → unkN rs (F + 1) n = unkW (unR rs) n := by
  refine Nd.ind (P := fun n => ∀ F, fits F n.kids = true → unkN rs (F + 1) n = unkW (unR rs) n) (fun n ih F h => ?_) n
  have hk : ∀ k ∈ n.kids, unkN rs F k = unkW (unR rs) k := fun k hk => by
    obtain ⟨F', rfl, hf⟩ := fits_kid h hk
    exact ih k hk F' hf
  rw [unkN, unkW_def, firstL_congr hk]
  simp [unR]
theorem unkW_57 (un : ByteArray → Bool) {n : Nd} (h : n.kind ≠ 2) : unkW un n = firstL (unkW un) n.kids := by
  rw [unkW_def, if_neg (fun e => h e.1)]
theorem unk_norm (un : ByteArray → Bool) (e : Ex) : OkX e → unkW un e.norm = unkX un e := by
  refine Ex.ind (P := fun e => OkX e → unkW un e.norm = unkX un e) (fun e ih h => ?_) e
  have h' := (OkX_iff e).1 h
  have hk : ∀ k ∈ e.kids, unkW un k.norm = unkX un k := fun k hk => ih k hk (h'.kids k hk)
  rw [unkX_def]
  rcases norm_of h with ⟨h1, h2⟩ | ⟨h1, h3, h2⟩ | ⟨h1, h3, h2⟩
  · rw [h2, unkW_def]
    dsimp only
    rw [firstL_norm hk]
    by_cases e2 : e.op = 2
    · simp [e2]
    · simp [e2]
  · rw [h2, unkW_def, h1, h3]
    simp [nd0, firstL, firstX]
  · have e2 : e.op ≠ 2 := by omega
    rw [h2, unkW_57 un (show (nd0 e.op _).kind ≠ 2 from e2), if_neg (fun x => e2 x.1)]
    show firstL (unkW un) (flatL e.op (normL e.kids)) = _
    rw [firstL_flat (fun n hn => unkW_57 un (by omega)), firstL_norm hk]

/-- the first sign behind what may match nothing -/
def loopX (kn : ByteArray → Bool) : Ex → Int
  | ⟨_, op, _, _, a, kids⟩ => if (((kids.map fun k => loopX kn k).find? (· != -1)).getD (-1) != -1) = true then ((kids.map fun k => loopX kn k).find? (· != -1)).getD (-1) else
    if op ≠ 9 ∧ op ≠ 10 then -1 else if kids.all (bareX kn) = true then a else -1
theorem loopX_def (kn : ByteArray → Bool) (e : Ex) : loopX kn e = if (firstX (loopX kn) e.kids != -1) = true then firstX (loopX kn) e.kids else
    if e.op ≠ 9 ∧ e.op ≠ 10 then -1 else if e.kids.all (bareX kn) = true then e.at_ else -1 := by
  obtain ⟨b, op, str, f, a, kids⟩ := e
  rw [loopX, find_first (loopX kn) (firstX (loopX kn)) rfl (fun _ _ => rfl)]
def loopW (kn : ByteArray → Bool) : Nd → Int
  | ⟨k, a, _, kids⟩ => if (((kids.map fun n => loopW kn n).find? (· != -1)).getD (-1) != -1) = true then ((kids.map fun n => loopW kn n).find? (· != -1)).getD (-1) else
    if k ≠ 9 ∧ k ≠ 10 then -1 else if kids.all (mayW kn) = true then a else -1
theorem loopW_def (kn : ByteArray → Bool) (n : Nd) : loopW kn n = if (firstL (loopW kn) n.kids != -1) = true then firstL (loopW kn) n.kids else
    if n.kind ≠ 9 ∧ n.kind ≠ 10 then -1 else if n.kids.all (mayW kn) = true then n.at_ else -1 := by
  obtain ⟨k, a, t, kids⟩ := n
  rw [loopW, find_first (loopW kn) (firstL (loopW kn)) rfl (fun _ _ => rfl)]
theorem loopN_W (rs : List Rl) (n : Nd) : ∀ F, fits F n.kids = true → loopN rs (F + 1) n = loopW (knR rs) n := by
  refine Nd.ind (P := fun n => ∀ F, fits F n.kids = true → loopN rs (F + 1) n = loopW (knR rs) n) (fun n ih F h => ?_) n
  have hk : ∀ k ∈ n.kids, loopN rs F k = loopW (knR rs) k := fun k hk => by
    obtain ⟨F', rfl, hf⟩ := fits_kid h hk
    exact ih k hk F' hf
  have hm : ∀ k ∈ n.kids, mayE rs F k = mayW (knR rs) k := fun k hk => by
    obtain ⟨F', rfl, hf⟩ := fits_kid h hk
    exact mayE_W rs k F' hf
  rw [loopN, loopW_def, firstL_congr hk, all_congr' hm]
theorem loopW_57 (kn : ByteArray → Bool) {n : Nd} (h : n.kind = 5 ∨ n.kind = 6) : loopW kn n = firstL (loopW kn) n.kids := by
  rw [loopW_def]
  split
  · rfl
  · rename_i hh
    rw [if_pos ⟨by omega, by omega⟩]
    exact (by simpa using hh : firstL (loopW kn) n.kids = -1).symm
theorem loop_norm (kn : ByteArray → Bool) (e : Ex) : OkX e → loopW kn e.norm = loopX kn e := by
  refine Ex.ind (P := fun e => OkX e → loopW kn e.norm = loopX kn e) (fun e ih h => ?_) e
  have h' := (OkX_iff e).1 h
  have hk : ∀ k ∈ e.kids, loopW kn k.norm = loopX kn k := fun k hk => ih k hk (h'.kids k hk)
  have hm : ∀ k ∈ e.kids, mayW kn k.norm = bareX kn k := fun k hk => may_norm kn k (h'.kids k hk)
  rw [loopX_def]
  rcases norm_of h with ⟨h1, h2⟩ | ⟨h1, h3, h2⟩ | ⟨h1, h3, h2⟩
  · rw [h2, loopW_def]
    dsimp only
    rw [firstL_norm hk, all_norm hm]
  · rw [h2, loopW_def, h1, h3]
    simp [nd0, firstL, firstX]
  · rw [h2, loopW_57 kn (show (nd0 e.op _).kind = 5 ∨ (nd0 e.op _).kind = 6 from h1)]
    show firstL (loopW kn) (flatL e.op (normL e.kids)) = _
    rw [firstL_flat (fun n hn => loopW_57 kn (by omega)), firstL_norm hk]
    split
    · rfl
    · rename_i hh
      rw [if_pos ⟨by omega, by omega⟩]
      simpa using hh

/-- in order: what is within first -/
def allX : Ex → List Ex
  | ⟨b, op, str, f, a, kids⟩ => (kids.map allX).flatten ++ [⟨b, op, str, f, a, kids⟩]
theorem allX_def (e : Ex) : allX e = (e.kids.map allX).flatten ++ [e] := by
  obtain ⟨b, op, str, f, a, kids⟩ := e
  rw [allX]
/-- the place of the first of a list for which p holds -/
def fstP (p : Ex → Bool) : List Ex → Int
  | [] => -1
  | e :: l => if p e = true then e.at_ else fstP p l
theorem fstP_append {p : Ex → Bool} : ∀ {l : List Ex} (m : List Ex), (∀ e ∈ l, 0 ≤ e.at_) → fstP p (l ++ m) = if (fstP p l != -1) = true then fstP p l else fstP p m
  | [], m, _ => by simp [fstP]
  | e :: l, m, h => by
    rw [List.cons_append, fstP, fstP, fstP_append m fun k hk => h k (by simp [hk])]
    have := h e (by simp)
    by_cases hp : p e = true
    · have : (e.at_ != -1) = true := by simp; omega
      simp [hp, this]
    · simp [hp]
theorem allX_ok (e : Ex) : OkX e → ∀ k ∈ allX e, OkX k := by
  refine Ex.ind (P := fun e => OkX e → ∀ k ∈ allX e, OkX k) (fun e ih h k hk => ?_) e
  rw [allX_def, List.mem_append] at hk
  rcases hk with hk | hk
  · rw [List.mem_flatten] at hk
    obtain ⟨l, hl, hk⟩ := hk
    rw [List.mem_map] at hl
    obtain ⟨j, hj, rfl⟩ := hl
    exact ih j hj (((OkX_iff e).1 h).kids j hj) k hk
  · rw [List.mem_singleton] at hk
    rw [hk]; exact h
theorem fst_kids {p : Ex → Bool} {g : Ex → Int} : ∀ {l : List Ex}, (∀ k ∈ l, OkX k) → (∀ k ∈ l, g k = fstP p (allX k)) → firstX g l = fstP p (l.map allX).flatten
  | [], _, _ => rfl
  | e :: l, ho, h => by
    rw [firstX, List.map_cons, List.flatten_cons, fstP_append _ (fun k hk => ((OkX_iff k).1 (allX_ok e (ho e (by simp)) k hk)).at0), h e (by simp), fst_kids (fun k hk => ho k (by simp [hk])) fun k hk => h k (by simp [hk])]
theorem kids_at0 {e : Ex} (h : OkX e) : ∀ k ∈ (e.kids.map allX).flatten, 0 ≤ k.at_ := fun k hk =>
  ((OkX_iff k).1 (allX_ok e h k (by rw [allX_def]; exact List.mem_append_left _ hk))).at0
theorem unk_all (un : ByteArray → Bool) (e : Ex) : OkX e → unkX un e = fstP (fun x => x.op == 2 && un x.str) (allX e) := by
  refine Ex.ind (P := fun e => OkX e → unkX un e = fstP (fun x => x.op == 2 && un x.str) (allX e)) (fun e ih h => ?_) e
  have h' := (OkX_iff e).1 h
  rw [unkX_def, allX_def, fstP_append _ (kids_at0 h), ← fst_kids h'.kids (fun k hk => ih k hk (h'.kids k hk)), fstP, fstP]
  by_cases e2 : e.op = 2
  · have := h'.leaf (by omega)
    rw [this]
    simp [e2, firstX]
  · by_cases hh : (firstX (unkX un) e.kids != -1) = true
    · simp [e2, hh]
    · simp [e2, hh]
      simpa using hh
theorem loop_all (kn : ByteArray → Bool) (e : Ex) : OkX e → loopX kn e = fstP (fun x => (x.op == 9 || x.op == 10) && x.kids.all (bareX kn)) (allX e) := by
  refine Ex.ind (P := fun e => OkX e → loopX kn e = fstP (fun x => (x.op == 9 || x.op == 10) && x.kids.all (bareX kn)) (allX e)) (fun e ih h => ?_) e
  have h' := (OkX_iff e).1 h
  rw [loopX_def, allX_def, fstP_append _ (kids_at0 h), ← fst_kids h'.kids (fun k hk => ih k hk (h'.kids k hk)), fstP, fstP]
  split
  · rfl
  · by_cases e9 : e.op = 9
    · simp [e9]
    · by_cases e10 : e.op = 10
      · simp [e10]
      · simp [e9, e10]
theorem allX_len (e : Ex) : (allX e).length = szX e := by
  refine Ex.ind (P := fun e => (allX e).length = szX e) (fun e ih => ?_) e
  rw [allX_def, szX_def, List.length_append, List.length_flatten, szL, List.map_map, Nat.add_comm]
  congr 2
  exact List.map_congr_left ih
end Go.Proofs.YtbojcemamhiodaaGreatDoor
namespace Go.Proofs.YtbojcemamhiodaaGreatDoor

/-- what a row begins with: up to the first part that may not be empty -/
def rowNm : List (List ByteArray × Bool) → List ByteArray
  | [] => []
  | p :: l => p.1 ++ (if p.2 = true then rowNm l else [])
def begX (kn : ByteArray → Bool) : Ex → List ByteArray
  | ⟨_, op, str, _, _, kids⟩ => if op = 2 then [str] else if op = 5 then rowNm (kids.map fun k => (begX kn k, bareX kn k)) else (kids.map fun k => begX kn k).flatten
def begW (kn : ByteArray → Bool) : Nd → List ByteArray
  | ⟨k, _, t, kids⟩ => if k = 2 then [t] else if k = 5 then rowNm (kids.map fun n => (begW kn n, mayW kn n)) else (kids.map fun n => begW kn n).flatten
theorem begX_def (kn : ByteArray → Bool) (e : Ex) : begX kn e = if e.op = 2 then [e.str] else if e.op = 5 then rowNm (e.kids.map fun k => (begX kn k, bareX kn k)) else (e.kids.map (begX kn)).flatten := by
  obtain ⟨b, op, str, f, a, kids⟩ := e
  rw [begX]
theorem begW_def (kn : ByteArray → Bool) (n : Nd) : begW kn n = if n.kind = 2 then [n.text] else if n.kind = 5 then rowNm (n.kids.map fun k => (begW kn k, mayW kn k)) else (n.kids.map (begW kn)).flatten := by
  obtain ⟨k, a, t, kids⟩ := n
  rw [begW]
theorem rowNm_append : ∀ l m : List (List ByteArray × Bool), rowNm (l ++ m) = rowNm l ++ (if (l.all fun p => p.2) = true then rowNm m else [])
  | [], m => by simp [rowNm]
  | p :: l, m => by
    rw [List.cons_append, rowNm, rowNm, rowNm_append l m]
    rw [List.all_cons]
    cases p.2 with
    | false => simp
    | true => rw [Bool.true_and, if_pos rfl, if_pos rfl, List.append_assoc]
theorem rowNm_flat {f : Nd → List ByteArray × Bool} (h1 : ∀ n, n.kind = 5 → (f n).1 = rowNm (n.kids.map f)) (h2 : ∀ n, n.kind = 5 → (f n).2 = n.kids.all fun k => (f k).2) : ∀ l, rowNm ((flatL 5 l).map f) = rowNm (l.map f)
  | [] => rfl
  | n :: l => by
    rw [flatL, List.map_append, rowNm_append, List.map_cons, rowNm, rowNm_flat h1 h2 l]
    split
    · rename_i e
      rw [h1 n e, h2 n e, List.all_map]; rfl
    · simp [rowNm]
theorem flat_flat {f : Nd → List ByteArray} {k : Int} (h : ∀ n, n.kind = k → f n = (n.kids.map f).flatten) : ∀ l, ((flatL k l).map f).flatten = (l.map f).flatten
  | [] => rfl
  | n :: l => by
    rw [flatL, List.map_append, List.flatten_append, List.map_cons, List.flatten_cons, flat_flat h l]
    split
    · rename_i e
      rw [h n e]
    · simp
theorem beg_norm (kn : ByteArray → Bool) (e : Ex) : OkX e → begW kn e.norm = begX kn e := by
  refine Ex.ind (P := fun e => OkX e → begW kn e.norm = begX kn e) (fun e ih h => ?_) e
  have h' := (OkX_iff e).1 h
  have hk : ∀ k ∈ e.kids, begW kn k.norm = begX kn k := fun k hk => ih k hk (h'.kids k hk)
  have hm : ∀ k ∈ e.kids, mayW kn k.norm = bareX kn k := fun k hk => may_norm kn k (h'.kids k hk)
  have e1 : (normL e.kids).map (begW kn) = e.kids.map (begX kn) := by
    rw [normL_map, List.map_map]
    exact List.map_congr_left hk
  have e2 : ((normL e.kids).map fun k => (begW kn k, mayW kn k)) = e.kids.map fun k => (begX kn k, bareX kn k) := by
    rw [normL_map, List.map_map]
    exact List.map_congr_left fun k hk' => by simp [hk k hk', hm k hk']
  rw [begX_def]
  rcases norm_of h with ⟨h1, h2⟩ | ⟨h1, h3, h2⟩ | ⟨h1, h3, h2⟩
  · rw [h2, begW_def]
    dsimp only
    rw [e1, e2]
    by_cases o2 : e.op = 2
    · simp [o2]
    · simp [o2]
  · rw [h2, begW_def, h1, h3]
    simp [nd0, rowNm]
  · rcases h1 with h1 | h1
    · rw [h2, begW_def, h1]
      show rowNm ((flatL 5 (normL e.kids)).map fun k => (begW kn k, mayW kn k)) = rowNm (e.kids.map fun k => (begX kn k, bareX kn k))
      rw [rowNm_flat, e2]
      · intro n hn
        show begW kn n = _
        rw [begW_def, hn]; rfl
      · intro n hn
        show mayW kn n = _
        rw [mayW_5 kn hn]
    · rw [h2, begW_def, h1]
      show ((flatL 6 (normL e.kids)).map (begW kn)).flatten = (e.kids.map (begX kn)).flatten
      rw [flat_flat, e1]
      intro n hn
      rw [begW_def, hn]; rfl
/-- what an expression begins with are names in it -/
theorem beg_known (kn un : ByteArray → Bool) (e : Ex) : OkX e → unkX un e = -1 → ∀ nm ∈ begX kn e, un nm = false := by
  refine Ex.ind (P := fun e => OkX e → unkX un e = -1 → ∀ nm ∈ begX kn e, un nm = false) (fun e ih h hu nm hnm => ?_) e
  have h' := (OkX_iff e).1 h
  have fl : ∀ l : List Ex, (∀ k ∈ l, k ∈ e.kids) → firstX (unkX un) l = -1 → ∀ k ∈ l, unkX un k = -1 := by
    intro l
    induction l with
    | nil => intro _ _ k hk; simp at hk
    | cons x l ihl =>
      intro hm hf k hk
      rw [firstX] at hf
      split at hf
      · rename_i hx; rw [hf] at hx; simp at hx
      · rename_i hx
        rw [List.mem_cons] at hk
        rcases hk with rfl | hk
        · simpa using hx
        · exact ihl (fun j hj => hm j (by simp [hj])) hf k hk
  have rn : ∀ l : List Ex, (∀ k ∈ l, k ∈ e.kids) → ∀ x ∈ rowNm (l.map fun k => (begX kn k, bareX kn k)), ∃ k ∈ l, x ∈ begX kn k := by
    intro l
    induction l with
    | nil => intro _ x hx; simp [rowNm] at hx
    | cons y l ihl =>
      intro hm x hx
      rw [List.map_cons, rowNm, List.mem_append] at hx
      rcases hx with hx | hx
      · exact ⟨y, by simp, hx⟩
      · split at hx
        · obtain ⟨k, hk, hx⟩ := ihl (fun j hj => hm j (by simp [hj])) x hx
          exact ⟨k, by simp [hk], hx⟩
        · simp at hx
  rw [unkX_def] at hu
  rw [begX_def] at hnm
  by_cases o2 : e.op = 2
  · rw [if_pos o2] at hnm
    have : nm = e.str := by simpa using hnm
    subst this
    cases hx : un e.str with
    | false => rfl
    | true =>
      rw [if_pos ⟨o2, hx⟩] at hu
      have := h'.at0
      omega
  · rw [if_neg (fun x => o2 x.1)] at hu
    rw [if_neg o2] at hnm
    obtain ⟨k, hk, hx⟩ : ∃ k ∈ e.kids, nm ∈ begX kn k := by
      split at hnm
      · exact rn e.kids (fun _ h => h) nm hnm
      · rw [List.mem_flatten] at hnm
        obtain ⟨l, hl, hx⟩ := hnm
        rw [List.mem_map] at hl
        obtain ⟨k, hk, rfl⟩ := hl
        exact ⟨k, hk, hx⟩
    exact ih k hk (h'.kids k hk) (fl e.kids (fun _ h => h) hu k hk) nm hx

/-- a bit of an int -/
def hb (v : Int) (j : Nat) : Bool := (bv v).getLsbD j
theorem hb_or (a b : Int) (j : Nat) : hb (orI a b) j = (hb a j || hb b j) := by
  unfold hb
  rw [(orI_bv a b).1, BitVec.getLsbD_or]
theorem hb_zero (j : Nat) : hb 0 j = false := by
  unfold hb bv
  simp
theorem hb_bit (i : Nat) (hi : i < 60) (j : Nat) : hb (bitI i) j = decide (i = j) := by
  unfold hb bitI bv
  rw [Int.toNat_natCast]
  have e : BitVec.ofInt 64 ((2 ^ i : Nat) : Int) = BitVec.twoPow 64 i := by
    apply BitVec.eq_of_toNat_eq
    rw [BitVec.toNat_ofInt, BitVec.toNat_twoPow]
    have h1 : 2 ^ i < 2 ^ 64 := Nat.pow_lt_pow_right (by omega) (by omega)
    have h2 : ((2 ^ i : Nat) : Int) % ((2 ^ 64 : Nat) : Int) = ((2 ^ i : Nat) : Int) := Int.emod_eq_of_lt (Int.natCast_nonneg _) (Int.ofNat_lt.2 h1)
    rw [h2, Int.toNat_natCast, Nat.mod_eq_of_lt h1]
  rw [e, BitVec.getLsbD_twoPow]
  by_cases h : i = j
  · simp [h]; omega
  · simp [h]
theorem hb_and {v : Int} {i : Nat} (hi : i < 60) : (bits .and .i64 v (bitI i) != 0) = hb v i := by
  have e1 : ∀ X : BitVec 64, IntKind.i64.wrap (X.toNat : Int) = 0 ↔ X = 0#64 := by
    intro X
    have hlt := X.isLt
    rw [IntKind.wrap_i64]
    constructor
    · intro h
      apply BitVec.eq_of_toNat_eq
      simp
      omega
    · intro h
      rw [h]
      decide
  have e2 : bits .and .i64 v (bitI i) = IntKind.i64.wrap (((bv v &&& bv (bitI i)).toNat : Nat) : Int) := rfl
  have hbit : ∀ j, (bv (bitI i)).getLsbD j = decide (i = j) := hb_bit i hi
  cases hx : hb v i with
  | false =>
    have : bv v &&& bv (bitI i) = 0#64 := by
      apply BitVec.eq_of_getLsbD_eq
      intro j _
      rw [BitVec.getLsbD_and, hbit]
      by_cases h : i = j
      · subst h
        have hx' : (bv v).getLsbD i = false := hx
        simp [hx']
      · simp [h]
    rw [e2, (e1 _).2 this]
    rfl
  | true =>
    have : bv v &&& bv (bitI i) ≠ 0#64 := by
      intro h
      have h1 := congrArg (fun X => BitVec.getLsbD X i) h
      simp only [BitVec.getLsbD_and, hbit] at h1
      have hx' : (bv v).getLsbD i = true := hx
      simp [hx'] at h1
    have h3 : bits .and .i64 v (bitI i) ≠ 0 := by
      rw [e2]
      exact fun h => this ((e1 _).1 h)
    simpa using h3
/-- what a name adds -/
def gb (rs : List Rl) (j : Nat) (nm : ByteArray) : Bool := decide (0 ≤ findF rs nm) && (decide (findF rs nm = j) || hb (beginsAt rs (findF rs nm)) j)
theorem begL_hb {f : Nd → Int} {e : Nd → Bool} {B : Nd → List ByteArray} {M : Nd → Bool} {p : ByteArray → Bool} (j : Nat) : ∀ (l : List Nd) (s : Int), (∀ n ∈ l, hb (f n) j = (B n).any p) → (∀ n ∈ l, e n = M n) →
    hb (begL f e true l s) j = (hb s j || (rowNm (l.map fun n => (B n, M n))).any p) ∧ hb (begL f e false l s) j = (hb s j || ((l.map B).flatten).any p)
  | [], s, _, _ => by simp [begL, rowNm]
  | n :: l, s, h1, h2 => by
    have ih := begL_hb (f := f) (e := e) (B := B) (M := M) (p := p) j l (orI s (f n)) (fun k hk => h1 k (by simp [hk])) (fun k hk => h2 k (by simp [hk]))
    refine ⟨?_, ?_⟩
    · rw [begL, if_pos rfl, h2 n (by simp), List.map_cons, rowNm, List.any_append]
      cases hM : M n with
      | true => rw [if_pos rfl, ih.1, hb_or, h1 n (by simp), Bool.or_assoc]; simp
      | false => rw [if_neg (by simp), hb_or, h1 n (by simp)]; simp
    · rw [begL, if_neg (by simp), ih.2, hb_or, h1 n (by simp), List.map_cons, List.flatten_cons, List.any_append, Bool.or_assoc]
theorem begN_W (rs : List Rl) (hl : rs.length ≤ 12) (j : Nat) (n : Nd) : ∀ F, fits F n.kids = true → hb (begN rs (F + 1) n) j = (begW (knR rs) n).any (gb rs j) := by
  refine Nd.ind (P := fun n => ∀ F, fits F n.kids = true → hb (begN rs (F + 1) n) j = (begW (knR rs) n).any (gb rs j)) (fun n ih F h => ?_) n
  have hk : ∀ k ∈ n.kids, hb (begN rs F k) j = (begW (knR rs) k).any (gb rs j) := fun k hk => by
    obtain ⟨F', rfl, hf⟩ := fits_kid h hk
    exact ih k hk F' hf
  have hm : ∀ k ∈ n.kids, mayE rs F k = mayW (knR rs) k := fun k hk => by
    obtain ⟨F', rfl, hf⟩ := fits_kid h hk
    exact mayE_W rs k F' hf
  have key := begL_hb (f := begN rs F) (e := mayE rs F) j n.kids 0 hk hm
  rw [begN, begW_def]
  by_cases o2 : n.kind = 2
  · rw [if_pos o2, if_pos o2]
    have hr := findF_range rs n.text
    split
    · rename_i hx
      simp [gb, hb_zero]
      intro h0; omega
    · rename_i hx
      obtain ⟨i, hi⟩ : ∃ i : Nat, findF rs n.text = i := ⟨(findF rs n.text).toNat, by omega⟩
      rw [hb_or, hi, hb_bit i (by omega)]
      have e : decide ((i : Int) = (j : Int)) = decide (i = j) := decide_eq_decide.2 Int.ofNat_inj
      simp only [List.any_cons, List.any_nil, Bool.or_false, gb, hi, e]
      simp
  · rw [if_neg o2, if_neg o2]
    by_cases o5 : n.kind = 5
    · rw [if_pos o5, show (n.kind == 5) = true by simp [o5], key.1, hb_zero, Bool.false_or]
    · rw [if_neg o5, show (n.kind == 5) = false by simp [o5], key.2, hb_zero, Bool.false_or]
end Go.Proofs.YtbojcemamhiodaaGreatDoor
namespace Go.Proofs.YtbojcemamhiodaaGreatDoor

/-- how many below n -/
def cnt : Nat → (Nat → Bool) → Nat
  | 0, _ => 0
  | n + 1, f => cnt n f + (if f n = true then 1 else 0)
theorem cnt_le : ∀ n f, cnt n f ≤ n
  | 0, _ => Nat.le_refl _
  | n + 1, f => by
    have := cnt_le n f
    rw [cnt]
    split <;> omega
theorem cnt_mono : ∀ n {f g : Nat → Bool}, (∀ i, i < n → f i = true → g i = true) → cnt n f ≤ cnt n g
  | 0, _, _, _ => Nat.le_refl _
  | n + 1, f, g, h => by
    have h1 := cnt_mono n (f := f) (g := g) fun i hi => h i (by omega)
    have h2 := h n (by omega)
    rw [cnt, cnt]
    split
    · rename_i e; rw [if_pos (h2 e)]; omega
    · split <;> omega
theorem cnt_lt : ∀ n {f g : Nat → Bool}, (∀ i, i < n → f i = true → g i = true) → ∀ j, j < n → f j ≠ g j → cnt n f < cnt n g
  | 0, _, _, _, j, hj, _ => by omega
  | n + 1, f, g, h, j, hj, hne => by
    have h2 := h n (by omega)
    rw [cnt, cnt]
    by_cases hjn : j = n
    · subst hjn
      have h1 := cnt_mono j (f := f) (g := g) fun i hi => h i (by omega)
      cases hf : f j with
      | true => exact absurd (hf.trans (h2 hf).symm) hne
      | false =>
        cases hg : g j with
        | false => exact absurd (hf.trans hg.symm) hne
        | true => simp; omega
    · have h1 := cnt_lt n (f := f) (g := g) (fun i hi => h i (by omega)) j (by omega) hne
      split
      · rename_i e; rw [if_pos (h2 e)]; omega
      · split <;> omega
/-- a chain that only grows, and that stands still once it has stood still, stands still after n steps -/
theorem stable (n : Nat) (f : Nat → Nat → Bool) (h0 : ∀ k i, i < n → f k i = true → f (k + 1) i = true) (h1 : ∀ k, (∀ i, i < n → f (k + 1) i = f k i) → ∀ i, i < n → f (k + 2) i = f (k + 1) i) :
    ∀ i, i < n → f (n + 1) i = f n i := by
  have still : ∀ m d, (∀ i, i < n → f (m + 1) i = f m i) → ∀ i, i < n → f (m + d + 1) i = f (m + d) i := by
    intro m d hm
    induction d with
    | zero => exact hm
    | succ d ih => exact h1 (m + d) ih
  have key : ∀ k, (∃ m, m < k ∧ ∀ i, i < n → f (m + 1) i = f m i) ∨ k ≤ cnt n (f k) := by
    intro k
    induction k with
    | zero => exact .inr (Nat.zero_le _)
    | succ k ih =>
      rcases ih with ⟨m, hm, h⟩ | ih
      · exact .inl ⟨m, by omega, h⟩
      · by_cases hs : ∀ i, i < n → f (k + 1) i = f k i
        · exact .inl ⟨k, by omega, hs⟩
        · right
          have : ∃ j, j < n ∧ f k j ≠ f (k + 1) j := Classical.byContradiction fun hc => hs fun i hi => Classical.byContradiction fun hx => hc ⟨i, hi, fun e => hx e.symm⟩
          obtain ⟨j, hj, hne⟩ := this
          have := cnt_lt n (f := f k) (g := f (k + 1)) (h0 k) j hj hne
          omega
  rcases key (n + 1) with ⟨m, hm, h⟩ | h
  · have := still m (n - m) h
    rwa [show m + (n - m) = n by omega] at this
  · have := cnt_le n (f (n + 1))
    omega

/-- one thing leads to another in k + 1 steps -/
def Rch (E : Nat → Nat → Prop) : Nat → Nat → Nat → Prop
  | 0, i, j => E i j
  | k + 1, i, j => ∃ c, E i c ∧ Rch E k c j
def Reach (E : Nat → Nat → Prop) (i j : Nat) : Prop := ∃ k, Rch E k i j
theorem Rch.snoc {E : Nat → Nat → Prop} : ∀ {k i j l}, Rch E k i j → E j l → Rch E (k + 1) i l
  | 0, _, j, _, h, h2 => ⟨j, h, h2⟩
  | _ + 1, _, _, _, ⟨c, hc, h⟩, h2 => ⟨c, hc, h.snoc h2⟩
/-- a set that holds what a leads to at once and that is closed -/
theorem reach_in {E : Nat → Nat → Prop} {a : Nat} {P : Nat → Prop} (h0 : ∀ c, E a c → P c) (h1 : ∀ b c, P b → E b c → P c) : ∀ c, Reach E a c → P c := by
  have key : ∀ k b c, P b → Rch E k b c → P c := by
    intro k
    induction k with
    | zero => exact fun b c hb h => h1 b c hb h
    | succ k ih => exact fun b c hb ⟨d, hd, h⟩ => ih d c (h1 b d hb hd) h
  rintro c ⟨k, h⟩
  cases k with
  | zero => exact h0 c h
  | succ k =>
    obtain ⟨d, hd, h⟩ := h
    exact key k d c (h0 d hd) h

/-- a function turned at a place -/
def upd (f : Nat → Bool) (c : Nat) (v : Bool) (i : Nat) : Bool := if i = c then v else f i
/-- what is known after m rounds, by what rules are -/
def empK (bare : (Nat → Bool) → Nat → Bool) : Nat → Nat → Bool
  | 0 => fun _ => false
  | m + 1 => bare (empK bare m)
/-- where in has spread: from b on, along what b begins with -/
def stepR (b : Nat) : List Nat → (Nat → Bool) → Nat → Bool
  | [], f => f
  | c :: l, f => stepR b l (upd f c (f c || f b))
def roundR (fs : Nat → List Nat) : List Nat → (Nat → Bool) → Nat → Bool
  | [], f => f
  | b :: l, f => roundR fs l (stepR b (fs b) f)
def startR : List Nat → (Nat → Bool) → Nat → Bool
  | [], f => f
  | c :: l, f => startR l (upd f c true)
def roundsR (fs : Nat → List Nat) (n : Nat) : Nat → (Nat → Bool) → Nat → Bool
  | 0, f => f
  | k + 1, f => roundsR fs n k (roundR fs (List.range n) f)
/-- with what rule a may begin -/
def reachR (fs : Nat → List Nat) (n a : Nat) : Nat → Bool := roundsR fs n n (startR (fs a) fun _ => false)

theorem upd_le {f : Nat → Bool} {c : Nat} {v : Bool} (hv : f c = true → v = true) (i : Nat) (h : f i = true) : upd f c v i = true := by
  unfold upd
  split
  · rename_i e; subst e; exact hv h
  · exact h
theorem stepR_le (b : Nat) : ∀ (l : List Nat) (f : Nat → Bool) (i : Nat), f i = true → stepR b l f i = true
  | [], _, _, h => h
  | c :: l, f, i, h => stepR_le b l _ i (upd_le (fun h => by rw [h]; rfl) i h)
theorem roundR_le (fs : Nat → List Nat) : ∀ (l : List Nat) (f : Nat → Bool) (i : Nat), f i = true → roundR fs l f i = true
  | [], _, _, h => h
  | b :: l, f, i, h => roundR_le fs l _ i (stepR_le b _ f i h)
theorem stepR_has (b : Nat) : ∀ (l : List Nat) (f : Nat → Bool) (c : Nat), c ∈ l → f b = true → stepR b l f c = true
  | [], _, _, h, _ => by simp at h
  | d :: l, f, c, h, hb => by
    rw [stepR]
    rw [List.mem_cons] at h
    rcases h with rfl | h
    · refine stepR_le b l _ c ?_
      unfold upd
      rw [if_pos rfl, hb, Bool.or_true]
    · exact stepR_has b l _ c h (upd_le (fun h => by rw [h]; rfl) b hb)
theorem roundR_has (fs : Nat → List Nat) : ∀ (l : List Nat) (f : Nat → Bool) (b c : Nat), b ∈ l → c ∈ fs b → f b = true → roundR fs l f c = true
  | [], _, _, _, h, _, _ => by simp at h
  | d :: l, f, b, c, h, hc, hb => by
    rw [roundR]
    rw [List.mem_cons] at h
    rcases h with rfl | h
    · exact roundR_le fs l _ c (stepR_has b _ f c hc hb)
    · exact roundR_has fs l _ b c h hc (stepR_le d _ f b hb)
theorem startR_has : ∀ (l : List Nat) (f : Nat → Bool) (c : Nat), c ∈ l ∨ f c = true → startR l f c = true
  | [], f, c, h => by
    rcases h with h | h
    · simp at h
    · exact h
  | d :: l, f, c, h => by
    rw [startR]
    refine startR_has l _ c ?_
    rcases h with h | h
    · rw [List.mem_cons] at h
      rcases h with rfl | h
      · right; unfold upd; rw [if_pos rfl]
      · exact .inl h
    · exact .inr (upd_le (fun _ => rfl) c h)
theorem startR_only {P : Nat → Prop} : ∀ (l : List Nat) (f : Nat → Bool), (∀ c ∈ l, P c) → (∀ c, f c = true → P c) → ∀ c, startR l f c = true → P c
  | [], _, _, h, c, hc => h c hc
  | d :: l, f, hl, h, c, hc => by
    rw [startR] at hc
    refine startR_only l _ (fun c hc => hl c (by simp [hc])) (fun i hi => ?_) c hc
    unfold upd at hi
    split at hi
    · rename_i e; rw [e]; exact hl d (by simp)
    · exact h i hi
theorem stepR_only {P : Nat → Prop} (b : Nat) : ∀ (l : List Nat) (f : Nat → Bool), (∀ c ∈ l, P b → P c) → (∀ c, f c = true → P c) → ∀ c, stepR b l f c = true → P c
  | [], _, _, h, c, hc => h c hc
  | d :: l, f, hl, h, c, hc => by
    rw [stepR] at hc
    refine stepR_only b l _ (fun c hc => hl c (by simp [hc])) (fun i hi => ?_) c hc
    unfold upd at hi
    split at hi
    · rename_i e
      rw [e]
      rw [Bool.or_eq_true] at hi
      rcases hi with hi | hi
      · exact h d hi
      · exact hl d (by simp) (h b hi)
    · exact h i hi
theorem roundR_only {P : Nat → Prop} (fs : Nat → List Nat) (hE : ∀ b c, P b → c ∈ fs b → P c) : ∀ (l : List Nat) (f : Nat → Bool), (∀ c, f c = true → P c) → ∀ c, roundR fs l f c = true → P c
  | [], _, h, c, hc => h c hc
  | b :: l, f, h, c, hc => by
    rw [roundR] at hc
    exact roundR_only fs hE l _ (stepR_only b _ f (fun c hc hb => hE b c hb hc) h) c hc
theorem roundsR_only {P : Nat → Prop} (fs : Nat → List Nat) (n : Nat) (hE : ∀ b c, P b → c ∈ fs b → P c) : ∀ (k : Nat) (f : Nat → Bool), (∀ c, f c = true → P c) → ∀ c, roundsR fs n k f c = true → P c
  | 0, _, h, c, hc => h c hc
  | k + 1, f, h, c, hc => roundsR_only fs n hE k _ (roundR_only fs hE _ f h) c hc
theorem roundsR_succ (fs : Nat → List Nat) (n : Nat) : ∀ (k : Nat) (f : Nat → Bool), roundsR fs n (k + 1) f = roundR fs (List.range n) (roundsR fs n k f)
  | 0, _ => rfl
  | k + 1, f => by rw [roundsR, roundsR_succ fs n k, roundsR]
/-- beyond n nothing turns -/
theorem stepR_out {n b : Nat} : ∀ (l : List Nat) (f : Nat → Bool), (∀ c ∈ l, c < n) → ∀ i, n ≤ i → stepR b l f i = f i
  | [], _, _, _, _ => rfl
  | c :: l, f, h, i, hi => by
    rw [stepR, stepR_out l _ (fun d hd => h d (by simp [hd])) i hi]
    have := h c (by simp)
    unfold upd
    rw [if_neg (by omega)]
theorem roundR_out {n : Nat} {fs : Nat → List Nat} (hfs : ∀ b c, c ∈ fs b → c < n) : ∀ (l : List Nat) (f : Nat → Bool) (i : Nat), n ≤ i → roundR fs l f i = f i
  | [], _, _, _ => rfl
  | b :: l, f, i, hi => by rw [roundR, roundR_out hfs l _ i hi, stepR_out _ _ (hfs b) i hi]
/-- just what can be reached -/
theorem reachR_iff (fs : Nat → List Nat) (n a : Nat) (hfs : ∀ b c, c ∈ fs b → c < n) (c : Nat) : reachR fs n a c = true ↔ Reach (fun i j => j ∈ fs i) a c := by
  constructor
  · intro h
    refine roundsR_only (P := Reach (fun i j => j ∈ fs i) a) fs n (fun b c ⟨k, hk⟩ hc => ⟨k + 1, hk.snoc hc⟩) n _ (startR_only _ _ (fun c hc => ⟨0, hc⟩) (fun c hc => by cases hc)) c h
  · intro h
    have hge : ∀ k i, roundsR fs n k (startR (fs a) fun _ => false) i = true → roundsR fs n (k + 1) (startR (fs a) fun _ => false) i = true := by
      intro k i hi
      rw [roundsR_succ]
      exact roundR_le fs _ _ i hi
    have hst := stable n (fun k => roundsR fs n k (startR (fs a) fun _ => false)) (fun k i _ hi => hge k i hi) (fun k hk => by
      have e : roundsR fs n (k + 1) (startR (fs a) fun _ => false) = roundsR fs n k (startR (fs a) fun _ => false) := by
        funext i
        by_cases hi : i < n
        · exact hk i hi
        · rw [roundsR_succ, roundR_out hfs _ _ i (by omega)]
      intro i _
      show roundsR fs n (k + 2) _ i = roundsR fs n (k + 1) _ i
      rw [roundsR_succ, e, ← roundsR_succ, e])
    have h0 : ∀ k c, startR (fs a) (fun _ => false) c = true → roundsR fs n k (startR (fs a) fun _ => false) c = true := by
      intro k c hc
      induction k with
      | zero => exact hc
      | succ k ih => exact hge k c ih
    refine reach_in (P := fun c => reachR fs n a c = true) (fun c hc => h0 n c (startR_has _ _ c (.inl hc))) (fun b c hb hc => ?_) c h
    have hcn := hfs b c hc
    have hbn : b < n := Classical.byContradiction fun hx => by
      have : ∀ k, roundsR fs n k (startR (fs a) fun _ => false) b = true → b < n := by
        intro k
        exact roundsR_only (P := fun c => c < n) fs n (fun b c _ hc => hfs b c hc) k _ (startR_only _ _ (fun c hc => hfs a c hc) (fun c hc => by cases hc)) b
      exact hx (this n hb)
    have := roundR_has fs (List.range n) _ b c (List.mem_range.2 hbn) hc hb
    unfold reachR at this ⊢
    rw [← roundsR_succ] at this
    rw [← hst c hcn]
    exact this
end Go.Proofs.YtbojcemamhiodaaGreatDoor
namespace Go.Proofs.YtbojcemamhiodaaGreatDoor

section
variable {rs rs' : List Rl}
/-- the same rules, but for what is found out of them -/
structure SameR (rs rs' : List Rl) : Prop where
  len : rs'.length = rs.length
  at_ : ∀ (i : Nat) (r : Rl), rs[i]? = some r → ∃ r', rs'[i]? = some r' ∧ r'.name = r.name ∧ r'.at_ = r.at_ ∧ r'.body = r.body
theorem SameR.refl (rs : List Rl) : SameR rs rs := ⟨rfl, fun _ r h => ⟨r, h, rfl, rfl, rfl⟩⟩
theorem SameR.trans {a b c : List Rl} (h : SameR a b) (k : SameR b c) : SameR a c :=
  ⟨k.len.trans h.len, fun i r hr => by
    obtain ⟨r1, h1, e1, e2, e3⟩ := h.at_ i r hr
    obtain ⟨r2, h2, f1, f2, f3⟩ := k.at_ i r1 h1
    exact ⟨r2, h2, f1.trans e1, f2.trans e2, f3.trans e3⟩⟩
theorem SameR.mod (f : Rl → Rl) (hf : ∀ r, (f r).name = r.name ∧ (f r).at_ = r.at_ ∧ (f r).body = r.body) (rs : List Rl) (i : Nat) : SameR rs (rs.modify i f) := by
  refine ⟨by simp, fun j r hr => ?_⟩
  rw [mod_at, hr]
  by_cases h : i = j
  · exact ⟨f r, by rw [if_pos h]; rfl, hf r⟩
  · exact ⟨r, by rw [if_neg h], rfl, rfl, rfl⟩
theorem findFrom_same : ∀ (rs rs' : List Rl) (k : Int) (nm : ByteArray), SameR rs rs' → findFrom rs' k nm = findFrom rs k nm
  | [], [], _, _, _ => rfl
  | [], _ :: _, _, _, h => by have := h.len; simp at this
  | _ :: _, [], _, _, h => by have := h.len; simp at this
  | r :: rs, r' :: rs', k, nm, h => by
    obtain ⟨q, hq, e1, _, _⟩ := h.at_ 0 r rfl
    have : r' = q := by simpa using hq
    subst this
    rw [findFrom, findFrom, e1, findFrom_same rs rs' (k + 1) nm ⟨by have := h.len; simpa using this, fun i r hr => h.at_ (i + 1) r (by simpa using hr)⟩]
theorem SameR.find (h : SameR rs rs') (nm : ByteArray) : findF rs' nm = findF rs nm := findFrom_same rs rs' 0 nm h
end

/-- what is known of a name, by what is known of rules -/
def knF (rs : List Rl) (f : Nat → Bool) (nm : ByteArray) : Bool := decide (0 ≤ findF rs nm) && f (findF rs nm).toNat
def empF (rs : List Rl) (i : Nat) : Bool := emptyAt rs i
theorem knR_F (rs : List Rl) : knR rs = knF rs (empF rs) := by
  funext nm
  unfold knR knF empF emptyAt
  by_cases h : 0 ≤ findF rs nm
  · simp only [h, decide_true, Bool.true_and, Int.toNat_natCast]
  · simp [h]

/-- more is known, more may be empty -/
theorem mayW_mono {kn kn' : ByteArray → Bool} (h : ∀ nm, kn nm = true → kn' nm = true) (n : Nd) : mayW kn n = true → mayW kn' n = true := by
  refine Nd.ind (P := fun n => mayW kn n = true → mayW kn' n = true) (fun n ih hn => ?_) n
  rw [mayW_def] at hn ⊢
  split
  · rename_i e; rw [if_pos e] at hn; exact hn
  · rename_i e; rw [if_neg e] at hn
    split
    · rename_i e; rw [if_pos e] at hn; exact h _ hn
    · rename_i e; rw [if_neg e] at hn
      split
      · rfl
      · rename_i e; rw [if_neg e] at hn
        split
        · rename_i e; rw [if_pos e] at hn
          rw [List.all_eq_true] at hn ⊢
          exact fun k hk => ih k hk (hn k hk)
        · rename_i e; rw [if_neg e] at hn
          split
          · rename_i e; rw [if_pos e] at hn
            rw [List.any_eq_true] at hn ⊢
            obtain ⟨k, hk, hx⟩ := hn
            exact ⟨k, hk, ih k hk hx⟩
          · rename_i e; rw [if_neg e] at hn; exact hn
theorem mayW_congr {kn kn' : ByteArray → Bool} (h : ∀ nm, kn nm = kn' nm) (n : Nd) : mayW kn n = mayW kn' n := by rw [funext h]

/-- round by round: the rules stay, what is empty stays so, and what is added is so for a reason -/
theorem roundE_good (F : Nat) (P : Nat → Bool) : ∀ (n i : Nat) (rs : List Rl) (m : Bool), DeepF F rs → (∀ (j : Nat) (r : Rl), rs[j]? = some r → mayW (knF rs P) r.body = true → P j = true) → (∀ j, empF rs j = true → P j = true) →
    SameR rs (roundE F n i rs m).1 ∧ DeepF F (roundE F n i rs m).1 ∧ (∀ j, empF (roundE F n i rs m).1 j = true → P j = true) ∧
    ((roundE F n i rs m).2 = false → m = false ∧ (roundE F n i rs m).1 = rs ∧ ∀ (j : Nat) (r : Rl), i ≤ j → j < i + n → rs[j]? = some r → mayE rs (F + 1) r.body = true → r.empty = true)
  | 0, i, rs, m, hd, hp, he => ⟨SameR.refl _, hd, he, fun h => ⟨h, rfl, fun j r h1 h2 => by omega⟩⟩
  | n + 1, i, rs, m, hd, hp, he => by
    unfold roundE
    cases hr : rs[i]? with
    | none =>
      obtain ⟨h1, h2, h3, h4⟩ := roundE_good F P n (i + 1) rs m hd hp he
      refine ⟨h1, h2, h3, fun h => ⟨(h4 h).1, (h4 h).2.1, fun j r hj1 hj2 hjr => ?_⟩⟩
      by_cases hji : j = i
      · subst hji; rw [hr] at hjr; cases hjr
      · exact (h4 h).2.2 j r (by omega) (by omega) hjr
    | some r =>
      dsimp only
      split
      · rename_i hx
        rw [Bool.and_eq_true] at hx
        have hS : SameR rs (setE rs i) := SameR.mod (fun r => { r with empty := true }) (fun _ => ⟨rfl, rfl, rfl⟩) rs i
        have hPi : P i = true := by
          refine hp i r hr ?_
          have hm := hx.1
          rw [mayE_W rs r.body F (hd r (List.mem_of_getElem? hr)), knR_F] at hm
          refine mayW_mono (fun nm hn => ?_) _ hm
          unfold knF at hn ⊢
          rw [Bool.and_eq_true] at hn ⊢
          exact ⟨hn.1, he _ hn.2⟩
        obtain ⟨h1, h2, h3, h4⟩ := roundE_good F P n (i + 1) (setE rs i) true (fun q hq => by
            obtain ⟨j, hj⟩ := List.mem_iff_getElem?.1 hq
            unfold setE at hj
            rw [mod_at] at hj
            split at hj
            · cases hq2 : rs[j]? with
              | none => rw [hq2] at hj; cases hj
              | some q2 =>
                rw [hq2] at hj
                have e : { q2 with empty := true } = q := by simpa using hj
                rw [← e]
                exact hd q2 (List.mem_of_getElem? hq2)
            · exact hd q (List.mem_of_getElem? hj))
          (fun j q hj hm => by
            have e : knF (setE rs i) P = knF rs P := by funext nm; unfold knF; rw [hS.find]
            rw [e] at hm
            unfold setE at hj
            rw [mod_at] at hj
            split at hj
            · cases hq2 : rs[j]? with
              | none => rw [hq2] at hj; cases hj
              | some q2 =>
                rw [hq2] at hj
                have e : { q2 with empty := true } = q := by simpa using hj
                rw [← e] at hm
                exact hp j q2 hq2 hm
            · exact hp j q hj hm)
          (fun j hj => by
            unfold empF emptyAt setE at hj
            rw [mod_at, Int.toNat_natCast] at hj
            by_cases e : i = j
            · rw [← e]; exact hPi
            · rw [if_neg e] at hj
              exact he j (by unfold empF emptyAt; rw [Int.toNat_natCast]; exact hj))
        exact ⟨hS.trans h1, h2, h3, fun h => absurd (h4 h).1 (by simp)⟩
      · rename_i hx
        obtain ⟨h1, h2, h3, h4⟩ := roundE_good F P n (i + 1) rs m hd hp he
        refine ⟨h1, h2, h3, fun h => ⟨(h4 h).1, (h4 h).2.1, fun j q hj1 hj2 hjr hm => ?_⟩⟩
        by_cases hji : j = i
        · subst hji
          rw [hr] at hjr
          injection hjr with hjr
          subst hjr
          rw [hm] at hx
          simpa using hx
        · exact (h4 h).2.2 j q (by omega) (by omega) hjr hm
theorem fixE_good (F : Nat) (P : Nat → Bool) : ∀ (k : Nat) (rs : List Rl), open_ rs < k → DeepF F rs → (∀ (j : Nat) (r : Rl), rs[j]? = some r → mayW (knF rs P) r.body = true → P j = true) → (∀ j, empF rs j = true → P j = true) →
    SameR rs (fixE F k rs) ∧ DeepF F (fixE F k rs) ∧ (∀ j, empF (fixE F k rs) j = true → P j = true) ∧ ∀ (j : Nat) (r : Rl), (fixE F k rs)[j]? = some r → mayE (fixE F k rs) (F + 1) r.body = true → r.empty = true
  | 0, rs, h, _, _, _ => by omega
  | k + 1, rs, h, hd, hp, he => by
    obtain ⟨h1, h2, h3, h4⟩ := roundE_good F P rs.length 0 rs false hd hp he
    have ho := roundE_open F rs.length 0 rs false
    unfold fixE
    split
    · rename_i hx
      have hlt : open_ (roundE F rs.length 0 rs false).1 < k := by
        rcases ho.2 hx with e | e
        · cases e
        · omega
      obtain ⟨g1, g2, g3, g4⟩ := fixE_good F P k _ hlt h2 (fun j r hj hm => by
        have hl : j < rs.length := by
          have := (List.getElem?_eq_some_iff.1 hj).1
          have := h1.len
          omega
        obtain ⟨r', hr', e1, e2, e3⟩ := h1.at_ j rs[j] (List.getElem?_eq_getElem hl)
        rw [hj] at hr'
        injection hr' with hr'
        rw [hr', e3] at hm
        have e : knF (roundE F rs.length 0 rs false).1 P = knF rs P := by funext nm; unfold knF; rw [h1.find]
        rw [e] at hm
        exact hp j _ (List.getElem?_eq_getElem hl) hm) h3
      exact ⟨h1.trans g1, g2, g3, g4⟩
    · rename_i hx
      have h5 := h4 (by simpa using hx)
      rw [h5.2.1]
      refine ⟨SameR.refl _, hd, he, fun j r hj hm => h5.2.2 j r (by omega) ?_ hj hm⟩
      have := (List.getElem?_eq_some_iff.1 hj).1
      omega
/-- what rules may be empty, level by level -/
def bareF (rs : List Rl) (f : Nat → Bool) (i : Nat) : Bool := match rs[i]? with | some r => mayW (knF rs f) r.body | none => false
theorem knF_mono {rs : List Rl} {f g : Nat → Bool} (h : ∀ i, i < rs.length → f i = true → g i = true) (nm : ByteArray) : knF rs f nm = true → knF rs g nm = true := by
  unfold knF
  rw [Bool.and_eq_true, Bool.and_eq_true]
  rintro ⟨h1, h2⟩
  have := findF_range rs nm
  have h1' : 0 ≤ findF rs nm := by simpa using h1
  exact ⟨h1, h _ (by omega) h2⟩
theorem bareF_mono {rs : List Rl} {f g : Nat → Bool} (h : ∀ i, i < rs.length → f i = true → g i = true) (i : Nat) : bareF rs f i = true → bareF rs g i = true := by
  unfold bareF
  cases rs[i]? with
  | none => exact fun h => h
  | some r => exact mayW_mono (knF_mono h) r.body
theorem empK_up (rs : List Rl) : ∀ (k i : Nat), empK (bareF rs) k i = true → empK (bareF rs) (k + 1) i = true
  | 0, _, h => by cases h
  | k + 1, i, h => bareF_mono (fun j _ hj => empK_up rs k j hj) i h
theorem empK_still (rs : List Rl) (i : Nat) (hi : i < rs.length) : empK (bareF rs) (rs.length + 1) i = empK (bareF rs) rs.length i := by
  refine stable rs.length (empK (bareF rs)) (fun k i _ h => empK_up rs k i h) (fun k hk i _ => ?_) i hi
  cases hx : empK (bareF rs) (k + 2) i with
  | true => exact (bareF_mono (fun j hj h => by rw [← hk j hj]; exact h) i hx).symm
  | false =>
    cases hy : empK (bareF rs) (k + 1) i with
    | false => rfl
    | true => rw [empK_up rs (k + 1) i hy] at hx; cases hx
/-- both ways come to the same -/
theorem fixE_emp (F : Nat) (rs : List Rl) (hn : rs.length ≤ 12) (hd : DeepF F rs) (h0 : ∀ r ∈ rs, r.empty = false) :
    SameR rs (fixE F 13 rs) ∧ DeepF F (fixE F 13 rs) ∧ ∀ i, i < rs.length → empF (fixE F 13 rs) i = empK (bareF rs) rs.length i := by
  have ho := open_le rs
  have hP0 : ∀ (P : Nat → Bool) (j : Nat), empF rs j = true → P j = true := fun P j hj => by
    unfold empF emptyAt at hj
    rw [Int.toNat_natCast] at hj
    cases hr : rs[j]? with
    | none => rw [hr] at hj; cases hj
    | some r =>
      rw [hr] at hj
      dsimp only at hj
      rw [h0 r (List.mem_of_getElem? hr)] at hj
      cases hj
  obtain ⟨h1, h2, h3, h4⟩ := fixE_good F (fun i => empK (bareF rs) rs.length i) 13 rs (by omega) hd (fun j r hj hm => by
    have hl := (List.getElem?_eq_some_iff.1 hj).1
    show empK (bareF rs) rs.length j = true
    rw [← empK_still rs j hl]
    show bareF rs (empK (bareF rs) rs.length) j = true
    unfold bareF
    rw [hj]
    exact hm) (hP0 _)
  refine ⟨h1, h2, fun i hi => ?_⟩
  have hup : ∀ k i, i < rs.length → empK (bareF rs) k i = true → empF (fixE F 13 rs) i = true := by
    intro k
    induction k with
    | zero => intro i _ h; cases h
    | succ k ih =>
      intro i hi h
      have h' : bareF rs (empK (bareF rs) k) i = true := h
      have h5 := bareF_mono (g := empF (fixE F 13 rs)) (fun j hj hx => ih j hj hx) i h'
      unfold bareF at h5
      rw [List.getElem?_eq_getElem hi] at h5
      obtain ⟨r', hr', e1, e2, e3⟩ := h1.at_ i rs[i] (List.getElem?_eq_getElem hi)
      have h6 := h4 i r' hr' (by
        rw [mayE_W _ r'.body F (h2 r' (List.mem_of_getElem? hr')), knR_F, e3]
        have e : knF (fixE F 13 rs) (empF (fixE F 13 rs)) = knF rs (empF (fixE F 13 rs)) := by funext nm; unfold knF; rw [h1.find]
        rw [e]
        exact h5)
      unfold empF emptyAt
      rw [Int.toNat_natCast, hr']
      exact h6
  cases hx : empK (bareF rs) rs.length i with
  | true => exact hup _ i hi hx
  | false =>
    cases hy : empF (fixE F 13 rs) i with
    | false => rfl
    | true =>
      have h7 : empK (bareF rs) rs.length i = true := h3 i hy
      rw [hx] at h7; cases h7
end Go.Proofs.YtbojcemamhiodaaGreatDoor
namespace Go.Proofs.YtbojcemamhiodaaGreatDoor

theorem DeepF.same {F : Nat} {rs rs' : List Rl} (h : DeepF F rs) (hs : SameR rs rs') : DeepF F rs' := by
  intro q hq
  obtain ⟨j, hj⟩ := List.mem_iff_getElem?.1 hq
  have hl : j < rs.length := by
    have := (List.getElem?_eq_some_iff.1 hj).1
    have := hs.len
    omega
  obtain ⟨r', hr', e1, e2, e3⟩ := hs.at_ j rs[j] (List.getElem?_eq_getElem hl)
  rw [hj] at hr'
  injection hr' with hr'
  rw [hr', e3]
  exact h _ (List.getElem_mem hl)
theorem knR_same {rs rs' : List Rl} (hs : SameR rs rs') (he : ∀ i, emptyAt rs' i = emptyAt rs i) : knR rs' = knR rs := by
  funext nm
  unfold knR
  rw [hs.find, he]
/-- what P owes: it holds what a rule leads to at once, and what that leads to -/
def ClosedB (rs : List Rl) (P : Nat → Nat → Prop) : Prop := ∀ (j : Nat) (r : Rl), rs[j]? = some r → ∀ nm ∈ begW (knR rs) r.body, 0 ≤ findF rs nm → ∀ l : Nat, (findF rs nm = l ∨ P (findF rs nm).toNat l) → P j l
def HoldsB (rs : List Rl) (P : Nat → Nat → Prop) : Prop := ∀ (j : Nat) (r : Rl), rs[j]? = some r → ∀ l, hb r.begins l = true → P j l
theorem roundB_good (F : Nat) (P : Nat → Nat → Prop) : ∀ (n i : Nat) (rs : List Rl) (m : Bool), rs.length ≤ 12 → DeepF F rs → ClosedB rs P → HoldsB rs P →
    SameR rs (roundB F n i rs m).1 ∧ (∀ q : Int, emptyAt (roundB F n i rs m).1 q = emptyAt rs q) ∧ HoldsB (roundB F n i rs m).1 P ∧
    ((roundB F n i rs m).2 = false → m = false ∧ (roundB F n i rs m).1 = rs ∧ ∀ (j : Nat) (r : Rl), i ≤ j → j < i + n → rs[j]? = some r → begN rs (F + 1) r.body = r.begins)
  | 0, i, rs, m, hl, hd, hp, he => ⟨SameR.refl _, fun _ => rfl, he, fun h => ⟨h, rfl, fun j r h1 h2 => by omega⟩⟩
  | n + 1, i, rs, m, hl, hd, hp, he => by
    unfold roundB
    cases hr : rs[i]? with
    | none =>
      obtain ⟨h1, h2, h3, h4⟩ := roundB_good F P n (i + 1) rs m hl hd hp he
      refine ⟨h1, h2, h3, fun h => ⟨(h4 h).1, (h4 h).2.1, fun j r hj1 hj2 hjr => ?_⟩⟩
      by_cases hji : j = i
      · subst hji; rw [hr] at hjr; cases hjr
      · exact (h4 h).2.2 j r (by omega) (by omega) hjr
    | some r =>
      dsimp only
      split
      · rename_i hx
        have hS : SameR rs (setB rs i (begN rs (F + 1) r.body)) := SameR.mod (fun r' => { r' with begins := begN rs (F + 1) r.body }) (fun _ => ⟨rfl, rfl, rfl⟩) rs i
        have hE : ∀ k, emptyAt (setB rs i (begN rs (F + 1) r.body)) k = emptyAt rs k := by
          intro k
          unfold emptyAt setB
          rw [mod_at]
          by_cases e : i = k.toNat
          · rw [if_pos e]; cases rs[k.toNat]? <;> rfl
          · rw [if_neg e]
        have hk := knR_same hS hE
        obtain ⟨h1, h2, h3, h4⟩ := roundB_good F P n (i + 1) (setB rs i (begN rs (F + 1) r.body)) true (by rw [hS.len]; exact hl) (hd.same hS)
          (fun j q hj nm hnm h0 l hor => by
            rw [hS.find] at h0 hor
            rw [hk] at hnm
            unfold setB at hj
            rw [mod_at] at hj
            by_cases e : i = j
            · rw [if_pos e] at hj
              cases hq2 : rs[j]? with
              | none => rw [hq2] at hj; cases hj
              | some q2 =>
                rw [hq2] at hj
                have e2 : { q2 with begins := begN rs (F + 1) r.body } = q := by simpa using hj
                rw [← e2] at hnm
                exact hp j q2 hq2 nm hnm h0 l hor
            · rw [if_neg e] at hj
              exact hp j q hj nm hnm h0 l hor)
          (fun j q hj l hbl => by
            unfold setB at hj
            rw [mod_at] at hj
            by_cases e : i = j
            · rw [if_pos e] at hj
              subst e
              rw [hr] at hj
              have e2 : { r with begins := begN rs (F + 1) r.body } = q := by simpa using hj
              rw [← e2] at hbl
              have hbl' : hb (begN rs (F + 1) r.body) l = true := hbl
              rw [begN_W rs hl l r.body F (hd r (List.mem_of_getElem? hr)), List.any_eq_true] at hbl'
              obtain ⟨nm, hnm, hg⟩ := hbl'
              unfold gb at hg
              rw [Bool.and_eq_true, Bool.or_eq_true] at hg
              have h0 : 0 ≤ findF rs nm := by simpa using hg.1
              refine hp i r hr nm hnm h0 l ?_
              rcases hg.2 with hg | hg
              · left; simpa using hg
              · right
                have hrg := findF_range rs nm
                have hlt : (findF rs nm).toNat < rs.length := by omega
                have hgt := List.getElem?_eq_getElem hlt
                refine he (findF rs nm).toNat _ hgt l ?_
                unfold beginsAt at hg
                rw [hgt] at hg
                exact hg
            · rw [if_neg e] at hj
              exact he j q hj l hbl)
        exact ⟨hS.trans h1, fun k => (h2 k).trans (hE k), h3, fun h => absurd (h4 h).1 (by simp)⟩
      · rename_i hx
        obtain ⟨h1, h2, h3, h4⟩ := roundB_good F P n (i + 1) rs m hl hd hp he
        refine ⟨h1, h2, h3, fun h => ⟨(h4 h).1, (h4 h).2.1, fun j q hj1 hj2 hjr => ?_⟩⟩
        by_cases hji : j = i
        · subst hji
          rw [hr] at hjr
          injection hjr with hjr
          subst hjr
          simpa using hx
        · exact (h4 h).2.2 j q (by omega) (by omega) hjr
theorem ClosedB.same {rs rs' : List Rl} {P : Nat → Nat → Prop} (h : ClosedB rs P) (hs : SameR rs rs') (he : ∀ i, emptyAt rs' i = emptyAt rs i) : ClosedB rs' P := by
  intro j q hj nm hnm h0 l hor
  rw [knR_same hs he] at hnm
  rw [hs.find] at h0 hor
  have hl : j < rs.length := by
    have := (List.getElem?_eq_some_iff.1 hj).1
    have := hs.len
    omega
  obtain ⟨r', hr', e1, e2, e3⟩ := hs.at_ j rs[j] (List.getElem?_eq_getElem hl)
  rw [hj] at hr'
  injection hr' with hr'
  rw [hr', e3] at hnm
  exact h j _ (List.getElem?_eq_getElem hl) nm hnm h0 l hor
theorem fixB_good (F : Nat) (P : Nat → Nat → Prop) : ∀ (Z : Nat) (rs rz : List Rl), fixB F Z rs = some rz → rs.length ≤ 12 → DeepF F rs → ClosedB rs P → HoldsB rs P →
    SameR rs rz ∧ (∀ i, emptyAt rz i = emptyAt rs i) ∧ HoldsB rz P ∧ ∀ (j : Nat) (r : Rl), rz[j]? = some r → begN rz (F + 1) r.body = r.begins
  | 0, rs, rz, h, _, _, _, _ => by cases h
  | Z + 1, rs, rz, h, hl, hd, hp, he => by
    obtain ⟨h1, h2, h3, h4⟩ := roundB_good F P rs.length 0 rs false hl hd hp he
    unfold fixB at h
    split at h
    · obtain ⟨g1, g2, g3, g4⟩ := fixB_good F P Z _ rz h (by rw [h1.len]; exact hl) (hd.same h1) (hp.same h1 h2) h3
      exact ⟨h1.trans g1, fun i => (g2 i).trans (h2 i), g3, g4⟩
    · rename_i hx
      injection h with h
      have h5 := h4 (by simpa using hx)
      rw [h5.2.1] at h
      subst h
      refine ⟨SameR.refl _, fun _ => rfl, he, fun j r hj => h5.2.2 j r (by omega) ?_ hj⟩
      have := (List.getElem?_eq_some_iff.1 hj).1
      omega
/-- with what rules begin, by number -/
def fsR (rs : List Rl) (kn : ByteArray → Bool) (i : Nat) : List Nat := match rs[i]? with | some r => (begW kn r.body).map fun nm => (findF rs nm).toNat | none => []
theorem mem_fsR {rs : List Rl} {kn : ByteArray → Bool} {i c : Nat} : c ∈ fsR rs kn i ↔ ∃ r, rs[i]? = some r ∧ ∃ nm ∈ begW kn r.body, (findF rs nm).toNat = c := by
  unfold fsR
  cases rs[i]? with
  | none => simp
  | some r => simp
theorem fixB_reach (F Z : Nat) (rs rz : List Rl) (h : fixB F Z rs = some rz) (hl : rs.length ≤ 12) (hd : DeepF F rs) (h0 : ∀ r ∈ rs, r.begins = 0) (hk : ∀ r ∈ rs, ∀ nm ∈ begW (knR rs) r.body, 0 ≤ findF rs nm) :
    SameR rs rz ∧ (∀ i, emptyAt rz i = emptyAt rs i) ∧ ∀ (i : Nat) (r : Rl), rz[i]? = some r → ∀ j, hb r.begins j = reachR (fsR rs (knR rs)) rs.length i j := by
  have hlt : ∀ b c, c ∈ fsR rs (knR rs) b → c < rs.length := by
    intro b c hc
    obtain ⟨r, hr, nm, hnm, rfl⟩ := mem_fsR.1 hc
    have h1 := hk r (List.mem_of_getElem? hr) nm hnm
    have := findF_range rs nm
    omega
  obtain ⟨h1, h2, h3, h4⟩ := fixB_good F (Reach fun i j => j ∈ fsR rs (knR rs) i) Z rs rz h hl hd (fun j r hr nm hnm hf l hor => by
    have hm : (findF rs nm).toNat ∈ fsR rs (knR rs) j := mem_fsR.2 ⟨r, hr, nm, hnm, rfl⟩
    rcases hor with e | ⟨k, hkk⟩
    · refine ⟨0, ?_⟩
      show l ∈ fsR rs (knR rs) j
      rw [e] at hm
      simpa using hm
    · exact ⟨k + 1, _, hm, hkk⟩) (fun j r hr l hbl => by
    rw [h0 r (List.mem_of_getElem? hr), hb_zero] at hbl
    cases hbl)
  refine ⟨h1, h2, fun i r hr j => ?_⟩
  have key : ∀ k i j, Rch (fun i j => j ∈ fsR rs (knR rs) i) k i j → ∀ r, rz[i]? = some r → hb r.begins j = true := by
    have one : ∀ i r c, rz[i]? = some r → c ∈ fsR rs (knR rs) i → ∀ j : Nat, (c = j ∨ hb (beginsAt rz c) j = true) → hb r.begins j = true := by
      intro i r c hr hc j hor
      obtain ⟨q, hq, nm, hnm, hcn⟩ := mem_fsR.1 hc
      obtain ⟨r', hr', e1, e2, e3⟩ := h1.at_ i q hq
      rw [hr] at hr'
      injection hr' with hr'
      have hge := hk q (List.mem_of_getElem? hq) nm hnm
      rw [← h4 i r hr, begN_W rz (by rw [h1.len]; exact hl) j r.body F ((hd.same h1) r (List.mem_of_getElem? hr)), List.any_eq_true]
      refine ⟨nm, by rw [knR_same h1 h2, hr', e3]; exact hnm, ?_⟩
      unfold gb
      have hcc : findF rs nm = (c : Int) := by omega
      rw [h1.find, hcc, Bool.and_eq_true, Bool.or_eq_true]
      refine ⟨by simp, ?_⟩
      rcases hor with e | e
      · left; simp [e]
      · exact .inr e
    intro k
    induction k with
    | zero => exact fun i j hE r hr => one i r j hr hE j (.inl rfl)
    | succ k ih =>
      rintro i j ⟨c, hc, hR⟩ r hr
      refine one i r c hr hc j (.inr ?_)
      have hcl : c < rz.length := by rw [h1.len]; exact hlt i c hc
      have hg := List.getElem?_eq_getElem hcl
      unfold beginsAt
      rw [Int.toNat_natCast, hg]
      exact ih c j hR _ hg
  have hi := reachR_iff (fsR rs (knR rs)) rs.length i hlt j
  cases hx : reachR (fsR rs (knR rs)) rs.length i j with
  | true =>
    obtain ⟨k, hkk⟩ := hi.1 hx
    exact key k i j hkk r hr
  | false =>
    cases hy : hb r.begins j with
    | false => rfl
    | true =>
      have := hi.2 (h3 i r hr j hy)
      rw [hx] at this; cases this

/-- a rule of the document's answer -/
structure RX where
  name : ByteArray
  at_ : Int
  ex : Ex
def RX.rl (g : RX) : Rl := ⟨g.name, g.at_, g.ex.norm, false, 0⟩
def rlX (gs : List RX) : List Rl := gs.map RX.rl
def firstG (f : Ex → Int) : List RX → Int
  | [] => -1
  | g :: gs => if (f g.ex != -1) = true then f g.ex else firstG f gs
/-- what may be empty, level by level -/
def bareG (gs : List RX) (f : Nat → Bool) (i : Nat) : Bool := match gs[i]? with | some g => bareX (knF (rlX gs) f) g.ex | none => false
def knownG (gs : List RX) : Nat → Bool := empK (bareG gs) gs.length
def fsG (gs : List RX) (kn : ByteArray → Bool) (i : Nat) : List Nat := match gs[i]? with | some g => (begX kn g.ex).map fun nm => (findF (rlX gs) nm).toNat | none => []
def leftG (gs : List RX) (kn : ByteArray → Bool) : List RX → Nat → Int
  | [], _ => -1
  | g :: l, k => if reachR (fsG gs kn) gs.length k k = true then g.at_ else leftG gs kn l (k + 1)
/-- what is wrong with rules, and where -/
def lawX (gs : List RX) : Int × Int :=
  if gs.length = 0 ∨ 12 < gs.length then (4, 0) else
  if (twiceL (rlX gs) (rlX gs) 0 != -1) = true then (5, twiceL (rlX gs) (rlX gs) 0) else
  if (firstG (unkX (unR (rlX gs))) gs != -1) = true then (6, firstG (unkX (unR (rlX gs))) gs) else
  if (leftG gs (knF (rlX gs) (knownG gs)) gs 0 != -1) = true then (7, leftG gs (knF (rlX gs) (knownG gs)) gs 0) else
  if (firstG (loopX (knF (rlX gs) (knownG gs))) gs != -1) = true then (8, firstG (loopX (knF (rlX gs) (knownG gs))) gs) else (0, 0)
theorem rlX_at (gs : List RX) (i : Nat) : (rlX gs)[i]? = (gs[i]?).map RX.rl := by simp [rlX]
theorem firstG_R {f : Nd → Int} {g : Ex → Int} : ∀ {gs : List RX}, (∀ x ∈ gs, f x.ex.norm = g x.ex) → firstR f (rlX gs) = firstG g gs
  | [], _ => rfl
  | x :: gs, h => by
    show firstR f (x.rl :: rlX gs) = _
    rw [firstR, firstG, firstG_R fun y hy => h y (by simp [hy])]
    show (if (f x.ex.norm != -1) = true then f x.ex.norm else _) = _
    rw [h x (by simp)]
theorem firstR_same {f : Nd → Int} : ∀ {rs rs' : List Rl}, SameR rs rs' → firstR f rs' = firstR f rs
  | [], [], _ => rfl
  | [], _ :: _, h => by have := h.len; simp at this
  | _ :: _, [], h => by have := h.len; simp at this
  | r :: rs, r' :: rs', h => by
    obtain ⟨q, hq, _, _, e1⟩ := h.at_ 0 r rfl
    have : r' = q := by simpa using hq
    subst this
    rw [firstR, firstR, e1, firstR_same (rs := rs) (rs' := rs') ⟨by have := h.len; simpa using this, fun i r hr => h.at_ (i + 1) r (by simpa using hr)⟩]
theorem firstR_congr {f g : Nd → Int} : ∀ {rs : List Rl}, (∀ r ∈ rs, f r.body = g r.body) → firstR f rs = firstR g rs
  | [], _ => rfl
  | r :: rs, h => by rw [firstR, firstR, h r (by simp), firstR_congr fun q hq => h q (by simp [hq])]
theorem bareF_G (gs : List RX) (ho : ∀ g ∈ gs, OkX g.ex) (f : Nat → Bool) (i : Nat) : bareF (rlX gs) f i = bareG gs f i := by
  unfold bareF bareG
  rw [rlX_at]
  cases hg : gs[i]? with
  | none => rfl
  | some g => exact may_norm _ g.ex (ho g (List.mem_of_getElem? hg))
theorem fsR_G (gs : List RX) (ho : ∀ g ∈ gs, OkX g.ex) (kn : ByteArray → Bool) (i : Nat) : fsR (rlX gs) kn i = fsG gs kn i := by
  unfold fsR fsG
  rw [rlX_at]
  cases hg : gs[i]? with
  | none => rfl
  | some g =>
    show (begW kn g.ex.norm).map _ = _
    rw [beg_norm kn g.ex (ho g (List.mem_of_getElem? hg))]
theorem firstG_none {f : Ex → Int} : ∀ {gs : List RX}, firstG f gs = -1 → ∀ g ∈ gs, f g.ex = -1
  | [], _, g, hg => by simp at hg
  | x :: gs, h, g, hg => by
    rw [firstG] at h
    split at h
    · rename_i hx; rw [h] at hx; simp at hx
    · rename_i hx
      rw [List.mem_cons] at hg
      rcases hg with rfl | hg
      · simpa using hx
      · exact firstG_none h g hg
theorem leftL_G {gs : List RX} {kn : ByteArray → Bool} (hl : gs.length ≤ 12) {rz : List Rl} (hs : SameR (rlX gs) rz) (hb' : ∀ (i : Nat) (r : Rl), rz[i]? = some r → hb r.begins i = reachR (fsG gs kn) gs.length i i) :
    ∀ (m k : Nat), k + m = gs.length → leftL (rz.drop k) k = leftG gs kn (gs.drop k) k
  | 0, k, hk => by
    have := hs.len
    have e1 : (rlX gs).length = gs.length := by simp [rlX]
    rw [List.drop_eq_nil_of_le (by omega), List.drop_eq_nil_of_le (by omega)]
    rfl
  | m + 1, k, hk => by
    have h1 := hs.len
    have e1 : (rlX gs).length = gs.length := by simp [rlX]
    have hkg : k < gs.length := by omega
    have hkz : k < rz.length := by omega
    rw [List.drop_eq_getElem_cons hkg, List.drop_eq_getElem_cons hkz, leftL, leftG, hb_and (by omega), hb' k _ (List.getElem?_eq_getElem hkz), leftL_G hl hs hb' m (k + 1) (by omega)]
    obtain ⟨r', hr', _, e2, _⟩ := hs.at_ k gs[k].rl (by rw [rlX_at, List.getElem?_eq_getElem hkg]; rfl)
    rw [List.getElem?_eq_getElem hkz] at hr'
    injection hr' with hr'
    rw [hr', e2]
    rfl
/-- the program's answer is the document's -/
theorem law_check (gs : List RX) (F Z : Nat) (r : Int × Int) (h : checkF F Z (rlX gs) = some r) (hd : DeepF F (rlX gs)) (ho : ∀ g ∈ gs, OkX g.ex) : lawX gs = r := by
  have hlen : (rlX gs).length = gs.length := by simp [rlX]
  unfold checkF at h
  unfold lawX
  rw [hlen] at h
  by_cases hn : gs.length = 0 ∨ 12 < gs.length
  · rw [if_pos hn] at h ⊢
    injection h
  · rw [if_neg hn] at h ⊢
    unfold check2 at h
    by_cases ht : (twiceL (rlX gs) (rlX gs) 0 != -1) = true
    · rw [if_pos ht] at h ⊢
      injection h
    · rw [if_neg ht] at h ⊢
      have hu : firstR (unkN (rlX gs) (F + 1)) (rlX gs) = firstG (unkX (unR (rlX gs))) gs := firstG_R fun x hx => by
        rw [unkN_W (rlX gs) x.ex.norm F (hd x.rl (List.mem_map.2 ⟨x, hx, rfl⟩)), unk_norm _ _ (ho x hx)]
      rw [hu] at h
      by_cases hun : (firstG (unkX (unR (rlX gs))) gs != -1) = true
      · rw [if_pos hun] at h ⊢
        injection h
      · rw [if_neg hun] at h ⊢
        have hnone := firstG_none (f := unkX (unR (rlX gs))) (gs := gs) (by simpa using hun)
        have hkn : ∀ kn : ByteArray → Bool, ∀ x ∈ gs, ∀ nm ∈ begX kn x.ex, 0 ≤ findF (rlX gs) nm := by
          intro kn x hx nm hnm
          have := beg_known kn (unR (rlX gs)) x.ex (ho x hx) (hnone x hx) nm hnm
          unfold unR at this
          simpa using this
        obtain ⟨h1, h2, h3⟩ := fixE_emp F (rlX gs) (by omega) hd (fun q hq => by
          obtain ⟨x, hx, rfl⟩ := List.mem_map.1 hq
          rfl)
        have hkk : ∀ i, i < gs.length → empF (fixE F 13 (rlX gs)) i = knownG gs i := by
          intro i hi
          rw [h3 i (by omega), hlen]
          unfold knownG
          have e : bareF (rlX gs) = bareG gs := by funext f i; exact bareF_G gs ho f i
          rw [e]
        have hkR : knR (fixE F 13 (rlX gs)) = knF (rlX gs) (knownG gs) := by
          rw [knR_F]
          funext nm
          unfold knF
          rw [h1.find]
          have hr := findF_range (rlX gs) nm
          by_cases h0 : 0 ≤ findF (rlX gs) nm
          · rw [hkk _ (by omega)]
          · simp [h0]
        cases hfb : fixB F Z (fixE F 13 (rlX gs)) with
        | none => rw [hfb] at h; cases h
        | some rz =>
          rw [hfb] at h
          have h' : check3 F rz = r := by simpa using h
          have hzero : ∀ q ∈ fixE F 13 (rlX gs), q.begins = 0 := fixE_zero F 13 (rlX gs) (fun q hq => by
            obtain ⟨x, hx, rfl⟩ := List.mem_map.1 hq
            rfl)
          obtain ⟨g1, g2, g3⟩ := fixB_reach F Z _ rz hfb (by rw [h1.len, hlen]; omega) h2 hzero (fun q hq nm hnm => by
            rw [h1.find]
            rw [hkR] at hnm
            obtain ⟨j, hj⟩ := List.mem_iff_getElem?.1 hq
            have hjl := (List.getElem?_eq_some_iff.1 hj).1
            rw [h1.len, hlen] at hjl
            obtain ⟨r', hr', _, _, e3⟩ := h1.at_ j gs[j].rl (by rw [rlX_at, List.getElem?_eq_getElem hjl]; rfl)
            rw [hj] at hr'
            injection hr' with hr'
            rw [hr', e3] at hnm
            have hnm' : nm ∈ begW (knF (rlX gs) (knownG gs)) gs[j].ex.norm := hnm
            rw [beg_norm _ _ (ho _ (List.getElem_mem hjl))] at hnm'
            exact hkn _ gs[j] (List.getElem_mem hjl) nm hnm')
          have hsz : SameR (rlX gs) rz := h1.trans g1
          have efs : fsR (fixE F 13 (rlX gs)) (knR (fixE F 13 (rlX gs))) = fsG gs (knF (rlX gs) (knownG gs)) := by
            funext i
            rw [hkR, ← fsR_G gs ho]
            unfold fsR
            cases hi : (rlX gs)[i]? with
            | none =>
              have : (fixE F 13 (rlX gs))[i]? = none := by
                rw [List.getElem?_eq_none_iff] at hi ⊢
                rw [h1.len]; exact hi
              rw [this]
            | some q =>
              obtain ⟨r', hr', _, _, e3⟩ := h1.at_ i q hi
              rw [hr']
              dsimp only
              rw [e3]
              exact List.map_congr_left fun nm _ => by rw [h1.find]
          have hleft : leftL rz 0 = leftG gs (knF (rlX gs) (knownG gs)) gs 0 := by
            have := leftL_G (kn := knF (rlX gs) (knownG gs)) (by omega) hsz (fun i q hq => by
              rw [g3 i q hq i, efs, h1.len, hlen]) gs.length 0 (by omega)
            simpa using this
          have hloop : firstR (loopN rz (F + 1)) rz = firstG (loopX (knF (rlX gs) (knownG gs))) gs := by
            have hdz := hd.same hsz
            have e1 : knR rz = knF (rlX gs) (knownG gs) := by rw [knR_same g1 g2, hkR]
            rw [firstR_congr (g := loopW (knF (rlX gs) (knownG gs))) (fun q hq => by rw [loopN_W rz q.body F (hdz q hq), e1]), firstR_same hsz]
            exact firstG_R fun x hx => loop_norm _ _ (ho x hx)
          unfold check3 at h'
          rw [hleft, hloop] at h'
          exact h'
end Go.Proofs.YtbojcemamhiodaaGreatDoor
namespace Go.Proofs.YtbojcemamhiodaaGreatDoor

theorem szN_pos (n : Nd) : 1 ≤ szN n := by rw [szN_def]; omega
theorem szNL_flat (k : Int) : ∀ l, szNL (flatL k l) ≤ szNL l
  | [] => Nat.le_refl _
  | n :: l => by
    have ih := szNL_flat k l
    rw [flatL, szNL_append, szNL_cons]
    split
    · rw [szN_def]; omega
    · rw [szNL_cons]
      show szN n + 0 + _ ≤ _
      omega
theorem szN_nd0 (k : Int) (l : List Nd) : szN (nd0 k l) = 1 + szNL l := szN_def _
theorem szN_joinL (k : Int) : ∀ l, szN (joinL k l) ≤ 1 + szNL l
  | [] => by rw [joinL, szN_nd0]; exact Nat.le_refl _
  | [n] => by
    rw [joinL, szNL_cons]
    omega
  | a :: b :: l => by
    show szN (nd0 k (a :: b :: l)) ≤ _
    rw [szN_nd0]
    exact Nat.le_refl _
theorem szN_join (k : Int) (l : List Nd) : szN (joinF k l) ≤ 1 + szNL l := by
  have h1 := szN_joinL k (flatL k l)
  have h2 := szNL_flat k l
  unfold joinF
  omega
theorem szN_join1 (k : Int) (n : Nd) : szN (joinF k [n]) ≤ szN n := by
  unfold joinF
  by_cases h : n.kind = k
  · rw [show flatL k [n] = n.kids by simp [flatL, h], szN_def n]
    exact szN_joinL k n.kids
  · rw [show flatL k [n] = [n] by simp [flatL, h]]
    exact Nat.le_refl _

/-- no more parts than twice what was read, and one -/
def SzE (a : Int) (r : Res) : Prop := r.err = 0 → (szN r.nd : Int) + 2 * a ≤ 2 * r.tk.from_ + 1
/-- of an item: one less -/
def SzI (a : Int) (r : Res) : Prop := r.err = 0 → (szN r.nd : Int) + 2 * a + 1 ≤ 2 * r.tk.from_
theorem SzE.err {a : Int} {e : Int} {t : Tk} {d : Int} (h : e ≠ 0) : SzE a (errR e t d) := fun h0 => absurd h0 h
theorem SzI.err {a : Int} {e : Int} {t : Tk} {d : Int} (h : e ≠ 0) : SzI a (errR e t d) := fun h0 => absurd h0 h
def SzEE (s : ByteArray) (E : Tk → Int → Res) (d : Int) : Prop := ∀ t, TkOk s t → SzE t.from_ (E t d)
section
variable {s : ByteArray}
theorem signsF_sz : ∀ (k : Nat) (n : Nd) (t : Tk), TkOk s t → (szN (signsF s k n t).1 : Int) + t.from_ ≤ szN n + (signsF s k n t).2.from_
  | 0, _, _, _ => Int.le_refl _
  | k + 1, n, t, h => by
    unfold signsF
    split
    · rename_i hk
      have hn := h.next
      have hlt := h.lt (by simp at hk; omega)
      have ih := signsF_sz k ⟨repK t.k, t.from_, ByteArray.empty, [n]⟩ _ hn.1
      have e : szN (⟨repK t.k, t.from_, ByteArray.empty, [n]⟩ : Nd) = 1 + szN n := by
        rw [szN_def]
        show 1 + szNL [n] = _
        rw [szNL_cons]
        show 1 + (szN n + 0) = _
        omega
      omega
    · exact Int.le_refl _
theorem withinF_sz {a d c : Int} {r : Res} (h : Fine s a (d + 1) r) (hz : SzE a r) (hc : 2 ≤ c) (h0 : (withinF s r c).err = 0) : (szN (withinF s r c).nd : Int) + 2 * a + 1 ≤ 2 * (withinF s r c).tk.from_ := by
  obtain ⟨h1, h2⟩ := withinF_fine (c := c) h
  obtain ⟨e1, e2, e3⟩ := h2 h0
  have e4 := e3 hc
  have he : r.err = 0 := by
    unfold withinF at h0
    split at h0
    · rename_i hx
      exact absurd h0 hx
    · omega
  have := hz he
  rw [e1]
  omega
theorem singleF_sz {E : Tk → Int → Res} {d : Int} {t : Tk} (hE : d < 12 → FineE s E (d + 1)) (hS : d < 12 → SzEE s E (d + 1)) (h : TkOk s t) (h2 : 2 ≤ t.k) : SzI t.from_ (singleF s E t d) := by
  have hn := h.next
  have hlt := h.lt h2
  unfold singleF
  split
  · unfold bracketsF
    split
    · exact SzI.err (by omega)
    · intro h0
      have := withinF_sz (c := 14) (hE (by omega) _ hn.1) (hS (by omega) _ hn.1) (by omega) h0
      omega
  · split
    · unfold catchF
      split
      · exact SzI.err (by omega)
      · split
        · intro _
          have h3 := hn.1.next
          have := hn.1.le
          have e : szN (nd0 3 []) = 1 := szN_nd0 3 []
          show (szN (nd0 3 []) : Int) + _ + 1 ≤ 2 * (nextT s (nextT s t.to).to).from_
          rw [e]
          omega
        · have h3 := namedT_fine hn.1
          have key := withinF_sz (c := 16) (hE (by omega) _ h3.1) (hS (by omega) _ h3.1) (by omega)
          unfold partF
          split
          · rename_i he
            exact SzI.err he
          · rename_i he
            intro _
            have key := key (by omega)
            have e : ∀ (nm : ByteArray) (x : Nd), szN (⟨4, 0, nm, [x]⟩ : Nd) = 1 + szN x := fun nm x => by
              rw [szN_def]
              show 1 + szNL [x] = _
              rw [szNL_cons]
              show 1 + (szN x + 0) = _
              omega
            show (szN (⟨4, 0, _, [_]⟩ : Nd) : Int) + _ + 1 ≤ 2 * (withinF s _ 16).tk.from_
            rw [e]
            omega
    · intro _
      obtain ⟨hl1, _⟩ := leafF_facts s t
      show (szN (leafF s t) : Int) + _ + 1 ≤ 2 * (nextT s t.to).from_
      rw [szN_def, hl1]
      show ((1 + 0 : Nat) : Int) + _ + 1 ≤ _
      omega
theorem repeatedF_sz {E : Tk → Int → Res} {d : Int} {t : Tk} (hE : d < 12 → FineE s E (d + 1)) (hS : d < 12 → SzEE s E (d + 1)) (h : TkOk s t) (h2 : 2 ≤ t.k) : SzI t.from_ (repeatedF s E t d) := by
  obtain ⟨hf, hl, hkd⟩ := singleF_fine hE h h2
  have hz := singleF_sz hE hS h h2
  unfold repeatedF signedF
  split
  · rename_i he
    exact SzI.err he
  · rename_i he
    intro _
    have h1 := hz (by omega)
    have h3 := signsF_sz (s.size + 1) (singleF s E t d).nd _ hf.tk
    have hs := signsF_fine (s.size + 1) (singleF s E t d).nd _ hf.tk
    show (szN (signsF s _ _ _).1 : Int) + _ + 1 ≤ 2 * (signsF s _ _ _).2.from_
    omega
theorem itemF_sz {E : Tk → Int → Res} {d : Int} (hE : d < 12 → FineE s E (d + 1)) (hS : d < 12 → SzEE s E (d + 1)) : ∀ (k : Nat) (t : Tk), TkOk s t → 2 ≤ t.k → SzI t.from_ (itemF s E k t d)
  | 0, t, h, _ => SzI.err (by omega)
  | k + 1, t, h, h2 => by
    have hn := h.next
    have hlt := h.lt h2
    unfold itemF
    split
    · split
      · rename_i ha
        have hz := itemF_sz hE hS k _ hn.1 (atIt_ge ha)
        unfold lookF
        split
        · rename_i he
          exact SzI.err he
        · rename_i he
          intro _
          have h1 := hz (by omega)
          show (szN (nd0 t.k [_]) : Int) + _ + 1 ≤ 2 * (itemF s E k _ d).tk.from_
          rw [szN_nd0, szNL_cons]
          show ((1 + (szN _ + 0) : Nat) : Int) + _ + 1 ≤ _
          omega
      · exact SzI.err (by omega)
    · exact repeatedF_sz hE hS h h2
theorem rowF_sz {E : Tk → Int → Res} {d a : Int} (hE : d < 12 → FineE s E (d + 1)) (hS : d < 12 → SzEE s E (d + 1)) : ∀ (k : Nat) (acc : List Nd) (t : Tk), TkOk s t → a ≤ t.from_ → (szNL acc : Int) + 2 * a ≤ 2 * t.from_ → SzE a (rowF s E k acc t d)
  | 0, _, t, h, ha, _ => SzE.err (by omega)
  | k + 1, acc, t, h, hat, hacc => by
    unfold rowF
    split
    · rename_i ha
      obtain ⟨hf, hl, hkd⟩ := itemF_fine hE (s.size + 1) t h (atIt_ge ha)
      have hz := itemF_sz hE hS (s.size + 1) t h (atIt_ge ha)
      have hg := hf.ge
      split
      · rename_i he
        exact SzE.err he
      · rename_i he
        have hd := hf.dep (by omega)
        have h1 := hz (by omega)
        rw [hd]
        refine rowF_sz hE hS k _ _ hf.tk (by omega) ?_
        rw [szNL_append, szNL_cons]
        show ((szNL acc + (szN _ + 0) : Nat) : Int) + _ ≤ _
        omega
    · intro _
      have := szN_join 5 acc
      show (szN (joinF 5 acc) : Int) + 2 * a ≤ 2 * t.from_ + 1
      omega
theorem rowsF_sz {E : Tk → Int → Res} {d a : Int} (hE : d < 12 → FineE s E (d + 1)) (hS : d < 12 → SzEE s E (d + 1)) : ∀ (k : Nat) (acc : List Nd) (t : Tk), TkOk s t → a ≤ t.from_ → (szNL acc : Int) + 2 * a ≤ 2 * t.from_ + 1 → (2 ≤ acc.length → (szNL acc : Int) + 2 * a ≤ 2 * t.from_) → 1 ≤ acc.length → SzE a (rowsF s E k acc t d)
  | 0, _, t, h, ha, _, _, _ => SzE.err (by omega)
  | k + 1, acc, t, h, hat, h1, h2, h3 => by
    unfold rowsF
    split
    · rename_i h6
      have hn := h.next
      have := h.lt (by omega)
      obtain ⟨hf, hk⟩ := rowF_fine hE (s.size + 1) [] _ hn.1 (Int.le_refl _) (.nil (Int.le_refl _))
      have hz := rowF_sz (a := (nextT s t.to).from_) hE hS (s.size + 1) [] _ hn.1 (Int.le_refl _) (by show ((0 : Nat) : Int) + _ ≤ _; omega)
      have hg := hf.ge
      split
      · rename_i he
        exact SzE.err he
      · rename_i he
        have hd := hf.dep (by omega)
        have h4 := hz (by omega)
        rw [hd]
        have key : (szNL (acc ++ [(rowF s E (s.size + 1) [] (nextT s t.to) d).nd]) : Int) + 2 * a ≤ 2 * (rowF s E (s.size + 1) [] (nextT s t.to) d).tk.from_ := by
          rw [szNL_append, szNL_cons]
          show ((szNL acc + (szN _ + 0) : Nat) : Int) + _ ≤ _
          omega
        exact rowsF_sz hE hS k _ _ hf.tk (by omega) (by omega) (fun _ => key) (by simp)
    · intro _
      show (szN (joinF 6 acc) : Int) + 2 * a ≤ 2 * t.from_ + 1
      by_cases hl : 2 ≤ acc.length
      · have := szN_join 6 acc
        have := h2 hl
        omega
      · match acc, h1, h3, hl with
        | [n], h1, _, _ =>
          have := szN_join1 6 n
          rw [szNL_cons] at h1
          have h1' : ((szN n + 0 : Nat) : Int) + 2 * a ≤ 2 * t.from_ + 1 := h1
          omega
        | [], _, h3, _ => simp at h3
        | _ :: _ :: _, _, _, hl => simp at hl
theorem exprF_sz {E : Tk → Int → Res} {d : Int} (hE : d < 12 → FineE s E (d + 1)) (hS : d < 12 → SzEE s E (d + 1)) : SzEE s (exprF s E) d := by
  intro t h
  obtain ⟨hf, hk⟩ := rowF_fine hE (s.size + 1) [] t h (Int.le_refl _) (.nil (Int.le_refl _))
  have hz := rowF_sz (a := t.from_) hE hS (s.size + 1) [] t h (Int.le_refl _) (by show ((0 : Nat) : Int) + _ ≤ _; omega)
  have hg := hf.ge
  unfold exprF
  split
  · rename_i he
    exact SzE.err he
  · rename_i he
    have hd := hf.dep (by omega)
    have h1 := hz (by omega)
    rw [hd]
    refine rowsF_sz hE hS _ _ _ hf.tk hg ?_ (fun h => by simp at h) (by simp)
    rw [szNL_cons]
    show ((szN _ + 0 : Nat) : Int) + _ ≤ _
    omega
theorem exprN_sz : ∀ (n : Nat) (d : Int), 13 ≤ n + d → d ≤ 12 → SzEE s (exprN s n) d
  | 0, d, h, h' => by omega
  | n + 1, d, h, h' => exprF_sz (E := exprN s n) (fun hd => exprN_fine n (d + 1) (by omega) (by omega)) (fun hd => exprN_sz n (d + 1) (by omega) (by omega))
end
/-- what is known of the rules of a text -/
structure RlOk (s : ByteArray) (r : Rl) : Prop where
  size : szN r.body ≤ 2 * s.size + 1
  empty : r.empty = false
  begins : r.begins = 0
theorem ruleF_ok {s : ByteArray} {t : Tk} (ht : TkOk s t) (h0 : (ruleF s t).err = 0) : RlOk s (ruleF s t).rl := by
  have hn := ht.next
  have hn2 := hn.1.next
  unfold ruleF at h0 ⊢
  split
  · rename_i h; rw [if_pos h] at h0; simp at h0
  · rename_i h
    rw [if_neg h] at h0
    split
    · rename_i h; rw [if_pos h] at h0; simp at h0
    · rename_i h
      rw [if_neg h] at h0
      have hf := exprN_fine (s := s) 13 0 (by omega) (by omega) _ hn2.1
      have hz := exprN_sz (s := s) 13 0 (by omega) (by omega) _ hn2.1
      unfold ruleEnd at h0 ⊢
      split
      · rename_i h; rw [if_pos h] at h0; exact absurd h0 h
      · rename_i h
        have h1 := hz (by omega)
        have h2 := hf.tk.size
        have h3 := hf.tk.le
        have h4 := hn2.1.from0
        exact ⟨by show szN (exprN s 13 _ 0).nd ≤ _; omega, rfl, rfl⟩
theorem parseL_ok2 {s : ByteArray} : ∀ (k : Nat) (acc : List Rl) (t : Tk), TkOk s t → (∀ r ∈ acc, RlOk s r) → ∀ r ∈ (parseL s k acc t).rules, RlOk s r
  | 0, _, _, _, _, r, hr => by simp [parseL] at hr
  | k + 1, acc, t, ht, ha, r, hr => by
    unfold parseL at hr
    split at hr
    · exact ha r hr
    · split at hr
      · simp at hr
      · rename_i he
        refine parseL_ok2 k _ _ (ruleF_fine ht).1 (fun q hq => ?_) r hr
        rw [List.mem_append, List.mem_singleton] at hq
        rcases hq with hq | rfl
        · exact ha q hq
        · exact ruleF_ok ht (by omega)
theorem parseF_ok (s : ByteArray) : ∀ r ∈ (parseF s).rules, RlOk s r := by
  unfold parseF
  split
  · intro r hr; simp at hr
  · exact parseL_ok2 _ _ _ (nextT_ok s 0 (by omega) (by omega)).1 (by simp)
theorem parseF_long (s : ByteArray) (h : (parseF s).err = 0) : s.size ≤ 400 := by
  unfold parseF at h
  split at h
  · simp at h
  · omega
theorem termsL_sz {f : Nd → List Tm → Tm × List Tm} : ∀ (l : List Nd) (ks : List Int) (T : List Tm), (∀ n ∈ l, ∀ T, (f n T).2.length + 1 ≤ T.length + szN n) → (termsL f l ks T).2.length ≤ T.length + szNL l
  | [], _, _, _ => Nat.le_refl _
  | n :: l, ks, T, h => by
    have h1 := termsL_sz l (ks ++ [((f n T).2.length : Int)]) ((f n T).2 ++ [(f n T).1]) (fun m hm => h m (by simp [hm]))
    have h2 := h n (by simp) T
    rw [szNL_cons, termsL]
    simp at h1
    omega
theorem termN_sz (rs : List Rl) : ∀ (F : Nat) (n : Nd) (T : List Tm), (termN rs F n T).2.length + 1 ≤ T.length + szN n
  | 0, n, T => by
    have := szN_pos n
    show T.length + 1 ≤ _
    omega
  | F + 1, n, T => by
    have := termsL_sz (f := termN rs F) n.kids (baseK rs n) T (fun m _ T => termN_sz rs F m T)
    rw [szN_def]
    show (termsL (termN rs F) n.kids (baseK rs n) T).2.length + 1 ≤ _
    omega
theorem buildL_sz (rs : List Rl) (F B : Nat) : ∀ (l : List Rl) (i : Nat) (T : List Tm), (∀ r ∈ l, szN r.body ≤ B) → (buildL rs F l i T).length ≤ T.length + l.length * B
  | [], _, _, _ => by simp [buildL]
  | r :: l, i, T, h => by
    have h1 := buildL_sz rs F B l (i + 1) ((termN rs F r.body T).2.set i (termN rs F r.body T).1) (fun q hq => h q (by simp [hq]))
    have h2 := termN_sz rs F r.body T
    have h3 := h r (by simp)
    rw [buildL, List.length_cons, Nat.add_mul]
    simp at h1
    omega
/-- Compile comes to an answer -/
theorem compile_ends (s : ByteArray) : ∃ F Z r, compileF F Z s = some r ∧ ((parseF s).err = 0 → DeepF F (parseF s).rules ∧ checkF F Z (parseF s).rules = some r) := by
  by_cases he : (parseF s).err ≠ 0
  · refine ⟨0, 0, ((parseF s).err, (parseF s).at_), ?_, fun h => absurd h he⟩
    unfold compileF
    rw [if_pos he]
  · obtain ⟨F, hF⟩ := fits_rules (parseF s).rules
    have hok := parseF_ok s
    have hl := parseF_long s (by omega)
    obtain ⟨Z, r, hr⟩ := checkF_ends F (parseF s).rules (fun r hr => (hok r hr).begins)
    refine ⟨F, Z, r, ?_, fun _ => ⟨List.all_eq_true.1 hF, hr⟩⟩
    unfold compileF
    rw [if_neg he, if_pos hF, hr]
    dsimp only
    rw [if_neg]
    rintro ⟨h0, hb⟩
    have h12 := checkF_ok hr h0
    have h1 := buildL_sz (parseF s).rules (F + 1) 801 (parseF s).rules 0 (List.replicate (parseF s).rules.length Tm.zero) (fun r hr => by have := (hok r hr).size; omega)
    have h2 : (buildF (F + 1) (parseF s).rules).length ≤ (List.replicate (parseF s).rules.length Tm.zero).length + (parseF s).rules.length * 801 := h1
    rw [List.length_replicate] at h2
    omega
end Go.Proofs.YtbojcemamhiodaaGreatDoor
namespace Go.Proofs.YtbojcemamhiodaaGreatDoor

/-- a part of a text -/
theorem ext_size {s : ByteArray} {a b : Nat} (hb : b ≤ s.size) : (s.extract a b).size = b - a := by
  rw [ByteArray.size_extract]; omega
theorem bAt_ext {s : ByteArray} {a b : Nat} (hb : b ≤ s.size) (k : Int) (h0 : (a : Int) ≤ k) (h1 : k < b) : bAt (s.extract a b) (k - a) = bAt s k := by
  have hz : (s.extract a b).size = b - a := ext_size hb
  unfold bAt
  rw [dif_pos ⟨by omega, by omega⟩, dif_pos ⟨by omega, by omega⟩]
  have e : (s.extract a b)[(k - a).toNat]'(by omega) = s[k.toNat]'(by omega) := by
    rw [ByteArray.getElem_extract]
    congr 1
    omega
  rw [e]
theorem digit_ext {s : ByteArray} {a b : Nat} (hb : b ≤ s.size) (k : Int) (h0 : (a : Int) ≤ k) (h1 : k < b) : digit (s.extract a b) (k - a) = digit s k := by
  unfold digit
  rw [bAt_ext hb k h0 h1]
theorem escC_ext {s : ByteArray} {a b : Nat} (hb : b ≤ s.size) (p : Int) (m : Bool) (h0 : (a : Int) ≤ p) (h : 0 ≤ (escC s p m).1) (hr : (escC s p m).2 ≤ b) : escC (s.extract a b) (p - a) m = ((escC s p m).1, (escC s p m).2 - a) := by
  unfold escC at h hr ⊢
  have e1 : p - a + 1 = (p + 1) - a := by omega
  have e2 : p - a + 2 = (p + 2) - a := by omega
  have e3 : p - a + 3 = (p + 3) - a := by omega
  by_cases hm : m = true
  · rw [if_pos hm] at h hr ⊢
    rw [if_pos hm, e1, bAt_ext hb _ (by omega) (by have : p + 2 ≤ b := hr; omega)]
    show (_, _) = (bAt s (p + 1), p + 2 - (a : Int))
    rw [show p - (a : Int) + 2 = p + 2 - a by omega]
  · rw [if_neg hm] at h hr ⊢
    rw [if_neg hm]
    by_cases hx : bAt s (p + 1) ≠ 120
    · rw [if_pos hx] at h
      have : (0 : Int) ≤ -1 := h
      omega
    · rw [if_neg hx] at h hr ⊢
      by_cases hd : digit s (p + 2) < 0 ∨ digit s (p + 3) < 0
      · rw [if_pos hd] at h
        have : (0 : Int) ≤ -1 := h
        omega
      · rw [if_neg hd] at h hr ⊢
        have hr' : p + 4 ≤ b := hr
        rw [e1, e2, e3, bAt_ext hb _ (by omega) (by omega), digit_ext hb _ (by omega) (by omega), digit_ext hb _ (by omega) (by omega), if_neg hx, if_neg hd]
        show (_, _) = (_, p + 4 - (a : Int))
        rw [show p - (a : Int) + 4 = p + 4 - a by omega]
theorem plainC_ext {c p : Int} {m : Bool} {a : Nat} : plainC c (p - a) m = ((plainC c p m).1, (plainC c p m).2 - a) := by
  unfold plainC
  split
  · rfl
  · rename_i hc
    show (c, p - a + 1) = (c, p + 1 - (a : Int))
    rw [show p - (a : Int) + 1 = p + 1 - a by omega]
theorem wordC_lt {s : ByteArray} {p : Int} (h : 0 ≤ (wordC s p).1) : p < (wordC s p).2 := by
  have := wordC_good s p
  unfold GoodC at this
  omega
theorem setC_lt {s : ByteArray} {p : Int} (h : 0 ≤ (setC s p).1) : p < (setC s p).2 := by
  have := setC_good s p
  unfold GoodC at this
  omega
theorem escC_two {s : ByteArray} {p : Int} {m : Bool} (h : 0 ≤ (escC s p m).1) : p + 2 ≤ (escC s p m).2 := by
  unfold escC at h ⊢
  split
  · show p + 2 ≤ p + 2; omega
  · rename_i h1
    rw [if_neg h1] at h
    split
    · rename_i h2
      rw [if_pos h2] at h
      have : (0 : Int) ≤ -1 := h
      omega
    · rename_i h2
      rw [if_neg h2] at h
      split
      · rename_i h3
        rw [if_pos h3] at h
        have : (0 : Int) ≤ -1 := h
        omega
      · show p + 2 ≤ p + 4; omega
theorem wordC_ext {s : ByteArray} {a b : Nat} (hb : b ≤ s.size) (p : Int) (h0 : (a : Int) ≤ p) (h : 0 ≤ (wordC s p).1) (hr : (wordC s p).2 ≤ b) : wordC (s.extract a b) (p - a) = ((wordC s p).1, (wordC s p).2 - a) := by
  have hlt := wordC_lt h
  have e1 : p - a + 1 = (p + 1) - a := by omega
  unfold wordC at h hr hlt ⊢
  rw [bAt_ext hb p h0 (by omega)]
  split
  · rename_i h92
    rw [if_pos h92] at h hr
    have h2 := escC_two h
    rw [e1, bAt_ext hb _ (by omega) (by omega)]
    exact escC_ext hb p _ h0 h hr
  · rename_i h92
    exact plainC_ext
theorem setC_ext {s : ByteArray} {a b : Nat} (hb : b ≤ s.size) (p : Int) (h0 : (a : Int) ≤ p) (h : 0 ≤ (setC s p).1) (hr : (setC s p).2 ≤ b) : setC (s.extract a b) (p - a) = ((setC s p).1, (setC s p).2 - a) := by
  have hlt := setC_lt h
  have e1 : p - a + 1 = (p + 1) - a := by omega
  unfold setC at h hr hlt ⊢
  rw [bAt_ext hb p h0 (by omega)]
  split
  · rename_i h92
    rw [if_pos h92] at h hr
    have h2 := escC_two h
    rw [e1, bAt_ext hb _ (by omega) (by omega)]
    exact escC_ext hb p _ h0 h hr
  · rename_i h92
    exact plainC_ext
theorem wordC_39 {s : ByteArray} {j : Int} (h : bAt s j = 39) : (wordC s j).1 < 0 := by
  unfold wordC
  rw [if_neg (by omega)]
  unfold plainC
  rw [h, if_pos (by right; right; rfl)]
  show (-1 : Int) < 0
  omega
theorem setC_39 {s : ByteArray} {j : Int} (h : bAt s j = 93) : (setC s j).1 < 0 := by
  unfold setC
  rw [if_neg (by omega)]
  unfold plainC
  rw [h, if_pos (by right; right; rfl)]
  show (-1 : Int) < 0
  omega
theorem wordBs_ext {s : ByteArray} {a : Nat} {j : Nat} (hj : j < s.size) : ∀ (n : Nat) (p : Int) (m m' : Nat), wordEnd s n p = some (j : Int) → (a : Int) ≤ p → 0 ≤ p → (j : Int) < m + p → (j : Int) < m' + p → wordBs (s.extract a (j + 1)) m (p - a) = wordBs s m' p
  | 0, p, m, m', h, _, _, _, _ => by cases h
  | n + 1, p, m, m', h, ha, hp, hm, hm' => by
    have hle := (wordEnd_range s _ p j hp h).1
    unfold wordEnd at h
    split at h
    · rename_i h39
      have e : bAt (s.extract a (j + 1)) (p - a) = 39 := by rw [bAt_ext (by omega) p ha (by omega)]; exact h39
      rw [wordBs_no (wordC_39 e), wordBs_no (wordC_39 h39)]
    · split at h
      · cases h
      · rename_i h39 hc
        have hc' : 0 ≤ (wordC s p).1 := by omega
        have hlt := wordC_lt hc'
        have hle2 := (wordEnd_range s _ _ j (by omega) h).1
        have he := wordC_ext (b := j + 1) (by omega) p ha hc' (by omega)
        obtain ⟨m, rfl⟩ : ∃ x, m = x + 1 := ⟨m - 1, by omega⟩
        obtain ⟨m', rfl⟩ : ∃ x, m' = x + 1 := ⟨m' - 1, by omega⟩
        rw [wordBs_yes (by rw [he]; exact hc'), wordBs_yes hc', he]
        show _ :: wordBs _ m ((wordC s p).2 - a) = _
        rw [wordBs_ext hj n _ m m' h (by omega) (by omega) (by omega) (by omega)]
theorem member_lt {s : ByteArray} {p : Int} (h : 0 ≤ (member s p).1) : p < (member s p).2.2 := by
  have := member_good s p
  unfold GoodM at this
  omega
theorem member_ext {s : ByteArray} {a b : Nat} (hb : b ≤ s.size) (p : Int) (h0 : (a : Int) ≤ p) (h : 0 ≤ (member s p).1) (hr : (member s p).2.2 < b) : member (s.extract a b) (p - a) = ((member s p).1, (member s p).2.1, (member s p).2.2 - a) := by
  have h1 : 0 ≤ (setC s p).1 := by
    unfold member at h
    split at h
    · exact h
    · omega
  have hlt := setC_lt h1
  unfold member at h hr ⊢
  by_cases h2 : bAt s (setC s p).2 = 45
  · have hn : ¬ ((setC s p).1 < 0 ∨ bAt s (setC s p).2 ≠ 45) := by omega
    rw [if_neg hn] at h hr ⊢
    by_cases h3 : (setC s ((setC s p).2 + 1)).1 < (setC s p).1
    · rw [if_pos h3] at h
      have : (0 : Int) ≤ -1 := h
      omega
    · rw [if_neg h3] at h hr ⊢
      have hr' : (setC s ((setC s p).2 + 1)).2 < b := hr
      have hlt2 := setC_lt (s := s) (p := (setC s p).2 + 1) (by omega)
      rw [setC_ext hb p h0 h1 (by omega)]
      dsimp only
      rw [bAt_ext hb _ (by omega) (by omega), if_neg hn, show (setC s p).2 - (a : Int) + 1 = ((setC s p).2 + 1) - a by omega, setC_ext hb _ (by omega) (by omega) (by omega), if_neg h3]
  · have hn : (setC s p).1 < 0 ∨ bAt s (setC s p).2 ≠ 45 := .inr h2
    rw [if_pos hn] at h hr ⊢
    have hr' : (setC s p).2 < b := hr
    rw [setC_ext hb p h0 h1 (by omega)]
    dsimp only
    rw [bAt_ext hb _ (by omega) (by omega), if_pos hn]
theorem membs_ext {s : ByteArray} {a : Nat} {j : Nat} {f : Int} (hj : j < s.size) : ∀ (n : Nat) (p : Int) (m m' : Nat), setEnd s f n p = some (j : Int) → (a : Int) ≤ p → 0 ≤ p → (j : Int) < m + p → (j : Int) < m' + p → membs (s.extract a (j + 1)) m (p - a) = membs s m' p
  | 0, p, m, m', h, _, _, _, _ => by cases h
  | n + 1, p, m, m', h, ha, hp, hm, hm' => by
    have hle := (setEnd_range s f _ p j hp h).1
    unfold setEnd at h
    split at h
    · rename_i h93
      have e : bAt (s.extract a (j + 1)) (p - a) = 93 := by rw [bAt_ext (by omega) p ha (by omega)]; exact h93.2
      have m1 : ∀ {x : ByteArray} {q : Int}, bAt x q = 93 → (member x q).1 < 0 := fun hq => by
        unfold member
        rw [if_pos (.inl (setC_39 hq))]
        exact setC_39 hq
      rw [membs_no (m1 e), membs_no (m1 h93.2)]
    · split at h
      · cases h
      · rename_i h93 hc
        have hc' : 0 ≤ (member s p).1 := by omega
        have hlt := member_lt hc'
        have hle2 := (setEnd_range s f _ _ j (by omega) h).1
        have he := member_ext (b := j + 1) (by omega) p ha hc' (by omega)
        obtain ⟨m, rfl⟩ : ∃ x, m = x + 1 := ⟨m - 1, by omega⟩
        obtain ⟨m', rfl⟩ : ∃ x, m' = x + 1 := ⟨m' - 1, by omega⟩
        rw [membs_yes (by rw [he]; exact hc'), membs_yes hc', he]
        show _ :: membs _ m ((member s p).2.2 - a) = _
        rw [membs_ext hj n _ m m' h (by omega) (by omega) (by omega) (by omega)]
/-- the bytes of the set that begins at i -/
def SetF (s : ByteArray) (i : Nat) (c : Nat) : Bool := if bAt s (i + 1) = 94 then !isIn (membs s (s.size + 1) (setFrom s i)) c else isIn (membs s (s.size + 1) (setFrom s i)) c
theorem word_bytes_of (s : ByteArray) (i : Nat) (j : Nat) (n : Nat) (hj : j < s.size) (h : wordEnd s n (i + 1) = some (j : Int)) : (⟨4, i, j + 1⟩ : Tk).bytes s = ⟨(wordBs s (s.size + 1) (i + 1)).toArray⟩ := by
  have hle := (wordEnd_range s _ _ _ (by omega) h).1
  rw [bytes_4 rfl]
  have e : (⟨4, i, j + 1⟩ : Tk).of s = s.extract i (j + 1) := by
    unfold Tk.of
    congr 1
  rw [e, ext_size (by omega), ← wordBs_ext (a := i) hj n (i + 1) (j + 1 - i + 1) (s.size + 1) h (by omega) (by omega) (by omega) (by omega), show (i : Int) + 1 - i = 1 by omega]
theorem bytesOf_congr {f g : Nat → Bool} {b c : Bool} (h : ∀ x, x < 256 → (f x == b) = (g x == c)) : bytesOf f b = bytesOf g c := by
  unfold bytesOf
  congr 1
  exact List.filter_congr fun x hx => h x (List.mem_range.1 hx)
theorem set_bytes_of (s : ByteArray) (i : Nat) (j : Nat) (n : Nat) (f : Nat → Bool) (hj : j < s.size) (h : setEnd s (setFrom s i) n (setFrom s i) = some (j : Int)) (hf : ∀ c, c < 256 → f c = SetF s i c) : (⟨5, i, j + 1⟩ : Tk).bytes s = ⟨(bytesOf f true).toArray⟩ := by
  have hfr : (i : Int) + 1 ≤ setFrom s i := by unfold setFrom; split <;> omega
  have hle := (setEnd_range s _ _ _ _ (by omega) h).1
  rw [bytes_5 rfl]
  have e : (⟨5, i, j + 1⟩ : Tk).of s = s.extract i (j + 1) := by
    unfold Tk.of
    congr 1
  have hm := membs_ext (a := i) hj n (setFrom s i) (j + 1 - i + 1) (s.size + 1) h (by omega) (by omega) (by omega) (by omega)
  rw [e]
  congr 1
  congr 1
  unfold setBs
  have e1 : bAt (s.extract i (j + 1)) 1 = bAt s (i + 1) := by
    have := bAt_ext (s := s) (a := i) (b := j + 1) (by omega) ((i : Int) + 1) (by omega) (by omega)
    rwa [show (i : Int) + 1 - i = 1 by omega] at this
  rw [e1, ext_size (by omega)]
  by_cases h94 : bAt s (i + 1) = 94
  · have hs2 : setFrom s i = i + 2 := by unfold setFrom; rw [if_pos h94]
    rw [if_pos h94]
    rw [hs2, show (i : Int) + 2 - i = 2 by omega] at hm
    rw [hm]
    refine bytesOf_congr fun x hx => ?_
    rw [hf x hx]
    unfold SetF
    rw [if_pos h94, hs2]
    cases isIn (membs s (s.size + 1) ((i : Int) + 2)) x <;> rfl
  · have hs2 : setFrom s i = i + 1 := by unfold setFrom; rw [if_neg h94]
    rw [if_neg h94]
    rw [hs2, show (i : Int) + 1 - i = 1 by omega] at hm
    rw [hm]
    refine bytesOf_congr fun x hx => ?_
    rw [hf x hx]
    unfold SetF
    rw [if_neg h94, hs2]
theorem dot_bytes (s : ByteArray) (t : Tk) (h : t.k = 12) : t.bytes s = ⟨(bytesOf (fun _ => true) true).toArray⟩ := by
  rw [bytes_12 h]
  congr 1
end Go.Proofs.YtbojcemamhiodaaGreatDoor

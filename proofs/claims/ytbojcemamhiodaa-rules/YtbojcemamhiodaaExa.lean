import Derived.Test.YtbojcemamhiodaaTots
namespace Go.Proofs.Ytbojcemamhiodaa

/-- an expression as the document's answer has it: its block, what it is (numbered as a node's kinds), and what hangs on it -/
structure Ex where
  b : Nat
  op : Int
  str : ByteArray
  set : Nat → Bool
  at_ : Int
  kids : List Ex

/-- the program's node of an expression -/
def Ex.norm : Ex → Nd
  | ⟨_, op, str, f, a, kids⟩ => if op = 5 ∨ op = 6 then joinF op (kids.map Ex.norm) else ⟨op, a, if op = 1 then ⟨(bytesOf f true).toArray⟩ else str, kids.map Ex.norm⟩
def normL (l : List Ex) : List Nd := l.map Ex.norm
theorem normL_map (l : List Ex) : normL l = l.map Ex.norm := rfl
theorem normL_append (l m : List Ex) : normL (l ++ m) = normL l ++ normL m := by rw [normL_map, normL_map, normL_map, List.map_append]
theorem normL_length (l : List Ex) : (normL l).length = l.length := by rw [normL_map, List.length_map]
theorem Ex.norm_join (e : Ex) (h : e.op = 5 ∨ e.op = 6) : e.norm = joinF e.op (normL e.kids) := by
  obtain ⟨b, op, str, f, a, kids⟩ := e
  rw [Ex.norm, if_pos h]
  rfl
theorem Ex.norm_else (e : Ex) (h : ¬ (e.op = 5 ∨ e.op = 6)) : e.norm = ⟨e.op, e.at_, if e.op = 1 then ⟨(bytesOf e.set true).toArray⟩ else e.str, normL e.kids⟩ := by
  obtain ⟨b, op, str, f, a, kids⟩ := e
  rw [Ex.norm, if_neg h]
  rfl

/-- well made -/
def OkX : Ex → Prop
  | ⟨_, op, _, _, a, kids⟩ => (0 ≤ op ∧ op ≤ 11) ∧ 0 ≤ a ∧ (op ≤ 3 → kids = []) ∧ (op = 4 ∨ 7 ≤ op → kids.length = 1) ∧ (op = 5 → kids.length ≠ 1) ∧ (op = 6 → 2 ≤ kids.length) ∧ ∀ k ∈ kids, OkX k
structure OkN (e : Ex) : Prop where
  op : 0 ≤ e.op ∧ e.op ≤ 11
  at0 : 0 ≤ e.at_
  leaf : e.op ≤ 3 → e.kids = []
  one : e.op = 4 ∨ 7 ≤ e.op → e.kids.length = 1
  row : e.op = 5 → e.kids.length ≠ 1
  choice : e.op = 6 → 2 ≤ e.kids.length
  kids : ∀ k ∈ e.kids, OkX k
theorem OkX_iff (e : Ex) : OkX e ↔ OkN e := by
  obtain ⟨b, op, str, f, a, kids⟩ := e
  rw [OkX]
  constructor
  · rintro ⟨h1, h2, h3, h4, h5, h6, h7⟩
    exact ⟨h1, h2, h3, h4, h5, h6, h7⟩
  · rintro ⟨h1, h2, h3, h4, h5, h6, h7⟩
    exact ⟨h1, h2, h3, h4, h5, h6, h7⟩

/-- by an expression's parts -/
theorem Ex.ind {P : Ex → Prop} (h : ∀ e : Ex, (∀ k ∈ e.kids, P k) → P e) (e : Ex) : P e :=
  Ex.rec (motive_1 := P) (motive_2 := fun l => ∀ k ∈ l, P k) (fun b op str f a kids ih => h ⟨b, op, str, f, a, kids⟩ ih) (fun k hk => by simp at hk)
    (fun k l h1 h2 j hj => by
      rw [List.mem_cons] at hj
      rcases hj with rfl | hj
      · exact h1
      · exact h2 j hj) e
theorem flat_ge {k : Int} (hk : k = 5 ∨ k = 6) : ∀ {l : List Nd}, (∀ n ∈ l, WideN n) → l.length ≤ (flatL k l).length
  | [], _ => Nat.le_refl _
  | n :: l, h => by
    have ih := flat_ge hk (l := l) fun m hm => h m (by simp [hm])
    rw [flatL, List.length_append, List.length_cons]
    split
    · rename_i e
      have := h n (by simp) (by omega)
      omega
    · simp
      omega
theorem joinL_two (k : Int) : ∀ {l : List Nd}, 2 ≤ l.length → joinL k l = nd0 k l
  | [], h => by simp at h
  | [_], h => by simp at h
  | _ :: _ :: _, _ => rfl
theorem joinF_two {k : Int} (hk : k = 5 ∨ k = 6) {l : List Nd} (hw : ∀ n ∈ l, WideN n) (h : 2 ≤ l.length) : joinF k l = nd0 k (flatL k l) := by
  unfold joinF
  exact joinL_two k (Nat.le_trans h (flat_ge hk hw))

/-- what an expression's node is -/
theorem norm_cases {e : Ex} (h : OkN e) (hw : ∀ k ∈ e.kids, WideN k.norm) :
    (¬ (e.op = 5 ∨ e.op = 6) ∧ e.norm = ⟨e.op, e.at_, if e.op = 1 then ⟨(bytesOf e.set true).toArray⟩ else e.str, normL e.kids⟩) ∨
    (e.op = 5 ∧ e.kids = [] ∧ e.norm = nd0 0 []) ∨ ((e.op = 5 ∨ e.op = 6) ∧ 2 ≤ e.kids.length ∧ e.norm = nd0 e.op (flatL e.op (normL e.kids))) := by
  by_cases ho : e.op = 5 ∨ e.op = 6
  · right
    rw [e.norm_join ho]
    by_cases h0 : e.kids.length = 0
    · have h1 : e.kids = [] := List.eq_nil_of_length_eq_zero h0
      left
      refine ⟨?_, h1, ?_⟩
      · rcases ho with ho | ho
        · exact ho
        · have := h.choice ho; omega
      · rw [h1]; rfl
    · right
      have h2 : 2 ≤ e.kids.length := by
        rcases ho with ho | ho
        · have := h.row ho; omega
        · exact h.choice ho
      refine ⟨ho, h2, joinF_two ho (fun n hn => ?_) (by rw [normL_length]; exact h2)⟩
      rw [normL_map, List.mem_map] at hn
      obtain ⟨k, hk, rfl⟩ := hn
      exact hw k hk
  · exact .inl ⟨ho, e.norm_else ho⟩
theorem norm_wide (e : Ex) : OkX e → WideN e.norm := by
  refine Ex.ind (P := fun e => OkX e → WideN e.norm) (fun e ih h => ?_) e
  rw [OkX_iff] at h
  have hw : ∀ k ∈ e.kids, WideN k.norm := fun k hk => ih k hk (h.kids k hk)
  rcases norm_cases h hw with ⟨h1, h2⟩ | ⟨_, _, h2⟩ | ⟨h1, h3, h2⟩
  · rw [h2]; intro hh; exact absurd hh h1
  · rw [h2]; intro hh; simp [nd0] at hh
  · rw [h2]
    intro _
    have := flat_ge (k := e.op) h1 (l := normL e.kids) (fun n hn => by
      rw [normL_map, List.mem_map] at hn
      obtain ⟨k, hk, rfl⟩ := hn
      exact hw k hk)
    rw [normL_length] at this
    show 2 ≤ (flatL e.op (normL e.kids)).length
    omega
theorem norm_of {e : Ex} (h : OkX e) : (¬ (e.op = 5 ∨ e.op = 6) ∧ e.norm = ⟨e.op, e.at_, if e.op = 1 then ⟨(bytesOf e.set true).toArray⟩ else e.str, normL e.kids⟩) ∨
    (e.op = 5 ∧ e.kids = [] ∧ e.norm = nd0 0 []) ∨ ((e.op = 5 ∨ e.op = 6) ∧ 2 ≤ e.kids.length ∧ e.norm = nd0 e.op (flatL e.op (normL e.kids))) := by
  rw [OkX_iff] at h
  exact norm_cases h fun k hk => norm_wide k (h.kids k hk)

/-- how many parts an expression has -/
def szX : Ex → Nat
  | ⟨_, _, _, _, _, kids⟩ => 1 + (kids.map szX).sum
def szL (l : List Ex) : Nat := (l.map szX).sum
def szN : Nd → Nat
  | ⟨_, _, _, kids⟩ => 1 + (kids.map szN).sum
def szNL (l : List Nd) : Nat := (l.map szN).sum
/-- how many that are no rows or choices -/
def cN : Nd → Nat
  | ⟨k, _, _, kids⟩ => if k = 5 ∨ k = 6 then (kids.map cN).sum else 1 + (kids.map cN).sum
def cL (l : List Nd) : Nat := (l.map cN).sum
theorem szL_cons (e : Ex) (l : List Ex) : szL (e :: l) = szX e + szL l := by simp [szL]
theorem szNL_cons (e : Nd) (l : List Nd) : szNL (e :: l) = szN e + szNL l := by simp [szNL]
theorem cL_cons (e : Nd) (l : List Nd) : cL (e :: l) = cN e + cL l := by simp [cL]
theorem szX_def (e : Ex) : szX e = 1 + szL e.kids := by obtain ⟨b, op, str, f, a, kids⟩ := e; rw [szX]; rfl
theorem szN_def (e : Nd) : szN e = 1 + szNL e.kids := by obtain ⟨b, op, str, kids⟩ := e; rw [szN]; rfl
theorem cN_def (e : Nd) : cN e = if e.kind = 5 ∨ e.kind = 6 then cL e.kids else 1 + cL e.kids := by obtain ⟨b, op, str, kids⟩ := e; rw [cN]; rfl
theorem cL_append (l m : List Nd) : cL (l ++ m) = cL l + cL m := by simp [cL]
theorem szNL_append (l m : List Nd) : szNL (l ++ m) = szNL l + szNL m := by simp [szNL]
theorem szL_append (l m : List Ex) : szL (l ++ m) = szL l + szL m := by simp [szL]
theorem cL_flat {k : Int} (hk : k = 5 ∨ k = 6) : ∀ l, cL (flatL k l) = cL l
  | [] => rfl
  | n :: l => by
    rw [flatL, cL_append, cL_cons, cL_flat hk l]
    split
    · rename_i e
      rw [cN_def, if_pos (by omega)]
    · rw [cL_cons]; rfl
theorem cL_le (l : List Nd) (h : ∀ n ∈ l, cN n ≤ szN n) : cL l ≤ szNL l := by
  induction l with
  | nil => exact Nat.le_refl _
  | cons n l ih =>
    rw [cL_cons, szNL_cons]
    have := h n (by simp)
    have := ih fun m hm => h m (by simp [hm])
    omega
theorem cN_le (n : Nd) : cN n ≤ szN n := by
  refine Nd.ind (P := fun n => cN n ≤ szN n) (fun n ih => ?_) n
  have := cL_le n.kids ih
  rw [cN_def, szN_def]
  split <;> omega
theorem szL_c : ∀ (l : List Ex), (∀ k ∈ l, szX k + 1 ≤ 2 * cN k.norm) → szL l + l.length ≤ 2 * cL (normL l)
  | [], _ => Nat.le_refl _
  | e :: l, h => by
    rw [szL_cons, show normL (e :: l) = e.norm :: normL l from rfl, cL_cons, List.length_cons]
    have h1 := h e (by simp)
    have h2 := szL_c l fun k hk => h k (by simp [hk])
    omega
theorem szX_c (e : Ex) : OkX e → szX e + 1 ≤ 2 * cN e.norm := by
  refine Ex.ind (P := fun e => OkX e → szX e + 1 ≤ 2 * cN e.norm) (fun e ih h => ?_) e
  have h' := (OkX_iff e).1 h
  have hl := szL_c e.kids fun k hk => ih k hk (h'.kids k hk)
  rw [szX_def]
  rcases norm_of h with ⟨h1, h2⟩ | ⟨_, h3, h2⟩ | ⟨h1, h3, h2⟩
  · rw [h2, cN_def, if_neg h1]
    show _ ≤ 2 * (1 + cL (normL e.kids))
    omega
  · rw [h2, h3, cN_def]; decide
  · rw [h2, cN_def, if_pos (show (nd0 e.op (flatL e.op (normL e.kids))).kind = 5 ∨ (nd0 e.op (flatL e.op (normL e.kids))).kind = 6 from h1)]
    show _ ≤ 2 * cL (flatL e.op (normL e.kids))
    rw [cL_flat h1]
    omega

/-- may an expression match nothing, by what is known of names -/
def bareX (kn : ByteArray → Bool) : Ex → Bool
  | ⟨_, op, str, _, _, kids⟩ => if op = 1 then false else if op = 0 then str.toList.isEmpty else if op = 2 then kn str else
    if op = 3 ∨ op = 7 ∨ op = 8 ∨ op = 9 ∨ op = 11 then true else if op = 6 then (kids.map fun k => bareX kn k).any id else (kids.map fun k => bareX kn k).all id
def mayW (kn : ByteArray → Bool) : Nd → Bool
  | ⟨k, _, t, kids⟩ => if k = 0 then t.toList.isEmpty else if k = 2 then kn t else
    if k = 3 ∨ k = 7 ∨ k = 8 ∨ k = 9 ∨ k = 11 then true else if k = 10 ∨ k = 4 ∨ k = 5 then (kids.map fun k => mayW kn k).all id else if k = 6 then (kids.map fun k => mayW kn k).any id else false
theorem map_any {α : Type} (f : α → Bool) (l : List α) : (l.map f).any id = l.any f := by rw [List.any_map]; rfl
theorem map_all {α : Type} (f : α → Bool) (l : List α) : (l.map f).all id = l.all f := by rw [List.all_map]; rfl
theorem bareX_def (kn : ByteArray → Bool) (e : Ex) : bareX kn e = if e.op = 1 then false else if e.op = 0 then e.str.toList.isEmpty else if e.op = 2 then kn e.str else
    if e.op = 3 ∨ e.op = 7 ∨ e.op = 8 ∨ e.op = 9 ∨ e.op = 11 then true else if e.op = 6 then e.kids.any (bareX kn) else e.kids.all (bareX kn) := by
  obtain ⟨b, op, str, f, a, kids⟩ := e
  rw [bareX, map_any, map_all]
theorem mayW_def (kn : ByteArray → Bool) (n : Nd) : mayW kn n = if n.kind = 0 then n.text.toList.isEmpty else if n.kind = 2 then kn n.text else
    if n.kind = 3 ∨ n.kind = 7 ∨ n.kind = 8 ∨ n.kind = 9 ∨ n.kind = 11 then true else if n.kind = 10 ∨ n.kind = 4 ∨ n.kind = 5 then n.kids.all (mayW kn) else if n.kind = 6 then n.kids.any (mayW kn) else false := by
  obtain ⟨k, a, t, kids⟩ := n
  rw [mayW, map_any, map_all]
/-- what the program knows of a name -/
def knR (rs : List Rl) (nm : ByteArray) : Bool := decide (0 ≤ findF rs nm) && emptyAt rs (findF rs nm)
theorem all_congr' {α : Type} {f g : α → Bool} : ∀ {l : List α}, (∀ x ∈ l, f x = g x) → l.all f = l.all g
  | [], _ => rfl
  | x :: l, h => by rw [List.all_cons, List.all_cons, h x (by simp), all_congr' fun y hy => h y (by simp [hy])]
theorem any_congr' {α : Type} {f g : α → Bool} : ∀ {l : List α}, (∀ x ∈ l, f x = g x) → l.any f = l.any g
  | [], _ => rfl
  | x :: l, h => by rw [List.any_cons, List.any_cons, h x (by simp), any_congr' fun y hy => h y (by simp [hy])]
theorem fits_kid {F : Nat} {n k : Nd} (h : fits F n.kids = true) (hk : k ∈ n.kids) : ∃ F', F = F' + 1 ∧ fits F' k.kids = true := by
  cases F with
  | zero => simp [fits] at h
  | succ F => 
    rw [fits, List.all_eq_true] at h
    exact ⟨F, rfl, h k hk⟩
theorem mayE_W (rs : List Rl) (n : Nd) : ∀ F, fits F n.kids = true → mayE rs (F + 1) n = mayW (knR rs) n := by
  refine Nd.ind (P := fun n => ∀ F, fits F n.kids = true → mayE rs (F + 1) n = mayW (knR rs) n) (fun n ih F h => ?_) n
  have hk : ∀ k ∈ n.kids, mayE rs F k = mayW (knR rs) k := fun k hk => by
    obtain ⟨F', rfl, hf⟩ := fits_kid h hk
    exact ih k hk F' hf
  rw [mayE, mayW_def, all_congr' hk, any_congr' hk]
  rfl
theorem flat_all {k : Int} {f : Nd → Bool} (hf : ∀ n, n.kind = k → f n = n.kids.all f) : ∀ l, (flatL k l).all f = l.all f
  | [] => rfl
  | n :: l => by
    rw [flatL, List.all_append, List.all_cons, flat_all hf l]
    split
    · rename_i e; rw [hf n e]
    · simp
theorem flat_any {k : Int} {f : Nd → Bool} (hf : ∀ n, n.kind = k → f n = n.kids.any f) : ∀ l, (flatL k l).any f = l.any f
  | [] => rfl
  | n :: l => by
    rw [flatL, List.any_append, List.any_cons, flat_any hf l]
    split
    · rename_i e; rw [hf n e]
    · simp
theorem all_norm {f : Nd → Bool} {g : Ex → Bool} {l : List Ex} (h : ∀ k ∈ l, f k.norm = g k) : (normL l).all f = l.all g := by
  rw [normL_map, List.all_map]
  exact all_congr' h
theorem any_norm {f : Nd → Bool} {g : Ex → Bool} {l : List Ex} (h : ∀ k ∈ l, f k.norm = g k) : (normL l).any f = l.any g := by
  rw [normL_map, List.any_map]
  exact any_congr' h
theorem mayW_5 (kn : ByteArray → Bool) {n : Nd} (h : n.kind = 5) : mayW kn n = n.kids.all (mayW kn) := by
  rw [mayW_def, h]; rfl
theorem mayW_6 (kn : ByteArray → Bool) {n : Nd} (h : n.kind = 6) : mayW kn n = n.kids.any (mayW kn) := by
  rw [mayW_def, h]; rfl
theorem may_norm (kn : ByteArray → Bool) (e : Ex) : OkX e → mayW kn e.norm = bareX kn e := by
  refine Ex.ind (P := fun e => OkX e → mayW kn e.norm = bareX kn e) (fun e ih h => ?_) e
  have h' := (OkX_iff e).1 h
  have hk : ∀ k ∈ e.kids, mayW kn k.norm = bareX kn k := fun k hk => ih k hk (h'.kids k hk)
  have ho := h'.op
  rw [bareX_def]
  rcases norm_of h with ⟨h1, h2⟩ | ⟨h1, h3, h2⟩ | ⟨h1, h3, h2⟩
  · rw [h2, mayW_def]
    dsimp only
    rw [all_norm hk, any_norm hk]
    by_cases e1 : e.op = 1
    · simp [e1]
    · simp only [e1, if_false]
      by_cases e0 : e.op = 0
      · simp [e0]
      · by_cases e2 : e.op = 2
        · simp [e2]
        · by_cases e3 : e.op = 3 ∨ e.op = 7 ∨ e.op = 8 ∨ e.op = 9 ∨ e.op = 11
          · simp [e0, e2, e3]
          · have e4 : e.op = 10 ∨ e.op = 4 ∨ e.op = 5 := by omega
            have e6 : e.op ≠ 6 := by omega
            simp [e0, e2, e3, e4, e6]
  · rw [h2, mayW_def, h1, h3]; simp [nd0]
  · rcases h1 with h1 | h1
    · rw [h2, h1, mayW_5 kn rfl]
      show (flatL 5 (normL e.kids)).all (mayW kn) = _
      rw [flat_all (fun n hn => mayW_5 kn hn), all_norm hk]; rfl
    · rw [h2, h1, mayW_6 kn rfl]
      show (flatL 6 (normL e.kids)).any (mayW kn) = _
      rw [flat_any (fun n hn => mayW_6 kn hn), any_norm hk]; rfl
end Go.Proofs.Ytbojcemamhiodaa
namespace Go.Proofs.Ytbojcemamhiodaa

/-- the first that is told of a list of expressions -/
def firstX (f : Ex → Int) : List Ex → Int
  | [] => -1
  | e :: l => if (f e != -1) = true then f e else firstX f l
theorem firstL_norm {f : Nd → Int} {g : Ex → Int} : ∀ {l : List Ex}, (∀ k ∈ l, f k.norm = g k) → firstL f (normL l) = firstX g l
  | [], _ => rfl
  | e :: l, h => by
    rw [show normL (e :: l) = e.norm :: normL l from rfl, firstL, firstX, h e (by simp), firstL_norm fun k hk => h k (by simp [hk])]
theorem firstL_congr {f g : Nd → Int} : ∀ {l : List Nd}, (∀ k ∈ l, f k = g k) → firstL f l = firstL g l
  | [], _ => rfl
  | e :: l, h => by
    rw [firstL, firstL, h e (by simp), firstL_congr fun k hk => h k (by simp [hk])]
theorem firstL_append (f : Nd → Int) : ∀ l m, firstL f (l ++ m) = if (firstL f l != -1) = true then firstL f l else firstL f m
  | [], m => by simp [firstL]
  | e :: l, m => by
    rw [List.cons_append, firstL, firstL, firstL_append f l m]
    by_cases h : (f e != -1) = true
    · simp [h]
    · simp [h]
theorem firstL_flat {k : Int} {f : Nd → Int} (hf : ∀ n, n.kind = k → f n = firstL f n.kids) : ∀ l, firstL f (flatL k l) = firstL f l
  | [] => rfl
  | n :: l => by
    rw [flatL, firstL_append, firstL, firstL_flat hf l]
    split
    · rename_i e
      rw [hf n e]
    · have e1 : firstL f [n] = f n := by
        unfold firstL firstL
        split
        · rfl
        · rename_i h; exact (by simpa using h : f n = -1).symm
      rw [e1]

/-- a name that is not known -/
def unkX (un : ByteArray → Bool) : Ex → Int
  | ⟨_, op, str, _, a, kids⟩ => if op = 2 ∧ un str = true then a else ((kids.map fun k => unkX un k).find? (· != -1)).getD (-1)
theorem find_first {α : Type} (f : α → Int) (g : List α → Int) (h0 : g [] = -1) (h1 : ∀ x l, g (x :: l) = if (f x != -1) = true then f x else g l) : ∀ l, ((l.map f).find? (· != -1)).getD (-1) = g l
  | [] => by rw [h0]; rfl
  | x :: l => by
    rw [h1, List.map_cons, List.find?_cons]
    cases hx : (f x != -1)
    · rw [if_neg (by simp)]; exact find_first f g h0 h1 l
    · simp
theorem unkX_def (un : ByteArray → Bool) (e : Ex) : unkX un e = if e.op = 2 ∧ un e.str = true then e.at_ else firstX (unkX un) e.kids := by
  obtain ⟨b, op, str, f, a, kids⟩ := e
  rw [unkX, find_first (unkX un) (firstX (unkX un)) rfl (fun _ _ => rfl)]
/-- the same of a node -/
def unkW (un : ByteArray → Bool) : Nd → Int
  | ⟨k, a, t, kids⟩ => if k = 2 ∧ un t = true then a else ((kids.map fun n => unkW un n).find? (· != -1)).getD (-1)
theorem unkW_def (un : ByteArray → Bool) (n : Nd) : unkW un n = if n.kind = 2 ∧ un n.text = true then n.at_ else firstL (unkW un) n.kids := by
  obtain ⟨k, a, t, kids⟩ := n
  rw [unkW, find_first (unkW un) (firstL (unkW un)) rfl (fun _ _ => rfl)]
def unR (rs : List Rl) (nm : ByteArray) : Bool := decide (findF rs nm < 0)
theorem unkN_W (rs : List Rl) (n : Nd) : ∀ F, fits F n.kids = true → unkN rs (F + 1) n = unkW (unR rs) n := by
  refine Nd.ind (P := fun n => ∀ F, fits F n.kids = true → unkN rs (F + 1) n = unkW (unR rs) n) (fun n ih F h => ?_) n
  have hk : ∀ k ∈ n.kids, unkN rs F k = unkW (unR rs) k := fun k hk => by
    obtain ⟨F', rfl, hf⟩ := fits_kid h hk
    exact ih k hk F' hf
  rw [unkN, unkW_def, firstL_congr hk]
  simp [unR]
theorem unkW_57 (un : ByteArray → Bool) {n : Nd} (h : n.kind ≠ 2) : unkW un n = firstL (unkW un) n.kids := by
  rw [unkW_def, if_neg (fun e => h e.1)]
theorem unk_norm (un : ByteArray → Bool) (e : Ex) : OkX e → unkW un e.norm = unkX un e := by
  refine Ex.ind (P := fun e => OkX e → unkW un e.norm = unkX un e) (fun e ih h => ?_) e
  have h' := (OkX_iff e).1 h
  have hk : ∀ k ∈ e.kids, unkW un k.norm = unkX un k := fun k hk => ih k hk (h'.kids k hk)
  rw [unkX_def]
  rcases norm_of h with ⟨h1, h2⟩ | ⟨h1, h3, h2⟩ | ⟨h1, h3, h2⟩
  · rw [h2, unkW_def]
    dsimp only
    rw [firstL_norm hk]
    by_cases e2 : e.op = 2
    · simp [e2]
    · simp [e2]
  · rw [h2, unkW_def, h1, h3]
    simp [nd0, firstL, firstX]
  · have e2 : e.op ≠ 2 := by omega
    rw [h2, unkW_57 un (show (nd0 e.op _).kind ≠ 2 from e2), if_neg (fun x => e2 x.1)]
    show firstL (unkW un) (flatL e.op (normL e.kids)) = _
    rw [firstL_flat (fun n hn => unkW_57 un (by omega)), firstL_norm hk]

/-- the first sign behind what may match nothing -/
def loopX (kn : ByteArray → Bool) : Ex → Int
  | ⟨_, op, _, _, a, kids⟩ => if (((kids.map fun k => loopX kn k).find? (· != -1)).getD (-1) != -1) = true then ((kids.map fun k => loopX kn k).find? (· != -1)).getD (-1) else
    if op ≠ 9 ∧ op ≠ 10 then -1 else if kids.all (bareX kn) = true then a else -1
theorem loopX_def (kn : ByteArray → Bool) (e : Ex) : loopX kn e = if (firstX (loopX kn) e.kids != -1) = true then firstX (loopX kn) e.kids else
    if e.op ≠ 9 ∧ e.op ≠ 10 then -1 else if e.kids.all (bareX kn) = true then e.at_ else -1 := by
  obtain ⟨b, op, str, f, a, kids⟩ := e
  rw [loopX, find_first (loopX kn) (firstX (loopX kn)) rfl (fun _ _ => rfl)]
def loopW (kn : ByteArray → Bool) : Nd → Int
  | ⟨k, a, _, kids⟩ => if (((kids.map fun n => loopW kn n).find? (· != -1)).getD (-1) != -1) = true then ((kids.map fun n => loopW kn n).find? (· != -1)).getD (-1) else
    if k ≠ 9 ∧ k ≠ 10 then -1 else if kids.all (mayW kn) = true then a else -1
theorem loopW_def (kn : ByteArray → Bool) (n : Nd) : loopW kn n = if (firstL (loopW kn) n.kids != -1) = true then firstL (loopW kn) n.kids else
    if n.kind ≠ 9 ∧ n.kind ≠ 10 then -1 else if n.kids.all (mayW kn) = true then n.at_ else -1 := by
  obtain ⟨k, a, t, kids⟩ := n
  rw [loopW, find_first (loopW kn) (firstL (loopW kn)) rfl (fun _ _ => rfl)]
theorem loopN_W (rs : List Rl) (n : Nd) : ∀ F, fits F n.kids = true → loopN rs (F + 1) n = loopW (knR rs) n := by
  refine Nd.ind (P := fun n => ∀ F, fits F n.kids = true → loopN rs (F + 1) n = loopW (knR rs) n) (fun n ih F h => ?_) n
  have hk : ∀ k ∈ n.kids, loopN rs F k = loopW (knR rs) k := fun k hk => by
    obtain ⟨F', rfl, hf⟩ := fits_kid h hk
    exact ih k hk F' hf
  have hm : ∀ k ∈ n.kids, mayE rs F k = mayW (knR rs) k := fun k hk => by
    obtain ⟨F', rfl, hf⟩ := fits_kid h hk
    exact mayE_W rs k F' hf
  rw [loopN, loopW_def, firstL_congr hk, all_congr' hm]
theorem loopW_57 (kn : ByteArray → Bool) {n : Nd} (h : n.kind = 5 ∨ n.kind = 6) : loopW kn n = firstL (loopW kn) n.kids := by
  rw [loopW_def]
  split
  · rfl
  · rename_i hh
    rw [if_pos ⟨by omega, by omega⟩]
    exact (by simpa using hh : firstL (loopW kn) n.kids = -1).symm
theorem loop_norm (kn : ByteArray → Bool) (e : Ex) : OkX e → loopW kn e.norm = loopX kn e := by
  refine Ex.ind (P := fun e => OkX e → loopW kn e.norm = loopX kn e) (fun e ih h => ?_) e
  have h' := (OkX_iff e).1 h
  have hk : ∀ k ∈ e.kids, loopW kn k.norm = loopX kn k := fun k hk => ih k hk (h'.kids k hk)
  have hm : ∀ k ∈ e.kids, mayW kn k.norm = bareX kn k := fun k hk => may_norm kn k (h'.kids k hk)
  rw [loopX_def]
  rcases norm_of h with ⟨h1, h2⟩ | ⟨h1, h3, h2⟩ | ⟨h1, h3, h2⟩
  · rw [h2, loopW_def]
    dsimp only
    rw [firstL_norm hk, all_norm hm]
  · rw [h2, loopW_def, h1, h3]
    simp [nd0, firstL, firstX]
  · rw [h2, loopW_57 kn (show (nd0 e.op _).kind = 5 ∨ (nd0 e.op _).kind = 6 from h1)]
    show firstL (loopW kn) (flatL e.op (normL e.kids)) = _
    rw [firstL_flat (fun n hn => loopW_57 kn (by omega)), firstL_norm hk]
    split
    · rfl
    · rename_i hh
      rw [if_pos ⟨by omega, by omega⟩]
      simpa using hh

/-- in order: what is within first -/
def allX : Ex → List Ex
  | ⟨b, op, str, f, a, kids⟩ => (kids.map allX).flatten ++ [⟨b, op, str, f, a, kids⟩]
theorem allX_def (e : Ex) : allX e = (e.kids.map allX).flatten ++ [e] := by
  obtain ⟨b, op, str, f, a, kids⟩ := e
  rw [allX]
/-- the place of the first of a list for which p holds -/
def fstP (p : Ex → Bool) : List Ex → Int
  | [] => -1
  | e :: l => if p e = true then e.at_ else fstP p l
theorem fstP_append {p : Ex → Bool} : ∀ {l : List Ex} (m : List Ex), (∀ e ∈ l, 0 ≤ e.at_) → fstP p (l ++ m) = if (fstP p l != -1) = true then fstP p l else fstP p m
  | [], m, _ => by simp [fstP]
  | e :: l, m, h => by
    rw [List.cons_append, fstP, fstP, fstP_append m fun k hk => h k (by simp [hk])]
    have := h e (by simp)
    by_cases hp : p e = true
    · have : (e.at_ != -1) = true := by simp; omega
      simp [hp, this]
    · simp [hp]
theorem allX_ok (e : Ex) : OkX e → ∀ k ∈ allX e, OkX k := by
  refine Ex.ind (P := fun e => OkX e → ∀ k ∈ allX e, OkX k) (fun e ih h k hk => ?_) e
  rw [allX_def, List.mem_append] at hk
  rcases hk with hk | hk
  · rw [List.mem_flatten] at hk
    obtain ⟨l, hl, hk⟩ := hk
    rw [List.mem_map] at hl
    obtain ⟨j, hj, rfl⟩ := hl
    exact ih j hj (((OkX_iff e).1 h).kids j hj) k hk
  · rw [List.mem_singleton] at hk
    rw [hk]; exact h
theorem fst_kids {p : Ex → Bool} {g : Ex → Int} : ∀ {l : List Ex}, (∀ k ∈ l, OkX k) → (∀ k ∈ l, g k = fstP p (allX k)) → firstX g l = fstP p (l.map allX).flatten
  | [], _, _ => rfl
  | e :: l, ho, h => by
    rw [firstX, List.map_cons, List.flatten_cons, fstP_append _ (fun k hk => ((OkX_iff k).1 (allX_ok e (ho e (by simp)) k hk)).at0), h e (by simp), fst_kids (fun k hk => ho k (by simp [hk])) fun k hk => h k (by simp [hk])]
theorem kids_at0 {e : Ex} (h : OkX e) : ∀ k ∈ (e.kids.map allX).flatten, 0 ≤ k.at_ := fun k hk =>
  ((OkX_iff k).1 (allX_ok e h k (by rw [allX_def]; exact List.mem_append_left _ hk))).at0
theorem unk_all (un : ByteArray → Bool) (e : Ex) : OkX e → unkX un e = fstP (fun x => x.op == 2 && un x.str) (allX e) := by
  refine Ex.ind (P := fun e => OkX e → unkX un e = fstP (fun x => x.op == 2 && un x.str) (allX e)) (fun e ih h => ?_) e
  have h' := (OkX_iff e).1 h
  rw [unkX_def, allX_def, fstP_append _ (kids_at0 h), ← fst_kids h'.kids (fun k hk => ih k hk (h'.kids k hk)), fstP, fstP]
  by_cases e2 : e.op = 2
  · have := h'.leaf (by omega)
    rw [this]
    simp [e2, firstX]
  · by_cases hh : (firstX (unkX un) e.kids != -1) = true
    · simp [e2, hh]
    · simp [e2, hh]
      simpa using hh
theorem loop_all (kn : ByteArray → Bool) (e : Ex) : OkX e → loopX kn e = fstP (fun x => (x.op == 9 || x.op == 10) && x.kids.all (bareX kn)) (allX e) := by
  refine Ex.ind (P := fun e => OkX e → loopX kn e = fstP (fun x => (x.op == 9 || x.op == 10) && x.kids.all (bareX kn)) (allX e)) (fun e ih h => ?_) e
  have h' := (OkX_iff e).1 h
  rw [loopX_def, allX_def, fstP_append _ (kids_at0 h), ← fst_kids h'.kids (fun k hk => ih k hk (h'.kids k hk)), fstP, fstP]
  split
  · rfl
  · by_cases e9 : e.op = 9
    · simp [e9]
    · by_cases e10 : e.op = 10
      · simp [e10]
      · simp [e9, e10]
theorem allX_len (e : Ex) : (allX e).length = szX e := by
  refine Ex.ind (P := fun e => (allX e).length = szX e) (fun e ih => ?_) e
  rw [allX_def, szX_def, List.length_append, List.length_flatten, szL, List.map_map, Nat.add_comm]
  congr 2
  exact List.map_congr_left ih
end Go.Proofs.Ytbojcemamhiodaa
namespace Go.Proofs.Ytbojcemamhiodaa

/-- what a row begins with: up to the first part that may not be empty -/
def rowNm : List (List ByteArray × Bool) → List ByteArray
  | [] => []
  | p :: l => p.1 ++ (if p.2 = true then rowNm l else [])
def begX (kn : ByteArray → Bool) : Ex → List ByteArray
  | ⟨_, op, str, _, _, kids⟩ => if op = 2 then [str] else if op = 5 then rowNm (kids.map fun k => (begX kn k, bareX kn k)) else (kids.map fun k => begX kn k).flatten
def begW (kn : ByteArray → Bool) : Nd → List ByteArray
  | ⟨k, _, t, kids⟩ => if k = 2 then [t] else if k = 5 then rowNm (kids.map fun n => (begW kn n, mayW kn n)) else (kids.map fun n => begW kn n).flatten
theorem begX_def (kn : ByteArray → Bool) (e : Ex) : begX kn e = if e.op = 2 then [e.str] else if e.op = 5 then rowNm (e.kids.map fun k => (begX kn k, bareX kn k)) else (e.kids.map (begX kn)).flatten := by
  obtain ⟨b, op, str, f, a, kids⟩ := e
  rw [begX]
theorem begW_def (kn : ByteArray → Bool) (n : Nd) : begW kn n = if n.kind = 2 then [n.text] else if n.kind = 5 then rowNm (n.kids.map fun k => (begW kn k, mayW kn k)) else (n.kids.map (begW kn)).flatten := by
  obtain ⟨k, a, t, kids⟩ := n
  rw [begW]
theorem rowNm_append : ∀ l m : List (List ByteArray × Bool), rowNm (l ++ m) = rowNm l ++ (if (l.all fun p => p.2) = true then rowNm m else [])
  | [], m => by simp [rowNm]
  | p :: l, m => by
    rw [List.cons_append, rowNm, rowNm, rowNm_append l m]
    rw [List.all_cons]
    cases p.2 with
    | false => simp
    | true => rw [Bool.true_and, if_pos rfl, if_pos rfl, List.append_assoc]
theorem rowNm_flat {f : Nd → List ByteArray × Bool} (h1 : ∀ n, n.kind = 5 → (f n).1 = rowNm (n.kids.map f)) (h2 : ∀ n, n.kind = 5 → (f n).2 = n.kids.all fun k => (f k).2) : ∀ l, rowNm ((flatL 5 l).map f) = rowNm (l.map f)
  | [] => rfl
  | n :: l => by
    rw [flatL, List.map_append, rowNm_append, List.map_cons, rowNm, rowNm_flat h1 h2 l]
    split
    · rename_i e
      rw [h1 n e, h2 n e, List.all_map]; rfl
    · simp [rowNm]
theorem flat_flat {f : Nd → List ByteArray} {k : Int} (h : ∀ n, n.kind = k → f n = (n.kids.map f).flatten) : ∀ l, ((flatL k l).map f).flatten = (l.map f).flatten
  | [] => rfl
  | n :: l => by
    rw [flatL, List.map_append, List.flatten_append, List.map_cons, List.flatten_cons, flat_flat h l]
    split
    · rename_i e
      rw [h n e]
    · simp
theorem beg_norm (kn : ByteArray → Bool) (e : Ex) : OkX e → begW kn e.norm = begX kn e := by
  refine Ex.ind (P := fun e => OkX e → begW kn e.norm = begX kn e) (fun e ih h => ?_) e
  have h' := (OkX_iff e).1 h
  have hk : ∀ k ∈ e.kids, begW kn k.norm = begX kn k := fun k hk => ih k hk (h'.kids k hk)
  have hm : ∀ k ∈ e.kids, mayW kn k.norm = bareX kn k := fun k hk => may_norm kn k (h'.kids k hk)
  have e1 : (normL e.kids).map (begW kn) = e.kids.map (begX kn) := by
    rw [normL_map, List.map_map]
    exact List.map_congr_left hk
  have e2 : ((normL e.kids).map fun k => (begW kn k, mayW kn k)) = e.kids.map fun k => (begX kn k, bareX kn k) := by
    rw [normL_map, List.map_map]
    exact List.map_congr_left fun k hk' => by simp [hk k hk', hm k hk']
  rw [begX_def]
  rcases norm_of h with ⟨h1, h2⟩ | ⟨h1, h3, h2⟩ | ⟨h1, h3, h2⟩
  · rw [h2, begW_def]
    dsimp only
    rw [e1, e2]
    by_cases o2 : e.op = 2
    · simp [o2]
    · simp [o2]
  · rw [h2, begW_def, h1, h3]
    simp [nd0, rowNm]
  · rcases h1 with h1 | h1
    · rw [h2, begW_def, h1]
      show rowNm ((flatL 5 (normL e.kids)).map fun k => (begW kn k, mayW kn k)) = rowNm (e.kids.map fun k => (begX kn k, bareX kn k))
      rw [rowNm_flat, e2]
      · intro n hn
        show begW kn n = _
        rw [begW_def, hn]; rfl
      · intro n hn
        show mayW kn n = _
        rw [mayW_5 kn hn]
    · rw [h2, begW_def, h1]
      show ((flatL 6 (normL e.kids)).map (begW kn)).flatten = (e.kids.map (begX kn)).flatten
      rw [flat_flat, e1]
      intro n hn
      rw [begW_def, hn]; rfl
/-- what an expression begins with are names in it -/
theorem beg_known (kn un : ByteArray → Bool) (e : Ex) : OkX e → unkX un e = -1 → ∀ nm ∈ begX kn e, un nm = false := by
  refine Ex.ind (P := fun e => OkX e → unkX un e = -1 → ∀ nm ∈ begX kn e, un nm = false) (fun e ih h hu nm hnm => ?_) e
  have h' := (OkX_iff e).1 h
  have fl : ∀ l : List Ex, (∀ k ∈ l, k ∈ e.kids) → firstX (unkX un) l = -1 → ∀ k ∈ l, unkX un k = -1 := by
    intro l
    induction l with
    | nil => intro _ _ k hk; simp at hk
    | cons x l ihl =>
      intro hm hf k hk
      rw [firstX] at hf
      split at hf
      · rename_i hx; rw [hf] at hx; simp at hx
      · rename_i hx
        rw [List.mem_cons] at hk
        rcases hk with rfl | hk
        · simpa using hx
        · exact ihl (fun j hj => hm j (by simp [hj])) hf k hk
  have rn : ∀ l : List Ex, (∀ k ∈ l, k ∈ e.kids) → ∀ x ∈ rowNm (l.map fun k => (begX kn k, bareX kn k)), ∃ k ∈ l, x ∈ begX kn k := by
    intro l
    induction l with
    | nil => intro _ x hx; simp [rowNm] at hx
    | cons y l ihl =>
      intro hm x hx
      rw [List.map_cons, rowNm, List.mem_append] at hx
      rcases hx with hx | hx
      · exact ⟨y, by simp, hx⟩
      · split at hx
        · obtain ⟨k, hk, hx⟩ := ihl (fun j hj => hm j (by simp [hj])) x hx
          exact ⟨k, by simp [hk], hx⟩
        · simp at hx
  rw [unkX_def] at hu
  rw [begX_def] at hnm
  by_cases o2 : e.op = 2
  · rw [if_pos o2] at hnm
    have : nm = e.str := by simpa using hnm
    subst this
    cases hx : un e.str with
    | false => rfl
    | true =>
      rw [if_pos ⟨o2, hx⟩] at hu
      have := h'.at0
      omega
  · rw [if_neg (fun x => o2 x.1)] at hu
    rw [if_neg o2] at hnm
    obtain ⟨k, hk, hx⟩ : ∃ k ∈ e.kids, nm ∈ begX kn k := by
      split at hnm
      · exact rn e.kids (fun _ h => h) nm hnm
      · rw [List.mem_flatten] at hnm
        obtain ⟨l, hl, hx⟩ := hnm
        rw [List.mem_map] at hl
        obtain ⟨k, hk, rfl⟩ := hl
        exact ⟨k, hk, hx⟩
    exact ih k hk (h'.kids k hk) (fl e.kids (fun _ h => h) hu k hk) nm hx

/-- a bit of an int -/
def hb (v : Int) (j : Nat) : Bool := (bv v).getLsbD j
theorem hb_or (a b : Int) (j : Nat) : hb (orI a b) j = (hb a j || hb b j) := by
  unfold hb
  rw [(orI_bv a b).1, BitVec.getLsbD_or]
theorem hb_zero (j : Nat) : hb 0 j = false := by
  unfold hb bv
  simp
theorem hb_bit (i : Nat) (hi : i < 60) (j : Nat) : hb (bitI i) j = decide (i = j) := by
  unfold hb bitI bv
  rw [Int.toNat_natCast]
  have e : BitVec.ofInt 64 ((2 ^ i : Nat) : Int) = BitVec.twoPow 64 i := by
    apply BitVec.eq_of_toNat_eq
    rw [BitVec.toNat_ofInt, BitVec.toNat_twoPow]
    have h1 : 2 ^ i < 2 ^ 64 := Nat.pow_lt_pow_right (by omega) (by omega)
    have h2 : ((2 ^ i : Nat) : Int) % ((2 ^ 64 : Nat) : Int) = ((2 ^ i : Nat) : Int) := Int.emod_eq_of_lt (Int.natCast_nonneg _) (Int.ofNat_lt.2 h1)
    rw [h2, Int.toNat_natCast, Nat.mod_eq_of_lt h1]
  rw [e, BitVec.getLsbD_twoPow]
  by_cases h : i = j
  · simp [h]; omega
  · simp [h]
theorem hb_and {v : Int} {i : Nat} (hi : i < 60) : (bits .and .i64 v (bitI i) != 0) = hb v i := by
  have e1 : ∀ X : BitVec 64, IntKind.i64.wrap (X.toNat : Int) = 0 ↔ X = 0#64 := by
    intro X
    have hlt := X.isLt
    rw [IntKind.wrap_i64]
    constructor
    · intro h
      apply BitVec.eq_of_toNat_eq
      simp
      omega
    · intro h
      rw [h]
      decide
  have e2 : bits .and .i64 v (bitI i) = IntKind.i64.wrap (((bv v &&& bv (bitI i)).toNat : Nat) : Int) := rfl
  have hbit : ∀ j, (bv (bitI i)).getLsbD j = decide (i = j) := hb_bit i hi
  cases hx : hb v i with
  | false =>
    have : bv v &&& bv (bitI i) = 0#64 := by
      apply BitVec.eq_of_getLsbD_eq
      intro j _
      rw [BitVec.getLsbD_and, hbit]
      by_cases h : i = j
      · subst h
        have hx' : (bv v).getLsbD i = false := hx
        simp [hx']
      · simp [h]
    rw [e2, (e1 _).2 this]
    rfl
  | true =>
    have : bv v &&& bv (bitI i) ≠ 0#64 := by
      intro h
      have h1 := congrArg (fun X => BitVec.getLsbD X i) h
      simp only [BitVec.getLsbD_and, hbit] at h1
      have hx' : (bv v).getLsbD i = true := hx
      simp [hx'] at h1
    have h3 : bits .and .i64 v (bitI i) ≠ 0 := by
      rw [e2]
      exact fun h => this ((e1 _).1 h)
    simpa using h3
/-- what a name adds -/
def gb (rs : List Rl) (j : Nat) (nm : ByteArray) : Bool := decide (0 ≤ findF rs nm) && (decide (findF rs nm = j) || hb (beginsAt rs (findF rs nm)) j)
theorem begL_hb {f : Nd → Int} {e : Nd → Bool} {B : Nd → List ByteArray} {M : Nd → Bool} {p : ByteArray → Bool} (j : Nat) : ∀ (l : List Nd) (s : Int), (∀ n ∈ l, hb (f n) j = (B n).any p) → (∀ n ∈ l, e n = M n) →
    hb (begL f e true l s) j = (hb s j || (rowNm (l.map fun n => (B n, M n))).any p) ∧ hb (begL f e false l s) j = (hb s j || ((l.map B).flatten).any p)
  | [], s, _, _ => by simp [begL, rowNm]
  | n :: l, s, h1, h2 => by
    have ih := begL_hb (f := f) (e := e) (B := B) (M := M) (p := p) j l (orI s (f n)) (fun k hk => h1 k (by simp [hk])) (fun k hk => h2 k (by simp [hk]))
    refine ⟨?_, ?_⟩
    · rw [begL, if_pos rfl, h2 n (by simp), List.map_cons, rowNm, List.any_append]
      cases hM : M n with
      | true => rw [if_pos rfl, ih.1, hb_or, h1 n (by simp), Bool.or_assoc]; simp
      | false => rw [if_neg (by simp), hb_or, h1 n (by simp)]; simp
    · rw [begL, if_neg (by simp), ih.2, hb_or, h1 n (by simp), List.map_cons, List.flatten_cons, List.any_append, Bool.or_assoc]
theorem begN_W (rs : List Rl) (hl : rs.length ≤ 12) (j : Nat) (n : Nd) : ∀ F, fits F n.kids = true → hb (begN rs (F + 1) n) j = (begW (knR rs) n).any (gb rs j) := by
  refine Nd.ind (P := fun n => ∀ F, fits F n.kids = true → hb (begN rs (F + 1) n) j = (begW (knR rs) n).any (gb rs j)) (fun n ih F h => ?_) n
  have hk : ∀ k ∈ n.kids, hb (begN rs F k) j = (begW (knR rs) k).any (gb rs j) := fun k hk => by
    obtain ⟨F', rfl, hf⟩ := fits_kid h hk
    exact ih k hk F' hf
  have hm : ∀ k ∈ n.kids, mayE rs F k = mayW (knR rs) k := fun k hk => by
    obtain ⟨F', rfl, hf⟩ := fits_kid h hk
    exact mayE_W rs k F' hf
  have key := begL_hb (f := begN rs F) (e := mayE rs F) j n.kids 0 hk hm
  rw [begN, begW_def]
  by_cases o2 : n.kind = 2
  · rw [if_pos o2, if_pos o2]
    have hr := findF_range rs n.text
    split
    · rename_i hx
      simp [gb, hb_zero]
      intro h0; omega
    · rename_i hx
      obtain ⟨i, hi⟩ : ∃ i : Nat, findF rs n.text = i := ⟨(findF rs n.text).toNat, by omega⟩
      rw [hb_or, hi, hb_bit i (by omega)]
      have e : decide ((i : Int) = (j : Int)) = decide (i = j) := decide_eq_decide.2 Int.ofNat_inj
      simp only [List.any_cons, List.any_nil, Bool.or_false, gb, hi, e]
      simp
  · rw [if_neg o2, if_neg o2]
    by_cases o5 : n.kind = 5
    · rw [if_pos o5, show (n.kind == 5) = true by simp [o5], key.1, hb_zero, Bool.false_or]
    · rw [if_neg o5, show (n.kind == 5) = false by simp [o5], key.2, hb_zero, Bool.false_or]
end Go.Proofs.Ytbojcemamhiodaa

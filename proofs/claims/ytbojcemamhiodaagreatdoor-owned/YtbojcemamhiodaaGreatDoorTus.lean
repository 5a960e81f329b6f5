import Derived.Test.YtbojcemamhiodaaGreatDoorTxm
import Derived.Test.YtbojcemamhiodaaGreatDoorBui
import Derived.Test.YtbojcemamhiodaaGreatDoorExs
namespace Go.Proofs.YtbojcemamhiodaaGreatDoor
/-- texts laid one behind the other, with something between -/
def joinB (btw : List UInt8) : List (List UInt8) → List UInt8
  | [] => []
  | x :: l => x ++ (l.map fun y => btw ++ y).flatten
theorem listA_join {f : Int → Int → Option (List UInt8)} {btw : List UInt8} {least : Int} : ∀ (l : List Int) (xs : List (List UInt8)) (acc : List UInt8) (b : Bool), l.map (fun i => f i least) = xs.map some → listA f btw least acc b l = some (acc ++ (if b = true then joinB btw xs else (xs.map fun y => btw ++ y).flatten))
  | [], xs, acc, b, h => by
    have hx : xs = [] := by
      cases xs with
      | nil => rfl
      | cons y ys => simp at h
    subst hx
    unfold listA
    cases b <;> simp [joinB]
  | i :: l, xs, acc, b, h => by
    cases xs with
    | nil => simp at h
    | cons y ys =>
      rw [List.map_cons, List.map_cons, List.cons.injEq] at h
      unfold listA
      rw [h.1]
      show listA f btw least (acc ++ (if b = true then [] else btw) ++ y) false l = _
      rw [listA_join l ys _ false h.2]
      cases b <;> simp [joinB]
theorem listT_join {f : Int → Int → Option (List UInt8)} {btw : List UInt8} {least : Int} {l : List Int} {xs : List (List UInt8)} (h : l.map (fun i => f i least) = xs.map some) : listT f btw least l = some (joinB btw xs) := by
  unfold listT
  rw [listA_join l xs [] true h]
  simp
/-- brackets about a text of a kind, where a level is asked for -/
def wrapT (k least : Int) (x : List UInt8) : List UInt8 := if lvlK k < least then 40 :: x ++ [41] else x
def kindT (k : Int) (text : List UInt8) (m : List UInt8 → Int → List UInt8) : List UInt8 :=
  if k = 0 then wordT text else if k = 1 then setT text else if k = 2 then text else if k = 3 then [123, 125] else
  if k = 4 then (if text = [] then 123 :: m [] 0 ++ [125] else 123 :: text ++ [58, 32] ++ m [] 0 ++ [125]) else
  if k = 5 then m [32] 1 else if k = 6 then m [32, 47, 32] 0 else if k = 7 then 38 :: m [] 1 else if k = 8 then 33 :: m [] 1 else
  if k = 9 then m [] 2 ++ [42] else if k = 10 then m [] 2 ++ [43] else if k = 11 then m [] 2 ++ [63] else []
/-- the text of a node, no brackets about it -/
def bareN : Nd → List UInt8
  | ⟨k, _, t, kids⟩ => kindT k t.data.toList fun btw least => joinB btw (kids.map fun n => wrapT n.kind least (bareN n))
theorem bareN_def (n : Nd) : bareN n = kindT n.kind n.text.data.toList fun btw least => joinB btw (n.kids.map fun m => wrapT m.kind least (bareN m)) := by
  obtain ⟨k, a, t, kids⟩ := n
  rw [bareN]
theorem bareT_kind {f : Int → Int → Option (List UInt8)} {t : Tm} {m : List UInt8 → Int → List UInt8} (h : t.kind ≠ 2 → ∀ btw least, listT f btw least t.kids = some (m btw least)) : bareT f t = some (kindT t.kind t.text.data.toList m) := by
  unfold bareT kindT
  by_cases h0 : t.kind = 0
  · rw [if_pos h0, if_pos h0]
  rw [if_neg h0, if_neg h0]
  by_cases h1 : t.kind = 1
  · rw [if_pos h1, if_pos h1]
  rw [if_neg h1, if_neg h1]
  by_cases h2 : t.kind = 2
  · rw [if_pos h2, if_pos h2]
  rw [if_neg h2, if_neg h2]
  by_cases h3 : t.kind = 3
  · rw [if_pos h3, if_pos h3]
  rw [if_neg h3, if_neg h3]
  by_cases h4 : t.kind = 4
  · rw [if_pos h4, if_pos h4, h h2]
    rfl
  rw [if_neg h4, if_neg h4]
  by_cases h5 : t.kind = 5
  · rw [if_pos h5, if_pos h5, h h2]
  rw [if_neg h5, if_neg h5]
  by_cases h6 : t.kind = 6
  · rw [if_pos h6, if_pos h6, h h2]
  rw [if_neg h6, if_neg h6]
  by_cases h7 : t.kind = 7
  · rw [if_pos h7, if_pos h7, h h2]
    rfl
  rw [if_neg h7, if_neg h7]
  by_cases h8 : t.kind = 8
  · rw [if_pos h8, if_pos h8, h h2]
    rfl
  rw [if_neg h8, if_neg h8]
  by_cases h9 : t.kind = 9
  · rw [if_pos h9, if_pos h9, h h2]
    rfl
  rw [if_neg h9, if_neg h9]
  by_cases h10 : t.kind = 10
  · rw [if_pos h10, if_pos h10, h h2]
    rfl
  rw [if_neg h10, if_neg h10]
  by_cases h11 : t.kind = 11
  · rw [if_pos h11, if_pos h11, h h2]
    rfl
  rw [if_neg h11, if_neg h11]
/-- T has the same terms as U from a place on -/
def Same (T U : List Tm) (a : Nat) : Prop := ∀ i, a ≤ i → i < U.length → T[i]? = U[i]?
theorem termT_at {T : List Tm} {F i : Nat} {least : Int} {t : Tm} {x : List UInt8} (ht : T[i]? = some t) (hx : bareT (termT T F) t = some x) : termT T (F + 1) i least = some (wrapT t.kind least x) := by
  have hl := (List.getElem?_eq_some_iff.1 ht).1
  rw [termT, if_neg (by omega), Int.toNat_natCast, ht]
  show (bareT (termT T F) t).bind _ = _
  rw [hx]
  rfl
theorem termN_kind (rs : List Rl) (F : Nat) (n : Nd) (T : List Tm) : (termN rs F n T).1.kind = n.kind ∧ (termN rs F n T).1.text = n.text := by
  cases F <;> exact ⟨rfl, rfl⟩
theorem termN_keep (rs : List Rl) : ∀ (F : Nat) (n : Nd) (T : List Tm) (i : Nat), i < T.length → (termN rs F n T).2[i]? = T[i]?
  | 0, _, _, _, _ => rfl
  | F + 1, n, T, i, hi => by
    have key : ∀ (l : List Nd) (ks : List Int) (U : List Tm), i < U.length → (termsL (termN rs F) l ks U).2[i]? = U[i]? := by
      intro l
      induction l with
      | nil => intro ks U _; rfl
      | cons m l ih =>
        intro ks U hU
        have hm := termN_mono rs F m U
        rw [termsL, ih _ _ (by simp; omega), List.getElem?_append_left (by omega)]
        exact termN_keep rs F m U i hU
    exact key n.kids _ T hi
theorem termsL_ks (f : Nd → List Tm → Tm × List Tm) : ∀ (l : List Nd) (ks ks' : List Int) (T : List Tm), (termsL f l ks T).2 = (termsL f l ks' T).2
  | [], _, _, _ => rfl
  | m :: l, ks, ks', T => by
    rw [termsL, termsL]
    exact termsL_ks f l _ _ _
theorem termsL_text (rs : List Rl) (F : Nat) (T : List Tm) (hN : ∀ (m : Nd) (U : List Tm), fits F m.kids = true → Same T (termN rs F m U).2 U.length → bareT (termT T F) (termN rs F m U).1 = some (bareN m)) (least : Int) :
    ∀ (l : List Nd) (ks : List Int) (U : List Tm), (∀ m ∈ l, fits F m.kids = true) → Same T (termsL (termN rs F) l ks U).2 U.length → ∃ js : List Int, (termsL (termN rs F) l ks U).1 = ks ++ js ∧ js.map (fun i => termT T (F + 1) i least) = (l.map fun m => wrapT m.kind least (bareN m)).map some
  | [], ks, U, _, _ => ⟨[], by simp [termsL], rfl⟩
  | m :: l, ks, U, hf, hS => by
    have hm := termN_mono rs F m U
    rw [termsL] at hS ⊢
    have hmono : (termN rs F m U).2.length + 1 ≤ (termsL (termN rs F) l (ks ++ [((termN rs F m U).2.length : Int)]) ((termN rs F m U).2 ++ [(termN rs F m U).1])).2.length := by
      have := termsL_mono (fun n T => termN_mono rs F n T) l (ks ++ [((termN rs F m U).2.length : Int)]) ((termN rs F m U).2 ++ [(termN rs F m U).1])
      simp at this
      omega
    have hkeep : ∀ i, i < (termN rs F m U).2.length + 1 → (termsL (termN rs F) l (ks ++ [((termN rs F m U).2.length : Int)]) ((termN rs F m U).2 ++ [(termN rs F m U).1])).2[i]? = ((termN rs F m U).2 ++ [(termN rs F m U).1])[i]? := by
      intro i hi
      have := termN_keep rs (F + 1) ⟨0, 0, .empty, l⟩ ((termN rs F m U).2 ++ [(termN rs F m U).1]) i (by simpa using hi)
      have e : (termN rs (F + 1) ⟨0, 0, .empty, l⟩ ((termN rs F m U).2 ++ [(termN rs F m U).1])).2 = (termsL (termN rs F) l [] ((termN rs F m U).2 ++ [(termN rs F m U).1])).2 := rfl
      rw [e] at this
      rw [← this]
      exact congrArg (fun z => z[i]?) (termsL_ks _ _ _ _ _)
    have hT1 : ∀ i, U.length ≤ i → i < (termN rs F m U).2.length + 1 → T[i]? = ((termN rs F m U).2 ++ [(termN rs F m U).1])[i]? := fun i h1 h2 => by rw [hS i h1 (by omega), hkeep i h2]
    have hb := hN m U (hf m (by simp)) (fun i h1 h2 => by rw [hT1 i h1 (by omega), List.getElem?_append_left h2])
    have hat := hT1 (termN rs F m U).2.length hm (by omega)
    rw [List.getElem?_append_right (Nat.le_refl _)] at hat
    simp only [Nat.sub_self, List.getElem?_cons_zero] at hat
    have h1 := termT_at (least := least) hat hb
    rw [(termN_kind rs F m U).1] at h1
    obtain ⟨js, hj1, hj2⟩ := termsL_text rs F T hN least l _ _ (fun k hk => hf k (by simp [hk])) (fun i h1 h2 => hS i (by simp at h1; omega) h2)
    refine ⟨((termN rs F m U).2.length : Int) :: js, ?_, ?_⟩
    · rw [hj1]; simp
    · rw [List.map_cons, h1, hj2]
      rfl
theorem term_text (rs : List Rl) : ∀ (F : Nat) (T : List Tm) (n : Nd) (U : List Tm), fits F n.kids = true → Same T (termN rs F n U).2 U.length → bareT (termT T F) (termN rs F n U).1 = some (bareN n)
  | 0, _, n, _, h, _ => by simp [fits] at h
  | F + 1, T, n, U, h, hS => by
    rw [fits, List.all_eq_true] at h
    rw [bareN_def]
    refine bareT_kind (t := (termN rs (F + 1) n U).1) (fun h2 btw least => ?_)
    obtain ⟨js, h3, h4⟩ := termsL_text rs F T (fun m V => term_text rs F T m V) least n.kids (baseK rs n) U h hS
    have h2' : n.kind ≠ 2 := h2
    have hb : baseK rs n = [] := by unfold baseK; rw [if_neg h2']
    rw [hb, List.nil_append] at h3
    show listT (termT T (F + 1)) btw least (termsL (termN rs F) n.kids (baseK rs n) U).1 = _
    rw [hb, h3]
    exact listT_join h4
theorem fits_up : ∀ (F : Nat) (l : List Nd), fits F l = true → fits (F + 1) l = true
  | 0, _, h => by simp [fits] at h
  | F + 1, l, h => by
    rw [fits, List.all_eq_true] at h ⊢
    exact fun t ht => fits_up F t.kids (h t ht)
theorem build_keep (rs : List Rl) (F : Nat) : ∀ (l : List Rl) (i : Nat) (T : List Tm) (j : Nat), j < T.length → (j < i ∨ i + l.length ≤ j) → (buildL rs F l i T)[j]? = T[j]?
  | [], _, _, _, _, _ => rfl
  | r :: l, i, T, j, hj, h => by
    have hm := termN_mono rs F r.body T
    rw [List.length_cons] at h
    rw [buildL, build_keep rs F l (i + 1) _ j (by rw [List.length_set]; omega) (by omega), List.getElem?_set_ne (by omega)]
    exact termN_keep rs F r.body T j hj
theorem build_text (rs : List Rl) (F : Nat) : ∀ (l : List Rl) (i : Nat) (T : List Tm), i + l.length ≤ T.length → ∀ (k : Nat) (hk : k < l.length), fits F l[k].body.kids = true → termT (buildL rs F l i T) (F + 1) ((i + k : Nat) : Int) 0 = some (bareN l[k].body)
  | [], _, _, _, k, hk, _ => by simp at hk
  | r :: l, i, T, hl, 0, _, hf => by
    rw [List.length_cons] at hl
    have hm := termN_mono rs F r.body T
    have hat : (buildL rs F (r :: l) i T)[i]? = some (termN rs F r.body T).1 := by
      rw [buildL, build_keep rs F l (i + 1) _ i (by rw [List.length_set]; omega) (by omega), List.getElem?_set_self (by omega)]
    have hb := term_text rs F (buildL rs F (r :: l) i T) r.body T hf (fun j h1 h2 => by
      rw [buildL, build_keep rs F l (i + 1) _ j (by rw [List.length_set]; omega) (by omega), List.getElem?_set_ne (by omega)])
    rw [show ((i + 0 : Nat) : Int) = (i : Int) by omega, termT_at hat hb]
    unfold wrapT lvlK
    rw [if_neg]
    · rfl
    · repeat' split <;> omega
  | r :: l, i, T, hl, k + 1, hk, hf => by
    rw [List.length_cons] at hl hk
    have hm := termN_mono rs F r.body T
    have := build_text rs F l (i + 1) ((termN rs F r.body T).2.set i (termN rs F r.body T).1) (by rw [List.length_set]; omega) k (by omega) hf
    rw [show i + (k + 1) = i + 1 + k by omega]
    exact this
/-- the text of rules -/
def textN (rs : List Rl) : List UInt8 := (rs.map fun r => r.name.data.toList ++ [32, 60, 45, 32] ++ bareN r.body ++ [10]).flatten
theorem buildF_text (rs : List Rl) (F : Nat) (hf : ∀ r ∈ rs, fits F r.body.kids = true) (k : Nat) (hk : k < rs.length) : termT (buildF F rs) (F + 1) (k : Int) 0 = some (bareN rs[k].body) := by
  have h := build_text rs F rs 0 (List.replicate rs.length Tm.zero) (by simp) k hk (hf _ (List.getElem_mem hk))
  rw [Nat.zero_add] at h
  exact h
end Go.Proofs.YtbojcemamhiodaaGreatDoor
namespace Go.Proofs.YtbojcemamhiodaaGreatDoor
/-- a set as the document's answer writes it: what is written of the bytes below c -/
def setXt (f : Nat → Bool) : Nat → List UInt8
  | 0 => []
  | c + 1 => setXt f c ++ (if f c = true then
      (if (decide (0 < c) && f (c - 1)) = true ∧ (decide (c < 255) && f (c + 1)) = true then [] else
        (if (decide (0 < c) && f (c - 1)) = true ∧ (decide (1 < c) && f (c - 2)) = true then [45] else []) ++ chrC (UInt8.ofNat c) (isSM c)) else [])
def cntF (f : Nat → Bool) : Nat → Nat
  | 0 => 0
  | c + 1 => cntF f c + (if f c = true then 1 else 0)
def setX (f : Nat → Bool) : List UInt8 := if cntF f 256 = 0 then [91, 94, 92, 120, 48, 48, 45, 92, 120, 102, 102, 93] else if cntF f 256 = 256 then [46] else 91 :: setXt f 256 ++ [93]
/-- the rank of an expression: a choice, a row of some, with a sign ahead, what can have a sign behind -/
def rankX (e : Ex) : Int := if e.op = 6 then 0 else if e.op = 5 ∧ e.kids.length ≠ 0 then 1 else if e.op = 7 ∨ e.op = 8 then 2 else 3
def wrapX (r least : Int) (x : List UInt8) : List UInt8 := if r < least then 40 :: x ++ [41] else x
def kindX (op : Int) (str : List UInt8) (f : Nat → Bool) (n : Nat) (m : List UInt8 → Int → List UInt8) : List UInt8 :=
  if op = 6 then m [32, 47, 32] 0 else if op = 5 then (if n = 0 then [39, 39] else m [32] 1) else if op = 7 then 38 :: m [] 2 else if op = 8 then 33 :: m [] 2 else
  if op = 9 then m [] 3 ++ [42] else if op = 10 then m [] 3 ++ [43] else if op = 11 then m [] 3 ++ [63] else if op = 2 then str else if op = 3 then [123, 125] else if op = 0 then wordT str else if op = 1 then setX f else
  if str = [] then 123 :: m [] 0 ++ [125] else 123 :: str ++ [58, 32] ++ m [] 0 ++ [125]
/-- the text of an expression -/
def exB : Ex → List UInt8
  | ⟨_, op, str, f, _, kids⟩ => kindX op str.data.toList f kids.length fun btw least => joinB btw (kids.map fun k => wrapX (rankX k) least (exB k))
theorem exB_def (e : Ex) : exB e = kindX e.op e.str.data.toList e.set e.kids.length fun btw least => joinB btw (e.kids.map fun k => wrapX (rankX k) least (exB k)) := by
  obtain ⟨b, op, str, f, a, kids⟩ := e
  rw [exB]
theorem rank_kind {k : Ex} (h : OkX k) : (rankX k = 0 ∧ k.norm.kind = 6) ∨ (rankX k = 1 ∧ k.norm.kind = 5) ∨ (rankX k = 2 ∧ (k.norm.kind = 7 ∨ k.norm.kind = 8)) ∨ (rankX k = 3 ∧ k.norm.kind ≠ 5 ∧ k.norm.kind ≠ 6 ∧ k.norm.kind ≠ 7 ∧ k.norm.kind ≠ 8) := by
  unfold rankX
  rcases norm_of h with ⟨h1, h2⟩ | ⟨h1, h3, h2⟩ | ⟨h1, h3, h2⟩
  · have h5 : k.op ≠ 5 := fun x => h1 (.inl x)
    have h6 : k.op ≠ 6 := fun x => h1 (.inr x)
    have hk : k.norm.kind = k.op := by rw [h2]
    rw [if_neg h6, if_neg (fun x => h5 x.1)]
    by_cases h78 : k.op = 7 ∨ k.op = 8
    · rw [if_pos h78]
      exact .inr (.inr (.inl ⟨rfl, by rw [hk]; exact h78⟩))
    · rw [if_neg h78]
      exact .inr (.inr (.inr ⟨rfl, by omega, by omega, by omega, by omega⟩))
  · have hk : k.norm.kind = 0 := by rw [h2]; rfl
    rw [if_neg (by omega), if_neg (by rw [h3]; simp), if_neg (by omega)]
    exact .inr (.inr (.inr ⟨rfl, by omega, by omega, by omega, by omega⟩))
  · have hk : k.norm.kind = k.op := by rw [h2]; rfl
    by_cases h6 : k.op = 6
    · rw [if_pos h6]
      exact .inl ⟨rfl, by omega⟩
    · rw [if_neg h6, if_pos ⟨by omega, by omega⟩]
      exact .inr (.inl ⟨rfl, by omega⟩)
theorem wrap_eq {k : Ex} (h : OkX k) {a b : Int} (hab : (a = 0 ∧ b = 0) ∨ (a = 2 ∧ b = 1) ∨ (a = 3 ∧ b = 2)) (x : List UInt8) : wrapX (rankX k) a x = wrapT k.norm.kind b x := by
  have hr := rank_kind h
  unfold wrapX wrapT lvlK
  generalize rankX k = r at *
  generalize k.norm.kind = c at *
  repeat' split
  all_goals first | rfl | omega
theorem wrap_row {k : Ex} (h : OkX k) (h5 : k.norm.kind ≠ 5) (x : List UInt8) : wrapX (rankX k) 1 x = wrapT k.norm.kind 1 x := by
  have hr := rank_kind h
  unfold wrapX wrapT lvlK
  generalize rankX k = r at *
  generalize k.norm.kind = c at *
  repeat' split
  all_goals first | rfl | omega
theorem joinB_append {btw : List UInt8} {xs : List (List UInt8)} (h : xs ≠ []) (ys : List (List UInt8)) : joinB btw (xs ++ ys) = joinB btw xs ++ (ys.map fun y => btw ++ y).flatten := by
  cases xs with
  | nil => exact absurd rfl h
  | cons x xs => simp [joinB]
theorem btw_flat (btw : List UInt8) {xs : List (List UInt8)} (h : xs ≠ []) : (xs.map fun y => btw ++ y).flatten = btw ++ joinB btw xs := by
  cases xs with
  | nil => exact absurd rfl h
  | cons x xs => simp [joinB]
theorem btw_flatL {btw : List UInt8} {op : Int} {g h : Nd → List UInt8} : ∀ (l : List Nd), (∀ n ∈ l, n.kind = op → n.kids ≠ [] ∧ h n = joinB btw (n.kids.map g)) → (∀ n ∈ l, n.kind ≠ op → h n = g n) → (((flatL op l).map g).map fun y => btw ++ y).flatten = ((l.map h).map fun y => btw ++ y).flatten
  | [], _, _ => rfl
  | n :: l, h1, h2 => by
    have ih := btw_flatL l (fun m hm => h1 m (by simp [hm])) (fun m hm => h2 m (by simp [hm]))
    rw [flatL, List.map_append, List.map_append, List.flatten_append, ih, List.map_cons, List.map_cons, List.flatten_cons]
    congr 1
    by_cases hk : n.kind = op
    · obtain ⟨hn, he⟩ := h1 n (by simp) hk
      rw [if_pos hk, btw_flat btw (by simpa using hn), he]
    · rw [if_neg hk, h2 n (by simp) hk]
      simp
theorem join_flatL {btw : List UInt8} {op : Int} {g h : Nd → List UInt8} (l : List Nd) (h1 : ∀ n ∈ l, n.kind = op → n.kids ≠ [] ∧ h n = joinB btw (n.kids.map g)) (h2 : ∀ n ∈ l, n.kind ≠ op → h n = g n) : joinB btw ((flatL op l).map g) = joinB btw (l.map h) := by
  cases l with
  | nil => rfl
  | cons n l =>
    have ht := btw_flatL l (fun m hm => h1 m (by simp [hm])) (fun m hm => h2 m (by simp [hm]))
    rw [flatL, List.map_append]
    by_cases hk : n.kind = op
    · obtain ⟨hn, he⟩ := h1 n (by simp) hk
      rw [if_pos hk, joinB_append (by simpa using hn), ht]
      simp [joinB, he]
    · rw [if_neg hk, joinB_append (by simp), ht]
      simp [joinB, h2 n (by simp) hk]
theorem exB_norm (hS : ∀ f : Nat → Bool, setX f = setT (bytesOf f true)) (e : Ex) : OkX e → exB e = bareN e.norm := by
  refine Ex.ind (P := fun e => OkX e → exB e = bareN e.norm) (fun e ih h => ?_) e
  have ho := (OkX_iff e).1 h
  have hk : ∀ k ∈ e.kids, exB k = bareN k.norm := fun k hk => ih k hk (ho.kids k hk)
  have hmap : ∀ a b : Int, ((a = 0 ∧ b = 0) ∨ (a = 2 ∧ b = 1) ∨ (a = 3 ∧ b = 2)) → (e.kids.map fun k => wrapX (rankX k) a (exB k)) = ((normL e.kids).map fun m => wrapT m.kind b (bareN m)) := by
    intro a b hab
    rw [normL_map, List.map_map]
    refine List.map_congr_left fun k hk' => ?_
    rw [hk k hk']
    exact wrap_eq (ho.kids k hk') hab _
  rw [exB_def, bareN_def]
  rcases norm_of h with ⟨h1, h2⟩ | ⟨h1, h3, h2⟩ | ⟨h1, h3, h2⟩
  · rw [h2]
    dsimp only
    have hop := ho.op
    unfold kindX kindT
    dsimp only
    rw [hmap 0 0 (by omega), hmap 2 1 (by omega), hmap 3 2 (by omega)]
    have h5 : e.op ≠ 5 := fun x => h1 (.inl x)
    have h6 : e.op ≠ 6 := fun x => h1 (.inr x)
    rw [if_neg h6, if_neg h5]
    by_cases c1 : e.op = 1
    · simp [c1, hS]
    · rw [if_neg c1, if_neg c1]
      by_cases c0 : e.op = 0
      · simp [c0]
      by_cases c2 : e.op = 2
      · simp [c2]
      by_cases c3 : e.op = 3
      · simp [c3]
      by_cases c4 : e.op = 4
      · simp [c4]
      by_cases c7 : e.op = 7
      · simp [c7]
      by_cases c8 : e.op = 8
      · simp [c8]
      by_cases c9 : e.op = 9
      · simp [c9]
      by_cases c10 : e.op = 10
      · simp [c10]
      have c11 : e.op = 11 := by omega
      simp [c11]
  · rw [h2, h1, h3]
    rfl
  · rw [h2]
    have hw : ∀ n ∈ normL e.kids, (n.kind = 5 ∨ n.kind = 6) → n.kids ≠ [] := by
      intro n hn hkd hz
      rw [normL_map, List.mem_map] at hn
      obtain ⟨k, hk', rfl⟩ := hn
      have := norm_wide k (ho.kids k hk') hkd
      rw [hz] at this
      simp at this
    rcases h1 with h5 | h6
    · rw [h5]
      show kindX 5 _ _ _ _ = kindT 5 _ _
      unfold kindX kindT
      simp only [show ¬ (5 : Int) = 6 by omega, show ¬ (5 : Int) = 0 by omega, show ¬ (5 : Int) = 1 by omega, show ¬ (5 : Int) = 2 by omega, show ¬ (5 : Int) = 3 by omega, show ¬ (5 : Int) = 4 by omega, if_false, if_true]
      rw [if_neg (by omega)]
      show _ = joinB [32] ((flatL 5 (normL e.kids)).map fun m => wrapT m.kind 1 (bareN m))
      rw [join_flatL (h := fun n => if n.kind = 5 then bareN n else wrapT n.kind 1 (bareN n)) (normL e.kids) (fun n hn hkd => ⟨hw n hn (.inl hkd), by rw [if_pos hkd, bareN_def, hkd]; rfl⟩) (fun n hn hkd => by rw [if_neg hkd]), normL_map, List.map_map]
      congr 1
      refine List.map_congr_left fun k hk' => ?_
      show wrapX (rankX k) 1 (exB k) = if k.norm.kind = 5 then bareN k.norm else wrapT k.norm.kind 1 (bareN k.norm)
      rw [hk k hk']
      by_cases h55 : k.norm.kind = 5
      · rw [if_pos h55]
        have hr := rank_kind (ho.kids k hk')
        unfold wrapX
        rw [if_neg (by omega)]
      · rw [if_neg h55]
        exact wrap_row (ho.kids k hk') h55 _
    · rw [h6]
      show kindX 6 _ _ _ _ = kindT 6 _ _
      unfold kindX kindT
      simp only [show ¬ (6 : Int) = 5 by omega, show ¬ (6 : Int) = 0 by omega, show ¬ (6 : Int) = 1 by omega, show ¬ (6 : Int) = 2 by omega, show ¬ (6 : Int) = 3 by omega, show ¬ (6 : Int) = 4 by omega, if_false, if_true]
      show _ = joinB [32, 47, 32] ((flatL 6 (normL e.kids)).map fun m => wrapT m.kind 0 (bareN m))
      rw [hmap 0 0 (by omega)]
      rw [join_flatL (h := fun n => wrapT n.kind 0 (bareN n)) (normL e.kids) (fun n hn hkd => ⟨hw n hn (.inr hkd), ?_⟩) (fun n hn hkd => rfl)]
      rw [bareN_def, hkd]
      rfl
end Go.Proofs.YtbojcemamhiodaaGreatDoor
namespace Go.Proofs.YtbojcemamhiodaaGreatDoor
def setL (f : Nat → Bool) (n : Nat) : List Nat := (List.range n).filter fun c => f c == true
theorem setL_succ (f : Nat → Bool) (n : Nat) : setL f (n + 1) = setL f n ++ (if f n = true then [n] else []) := by
  unfold setL
  rw [List.range_succ, List.filter_append]
  cases h : f n <;> simp [h]
theorem setL_len (f : Nat → Bool) : ∀ n, (setL f n).length = cntF f n
  | 0 => rfl
  | n + 1 => by
    rw [setL_succ, List.length_append, setL_len f n, cntF]
    cases h : f n <;> simp
theorem cntF_lt {f : Nat → Bool} {p : Nat} (hp : f p = true) : ∀ {c : Nat}, p < c → cntF f p < cntF f c
  | 0, h => by omega
  | c + 1, h => by
    rw [cntF]
    by_cases hc : p = c
    · rw [hc] at hp ⊢
      rw [if_pos hp]
      omega
    · have := cntF_lt hp (c := c) (by omega)
      omega
theorem setL_at (f : Nat → Bool) (j p : Nat) : ∀ n, (setL f n)[j]? = some p ↔ p < n ∧ f p = true ∧ cntF f p = j
  | 0 => by simp [setL]
  | n + 1 => by
    have ih := setL_at f j p n
    have hl := setL_len f n
    rw [setL_succ]
    by_cases hj : j < cntF f n
    · rw [List.getElem?_append_left (by omega), ih]
      constructor
      · rintro ⟨h1, h2, h3⟩
        exact ⟨by omega, h2, h3⟩
      · rintro ⟨h1, h2, h3⟩
        refine ⟨?_, h2, h3⟩
        by_cases hp : p = n
        · rw [hp] at h3; omega
        · omega
    · rw [List.getElem?_append_right (by omega), hl]
      cases hn : f n
      · rw [if_neg (by simp)]
        simp only [List.getElem?_nil, reduceCtorEq, false_iff]
        rintro ⟨h1, h2, h3⟩
        have hp : p ≠ n := fun e => by rw [e, hn] at h2; cases h2
        have := cntF_lt h2 (c := n) (by omega)
        omega
      · rw [if_pos rfl]
        constructor
        · intro h
          by_cases hz : j - cntF f n = 0
          · rw [hz] at h
            have : n = p := by simpa using h
            subst this
            exact ⟨by omega, hn, by omega⟩
          · rw [List.getElem?_eq_none (by simp; omega)] at h
            cases h
        · rintro ⟨h1, h2, h3⟩
          by_cases hp : p = n
          · subst hp
            rw [show j - cntF f p = 0 by omega]
            rfl
          · have := cntF_lt h2 (c := n) (by omega)
            omega
theorem bytes_setL (f : Nat → Bool) : bytesOf f true = (setL f 256).map UInt8.ofNat := rfl
theorem bytes_len (f : Nat → Bool) : (bytesOf f true).length = cntF f 256 := by rw [bytes_setL, List.length_map, setL_len]
theorem bytes_at {f : Nat → Bool} {c : Nat} (hc : c < 256) (hf : f c = true) : (bytesOf f true)[cntF f c]? = some (UInt8.ofNat c) := by
  rw [bytes_setL, List.getElem?_map, (setL_at f _ c 256).2 ⟨hc, hf, rfl⟩]
  rfl
theorem bytes_of {f : Nat → Bool} {j : Nat} {u : UInt8} (h : (bytesOf f true)[j]? = some u) : ∃ p, p < 256 ∧ f p = true ∧ cntF f p = j ∧ u = UInt8.ofNat p := by
  rw [bytes_setL, List.getElem?_map] at h
  cases hx : (setL f 256)[j]? with
  | none => rw [hx] at h; cases h
  | some p =>
    rw [hx] at h
    have h1 := (setL_at f j p 256).1 hx
    exact ⟨p, h1.1, h1.2.1, h1.2.2, by simpa using h.symm⟩
theorem toNat_of {p : Nat} (h : p < 256) : (UInt8.ofNat p).toNat = p := by simp; omega
/-- within a run: its neighbours are there -/
def inR (f : Nat → Bool) (c : Nat) : Bool := (decide (0 < c) && f (c - 1)) && (decide (c < 255) && f (c + 1))
theorem cnt_inj {f : Nat → Bool} {p q : Nat} (hp : f p = true) (hq : f q = true) (h : cntF f p = cntF f q) : p = q := by
  rcases Nat.lt_trichotomy p q with h1 | h1 | h1
  · have := cntF_lt hp h1; omega
  · exact h1
  · have := cntF_lt hq h1; omega
theorem inn_in {f : Nat → Bool} {c : Nat} (hc : c < 256) (hf : f c = true) : innB (bytesOf f true) (cntF f c) = inR f c := by
  have hat := bytes_at hc hf
  generalize hk : cntF f c = k at hat
  cases k with
  | zero =>
    have hA : (decide (0 < c) && f (c - 1)) = false := by
      cases h : (decide (0 < c) && f (c - 1))
      · rfl
      · rw [Bool.and_eq_true] at h
        have h0 : 0 < c := by simpa using h.1
        have := cntF_lt h.2 (c := c) (by omega)
        omega
    unfold inR
    rw [hA]
    rfl
  | succ j =>
    obtain ⟨a, ha⟩ : ∃ a, (bytesOf f true)[j]? = some a := by
      have := (List.getElem?_eq_some_iff.1 hat).1
      exact ⟨_, List.getElem?_eq_getElem (by omega)⟩
    obtain ⟨p, hp1, hp2, hp3, rfl⟩ := bytes_of ha
    have hA : (decide (0 < c) && f (c - 1)) = (p + 1 == c) := by
      rw [Bool.eq_iff_iff, Bool.and_eq_true, beq_iff_eq, decide_eq_true_iff]
      constructor
      · rintro ⟨h0, h1⟩
        have h2 : cntF f c = cntF f (c - 1) + 1 := by
          rw [show cntF f c = cntF f ((c - 1) + 1) by rw [show c - 1 + 1 = c by omega], cntF, if_pos h1]
        have := cnt_inj hp2 h1 (by omega)
        omega
      · intro h
        refine ⟨by omega, ?_⟩
        rw [show c - 1 = p by omega]
        exact hp2
    have hc1 : cntF f (c + 1) = j + 2 := by rw [cntF, if_pos hf, hk]
    have hB : (decide (c < 255) && f (c + 1)) = (match (bytesOf f true)[j + 2]? with | some q => c + 1 == q.toNat | none => false) := by
      cases hq : (bytesOf f true)[j + 2]? with
      | none =>
        cases h : (decide (c < 255) && f (c + 1))
        · rfl
        · rw [Bool.and_eq_true] at h
          have h0 : c < 255 := by simpa using h.1
          have := bytes_at (f := f) (c := c + 1) (by omega) h.2
          rw [hc1, hq] at this
          cases this
      | some u =>
        obtain ⟨q, hq1, hq2, hq3, rfl⟩ := bytes_of hq
        dsimp only
        rw [toNat_of hq1, Bool.eq_iff_iff, Bool.and_eq_true, beq_iff_eq, decide_eq_true_iff]
        constructor
        · rintro ⟨h0, h1⟩
          exact cnt_inj h1 hq2 (by omega)
        · intro h
          exact ⟨by omega, by rw [h]; exact hq2⟩
    unfold inR
    rw [hA, hB]
    unfold innB
    dsimp only
    rw [ha, hat]
    cases hq : (bytesOf f true)[j + 2]? with
    | none => simp
    | some u =>
      simp only [toNat_of hp1, toNat_of hc]
theorem setT0_at {l : List UInt8} {k : Nat} {c : UInt8} (h : l[k]? = some c) : setT0 l (k + 1) = setT0 l k ++ (if innB l k = true then (if 0 < k ∧ innB l (k - 1) = true then [] else [45]) else chrC c (isSM c.toNat)) := by
  rw [setT0, h]
theorem set_prefix (f : Nat → Bool) : ∀ c, c ≤ 256 → setT0 (bytesOf f true) (cntF f c) = 91 :: setXt f c ++ (if (decide (0 < c) && f (c - 1) && inR f (c - 1)) = true then [45] else [])
  | 0, _ => rfl
  | c + 1, hc => by
    have ih := set_prefix f c (by omega)
    rw [cntF, setXt, show c + 1 - 1 = c by omega, show decide (0 < c + 1) = true by simp, Bool.true_and]
    cases hf : f c
    · have hp : (decide (0 < c) && f (c - 1) && inR f (c - 1)) = false := by
        cases h : (decide (0 < c) && f (c - 1) && inR f (c - 1))
        · rfl
        · unfold inR at h
          simp only [Bool.and_eq_true, decide_eq_true_iff] at h
          obtain ⟨⟨h0, _⟩, _, _, h1⟩ := h
          rw [show c - 1 + 1 = c by omega, hf] at h1
          cases h1
      rw [hp] at ih
      simpa using ih
    · have hat := bytes_at (f := f) (c := c) (by omega) hf
      rw [if_pos (rfl : true = true), setT0_at hat, ih, inn_in (by omega) hf, toNat_of (by omega), Bool.true_and, if_pos (rfl : true = true)]
      cases hi : inR f c
      · have hnot : ¬ ((decide (0 < c) && f (c - 1)) = true ∧ (decide (c < 255) && f (c + 1)) = true) := by
          rintro ⟨h1, h2⟩
          unfold inR at hi
          rw [h1, h2] at hi
          cases hi
        have hpend : ((decide (0 < c) && f (c - 1) && inR f (c - 1)) = true) ↔ ((decide (0 < c) && f (c - 1)) = true ∧ (decide (1 < c) && f (c - 2)) = true) := by
          rw [Bool.and_eq_true]
          constructor
          · rintro ⟨h1, h2⟩
            unfold inR at h2
            simp only [Bool.and_eq_true, decide_eq_true_iff] at h1 h2
            refine ⟨by simp; exact h1, ?_⟩
            simp only [Bool.and_eq_true, decide_eq_true_iff]
            exact ⟨by omega, by rw [show c - 2 = c - 1 - 1 by omega]; exact h2.1.2⟩
          · rintro ⟨h1, h2⟩
            refine ⟨h1, ?_⟩
            unfold inR
            simp only [Bool.and_eq_true, decide_eq_true_iff] at h1 h2 ⊢
            exact ⟨⟨by omega, by rw [show c - 1 - 1 = c - 2 by omega]; exact h2.2⟩, by omega, by rw [show c - 1 + 1 = c by omega]; exact hf⟩
        rw [if_neg (show ¬ (false = true) by simp), if_neg hnot, if_neg (show ¬ (false = true) by simp)]
        by_cases hq : (decide (0 < c) && f (c - 1) && inR f (c - 1)) = true
        · rw [if_pos hq, if_pos (hpend.1 hq)]
          simp
        · rw [if_neg hq, if_neg (fun h => hq (hpend.2 h))]
          simp
      · have hi' := hi
        unfold inR at hi'
        rw [Bool.and_eq_true] at hi'
        have hA := hi'.1
        rw [Bool.and_eq_true, decide_eq_true_iff] at hA
        have hk : cntF f c = cntF f (c - 1) + 1 := by
          rw [show cntF f c = cntF f ((c - 1) + 1) by rw [show c - 1 + 1 = c by omega], cntF, if_pos hA.2]
        have hin : innB (bytesOf f true) (cntF f c - 1) = inR f (c - 1) := by
          rw [show cntF f c - 1 = cntF f (c - 1) by omega]
          exact inn_in (by omega) hA.2
        have hk0 : 0 < cntF f c := by omega
        rw [if_pos (rfl : true = true), hin, if_pos (show (decide (0 < c) && f (c - 1)) = true ∧ (decide (c < 255) && f (c + 1)) = true from hi'), if_pos (rfl : true = true)]
        cases hj : inR f (c - 1)
        · simp
        · simp [hA.1, hA.2, hk0]
theorem set_text (f : Nat → Bool) : setX f = setT (bytesOf f true) := by
  unfold setX setT
  rw [bytes_len]
  by_cases h0 : cntF f 256 = 0
  · rw [if_pos h0, if_pos h0]
  · rw [if_neg h0, if_neg h0]
    by_cases h1 : cntF f 256 = 256
    · rw [if_pos h1, if_pos h1]
    · rw [if_neg h1, if_neg h1, set_prefix f 256 (Nat.le_refl _)]
      have : inR f (256 - 1) = false := by unfold inR; simp
      rw [this]
      simp
end Go.Proofs.YtbojcemamhiodaaGreatDoor
namespace Go.Proofs.YtbojcemamhiodaaGreatDoor
/-- every text within a node is short -/
def smallN : Nd → Prop
  | ⟨_, _, t, kids⟩ => t.size ≤ 400 ∧ ∀ k ∈ kids, smallN k
theorem smallN_iff (n : Nd) : smallN n ↔ n.text.size ≤ 400 ∧ ∀ k ∈ n.kids, smallN k := by
  obtain ⟨k, a, t, kids⟩ := n
  rw [smallN]
theorem small_nd0 {k : Int} {l : List Nd} (h : ∀ n ∈ l, smallN n) : smallN (nd0 k l) := by
  rw [smallN_iff]
  exact ⟨by show (0 : Nat) ≤ 400; omega, h⟩
theorem small_flat (k : Int) : ∀ l : List Nd, (∀ n ∈ l, smallN n) → ∀ n ∈ flatL k l, smallN n
  | [], _, n, hn => by simp [flatL] at hn
  | m :: l, h, n, hn => by
    rw [flatL, List.mem_append] at hn
    rcases hn with hn | hn
    · have hm := h m (by simp)
      split at hn
      · rw [smallN_iff] at hm
        exact hm.2 n hn
      · have : n = m := by simpa using hn
        rw [this]
        exact hm
    · exact small_flat k l (fun q hq => h q (by simp [hq])) n hn
theorem small_join {k : Int} {l : List Nd} (h : ∀ n ∈ l, smallN n) : smallN (joinF k l) := by
  have hf := small_flat k l h
  unfold joinF
  generalize flatL k l = m at hf
  match m, hf with
  | [], _ => exact small_nd0 (by simp)
  | [n], hf => exact hf n (by simp)
  | a :: b :: r, hf => exact small_nd0 hf
theorem wordBs_len (s : ByteArray) : ∀ (n : Nat) (i : Int), 0 ≤ i → i ≤ s.size → ((wordBs s n i).length : Int) ≤ s.size - i
  | 0, i, h, h' => by simp [wordBs]; omega
  | n + 1, i, h, h' => by
    have hg := wordC_good s i
    unfold GoodC at hg
    by_cases hc : (wordC s i).1 < 0
    · rw [wordBs_no hc]
      simp
      omega
    · have ih := wordBs_len s n (wordC s i).2 (by omega) (by omega)
      rw [wordBs_yes (by omega), List.length_cons]
      omega
theorem bytesOf_len (f : Nat → Bool) (b : Bool) : (bytesOf f b).length ≤ 256 := by
  unfold bytesOf
  rw [List.length_map]
  have := List.length_filter_le (fun c => f c == b) (List.range 256)
  simpa using this
theorem err_small (e : Int) (t : Tk) (d : Int) : smallN (errR e t d).nd := by
  show smallN Nd.zero
  rw [smallN_iff]
  exact ⟨by show (0 : Nat) ≤ 400; omega, by show ∀ k ∈ ([] : List Nd), smallN k; simp⟩
theorem within_small {s : ByteArray} {r : Res} (c : Int) (h : smallN r.nd) : smallN (withinF s r c).nd := by
  unfold withinF
  split
  · exact err_small _ _ _
  · split
    · exact err_small _ _ _
    · exact h
section
variable {s : ByteArray} (hs : s.size ≤ 400)
include hs
theorem ofs_size (t : Tk) : (t.of s).size ≤ 400 := by
  unfold Tk.of
  rw [ByteArray.size_extract]
  omega
theorem bytes_size (t : Tk) : (t.bytes s).size ≤ 400 := by
  have ho := ofs_size hs t
  unfold Tk.bytes
  split
  · show (wordBs (t.of s) ((t.of s).size + 1) 1).toArray.size ≤ 400
    rw [List.size_toArray]
    by_cases h1 : 1 ≤ (t.of s).size
    · have := wordBs_len (t.of s) ((t.of s).size + 1) 1 (by omega) (by omega)
      omega
    · have hc : (wordC (t.of s) 1).1 < 0 := by
        have hg := wordC_good (t.of s) 1
        unfold GoodC at hg
        omega
      rw [wordBs_no hc]
      simp
  · split
    · show (setBs (t.of s)).toArray.size ≤ 400
      rw [List.size_toArray]
      unfold setBs
      split
      · have := bytesOf_len (isIn (membs (t.of s) ((t.of s).size + 1) 2)) false
        omega
      · have := bytesOf_len (isIn (membs (t.of s) ((t.of s).size + 1) 1)) true
        omega
    · split
      · show (bytesOf (fun _ => false) false).toArray.size ≤ 400
        rw [List.size_toArray]
        have := bytesOf_len (fun _ => false) false
        omega
      · show (0 : Nat) ≤ 400
        omega
theorem leaf_small (t : Tk) : smallN (leafF s t) := by
  unfold leafF
  rw [smallN_iff]
  split
  · exact ⟨ofs_size hs t, by simp⟩
  · split
    · exact ⟨bytes_size hs t, by simp⟩
    · exact ⟨bytes_size hs t, by simp⟩
variable {E : Tk → Int → Res} (hE : ∀ t d, smallN (E t d).nd)
include hE
theorem single_small (t : Tk) (d : Int) : smallN (singleF s E t d).nd := by
  unfold singleF
  split
  · unfold bracketsF
    split
    · exact err_small _ _ _
    · exact within_small _ (hE _ _)
  · split
    · unfold catchF
      split
      · exact err_small _ _ _
      · split
        · exact small_nd0 (by simp)
        · unfold partF
          split
          · exact err_small _ _ _
          · rw [smallN_iff]
            refine ⟨?_, fun k hk => ?_⟩
            · show (namedN s _).size ≤ 400
              unfold namedN
              split
              · exact ofs_size hs _
              · show (0 : Nat) ≤ 400
                omega
            · have : k = _ := List.mem_singleton.1 hk
              rw [this]
              exact within_small _ (hE _ _)
    · exact leaf_small hs t
omit hE hs in
theorem signs_small : ∀ (k : Nat) (n : Nd) (t : Tk), smallN n → smallN (signsF s k n t).1
  | 0, _, _, h => h
  | k + 1, n, t, h => by
    unfold signsF
    split
    · refine signs_small k _ _ ?_
      rw [smallN_iff]
      exact ⟨by show (0 : Nat) ≤ 400; omega, fun m hm => by rw [List.mem_singleton.1 hm]; exact h⟩
    · exact h
theorem item_small : ∀ (k : Nat) (t : Tk) (d : Int), smallN (itemF s E k t d).nd
  | 0, _, _ => err_small _ _ _
  | k + 1, t, d => by
    unfold itemF
    split
    · split
      · unfold lookF
        split
        · exact err_small _ _ _
        · exact small_nd0 (fun n hn => by rw [List.mem_singleton.1 hn]; exact item_small k _ _)
      · exact err_small _ _ _
    · unfold repeatedF signedF
      split
      · exact err_small _ _ _
      · exact signs_small _ _ _ (single_small hs hE t d)
theorem row_small : ∀ (k : Nat) (acc : List Nd) (t : Tk) (d : Int), (∀ n ∈ acc, smallN n) → smallN (rowF s E k acc t d).nd
  | 0, _, _, _, _ => err_small _ _ _
  | k + 1, acc, t, d, ha => by
    unfold rowF
    split
    · split
      · exact err_small _ _ _
      · refine row_small k _ _ _ (fun n hn => ?_)
        rw [List.mem_append, List.mem_singleton] at hn
        rcases hn with hn | rfl
        · exact ha n hn
        · exact item_small hs hE _ _ _
    · exact small_join ha
theorem rows_small : ∀ (k : Nat) (acc : List Nd) (t : Tk) (d : Int), (∀ n ∈ acc, smallN n) → smallN (rowsF s E k acc t d).nd
  | 0, _, _, _, _ => err_small _ _ _
  | k + 1, acc, t, d, ha => by
    unfold rowsF
    split
    · split
      · exact err_small _ _ _
      · refine rows_small k _ _ _ (fun n hn => ?_)
        rw [List.mem_append, List.mem_singleton] at hn
        rcases hn with hn | rfl
        · exact ha n hn
        · exact row_small hs hE _ _ _ _ (by simp)
    · exact small_join ha
end
theorem expr_small {s : ByteArray} (hs : s.size ≤ 400) : ∀ (n : Nat) (t : Tk) (d : Int), smallN (exprN s n t d).nd
  | 0, _, _ => err_small _ _ _
  | n + 1, t, d => by
    show smallN (exprF s (exprN s n) t d).nd
    unfold exprF
    split
    · exact err_small _ _ _
    · refine rows_small hs (expr_small hs n) _ _ _ _ (fun m hm => ?_)
      rw [List.mem_singleton.1 hm]
      exact row_small hs (expr_small hs n) _ _ _ _ (by simp)
theorem rule_small {s : ByteArray} (hs : s.size ≤ 400) (t : Tk) : smallN (ruleF s t).rl.body ∧ (ruleF s t).rl.name.size ≤ 400 := by
  have hz : smallN Rl.zero.body ∧ Rl.zero.name.size ≤ 400 := ⟨err_small 0 t 0, by show (0 : Nat) ≤ 400; omega⟩
  unfold ruleF
  split
  · exact hz
  · split
    · exact hz
    · unfold ruleEnd
      split
      · exact hz
      · exact ⟨expr_small hs 13 _ 0, ofs_size hs t⟩
theorem parse_small {s : ByteArray} (hs : s.size ≤ 400) : ∀ r ∈ (parseF s).rules, smallN r.body ∧ r.name.size ≤ 400 := by
  have key : ∀ (k : Nat) (acc : List Rl) (t : Tk), (∀ r ∈ acc, smallN r.body ∧ r.name.size ≤ 400) → ∀ r ∈ (parseL s k acc t).rules, smallN r.body ∧ r.name.size ≤ 400 := by
    intro k
    induction k with
    | zero => intro acc t _ r hr; simp [parseL] at hr
    | succ k ih =>
      intro acc t ha r hr
      unfold parseL at hr
      split at hr
      · exact ha r hr
      · split at hr
        · simp at hr
        · refine ih _ _ (fun q hq => ?_) r hr
          rw [List.mem_append, List.mem_singleton] at hq
          rcases hq with hq | rfl
          · exact ha q hq
          · exact rule_small hs t
  unfold parseF
  rw [if_neg (by omega)]
  exact key _ _ _ (by simp)
theorem terms_small (rs : List Rl) : ∀ (F : Nat) (n : Nd) (T : List Tm), smallN n → (∀ t ∈ T, t.text.size ≤ 400) → (termN rs F n T).1.text.size ≤ 400 ∧ ∀ t ∈ (termN rs F n T).2, t.text.size ≤ 400
  | 0, n, T, hn, hT => ⟨((smallN_iff n).1 hn).1, hT⟩
  | F + 1, n, T, hn, hT => by
    have key : ∀ (l : List Nd) (ks : List Int) (U : List Tm), (∀ m ∈ l, smallN m) → (∀ t ∈ U, t.text.size ≤ 400) → ∀ t ∈ (termsL (termN rs F) l ks U).2, t.text.size ≤ 400 := by
      intro l
      induction l with
      | nil => intro ks U _ hU; exact hU
      | cons m l ih =>
        intro ks U hl hU
        rw [termsL]
        have hm := terms_small rs F m U (hl m (by simp)) hU
        refine ih _ _ (fun q hq => hl q (by simp [hq])) (fun t ht => ?_)
        rw [List.mem_append, List.mem_singleton] at ht
        rcases ht with ht | rfl
        · exact hm.2 t ht
        · exact hm.1
    have hn' := (smallN_iff n).1 hn
    exact ⟨hn'.1, key n.kids _ T hn'.2 hT⟩
theorem build_small (rs : List Rl) (F : Nat) (h : ∀ r ∈ rs, smallN r.body) : ∀ t ∈ buildF F rs, t.text.size ≤ 400 := by
  have key : ∀ (l : List Rl) (i : Nat) (T : List Tm), (∀ r ∈ l, smallN r.body) → (∀ t ∈ T, t.text.size ≤ 400) → ∀ t ∈ buildL rs F l i T, t.text.size ≤ 400 := by
    intro l
    induction l with
    | nil => intro i T _ hT; exact hT
    | cons r l ih =>
      intro i T hl hT
      rw [buildL]
      have hr := terms_small rs F r.body T (hl r (by simp)) hT
      refine ih _ _ (fun q hq => hl q (by simp [hq])) (fun t ht => ?_)
      rcases List.mem_or_eq_of_mem_set ht with h1 | h1
      · exact hr.2 t h1
      · rw [h1]; exact hr.1
  refine key rs 0 _ h (fun t ht => ?_)
  rw [List.eq_of_mem_replicate ht]
  show (0 : Nat) ≤ 400
  omega
end Go.Proofs.YtbojcemamhiodaaGreatDoor

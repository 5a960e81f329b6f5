import Derived.Test.YtbojcemamhiodaaRq
import Derived.Test.YtbojcemamhiodaaExb
namespace Go.Proofs.Ytbojcemamhiodaa
open Go.RowKit

/-- the sign of a token's kind -/
def whatK (k : Int) : ByteArray :=
  if k = 0 then ⟨#[110, 111, 110, 101]⟩ else if k = 1 then ⟨#[101, 110, 100]⟩ else if k = 2 then ⟨#[110, 97, 109, 101]⟩ else if k = 3 then ⟨#[60, 45]⟩ else if k = 4 then ⟨#[119, 111, 114, 100]⟩ else if k = 5 then ⟨#[115, 101, 116]⟩ else
  if k = 6 then ⟨#[47]⟩ else if k = 7 then ⟨#[38]⟩ else if k = 8 then ⟨#[33]⟩ else if k = 9 then ⟨#[42]⟩ else if k = 10 then ⟨#[43]⟩ else if k = 11 then ⟨#[63]⟩ else if k = 12 then ⟨#[46]⟩ else if k = 13 then ⟨#[40]⟩ else if k = 14 then ⟨#[41]⟩ else
  if k = 15 then ⟨#[123]⟩ else if k = 16 then ⟨#[125]⟩ else ⟨#[58]⟩
theorem whatK_eq {a b : Int} (ha : 0 ≤ a ∧ a ≤ 17) (hb : 0 ≤ b ∧ b ≤ 17) : ((whatK a).toList == (whatK b).toList) = (a == b) := by
  have key : ∀ i : Nat, i < 18 → ∀ j : Nat, j < 18 → ((whatK (i : Int)).toList == (whatK (j : Int)).toList) = ((i : Int) == (j : Int)) := by decide +kernel
  have := key a.toNat (by omega) b.toNat (by omega)
  rwa [Int.toNat_of_nonneg ha.1, Int.toNat_of_nonneg hb.1] at this
/-- the sign of an expression -/
def opW (k : Int) : ByteArray :=
  if k = 0 then ⟨#[119, 111, 114, 100]⟩ else if k = 1 then ⟨#[115, 101, 116]⟩ else if k = 2 then ⟨#[114, 117, 108, 101]⟩ else if k = 3 then ⟨#[112, 108, 97, 99, 101]⟩ else if k = 4 then ⟨#[99, 97, 116, 99, 104]⟩ else if k = 5 then ⟨#[114, 111, 119]⟩ else
  if k = 6 then ⟨#[47]⟩ else if k = 7 then ⟨#[38]⟩ else if k = 8 then ⟨#[33]⟩ else if k = 9 then ⟨#[42]⟩ else if k = 10 then ⟨#[43]⟩ else ⟨#[63]⟩
theorem opW_eq {a b : Int} (ha : 0 ≤ a ∧ a ≤ 11) (hb : 0 ≤ b ∧ b ≤ 11) : ((opW a).toList == (opW b).toList) = (a == b) := by
  have key : ∀ i : Nat, i < 12 → ∀ j : Nat, j < 12 → ((opW (i : Int)).toList == (opW (j : Int)).toList) = ((i : Int) == (j : Int)) := by decide +kernel
  have := key a.toNat (by omega) b.toNat (by omega)
  rwa [Int.toNat_of_nonneg ha.1, Int.toNat_of_nonneg hb.1] at this
theorem opW_what {k : Int} (h : 6 ≤ k ∧ k ≤ 11) : opW k = whatK k := by
  have key : ∀ i : Nat, i < 12 → 6 ≤ i → opW (i : Int) = whatK (i : Int) := by decide +kernel
  have := key k.toNat (by omega) (by omega)
  rwa [Int.toNat_of_nonneg (by omega)] at this

/-- the cells of an expression -/
def expV (op : ByteArray) (lv : Value) (str : ByteArray) (f : Nat → Bool) (a : Int) : List Value := .string op :: lv :: .string str :: ((List.range 256).map (fun c => Value.bool (f c)) ++ [.int .i64 a, .int .i64 0])
theorem expV_len (op : ByteArray) (lv : Value) (str : ByteArray) (f : Nat → Bool) (a : Int) : (expV op lv str f a).length = 261 := by simp [expV]
theorem zeroExp : Try.zeroCells86 = (expV .empty (.slice none 0 0) .empty noB 0).toArray := by kernel_rfl
theorem infoExp : (Try.prog.info? 86).map (fun i => (i.zero, i.size)) = some (some (.agg (expV .empty (.slice none 0 0) .empty noB 0).toArray), 261) := by kernel_rfl
theorem expV_op (op op' : ByteArray) (lv : Value) (str : ByteArray) (f : Nat → Bool) (a : Int) : (expV op lv str f a).set 0 (.string op') = expV op' lv str f a := rfl
theorem expV_l (op : ByteArray) (lv lv' : Value) (str : ByteArray) (f : Nat → Bool) (a : Int) : (expV op lv str f a).set 1 lv' = expV op lv' str f a := rfl
theorem expV_s (op : ByteArray) (lv : Value) (str str' : ByteArray) (f : Nat → Bool) (a : Int) : (expV op lv str f a).set 2 (.string str') = expV op lv str' f a := rfl
theorem expV_at (op : ByteArray) (lv : Value) (str : ByteArray) (f : Nat → Bool) (a a' : Int) : (expV op lv str f a).set 259 (.int .i64 a') = expV op lv str f a' := by
  unfold expV
  rw [List.set_cons_succ, List.set_cons_succ, List.set_cons_succ, List.set_append, if_neg (by simp)]
  simp
theorem expV_bit (op : ByteArray) (lv : Value) (str : ByteArray) (f : Nat → Bool) (a : Int) (c : Nat) (hc : c < 256) : (expV op lv str f a)[3 + c]? = some (.bool (f c)) := by
  unfold expV
  rw [show 3 + c = c + 1 + 1 + 1 by omega, List.getElem?_cons_succ, List.getElem?_cons_succ, List.getElem?_cons_succ, List.getElem?_append_left (by simpa using hc)]
  simp [hc]
theorem expV_setbit (op : ByteArray) (lv : Value) (str : ByteArray) (f : Nat → Bool) (a : Int) (c : Nat) (hc : c < 256) (v : Bool) : (expV op lv str f a).set (3 + c) (.bool v) = expV op lv str (upd f c v) a := by
  apply List.ext_getElem?
  intro j
  rw [List.getElem?_set]
  by_cases hj : 3 + c = j
  · subst hj
    rw [if_pos rfl, if_pos (by rw [expV_len]; omega), expV_bit _ _ _ _ _ c hc]
    simp [upd]
  · rw [if_neg hj]
    unfold expV
    match j, hj with
    | 0, _ => rfl
    | 1, _ => rfl
    | 2, _ => rfl
    | j + 3, hj =>
      rw [List.getElem?_cons_succ, List.getElem?_cons_succ, List.getElem?_cons_succ, List.getElem?_cons_succ, List.getElem?_cons_succ, List.getElem?_cons_succ]
      by_cases hj2 : j < 256
      · rw [List.getElem?_append_left (by simpa using hj2), List.getElem?_append_left (by simpa using hj2)]
        simp [hj2, upd]
        intro e
        omega
      · rw [List.getElem?_append_right (by simpa using hj2), List.getElem?_append_right (by simpa using hj2)]
        simp
/-- an expression's own block -/
def ExB (w : World) (b : Nat) (op : ByteArray) (lv : Value) (str : ByteArray) (f : Nat → Bool) (a : Int) : Prop := w.heap[b]? = some (.cells (expV op lv str f a).toArray 86)
section
variable {w w' : World} {b n : Nat} {op str : ByteArray} {lv : Value} {f : Nat → Bool} {a : Int}
theorem ExB.lt (h : ExB w b op lv str f a) : b < w.heap.size := (Array.getElem?_eq_some_iff.1 h).1
theorem ExB.c0 (h : ExB w b op lv str f a) : w.cell? ⟨b, 0, none⟩ = some (.string op) := by simp only [World.cell?, ExB] at *; rw [h]; rfl
theorem ExB.c1 (h : ExB w b op lv str f a) : w.cell? ⟨b, 1, none⟩ = some lv := by simp only [World.cell?, ExB] at *; rw [h]; rfl
theorem ExB.c2 (h : ExB w b op lv str f a) : w.cell? ⟨b, 2, none⟩ = some (.string str) := by simp only [World.cell?, ExB] at *; rw [h]; rfl
theorem ExB.cat (h : ExB w b op lv str f a) : w.cell? ⟨b, 259, none⟩ = some (.int .i64 a) := by
  simp only [World.cell?, ExB] at *
  rw [h]
  have : (expV op lv str f a)[259]? = some (.int .i64 a) := by
    unfold expV
    rw [List.getElem?_cons_succ, List.getElem?_cons_succ, List.getElem?_cons_succ, List.getElem?_append_right (by simp)]
    simp
  simpa using this
theorem ExB.cbit (h : ExB w b op lv str f a) (c : Nat) (hc : c < 256) : w.cell? ⟨b, 3 + c, none⟩ = some (.bool (f c)) := by
  simp only [World.cell?, ExB] at *
  rw [h]
  simpa using expV_bit op lv str f a c hc
theorem ExB.fz (h : ExB w b op lv str f a) (o : Nat) : w.frozen? ⟨b, o, none⟩ = false := by simp only [World.frozen?, ExB] at *; rw [h]; simp
theorem ExB.below (h : ExB w b op lv str f a) (hb : Below n w w') (hn : w.heap.size ≤ n) : ExB w' b op lv str f a := (hb.block b (Nat.lt_of_lt_of_le h.lt hn)).trans h
theorem ExB.but {q : Nat} (h : ExB w b op lv str f a) (hb : But q w w') (hq : b ≠ q) : ExB w' b op lv str f a := (hb.block b h.lt hq).trans h
theorem ExB.alloc (h : ExB w b op lv str f a) (o : Obj) : ExB (w.alloc o) b op lv str f a := (Below.heap_alloc _ _ _ h.lt).trans h
theorem ExB.other (h : ExB w b op lv str f a) {p : Addr} (hp : p.block ≠ b) (u : Value) : ExB (w.setCell p u) b op lv str f a := by
  unfold ExB at *
  rw [Below.heap_setCell _ _ _ _ (fun e => hp e.symm), h]
theorem ExB.setL (h : ExB w b op lv str f a) (lv' : Value) : ExB (w.setCell ⟨b, 1, none⟩ lv') b op lv' str f a := by
  unfold ExB at *
  rw [set_block h, List.setIfInBounds_toArray, expV_l]
theorem ExB.setS (h : ExB w b op lv str f a) (str' : ByteArray) : ExB (w.setCell ⟨b, 2, none⟩ (.string str')) b op lv str' f a := by
  unfold ExB at *
  rw [set_block h, List.setIfInBounds_toArray, expV_s]
theorem ExB.setBit (h : ExB w b op lv str f a) (c : Nat) (hc : c < 256) (v : Bool) : ExB (w.setCell ⟨b, 3 + c, none⟩ (.bool v)) b op lv str (upd f c v) a := by
  unfold ExB at *
  rw [set_block h, List.setIfInBounds_toArray, expV_setbit _ _ _ _ _ c hc]
theorem ex_new (w : World) (op : ByteArray) (lv : Value) (str : ByteArray) (f : Nat → Bool) (a : Int) : ExB (w.alloc (.cells (expV op lv str f a).toArray 86)) w.heap.size op lv str f a := heap_alloc_last w _
end
def ptrX (e : Ex) : Value := .pointer (some ⟨e.b, 0, none⟩)
/-- an expression as it lies in memory; its blocks are in S -/
def Tree (w : World) (S : Nat → Prop) : Ex → Prop
  | ⟨b, op, str, f, a, kids⟩ => S b ∧ (∃ lv, ExB w b (opW op) lv str f a ∧ RowIn w S 57 1 lv kids.length (kids.map ptrX)) ∧ ∀ k ∈ kids, Tree w S k
theorem Tree_iff (w : World) (S : Nat → Prop) (e : Ex) : Tree w S e ↔ S e.b ∧ (∃ lv, ExB w e.b (opW e.op) lv e.str e.set e.at_ ∧ RowIn w S 57 1 lv e.kids.length (e.kids.map ptrX)) ∧ ∀ k ∈ e.kids, Tree w S k := by
  obtain ⟨b, op, str, f, a, kids⟩ := e
  rw [Tree]
theorem Tree.turn {w w' : World} {S S' : Nat → Prop} (k : Turn S S' w w') (e : Ex) : Tree w S e → Tree w' S' e := by
  refine Ex.ind (P := fun e => Tree w S e → Tree w' S' e) (fun e ih h => ?_) e
  rw [Tree_iff] at h ⊢
  obtain ⟨h1, ⟨lv, h2, h3⟩, h4⟩ := h
  have := k e.b h1 h2.lt
  exact ⟨this.1, ⟨lv, this.2.trans h2, h3.turn k⟩, fun j hj => ih j hj (h4 j hj)⟩
theorem Tree.below {w w' : World} {S : Nat → Prop} {e : Ex} (h : Tree w S e) (hb : Below w.heap.size w w') : Tree w' S e := Tree.turn (fun b hS hz => ⟨hS, hb.block b hz⟩) e h
theorem Tree.lt {w : World} {S : Nat → Prop} {e : Ex} (h : Tree w S e) : e.b < w.heap.size := by
  rw [Tree_iff] at h
  obtain ⟨_, ⟨lv, h2, _⟩, _⟩ := h
  exact h2.lt
/-- a slice of expressions that the call appends to -/
structure GrowX (w : World) (lo : Nat) (v : Value) (xs : List Ex) : Prop where
  own : w.ownsRow lo 57 1 v xs.length (xs.map ptrX)
  trees : ∀ e ∈ xs, Tree w (fun b => lo ≤ b ∧ v.ownBlock ≠ some b) e
theorem GrowX.nil (w : World) (lo : Nat) : GrowX w lo (.slice none 0 0) [] := ⟨World.ownsRow_nil _ _ _ _, by simp⟩
theorem GrowX.keeps {w w' : World} {lo : Nat} {v : Value} {xs : List Ex} (h : GrowX w lo v xs) (k : Keeps lo w w') : GrowX w' lo v xs :=
  ⟨(RowIn.of_owns h.own).turn (S' := fun b => lo ≤ b) fun b hb hz => ⟨hb, k b hb hz⟩, fun e he => Tree.turn (fun b hb hz => ⟨hb, k b hb.1 hz⟩) e (h.trees e he)⟩
theorem GrowX.shape {w : World} {lo : Nat} {v : Value} {xs : List Ex} (h : GrowX w lo v xs) : ∃ ao cp, v = .slice ao xs.length cp := own_shape h.own
theorem GrowX.own_lt {w : World} {lo : Nat} {v : Value} {xs : List Ex} (h : GrowX w lo v xs) : ∀ k, v.ownBlock = some k → lo ≤ k ∧ k < w.heap.size := h.own.lt
/-- behind an append -/
theorem GrowX.grown {w w' : World} {lo lo' : Nat} {v v' : Value} {xs : List Ex} {e : Ex} (h : GrowX w lo v xs) (he : Tree w (fun b => lo' ≤ b) e) (hl : lo ≤ lo') (hv : ∀ k, v.ownBlock = some k → k < lo')
    (ho : w'.ownsRow lo 57 1 v' (xs.length + 1) (xs.map ptrX ++ [ptrX e])) (hg : w.grownBy w' v.ownBlock) (hb : v'.ownBlock = v.ownBlock ∨ v'.ownBlock = some w.heap.size) : GrowX w' lo v' (xs ++ [e]) := by
  have key : Turn (fun b => lo ≤ b ∧ v.ownBlock ≠ some b) (fun b => lo ≤ b ∧ v'.ownBlock ≠ some b) w w' := by
    intro b hS hz
    refine ⟨⟨hS.1, ?_⟩, hg.block b hz (fun e => hS.2 e.symm)⟩
    rcases hb with hb | hb
    · rw [hb]; exact hS.2
    · rw [hb]; intro e; cases e; omega
  refine ⟨by simpa using ho, fun x hx => ?_⟩
  rw [List.mem_append, List.mem_singleton] at hx
  rcases hx with hx | rfl
  · exact Tree.turn key x (h.trees x hx)
  · refine Tree.turn (fun b hS hz => key b ⟨?_, fun e => ?_⟩ hz) x he
    · have hS' : lo' ≤ b := hS
      omega
    · have hS' : lo' ≤ b := hS
      have := hv b e
      omega
/-- the row of what has grown -/
theorem GrowX.rowIn {w : World} {lo : Nat} {v : Value} {xs : List Ex} (h : GrowX w lo v xs) : RowIn w (fun b => lo ≤ b) 57 1 v xs.length (xs.map ptrX) ∧ ∀ e ∈ xs, Tree w (fun b => lo ≤ b) e :=
  ⟨RowIn.of_owns h.own, fun e he => Tree.turn (fun _ hS _ => ⟨hS.1, rfl⟩) e (h.trees e he)⟩
end Go.Proofs.Ytbojcemamhiodaa

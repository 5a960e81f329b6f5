import Derived.Test.YtbojcemamhiodaaGreatDoorRfq
import Derived.Test.YtbojcemamhiodaaGreatDoorExs
import Derived.BigRegion
namespace Go.Proofs.YtbojcemamhiodaaGreatDoor
open Go.RowKit

/-- the sign of a token's kind -/
def whatK (k : Int) : ByteArray :=
  if k = 0 then ⟨#[110, 111, 110, 101]⟩ else if k = 1 then ⟨#[101, 110, 100]⟩ else if k = 2 then ⟨#[110, 97, 109, 101]⟩ else if k = 3 then ⟨#[60, 45]⟩ else if k = 4 then ⟨#[119, 111, 114, 100]⟩ else if k = 5 then ⟨#[115, 101, 116]⟩ else
  if k = 6 then ⟨#[47]⟩ else if k = 7 then ⟨#[38]⟩ else if k = 8 then ⟨#[33]⟩ else if k = 9 then ⟨#[42]⟩ else if k = 10 then ⟨#[43]⟩ else if k = 11 then ⟨#[63]⟩ else if k = 12 then ⟨#[46]⟩ else if k = 13 then ⟨#[40]⟩ else if k = 14 then ⟨#[41]⟩ else
  if k = 15 then ⟨#[123]⟩ else if k = 16 then ⟨#[125]⟩ else ⟨#[58]⟩
theorem whatK_eq {a b : Int} (ha : 0 ≤ a ∧ a ≤ 17) (hb : 0 ≤ b ∧ b ≤ 17) : ((whatK a).toList == (whatK b).toList) = (a == b) := by
  have key : ∀ i : Nat, i < 18 → ∀ j : Nat, j < 18 → ((whatK (i : Int)).toList == (whatK (j : Int)).toList) = ((i : Int) == (j : Int)) := by decide +kernel
  have := key a.toNat (by omega) b.toNat (by omega)
  rwa [Int.toNat_of_nonneg ha.1, Int.toNat_of_nonneg hb.1] at this
/-- the sign of an expression -/
def opW (k : Int) : ByteArray :=
  if k = 0 then ⟨#[119, 111, 114, 100]⟩ else if k = 1 then ⟨#[115, 101, 116]⟩ else if k = 2 then ⟨#[114, 117, 108, 101]⟩ else if k = 3 then ⟨#[112, 108, 97, 99, 101]⟩ else if k = 4 then ⟨#[99, 97, 116, 99, 104]⟩ else if k = 5 then ⟨#[114, 111, 119]⟩ else
  if k = 6 then ⟨#[47]⟩ else if k = 7 then ⟨#[38]⟩ else if k = 8 then ⟨#[33]⟩ else if k = 9 then ⟨#[42]⟩ else if k = 10 then ⟨#[43]⟩ else ⟨#[63]⟩
theorem opW_eq {a b : Int} (ha : 0 ≤ a ∧ a ≤ 11) (hb : 0 ≤ b ∧ b ≤ 11) : ((opW a).toList == (opW b).toList) = (a == b) := by
  have key : ∀ i : Nat, i < 12 → ∀ j : Nat, j < 12 → ((opW (i : Int)).toList == (opW (j : Int)).toList) = ((i : Int) == (j : Int)) := by decide +kernel
  have := key a.toNat (by omega) b.toNat (by omega)
  rwa [Int.toNat_of_nonneg ha.1, Int.toNat_of_nonneg hb.1] at this
theorem opW_what {k : Int} (h : 6 ≤ k ∧ k ≤ 11) : opW k = whatK k := by
  have key : ∀ i : Nat, i < 12 → 6 ≤ i → opW (i : Int) = whatK (i : Int) := by decide +kernel
  have := key k.toNat (by omega) (by omega)
  rwa [Int.toNat_of_nonneg (by omega)] at this

/-- the cells of an expression -/
def expV (op : ByteArray) (lv : Value) (str : ByteArray) (f : Nat → Bool) (a : Int) : List Value := .string op :: lv :: .string str :: ((List.range 256).map (fun c => Value.bool (f c)) ++ [.int .i64 a, .int .i64 0])
theorem expV_len (op : ByteArray) (lv : Value) (str : ByteArray) (f : Nat → Bool) (a : Int) : (expV op lv str f a).length = 261 := by simp [expV]
theorem zeroExp : Tryz.zeroCells93 = (expV .empty (.slice none 0 0) .empty noB 0).toArray := by kernel_rfl
theorem infoExp : (Tryz.prog.info? 93).map (fun i => (i.zero, i.size)) = some (some (.agg (expV .empty (.slice none 0 0) .empty noB 0).toArray), 261) := by kernel_rfl
theorem expV_op (op op' : ByteArray) (lv : Value) (str : ByteArray) (f : Nat → Bool) (a : Int) : (expV op lv str f a).set 0 (.string op') = expV op' lv str f a := rfl
theorem expV_l (op : ByteArray) (lv lv' : Value) (str : ByteArray) (f : Nat → Bool) (a : Int) : (expV op lv str f a).set 1 lv' = expV op lv' str f a := rfl
theorem expV_s (op : ByteArray) (lv : Value) (str str' : ByteArray) (f : Nat → Bool) (a : Int) : (expV op lv str f a).set 2 (.string str') = expV op lv str' f a := rfl
theorem expV_at (op : ByteArray) (lv : Value) (str : ByteArray) (f : Nat → Bool) (a a' : Int) : (expV op lv str f a).set 259 (.int .i64 a') = expV op lv str f a' := by
  unfold expV
  rw [List.set_cons_succ, List.set_cons_succ, List.set_cons_succ, List.set_append, if_neg (by simp)]
  simp
theorem expV_bit (op : ByteArray) (lv : Value) (str : ByteArray) (f : Nat → Bool) (a : Int) (c : Nat) (hc : c < 256) : (expV op lv str f a)[3 + c]? = some (.bool (f c)) := by
  unfold expV
  rw [show 3 + c = c + 1 + 1 + 1 by omega, List.getElem?_cons_succ, List.getElem?_cons_succ, List.getElem?_cons_succ, List.getElem?_append_left (by simpa using hc)]
  simp [hc]
theorem expV_setbit (op : ByteArray) (lv : Value) (str : ByteArray) (f : Nat → Bool) (a : Int) (c : Nat) (hc : c < 256) (v : Bool) : (expV op lv str f a).set (3 + c) (.bool v) = expV op lv str (upd f c v) a := by
  apply List.ext_getElem?
  intro j
  rw [List.getElem?_set]
  by_cases hj : 3 + c = j
  · subst hj
    rw [if_pos rfl, if_pos (by rw [expV_len]; omega), expV_bit _ _ _ _ _ c hc]
    simp [upd]
  · rw [if_neg hj]
    unfold expV
    match j, hj with
    | 0, _ => rfl
    | 1, _ => rfl
    | 2, _ => rfl
    | j + 3, hj =>
      rw [List.getElem?_cons_succ, List.getElem?_cons_succ, List.getElem?_cons_succ, List.getElem?_cons_succ, List.getElem?_cons_succ, List.getElem?_cons_succ]
      by_cases hj2 : j < 256
      · rw [List.getElem?_append_left (by simpa using hj2), List.getElem?_append_left (by simpa using hj2)]
        simp [hj2, upd]
        intro e
        omega
      · rw [List.getElem?_append_right (by simpa using hj2), List.getElem?_append_right (by simpa using hj2)]
        simp
/-- an expression's own block -/
def ExB (w : World) (b : Nat) (op : ByteArray) (lv : Value) (str : ByteArray) (f : Nat → Bool) (a : Int) : Prop := w.heap[b]? = some (.cells (expV op lv str f a).toArray 93)
section
variable {w w' : World} {b n : Nat} {op str : ByteArray} {lv : Value} {f : Nat → Bool} {a : Int}
theorem ExB.lt (h : ExB w b op lv str f a) : b < w.heap.size := (Array.getElem?_eq_some_iff.1 h).1
theorem ExB.c0 (h : ExB w b op lv str f a) : w.cell? ⟨b, 0, none⟩ = some (.string op) := by simp only [World.cell?, ExB] at *; rw [h]; rfl
theorem ExB.c1 (h : ExB w b op lv str f a) : w.cell? ⟨b, 1, none⟩ = some lv := by simp only [World.cell?, ExB] at *; rw [h]; rfl
theorem ExB.c2 (h : ExB w b op lv str f a) : w.cell? ⟨b, 2, none⟩ = some (.string str) := by simp only [World.cell?, ExB] at *; rw [h]; rfl
theorem ExB.cat (h : ExB w b op lv str f a) : w.cell? ⟨b, 259, none⟩ = some (.int .i64 a) := by
  simp only [World.cell?, ExB] at *
  rw [h]
  have : (expV op lv str f a)[259]? = some (.int .i64 a) := by
    unfold expV
    rw [List.getElem?_cons_succ, List.getElem?_cons_succ, List.getElem?_cons_succ, List.getElem?_append_right (by simp)]
    simp
  simpa using this
theorem ExB.cbit (h : ExB w b op lv str f a) (c : Nat) (hc : c < 256) : w.cell? ⟨b, 3 + c, none⟩ = some (.bool (f c)) := by
  simp only [World.cell?, ExB] at *
  rw [h]
  simpa using expV_bit op lv str f a c hc
theorem ExB.fz (h : ExB w b op lv str f a) (o : Nat) : w.frozen? ⟨b, o, none⟩ = false := by simp only [World.frozen?, ExB] at *; rw [h]; simp
theorem ExB.below (h : ExB w b op lv str f a) (hb : Below n w w') (hn : w.heap.size ≤ n) : ExB w' b op lv str f a := (hb.block b (Nat.lt_of_lt_of_le h.lt hn)).trans h
theorem ExB.but {q : Nat} (h : ExB w b op lv str f a) (hb : But q w w') (hq : b ≠ q) : ExB w' b op lv str f a := (hb.block b h.lt hq).trans h
theorem ExB.alloc (h : ExB w b op lv str f a) (o : Obj) : ExB (w.alloc o) b op lv str f a := (Below.heap_alloc _ _ _ h.lt).trans h
theorem ExB.other (h : ExB w b op lv str f a) {p : Addr} (hp : p.block ≠ b) (u : Value) : ExB (w.setCell p u) b op lv str f a := by
  unfold ExB at *
  rw [Below.heap_setCell _ _ _ _ (fun e => hp e.symm), h]
theorem ExB.setL (h : ExB w b op lv str f a) (lv' : Value) : ExB (w.setCell ⟨b, 1, none⟩ lv') b op lv' str f a := by
  unfold ExB at *
  rw [set_block h, List.setIfInBounds_toArray, expV_l]
theorem ExB.setS (h : ExB w b op lv str f a) (str' : ByteArray) : ExB (w.setCell ⟨b, 2, none⟩ (.string str')) b op lv str' f a := by
  unfold ExB at *
  rw [set_block h, List.setIfInBounds_toArray, expV_s]
theorem ExB.setBit (h : ExB w b op lv str f a) (c : Nat) (hc : c < 256) (v : Bool) : ExB (w.setCell ⟨b, 3 + c, none⟩ (.bool v)) b op lv str (upd f c v) a := by
  unfold ExB at *
  rw [set_block h, List.setIfInBounds_toArray, expV_setbit _ _ _ _ _ c hc]
theorem ex_new (w : World) (op : ByteArray) (lv : Value) (str : ByteArray) (f : Nat → Bool) (a : Int) : ExB (w.alloc (.cells (expV op lv str f a).toArray 93)) w.heap.size op lv str f a := heap_alloc_last w _
end
def ptrX (e : Ex) : Value := .pointer (some ⟨e.b, 0, none⟩)
/-- an expression as it lies in memory; its blocks are in S -/
def Tree (w : World) (S : Nat → Prop) : Ex → Prop
  | ⟨b, op, str, f, a, kids⟩ => S b ∧ (∃ lv, ExB w b (opW op) lv str f a ∧ RowIn w S 61 1 lv kids.length (kids.map ptrX)) ∧ ∀ k ∈ kids, Tree w S k
theorem Tree_iff (w : World) (S : Nat → Prop) (e : Ex) : Tree w S e ↔ S e.b ∧ (∃ lv, ExB w e.b (opW e.op) lv e.str e.set e.at_ ∧ RowIn w S 61 1 lv e.kids.length (e.kids.map ptrX)) ∧ ∀ k ∈ e.kids, Tree w S k := by
  obtain ⟨b, op, str, f, a, kids⟩ := e
  rw [Tree]
theorem Tree.turn {w w' : World} {S S' : Nat → Prop} (k : Turn S S' w w') (e : Ex) : Tree w S e → Tree w' S' e := by
  refine Ex.ind (P := fun e => Tree w S e → Tree w' S' e) (fun e ih h => ?_) e
  rw [Tree_iff] at h ⊢
  obtain ⟨h1, ⟨lv, h2, h3⟩, h4⟩ := h
  have := k e.b h1 h2.lt
  exact ⟨this.1, ⟨lv, this.2.trans h2, h3.turn k⟩, fun j hj => ih j hj (h4 j hj)⟩
theorem Tree.below {w w' : World} {S : Nat → Prop} {e : Ex} (h : Tree w S e) (hb : Below w.heap.size w w') : Tree w' S e := Tree.turn (fun b hS hz => ⟨hS, hb.block b hz⟩) e h
theorem Tree.lt {w : World} {S : Nat → Prop} {e : Ex} (h : Tree w S e) : e.b < w.heap.size := by
  rw [Tree_iff] at h
  obtain ⟨_, ⟨lv, h2, _⟩, _⟩ := h
  exact h2.lt
/-- a slice of expressions that the call appends to -/
structure GrowX (w : World) (lo : Nat) (v : Value) (xs : List Ex) : Prop where
  own : w.ownsRow lo 61 1 v xs.length (xs.map ptrX)
  trees : ∀ e ∈ xs, Tree w (fun b => lo ≤ b ∧ v.ownBlock ≠ some b) e
theorem GrowX.nil (w : World) (lo : Nat) : GrowX w lo (.slice none 0 0) [] := ⟨World.ownsRow_nil _ _ _ _, by simp⟩
theorem GrowX.keeps {w w' : World} {lo : Nat} {v : Value} {xs : List Ex} (h : GrowX w lo v xs) (k : Keeps lo w w') : GrowX w' lo v xs :=
  ⟨(RowIn.of_owns h.own).turn (S' := fun b => lo ≤ b) fun b hb hz => ⟨hb, k b hb hz⟩, fun e he => Tree.turn (fun b hb hz => ⟨hb, k b hb.1 hz⟩) e (h.trees e he)⟩
theorem GrowX.shape {w : World} {lo : Nat} {v : Value} {xs : List Ex} (h : GrowX w lo v xs) : ∃ ao cp, v = .slice ao xs.length cp := own_shape h.own
theorem GrowX.own_lt {w : World} {lo : Nat} {v : Value} {xs : List Ex} (h : GrowX w lo v xs) : ∀ k, v.ownBlock = some k → lo ≤ k ∧ k < w.heap.size := h.own.lt
/-- behind an append -/
theorem GrowX.grown {w w' : World} {lo lo' : Nat} {v v' : Value} {xs : List Ex} {e : Ex} (h : GrowX w lo v xs) (he : Tree w (fun b => lo' ≤ b) e) (hl : lo ≤ lo') (hv : ∀ k, v.ownBlock = some k → k < lo')
    (ho : w'.ownsRow lo 61 1 v' (xs.length + 1) (xs.map ptrX ++ [ptrX e])) (hg : w.grownBy w' v.ownBlock) (hb : v'.ownBlock = v.ownBlock ∨ v'.ownBlock = some w.heap.size) : GrowX w' lo v' (xs ++ [e]) := by
  have key : Turn (fun b => lo ≤ b ∧ v.ownBlock ≠ some b) (fun b => lo ≤ b ∧ v'.ownBlock ≠ some b) w w' := by
    intro b hS hz
    refine ⟨⟨hS.1, ?_⟩, hg.block b hz (fun e => hS.2 e.symm)⟩
    rcases hb with hb | hb
    · rw [hb]; exact hS.2
    · rw [hb]; intro e; cases e; omega
  refine ⟨by simpa using ho, fun x hx => ?_⟩
  rw [List.mem_append, List.mem_singleton] at hx
  rcases hx with hx | rfl
  · exact Tree.turn key x (h.trees x hx)
  · refine Tree.turn (fun b hS hz => key b ⟨?_, fun e => ?_⟩ hz) x he
    · have hS' : lo' ≤ b := hS
      omega
    · have hS' : lo' ≤ b := hS
      have := hv b e
      omega
/-- the row of what has grown -/
theorem GrowX.rowIn {w : World} {lo : Nat} {v : Value} {xs : List Ex} (h : GrowX w lo v xs) : RowIn w (fun b => lo ≤ b) 61 1 v xs.length (xs.map ptrX) ∧ ∀ e ∈ xs, Tree w (fun b => lo ≤ b) e :=
  ⟨RowIn.of_owns h.own, fun e he => Tree.turn (fun _ hS _ => ⟨hS.1, rfl⟩) e (h.trees e he)⟩
end Go.Proofs.YtbojcemamhiodaaGreatDoor
namespace Go.Proofs.YtbojcemamhiodaaGreatDoor
open Go.RowKit

/-- what a token says, in the document's answer -/
structure TokR (s : ByteArray) (t : Tk) (str : ByteArray) (f : Nat → Bool) : Prop where
  name : t.k = 2 → str = t.of s
  word : t.k = 4 → str = t.bytes s
  set : t.k = 5 → t.bytes s = ⟨(bytesOf f true).toArray⟩
/-- cells that hold tokens, one behind the other -/
def CellsK (s : ByteArray) : List Value → List Tk → Prop
  | xs, [] => xs = []
  | xs, t :: ts => ∃ str f rest, xs = tokV (whatK t.k) str f t.from_ ++ rest ∧ TokR s t str f ∧ CellsK s rest ts
theorem CellsK.length {s : ByteArray} : ∀ {xs : List Value} {ts : List Tk}, CellsK s xs ts → xs.length = ts.length * 259
  | _, [], h => by rw [h]; rfl
  | _, t :: ts, ⟨str, f, rest, h1, _, h3⟩ => by
    rw [h1]; have := CellsK.length h3; simp [tokV_len, this]; omega
theorem CellsK.snoc {s : ByteArray} {t : Tk} {str : ByteArray} {f : Nat → Bool} (hk : TokR s t str f) : ∀ {xs : List Value} {ts : List Tk}, CellsK s xs ts → CellsK s (xs ++ tokV (whatK t.k) str f t.from_) (ts ++ [t])
  | _, [], h => by rw [h]; exact ⟨str, f, [], by simp, hk, rfl⟩
  | _, u :: ts, ⟨str', f', rest, h1, h2, h3⟩ => ⟨str', f', rest ++ tokV (whatK t.k) str f t.from_, by rw [h1]; simp, h2, CellsK.snoc hk h3⟩
theorem CellsK.at {s : ByteArray} : ∀ {xs : List Value} {ts : List Tk}, CellsK s xs ts → ∀ (i : Nat) (t : Tk), ts[i]? = some t → ∃ str f, TokR s t str f ∧ ∀ j < 259, xs[i * 259 + j]? = (tokV (whatK t.k) str f t.from_)[j]?
  | _, [], _, i, t, ht => by simp at ht
  | _, u :: ts, ⟨str, f, rest, h1, h2, h3⟩, 0, t, ht => by
    have : u = t := by simpa using ht
    subst this
    refine ⟨str, f, h2, fun j hj => ?_⟩
    rw [h1, List.getElem?_append_left (by rw [tokV_len]; omega)]
    congr 1
    omega
  | _, u :: ts, ⟨str, f, rest, h1, h2, h3⟩, i + 1, t, ht => by
    obtain ⟨str', f', h4, h5⟩ := CellsK.at h3 i t (by simpa using ht)
    refine ⟨str', f', h4, fun j hj => ?_⟩
    rw [h1, List.getElem?_append_right (by rw [tokV_len]; omega), tokV_len, show (i + 1) * 259 + j - 259 = i * 259 + j by omega]
    exact h5 j hj
/-- a row of tokens in block B -/
def TokL (w : World) (B cap : Nat) (s : ByteArray) (T : List Tk) : Prop :=
  ∃ cur xs, w.heap[B]? = some (.cells cur 83 (0, 0)) ∧ T.length ≤ cap ∧ cap ≤ maxLen ∧ cur.size = cap * 259 ∧ cur.toList.take (T.length * 259) = xs ∧ CellsK s xs T
theorem TokL.lt {w : World} {B cap : Nat} {s : ByteArray} {T : List Tk} (h : TokL w B cap s T) : B < w.heap.size := by
  obtain ⟨cur, xs, h1, _⟩ := h
  exact (Array.getElem?_eq_some_iff.1 h1).1
theorem TokL.keep {w w' : World} {B cap : Nat} {s : ByteArray} {T : List Tk} (h : TokL w B cap s T) (hb : w'.heap[B]? = w.heap[B]?) : TokL w' B cap s T := by
  obtain ⟨cur, xs, h1, h2⟩ := h
  exact ⟨cur, xs, hb.trans h1, h2⟩
theorem TokL.at {w : World} {B cap : Nat} {s : ByteArray} {T : List Tk} (h : TokL w B cap s T) (i : Nat) (t : Tk) (ht : T[i]? = some t) : ∃ str f, TokR s t str f ∧ (∀ j < 259, w.cell? ⟨B, i * 259 + j, none⟩ = (tokV (whatK t.k) str f t.from_)[j]?) ∧
    (∀ o, w.frozen? ⟨B, o, none⟩ = false) ∧ (i : Int) < T.length ∧ (T.length : Int) ≤ maxLen := by
  obtain ⟨cur, xs, h1, h2, h3, h4, h5, h6⟩ := h
  obtain ⟨str, f, h7, h8⟩ := h6.at i t ht
  have hil := (List.getElem?_eq_some_iff.1 ht).1
  refine ⟨str, f, h7, fun j hj => ?_, fun o => ?_, by omega, by omega⟩
  · rw [← h8 j hj, ← h5, List.getElem?_take, if_pos (by omega)]
    simp only [World.cell?, h1]
    simp
  · simp [World.frozen?, h1]
/-- the reader's block: k tokens are read, d brackets are open, what was wrong, and where -/
def Rd (w : World) (q B cap n : Nat) (k d e a : Int) : Prop := w.heap[q]? = some (.cells #[.slice (some ⟨B, 0, none⟩) n cap, .int .i64 k, .int .i64 d, .int .i64 e, .int .i64 a] 79)
theorem five {w : World} {N : Nat} {a b c d e : Value} {t : TypeId} (h : w.heap[N]? = some (.cells #[a, b, c, d, e] t)) :
    w.cell? ⟨N, 0, none⟩ = some a ∧ w.cell? ⟨N, 1, none⟩ = some b ∧ w.cell? ⟨N, 2, none⟩ = some c ∧ w.cell? ⟨N, 3, none⟩ = some d ∧ w.cell? ⟨N, 4, none⟩ = some e ∧ (∀ o, w.frozen? ⟨N, o, none⟩ = false) ∧ N < w.heap.size := by
  refine ⟨?_, ?_, ?_, ?_, ?_, fun o => ?_, (Array.getElem?_eq_some_iff.1 h).1⟩
  all_goals simp [World.cell?, World.frozen?, h]
section
variable {w w' : World} {q B cap n : Nat} {k d e a : Int}
theorem Rd.lt (h : Rd w q B cap n k d e a) : q < w.heap.size := (Array.getElem?_eq_some_iff.1 h).1
theorem Rd.keep (h : Rd w q B cap n k d e a) (hb : w'.heap[q]? = w.heap[q]?) : Rd w' q B cap n k d e a := hb.trans h
theorem Rd.setK (h : Rd w q B cap n k d e a) (k' : Int) : Rd (w.setCell ⟨q, 1, none⟩ (.int .i64 k')) q B cap n k' d e a := by
  unfold Rd at *
  rw [set_block h]
  rfl
theorem Rd.setD (h : Rd w q B cap n k d e a) (d' : Int) : Rd (w.setCell ⟨q, 2, none⟩ (.int .i64 d')) q B cap n k d' e a := by
  unfold Rd at *
  rw [set_block h]
  rfl
theorem Rd.setE (h : Rd w q B cap n k d e a) (e' : Int) : Rd (w.setCell ⟨q, 3, none⟩ (.int .i64 e')) q B cap n k d e' a := by
  unfold Rd at *
  rw [set_block h]
  rfl
theorem Rd.setA (h : Rd w q B cap n k d e a) (a' : Int) : Rd (w.setCell ⟨q, 4, none⟩ (.int .i64 a')) q B cap n k d e a' := by
  unfold Rd at *
  rw [set_block h]
  rfl
end
/-- what is known of the tokens of a text -/
structure ChainT (s : ByteArray) (T : List Tk) : Prop where
  few : T.length ≤ 1000
  ok : ∀ (i : Nat) (t : Tk), T[i]? = some t → TkOk s t ∧ (0 ≤ t.k ∧ t.k ≤ 17) ∧ (2 ≤ t.k → T[i + 1]? = some (nextT s t.to))
/-- a reader and its tokens -/
structure RS (w : World) (q B cap : Nat) (s : ByteArray) (T : List Tk) (k d e a : Int) : Prop where
  rd : Rd w q B cap T.length k d e a
  tok : TokL w B cap s T
  ne : B ≠ q
section
variable {w w' : World} {q B cap : Nat} {s : ByteArray} {T : List Tk} {k d e a : Int}
theorem RS.lt (h : RS w q B cap s T k d e a) : q < w.heap.size := h.rd.lt
theorem RS.below (h : RS w q B cap s T k d e a) (hb : Below w.heap.size w w') : RS w' q B cap s T k d e a := ⟨h.rd.keep (hb.block q h.rd.lt), h.tok.keep (hb.block B h.tok.lt), h.ne⟩
theorem RS.alloc (h : RS w q B cap s T k d e a) (o : Obj) : RS (w.alloc o) q B cap s T k d e a := h.below ((Below.refl _ _).alloc (Nat.le_refl _) _)
theorem RS.drewN (h : RS w q B cap s T k d e a) (m : Nat) : RS (w.drewN m) q B cap s T k d e a := h.below (below_drewN' (Below.refl _ _) m)
theorem RS.set (h : RS w q B cap s T k d e a) {p : Addr} (hp : p.block ≠ q) (hB : p.block ≠ B) (u : Value) : RS (w.setCell p u) q B cap s T k d e a :=
  ⟨h.rd.keep (Below.heap_setCell _ _ _ _ (fun x => hp x.symm)), h.tok.keep (Below.heap_setCell _ _ _ _ (fun x => hB x.symm)), h.ne⟩
theorem RS.grown {own : Option Nat} (h : RS w q B cap s T k d e a) (hg : w.grownBy w' own) (hq : ∀ j, own = some j → j ≠ q ∧ j ≠ B) : RS w' q B cap s T k d e a :=
  ⟨h.rd.keep (hg.block q h.rd.lt (fun x => (hq q x.symm).1 rfl)), h.tok.keep (hg.block B h.tok.lt (fun x => (hq B x.symm).2 rfl)), h.ne⟩
theorem RS.setK (h : RS w q B cap s T k d e a) (k' : Int) : RS (w.setCell ⟨q, 1, none⟩ (.int .i64 k')) q B cap s T k' d e a := ⟨h.rd.setK k', h.tok.keep (Below.heap_setCell _ _ _ _ h.ne), h.ne⟩
theorem RS.setD (h : RS w q B cap s T k d e a) (d' : Int) : RS (w.setCell ⟨q, 2, none⟩ (.int .i64 d')) q B cap s T k d' e a := ⟨h.rd.setD d', h.tok.keep (Below.heap_setCell _ _ _ _ h.ne), h.ne⟩
theorem RS.setE (h : RS w q B cap s T k d e a) (e' : Int) : RS (w.setCell ⟨q, 3, none⟩ (.int .i64 e')) q B cap s T k d e' a := ⟨h.rd.setE e', h.tok.keep (Below.heap_setCell _ _ _ _ h.ne), h.ne⟩
theorem RS.setA (h : RS w q B cap s T k d e a) (a' : Int) : RS (w.setCell ⟨q, 4, none⟩ (.int .i64 a')) q B cap s T k d e a' := ⟨h.rd.setA a', h.tok.keep (Below.heap_setCell _ _ _ _ h.ne), h.ne⟩
/-- the cells of a token of the reader's, as they are read one by one -/
theorem RS.cells (h : RS w q B cap s T k d e a) (i : Nat) (t : Tk) (ht : T[i]? = some t) : ∃ str f, TokR s t str f ∧ w.cell? ⟨B, i * 259, none⟩ = some (.string (whatK t.k)) ∧ w.cell? ⟨B, i * 259 + 1, none⟩ = some (.string str) ∧ w.cell? ⟨B, i * 259 + 258, none⟩ = some (.int .i64 t.from_) ∧
    (∀ o, w.frozen? ⟨B, o, none⟩ = false) ∧ (i : Int) < T.length ∧ (T.length : Int) ≤ maxLen ∧ B < w.heap.size := by
  obtain ⟨str, f, h1, h2, h3, h4, h5⟩ := h.tok.at i t ht
  refine ⟨str, f, h1, ?_, ?_, ?_, h3, h4, h5, h.tok.lt⟩
  · have := h2 0 (by omega)
    rw [Nat.add_zero] at this
    exact this
  · exact h2 1 (by omega)
  · have := h2 258 (by omega)
    rw [this]
    unfold tokV
    rw [List.getElem?_cons_succ, List.getElem?_cons_succ, List.getElem?_append_right (by simp)]
    simp
end
section
variable {w : World} {q B cap : Nat} {s : ByteArray} {T : List Tk} {d : Int} {k : Nat} {t : Tk}
set_option maxRecDepth 4000 in
set_option maxHeartbeats 1000000 in
theorem is_ok (what : ByteArray) (h : RS w q B cap s T k d 0 0) (ht : T[k]? = some t) :
    Calls Tryz.prog 38 #[.pointer (some ⟨q, 0, none⟩), .string what] w fun e w' => e = .returned (.bool ((whatK t.k).toList == what.toList)) ∧ ∃ m, w' = w.drewN m := by
  obtain ⟨c0, c1, c2, c3, c4, cf, hlt⟩ := five h.rd
  obtain ⟨str, f, _, d0, d1, d2, df, hk, hm, hB⟩ := h.cells k t ht
  have hk0 : (0 : Int) ≤ k := by omega
  go_enter Tryz.func38, Tryz.ntmps38
  go_wp2_with fail
  go_quiet (fail)
  go_wp2
  go_ret
  exact ⟨rfl, _, rfl⟩
set_option maxRecDepth 4000 in
set_option maxHeartbeats 1000000 in
theorem is_err {k d e a : Int} (what : ByteArray) (h : RS w q B cap s T k d e a) (he : e ≠ 0) :
    Calls Tryz.prog 38 #[.pointer (some ⟨q, 0, none⟩), .string what] w fun e w' => e = .returned (.bool false) ∧ ∃ m, w' = w.drewN m := by
  obtain ⟨c0, c1, c2, c3, c4, cf, hlt⟩ := five h.rd
  have he' : (e == 0) = false := by simpa using he
  clear he
  go_enter Tryz.func38, Tryz.ntmps38
  go_wp2_with fail
  go_quiet (fail)
  go_wp2
  go_ret
  exact ⟨rfl, _, rfl⟩
end
end Go.Proofs.YtbojcemamhiodaaGreatDoor
namespace Go.Proofs.YtbojcemamhiodaaGreatDoor
open Go.RowKit
theorem what3 : ([60, 45] : List UInt8) = (whatK 3).toList := by decide +kernel
section
variable {w : World} {q B cap : Nat} {s : ByteArray} {T : List Tk} {d : Int} {k : Nat} {t : Tk}
set_option maxRecDepth 4000 in
set_option maxHeartbeats 1000000 in
theorem wrong_ok (e' : Int) (h : RS w q B cap s T k d 0 0) (ht : T[k]? = some t) :
    Calls Tryz.prog 39 #[.pointer (some ⟨q, 0, none⟩), .int .i64 e'] w fun e w' => e = .returned (.tuple #[]) ∧ RS w' q B cap s T k d e' t.from_ ∧ But q w w' := by
  obtain ⟨_, _, _, c3, _, cf, hlt⟩ := five h.rd
  have h1 := h.setE e'
  obtain ⟨e0, e1, _, _, e4, ef, hlt1⟩ := five h1.rd
  obtain ⟨str, f, _, _, _, d2, df, hk, hm, hB⟩ := h1.cells k t ht
  have hk0 : (0 : Int) ≤ k := by omega
  have HR := hide (((h.setE e').drewN 1).setA t.from_)
  clear h h1
  go_enter Tryz.func39, Tryz.ntmps39
  go_wp2_with fail
  go_region
  go_wp2
  go_end0
  exact ⟨rfl, unhide HR, (((But.refl q w).setCell (p := ⟨q, 3, none⟩) (.inl rfl) _).setCell (p := ⟨q, 4, none⟩) (.inl rfl) _).drew⟩
set_option maxRecDepth 4000 in
set_option maxHeartbeats 1000000 in
theorem wrong_err {k d e a : Int} (e' : Int) (h : RS w q B cap s T k d e a) (he : e ≠ 0) :
    Calls Tryz.prog 39 #[.pointer (some ⟨q, 0, none⟩), .int .i64 e'] w fun x w' => x = .returned (.tuple #[]) ∧ w' = w := by
  obtain ⟨c0, c1, c2, c3, c4, cf, hlt⟩ := five h.rd
  have he' : (e == 0) = false := by simpa using he
  clear he
  go_enter Tryz.func39, Tryz.ntmps39
  go_wp2
  go_end0
  exact ⟨rfl, rfl⟩
set_option maxRecDepth 4000 in
set_option maxHeartbeats 1000000 in
/-- begins: a name, and an arrow behind it -/
theorem begins_ok (hT : ChainT s T) (h : RS w q B cap s T k d 0 0) (ht : T[k]? = some t) :
    Calls Tryz.prog 36 #[.pointer (some ⟨q, 0, none⟩)] w fun e w' => e = .returned (.bool (nmBefore s t 3)) ∧ ∃ m, w' = w.drewN m := by
  obtain ⟨h1, h2, h3⟩ := hT.ok k t ht
  have HI := hide (fun m => is_ok (w := w.drewN m) (whatK 2) (h.drewN m) ht)
  by_cases hk2 : t.k = 2
  · have ht2 := h3 (by omega)
    obtain ⟨g1, g2, _⟩ := hT.ok (k + 1) _ ht2
    obtain ⟨c0, c1, c2, c3, c4, cf, hlt⟩ := five h.rd
    obtain ⟨str, f, _, d0, d1, d2, df, hk, hm, hB⟩ := h.cells (k + 1) _ ht2
    have hk' : (k : Int) + 1 < T.length := by omega
    have hfew := hT.few
    have e1 : ((whatK t.k).toList == (whatK 2).toList) = true := by rw [whatK_eq h2 (by omega), hk2]; rfl
    rw [e1] at HI
    have HR : Hid (nmBefore s t 3 = ((whatK (nextT s t.to).k).toList == [60, 45])) := by
      unfold Hid nmBefore
      rw [what3, whatK_eq g2 (by omega), hk2]
      rfl
    clear e1 h1 h2 h3 g1 g2 hk2 ht2
    go_enter Tryz.func36, Tryz.ntmps36
    go_wp2_with fail
    go_quiet ((go_at_call 38; exact Calls.quiet_of (unhide HI _)))
    go_wp2
    go_ret
    exact ⟨by rw [unhide HR]; rfl, _, rfl⟩
  · have e1 : ((whatK t.k).toList == (whatK 2).toList) = false := by rw [whatK_eq h2 (by omega)]; simpa using hk2
    rw [e1] at HI
    have HR : Hid (nmBefore s t 3 = false) := by
      unfold Hid nmBefore
      simp [hk2]
    clear e1 h1 h2 h3 hk2
    go_enter Tryz.func36, Tryz.ntmps36
    go_wp2_with fail
    go_quiet ((go_at_call 38; exact Calls.quiet_of (unhide HI _)))
    go_wp2
    go_ret
    exact ⟨by rw [unhide HR]; rfl, _, rfl⟩
set_option maxRecDepth 4000 in
set_option maxHeartbeats 1000000 in
theorem begins_err {k d e a : Int} (h : RS w q B cap s T k d e a) (he : e ≠ 0) :
    Calls Tryz.prog 36 #[.pointer (some ⟨q, 0, none⟩)] w fun x w' => x = .returned (.bool false) ∧ ∃ m, w' = w.drewN m := by
  have HI := hide (fun m => is_err (w := w.drewN m) (whatK 2) (h.drewN m) he)
  clear he h
  go_enter Tryz.func36, Tryz.ntmps36
  go_wp2_with fail
  go_quiet ((go_at_call 38; exact Calls.quiet_of (unhide HI _)))
  go_wp2
  go_ret
  exact ⟨rfl, _, rfl⟩
/-- the signs with which an item begins -/
def itemW : List ByteArray := [whatK 7, whatK 8, whatK 12, whatK 13, whatK 15, whatK 2, whatK 4, whatK 5]
theorem item_has (t : Tk) (h : 0 ≤ t.k ∧ t.k ≤ 17) (hn : nmBefore s t 3 = false) : (itemW.any fun x => (whatK t.k).toList == x.toList) = atIt s t := by
  unfold itemW
  simp only [List.any_cons, List.any_nil, whatK_eq h (show (0 : Int) ≤ 7 ∧ (7 : Int) ≤ 17 by omega), whatK_eq h (show (0 : Int) ≤ 8 ∧ (8 : Int) ≤ 17 by omega), whatK_eq h (show (0 : Int) ≤ 12 ∧ (12 : Int) ≤ 17 by omega), whatK_eq h (show (0 : Int) ≤ 13 ∧ (13 : Int) ≤ 17 by omega), whatK_eq h (show (0 : Int) ≤ 15 ∧ (15 : Int) ≤ 17 by omega), whatK_eq h (show (0 : Int) ≤ 2 ∧ (2 : Int) ≤ 17 by omega), whatK_eq h (show (0 : Int) ≤ 4 ∧ (4 : Int) ≤ 17 by omega), whatK_eq h (show (0 : Int) ≤ 5 ∧ (5 : Int) ≤ 17 by omega)]
  rw [atIt_def, hn]
  cases (t.k == 7) <;> cases (t.k == 8) <;> cases (t.k == 12) <;> cases (t.k == 13) <;> cases (t.k == 15) <;> cases (t.k == 2) <;> cases (t.k == 4) <;> cases (t.k == 5) <;> rfl
theorem itemW_at (j : Nat) (hj : j < 8) : (itemW.map Value.string)[j]? = some (.string (itemW.getD j .empty)) := by
  have key : ∀ j : Nat, j < 8 → (itemW)[j]? = some (itemW.getD j .empty) := by decide +kernel
  rw [List.getElem?_map, key j hj]
  rfl
set_option maxRecDepth 4000 in
set_option maxHeartbeats 1000000 in
/-- item: the search among the signs -/
theorem item_walk (b : Bool) (hw : ∀ w', Below w.heap.size w w' → ∀ x, Calls Tryz.prog 38 #[.pointer (some ⟨q, 0, none⟩), .string x] w' fun e w'' => e = .returned (.bool ((whatK t.k).toList == x.toList && b)) ∧ ∃ m, w'' = w'.drewN m)
    (hbg : Calls Tryz.prog 36 #[.pointer (some ⟨q, 0, none⟩)] w fun e w' => e = .returned (.bool false) ∧ ∃ m, w' = w.drewN m) :
    Calls Tryz.prog 93 #[.pointer (some ⟨q, 0, none⟩)] w fun e w' => e = .returned (.bool (itemW.any fun x => (whatK t.k).toList == x.toList && b)) ∧ Below w.heap.size w w' := by
  have HW := hide hw
  clear hw
  go_enter Tryz.func93, Tryz.ntmps93
  go_wp2_with fail
  go_at_call 36
  refine hbg.mono ?_
  rintro e w1 ⟨rfl, m, rfl⟩
  clear hbg
  have HC : Hid (∀ j : Nat, j < 8 → ((w.drewN m).alloc (.cells (itemW.map Value.string).toArray 9)).cell? ⟨w.heap.size, j, none⟩ = some (.string (itemW.getD j .empty))) := by
    intro j hj
    have h := heap_alloc_new (w.drewN m) (.cells (itemW.map Value.string).toArray 9)
    have h' : ((w.drewN m).alloc (.cells (itemW.map Value.string).toArray 9)).heap[w.heap.size]? = _ := h
    simp only [World.cell?, h']
    simpa using itemW_at j hj
  have HB0 : Hid (Below w.heap.size w ((w.drewN m).alloc (.cells (itemW.map Value.string).toArray 9))) := (below_drewN' (Below.refl _ _) m).alloc (Nat.le_refl _) _
  go_wp2_with fail
  go_loopw [9] (fun i wr => ∃ j : Nat, i = .int .i64 j ∧ j ≤ 8 ∧ Hid ((itemW.any fun x => (whatK t.k).toList == x.toList && b) = ((itemW.drop j).any fun x => (whatK t.k).toList == x.toList && b)) ∧ Hid (∀ j : Nat, j < 8 → wr.cell? ⟨w.heap.size, j, none⟩ = some (.string (itemW.getD j .empty))) ∧ Hid (Below w.heap.size w wr) ∧ w.heap.size < wr.heap.size) (fun i _ => 8 - (intOf i).toNat)
  case atStart => exact ⟨0, rfl, by omega, rfl, HC, HB0, by simp⟩
  case round =>
    obtain ⟨j, rfl, hj, HD, HC1, HB1, hz1⟩ := hrel
    by_cases hlt : j < 8
    · have hc := unhide HC1 j hlt
      have hjI : (j : Int) < 8 := by omega
      have HI := hide (unhide HW wr (unhide HB1) (itemW.getD j .empty))
      have HX : Hid (itemW.drop j = itemW.getD j .empty :: itemW.drop (j + 1)) := by
        have key : ∀ j : Nat, j < 8 → itemW.drop j = itemW.getD j .empty :: itemW.drop (j + 1) := by
          intro j hj
          have hl : j < itemW.length := hj
          rw [List.drop_eq_getElem_cons hl, List.getD_eq_getElem?_getD, List.getElem?_eq_getElem hl]
          rfl
        exact key j hlt
      cases hx : ((whatK t.k).toList == (itemW.getD j .empty).toList && b)
      · rw [hx] at HI
        have HD2 : Hid ((itemW.any fun x => (whatK t.k).toList == x.toList && b) = ((itemW.drop (j + 1)).any fun x => (whatK t.k).toList == x.toList && b)) := by
          rw [Hid, unhide HD, unhide HX, List.any_cons, hx, Bool.false_or]
        clear hx
        go_wp2_with fail
        go_at_call 38
        refine (unhide HI).mono ?_
        rintro e w2 ⟨rfl, m2, rfl⟩
        go_wp2_with fail
        go_roundw
        case rel => exact ⟨j + 1, by go_num, by omega, HD2, HC1, below_drewN' (unhide HB1) m2, hz1⟩
        case measure => simp [intOf]; omega
      · rw [hx] at HI
        have HD2 : Hid ((itemW.any fun x => (whatK t.k).toList == x.toList && b) = true) := by
          rw [Hid, unhide HD, unhide HX, List.any_cons, hx, Bool.true_or]
        clear hx
        go_wp2_with fail
        go_at_call 38
        refine (unhide HI).mono ?_
        rintro e w2 ⟨rfl, m2, rfl⟩
        go_wp2
        go_ret
        exact ⟨by rw [unhide HD2]; rfl, below_drewN' (unhide HB1) m2⟩
    · have e8 : j = 8 := by omega
      subst e8
      have HD2 : Hid ((itemW.any fun x => (whatK t.k).toList == x.toList && b) = false) := by
        rw [Hid, unhide HD]
        rfl
      go_wp2
      go_ret
      exact ⟨by rw [unhide HD2]; rfl, unhide HB1⟩
/-- item: may one begin here? -/
theorem item_ok (hT : ChainT s T) (h : RS w q B cap s T k d 0 0) (ht : T[k]? = some t) :
    Calls Tryz.prog 93 #[.pointer (some ⟨q, 0, none⟩)] w fun e w' => e = .returned (.bool (atIt s t)) ∧ Below w.heap.size w w' := by
  obtain ⟨h1, h2, h3⟩ := hT.ok k t ht
  have hbg := begins_ok hT h ht
  cases hn : nmBefore s t 3
  · rw [hn] at hbg
    have := item_walk (t := t) true (fun w' hb x => by
      have := is_ok x (h.below hb) ht
      simpa using this) hbg
    simp only [Bool.and_true] at this
    rw [item_has t h2 hn] at this
    exact this
  · rw [hn] at hbg
    have hR : atIt s t = false := by
      rw [atIt_def, hn]
      unfold nmBefore at hn
      have : t.k = 2 := by
        rw [Bool.and_eq_true] at hn
        simpa using hn.1
      rw [this]
      rfl
    rw [hR]
    clear hn h1 h2 h3
    go_enter Tryz.func93, Tryz.ntmps93
    go_wp2_with fail
    go_at_call 36
    refine hbg.mono ?_
    rintro e w1 ⟨rfl, m, rfl⟩
    go_wp2
    go_ret
    exact ⟨rfl, below_drewN' (Below.refl _ _) m⟩
theorem item_err {k d e a : Int} (h : RS w q B cap s T k d e a) (he : e ≠ 0) :
    Calls Tryz.prog 93 #[.pointer (some ⟨q, 0, none⟩)] w fun x w' => x = .returned (.bool false) ∧ Below w.heap.size w w' := by
  have := item_walk (t := ⟨0, 0, 0⟩) false (fun w' hb x => by
    have := is_err x (h.below hb) he
    simpa using this) (begins_err h he)
  simp only [Bool.and_false] at this
  exact this
end
end Go.Proofs.YtbojcemamhiodaaGreatDoor

import Derived.Test.YtbojcemamhiodaaGreatDoorChkt
import Derived.Deep.AppendLies
namespace Go.Proofs.YtbojcemamhiodaaGreatDoor
open Go.RowKit

/-- a term, its kids by their numbers -/
structure Tm where
  kind : Int
  text : ByteArray
  kids : List Int

def Tm.zero : Tm := ⟨0, ByteArray.empty, []⟩
def baseK (rs : List Rl) (n : Nd) : List Int := if n.kind = 2 then [findF rs n.text] else []
def termsL (f : Nd → List Tm → Tm × List Tm) : List Nd → List Int → List Tm → List Int × List Tm
  | [], ks, T => (ks, T)
  | n :: l, ks, T => termsL f l (ks ++ [((f n T).2.length : Int)]) ((f n T).2 ++ [(f n T).1])
def termN (rs : List Rl) : Nat → Nd → List Tm → Tm × List Tm
  | 0, n, T => (⟨n.kind, n.text, baseK rs n⟩, T)
  | F + 1, n, T => (⟨n.kind, n.text, (termsL (termN rs F) n.kids (baseK rs n) T).1⟩, (termsL (termN rs F) n.kids (baseK rs n) T).2)

theorem termsL_mono {f : Nd → List Tm → Tm × List Tm} (hf : ∀ n T, T.length ≤ (f n T).2.length) : ∀ (l : List Nd) (ks : List Int) (T : List Tm), T.length + l.length ≤ (termsL f l ks T).2.length
  | [], _, _ => by simp [termsL]
  | n :: l, ks, T => by
    have h1 := termsL_mono hf l (ks ++ [((f n T).2.length : Int)]) ((f n T).2 ++ [(f n T).1])
    have h2 := hf n T
    simp only [termsL, List.length_cons]
    simp at h1
    omega
theorem termN_mono (rs : List Rl) : ∀ (F : Nat) (n : Nd) (T : List Tm), T.length ≤ (termN rs F n T).2.length
  | 0, _, _ => Nat.le_refl _
  | F + 1, n, T => by
    have := termsL_mono (termN_mono rs F) n.kids (baseK rs n) T
    simp only [termN]
    omega

def Tm.cs (t : Tm) (kv : Value) : List Value := [.int .i64 t.kind, .string t.text, kv]
def CellsT (K : Value → List Int → Prop) : List Value → List Tm → Prop
  | xs, [] => xs = []
  | xs, t :: ts => ∃ kv rest, xs = t.cs kv ++ rest ∧ K kv t.kids ∧ CellsT K rest ts
theorem CellsT.imp {K K' : Value → List Int → Prop} (hk : ∀ v l, K v l → K' v l) : ∀ {xs : List Value} {ts : List Tm}, CellsT K xs ts → CellsT K' xs ts
  | _, [], h => h
  | _, _ :: _, ⟨kv, rest, h1, h2, h3⟩ => ⟨kv, rest, h1, hk _ _ h2, CellsT.imp hk h3⟩
theorem CellsT.length {K : Value → List Int → Prop} : ∀ {xs : List Value} {ts : List Tm}, CellsT K xs ts → xs.length = ts.length * 3
  | _, [], h => by rw [h]; rfl
  | _, t :: ts, ⟨kv, rest, h1, _, h3⟩ => by
    rw [h1]; have := CellsT.length h3; simp [Tm.cs, this]; omega
theorem CellsT.snoc {K : Value → List Int → Prop} {t : Tm} {kv : Value} (hk : K kv t.kids) : ∀ {xs : List Value} {ts : List Tm}, CellsT K xs ts → CellsT K (xs ++ t.cs kv) (ts ++ [t])
  | _, [], h => by rw [h]; exact ⟨kv, [], by simp, hk, rfl⟩
  | _, u :: ts, ⟨kv', rest, h1, h2, h3⟩ => ⟨kv', rest ++ t.cs kv, by rw [h1]; simp, h2, CellsT.snoc hk h3⟩
theorem CellsT.at {K : Value → List Int → Prop} : ∀ {xs : List Value} {ts : List Tm}, CellsT K xs ts → ∀ (i : Nat) (t : Tm), ts[i]? = some t → ∃ kv, K kv t.kids ∧ ∀ j < 3, xs[i * 3 + j]? = (t.cs kv)[j]?
  | _, [], _, i, r, h => by simp at h
  | _, t :: ts, ⟨kv, rest, h1, h2, h3⟩, 0, r, h => by
    simp at h; subst h
    refine ⟨kv, h2, fun j hj => ?_⟩
    rw [h1, List.getElem?_append_left (by simp [Tm.cs]; omega)]
    simp
  | _, t :: ts, ⟨kv, rest, h1, h2, h3⟩, i + 1, r, h => by
    obtain ⟨kv', k1, k2⟩ := CellsT.at h3 i r (by simpa using h)
    refine ⟨kv', k1, fun j hj => ?_⟩
    rw [h1, List.getElem?_append_right (by simp [Tm.cs]; omega), ← k2 j hj]
    congr 1
    simp [Tm.cs]; omega
theorem CellsT.set {K : Value → List Int → Prop} {t : Tm} {kv : Value} (hk : K kv t.kids) : ∀ {xs : List Value} {ts : List Tm}, CellsT K xs ts → ∀ i, i < ts.length → CellsT K (((xs.set (i * 3) (.int .i64 t.kind)).set (i * 3 + 1) (.string t.text)).set (i * 3 + 2) kv) (ts.set i t)
  | _, [], _, i, hi => by simp at hi
  | _, u :: ts, ⟨kv', rest, h1, h2, h3⟩, 0, _ => by
    subst h1
    exact ⟨kv, rest, by simp [Tm.cs], hk, h3⟩
  | _, u :: ts, ⟨kv', rest, h1, h2, h3⟩, i + 1, hi => by
    have ih := CellsT.set hk h3 i (by simpa using hi)
    subst h1
    refine ⟨kv', _, ?_, h2, ih⟩
    have e0 : (i + 1) * 3 = i * 3 + 3 := by omega
    simp [Tm.cs, e0, List.set_cons_succ]

def ints (l : List Int) : List Value := l.map fun i => Value.int .i64 i
/-- a slice of numbers in blocks of S -/
def IntR (w : World) (S : Nat → Prop) (kv : Value) (l : List Int) : Prop := RowIn w S 3 1 kv l.length (ints l)
/-- the row of terms -/
def GrowT (w : World) (lo : Nat) (S : Nat → Prop) (v : Value) (T : List Tm) : Prop :=
  ∃ xs, w.ownsRow lo 89 3 v T.length xs ∧ CellsT (IntR w S) xs T

theorem own_keep {w w' : World} {base : Nat} {e : TypeId} {size : Nat} {v : Value} {n : Nat} {xs : List Value} (h : w.ownsRow base e size v n xs) (ho : ∀ b, v.ownBlock = some b → w'.heap[b]? = w.heap[b]?) : w'.ownsRow base e size v n xs := by
  refine ⟨h.1, ?_⟩
  rcases h.2 with h2 | ⟨g, cap, cur, hv, hg, hh, r⟩
  · exact .inl h2
  · exact .inr ⟨g, cap, cur, hv, hg, (ho g (by rw [hv]; rfl)).trans hh, r⟩
theorem GrowT.keep {w w' : World} {lo : Nat} {S S' : Nat → Prop} {v : Value} {T : List Tm} (h : GrowT w lo S v T) (hS : ∀ b, S b → b < w.heap.size → S' b ∧ w'.heap[b]? = w.heap[b]?) (ho : ∀ b, v.ownBlock = some b → w'.heap[b]? = w.heap[b]?) : GrowT w' lo S' v T := by
  obtain ⟨xs, h1, h2⟩ := h
  exact ⟨xs, own_keep h1 ho, CellsT.imp (fun _ _ k => RowIn.turn k hS) h2⟩
theorem GrowT.own_lt {w : World} {lo : Nat} {S : Nat → Prop} {v : Value} {T : List Tm} (h : GrowT w lo S v T) : ∀ k, v.ownBlock = some k → lo ≤ k ∧ k < w.heap.size := by
  obtain ⟨xs, h1, _⟩ := h
  exact fun k hk => h1.lt k hk
theorem GrowT.shape {w : World} {lo : Nat} {S : Nat → Prop} {v : Value} {T : List Tm} (h : GrowT w lo S v T) : ∃ ao cp, v = .slice ao T.length cp := by
  obtain ⟨xs, h1, _⟩ := h
  exact own_shape h1

theorem infoInt : (Tryz.prog.info? 3).map (fun i => (i.zero, i.size, i.bytes)) = some (some (.int .i64 0), 1, 8) := by kernel_rfl
theorem infoTerm : (Tryz.prog.info? 89).map (fun i => (i.zero, i.size, i.bytes)) = some (some (.agg #[.int .i64 0, .string ⟨#[]⟩, .slice none 0 0]), 3, 48) := by kernel_rfl

/-- w' is w but for block q, the row own, and new blocks -/
structure But2 (q : Nat) (own : Option Nat) (w w' : World) : Prop where
  os : w'.os = w.os
  tape : w'.tape = w.tape
  output : w'.output = w.output
  size : w.heap.size ≤ w'.heap.size
  block : ∀ k, k < w.heap.size → k ≠ q → own ≠ some k → w'.heap[k]? = w.heap[k]?
theorem But2.refl (q : Nat) (own : Option Nat) (w : World) : But2 q own w w := ⟨rfl, rfl, rfl, Nat.le_refl _, fun _ _ _ _ => rfl⟩
theorem But2.trans {q : Nat} {own own' : Option Nat} {a b c : World} (h : But2 q own a b) (k : But2 q own' b c) (ho : own' = own ∨ ∃ n, own' = some n ∧ a.heap.size ≤ n) : But2 q own a c :=
  ⟨k.os.trans h.os, k.tape.trans h.tape, k.output.trans h.output, Nat.le_trans h.size k.size, fun i hi hq hn => (k.block i (Nat.lt_of_lt_of_le hi h.size) hq (by rcases ho with rfl | ⟨n, rfl, hn'⟩; exact hn; intro e; injection e with e; omega)).trans (h.block i hi hq hn)⟩
theorem But2.below {q : Nat} {own : Option Nat} {a b c : World} {n : Nat} (h : But2 q own a b) (k : Below n b c) (hn : a.heap.size ≤ n) : But2 q own a c :=
  ⟨k.os.trans h.os, k.tape.trans h.tape, k.output.trans h.output, Nat.le_trans h.size k.size, fun i hi hq ho => (k.block i (by omega)).trans (h.block i hi hq ho)⟩
theorem But2.setCell {q : Nat} {own : Option Nat} {w w' : World} (h : But2 q own w w') {p : Addr} (hp : p.block = q ∨ w.heap.size ≤ p.block) (u : Value) : But2 q own w (w'.setCell p u) :=
  ⟨h.os, h.tape, h.output, by simpa [World.setCell] using h.size, fun k hk hq ho => (Below.heap_setCell _ _ _ _ (by omega)).trans (h.block k hk hq ho)⟩
theorem But2.alloc {q : Nat} {own : Option Nat} {w w' : World} (h : But2 q own w w') (o : Obj) : But2 q own w (w'.alloc o) :=
  ⟨h.os, h.tape, h.output, by have := h.size; simp; omega, fun k hk hq ho => (Below.heap_alloc _ _ _ (by have := h.size; omega)).trans (h.block k hk hq ho)⟩
theorem But2.drew {q : Nat} {own : Option Nat} {w w' : World} (h : But2 q own w w') : But2 q own w w'.drew := ⟨h.os, h.tape, h.output, h.size, h.block⟩
theorem But2.grown {q : Nat} {own row : Option Nat} {w w1 w2 : World} (h : But2 q own w w1) (hg : w1.grownBy w2 row) (hr : ∀ k, row = some k → w.heap.size ≤ k ∨ own = some k) : But2 q own w w2 :=
  ⟨hg.os.trans h.os, hg.tape.trans h.tape, hg.output.trans h.output, Nat.le_trans h.size hg.size, fun k hk hq ho => (hg.block k (Nat.lt_of_lt_of_le hk h.size) (fun e => by rcases hr k e.symm with h1 | h1; omega; exact ho h1)).trans (h.block k hk hq ho)⟩

/-- the builder in block q -/
structure Bd (w : World) (q lo : Nat) (X : Nat → Prop) (rs : List Rl) (g cap : Nat) (tv : Value) (T : List Tm) : Prop where
  cell : w.heap[q]? = some (.cells #[.slice (some ⟨g, 0, none⟩) rs.length cap, tv] 127)
  rules : Rw w (fun b => b < lo) g cap rs
  glo : g < lo
  few : rs.length ≤ 12
  terms : GrowT w lo (fun b => lo ≤ b ∧ b ≠ q ∧ tv.ownBlock ≠ some b ∧ ¬ X b) tv T
  loq : lo ≤ q
  own : tv.ownBlock ≠ some q

theorem Rw.keep {w w' : World} {S : Nat → Prop} {g cap : Nat} {rs : List Rl} (h : Rw w S g cap rs) (hg : w'.heap[g]? = w.heap[g]?) (hS : ∀ b, S b → b < w.heap.size → w'.heap[b]? = w.heap[b]?) : Rw w' S g cap rs := by
  obtain ⟨cur, n, xs, h1, h2, h3, h4, h5, h6⟩ := h
  exact ⟨cur, n, xs, hg.trans h1, h2, h3, h4, h5, Cells8.imp (fun _ _ k => k.turn fun b hb hz => ⟨hb, hS b hb hz⟩) h6⟩
theorem Bd.lt {w : World} {q lo : Nat} {X : Nat → Prop} {rs : List Rl} {g cap : Nat} {tv : Value} {T : List Tm} (h : Bd w q lo X rs g cap tv T) : q < w.heap.size := (Array.getElem?_eq_some_iff.1 h.cell).1
theorem Bd.cells {w : World} {q lo : Nat} {X : Nat → Prop} {rs : List Rl} {g cap : Nat} {tv : Value} {T : List Tm} (h : Bd w q lo X rs g cap tv T) :
    w.cell? ⟨q, 0, none⟩ = some (.slice (some ⟨g, 0, none⟩) rs.length cap) ∧ w.cell? ⟨q, 1, none⟩ = some tv ∧ (∀ o, w.frozen? ⟨q, o, none⟩ = false) := by
  refine ⟨?_, ?_, fun o => ?_⟩
  all_goals simp [World.cell?, World.frozen?, h.cell]
/-- what turns neither the builder nor its rows -/
theorem Bd.keep {w w' : World} {q lo : Nat} {X X' : Nat → Prop} {rs : List Rl} {g cap : Nat} {tv : Value} {T : List Tm} (h : Bd w q lo X rs g cap tv T)
    (hb : ∀ b, b < w.heap.size → (b = q ∨ b < lo ∨ tv.ownBlock = some b ∨ (lo ≤ b ∧ b ≠ q ∧ tv.ownBlock ≠ some b ∧ ¬ X b)) → w'.heap[b]? = w.heap[b]?) (hX : ∀ b, b < w.heap.size → ¬ X b → ¬ X' b) : Bd w' q lo X' rs g cap tv T := by
  have hl := h.terms.own_lt
  exact ⟨(hb q h.lt (.inl rfl)).trans h.cell, h.rules.keep (hb g h.rules.lt (.inr (.inl h.glo))) (fun b hb' hz => hb b hz (.inr (.inl hb'))), h.glo, h.few,
    h.terms.keep (fun b hS hz => ⟨⟨hS.1, hS.2.1, hS.2.2.1, hX b hz hS.2.2.2⟩, hb b hz (.inr (.inr (.inr hS)))⟩) (fun b ho => hb b (hl b ho).2 (.inr (.inr (.inl ho)))), h.loq, h.own⟩
theorem Bd.below {w w' : World} {q lo : Nat} {X : Nat → Prop} {rs : List Rl} {g cap : Nat} {tv : Value} {T : List Tm} (h : Bd w q lo X rs g cap tv T) (hb : Below w.heap.size w w') : Bd w' q lo X rs g cap tv T :=
  h.keep (fun b hz _ => hb.block b hz) (fun _ _ h => h)
end Go.Proofs.YtbojcemamhiodaaGreatDoor

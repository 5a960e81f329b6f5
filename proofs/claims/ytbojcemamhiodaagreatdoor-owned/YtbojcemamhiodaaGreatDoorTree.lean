import Derived.Test.YtbojcemamhiodaaGreatDoorByts
namespace Go.Proofs.YtbojcemamhiodaaGreatDoor
open Go.RowKit

/-- an expression or a part of one -/
structure Nd where
  kind : Int
  at_ : Int
  text : ByteArray
  kids : List Nd

def Nd.zero : Nd := ⟨0, 0, ByteArray.empty, []⟩

/-- the four cells of a node, its list of kids apart -/
def Nd.cs (t : Nd) (kv : Value) : List Value := [.int .i64 t.kind, .int .i64 t.at_, .string t.text, kv]

/-- cells that hold nodes, one behind the other -/
def Cells4 (K : Value → List Nd → Prop) : List Value → List Nd → Prop
  | xs, [] => xs = []
  | xs, t :: ts => ∃ kv rest, xs = t.cs kv ++ rest ∧ K kv t.kids ∧ Cells4 K rest ts

/-- a slice value that begins at the head of a block of S, and what its cells hold -/
def RowIn (w : World) (S : Nat → Prop) (e : TypeId) (size : Nat) (v : Value) (n : Nat) (xs : List Value) : Prop :=
  xs.length = n * size ∧ ((v = .slice none 0 0 ∧ n = 0) ∨
    ∃ g cap cur, v = .slice (some ⟨g, 0, none⟩) n cap ∧ S g ∧ w.heap[g]? = some (.cells cur e (0, 0)) ∧ n ≤ cap ∧ cap ≤ maxLen ∧ cur.size = cap * size ∧ cur.toList.take (n * size) = xs)

theorem RowIn.of_owns {w : World} {base : Nat} {e : TypeId} {size : Nat} {v : Value} {n : Nat} {xs : List Value} (h : w.ownsRow base e size v n xs) : RowIn w (fun b => base ≤ b) e size v n xs := h
theorem RowIn.owns {w : World} {base : Nat} {e : TypeId} {size : Nat} {v : Value} {n : Nat} {xs : List Value} (h : RowIn w (fun b => base ≤ b) e size v n xs) : w.ownsRow base e size v n xs := h

/-- what S holds in w lies in w' as it did, and S' holds it -/
def Turn (S S' : Nat → Prop) (w w' : World) : Prop := ∀ b, S b → b < w.heap.size → S' b ∧ w'.heap[b]? = w.heap[b]?

theorem RowIn.turn {w w' : World} {S S' : Nat → Prop} {e : TypeId} {size : Nat} {v : Value} {n : Nat} {xs : List Value} (h : RowIn w S e size v n xs) (k : Turn S S' w w') : RowIn w' S' e size v n xs := by
  refine ⟨h.1, ?_⟩
  rcases h.2 with h2 | ⟨g, cap, cur, hv, hg, hh, r⟩
  · exact .inl h2
  · have := k g hg (Array.getElem?_eq_some_iff.1 hh).1
    exact .inr ⟨g, cap, cur, hv, this.1, this.2.trans hh, r⟩

/-- a slice value that holds nodes, no deeper than h; all its blocks in S -/
def IsK (w : World) (S : Nat → Prop) : Nat → Value → List Nd → Prop
  | 0, kv, ts => kv = .slice none 0 0 ∧ ts = []
  | h + 1, kv, ts => ∃ xs, RowIn w S 118 4 kv ts.length xs ∧ Cells4 (IsK w S h) xs ts

theorem Cells4.imp {K K' : Value → List Nd → Prop} (hk : ∀ v l, K v l → K' v l) : ∀ {xs : List Value} {ts : List Nd}, Cells4 K xs ts → Cells4 K' xs ts
  | _, [], h => h
  | _, _ :: _, ⟨kv, rest, h1, h2, h3⟩ => ⟨kv, rest, h1, hk _ _ h2, Cells4.imp hk h3⟩

theorem Cells4.length {K : Value → List Nd → Prop} : ∀ {xs : List Value} {ts : List Nd}, Cells4 K xs ts → xs.length = ts.length * 4
  | _, [], h => by rw [h]; rfl
  | _, t :: ts, ⟨kv, rest, h1, _, h3⟩ => by
    rw [h1]; have := Cells4.length h3; simp [Nd.cs, this]; omega

theorem Cells4.snoc {K : Value → List Nd → Prop} {t : Nd} {kv : Value} (hk : K kv t.kids) : ∀ {xs : List Value} {ts : List Nd}, Cells4 K xs ts → Cells4 K (xs ++ t.cs kv) (ts ++ [t])
  | _, [], h => by rw [h]; exact ⟨kv, [], by simp, hk, rfl⟩
  | _, u :: ts, ⟨kv', rest, h1, h2, h3⟩ => ⟨kv', rest ++ t.cs kv, by rw [h1]; simp, h2, Cells4.snoc hk h3⟩

theorem IsK.nil (w : World) (S : Nat → Prop) (h : Nat) : IsK w S h (.slice none 0 0) [] := by
  cases h with
  | zero => exact ⟨rfl, rfl⟩
  | succ h => exact ⟨[], ⟨rfl, .inl ⟨rfl, rfl⟩⟩, rfl⟩

theorem IsK.succ {w : World} {S : Nat → Prop} : ∀ {h : Nat} {kv : Value} {ts : List Nd}, IsK w S h kv ts → IsK w S (h + 1) kv ts
  | 0, _, _, ⟨h1, h2⟩ => by rw [h1, h2]; exact IsK.nil _ _ _
  | _ + 1, _, _, ⟨xs, h1, h2⟩ => ⟨xs, h1, Cells4.imp (fun _ _ => IsK.succ) h2⟩

theorem IsK.mono {w : World} {S : Nat → Prop} {h h' : Nat} {kv : Value} {ts : List Nd} (k : IsK w S h kv ts) (hh : h ≤ h') : IsK w S h' kv ts := by
  induction hh with
  | refl => exact k
  | step _ ih => exact ih.succ

theorem IsK.turn {w w' : World} {S S' : Nat → Prop} (k : Turn S S' w w') : ∀ {h : Nat} {kv : Value} {ts : List Nd}, IsK w S h kv ts → IsK w' S' h kv ts
  | 0, _, _, h => h
  | _ + 1, _, _, ⟨xs, h1, h2⟩ => ⟨xs, h1.turn k, Cells4.imp (fun _ _ => IsK.turn k) h2⟩

/-- a list of nodes, by its slice value; its blocks from lo on -/
def Kids (w : World) (lo : Nat) (kv : Value) (ts : List Nd) : Prop := ∃ h, IsK w (fun b => lo ≤ b) h kv ts

/-- w' holds what w held from block lo on -/
def Keeps (lo : Nat) (w w' : World) : Prop := ∀ k, lo ≤ k → k < w.heap.size → w'.heap[k]? = w.heap[k]?
theorem Keeps.refl (lo : Nat) (w : World) : Keeps lo w w := fun _ _ _ => rfl
theorem Keeps.alloc {lo : Nat} {w w' : World} (h : Keeps lo w w') (hz : w.heap.size ≤ w'.heap.size) (o : Obj) : Keeps lo w (w'.alloc o) :=
  fun k hk hl => (Below.heap_alloc _ _ _ (by omega)).trans (h k hk hl)
theorem Keeps.set {lo : Nat} {w w' : World} (h : Keeps lo w w') {p : Addr} (hp : p.block < lo) (u : Value) : Keeps lo w (w'.setCell p u) :=
  fun k hk hl => (Below.heap_setCell _ _ _ _ (by omega)).trans (h k hk hl)
theorem But.keeps {q lo : Nat} {w w' : World} (h : But q w w') (hq : q < lo) : Keeps lo w w' := fun k hk hl => h.block k hl (by omega)
theorem below_keeps {n lo : Nat} {w w' : World} (h : Below n w w') (hn : w.heap.size ≤ n) : Keeps lo w w' := fun k _ hl => h.block k (by omega)

theorem Kids.nil (w : World) (lo : Nat) : Kids w lo (.slice none 0 0) [] := ⟨0, rfl, rfl⟩
theorem Kids.keeps {w w' : World} {lo lo' : Nat} {kv : Value} {ts : List Nd} (h : Kids w lo kv ts) (k : Keeps lo w w') (hl : lo' ≤ lo) : Kids w' lo' kv ts :=
  let ⟨n, hn⟩ := h; ⟨n, hn.turn fun b hb hz => ⟨Nat.le_trans hl hb, k b hb hz⟩⟩

/-- one node in a new block -/
theorem Kids.one {w : World} {lo : Nat} {kv : Value} {t : Nd} (h : Kids w lo kv t.kids) (hl : lo ≤ w.heap.size) :
    Kids (w.alloc (.cells (t.cs kv).toArray 118)) lo (.slice (some ⟨w.heap.size, 0, none⟩) 1 1) [t] := by
  obtain ⟨n, hn⟩ := h
  refine ⟨n + 1, t.cs kv, ?_, kv, [], by simp, hn.turn (fun b hb hz => ⟨hb, Below.heap_alloc _ _ _ hz⟩), rfl⟩
  exact ⟨rfl, .inr ⟨w.heap.size, 1, (t.cs kv).toArray, rfl, hl, heap_alloc_new w _, Nat.le_refl _, by unfold maxLen; omega, rfl, rfl⟩⟩

/-- a slice of nodes that the call appends to: the nodes so far; what hangs on them lies in other blocks -/
def Grow (w : World) (lo : Nat) (v : Value) (ts : List Nd) : Prop :=
  ∃ h xs, w.ownsRow lo 118 4 v ts.length xs ∧ Cells4 (IsK w (fun b => lo ≤ b ∧ v.ownBlock ≠ some b) h) xs ts

theorem Grow.nil (w : World) (lo : Nat) : Grow w lo (.slice none 0 0) [] := ⟨0, [], World.ownsRow_nil _ _ _ _, rfl⟩
theorem Grow.kids {w : World} {lo : Nat} {v : Value} {ts : List Nd} (h : Grow w lo v ts) : Kids w lo v ts :=
  let ⟨n, xs, h1, h2⟩ := h; ⟨n + 1, xs, h1, Cells4.imp (fun _ _ k => k.turn fun _ hb _ => ⟨hb.1, rfl⟩) h2⟩
theorem Grow.keeps {w w' : World} {lo : Nat} {v : Value} {ts : List Nd} (h : Grow w lo v ts) (k : Keeps lo w w') : Grow w' lo v ts :=
  let ⟨n, xs, h1, h2⟩ := h
  ⟨n, xs, (RowIn.of_owns h1).turn (S' := fun b => lo ≤ b) fun b hb hz => ⟨hb, k b hb hz⟩, Cells4.imp (fun _ _ r => r.turn fun b hb hz => ⟨hb, k b hb.1 hz⟩) h2⟩
theorem Grow.shape {w : World} {lo : Nat} {v : Value} {ts : List Nd} (h : Grow w lo v ts) : ∃ ao cp, v = .slice ao ts.length cp := by
  obtain ⟨n, xs, h1, _⟩ := h
  rcases h1.2 with ⟨h2, h3⟩ | ⟨g, cap, cur, h2, _⟩
  · exact ⟨none, 0, by rw [h2, h3]⟩
  · exact ⟨_, cap, h2⟩
theorem Grow.one {w : World} {lo lo' : Nat} {kv : Value} {t : Nd} (h : Kids w lo' kv t.kids) (hl : lo ≤ lo') (hz : lo' ≤ w.heap.size) :
    Grow (w.alloc (.cells (t.cs kv).toArray 118)) lo (.slice (some ⟨w.heap.size, 0, none⟩) 1 1) [t] := by
  obtain ⟨n, hn⟩ := h
  refine ⟨n, t.cs kv, ?_, kv, [], by simp, hn.turn (fun b hb hz => ⟨⟨by omega, by simp [Value.ownBlock]; omega⟩, Below.heap_alloc _ _ _ hz⟩), rfl⟩
  exact ⟨rfl, .inr ⟨w.heap.size, 1, (t.cs kv).toArray, rfl, by omega, heap_alloc_new w _, Nat.le_refl _, by unfold maxLen; omega, rfl, rfl⟩⟩

/-- behind an append -/
theorem Grow.grown {w w' : World} {lo lo' : Nat} {v v' : Value} {ts : List Nd} {t : Nd} {kv : Value} (h : Grow w lo v ts) (hk : Kids w lo' kv t.kids) (hl : lo ≤ lo')
    (hv : ∀ k, v.ownBlock = some k → k < lo') (ho : ∀ xs, w.ownsRow lo 118 4 v ts.length xs → w'.ownsRow lo 118 4 v' (ts.length + 1) (xs ++ t.cs kv)) (hg : w.grownBy w' v.ownBlock)
    (hb : v'.ownBlock = v.ownBlock ∨ v'.ownBlock = some w.heap.size) : Grow w' lo v' (ts ++ [t]) := by
  obtain ⟨n, xs, h1, h2⟩ := h
  obtain ⟨m, hm⟩ := hk
  have key : Turn (fun b => lo ≤ b ∧ v.ownBlock ≠ some b) (fun b => lo ≤ b ∧ v'.ownBlock ≠ some b) w w' := by
    intro b hS hz
    refine ⟨⟨hS.1, ?_⟩, hg.block b hz (fun e => hS.2 e.symm)⟩
    rcases hb with hb | hb
    · rw [hb]; exact hS.2
    · rw [hb]; intro e; cases e; omega
  refine ⟨max n m, xs ++ t.cs kv, by simpa using ho xs h1, Cells4.snoc ?_ (Cells4.imp (fun _ _ k => (k.turn key).mono (Nat.le_max_left _ _)) h2)⟩
  refine (hm.turn fun b hS hz => ?_).mono (Nat.le_max_right _ _)
  have hS' : lo' ≤ b := hS
  exact key b ⟨by omega, fun e => by have := hv b e; omega⟩ hz
end Go.Proofs.YtbojcemamhiodaaGreatDoor

import Derived.Test.YtbojcemamhiodaaGreatDoorApp
namespace Go.Proofs.YtbojcemamhiodaaGreatDoor
open Go.RowKit

/-- a rule -/
structure Rl where
  name : ByteArray
  at_ : Int
  body : Nd
  empty : Bool
  begins : Int

def Rl.cs (r : Rl) (kv : Value) : List Value :=
  [.string r.name, .int .i64 r.at_, .int .i64 r.body.kind, .int .i64 r.body.at_, .string r.body.text, kv, .bool r.empty, .int .i64 r.begins]

def Cells8 (K : Value → List Nd → Prop) : List Value → List Rl → Prop
  | xs, [] => xs = []
  | xs, t :: ts => ∃ kv rest, xs = t.cs kv ++ rest ∧ K kv t.body.kids ∧ Cells8 K rest ts

theorem Cells8.imp {K K' : Value → List Nd → Prop} (hk : ∀ v l, K v l → K' v l) : ∀ {xs : List Value} {ts : List Rl}, Cells8 K xs ts → Cells8 K' xs ts
  | _, [], h => h
  | _, _ :: _, ⟨kv, rest, h1, h2, h3⟩ => ⟨kv, rest, h1, hk _ _ h2, Cells8.imp hk h3⟩
theorem Cells8.length {K : Value → List Nd → Prop} : ∀ {xs : List Value} {ts : List Rl}, Cells8 K xs ts → xs.length = ts.length * 8
  | _, [], h => by rw [h]; rfl
  | _, t :: ts, ⟨kv, rest, h1, _, h3⟩ => by
    rw [h1]; have := Cells8.length h3; simp [Rl.cs, this]; omega
theorem Cells8.snoc {K : Value → List Nd → Prop} {t : Rl} {kv : Value} (hk : K kv t.body.kids) : ∀ {xs : List Value} {ts : List Rl}, Cells8 K xs ts → Cells8 K (xs ++ t.cs kv) (ts ++ [t])
  | _, [], h => by rw [h]; exact ⟨kv, [], by simp, hk, rfl⟩
  | _, u :: ts, ⟨kv', rest, h1, h2, h3⟩ => ⟨kv', rest ++ t.cs kv, by rw [h1]; simp, h2, Cells8.snoc hk h3⟩

/-- a slice of rules that the call appends to -/
def GrowR (w : World) (lo : Nat) (v : Value) (ts : List Rl) : Prop :=
  ∃ h xs, w.ownsRow lo 120 8 v ts.length xs ∧ Cells8 (IsK w (fun b => lo ≤ b ∧ v.ownBlock ≠ some b) h) xs ts

theorem GrowR.nil (w : World) (lo : Nat) : GrowR w lo (.slice none 0 0) [] := ⟨0, [], World.ownsRow_nil _ _ _ _, rfl⟩
theorem GrowR.keeps {w w' : World} {lo : Nat} {v : Value} {ts : List Rl} (h : GrowR w lo v ts) (k : Keeps lo w w') : GrowR w' lo v ts :=
  let ⟨n, xs, h1, h2⟩ := h
  ⟨n, xs, (RowIn.of_owns h1).turn (S' := fun b => lo ≤ b) fun b hb hz => ⟨hb, k b hb hz⟩, Cells8.imp (fun _ _ r => r.turn fun b hb hz => ⟨hb, k b hb.1 hz⟩) h2⟩
theorem GrowR.shape {w : World} {lo : Nat} {v : Value} {ts : List Rl} (h : GrowR w lo v ts) : ∃ ao cp, v = .slice ao ts.length cp := by
  obtain ⟨n, xs, h1, _⟩ := h
  rcases h1.2 with ⟨h2, h3⟩ | ⟨g, cap, cur, h2, _⟩
  · exact ⟨none, 0, by rw [h2, h3]⟩
  · exact ⟨_, cap, h2⟩
theorem GrowR.own_lt {w : World} {lo : Nat} {v : Value} {ts : List Rl} (h : GrowR w lo v ts) : ∀ k, v.ownBlock = some k → lo ≤ k ∧ k < w.heap.size := by
  obtain ⟨n, xs, h1, _⟩ := h
  exact fun k hk => h1.lt k hk

/-- behind an append -/
theorem GrowR.grown {w w' : World} {lo lo' : Nat} {v v' : Value} {ts : List Rl} {t : Rl} {kv : Value} (h : GrowR w lo v ts) (hk : Kids w lo' kv t.body.kids) (hl : lo ≤ lo')
    (hv : ∀ k, v.ownBlock = some k → k < lo') (ho : ∀ xs, w.ownsRow lo 120 8 v ts.length xs → w'.ownsRow lo 120 8 v' (ts.length + 1) (xs ++ t.cs kv)) (hg : w.grownBy w' v.ownBlock)
    (hb : v'.ownBlock = v.ownBlock ∨ v'.ownBlock = some w.heap.size) : GrowR w' lo v' (ts ++ [t]) := by
  obtain ⟨n, xs, h1, h2⟩ := h
  obtain ⟨m, hm⟩ := hk
  have key : Turn (fun b => lo ≤ b ∧ v.ownBlock ≠ some b) (fun b => lo ≤ b ∧ v'.ownBlock ≠ some b) w w' := by
    intro b hS hz
    refine ⟨⟨hS.1, ?_⟩, hg.block b hz (fun e => hS.2 e.symm)⟩
    rcases hb with hb | hb
    · rw [hb]; exact hS.2
    · rw [hb]; intro e; cases e; omega
  refine ⟨max n m, xs ++ t.cs kv, by simpa using ho xs h1, Cells8.snoc ?_ (Cells8.imp (fun _ _ k => (k.turn key).mono (Nat.le_max_left _ _)) h2)⟩
  refine (hm.turn fun b hS hz => ?_).mono (Nat.le_max_right _ _)
  have hS' : lo' ≤ b := hS
  exact key b ⟨by omega, fun e => by have := hv b e; omega⟩ hz

theorem info54 : (Tryz.prog.info? 120).map (fun i => (i.zero, i.size, i.bytes)) = some (some (.agg #[.string ⟨#[]⟩, .int .i64 0, .int .i64 0, .int .i64 0, .string ⟨#[]⟩, .slice none 0 0, .bool false, .int .i64 0]), 8, 96) := by kernel_rfl

/-- a rule is appended -/
theorem wpList_append_rl {w : World} {ops : Array Oper} {rest : List Oper} {o : Oper} {a : Act} {Q : Exit → Act → World → Prop} (hgd : o.guard = none) (sl x : Operand)
    (ho : o.op = .call { callee := .builtin .append, args := #[sl, x], argTypes := #[68, 68] })
    (lo : Nat) (v : Value) (ts : List Rl) (hs : a.eval sl = v) (t : Rl) (ao : Option Addr) (nk cp : Nat) (hlen : ts.length ≤ 1000) (lo' : Nat) (hg : GrowR w lo v ts) (hk : Kids w lo' (.slice ao nk cp) t.body.kids)
    (hl : lo ≤ lo') (hv : ∀ k, v.ownBlock = some k → k < lo') (hlo : lo ≤ w.heap.size)
    (B : Nat) (hB : B = w.heap.size) (hx : a.eval x = .slice (some ⟨B, 0, none⟩) 1 1)
    (h : ∀ v' w', GrowR w' lo v' (ts ++ [t]) → w.grownBy w' v.ownBlock → wpList Tryz.prog ops Q rest (a.put o.dst v') w') :
    wpList Tryz.prog ops Q (o :: rest) a (w.alloc (.cells #[.string t.name, .int .i64 t.at_, .int .i64 t.body.kind, .int .i64 t.body.at_, .string t.body.text, .slice ao nk cp, .bool t.empty, .int .i64 t.begins] 120)) := by
  subst hB
  obtain ⟨i, hi, hz, hsz, hby⟩ := info_parts info54
  have hkeep : Keeps lo w (w.alloc (.cells #[.string t.name, .int .i64 t.at_, .int .i64 t.body.kind, .int .i64 t.body.at_, .string t.body.text, .slice ao nk cp, .bool t.empty, .int .i64 t.begins] 120)) := (Keeps.refl _ _).alloc (Nat.le_refl _) _
  have hg' := hg.keeps hkeep
  have hg'' := hg'
  obtain ⟨hh, xs, h1, h2⟩ := hg'
  refine wpList_append2 _ hgd sl x 68 ho lo 120 i _ 8 96 Tryz.underlying68 hi hz hsz hby rfl (by omega) v ts.length xs hs h1 ⟨w.heap.size, 0, none⟩ 1 1 (by omega) (t.cs (.slice ao nk cp)) hx rfl ?_ ?_ (by unfold maxLen; omega) (by omega) (by simp; omega) ?_
  · intro j u hj
    have hadd : (⟨w.heap.size, 0, none⟩ : Addr).add j = ⟨w.heap.size, j, none⟩ := by unfold Addr.add; split <;> simp_all
    rw [hadd]
    simp only [World.cell?, heap_alloc_new]
    simpa [Rl.cs] using hj
  · intro u hu
    simp [Rl.cs] at hu
    rcases hu with rfl | rfl | rfl | rfl | rfl | rfl | rfl | rfl <;> rfl
  · intro v' w' ho' hgr hob
    refine h v' w' (hg''.grown (hk.keeps ((Keeps.refl _ _).alloc (Nat.le_refl _) _) (Nat.le_refl _)) hl hv (fun ys hy => ?_) hgr hob) ?_
    · rw [ownsRow_uniq h1 hy]
      exact ho'
    · exact ⟨hgr.os, hgr.tape, hgr.output, by have := hgr.size; simp at this; omega, fun k hk hne => (hgr.block k (by simp; omega) hne).trans (Below.heap_alloc _ _ _ hk)⟩
end Go.Proofs.YtbojcemamhiodaaGreatDoor

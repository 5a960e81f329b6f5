import Derived.Test.YtbojcemamhiodabGreatDoorMts
import Derived.Test.YtbojcemamhiodabGreatDoorCats
import Derived.Test.YtbojcemamhiodabGreatDoorApp
import Derived.Lib.AppendStr
import Derived.Deep.AppendLies
namespace Go.Proofs.YtbojcemamhiodabGreatDoor
open Go.RowKit Go.Lib

def u8s (o : List UInt8) : List Value := o.map fun b => Value.int .u8 (b.toNat : Int)
def bls (L : List Bool) : List Value := L.map Value.bool
theorem u8s_length (o : List UInt8) : (u8s o).length = o.length := by simp [u8s]
theorem u8s_app (a b : List UInt8) : u8s (a ++ b) = u8s a ++ u8s b := by simp [u8s]

/-- bytes of the call's own -/
def OwnB (w : World) (lo : Nat) (v : Value) (l : List UInt8) : Prop := w.ownsRow lo 5 1 v l.length (u8s l)

theorem OwnB.shape {w : World} {lo : Nat} {v : Value} {l : List UInt8} (h : OwnB w lo v l) : ∃ (ao : Option Addr) (n cp : Nat), v = .slice ao n cp := by
  have h' : w.ownsRow lo 5 1 v l.length (u8s l) := h
  rcases h'.2 with ⟨e, _⟩ | ⟨_, _, _, e, _⟩
  · exact ⟨_, _, _, e⟩
  · exact ⟨_, _, _, e⟩

/-- the catcher in block cb, what it knows of silence in block sb, what it has written: o, in the slice ov, in blocks from lo on -/
structure Cx (w : World) (S : Nat → Prop) (p nb lo cb sb : Nat) (tv : Value) (T : List Tm) (s : ByteArray) (m : Int → Int → Option Int) (ov : Value) (o : List UInt8) : Prop where
  mt : ∃ N, Mt w S p nb tv T s N
  lt : p < lo ∧ nb < lo ∧ cb < lo ∧ sb < lo ∧ lo ≤ w.heap.size
  Sl : ∀ b, S b → b < lo ∧ b ≠ cb ∧ b ≠ sb
  ne : nb ≠ cb ∧ nb ≠ sb ∧ cb ≠ sb ∧ p ≠ cb ∧ p ≠ sb
  cell : w.heap[cb]? = some (.cells #[.pointer (some ⟨p, 0, none⟩), .slice (some ⟨sb, 0, none⟩) (T.length * (s.size + 1)) (T.length * (s.size + 1)), ov] 86)
  sil : ∃ L : List Bool, w.heap[sb]? = some (.cells (bls L).toArray 4) ∧ L.length = T.length * (s.size + 1) ∧ ∀ i a : Nat, i < T.length → a ≤ s.size → L[i * (s.size + 1) + a]? = some true → ∃ F, catN T s m F i a = some []
  out : w.ownsRow lo 5 1 ov o.length (u8s o)

/-- what has turned -/
structure Fx (nb cb sb : Nat) (ov ov' : Value) (w w' : World) : Prop where
  os : w'.os = w.os
  tape : w'.tape = w.tape
  output : w'.output = w.output
  size : w.heap.size ≤ w'.heap.size
  block : ∀ b, b < w.heap.size → b ≠ nb → b ≠ cb → b ≠ sb → ov.ownBlock ≠ some b → w'.heap[b]? = w.heap[b]?
  own : ∀ k, ov'.ownBlock = some k → ov.ownBlock = some k ∨ w.heap.size ≤ k

section
variable {nb cb sb : Nat} {ov ov1 ov2 : Value} {w w1 w2 : World}
theorem Fx.refl (nb cb sb : Nat) (ov : Value) (w : World) : Fx nb cb sb ov ov w w := ⟨rfl, rfl, rfl, Nat.le_refl _, fun _ _ _ _ _ _ => rfl, fun _ h => .inl h⟩
theorem Fx.trans (h : Fx nb cb sb ov ov1 w w1) (k : Fx nb cb sb ov1 ov2 w1 w2) : Fx nb cb sb ov ov2 w w2 := by
  have hz := h.size
  refine ⟨k.os.trans h.os, k.tape.trans h.tape, k.output.trans h.output, Nat.le_trans h.size k.size, fun b hb h1 h2 h3 h4 => (k.block b (by omega) h1 h2 h3 fun e => ?_).trans (h.block b hb h1 h2 h3 h4), fun b hb => ?_⟩
  · rcases h.own b e with e | e
    · exact h4 e
    · omega
  · rcases k.own b hb with e | e
    · exact h.own b e
    · exact .inr (by omega)
theorem Fx.of_but (h : But nb w w1) : Fx nb cb sb ov ov w w1 := ⟨h.os, h.tape, h.output, h.size, fun b hb h1 _ _ _ => h.block b hb h1, fun _ h => .inl h⟩
theorem Fx.of_below {n : Nat} (h : Below n w w1) (hn : w.heap.size ≤ n) : Fx nb cb sb ov ov w w1 := ⟨h.os, h.tape, h.output, h.size, fun b hb _ _ _ _ => h.block b (by omega), fun _ h => .inl h⟩
theorem Fx.of_drew (h : Fx nb cb sb ov ov1 w w1) : Fx nb cb sb ov ov1 w w1.drew := ⟨h.os, h.tape, h.output, h.size, h.block, h.own⟩
end

section
variable {S : Nat → Prop} {p nb lo cb sb : Nat} {tv : Value} {T : List Tm} {s : ByteArray} {m : Int → Int → Option Int} {ov ov' : Value} {o o' : List UInt8} {w w' w1 : World}

theorem Cx.outLt (h : Cx w S p nb lo cb sb tv T s m ov o) : ∀ k, ov.ownBlock = some k → lo ≤ k ∧ k < w.heap.size := fun k hk => h.out.lt k hk
/-- nothing old has turned but the notes -/
theorem Cx.but (h : Cx w S p nb lo cb sb tv T s m ov o) (hM : ∃ N, Mt w' S p nb tv T s N) (hb : But nb w w') : Cx w' S p nb lo cb sb tv T s m ov o := by
  obtain ⟨l1, l2, l3, l4, l5⟩ := h.lt
  obtain ⟨n1, n2, n3, n4, n5⟩ := h.ne
  have hz := hb.size
  obtain ⟨L, h1, h2, h3⟩ := h.sil
  refine ⟨hM, ⟨l1, l2, l3, l4, by omega⟩, h.Sl, h.ne, (hb.block cb (by omega) (by omega)).trans h.cell, ⟨L, (hb.block sb (by omega) (by omega)).trans h1, h2, h3⟩, ?_⟩
  exact (RowIn.of_owns h.out).turn (S' := fun b => lo ≤ b) fun b hS hz => ⟨hS, hb.block b hz (by have hS' : lo ≤ b := hS; omega)⟩
theorem Cx.below (h : Cx w S p nb lo cb sb tv T s m ov o) (hb : Below w.heap.size w w') : Cx w' S p nb lo cb sb tv T s m ov o := by
  obtain ⟨N, hN⟩ := h.mt
  exact h.but ⟨N, hN.below hb⟩ (But.of_below hb (Nat.le_refl _))
theorem Cx.cells (h : Cx w S p nb lo cb sb tv T s m ov o) : w.cell? ⟨cb, 0, none⟩ = some (.pointer (some ⟨p, 0, none⟩)) ∧ w.cell? ⟨cb, 1, none⟩ = some (.slice (some ⟨sb, 0, none⟩) (T.length * (s.size + 1)) (T.length * (s.size + 1))) ∧ w.cell? ⟨cb, 2, none⟩ = some ov ∧ w.frozen? ⟨cb, 2, none⟩ = false ∧ cb < w.heap.size := by
  refine ⟨?_, ?_, ?_, ?_, (Array.getElem?_eq_some_iff.1 h.cell).1⟩
  all_goals simp [World.cell?, World.frozen?, h.cell]
theorem Cx.shape (h : Cx w S p nb lo cb sb tv T s m ov o) : ∃ ao cp, ov = .slice ao o.length cp ∧ o.length ≤ cp ∧ cp ≤ 9223372036854775807 := by
  rcases h.out.2 with ⟨h1, h2⟩ | ⟨g, cap, cur, h1, _, _, h3, h4, _⟩
  · exact ⟨none, 0, by rw [h1, h2], by omega, by omega⟩
  · unfold maxLen at h4
    exact ⟨_, cap, h1, h3, by omega⟩

/-- another slice is laid into the catcher -/
theorem Cx.put (h : Cx w S p nb lo cb sb tv T s m ov o) (hg : w.grownBy w1 ov.ownBlock) (ho : OwnB w1 lo ov' o') (hw : ∀ k, ov'.ownBlock = some k → ov.ownBlock = some k ∨ w.heap.size ≤ k) :
    Cx (w1.setCell ⟨cb, 2, none⟩ ov') S p nb lo cb sb tv T s m ov' o' ∧ Fx nb cb sb ov ov' w (w1.setCell ⟨cb, 2, none⟩ ov') := by
  obtain ⟨l1, l2, l3, l4, l5⟩ := h.lt
  obtain ⟨n1, n2, n3, n4, n5⟩ := h.ne
  have hz := hg.size
  have hlow : ∀ b, b < lo → w1.heap[b]? = w.heap[b]? := fun b hb => hg.block b (by omega) fun e => by have := h.outLt b e.symm; omega
  have hset : ∀ b, b ≠ cb → (w1.setCell ⟨cb, 2, none⟩ ov').heap[b]? = w1.heap[b]? := fun b hb => Below.heap_setCell _ _ _ _ (by simpa using hb)
  have hsz : (w1.setCell ⟨cb, 2, none⟩ ov').heap.size = w1.heap.size := by simp [World.setCell]
  obtain ⟨N, hN⟩ := h.mt
  obtain ⟨xs, k1, k2⟩ := hN.terms
  obtain ⟨L, h1, h2, h3⟩ := h.sil
  have hS : ∀ b, S b → (w1.setCell ⟨cb, 2, none⟩ ov').heap[b]? = w.heap[b]? := fun b hb => (hset b (h.Sl b hb).2.1).trans (hlow b (h.Sl b hb).1)
  refine ⟨⟨⟨N, (hset p (by omega)).trans ((hlow p l1).trans hN.cell), (hset nb (by omega)).trans ((hlow nb l2).trans hN.notes), ⟨xs, k1.turn fun b hb _ => ⟨hb, hS b hb⟩, CellsT.imp (fun _ _ k => RowIn.turn k fun b hb _ => ⟨hb, hS b hb⟩) k2⟩, hN.apart, hN.pn, hN.len, hN.sub, hN.few, hN.txt, hN.right⟩,
    ⟨l1, l2, l3, l4, by omega⟩, h.Sl, h.ne, ?_, ⟨L, (hset sb (by omega)).trans ((hlow sb l4).trans h1), h2, h3⟩, ?_⟩, ⟨?_, ?_, ?_, by omega, fun b hb b1 b2 b3 b4 => (hset b b2).trans (hg.block b hb fun e => b4 e.symm), hw⟩⟩
  · have hc : w1.heap[cb]? = some (.cells #[.pointer (some ⟨p, 0, none⟩), .slice (some ⟨sb, 0, none⟩) (T.length * (s.size + 1)) (T.length * (s.size + 1)), ov] 86) := (hlow cb l3).trans h.cell
    simp [World.setCell, Array.getElem?_modify, hc]
  · exact (RowIn.of_owns (show w1.ownsRow lo 5 1 ov' o'.length (u8s o') from ho)).turn (S' := fun b => lo ≤ b) fun b hS' _ => ⟨hS', hset b (by have hS'' : lo ≤ b := hS'; omega)⟩
  · exact hg.os
  · exact hg.tape
  · exact hg.output
theorem Cx.keepC (h : Cx w S p nb lo cb sb tv T s m ov o) (hg : w.grownBy w1 ov.ownBlock) : w1.cell? ⟨cb, 2, none⟩ = some ov ∧ w1.frozen? ⟨cb, 2, none⟩ = false := by
  obtain ⟨c0, c1, c2, cf, hcb⟩ := h.cells
  have hne : some cb ≠ ov.ownBlock := fun e => by have := h.outLt cb e.symm; have := h.lt.2.2.1; omega
  exact ⟨(World.grownBy.cell_far hg _ hcb hne).trans c2, (World.grownBy.frozen_far hg _ hcb hne).trans cf⟩
end

theorem infoB : (Tryz.prog.info? 5).map (fun i => (i.zero, i.size, i.bytes)) = some (some (.int .u8 0), 1, 1) := by kernel_rfl

/-- append of a text onto bytes of the call's own, and in which block what comes out lies -/
theorem run_appendS (w : World) (base : Nat) (t u ty e : TypeId) (i : TypeInfo) {P : Program} (ht : P.underlying t = some (.slice e)) (hu : P.underlying u = some .string) (hi : P.info? e = some i) (hz : i.zero = some (.int .u8 0))
    (hsize : i.size = 1) (hby : i.bytes = 1)
    (v : Value) (n : Nat) (xs : List Value) (hown : w.ownsRow base e 1 v n xs) (s : ByteArray)
    (h63 : n + s.size ≤ maxLen) (hbytes : n + s.size ≤ 140737488355328) (hbase : base ≤ w.heap.size) :
    ∃ v' w', (Builtin.append_ #[t, u] ty #[v, .string s]).run P w = .ok v' w' ∧ w'.ownsRow base e 1 v' (n + s.size) (xs ++ strCells s) ∧ w.grownBy w' v.ownBlock ∧
      (∀ k, v'.ownBlock = some k → v.ownBlock = some k ∨ w.heap.size ≤ k) := by
  obtain ⟨v', w', hr, h2, h3, h4⟩ := run_append_own_string (P := P) w base t u ty e i ht hu hi hz hsize hby v n xs hown s h63 hbytes hbase
  refine ⟨v', w', hr, h2, h3, ?_⟩
  have hsmall : n + s.size ≤ 9223372036854775807 := by simp only [maxLen] at h63; omega
  rcases hown.2 with ⟨rfl, rfl⟩ | ⟨g, cap, cur, rfl, hbg, hg, hnc, hcm, hcs, htake⟩
  · by_cases hm : s.size = 0
    · have := h4.2 ⟨rfl, hm⟩
      subst this
      intro k hk
      cases hk
    · have hr' := run_append_nil_string (P := P) w t u ty e i (.int .u8 0) ht hu hi hz s (by omega) (by omega) (by rw [hby]; omega)
      rw [hr] at hr'
      injection hr' with hv
      subst hv
      intro k hk
      right
      have : w.heap.size = k := by simpa [Value.ownBlock] using hk
      omega
  · by_cases hroom : n + s.size ≤ cap
    · have hcs' : cur.size = cap := by simpa using hcs
      have hr' := run_append_room_string (P := P) w t u ty e i ht hu hi hsize g n cap cur hg s hroom (by omega)
      rw [hr] at hr'
      injection hr' with hv
      subst hv
      intro k hk
      left
      simpa [Value.ownBlock] using hk
    · have hxl : xs.length = n := by simpa using hown.1
      have hr' := run_append_grow_string (P := P) w t u ty e i (.int .u8 0) ht hu hi hz ⟨g, 0, none⟩ n cap xs (by rw [hsize]; simpa using hxl) (hown.cells (g := g) rfl) s (by omega) (by omega) (by rw [hby]; exact growslice_fits (by omega) (by omega))
      rw [hr] at hr'
      injection hr' with hv
      subst hv
      intro k hk
      right
      have : w.heap.size = k := by simpa [Value.ownBlock] using hk
      omega

theorem wpList_appendS {w : World} {ops : Array Oper} {rest : List Oper} {o : Oper} {a : Act} {Q : Exit → Act → World → Prop} (hgd : o.guard = none) (sl x : Operand)
    (ho : o.op = .call { callee := .builtin .append, args := #[sl, x], argTypes := #[44, 9] })
    (base : Nat) (v : Value) (l : List UInt8) (hs : a.eval sl = v) (hown : w.ownsRow base 5 1 v l.length (u8s l)) (s : ByteArray) (hx : a.eval x = .string s)
    (hbytes : l.length + s.size ≤ 140737488355328) (hbase : base ≤ w.heap.size)
    (h : ∀ v' w', OwnB w' base v' (l ++ s.data.toList) → Hid (w.grownBy w' v.ownBlock) → Hid (∀ k, v'.ownBlock = some k → v.ownBlock = some k ∨ w.heap.size ≤ k) → wpList Tryz.prog ops Q rest (a.put o.dst v') w') : wpList Tryz.prog ops Q (o :: rest) a w := by
  obtain ⟨i, hi, hz, hsz, hby⟩ := info_parts infoB
  obtain ⟨v', w', hr, h2, h3, h4⟩ := run_appendS w base 44 9 o.type 5 i Tryz.underlying44 Tryz.underlying9 hi hz hsz hby v l.length _ hown s (by unfold maxLen; omega) hbytes hbase
  refine wpList_plain hgd fun _ hK => ?_
  unfold Oper.wp execOp
  simp only [ho, resolve, invoke, builtin, Sem.run_bind, Sem.run_pure, Result.andThen_ok, List.map_toArray, List.map_cons, List.map_nil, hs, hx, hr]
  refine hK _ _ (h v' w' ?_ h3 h4)
  have e : (l ++ s.data.toList).length = l.length + s.size := by rw [List.length_append]; rfl
  unfold OwnB
  rw [e, u8s_app]
  exact h2

/-- append of a byte that lies in the last block -/
theorem wpList_append1 {w : World} {ops : Array Oper} {rest : List Oper} {o : Oper} {a : Act} {Q : Exit → Act → World → Prop} (hgd : o.guard = none) (sl x : Operand)
    (ho : o.op = .call { callee := .builtin .append, args := #[sl, x], argTypes := #[44, 44] })
    (base : Nat) (v : Value) (l : List UInt8) (hs : a.eval sl = v) (c : UInt8) (ci : Int) (hc : ci = (c.toNat : Int)) (ty : TypeId) (hown : w.ownsRow base 5 1 v l.length (u8s l))
    (B : Nat) (hB : B = w.heap.size) (hx : a.eval x = .slice (some ⟨B, 0, none⟩) 1 1)
    (hbytes : l.length + 1 ≤ 140737488355328) (hbase : base ≤ w.heap.size)
    (h : ∀ v' w', OwnB w' base v' (l ++ [c]) → Hid (w.grownBy w' v.ownBlock) → Hid (∀ k, v'.ownBlock = some k → v.ownBlock = some k ∨ w.heap.size ≤ k) → wpList Tryz.prog ops Q rest (a.put o.dst v') w') :
    wpList Tryz.prog ops Q (o :: rest) a (w.alloc (.cells #[.int .u8 ci] ty)) := by
  subst hB
  subst hc
  obtain ⟨i, hi, hz, hsz, hby⟩ := info_parts infoB
  have hb : Below w.heap.size w (w.alloc (.cells #[.int .u8 (c.toNat : Int)] ty)) := (Below.refl _ _).alloc (Nat.le_refl _) _
  have hown' : (w.alloc (.cells #[.int .u8 (c.toNat : Int)] ty)).ownsRow base 5 1 v l.length (u8s l) := (RowIn.of_owns hown).turn (S' := fun b => base ≤ b) fun b hS hz => ⟨hS, hb.block b hz⟩
  refine wpList_append2 _ hgd sl x 44 ho base 5 i _ 1 1 Tryz.underlying44 hi hz hsz hby rfl (by omega) v l.length _ hs hown' ⟨w.heap.size, 0, none⟩ 1 1 (by omega) [.int .u8 (c.toNat : Int)] hx rfl ?_ ?_ (by unfold maxLen; omega) (by omega) (by simp; omega) ?_
  · intro j u hj
    have hadd : (⟨w.heap.size, 0, none⟩ : Addr).add j = ⟨w.heap.size, j, none⟩ := by unfold Addr.add; split <;> simp_all
    rw [hadd]
    simp only [World.cell?, heap_alloc_new]
    simpa using hj
  · intro u hu
    simp at hu
    subst hu
    rfl
  · intro v' w' ho' hgr hob
    refine h v' w' ?_ ⟨hgr.os, hgr.tape, hgr.output, by have := hgr.size; simp at this; omega, fun k hk hne => (hgr.block k (by simp; omega) hne).trans (Below.heap_alloc _ _ _ hk)⟩ ?_
    · unfold OwnB
      rw [u8s_app, List.length_append]
      exact ho'
    · intro k hk
      rcases hob with e | e
      · exact .inl (by rw [← e]; exact hk)
      · right
        rw [e] at hk
        injection hk with hk
        simp at hk
        omega
end Go.Proofs.YtbojcemamhiodabGreatDoor

import Derived.Test.YtbojcemamhiodaaGreatDoorTree
import Derived.OwnWalk
namespace Go.Proofs.YtbojcemamhiodaaGreatDoor
open Go.RowKit

/-- append onto a slice of the call's own, and in which block what comes out lies -/
theorem run_append2 {P : Program} (w : World) (base : Nat) (t ty e : TypeId) (i : TypeInfo) (z : Value) (size bytes : Nat) (ht : P.underlying t = some (.slice e)) (hi : P.info? e = some i) (hz : i.zero = some z)
    (hsize : i.size = size) (hby : i.bytes = bytes) (hzs : z.cells.size = size) (hsz : 0 < size)
    (v : Value) (n : Nat) (xs : List Value) (hown : w.ownsRow base e size v n xs)
    (a : Addr) (m c : Nat) (hm : 0 < m) (news : List Value) (hl : news.length = m * size) (hnews : ∀ j u, news[j]? = some u → w.cell? (a.add j) = some u) (h1 : ∀ u ∈ news, u.oneCell' = true)
    (h63 : n + m ≤ maxLen) (hbytes : (n + m) * bytes ≤ 140737488355328) (hbase : base ≤ w.heap.size) :
    ∃ v' w', (Builtin.append_ #[t, t] ty #[v, .slice (some a) m c]).run P w = .ok v' w' ∧ w'.ownsRow base e size v' (n + m) (xs ++ news) ∧ w.grownBy w' v.ownBlock ∧
      (v'.ownBlock = v.ownBlock ∨ v'.ownBlock = some w.heap.size) := by
  obtain ⟨v', w', hr, h2, h3, _⟩ := run_append_own (P := P) w base t ty e i z size bytes ht hi hz hsize hby hzs hsz v n xs hown a m c news hl hnews h1 h63 hbytes hbase
  refine ⟨v', w', hr, h2, h3, ?_⟩
  subst hsize
  subst hby
  have hs63 : n + m ≤ 9223372036854775807 := by simp only [maxLen] at h63; omega
  rcases hown.2 with ⟨rfl, rfl⟩ | ⟨g, cap, cur, rfl, _, hg, _, _, hcs, _⟩
  · have hr' := run_append_nil (P := P) w t ty e i z ht hi hz a m c news hl hnews hm (by omega) (by have hb := hbytes; simp only [Nat.zero_add] at hb; omega)
    rw [hr] at hr'
    injection hr' with hv
    exact .inr (by rw [hv]; rfl)
  · by_cases hroom : n + m ≤ cap
    · have hr' := run_append_room (P := P) w t ty e i ht hi g n cap cur hg a m c news hl hnews h1 hroom (by rw [hl, hcs, ← Nat.add_mul]; exact Nat.mul_le_mul_right _ hroom)
      rw [hr] at hr'
      injection hr' with hv
      exact .inl (by rw [hv]; rfl)
    · have hr' := run_append_grow (P := P) w t ty e i z ht hi hz ⟨g, 0, none⟩ n cap xs hown.1 (hown.cells (g := g) rfl) a m c news hl hnews (by omega) (by omega) (growslice_fits (by omega) hbytes)
      rw [hr] at hr'
      injection hr' with hv
      exact .inr (by rw [hv]; rfl)

theorem wpList_append2 {P : Program} (w : World) {ops : Array Oper} {rest : List Oper} {o : Oper} {a : Act} {Q : Exit → Act → World → Prop} (hgd : o.guard = none) (s x : Operand) (t : TypeId)
    (ho : o.op = .call { callee := .builtin .append, args := #[s, x], argTypes := #[t, t] })
    (base : Nat) (e : TypeId) (i : TypeInfo) (z : Value) (size bytes : Nat) (ht : P.underlying t = some (.slice e)) (hi : P.info? e = some i) (hz : i.zero = some z)
    (hsize : i.size = size) (hby : i.bytes = bytes) (hzs : z.cells.size = size) (hsz : 0 < size)
    (v : Value) (n : Nat) (xs : List Value) (hs : a.eval s = v) (hown : w.ownsRow base e size v n xs)
    (ad : Addr) (m c : Nat) (hm : 0 < m) (news : List Value) (hx : a.eval x = .slice (some ad) m c) (hl : news.length = m * size) (hnews : ∀ j u, news[j]? = some u → w.cell? (ad.add j) = some u) (h1 : ∀ u ∈ news, u.oneCell' = true)
    (h63 : n + m ≤ maxLen) (hbytes : (n + m) * bytes ≤ 140737488355328) (hbase : base ≤ w.heap.size)
    (h : ∀ v' w', w'.ownsRow base e size v' (n + m) (xs ++ news) → w.grownBy w' v.ownBlock → (v'.ownBlock = v.ownBlock ∨ v'.ownBlock = some w.heap.size) → wpList P ops Q rest (a.put o.dst v') w') : wpList P ops Q (o :: rest) a w := by
  obtain ⟨v', w', hr, h2, h3, h4⟩ := run_append2 (P := P) w base t o.type e i z size bytes ht hi hz hsize hby hzs hsz v n xs hown ad m c hm news hl hnews h1 h63 hbytes hbase
  refine wpList_plain hgd fun _ hK => ?_
  unfold Oper.wp execOp
  simp only [ho, resolve, invoke, builtin, Sem.run_bind, Sem.run_pure, Result.andThen_ok, List.map_toArray, List.map_cons, List.map_nil, hs, hx, hr]
  exact hK _ _ (h v' w' h2 h3 h4)

theorem ownsRow_uniq {w : World} {lo : Nat} {e : TypeId} {size : Nat} {v : Value} {n : Nat} {xs ys : List Value} (h1 : w.ownsRow lo e size v n xs) (hy : w.ownsRow lo e size v n ys) : ys = xs := by
  rcases h1.2 with ⟨e1, e2⟩ | ⟨g, cap, cur, e1, _, e3, _, _, _, e7⟩
  · have l1 := h1.1; have l2 := hy.1; rw [e2] at l1 l2; simp at l1 l2; rw [l1, l2]
  · rcases hy.2 with ⟨f1, _⟩ | ⟨g', cap', cur', f1, _, f3, _, _, _, f7⟩
    · rw [e1] at f1; cases f1
    · rw [e1] at f1
      injection f1 with f1 _ f2
      injection f1 with f1
      injection f1 with f1
      subst f1
      rw [e3] at f3
      injection f3 with f3
      injection f3 with f3
      subst f3
      rw [← e7, ← f7]

theorem info52 : (Tryz.prog.info? 118).map (fun i => (i.zero, i.size, i.bytes)) = some (some (.agg #[.int .i64 0, .int .i64 0, .string ⟨#[]⟩, .slice none 0 0]), 4, 56) := by kernel_rfl

/-- a node is appended: what the walk meets at 'l = append(l, n)' (the node lies in the last block) -/
theorem wpList_append_nd {w : World} {ops : Array Oper} {rest : List Oper} {o : Oper} {a : Act} {Q : Exit → Act → World → Prop} (hgd : o.guard = none) (sl x : Operand)
    (ho : o.op = .call { callee := .builtin .append, args := #[sl, x], argTypes := #[116, 116] })
    (lo : Nat) (v : Value) (ts : List Nd) (hs : a.eval sl = v) (t : Nd) (ao : Option Addr) (nk cp : Nat) (hlen : ts.length ≤ 1000) (lo' : Nat) (hg : Grow w lo v ts) (hk : Kids w lo' (.slice ao nk cp) t.kids)
    (hl : lo ≤ lo') (hv : ∀ k, v.ownBlock = some k → k < lo') (hlo : lo ≤ w.heap.size)
    (B : Nat) (hB : B = w.heap.size) (hx : a.eval x = .slice (some ⟨B, 0, none⟩) 1 1)
    (h : ∀ v' w', Grow w' lo v' (ts ++ [t]) → w.grownBy w' v.ownBlock → wpList Tryz.prog ops Q rest (a.put o.dst v') w') :
    wpList Tryz.prog ops Q (o :: rest) a (w.alloc (.cells #[.int .i64 t.kind, .int .i64 t.at_, .string t.text, .slice ao nk cp] 118)) := by
  subst hB
  obtain ⟨i, hi, hz, hsz, hby⟩ := info_parts info52
  have hkeep : Keeps lo w (w.alloc (.cells #[.int .i64 t.kind, .int .i64 t.at_, .string t.text, .slice ao nk cp] 118)) := (Keeps.refl _ _).alloc (Nat.le_refl _) _
  have hg' := hg.keeps hkeep
  have hg'' := hg'
  obtain ⟨hh, xs, h1, h2⟩ := hg'
  refine wpList_append2 _ hgd sl x 116 ho lo 118 i _ 4 56 Tryz.underlying116 hi hz hsz hby rfl (by omega) v ts.length xs hs h1 ⟨w.heap.size, 0, none⟩ 1 1 (by omega) (t.cs (.slice ao nk cp)) hx rfl ?_ ?_ (by unfold maxLen; omega) (by omega) (by simp; omega) ?_
  · intro j u hj
    have hadd : (⟨w.heap.size, 0, none⟩ : Addr).add j = ⟨w.heap.size, j, none⟩ := by unfold Addr.add; split <;> simp_all
    rw [hadd]
    simp only [World.cell?, heap_alloc_new]
    simpa [Nd.cs] using hj
  · intro u hu
    simp [Nd.cs] at hu
    rcases hu with rfl | rfl | rfl | rfl <;> rfl
  · intro v' w' ho' hgr hob
    refine h v' w' (hg''.grown (hk.keeps ((Keeps.refl _ _).alloc (Nat.le_refl _) _) (Nat.le_refl _)) hl hv (fun ys hy => ?_) hgr hob) ?_
    · have := ownsRow_uniq h1 hy
      rw [this]
      exact ho'
    · exact ⟨hgr.os, hgr.tape, hgr.output, by have := hgr.size; simp at this; omega, fun k hk hne => (hgr.block k (by simp; omega) hne).trans (Below.heap_alloc _ _ _ hk)⟩
end Go.Proofs.YtbojcemamhiodaaGreatDoor

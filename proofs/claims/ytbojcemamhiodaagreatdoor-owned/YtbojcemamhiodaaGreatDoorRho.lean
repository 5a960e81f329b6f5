import Derived.Test.YtbojcemamhiodaaGreatDoorZa
import Derived.Test.YtbojcemamhiodaaGreatDoorRt
import Derived.Test.YtbojcemamhiodaaGreatDoorSev
import Derived.Test.YtbojcemamhiodaaGreatDoorLax
import Derived.Test.YtbojcemamhiodaaGreatDoorExs
import Derived.Deep.AppendLies
import Derived.Test.YtbojcemamhiodaaGreatDoorComp
namespace Go.Proofs.YtbojcemamhiodaaGreatDoor
open Go.RowKit
/-- where Read stands: the names, places and expressions of the rules so far -/
structure RdI (w : World) (lo q B cap G : Nat) (s : ByteArray) (T : List Tk) (k e a : Int) (ns : List ByteArray) (ats : List Int) (xs : List Ex) (nv av ev : Value) (wr : World) : Prop where
 rs : RS wr q B cap s T k 0 e a
 blk : wr.heap[G]? = some (.cells #[nv, av, ev] 32)
 names : wr.ownsRow lo 9 1 nv ns.length (ns.map Value.string)
 ats : wr.ownsRow lo 3 1 av ats.length (ats.map (Value.int .i64))
 exps : wr.ownsRow lo 61 1 ev xs.length (xs.map ptrX)
 trees : ∀ x ∈ xs, Tree wr (fun j => lo ≤ j ∧ nv.ownBlock ≠ some j ∧ av.ownBlock ≠ some j ∧ ev.ownBlock ≠ some j) x
 na : ∀ j, nv.ownBlock = some j → av.ownBlock ≠ some j
 ne : ∀ j, nv.ownBlock = some j → ev.ownBlock ≠ some j
 ae : ∀ j, av.ownBlock = some j → ev.ownBlock ≠ some j
 bel : Below w.heap.size w wr
 lo0 : w.heap.size ≤ q ∧ w.heap.size ≤ G
 hi0 : q < lo ∧ B < lo ∧ G < lo
 qG : q ≠ G
 BG : B ≠ G
 lor : lo ≤ wr.heap.size
section
variable {w wr W w5 : World} {lo q B cap G : Nat} {s : ByteArray} {T : List Tk} {k e a : Int} {ns : List ByteArray} {ats : List Int} {xs : List Ex} {nv av ev v' : Value}
theorem kept_own {lo' : Nat} {ty : TypeId} {size n : Nat} {ys : List Value} {v row : Value} (h : wr.ownsRow lo' ty size v n ys) (hb : Below wr.heap.size wr W) (hg : W.grownBy w5 row.ownBlock) (hne : ∀ j, row.ownBlock = some j → v.ownBlock ≠ some j) (hG : ∀ j, v.ownBlock = some j → j ≠ G) (o : Nat) (u : Value) : (w5.setCell ⟨G, o, none⟩ u).ownsRow lo' ty size v n ys := by
 have h1 := (own_below h hb).kept hg (by
  cases hv : v.ownBlock with
  | none => exact .inl rfl
  | some j => exact .inr fun e => hne j e.symm hv)
 exact own_keep h1 fun j hj => Below.heap_setCell _ _ _ _ (show j ≠ G from hG j hj)
theorem RdI.step (h : RdI w lo q B cap G s T k e a ns ats xs nv av ev wr) (hb : Below wr.heap.size wr W) {row : Value} (hrow : ∀ j, row.ownBlock = some j → lo ≤ j) (hg : W.grownBy w5 row.ownBlock) (o : Nat) (u : Value) :
  RS (w5.setCell ⟨G, o, none⟩ u) q B cap s T k 0 e a ∧ Below w.heap.size w (w5.setCell ⟨G, o, none⟩ u) ∧ w5.heap[G]? = some (.cells #[nv, av, ev] 32) ∧ lo ≤ w5.heap.size := by
 have h1 := h.hi0
 have h2 := h.lor
 have h3 := hb.size
 have h4 := hg.size
 refine ⟨((h.rs.below hb).grown hg (fun j hj => by have := hrow j hj; omega)).set (show G ≠ q from fun x => h.qG x.symm) (show G ≠ B from fun x => h.BG x.symm) u, ?_, ?_, by omega⟩
 ·have hz := h.bel.size
  exact ((h.bel.trans (hb.mono hz)).grown hg (by omega) (fun j hj => by have := hrow j hj; have := h.lo0; omega)).setCell (show w.heap.size ≤ G from h.lo0.2) _
 ·rw [hg.block G (by omega) (fun x => by have := hrow G x.symm; omega), hb.block G (by omega)]
  exact h.blk
theorem tree_step (hb : Below wr.heap.size wr W) {row : Value} (hg : W.grownBy w5 row.ownBlock) {S S' : Nat → Prop} (o : Nat) (u : Value) (hS : ∀ j, S j → j < wr.heap.size → S' j ∧ row.ownBlock ≠ some j ∧ j ≠ G) {x : Ex} (ht : Tree wr S x) : Tree (w5.setCell ⟨G, o, none⟩ u) S' x := by
 refine Tree.turn (fun j hj hl => ?_) x ht
 obtain ⟨h1, h2, h3⟩ := hS j hj hl
 have hz := hb.size
 refine ⟨h1, ?_⟩
 rw [Below.heap_setCell _ _ _ _ (show j ≠ G from h3), hg.block j (by omega) (fun x => h2 x.symm), hb.block j hl]
theorem fresh_ne {lo' : Nat} {ty : TypeId} {size n : Nat} {ys : List Value} {v r r' : Value} (h : wr.ownsRow lo' ty size v n ys) (hb : Below wr.heap.size wr W) (hr : ∀ j, r.ownBlock = some j → v.ownBlock ≠ some j) (hat : r'.ownBlock = r.ownBlock ∨ r'.ownBlock = some W.heap.size) : ∀ j, r'.ownBlock = some j → v.ownBlock ≠ some j := by
 intro j hj hv
 have hz := hb.size
 rcases hat with e | e
 ·rw [e] at hj; exact hr j hj hv
 ·rw [e] at hj
  injection hj with hj
  have := (h.lt j hv).2
  omega
theorem RdI.addName {n : Nat} (hn : n = ns.length) (h : RdI w lo q B cap G s T k e a ns ats xs nv av ev wr) (hb : Below wr.heap.size wr W) (hg : W.grownBy w5 nv.ownBlock) {nm : ByteArray} (hown : w5.ownsRow lo 9 1 v' (n + 1) (ns.map Value.string ++ [.string nm])) (hat : v'.ownBlock = nv.ownBlock ∨ v'.ownBlock = some W.heap.size) :
  RdI w lo q B cap G s T k e a (ns ++ [nm]) ats xs v' av ev (w5.setCell ⟨G, 0, none⟩ v') := by
 subst hn
 have h1 := h.hi0
 have hz := hb.size
 have hlr := h.lor
 obtain ⟨a1, a2, a3, a4⟩ := h.step hb (row := nv) (fun j hj => (h.names.lt j hj).1) hg 0 v'
 have hGa : ∀ j, av.ownBlock = some j → j ≠ G := fun j hj => by have := (h.ats.lt j hj).1; omega
 have hGe : ∀ j, ev.ownBlock = some j → j ≠ G := fun j hj => by have := (h.exps.lt j hj).1; omega
 refine ⟨a1, ?_, ?_, kept_own h.ats hb hg h.na hGa 0 v', kept_own h.exps hb hg h.ne hGe 0 v', fun x hx => ?_, fresh_ne h.ats hb h.na hat, fresh_ne h.exps hb h.ne hat, h.ae, a2, h.lo0, h.hi0, h.qG, h.BG, by simpa [World.setCell] using a4⟩
 ·rw [set_block a3]
  rfl
 ·have : w5.ownsRow lo 9 1 v' (ns ++ [nm]).length ((ns ++ [nm]).map Value.string) := by
   rw [List.length_append, List.map_append]
   exact hown
  refine own_keep this fun j hj => Below.heap_setCell _ _ _ _ (show j ≠ G from ?_)
  have := (hown.lt j hj).1
  omega
 ·refine tree_step hb hg 0 v' (fun j hS hl => ⟨⟨hS.1, fun x => ?_, hS.2.2.1, hS.2.2.2⟩, hS.2.1, by have := hS.1; omega⟩) (h.trees x hx)
  rcases hat with e | e
  ·rw [e] at x; exact hS.2.1 x
  ·rw [e] at x; injection x with x; omega
theorem RdI.addAt {n : Nat} (hn : n = ats.length) (h : RdI w lo q B cap G s T k e a ns ats xs nv av ev wr) (hb : Below wr.heap.size wr W) (hg : W.grownBy w5 av.ownBlock) {i : Int} (hown : w5.ownsRow lo 3 1 v' (n + 1) (ats.map (Value.int .i64) ++ [.int .i64 i])) (hat : v'.ownBlock = av.ownBlock ∨ v'.ownBlock = some W.heap.size) :
  RdI w lo q B cap G s T k e a ns (ats ++ [i]) xs nv v' ev (w5.setCell ⟨G, 1, none⟩ v') := by
 subst hn
 have h1 := h.hi0
 have hz := hb.size
 have hlr := h.lor
 obtain ⟨a1, a2, a3, a4⟩ := h.step hb (row := av) (fun j hj => (h.ats.lt j hj).1) hg 1 v'
 have hGn : ∀ j, nv.ownBlock = some j → j ≠ G := fun j hj => by have := (h.names.lt j hj).1; omega
 have hGe : ∀ j, ev.ownBlock = some j → j ≠ G := fun j hj => by have := (h.exps.lt j hj).1; omega
 have hna : ∀ j, av.ownBlock = some j → nv.ownBlock ≠ some j := fun j hj x => h.na j x hj
 refine ⟨a1, ?_, kept_own h.names hb hg hna hGn 1 v', ?_, kept_own h.exps hb hg h.ae hGe 1 v', fun x hx => ?_, fun j hj x => fresh_ne h.names hb hna hat j x hj, h.ne, fresh_ne h.exps hb h.ae hat, a2, h.lo0, h.hi0, h.qG, h.BG, by simpa [World.setCell] using a4⟩
 ·rw [set_block a3]
  rfl
 ·have : w5.ownsRow lo 3 1 v' (ats ++ [i]).length ((ats ++ [i]).map (Value.int .i64)) := by
   rw [List.length_append, List.map_append]
   exact hown
  refine own_keep this fun j hj => Below.heap_setCell _ _ _ _ (show j ≠ G from ?_)
  have := (hown.lt j hj).1
  omega
 ·refine tree_step hb hg 1 v' (fun j hS hl => ⟨⟨hS.1, hS.2.1, fun x => ?_, hS.2.2.2⟩, hS.2.2.1, by have := hS.1; omega⟩) (h.trees x hx)
  rcases hat with e | e
  ·rw [e] at x; exact hS.2.2.1 x
  ·rw [e] at x; injection x with x; omega
theorem RdI.setK (h : RdI w lo q B cap G s T k e a ns ats xs nv av ev wr) (k' : Int) : RdI w lo q B cap G s T k' e a ns ats xs nv av ev (wr.setCell ⟨q, 1, none⟩ (.int .i64 k')) := by
 have h1 := h.hi0
 have hq : ∀ j, lo ≤ j → (wr.setCell ⟨q, 1, none⟩ (.int .i64 k')).heap[j]? = wr.heap[j]? := fun j hj => Below.heap_setCell _ _ _ _ (show j ≠ q by omega)
 refine ⟨h.rs.setK k', ?_, own_keep h.names fun j hj => hq j (h.names.lt j hj).1, own_keep h.ats fun j hj => hq j (h.ats.lt j hj).1, own_keep h.exps fun j hj => hq j (h.exps.lt j hj).1, fun x hx => Tree.turn (fun j hS _ => ⟨hS, hq j hS.1⟩) x (h.trees x hx), h.na, h.ne, h.ae, h.bel.setCell (show w.heap.size ≤ q from h.lo0.1) _, h.lo0, h.hi0, h.qG, h.BG, by simpa [World.setCell] using h.lor⟩
 rw [Below.heap_setCell _ _ _ _ (show G ≠ q from fun x => h.qG x.symm)]
 exact h.blk
theorem RdI.below (h : RdI w lo q B cap G s T k e a ns ats xs nv av ev wr) (hb : Below wr.heap.size wr W) : RdI w lo q B cap G s T k e a ns ats xs nv av ev W :=
 ⟨h.rs.below hb, (hb.block G (by have := h.hi0; have := h.lor; omega)).trans h.blk, own_below h.names hb, own_below h.ats hb, own_below h.exps hb, fun x hx => (h.trees x hx).below hb, h.na, h.ne, h.ae, h.bel.trans (hb.mono h.bel.size), h.lo0, h.hi0, h.qG, h.BG, Nat.le_trans h.lor hb.size⟩
/-- an expression was read, and laid in -/
theorem RdI.addExp {w2 : World} {r : Res} {b n : Nat} (hn : n = xs.length) (h : RdI w lo q B cap G s T k e a ns ats xs nv av ev wr) (ho : OkO wr q B cap s T 0 r b w2) (hb : Below w2.heap.size w2 W) (hg : W.grownBy w5 ev.ownBlock) (hown : w5.ownsRow lo 61 1 v' (n + 1) (xs.map ptrX ++ [.pointer (some ⟨b, 0, none⟩)])) (hat : v'.ownBlock = ev.ownBlock ∨ v'.ownBlock = some W.heap.size) :
  (r.err = 0 ∧ ∃ (x : Ex) (k' : Nat), OkX x ∧ x.norm = r.nd ∧ T[k']? = some r.tk ∧ RdI w lo q B cap G s T k' 0 0 ns ats (xs ++ [x]) nv av v' (w5.setCell ⟨G, 2, none⟩ v')) ∨
  (r.err ≠ 0 ∧ (∃ kk : Int, RS (w5.setCell ⟨G, 2, none⟩ v') q B cap s T kk 0 r.err r.tk.from_) ∧ Below w.heap.size w (w5.setCell ⟨G, 2, none⟩ v')) := by
 subst hn
 have h1 := h.hi0
 have hlr := h.lor
 have hz1 := ho.bt.size
 have hz := hb.size
 have hz5 := hg.size
 have hne : ∀ {v : Value} {ty : TypeId} {size n : Nat} {ys : List Value}, wr.ownsRow lo ty size v n ys → w2.ownsRow lo ty size v n ys := fun hv => own_keep hv fun j hj => ho.bt.block j (hv.lt j hj).2 (by have := (hv.lt j hj).1; omega)
 have hbel2 : Below w.heap.size w w2 := h.bel.trans (but_below ho.bt h.lo0.1 h.bel.size)
 have hbel : Below w.heap.size w (w5.setCell ⟨G, 2, none⟩ v') := ((hbel2.trans (hb.mono hbel2.size)).grown hg (by have := hbel2.size; omega) (fun j hj => by have := (h.exps.lt j hj).1; have := h.lo0; omega)).setCell (show w.heap.size ≤ G from h.lo0.2) _
 have hrs : ∀ {kk e' a' : Int}, RS w2 q B cap s T kk 0 e' a' → RS (w5.setCell ⟨G, 2, none⟩ v') q B cap s T kk 0 e' a' := fun hr => ((hr.below hb).grown hg (fun j hj => by have := (h.exps.lt j hj).1; omega)).set (show G ≠ q from fun x => h.qG x.symm) (show G ≠ B from fun x => h.BG x.symm) v'
 have hG2 : w2.heap[G]? = some (.cells #[nv, av, ev] 32) := (ho.bt.block G (by omega) (fun x => h.qG x.symm)).trans h.blk
 have hG5 : w5.heap[G]? = some (.cells #[nv, av, ev] 32) := by
  rw [hg.block G (by omega) (fun x => by have := (h.exps.lt G x.symm).1; omega), hb.block G (by omega)]
  exact hG2
 have hGn : ∀ j, nv.ownBlock = some j → j ≠ G := fun j hj => by have := (h.names.lt j hj).1; omega
 have hGa : ∀ j, av.ownBlock = some j → j ≠ G := fun j hj => by have := (h.ats.lt j hj).1; omega
 have hen : ∀ j, ev.ownBlock = some j → nv.ownBlock ≠ some j := fun j hj x => h.ne j x hj
 have hea : ∀ j, ev.ownBlock = some j → av.ownBlock ≠ some j := fun j hj x => h.ae j x hj
 rcases ho.out with ⟨he, x, hxb, hxt, hxo, hxn, k', hk', hr⟩ | ⟨he, kk, hr⟩
 ·refine .inl ⟨he, x, k', hxo, hxn, hk', hrs hr, ?_, kept_own (hne h.names) hb hg hen hGn 2 v', kept_own (hne h.ats) hb hg hea hGa 2 v', ?_, fun y hy => ?_, h.na, fun j hj z => fresh_ne (hne h.names) hb hen hat j z hj, fun j hj z => fresh_ne (hne h.ats) hb hea hat j z hj, hbel, h.lo0, h.hi0, h.qG, h.BG, ?_⟩
  ·rw [set_block hG5]
   rfl
  ·have : w5.ownsRow lo 61 1 v' (xs ++ [x]).length ((xs ++ [x]).map ptrX) := by
    rw [List.length_append, List.map_append]
    show w5.ownsRow lo 61 1 v' (xs.length + 1) (xs.map ptrX ++ [ptrX x])
    unfold ptrX at hown ⊢
    rw [hxb]
    exact hown
   refine own_keep this fun j hj => Below.heap_setCell _ _ _ _ (show j ≠ G from ?_)
   have := (hown.lt j hj).1
   omega
  ·have hfr : ∀ j, j < w2.heap.size → ev.ownBlock ≠ some j → v'.ownBlock ≠ some j := fun j hl hne z => by
    rcases hat with e | e
    ·rw [e] at z; exact hne z
    ·rw [e] at z; injection z with z; omega
   rw [List.mem_append, List.mem_singleton] at hy
   rcases hy with hy | rfl
   ·have ht2 : Tree w2 (fun j => j < w2.heap.size ∧ lo ≤ j ∧ nv.ownBlock ≠ some j ∧ av.ownBlock ≠ some j ∧ ev.ownBlock ≠ some j) y := Tree.turn (fun j hS hl => ⟨⟨by omega, hS⟩, ho.bt.block j hl (by have := hS.1; omega)⟩) y (h.trees y hy)
    exact tree_step hb hg 2 v' (fun j hS hl => ⟨⟨hS.2.1, hS.2.2.1, hS.2.2.2.1, hfr j hl hS.2.2.2.2⟩, hS.2.2.2.2, by have := hS.2.1; omega⟩) ht2
   ·refine tree_step hb hg 2 v' (fun j hS hl => ?_) hxt
    have hS' : wr.heap.size ≤ j := hS
    have hn1 : nv.ownBlock ≠ some j := fun z => by have := (h.names.lt j z).2; omega
    have hn2 : av.ownBlock ≠ some j := fun z => by have := (h.ats.lt j z).2; omega
    have hn3 : ev.ownBlock ≠ some j := fun z => by have := (h.exps.lt j z).2; omega
    exact ⟨⟨by omega, hn1, hn2, hfr j hl hn3⟩, hn3, by omega⟩
  ·have : lo ≤ w5.heap.size := by omega
   simpa [World.setCell] using this
 ·exact .inr ⟨he, ⟨kk, hrs hr⟩, hbel⟩
end
end Go.Proofs.YtbojcemamhiodaaGreatDoor
namespace Go.Proofs.YtbojcemamhiodaaGreatDoor
open Go.RowKit
/-- what Read tells -/
def readX (s : ByteArray) (gs : List RX) : Int × Int := if (parseF s).err ≠ 0 then ((parseF s).err, (parseF s).at_) else lawX gs
def OutRd (w : World) (s : ByteArray) (x : Ending) (w' : World) : Prop :=
 ∃ (gs : List RX) (p : Option Addr), x = .returned (.tuple #[.pointer p, .int .i64 (readX s gs).1, .int .i64 (readX s gs).2]) ∧ ((parseF s).err = 0 → rlX gs = (parseF s).rules ∧ ReadG gs) ∧ ((readX s gs).1 ≠ 0 → p = none) ∧
  ((readX s gs).1 = 0 → ∃ g nv av ev, p = some ⟨g, 0, none⟩ ∧ GR w' g nv av ev gs ∧ w.heap.size ≤ g) ∧ Below w.heap.size w w'
theorem OutRd.no {w : World} {s : ByteArray} {w' : World} {e a : Int} {rs : List Rl} (h : parseF s = ⟨e, rs, a⟩) (he : e ≠ 0) (hb : Below w.heap.size w w') : OutRd w s (.returned (.tuple #[.pointer none, .int .i64 e, .int .i64 a])) w' := by
 have hx : readX s [] = (e, a) := by
  unfold readX
  rw [h, if_pos he]
 refine ⟨[], none, by rw [hx], fun h0 => ?_, fun _ => rfl, fun h0 => ?_, hb⟩
 ·rw [h] at h0
  exact absurd h0 he
 ·rw [hx] at h0
  exact absurd h0 he
theorem OutRd.law {w wr : World} {s : ByteArray} {G : Nat} {gs : List RX} {nv av ev : Value} {x : Ending} {w' : World} (hp : parseF s = ⟨0, rlX gs, 0⟩) (hr : ReadG gs) (hg : GR wr G nv av ev gs) (hw : w.heap.size ≤ G) (hb : Below w.heap.size w wr) (h : OutL wr G gs x w') : OutRd w s x w' := by
 obtain ⟨p, rfl, h1, h2, h3⟩ := h
 have hx : readX s gs = lawX gs := by
  unfold readX
  rw [hp, if_neg (by simp)]
 refine ⟨gs, p, by rw [hx], fun _ => ⟨by rw [hp], hr⟩, by rw [hx]; exact h2, fun h0 => ?_, hb.trans (h3.mono hb.size)⟩
 rw [hx] at h0
 exact ⟨G, nv, av, ev, h1 h0, hg.below h3, hw⟩
/-- where the loop of Read stands -/
def RdL (w : World) (lo q B cap G : Nat) (s : ByteArray) (wr : World) : Prop :=
 (∃ (gs : List RX) (kf k' : Nat) (t' : Tk) (nv av ev : Value), RdI w lo q B cap G s (toksT s) k' 0 0 (gs.map RX.name) (gs.map RX.at_) (gs.map RX.ex) nv av ev wr ∧ (toksT s)[k']? = some t' ∧ parseF s = parseL s kf (rlX gs) t' ∧ (s.size : Int) < kf + t'.from_ ∧ (gs.length : Int) ≤ t'.from_ ∧ ∀ x ∈ gs, OkX x.ex ∧ 0 ≤ x.at_) ∨
 (∃ (e a kk : Int), e ≠ 0 ∧ parseF s = ⟨e, [], a⟩ ∧ RS wr q B cap s (toksT s) kk 0 e a ∧ Below w.heap.size w wr)
theorem RdL.next {w w' : World} {lo q B cap G : Nat} {s : ByteArray} {gs : List RX} {kf : Nat} {t' : Tk} {r : Res} {nv av v' : Value} (hokt : TkOk s t') (hk1 : t'.k ≠ 1) (hRu : ruleF s t' = ruleEnd s t' r) (hp : parseF s = parseL s (kf + 1) (rlX gs) t') (hfu : (s.size : Int) < (kf + 1 : Nat) + t'.from_) (hgl : (gs.length : Int) ≤ t'.from_) (hok : ∀ x ∈ gs, OkX x.ex ∧ 0 ≤ x.at_)
  (h : (r.err = 0 ∧ ∃ (x : Ex) (k' : Nat), OkX x ∧ x.norm = r.nd ∧ (toksT s)[k']? = some r.tk ∧ RdI w lo q B cap G s (toksT s) k' 0 0 (gs.map RX.name ++ [t'.of s]) (gs.map RX.at_ ++ [t'.from_]) (gs.map RX.ex ++ [x]) nv av v' w') ∨ (r.err ≠ 0 ∧ (∃ kk : Int, RS w' q B cap s (toksT s) kk 0 r.err r.tk.from_) ∧ Below w.heap.size w w')) :
  RdL w lo q B cap G s w' ∧ mR q B s w' < 1 + (s.size - t'.from_).toNat := by
 have hf := ruleF_fine hokt
 rw [hRu] at hf
 have hle := hokt.le
 have hsz := hokt.size
 rcases h with ⟨he, x, k', hxo, hxn, hk', hI⟩ | ⟨he, ⟨kk, hr⟩, hb⟩
 ·have hE : ruleEnd s t' r = ⟨0, ⟨t'.of s, t'.from_, r.nd, false, 0⟩, r.tk, r.d⟩ := by unfold ruleEnd; rw [if_neg (by omega)]
  rw [hE] at hf hRu
  obtain ⟨h1, h2⟩ := hf
  have h3 := (h2 rfl).1
  have h4 := h1.le
  have h5 := h1.size
  dsimp only at h1 h3 h4 h5
  refine ⟨.inl ⟨gs ++ [⟨t'.of s, t'.from_, x⟩], kf, k', r.tk, nv, av, v', ?_, hk', ?_, by omega, by simp; omega, fun y hy => ?_⟩, ?_⟩
  ·rw [List.map_append, List.map_append, List.map_append]
   exact hI
  ·rw [hp, parseL_ok hk1 hRu rfl]
   unfold rlX
   rw [List.map_append]
   show parseL s kf (gs.map RX.rl ++ [⟨t'.of s, t'.from_, r.nd, false, 0⟩]) r.tk = parseL s kf (gs.map RX.rl ++ [RX.rl ⟨t'.of s, t'.from_, x⟩]) r.tk
   rw [← hxn]
   rfl
  ·rw [List.mem_append, List.mem_singleton] at hy
   rcases hy with hy | rfl
   ·exact hok y hy
   ·exact ⟨hxo, hokt.from0⟩
  ·rw [hI.rs.mR_ok hk']
   omega
 ·have hE : ruleEnd s t' r = ⟨r.err, Rl.zero, r.tk, r.d⟩ := by unfold ruleEnd; rw [if_pos he]
  rw [hE] at hRu
  refine ⟨.inr ⟨r.err, r.tk.from_, kk, he, ?_, hr, hb⟩, ?_⟩
  ·rw [hp, parseL_err hk1 hRu he]
  ·rw [hr.mR_err he]
   omega
theorem RdI.gr {w wr : World} {lo q B cap G : Nat} {s : ByteArray} {T : List Tk} {k e a : Int} {gs : List RX} {nv av ev : Value} (h : RdI w lo q B cap G s T k e a (gs.map RX.name) (gs.map RX.at_) (gs.map RX.ex) nv av ev wr) : GR wr G nv av ev gs := by
 have h1 := (RowIn.of_owns h.names).any
 have h2 := (RowIn.of_owns h.ats).any
 have h3 := (RowIn.of_owns h.exps).any
 rw [List.length_map, List.map_map] at h1 h2 h3
 exact ⟨h.blk, h1, h2, h3, fun x hx => (h.trees x.ex (List.mem_map_of_mem hx)).any⟩
theorem read_size {s : ByteArray} (hs : s.size ≤ 400) {gs : List RX} (hp : (parseF s).rules = rlX gs) (ho : ∀ x ∈ gs, OkX x.ex ∧ 0 ≤ x.at_) : ReadG gs := by
 refine ⟨fun x hx => (ho x hx).1, fun x hx => ?_, fun x hx => (ho x hx).2⟩
 have h1 := (parseF_ok s x.rl (by rw [hp]; exact List.mem_map_of_mem hx)).size
 have h2 := szX_c x.ex (ho x hx).1
 have h3 := cN_le x.ex.norm
 have h4 : szN x.ex.norm ≤ 2 * s.size + 1 := h1
 omega
theorem RS.s6 {w : World} {q B cap : Nat} {s : ByteArray} {T : List Tk} {d e a : Int} {k : Nat} {t : Tk} (h : RS w q B cap s T k d e a) (ht : T[k]? = some t) (h2 : t.k = 2) : w.cell? ⟨q, 0, none⟩ = some (.slice (some ⟨B, 0, none⟩) T.length cap) ∧ w.cell? ⟨q, 1, none⟩ = some (.int .i64 k) ∧ w.cell? ⟨B, k * 259 + 1, none⟩ = some (.string (t.of s)) := by
 obtain ⟨c0, c1, c2, c3, c4, cf, hlt⟩ := five h.rd
 obtain ⟨str, f, htr, d0, d1, d2, df, hk, hm, hB⟩ := h.cells k t ht
 rw [← htr.name h2]
 exact ⟨c0, c1, d1⟩
theorem RS.s7 {w : World} {q B cap : Nat} {s : ByteArray} {T : List Tk} {d e a : Int} {k : Nat} {t : Tk} (h : RS w q B cap s T k d e a) (ht : T[k]? = some t) : w.cell? ⟨q, 0, none⟩ = some (.slice (some ⟨B, 0, none⟩) T.length cap) ∧ w.cell? ⟨q, 1, none⟩ = some (.int .i64 k) ∧ w.cell? ⟨B, k * 259 + 258, none⟩ = some (.int .i64 t.from_) := by
 obtain ⟨c0, c1, c2, c3, c4, cf, hlt⟩ := five h.rd
 obtain ⟨str, f, htr, d0, d1, d2, df, hk, hm, hB⟩ := h.cells k t ht
 exact ⟨c0, c1, d2⟩
theorem threeG {w : World} {N : Nat} {a b c : Value} {t : TypeId} (h : w.heap[N]? = some (.cells #[a, b, c] t)) :
  w.cell? ⟨N, 0, none⟩ = some a ∧ w.cell? ⟨N, 1, none⟩ = some b ∧ w.cell? ⟨N, 2, none⟩ = some c ∧ (∀ o, w.frozen? ⟨N, o, none⟩ = false) ∧ N < w.heap.size := by
 refine ⟨?_, ?_, ?_, fun o => ?_, (Array.getElem?_eq_some_iff.1 h).1⟩
 all_goals simp [World.cell?, World.frozen?, h]
theorem at_or {v : Value} {g n m H X : Nat} (h : v.ownBlock = some g ∨ g = H) (hH : H = X) : (Value.slice (some ⟨g, 0, none⟩) n m).ownBlock = v.ownBlock ∨ (Value.slice (some ⟨g, 0, none⟩) n m).ownBlock = some X := h.imp (fun e => e.symm) (fun e => by rw [e, hH]; rfl)
theorem str_new {w : World} {b : ByteArray} : ∀ j u, [Value.string b][j]? = some u → (w.alloc (.cells #[.string b] 9)).cell? ((⟨w.heap.size, 0, none⟩ : Addr).add j) = some u := World.news_of_block (heap_alloc_new w (.cells #[.string b] 9))
theorem int_new {w : World} {b : Int} : ∀ j u, [Value.int .i64 b][j]? = some u → (w.alloc (.cells #[.int .i64 b] 3)).cell? ((⟨w.heap.size, 0, none⟩ : Addr).add j) = some u := World.news_of_block (heap_alloc_new w (.cells #[.int .i64 b] 3))
set_option linter.unusedSimpArgs false in
set_option maxRecDepth 10000 in
set_option maxHeartbeats 16000000 in
theorem Read_any (w : World) (s : ByteArray) : Calls Tryz.prog 26 #[.string s] w (OutRd w s) := by
 by_cases hs : 400 < s.size
 ·have hsI : (400 : Int) < s.size := by omega
  have HP : Hid (parseF s = ⟨1, [], 0⟩) := by unfold parseF Hid; rw [if_pos hs]
  go_enter Tryz.func26, Tryz.ntmps26
  go_wp2
  go_ret3
  exact OutRd.no (unhide HP) (by omega) (Below.refl _ _)
 have hsI : ¬ (400 : Int) < s.size := by omega
 have hs4 : s.size ≤ 400 := by omega
 have hTk := tokens_any w s hs4
 have hT := toks_chain s hs4
 have hfew := hT.few
 have HT := hide hT
 have HTk := hide hTk
 clear hTk hT hs
 go_enter Tryz.func26, Tryz.ntmps26
 go_wp2_with fail
 go_at_call 35
 refine (unhide HTk).mono ?_
 rintro x w1 ⟨B, cap, rfl, hB, htl, hb1⟩
 have hz1 := hb1.size
 have hBl := htl.lt
 have HI0 : Hid (RdL w (w1.heap.size + 2) w1.heap.size B cap (w1.heap.size + 1) s ((w1.alloc (.cells #[.slice (some ⟨B, 0, none⟩) (toksT s).length cap, .int .i64 0, .int .i64 0, .int .i64 0, .int .i64 0] 79)).alloc (.cells #[.slice none 0 0, .slice none 0 0, .slice none 0 0] 32))) := by
  refine .inl ⟨[], s.size + 2, 0, nextT s 0, .slice none 0 0, .slice none 0 0, .slice none 0 0, ?_, toks_first s, ?_, ?_, ?_, by simp⟩
  ·have hb2 : Below w1.heap.size w1 ((w1.alloc (.cells #[.slice (some ⟨B, 0, none⟩) (toksT s).length cap, .int .i64 0, .int .i64 0, .int .i64 0, .int .i64 0] 79)).alloc (.cells #[.slice none 0 0, .slice none 0 0, .slice none 0 0] 32)) := ((Below.refl _ _).alloc (Nat.le_refl _) _).alloc (by simp) _
   refine ⟨⟨?_, htl.keep (hb2.block B hBl), by omega⟩, ?_, World.ownsRow_nil _ _ _ _, World.ownsRow_nil _ _ _ _, World.ownsRow_nil _ _ _ _, by simp, by simp [Value.ownBlock], by simp [Value.ownBlock], by simp [Value.ownBlock], hb1.trans (hb2.mono hz1), ⟨hz1, by omega⟩, ⟨by omega, by omega, by omega⟩, by omega, by omega, by simp⟩
   ·exact heap_old (heap_alloc_new w1 _)
   ·have h := heap_alloc_new (w1.alloc (.cells #[.slice (some ⟨B, 0, none⟩) (toksT s).length cap, .int .i64 0, .int .i64 0, .int .i64 0, .int .i64 0] 79)) (.cells #[.slice none 0 0, .slice none 0 0, .slice none 0 0] 32)
    rw [show (w1.alloc (.cells #[.slice (some ⟨B, 0, none⟩) (toksT s).length cap, .int .i64 0, .int .i64 0, .int .i64 0, .int .i64 0] 79)).heap.size = w1.heap.size + 1 from by simp] at h
    exact h
  ·unfold parseF
   rw [if_neg (by omega)]
   rfl
  ·have := (nextT_ok s 0 (by omega) (by omega)).1.from0
   omega
  ·have := (nextT_ok s 0 (by omega) (by omega)).1.from0
   simp
   omega
 have hqB : w1.heap.size ≠ B := by omega
 clear htl hb1 hz1 hBl hB HTk
 go_wp2_with fail
 generalize w1.heap.size + 1 = G at HI0 ⊢
 generalize w1.heap.size + 2 = lo at HI0
 generalize hW0 : ((w1.alloc (.cells #[.slice (some ⟨B, 0, none⟩) (toksT s).length cap, .int .i64 0, .int .i64 0, .int .i64 0, .int .i64 0] 79)).alloc (.cells #[.slice none 0 0, .slice none 0 0, .slice none 0 0] 32)) = w0 at HI0 ⊢
 clear hW0
 generalize w1.heap.size = q at HI0 hqB ⊢
 go_loopw [] (fun wr => Hid (RdL w lo q B cap G s wr)) (fun wr => mR q B s wr)
 case atStart => exact HI0
 case round =>
  clear HI0
  rcases unhide hrel with ⟨gs, kf, k', t', nv, av, ev, hI, ht', hp, hfu, hgl, hok⟩ | ⟨e, a, kk, he, hp, hrs, hb⟩
  ·obtain ⟨hokt, h17, hnx⟩ := (unhide HT).ok k' t' ht'
   have hle := hokt.le
   have hsz := hokt.size
   have hf0 := hokt.from0
   obtain ⟨kf, rfl⟩ : ∃ m, kf = m + 1 := ⟨kf - 1, by omega⟩
   have HBg := hide (begins_ok (unhide HT) hI.rs ht')
   have HI1 := hide hI
   have HM := hide (hI.rs.mR_ok ht')
   cases hnb : nmBefore s t' 3
   ·rw [hnb] at HBg
    have HIs := hide (fun (o : Int) (ho : 0 ≤ o ∧ o ≤ 17) (w' : World) (hb : Below wr.heap.size wr w') => (show Calls Tryz.prog 38 #[.pointer (some ⟨q, 0, none⟩), .string (whatK o)] w' (fun e w2 => e = .returned (.bool (t'.k == o)) ∧ Below wr.heap.size wr w2) from (is_ok (w := w') (whatK o) (hI.rs.below hb) ht').mono (by
     rintro e w2 ⟨rfl, m, rfl⟩
     exact ⟨by rw [whatK_eq h17 ho], below_drewN' hb m⟩)))
    have H1 := hide (unhide HIs 1 (by omega))
    have H2 := hide (unhide HIs 2 (by omega))
    clear HIs
    by_cases hk1 : t'.k = 1
    ·have hpe : parseF s = ⟨0, rlX gs, 0⟩ := hp.trans (parseL_end hk1)
     have hrg : ReadG gs := read_size hs4 (by rw [hpe]) hok
     have HLw := hide (fun W (hb : Below wr.heap.size wr W) => lawful_any W G nv av ev gs (hI.gr.below hb) hrg)
     have HFin := hide (fun W (hb : Below wr.heap.size wr W) x w' (h : OutL W G gs x w') => OutRd.law hpe hrg (hI.gr.below hb) hI.lo0.2 (hI.bel.trans (hb.mono hI.bel.size)) h)
     rw [show (t'.k == 1) = true by simpa using hk1] at H1
     clear hI hp hfu hgl hok hk1 hpe hrg hnb hrel hnx H2 HI1
     go_wp2_with fail
     go_at_call 36
     refine (unhide HBg).mono ?_
     rintro x w3 ⟨rfl, m, hw3⟩
     have hb3 : Below wr.heap.size wr w3 := by rw [hw3]; exact below_drewN' (Below.refl _ _) m
     clear hw3
     go_wp2_with fail
     go_at_call 38
     refine (unhide H1 _ hb3).mono ?_
     rintro x w4 ⟨rfl, hb4⟩
     go_wp2_with fail
     go_at_call 40
     refine (unhide HLw _ hb4).mono ?_
     intro x w5 hol
     have HF5 := hide (unhide HFin _ hb4 _ _ hol)
     obtain ⟨p, rfl, _⟩ := hol
     go_wp2
     go_ret3
     exact unhide HF5
    ·rw [show (t'.k == 1) = false by simpa using hk1] at H1
     by_cases hk2 : t'.k = 2
     ·have hk3 : (nextT s t'.to).k ≠ 3 := by
       intro e
       unfold nmBefore at hnb
       simp [hk2, e] at hnb
      have hnx1 := hnx (by omega)
      have hlk := (List.getElem?_eq_some_iff.1 hnx1).1
      have HPe : Hid (parseF s = ⟨2, [], (nextT s t'.to).from_⟩) := by
       have hr : ruleF s t' = ⟨2, Rl.zero, nextT s t'.to, 0⟩ := by unfold ruleF; rw [if_neg (by omega), if_pos hk3]
       exact hp.trans (parseL_err hk1 hr (by simp))
      rw [show (t'.k == 2) = true by simpa using hk2] at H2
      have HRs := hide hI.rs
      have HBl := hide hI.bel
      have HLo := hide hI.lo0
      have hkw : IntKind.i64.wrap ((k' : Int) + 1) = (k' : Int) + 1 := by rw [IntKind.wrap_i64]; omega
      clear hI hp hfu hgl hok hk1 hk2 hk3 hnb hrel hnx HI1
      go_wp2_with fail
      go_at_call 36
      refine (unhide HBg).mono ?_
      rintro x w3 ⟨rfl, m, hw3⟩
      have hb3 : Below wr.heap.size wr w3 := by rw [hw3]; exact below_drewN' (Below.refl _ _) m
      clear hw3
      go_wp2_with fail
      go_at_call 38
      refine (unhide H1 _ hb3).mono ?_
      rintro x w4 ⟨rfl, hb4⟩
      go_wp2_with fail
      go_at_call 38
      refine (unhide H2 _ hb4).mono ?_
      rintro x w5 ⟨rfl, hb5⟩
      have hr5 := (unhide HRs).below hb5
      have hbl5 := (unhide HBl).trans (hb5.mono (unhide HBl).size)
      obtain ⟨c0, c1, c2, c3, c4, cf, hqlt⟩ := five hr5.rd
      have hr6 := hr5.setK ((k' : Int) + 1)
      rw [show (k' : Int) + 1 = ((k' + 1 : Nat) : Int) by omega] at hr6
      have HWr := hide (wrong_ok 2 hr6 hnx1)
      rw [show ((k' + 1 : Nat) : Int) = (k' : Int) + 1 by omega] at HWr
      have HB6 := hide (hbl5.setCell (p := ⟨q, 1, none⟩) (show w.heap.size ≤ q from (unhide HLo).1) (.int .i64 ((k' : Int) + 1)))
      clear hr5 hr6 hbl5
      go_wp2_with fail
      go_at_call 39
      refine (unhide HWr).mono ?_
      rintro x w6 ⟨rfl, hrs6, hb6⟩
      have HRw := hide hrs6
      have HBw := hide ((unhide HB6).trans (but_below hb6 (unhide HLo).1 (unhide HB6).size))
      clear hrs6 hb6 c0 c1 c2 c3 c4 cf hqlt
      obtain ⟨c0, c1, c2, c3, c4, cf, hqlt⟩ := five (unhide HRw).rd
      go_wp2_with fail
      go_region
      go_wp2
      go_ret3
      exact OutRd.no (unhide HPe) (by omega) (unhide HBw).drew
     ·have HPe : Hid (parseF s = ⟨2, [], t'.from_⟩) := by
       have hr : ruleF s t' = ⟨2, Rl.zero, t', 0⟩ := by unfold ruleF; rw [if_pos hk2]
       exact hp.trans (parseL_err hk1 hr (by simp))
      rw [show (t'.k == 2) = false by simpa using hk2] at H2
      have HRs := hide hI.rs
      have HBl := hide hI.bel
      have HLo := hide hI.lo0
      clear hI hp hfu hgl hok hk1 hk2 hnb hrel hnx HI1
      go_wp2_with fail
      go_at_call 36
      refine (unhide HBg).mono ?_
      rintro x w3 ⟨rfl, m, hw3⟩
      have hb3 : Below wr.heap.size wr w3 := by rw [hw3]; exact below_drewN' (Below.refl _ _) m
      clear hw3
      go_wp2_with fail
      go_at_call 38
      refine (unhide H1 _ hb3).mono ?_
      rintro x w4 ⟨rfl, hb4⟩
      go_wp2_with fail
      go_at_call 38
      refine (unhide H2 _ hb4).mono ?_
      rintro x w5 ⟨rfl, hb5⟩
      have HWr := hide (wrong_ok 2 ((unhide HRs).below hb5) ht')
      have HB6 := hide ((unhide HBl).trans (hb5.mono (unhide HBl).size))
      go_wp2_with fail
      go_at_call 39
      refine (unhide HWr).mono ?_
      rintro x w6 ⟨rfl, hrs6, hb6⟩
      have HRw := hide hrs6
      have HBw := hide ((unhide HB6).trans (but_below hb6 (unhide HLo).1 (unhide HB6).size))
      clear hrs6 hb6
      obtain ⟨c0, c1, c2, c3, c4, cf, hqlt⟩ := five (unhide HRw).rd
      go_wp2_with fail
      go_region
      go_wp2
      go_ret3
      exact OutRd.no (unhide HPe) (by omega) (unhide HBw).drew
   ·rw [hnb] at HBg
    have hk2 : t'.k = 2 := by
     unfold nmBefore at hnb
     rw [Bool.and_eq_true] at hnb
     simpa using hnb.1
    have hk3 : (nextT s t'.to).k = 3 := by
     unfold nmBefore at hnb
     rw [Bool.and_eq_true] at hnb
     simpa using hnb.2
    have hnx1 := hnx (by omega)
    obtain ⟨hok1, h171, hnx2⟩ := (unhide HT).ok (k' + 1) _ hnx1
    have hnx3 := hnx2 (by omega)
    have hlk := (List.getElem?_eq_some_iff.1 hnx3).1
    have HK2 := hide hk2
    obtain ⟨na, nc, hnv⟩ := own_shape hI.names
    obtain ⟨aa, ac, hav⟩ := own_shape hI.ats
    obtain ⟨ea, ec, hev⟩ := own_shape hI.exps
    rw [List.length_map] at hnv hav hev
    subst hnv
    subst hav
    subst hev
    have hgl4 : gs.length ≤ 400 := by omega
    have hk0 : (0 : Int) ≤ (k' : Int) := by omega
    have hkl : (k' : Int) < (toksT s).length := by omega
    have hkm : ((toksT s).length : Int) ≤ maxLen := by unfold maxLen; omega
    have HOk := hide hok
    have HPs := hide hp
    have HFu := hide hfu
    have HGl := hide hgl
    have HNx3 := hide hnx3
    have HRu := hide (show ruleF s t' = ruleEnd s t' (exprN s 13 (nextT s (nextT s t'.to).to) 0) by unfold ruleF; rw [if_neg (by omega), if_neg (by omega)])
    clear hI hnx hnx2 hp hfu hgl hok hk2 hk3 hnb hrel h17 h171
    go_wp2_with fail
    go_at_call 36
    refine (unhide HBg).mono ?_
    rintro x w3 ⟨rfl, m, hw3⟩
    have HI : Hid (RdI w lo q B cap G s (toksT s) k' 0 0 (gs.map RX.name) (gs.map RX.at_) (gs.map RX.ex) (.slice na gs.length nc) (.slice aa gs.length ac) (.slice ea gs.length ec) w3) := by
     rw [hw3]
     exact (unhide HI1).below (below_drewN' (Below.refl _ _) m)
    clear hw3 HBg
    go_upto_region 6 with fail
    go_cut [] (fun wc => ∃ v', Hid (RdI w lo q B cap G s (toksT s) k' 0 0 (gs.map RX.name ++ [t'.of s]) (gs.map RX.at_) (gs.map RX.ex) v' (.slice aa gs.length ac) (.slice ea gs.length ec) wc))
    case first =>
     obtain ⟨ti, hi, hzi, hs1, hby⟩ := info_parts infoStr
     obtain ⟨g0, g1, g2, gf, gl⟩ := threeG (unhide HI).blk
     have hlo3 := (unhide HI).lor
     have hnm := (unhide HI).names
     rw [List.length_map] at hnm
     have HNm := hide hnm
     clear hnm
     refine wp_region_held_drew (S := fun w' => w'.cell? ⟨q, 0, none⟩ = some (.slice (some ⟨B, 0, none⟩) (toksT s).length cap) ∧ w'.cell? ⟨q, 1, none⟩ = some (.int .i64 k') ∧ w'.cell? ⟨B, k' * 259 + 1, none⟩ = some (.string (t'.of s))) (by kernel_rfl) ((unhide HI).rs.s6 ht' (unhide HK2)) (fun hHeld => ?_)
     refine take_dst (i := 0) 18 (v := ?_) rfl rfl (by kernel_rfl) (by kernel_rfl) (by kernel_rfl) (fun _ _ _ h => h) (Or.inl ⟨by kernel_rfl, ?_⟩) (by assumption) ?_
     rotate_left
     ·intro w hSw
      obtain ⟨s0, s1, s2⟩ := hSw
      go_simp
      try with_reducible rfl
     try simp only [Act.put, zA, zB, zC]
     refine take_dst (i := 1) 19 (v := ?_) rfl rfl (by kernel_rfl) (by kernel_rfl) (by kernel_rfl) (fun _ _ _ h => h) (Or.inl ⟨by kernel_rfl, ?_⟩) (by assumption) ?_
     rotate_left
     ·intro w hSw
      obtain ⟨s0, s1, s2⟩ := hSw
      go_simp
      try with_reducible rfl
     try simp only [Act.put, zA, zB, zC]
     refine take_dst (i := 2) 20 (v := ?_) rfl rfl (by kernel_rfl) (by kernel_rfl) (by kernel_rfl) (fun _ _ _ h => h) (Or.inl ⟨by kernel_rfl, ?_⟩) (by assumption) ?_
     rotate_left
     ·intro w hSw
      obtain ⟨s0, s1, s2⟩ := hSw
      go_simp
      try with_reducible rfl
     try simp only [Act.put, zA, zB, zC]
     refine take_dst (i := 3) 21 (v := ?_) rfl rfl (by kernel_rfl) (by kernel_rfl) (by kernel_rfl) (fun _ _ _ h => h) (Or.inl ⟨by kernel_rfl, ?_⟩) (by assumption) ?_
     rotate_left
     ·intro w hSw
      obtain ⟨s0, s1, s2⟩ := hSw
      go_simp
      try with_reducible rfl
     try simp only [Act.put, zA, zB, zC]
     refine take_dst (i := 5) 23 (v := ?_) rfl rfl (by kernel_rfl) (by kernel_rfl) (by kernel_rfl) (fun _ _ _ h => h) (Or.inl ⟨by kernel_rfl, ?_⟩) (by assumption) ?_
     rotate_left
     ·intro w hSw
      obtain ⟨s0, s1, s2⟩ := hSw
      go_simp
      try with_reducible rfl
     try simp only [Act.put, zA, zB, zC]
     refine take_dst (i := 6) 24 (v := ?_) rfl rfl (by kernel_rfl) (by kernel_rfl) (by kernel_rfl) (fun _ _ _ h => h) (Or.inl ⟨by kernel_rfl, ?_⟩) (by assumption) ?_
     rotate_left
     ·intro w hSw
      obtain ⟨s0, s1, s2⟩ := hSw
      go_simp
      try with_reducible rfl
     try simp only [Act.put, zA, zB, zC]
     refine take_dst (i := 7) 25 (v := ?_) rfl rfl (by kernel_rfl) (by kernel_rfl) (by kernel_rfl) (fun _ _ _ h => h) (Or.inl ⟨by kernel_rfl, ?_⟩) (by assumption) ?_
     rotate_left
     ·intro w hSw
      obtain ⟨s0, s1, s2⟩ := hSw
      go_simp
      try with_reducible rfl
     try simp only [Act.put, zA, zB, zC]
     refine take_dst (i := 8) 26 (v := ?_) rfl rfl (by kernel_rfl) (by kernel_rfl) (by kernel_rfl) (fun _ _ _ h => h) (Or.inl ⟨by kernel_rfl, ?_⟩) (by assumption) ?_
     rotate_left
     ·intro w hSw
      obtain ⟨s0, s1, s2⟩ := hSw
      go_simp
      try with_reducible rfl
     try simp only [Act.put, zA, zB, zC]
     refine take_dst (i := 9) 27 (v := ?_) rfl rfl (by kernel_rfl) (by kernel_rfl) (by kernel_rfl) (fun _ _ _ h => h) (Or.inl ⟨by kernel_rfl, ?_⟩) (by assumption) ?_
     rotate_left
     ·intro w hSw
      obtain ⟨s0, s1, s2⟩ := hSw
      go_simp
      try with_reducible rfl
     try simp only [Act.put, zA, zB, zC]
     refine take_dst (i := 10) 28 (v := ?_) rfl rfl (by kernel_rfl) (by kernel_rfl) (by kernel_rfl) (fun _ _ _ h => h) (Or.inl ⟨by kernel_rfl, ?_⟩) (by assumption) ?_
     rotate_left
     ·intro w hSw
      obtain ⟨s0, s1, s2⟩ := hSw
      go_simp
      try with_reducible rfl
     try simp only [Act.put, zA, zB, zC]
     refine take_dst (i := 11) 29 (v := ?_) rfl rfl (by kernel_rfl) (by kernel_rfl) (by kernel_rfl) (fun _ _ _ h => h) (Or.inl ⟨by kernel_rfl, ?_⟩) (by assumption) ?_
     rotate_left
     ·intro w hSw
      obtain ⟨s0, s1, s2⟩ := hSw
      go_simp
      try with_reducible rfl
     try simp only [Act.put, zA, zB, zC]
     refine take_dst (i := 12) 30 (v := ?_) rfl rfl (by kernel_rfl) (by kernel_rfl) (by kernel_rfl) (fun _ _ _ h => h) (Or.inl ⟨by kernel_rfl, ?_⟩) (by assumption) ?_
     rotate_left
     ·intro w hSw
      obtain ⟨s0, s1, s2⟩ := hSw
      go_simp
      try with_reducible rfl
     try simp only [Act.put, zA, zB, zC]
     refine take_dst (i := 13) 31 (v := ?_) rfl rfl (by kernel_rfl) (by kernel_rfl) (by kernel_rfl) (fun _ _ _ h => h) (Or.inl ⟨by kernel_rfl, ?_⟩) (by assumption) ?_
     rotate_left
     ·intro w hSw
      obtain ⟨s0, s1, s2⟩ := hSw
      go_simp
      try with_reducible rfl
     try simp only [Act.put, zA, zB, zC]
     refine take_dst (i := 14) 32 (v := ?_) rfl rfl (by kernel_rfl) (by kernel_rfl) (by kernel_rfl) (fun _ _ _ h => h) (Or.inl ⟨by kernel_rfl, ?_⟩) (by assumption) ?_
     rotate_left
     ·intro w hSw
      obtain ⟨s0, s1, s2⟩ := hSw
      go_simp
      try with_reducible rfl
     try simp only [Act.put, zA, zB, zC]
     refine take_dst (i := 15) 33 (v := ?_) rfl rfl (by kernel_rfl) (by kernel_rfl) (by kernel_rfl) (fun _ _ _ h => h) (Or.inl ⟨by kernel_rfl, ?_⟩) (by assumption) ?_
     rotate_left
     ·intro w hSw
      obtain ⟨s0, s1, s2⟩ := hSw
      go_simp
      try with_reducible rfl
     try simp only [Act.put, zA, zB, zC]
     refine wpAnyH_ready (rs := [4, 16]) (by kernel_rfl) (by simp) ?_
     refine AllReadyH.cons rfl (fun K hK => ?_) (AllReadyH.cons rfl (fun K hK => ?_) AllReadyH.nil)
     ·go_simp
      refine hK.out _ _ (((unhide HI).rs.below (Below.refl _ _).drew).s6 ht' (unhide HK2)) (fun hHeld2 => ?_)
      clear hK K hHeld
      try simp only [Act.put, zA, zB, zC]
      refine wpAnyH_ready (rs := [16]) (by kernel_rfl) (by simp) ?_
      refine AllReadyH.cons rfl (fun K hK => ?_) AllReadyH.nil
      go_simp
      refine hK.out _ _ ((((unhide HI).rs.below (Below.refl _ _).drew).alloc (.cells #[.string (t'.of s)] 9)).s6 ht' (unhide HK2)) (fun hHeld3 => ?_)
      clear hK K hHeld2
      try simp only [Act.put, zA, zB, zC]
      refine wpAnyH_ready (rs := [17]) (by kernel_rfl) (by simp) ?_
      refine AllReadyH.cons rfl (fun K hK => ?_) AllReadyH.nil
      refine step_append_lies ((w3.drew).alloc (.cells #[.string (t'.of s)] 9)) (by rfl) (.tmp 22) (.tmp 34) 27 (by rfl) lo 9 ti _ 1 16 Tryz.underlying27 hi hzi hs1 hby rfl (by omega) (.slice na gs.length nc) gs.length _ (by rfl) (own_below (unhide HNm) ((Below.refl _ _).drew.alloc (Nat.le_refl _) _)) ⟨w3.heap.size, 0, none⟩ 1 1 [.string (t'.of s)] (by rfl) rfl str_new (by simp; rfl) (by omega) (by unfold maxLen; omega) (by omega) (by simp; omega) (w3.heap.size + 1) (by simp) ?_
      intro g5 cap5 w5 hown5 hgr5 hat5 hlt5
      have HAd := hide (RdI.addName (n := gs.length) (by simp) (unhide HI) (W := (w3.drew).alloc (.cells #[.string (t'.of s)] 9)) (((Below.refl _ _).drew).alloc (Nat.le_refl _) _) hgr5 hown5 (at_or hat5 (by simp)))
      have hR5 := (((unhide HI).rs.below (Below.refl _ _).drew).alloc (.cells #[.string (t'.of s)] 9)).grown hgr5 (fun j hj => by have h1 := ((unhide HNm).lt j hj).1; have h2 := (unhide HI).hi0; omega)
      have hG5 := (grown_keep hgr5 (below_keep (((Below.refl w3.heap.size w3).drew).alloc (Nat.le_refl _) (.cells #[.string (t'.of s)] 9)) (unhide HI).blk (Nat.le_refl _)) (fun j hj => by have h1 := ((unhide HNm).lt j hj).1; have h2 := (unhide HI).hi0; omega))
      obtain ⟨q0, q1, q2, qf, ql⟩ := threeG hG5
      refine hK.out _ _ (hR5.s6 ht' (unhide HK2)) (fun hHeld4 => ?_)
      clear hK K hown5 hgr5 hat5
      try simp only [Act.put, zA, zB, zC]
      refine take_dst (i := 18) 36 (v := ?_) rfl rfl (by kernel_rfl) (by kernel_rfl) (by kernel_rfl) (fun _ _ _ h => h) (Or.inl ⟨by kernel_rfl, ?_⟩) (by assumption) ?_
      rotate_left
      ·intro w hSw
       obtain ⟨s0, s1, s2⟩ := hSw
       go_simp
       try with_reducible rfl
      try simp only [Act.put, zA, zB, zC]
      refine take_dst (i := 19) 37 (v := ?_) rfl rfl (by kernel_rfl) (by kernel_rfl) (by kernel_rfl) (fun _ _ _ h => h) (Or.inl ⟨by kernel_rfl, ?_⟩) (by assumption) ?_
      rotate_left
      ·intro w hSw
       obtain ⟨s0, s1, s2⟩ := hSw
       go_simp
       try with_reducible rfl
      try simp only [Act.put, zA, zB, zC]
      refine wpAnyH_ready (rs := [20]) (by kernel_rfl) (by simp) ?_
      refine AllReadyH.cons rfl (fun K hK => ?_) AllReadyH.nil
      go_simp
      refine hK.out _ _ ((unhide HAd).rs.s6 ht' (unhide HK2)) (fun _ => ?_)
      clear hK K
      refine wpAnyH_done (by kernel_rfl) ?_ _
      try simp only [Act.put, zA, zB, zC]
      go_wp2_with fail
      go_meet
      case rel => exact ⟨_, HAd⟩
     ·go_simp
      refine hK.out _ _ ((((unhide HI).rs.below (Below.refl _ _).drew).alloc (.cells #[.string (t'.of s)] 9)).s6 ht' (unhide HK2)) (fun hHeld2 => ?_)
      clear hK K hHeld
      try simp only [Act.put, zA, zB, zC]
      refine wpAnyH_ready (rs := [4]) (by kernel_rfl) (by simp) ?_
      refine AllReadyH.cons rfl (fun K hK => ?_) AllReadyH.nil
      obtain ⟨r0, r1, r2, rf, rl⟩ := threeG (below_keep (((Below.refl w3.heap.size w3).drew).alloc (Nat.le_refl _) (.cells #[.string (t'.of s)] 9)) (unhide HI).blk (Nat.le_refl _))
      go_simp
      refine hK.out _ _ ((((unhide HI).rs.below (Below.refl _ _).drew).alloc (.cells #[.string (t'.of s)] 9)).s6 ht' (unhide HK2)) (fun hHeld3 => ?_)
      clear hK K hHeld2 r0 r1 r2 rf rl
      try simp only [Act.put, zA, zB, zC]
      refine wpAnyH_ready (rs := [17]) (by kernel_rfl) (by simp) ?_
      refine AllReadyH.cons rfl (fun K hK => ?_) AllReadyH.nil
      refine step_append_lies ((w3.drew).alloc (.cells #[.string (t'.of s)] 9)) (by rfl) (.tmp 22) (.tmp 34) 27 (by rfl) lo 9 ti _ 1 16 Tryz.underlying27 hi hzi hs1 hby rfl (by omega) (.slice na gs.length nc) gs.length _ (by rfl) (own_below (unhide HNm) ((Below.refl _ _).drew.alloc (Nat.le_refl _) _)) ⟨w3.heap.size, 0, none⟩ 1 1 [.string (t'.of s)] (by rfl) rfl str_new (by simp; rfl) (by omega) (by unfold maxLen; omega) (by omega) (by simp; omega) (w3.heap.size + 1) (by simp) ?_
      intro g5 cap5 w5 hown5 hgr5 hat5 hlt5
      have HAd := hide (RdI.addName (n := gs.length) (by simp) (unhide HI) (W := (w3.drew).alloc (.cells #[.string (t'.of s)] 9)) (((Below.refl _ _).drew).alloc (Nat.le_refl _) _) hgr5 hown5 (at_or hat5 (by simp)))
      have hR5 := (((unhide HI).rs.below (Below.refl _ _).drew).alloc (.cells #[.string (t'.of s)] 9)).grown hgr5 (fun j hj => by have h1 := ((unhide HNm).lt j hj).1; have h2 := (unhide HI).hi0; omega)
      have hG5 := (grown_keep hgr5 (below_keep (((Below.refl w3.heap.size w3).drew).alloc (Nat.le_refl _) (.cells #[.string (t'.of s)] 9)) (unhide HI).blk (Nat.le_refl _)) (fun j hj => by have h1 := ((unhide HNm).lt j hj).1; have h2 := (unhide HI).hi0; omega))
      obtain ⟨q0, q1, q2, qf, ql⟩ := threeG hG5
      refine hK.out _ _ (hR5.s6 ht' (unhide HK2)) (fun hHeld4 => ?_)
      clear hK K hown5 hgr5 hat5
      try simp only [Act.put, zA, zB, zC]
      refine take_dst (i := 18) 36 (v := ?_) rfl rfl (by kernel_rfl) (by kernel_rfl) (by kernel_rfl) (fun _ _ _ h => h) (Or.inl ⟨by kernel_rfl, ?_⟩) (by assumption) ?_
      rotate_left
      ·intro w hSw
       obtain ⟨s0, s1, s2⟩ := hSw
       go_simp
       try with_reducible rfl
      try simp only [Act.put, zA, zB, zC]
      refine take_dst (i := 19) 37 (v := ?_) rfl rfl (by kernel_rfl) (by kernel_rfl) (by kernel_rfl) (fun _ _ _ h => h) (Or.inl ⟨by kernel_rfl, ?_⟩) (by assumption) ?_
      rotate_left
      ·intro w hSw
       obtain ⟨s0, s1, s2⟩ := hSw
       go_simp
       try with_reducible rfl
      try simp only [Act.put, zA, zB, zC]
      refine wpAnyH_ready (rs := [20]) (by kernel_rfl) (by simp) ?_
      refine AllReadyH.cons rfl (fun K hK => ?_) AllReadyH.nil
      go_simp
      refine hK.out _ _ ((unhide HAd).rs.s6 ht' (unhide HK2)) (fun _ => ?_)
      clear hK K
      refine wpAnyH_done (by kernel_rfl) ?_ _
      try simp only [Act.put, zA, zB, zC]
      go_wp2_with fail
      go_meet
      case rel => exact ⟨_, HAd⟩
    case rest =>
     obtain ⟨nv6, HI6⟩ := hcut
     clear HI
     have HI := HI6
     clear HI6
     go_upto_region 7 with fail
     go_cut [] (fun wc => ∃ v', Hid (RdI w lo q B cap G s (toksT s) k' 0 0 (gs.map RX.name ++ [t'.of s]) (gs.map RX.at_ ++ [t'.from_]) (gs.map RX.ex) nv6 v' (.slice ea gs.length ec) wc))
     case first =>
      obtain ⟨ti, hi, hzi, hs1, hby⟩ := info_parts infoIntL
      obtain ⟨g0, g1, g2, gf, gl⟩ := threeG (unhide HI).blk
      have hlo3 := (unhide HI).lor
      have hnm := (unhide HI).ats
      rw [List.length_map] at hnm
      have HNm := hide hnm
      clear hnm
      refine wp_region_held_drew (S := fun w' => w'.cell? ⟨q, 0, none⟩ = some (.slice (some ⟨B, 0, none⟩) (toksT s).length cap) ∧ w'.cell? ⟨q, 1, none⟩ = some (.int .i64 k') ∧ w'.cell? ⟨B, k' * 259 + 258, none⟩ = some (.int .i64 t'.from_)) (by kernel_rfl) ((unhide HI).rs.s7 ht') (fun hHeld => ?_)
      refine take_dst (i := 0) 38 (v := ?_) rfl rfl (by kernel_rfl) (by kernel_rfl) (by kernel_rfl) (fun _ _ _ h => h) (Or.inl ⟨by kernel_rfl, ?_⟩) (by assumption) ?_
      rotate_left
      ·intro w hSw
       obtain ⟨s0, s1, s2⟩ := hSw
       go_simp
       try with_reducible rfl
      try simp only [Act.put, zA, zB, zC]
      refine take_dst (i := 1) 39 (v := ?_) rfl rfl (by kernel_rfl) (by kernel_rfl) (by kernel_rfl) (fun _ _ _ h => h) (Or.inl ⟨by kernel_rfl, ?_⟩) (by assumption) ?_
      rotate_left
      ·intro w hSw
       obtain ⟨s0, s1, s2⟩ := hSw
       go_simp
       try with_reducible rfl
      try simp only [Act.put, zA, zB, zC]
      refine take_dst (i := 2) 40 (v := ?_) rfl rfl (by kernel_rfl) (by kernel_rfl) (by kernel_rfl) (fun _ _ _ h => h) (Or.inl ⟨by kernel_rfl, ?_⟩) (by assumption) ?_
      rotate_left
      ·intro w hSw
       obtain ⟨s0, s1, s2⟩ := hSw
       go_simp
       try with_reducible rfl
      try simp only [Act.put, zA, zB, zC]
      refine take_dst (i := 3) 41 (v := ?_) rfl rfl (by kernel_rfl) (by kernel_rfl) (by kernel_rfl) (fun _ _ _ h => h) (Or.inl ⟨by kernel_rfl, ?_⟩) (by assumption) ?_
      rotate_left
      ·intro w hSw
       obtain ⟨s0, s1, s2⟩ := hSw
       go_simp
       try with_reducible rfl
      try simp only [Act.put, zA, zB, zC]
      refine take_dst (i := 5) 43 (v := ?_) rfl rfl (by kernel_rfl) (by kernel_rfl) (by kernel_rfl) (fun _ _ _ h => h) (Or.inl ⟨by kernel_rfl, ?_⟩) (by assumption) ?_
      rotate_left
      ·intro w hSw
       obtain ⟨s0, s1, s2⟩ := hSw
       go_simp
       try with_reducible rfl
      try simp only [Act.put, zA, zB, zC]
      refine take_dst (i := 6) 44 (v := ?_) rfl rfl (by kernel_rfl) (by kernel_rfl) (by kernel_rfl) (fun _ _ _ h => h) (Or.inl ⟨by kernel_rfl, ?_⟩) (by assumption) ?_
      rotate_left
      ·intro w hSw
       obtain ⟨s0, s1, s2⟩ := hSw
       go_simp
       try with_reducible rfl
      try simp only [Act.put, zA, zB, zC]
      refine take_dst (i := 7) 45 (v := ?_) rfl rfl (by kernel_rfl) (by kernel_rfl) (by kernel_rfl) (fun _ _ _ h => h) (Or.inl ⟨by kernel_rfl, ?_⟩) (by assumption) ?_
      rotate_left
      ·intro w hSw
       obtain ⟨s0, s1, s2⟩ := hSw
       go_simp
       try with_reducible rfl
      try simp only [Act.put, zA, zB, zC]
      refine take_dst (i := 8) 46 (v := ?_) rfl rfl (by kernel_rfl) (by kernel_rfl) (by kernel_rfl) (fun _ _ _ h => h) (Or.inl ⟨by kernel_rfl, ?_⟩) (by assumption) ?_
      rotate_left
      ·intro w hSw
       obtain ⟨s0, s1, s2⟩ := hSw
       go_simp
       try with_reducible rfl
      try simp only [Act.put, zA, zB, zC]
      refine take_dst (i := 9) 47 (v := ?_) rfl rfl (by kernel_rfl) (by kernel_rfl) (by kernel_rfl) (fun _ _ _ h => h) (Or.inl ⟨by kernel_rfl, ?_⟩) (by assumption) ?_
      rotate_left
      ·intro w hSw
       obtain ⟨s0, s1, s2⟩ := hSw
       go_simp
       try with_reducible rfl
      try simp only [Act.put, zA, zB, zC]
      refine take_dst (i := 10) 48 (v := ?_) rfl rfl (by kernel_rfl) (by kernel_rfl) (by kernel_rfl) (fun _ _ _ h => h) (Or.inl ⟨by kernel_rfl, ?_⟩) (by assumption) ?_
      rotate_left
      ·intro w hSw
       obtain ⟨s0, s1, s2⟩ := hSw
       go_simp
       try with_reducible rfl
      try simp only [Act.put, zA, zB, zC]
      refine take_dst (i := 11) 49 (v := ?_) rfl rfl (by kernel_rfl) (by kernel_rfl) (by kernel_rfl) (fun _ _ _ h => h) (Or.inl ⟨by kernel_rfl, ?_⟩) (by assumption) ?_
      rotate_left
      ·intro w hSw
       obtain ⟨s0, s1, s2⟩ := hSw
       go_simp
       try with_reducible rfl
      try simp only [Act.put, zA, zB, zC]
      refine take_dst (i := 12) 50 (v := ?_) rfl rfl (by kernel_rfl) (by kernel_rfl) (by kernel_rfl) (fun _ _ _ h => h) (Or.inl ⟨by kernel_rfl, ?_⟩) (by assumption) ?_
      rotate_left
      ·intro w hSw
       obtain ⟨s0, s1, s2⟩ := hSw
       go_simp
       try with_reducible rfl
      try simp only [Act.put, zA, zB, zC]
      refine take_dst (i := 13) 51 (v := ?_) rfl rfl (by kernel_rfl) (by kernel_rfl) (by kernel_rfl) (fun _ _ _ h => h) (Or.inl ⟨by kernel_rfl, ?_⟩) (by assumption) ?_
      rotate_left
      ·intro w hSw
       obtain ⟨s0, s1, s2⟩ := hSw
       go_simp
       try with_reducible rfl
      try simp only [Act.put, zA, zB, zC]
      refine take_dst (i := 14) 52 (v := ?_) rfl rfl (by kernel_rfl) (by kernel_rfl) (by kernel_rfl) (fun _ _ _ h => h) (Or.inl ⟨by kernel_rfl, ?_⟩) (by assumption) ?_
      rotate_left
      ·intro w hSw
       obtain ⟨s0, s1, s2⟩ := hSw
       go_simp
       try with_reducible rfl
      try simp only [Act.put, zA, zB, zC]
      refine take_dst (i := 15) 53 (v := ?_) rfl rfl (by kernel_rfl) (by kernel_rfl) (by kernel_rfl) (fun _ _ _ h => h) (Or.inl ⟨by kernel_rfl, ?_⟩) (by assumption) ?_
      rotate_left
      ·intro w hSw
       obtain ⟨s0, s1, s2⟩ := hSw
       go_simp
       try with_reducible rfl
      try simp only [Act.put, zA, zB, zC]
      refine wpAnyH_ready (rs := [4, 16]) (by kernel_rfl) (by simp) ?_
      refine AllReadyH.cons rfl (fun K hK => ?_) (AllReadyH.cons rfl (fun K hK => ?_) AllReadyH.nil)
      ·go_simp
       refine hK.out _ _ (((unhide HI).rs.below (Below.refl _ _).drew).s7 ht') (fun hHeld2 => ?_)
       clear hK K hHeld
       try simp only [Act.put, zA, zB, zC]
       refine wpAnyH_ready (rs := [16]) (by kernel_rfl) (by simp) ?_
       refine AllReadyH.cons rfl (fun K hK => ?_) AllReadyH.nil
       go_simp
       refine hK.out _ _ ((((unhide HI).rs.below (Below.refl _ _).drew).alloc (.cells #[.int .i64 t'.from_] 3)).s7 ht') (fun hHeld3 => ?_)
       clear hK K hHeld2
       try simp only [Act.put, zA, zB, zC]
       refine wpAnyH_ready (rs := [17]) (by kernel_rfl) (by simp) ?_
       refine AllReadyH.cons rfl (fun K hK => ?_) AllReadyH.nil
       refine step_append_lies ((wc.drew).alloc (.cells #[.int .i64 t'.from_] 3)) (by rfl) (.tmp 42) (.tmp 54) 29 (by rfl) lo 3 ti _ 1 8 Tryz.underlying29 hi hzi hs1 hby rfl (by omega) (.slice aa gs.length ac) gs.length _ (by rfl) (own_below (unhide HNm) ((Below.refl _ _).drew.alloc (Nat.le_refl _) _)) ⟨wc.heap.size, 0, none⟩ 1 1 [.int .i64 t'.from_] (by rfl) rfl int_new (by simp; rfl) (by omega) (by unfold maxLen; omega) (by omega) (by simp; omega) (wc.heap.size + 1) (by simp) ?_
       intro g5 cap5 w5 hown5 hgr5 hat5 hlt5
       have HAd := hide (RdI.addAt (n := gs.length) (by simp) (unhide HI) (W := (wc.drew).alloc (.cells #[.int .i64 t'.from_] 3)) (((Below.refl _ _).drew).alloc (Nat.le_refl _) _) hgr5 hown5 (at_or hat5 (by simp)))
       have hR5 := (((unhide HI).rs.below (Below.refl _ _).drew).alloc (.cells #[.int .i64 t'.from_] 3)).grown hgr5 (fun j hj => by have h1 := ((unhide HNm).lt j hj).1; have h2 := (unhide HI).hi0; omega)
       have hG5 := (grown_keep hgr5 (below_keep (((Below.refl wc.heap.size wc).drew).alloc (Nat.le_refl _) (.cells #[.int .i64 t'.from_] 3)) (unhide HI).blk (Nat.le_refl _)) (fun j hj => by have h1 := ((unhide HNm).lt j hj).1; have h2 := (unhide HI).hi0; omega))
       obtain ⟨q0, q1, q2, qf, ql⟩ := threeG hG5
       refine hK.out _ _ (hR5.s7 ht') (fun hHeld4 => ?_)
       clear hK K hown5 hgr5 hat5
       try simp only [Act.put, zA, zB, zC]
       refine take_dst (i := 18) 56 (v := ?_) rfl rfl (by kernel_rfl) (by kernel_rfl) (by kernel_rfl) (fun _ _ _ h => h) (Or.inl ⟨by kernel_rfl, ?_⟩) (by assumption) ?_
       rotate_left
       ·intro w hSw
        obtain ⟨s0, s1, s2⟩ := hSw
        go_simp
        try with_reducible rfl
       try simp only [Act.put, zA, zB, zC]
       refine take_dst (i := 19) 57 (v := ?_) rfl rfl (by kernel_rfl) (by kernel_rfl) (by kernel_rfl) (fun _ _ _ h => h) (Or.inl ⟨by kernel_rfl, ?_⟩) (by assumption) ?_
       rotate_left
       ·intro w hSw
        obtain ⟨s0, s1, s2⟩ := hSw
        go_simp
        try with_reducible rfl
       try simp only [Act.put, zA, zB, zC]
       refine wpAnyH_ready (rs := [20]) (by kernel_rfl) (by simp) ?_
       refine AllReadyH.cons rfl (fun K hK => ?_) AllReadyH.nil
       go_simp
       refine hK.out _ _ ((unhide HAd).rs.s7 ht') (fun _ => ?_)
       clear hK K
       refine wpAnyH_done (by kernel_rfl) ?_ _
       try simp only [Act.put, zA, zB, zC]
       go_wp2_with fail
       go_meet
       case rel => exact ⟨_, HAd⟩
      ·go_simp
       refine hK.out _ _ ((((unhide HI).rs.below (Below.refl _ _).drew).alloc (.cells #[.int .i64 t'.from_] 3)).s7 ht') (fun hHeld2 => ?_)
       clear hK K hHeld
       try simp only [Act.put, zA, zB, zC]
       refine wpAnyH_ready (rs := [4]) (by kernel_rfl) (by simp) ?_
       refine AllReadyH.cons rfl (fun K hK => ?_) AllReadyH.nil
       obtain ⟨r0, r1, r2, rf, rl⟩ := threeG (below_keep (((Below.refl wc.heap.size wc).drew).alloc (Nat.le_refl _) (.cells #[.int .i64 t'.from_] 3)) (unhide HI).blk (Nat.le_refl _))
       go_simp
       refine hK.out _ _ ((((unhide HI).rs.below (Below.refl _ _).drew).alloc (.cells #[.int .i64 t'.from_] 3)).s7 ht') (fun hHeld3 => ?_)
       clear hK K hHeld2 r0 r1 r2 rf rl
       try simp only [Act.put, zA, zB, zC]
       refine wpAnyH_ready (rs := [17]) (by kernel_rfl) (by simp) ?_
       refine AllReadyH.cons rfl (fun K hK => ?_) AllReadyH.nil
       refine step_append_lies ((wc.drew).alloc (.cells #[.int .i64 t'.from_] 3)) (by rfl) (.tmp 42) (.tmp 54) 29 (by rfl) lo 3 ti _ 1 8 Tryz.underlying29 hi hzi hs1 hby rfl (by omega) (.slice aa gs.length ac) gs.length _ (by rfl) (own_below (unhide HNm) ((Below.refl _ _).drew.alloc (Nat.le_refl _) _)) ⟨wc.heap.size, 0, none⟩ 1 1 [.int .i64 t'.from_] (by rfl) rfl int_new (by simp; rfl) (by omega) (by unfold maxLen; omega) (by omega) (by simp; omega) (wc.heap.size + 1) (by simp) ?_
       intro g5 cap5 w5 hown5 hgr5 hat5 hlt5
       have HAd := hide (RdI.addAt (n := gs.length) (by simp) (unhide HI) (W := (wc.drew).alloc (.cells #[.int .i64 t'.from_] 3)) (((Below.refl _ _).drew).alloc (Nat.le_refl _) _) hgr5 hown5 (at_or hat5 (by simp)))
       have hR5 := (((unhide HI).rs.below (Below.refl _ _).drew).alloc (.cells #[.int .i64 t'.from_] 3)).grown hgr5 (fun j hj => by have h1 := ((unhide HNm).lt j hj).1; have h2 := (unhide HI).hi0; omega)
       have hG5 := (grown_keep hgr5 (below_keep (((Below.refl wc.heap.size wc).drew).alloc (Nat.le_refl _) (.cells #[.int .i64 t'.from_] 3)) (unhide HI).blk (Nat.le_refl _)) (fun j hj => by have h1 := ((unhide HNm).lt j hj).1; have h2 := (unhide HI).hi0; omega))
       obtain ⟨q0, q1, q2, qf, ql⟩ := threeG hG5
       refine hK.out _ _ (hR5.s7 ht') (fun hHeld4 => ?_)
       clear hK K hown5 hgr5 hat5
       try simp only [Act.put, zA, zB, zC]
       refine take_dst (i := 18) 56 (v := ?_) rfl rfl (by kernel_rfl) (by kernel_rfl) (by kernel_rfl) (fun _ _ _ h => h) (Or.inl ⟨by kernel_rfl, ?_⟩) (by assumption) ?_
       rotate_left
       ·intro w hSw
        obtain ⟨s0, s1, s2⟩ := hSw
        go_simp
        try with_reducible rfl
       try simp only [Act.put, zA, zB, zC]
       refine take_dst (i := 19) 57 (v := ?_) rfl rfl (by kernel_rfl) (by kernel_rfl) (by kernel_rfl) (fun _ _ _ h => h) (Or.inl ⟨by kernel_rfl, ?_⟩) (by assumption) ?_
       rotate_left
       ·intro w hSw
        obtain ⟨s0, s1, s2⟩ := hSw
        go_simp
        try with_reducible rfl
       try simp only [Act.put, zA, zB, zC]
       refine wpAnyH_ready (rs := [20]) (by kernel_rfl) (by simp) ?_
       refine AllReadyH.cons rfl (fun K hK => ?_) AllReadyH.nil
       go_simp
       refine hK.out _ _ ((unhide HAd).rs.s7 ht') (fun _ => ?_)
       clear hK K
       refine wpAnyH_done (by kernel_rfl) ?_ _
       try simp only [Act.put, zA, zB, zC]
       go_wp2_with fail
       go_meet
       case rel => exact ⟨_, HAd⟩
     case rest =>
      obtain ⟨av7, HI7⟩ := hcut
      clear HI
      obtain ⟨ti, hi, hzi, hs1, hby⟩ := info_parts infoPtrX
      obtain ⟨c0, c1, c2, c3, c4, cf, hqlt⟩ := five (unhide HI7).rs.rd
      have hkw : IntKind.i64.wrap ((k' : Int) + 2) = (k' : Int) + 2 := by rw [IntKind.wrap_i64]; omega
      have HI8 := hide ((unhide HI7).setK ((k' : Int) + 2))
      go_wp2_with fail
      generalize hw8 : wc.setCell ⟨q, 1, none⟩ (.int .i64 ((k' : Int) + 2)) = w8 at HI8 ⊢
      clear hw8 HI7 c0 c1 c2 c3 c4 cf hqlt hkw
      have HCh := hide (fun W (hW : RS W q B cap s (toksT s) ((k' : Int) + 2) 0 0 0) => ref_expr_all q B cap s (toksT s) hs4 (unhide HT) 13 0 (by omega) (by omega) (by omega) W (k' + 2) _ (unhide HNx3) (by rw [show ((k' + 2 : Nat) : Int) = (k' : Int) + 2 by omega]; exact hW))
      obtain ⟨r, hr⟩ : ∃ r, exprN s 13 (nextT s (nextT s t'.to).to) 0 = r := ⟨_, rfl⟩
      rw [hr] at HCh HRu
      clear hr
      obtain ⟨g0, g1, g2, gf, gl⟩ := threeG (unhide HI8).blk
      have hlo8 := (unhide HI8).lor
      have hhi := (unhide HI8).hi0
      have hqG := (unhide HI8).qG
      have hex := (unhide HI8).exps
      rw [List.length_map] at hex
      have HEx := hide hex
      clear hex
      go_region_law
       (first
       | (refine step_wp (by rfl) ?_; go_simp; go_at_call 37; refine (unhide HCh _ ((unhide HI8).rs.below (Below.refl _ _).drew)).mono ?_; rintro e w2 ⟨b, rfl, ho⟩; have HO := hide ho; clear ho; have HB2 := hide (But.from_drew (unhide HO).bt); have hX2 := ((unhide HB2).block G gl (by omega)).trans (unhide HI8).blk; have hS2 := (threeG hX2).2.2.1; have hz2 := (unhide HB2).size; have hxl2 := (threeG hX2).2.2.2.2; have hfz2 := (threeG hX2).2.2.2.1; have HO2 := hide (show (w2.alloc (.cells #[.pointer (some ⟨b, 0, none⟩)] 61)).ownsRow lo 61 1 (.slice ea gs.length ec) gs.length ((gs.map RX.ex).map ptrX) from own_keep (unhide HEx) fun j hj => (Below.heap_alloc _ _ _ (by have := ((unhide HEx).lt j hj).2; omega)).trans ((unhide HB2).block j ((unhide HEx).lt j hj).2 (by have := ((unhide HEx).lt j hj).1; omega))))
       | (refine step_append_lies (w2.alloc (.cells #[.pointer (some ⟨b, 0, none⟩)] 61)) (by rfl) (.tmp 69) (.tmp 72) 30 (by rfl) lo 61 ti _ 1 8 Tryz.underlying30 hi hzi hs1 hby rfl (by omega) (.slice ea gs.length ec) gs.length _ (by rfl) (unhide HO2) ⟨w2.heap.size, 0, none⟩ 1 1 [.pointer (some ⟨b, 0, none⟩)] (by rfl) rfl ptr_new (by simp; rfl) (by omega) (by unfold maxLen; omega) (by omega) (by simp; omega) (w2.heap.size + 1) (by simp) ?_; intro g5 cap5 w5 hown5 hgr5 hat5 hlt5; have HG5 := hide hgr5; have HO5 := hide hown5; have HA5 := hide (at_or (n := gs.length + 1) (m := cap5) (X := (w2.alloc (.cells #[.pointer (some ⟨b, 0, none⟩)] 61)).heap.size) hat5 (by simp)); clear hgr5 hown5 hat5; have hX5 := ((unhide HG5).block G (by simp; omega) (fun e => by have := ((unhide HEx).lt G e.symm).1; omega)).trans (heap_old hX2); have hS3 := (threeG hX5).2.2.1; have hxl5 := (threeG hX5).2.2.2.2; have hfz5 := (threeG hX5).2.2.2.1))
      all_goals
       have HOd := hide (show OkO w8 q B cap s (toksT s) 0 r b w2 from ⟨unhide HB2, (unhide HO).out⟩)
       have HD := hide (RdI.addExp (n := gs.length) (by simp) (unhide HI8) (unhide HOd) (((Below.refl _ _).alloc (Nat.le_refl _) (.cells #[.pointer (some ⟨b, 0, none⟩)] 61))) (unhide HG5) (unhide HO5) (unhide HA5))
       have HNx := hide (RdL.next hokt (by have := unhide HK2; omega) (unhide HRu) (unhide HPs) (unhide HFu) (unhide HGl) (unhide HOk) (unhide HD))
       go_wp2_with fail
       go_roundw
       case rel => exact (unhide HNx).1
       case measure => rw [unhide HM]; exact (unhide HNx).2
  ·have HPe := hide hp
   have HNe := hide he
   have HBg := hide (begins_err hrs he)
   have HIs := hide (fun (what : ByteArray) (w' : World) (hb : Below wr.heap.size wr w') => (show Calls Tryz.prog 38 #[.pointer (some ⟨q, 0, none⟩), .string what] w' (fun e w2 => e = .returned (.bool false) ∧ Below wr.heap.size wr w2) from (is_err (w := w') what (hrs.below hb) he).mono (by
    rintro e w2 ⟨rfl, m, rfl⟩
    exact ⟨rfl, below_drewN' hb m⟩)))
   have H1 := hide (unhide HIs (whatK 1))
   have H2 := hide (unhide HIs (whatK 2))
   have HWr := hide (fun W (hb : Below wr.heap.size wr W) => wrong_err 2 (hrs.below hb) he)
   have HRs := hide hrs
   have HBl := hide hb
   clear hp he hrs hb hrel HIs
   go_wp2_with fail
   go_at_call 36
   refine (unhide HBg).mono ?_
   rintro x w3 ⟨rfl, m, hw3⟩
   have hb3 : Below wr.heap.size wr w3 := by rw [hw3]; exact below_drewN' (Below.refl _ _) m
   clear hw3
   go_wp2_with fail
   go_at_call 38
   refine (unhide H1 _ hb3).mono ?_
   rintro x w4 ⟨rfl, hb4⟩
   go_wp2_with fail
   go_at_call 38
   refine (unhide H2 _ hb4).mono ?_
   rintro x w5 ⟨rfl, hb5⟩
   go_wp2_with fail
   go_at_call 39
   refine (unhide HWr _ hb5).mono ?_
   rintro x w6 ⟨rfl, hw6⟩
   replace hw6 := hw6.symm
   subst hw6
   have HRw := hide ((unhide HRs).below hb5)
   have HBw := hide ((unhide HBl).trans (hb5.mono (unhide HBl).size))
   obtain ⟨c0, c1, c2, c3, c4, cf, hqlt⟩ := five (unhide HRw).rd
   go_wp2_with fail
   go_region
   go_wp2
   go_ret3
   exact OutRd.no (unhide HPe) (unhide HNe) (unhide HBw).drew
end Go.Proofs.YtbojcemamhiodaaGreatDoor
namespace Go.Proofs.YtbojcemamhiodaaGreatDoor
open Go.RowKit
theorem parse_long (w : World) (s : ByteArray) (h400 : 400 < s.size) : Calls Tryz.prog 32 #[.string s] w (OutP w (parseF s)) := by
 have HR : Hid (parseF s = ⟨1, [], 0⟩) := if_pos h400
 have hI : (400 : Int) < s.size := by omega
 go_enter Tryz.func32, Tryz.ntmps32
 go_wp2
 go_ret3
 rw [unhide HR]
 exact ⟨none, 0, rfl, GrowR.nil _ _, Below.refl _ _⟩
theorem compile_long (w : World) (F : Nat) (s : ByteArray) (h400 : 400 < s.size) : Calls Tryz.prog 20 #[.string s] w (OutC w F (parseF s) ((parseF s).err, (parseF s).at_)) := by
 have HP := hide (parse_long w s h400)
 have he : (parseF s).err ≠ 0 := by
  rw [show parseF s = ⟨1, [], 0⟩ from if_pos h400]
  simp
 generalize parseF s = p at he HP ⊢
 have b1 : (p.err != 0) = true := by simpa using he
 have He := hide he
 clear he
 go_enter Tryz.func20, Tryz.ntmps20
 go_wp2_with fail
 go_at_call 32
 refine (unhide HP).mono ?_
 rintro e w1 ⟨ao, cp, rfl, hg1, hb1⟩
 go_wp2
 go_ret3
 exact ⟨none, rfl, hb1, .inl ⟨unhide He, rfl⟩⟩
/-- Compile answers, whatever the text -/
theorem compile_all (s : ByteArray) : ∃ (F : Nat) (r : Int × Int), (∀ w, Calls Tryz.prog 20 #[.string s] w (OutC w F (parseF s) r)) ∧ ((parseF s).err ≠ 0 → r = ((parseF s).err, (parseF s).at_)) ∧ ((parseF s).err = 0 → ∀ gs, rlX gs = (parseF s).rules → (∀ g ∈ gs, OkX g.ex) → lawX gs = r) ∧ ((parseF s).err = 0 → DeepF F (parseF s).rules) := by
 by_cases h400 : 400 < s.size
 ·refine ⟨0, _, fun w => compile_long w 0 s h400, fun _ => rfl, fun h => ?_, fun h => ?_⟩
  ·rw [show parseF s = ⟨1, [], 0⟩ from if_pos h400] at h
   simp at h
  ·rw [show parseF s = ⟨1, [], 0⟩ from if_pos h400] at h
   simp at h
 ·obtain ⟨F, Z, r, h1, h2⟩ := compile_ends s
  refine ⟨F, r, fun w => compile_any w F Z s r (by omega) h1, fun he => ?_, fun h0 gs hg ho => ?_, fun h0 => (h2 h0).1⟩
  ·unfold compileF at h1
   rw [if_pos he] at h1
   injection h1 with h1
   exact h1.symm
  ·obtain ⟨h3, h4⟩ := h2 h0
   rw [← hg] at h3 h4
   exact law_check gs F Z r h4 h3 ho
theorem lawX_zero {gs : List RX} (h : (lawX gs).1 = 0) : lawX gs = (0, 0) := by
 unfold lawX at h ⊢
 split at h
 ·simp at h
 ·split at h
  ·simp at h
  ·split at h
   ·simp at h
   ·split at h
    ·simp at h
    ·split at h
     ·simp at h
     ·rename_i h1 h2 h3 h4 h5
      rw [if_neg h1, if_neg h2, if_neg h3, if_neg h4, if_neg h5]
/-- what both answers -/
def OutBt (w : World) (s : ByteArray) (x : Ending) (w' : World) : Prop :=
 Below w.heap.size w w' ∧ ((x = .returned (.tuple #[.pointer none, .pointer none, .bool true])) ∨
  (∃ G g nv tv nv' av ev gs F, x = .returned (.tuple #[.pointer (some ⟨G, 0, none⟩), .pointer (some ⟨g, 0, none⟩), .bool true]) ∧ rlX gs = (parseF s).rules ∧ ReadG gs ∧ lawX gs = (0, 0) ∧
   GR w' g nv' av ev gs ∧ Gm w' (fun b => w.heap.size ≤ b) G nv tv ((parseF s).rules.map fun r => r.name) (buildF (F + 1) (parseF s).rules) ∧ DeepF F (parseF s).rules))
set_option maxHeartbeats 2000000 in
theorem both_any (w : World) (s : ByteArray) : Calls Tryz.prog 13 #[.string s] w (OutBt w s) := by
 obtain ⟨F, r, hC, he, h0, hD⟩ := compile_all s
 have HD := hide hD
 have HC := hide (hC w)
 have HR := hide (fun W => Read_any W s)
 have HX : Hid (∀ gs, ((parseF s).err = 0 → rlX gs = (parseF s).rules ∧ ReadG gs) → readX s gs = r) := by
  intro gs h
  unfold readX
  by_cases hp : (parseF s).err ≠ 0
  ·rw [if_pos hp, he hp]
  ·have hp0 : (parseF s).err = 0 := by omega
   rw [if_neg hp]
   exact h0 hp0 gs (h hp0).1 (h hp0).2.ok
 have HE := hide he
 clear hC he h0 hD
 go_enter Tryz.func13, Tryz.ntmps13
 go_wp2_with fail
 go_at_call 20
 refine (unhide HC).mono ?_
 rintro x w1 ⟨p, rfl, hb1, hp⟩
 go_wp2_with fail
 go_at_call 26
 refine (unhide HR w1).mono ?_
 rintro x w2 ⟨gs, pm, rfl, hrg, hn, hg, hb2⟩
 have hx := unhide HX gs hrg
 rw [hx] at hn hg ⊢
 have hb := hb1.trans (hb2.mono hb1.size)
 have b1 : (r.1 != r.1) = false := by simp
 have b2 : (r.2 != r.2) = false := by simp
 rcases hp with ⟨h1, rfl⟩ | ⟨h1, G, nv, tv, rfl, hgm⟩
 ·have hpm := hn h1
  subst hpm
  have HB := hide hb
  clear hx hn hg hb hb1 hb2 hrg
  go_wp2
  go_ret3
  exact ⟨unhide HB, .inl rfl⟩
 ·obtain ⟨g, nv', av, ev, hpm, hgr, _⟩ := hg h1
  subst hpm
  have HF : Hid (OutBt w s (.returned (.tuple #[.pointer (some ⟨G, 0, none⟩), .pointer (some ⟨g, 0, none⟩), .bool true])) w2) := by
   have hp0 : (parseF s).err = 0 := by
    by_cases hp : (parseF s).err ≠ 0
    ·have e1 := unhide HE hp
     rw [e1] at h1
     exact absurd h1 hp
    ·omega
   have hl : lawX gs = r := by
    rw [← hx]
    unfold readX
    rw [if_neg (by omega)]
   refine ⟨hb, .inr ⟨G, g, nv, tv, nv', av, ev, gs, F, rfl, (hrg hp0).1, (hrg hp0).2, ?_, hgr, hgm.turn fun b hS hz => ⟨hS, hb2.block b hz⟩, unhide HD hp0⟩⟩
   exact lawX_zero (by rw [hl]; exact h1)
  clear hx hn hg hb hb1 hb2 hrg hgm hgr
  go_wp2
  go_ret3
  exact unhide HF
end Go.Proofs.YtbojcemamhiodaaGreatDoor

import Derived.Test.YtbojcemamhiodaaGreatDoorXps
import Derived.Deep.AppendLies
import Derived.Deep.RegionHeld3
import Derived.Test.YtbojcemamhiodaaGreatDoorParse
import Derived.Test.YtbojcemamhiodaaGreatDoorExs
namespace Go.Proofs.YtbojcemamhiodaaGreatDoor
open Go.RowKit

/-- what a method of the reader that reads an expression leaves -/
structure OkO (w : World) (q B cap : Nat) (s : ByteArray) (T : List Tk) (d : Int) (r : Res) (b : Nat) (w' : World) : Prop where
  bt : But q w w'
  out : (r.err = 0 ∧ ∃ x : Ex, x.b = b ∧ Tree w' (fun j => w.heap.size ≤ j) x ∧ OkX x ∧ x.norm = r.nd ∧ ∃ k' : Nat, T[k']? = some r.tk ∧ RS w' q B cap s T k' d 0 0) ∨
    (r.err ≠ 0 ∧ ∃ k' : Int, RS w' q B cap s T k' d r.err r.tk.from_)
def OutX (w : World) (q B cap : Nat) (s : ByteArray) (T : List Tk) (d : Int) (r : Res) (e : Ending) (w' : World) : Prop :=
  ∃ b, e = .returned (.pointer (some ⟨b, 0, none⟩)) ∧ OkO w q B cap s T d r b w'
/-- what is wrong is told -/
theorem OkO.err {w : World} {q B cap : Nat} {s : ByteArray} {T : List Tk} {d : Int} {r : Res} {b : Nat} {w' : World} (h : OkO w q B cap s T d r b w') (he : r.err ≠ 0) : ∃ k' : Int, RS w' q B cap s T k' d r.err r.tk.from_ := by
  rcases h.out with ⟨h0, _⟩ | ⟨_, h1⟩
  · exact absurd h0 he
  · exact h1
theorem OkO.ok {w : World} {q B cap : Nat} {s : ByteArray} {T : List Tk} {d : Int} {r : Res} {b : Nat} {w' : World} (h : OkO w q B cap s T d r b w') (he : r.err = 0) : ∃ x : Ex, x.b = b ∧ Tree w' (fun j => w.heap.size ≤ j) x ∧ OkX x ∧ x.norm = r.nd ∧ ∃ k' : Nat, T[k']? = some r.tk ∧ RS w' q B cap s T k' d 0 0 := by
  rcases h.out with ⟨_, h1⟩ | ⟨h0, _⟩
  · exact h1
  · exact absurd he h0
section
variable (s : ByteArray) (q B cap : Nat) (T : List Tk)
/-- the contract of a method that reads, at depth d -/
def SaidCh (f : Nat) (E : Tk → Int → Res) (d : Int) : Prop := ∀ (w : World) (k : Nat) (t : Tk), T[k]? = some t → RS w q B cap s T k d 0 0 → Calls Tryz.prog f #[.pointer (some ⟨q, 0, none⟩)] w (OutX w q B cap s T d (E t d))
/-- .. where an item begins -/
def SaidIt (f : Nat) (E : Tk → Int → Res) (d : Int) : Prop := ∀ (w : World) (k : Nat) (t : Tk), T[k]? = some t → atIt s t = true → RS w q B cap s T k d 0 0 → Calls Tryz.prog f #[.pointer (some ⟨q, 0, none⟩)] w (OutX w q B cap s T d (E t d))
end
theorem infoPtr : (Tryz.prog.info? 61).map (fun i => (i.zero, i.size, i.bytes)) = some (some (.pointer none), 1, 8) := by kernel_rfl
/-- a word or a sign by its kind, and what it is -/
theorem whatL (k : Int) (l : List UInt8) (h : (whatK k).toList = l) {a : Int} (ha : 0 ≤ a ∧ a ≤ 17) (hk : 0 ≤ k ∧ k ≤ 17) : ((whatK a).toList == l) = (a == k) := by rw [← h, whatK_eq ha hk]

/-- an expression that is being made, with what it holds so far -/
structure LoopI (w0 : World) (q B X : Nat) (op : ByteArray) (wr : World) (lv : Value) (ps : List Value) : Prop where
  blk : ExB wr X op lv .empty noB 0
  own : wr.ownsRow w0.heap.size 61 1 lv ps.length ps
  apart : lv.ownBlock ≠ some X
  ptr : ∀ p ∈ ps, ∃ b, p = .pointer (some ⟨b, 0, none⟩)
  bt : But q w0 wr
  lo : w0.heap.size ≤ X
  qx : q < w0.heap.size
  bx : B < w0.heap.size
section
variable {w0 wr w2 W w5 : World} {q B X b cap : Nat} {op : ByteArray} {lv v' : Value} {ps : List Value} {s : ByteArray} {T : List Tk} {k d e a : Int}
theorem LoopI.below (h : LoopI w0 q B X op wr lv ps) (hb : Below wr.heap.size wr w2) : LoopI w0 q B X op w2 lv ps :=
  ⟨h.blk.below hb (Nat.le_refl _), own_below h.own hb, h.apart, h.ptr, h.bt.below hb h.bt.size, h.lo, h.qx, h.bx⟩
theorem LoopI.next (h : LoopI w0 q B X op wr lv ps) (hb : But q wr w2) (hW : Below w2.heap.size w2 W) (hgr : W.grownBy w5 lv.ownBlock) (hown : w5.ownsRow w0.heap.size 61 1 v' (ps.length + 1) (ps ++ [.pointer (some ⟨b, 0, none⟩)])) (hat : v'.ownBlock = lv.ownBlock ∨ v'.ownBlock = some W.heap.size) :
    LoopI w0 q B X op (w5.setCell ⟨X, 1, none⟩ v') v' (ps ++ [.pointer (some ⟨b, 0, none⟩)]) := by
  have hlo := h.lo
  have hqx := h.qx
  have hXq : X ≠ q := by omega
  have hownlt := h.own.lt
  have hXl := h.blk.lt
  have hz := hb.size
  have hzW := hW.size
  have hblk5 : ExB w5 X op lv .empty noB 0 := by
    have h1 := (h.blk.but hb hXq).below hW (Nat.le_refl _)
    exact (hgr.block X h1.lt (fun e => h.apart e.symm)).trans h1
  have hap : v'.ownBlock ≠ some X := by
    rcases hat with e | e
    · rw [e]; exact h.apart
    · rw [e]; intro x; cases x; omega
  refine ⟨hblk5.setL v', ?_, hap, ?_, ?_, h.lo, h.qx, h.bx⟩
  · have hown' : w5.ownsRow w0.heap.size 61 1 v' (ps ++ [Value.pointer (some ⟨b, 0, none⟩)]).length (ps ++ [.pointer (some ⟨b, 0, none⟩)]) := by
      simpa using hown
    refine own_keep hown' fun j hj => Below.heap_setCell _ _ _ _ ?_
    show j ≠ X
    exact fun e => hap (by rw [← e]; exact hj)
  · intro p hp
    rw [List.mem_append, List.mem_singleton] at hp
    rcases hp with hp | rfl
    · exact h.ptr p hp
    · exact ⟨b, rfl⟩
  · have h2 : But q w0 W := (h.bt.trans hb).below hW (by have := h.bt.size; omega)
    have h3 : But q w0 w5 := ⟨hgr.os.trans h2.os, hgr.tape.trans h2.tape, hgr.output.trans h2.output, Nat.le_trans h2.size hgr.size, fun j hj hne => (hgr.block j (Nat.lt_of_lt_of_le hj h2.size) (fun e => by have := (hownlt j e.symm).1; omega)).trans (h2.block j hj hne)⟩
    exact h3.setCell (.inr hlo) _
theorem LoopI.rs (h : LoopI w0 q B X op wr lv ps) (hr : RS w2 q B cap s T k d e a) (hW : Below w2.heap.size w2 W) (hgr : W.grownBy w5 lv.ownBlock) : RS (w5.setCell ⟨X, 1, none⟩ v') q B cap s T k d e a := by
  have hlo := h.lo
  have hqx := h.qx
  have hbx := h.bx
  exact (((hr.below hW).grown hgr (fun j hj => by have := (h.own.lt j hj).1; omega)).set (show X ≠ q by omega) (show X ≠ B by omega) v')
/-- the expressions so far -/
structure KidsI (lo X : Nat) (wr : World) (lv : Value) (ps : List Value) (xs : List Ex) : Prop where
  ps : ps = xs.map ptrX
  trees : ∀ x ∈ xs, Tree wr (fun j => lo ≤ j ∧ j ≠ X ∧ lv.ownBlock ≠ some j) x
  ok : ∀ x ∈ xs, OkX x
theorem KidsI.below {lo : Nat} {xs : List Ex} (h : KidsI lo X wr lv ps xs) (hb : Below wr.heap.size wr w2) : KidsI lo X w2 lv ps xs := ⟨h.ps, fun x hx => (h.trees x hx).below hb, h.ok⟩
theorem KidsI.next {xs : List Ex} {x : Ex} (h : LoopI w0 q B X op wr lv ps) (hk : KidsI w0.heap.size X wr lv ps xs) (hb : But q wr w2) (ht : Tree w2 (fun j => wr.heap.size ≤ j) x) (ho : OkX x) (hW : Below w2.heap.size w2 W) (hgr : W.grownBy w5 lv.ownBlock)
    (hat : v'.ownBlock = lv.ownBlock ∨ v'.ownBlock = some W.heap.size) : KidsI w0.heap.size X (w5.setCell ⟨X, 1, none⟩ v') v' (ps ++ [ptrX x]) (xs ++ [x]) := by
  have hlo := h.lo
  have hqx := h.qx
  have hownlt := h.own.lt
  have hXl := h.blk.lt
  have hz := hb.size
  have hzW := hW.size
  have key : ∀ j, w0.heap.size ≤ j → j ≠ X → lv.ownBlock ≠ some j → j < w2.heap.size → (w0.heap.size ≤ j ∧ j ≠ X ∧ v'.ownBlock ≠ some j) ∧ (w5.setCell ⟨X, 1, none⟩ v').heap[j]? = w2.heap[j]? := by
    intro j hj hjX hne hl
    refine ⟨⟨hj, hjX, ?_⟩, ?_⟩
    · rcases hat with e | e
      · rw [e]; exact hne
      · rw [e]; intro x; cases x; omega
    · rw [Below.heap_setCell _ _ _ _ (show j ≠ X from hjX), hgr.block j (by omega) (fun e => hne e.symm), hW.block j hl]
  refine ⟨by rw [hk.ps, List.map_append]; rfl, fun y hy => ?_, fun y hy => ?_⟩
  · rw [List.mem_append, List.mem_singleton] at hy
    rcases hy with hy | rfl
    · refine Tree.turn (fun j hS hl => ?_) y (hk.trees y hy)
      have := key j hS.1 hS.2.1 hS.2.2 (by omega)
      exact ⟨this.1, this.2.trans (hb.block j hl (by omega))⟩
    · refine Tree.turn (fun j hS hl => key j ?_ ?_ ?_ hl) y ht
      · have hS' : wr.heap.size ≤ j := hS
        omega
      · have hS' : wr.heap.size ≤ j := hS
        omega
      · intro e
        have hS' : wr.heap.size ≤ j := hS
        have := (hownlt j e).2
        omega
  · rw [List.mem_append, List.mem_singleton] at hy
    rcases hy with hy | rfl
    · exact hk.ok y hy
    · exact ho
theorem KidsI.tree {xs : List Ex} (h : LoopI w0 q B X op wr lv ps) (hk : KidsI w0.heap.size X wr lv ps xs) {o : Int} (hop : op = opW o) : Tree wr (fun j => w0.heap.size ≤ j) ⟨X, o, .empty, noB, 0, xs⟩ := by
  rw [Tree_iff]
  have hlo := h.lo
  have hl : ps.length = xs.length := by rw [hk.ps, List.length_map]
  refine ⟨hlo, ⟨lv, by rw [← hop]; exact h.blk, ?_⟩, fun x hx => Tree.turn (fun j hS _ => ⟨hS.1, rfl⟩) x (hk.trees x hx)⟩
  have h2 := RowIn.of_owns h.own
  rw [hl, hk.ps] at h2
  exact h2
end
/-- how far a reader has still to go -/
def mR (q B : Nat) (s : ByteArray) (w : World) : Nat :=
  match w.cell? ⟨q, 3, none⟩ with
  | some (.int _ e) => if e ≠ 0 then 0 else match w.cell? ⟨q, 1, none⟩ with
    | some (.int _ k) => match w.cell? ⟨B, k.toNat * 259 + 258, none⟩ with
      | some (.int _ f) => 1 + (s.size - f).toNat
      | _ => 0
    | _ => 0
  | _ => 0
section
variable {w : World} {q B cap : Nat} {s : ByteArray} {T : List Tk} {d a : Int}
theorem RS.mR_ok {k : Nat} {t : Tk} (h : RS w q B cap s T k d 0 a) (ht : T[k]? = some t) : mR q B s w = 1 + (s.size - t.from_).toNat := by
  obtain ⟨c0, c1, c2, c3, c4, cf, hlt⟩ := five h.rd
  obtain ⟨str, f, _, d0, d1, d2, df, hk, hm, hB⟩ := h.cells k t ht
  unfold mR
  rw [c3]
  dsimp only
  rw [if_neg (by omega), c1]
  dsimp only
  rw [Int.toNat_natCast, d2]
theorem RS.mR_err {k e : Int} (h : RS w q B cap s T k d e a) (he : e ≠ 0) : mR q B s w = 0 := by
  obtain ⟨c0, c1, c2, c3, c4, cf, hlt⟩ := five h.rd
  unfold mR
  rw [c3]
  dsimp only
  rw [if_pos he]
end
theorem OkX.mkRow {b : Nat} {xs : List Ex} (hx : ∀ x ∈ xs, OkX x) (h1 : xs.length ≠ 1) : OkX ⟨b, 5, .empty, noB, 0, xs⟩ := by
  rw [OkX_iff]
  exact ⟨by simp, by simp, by simp, by simp, fun _ => h1, by simp, hx⟩
theorem OkX.mkChoice {b : Nat} {xs : List Ex} (hx : ∀ x ∈ xs, OkX x) (h1 : 2 ≤ xs.length) : OkX ⟨b, 6, .empty, noB, 0, xs⟩ := by
  rw [OkX_iff]
  exact ⟨by simp, by simp, by simp, by simp, by simp, fun _ => h1, hx⟩
theorem join_single {k : Int} (hk : k = 5 ∨ k = 6) {e : Ex} (h : OkX e) : joinF k [e.norm] = e.norm := by
  have hw := norm_wide e h
  unfold joinF
  by_cases hx : e.norm.kind = k
  · rw [show flatL k [e.norm] = e.norm.kids by simp [flatL, hx], joinL_two k (hw (by omega))]
    rcases norm_of h with ⟨h1, h2⟩ | ⟨h1, h3, h2⟩ | ⟨h1, h3, h2⟩
    · rw [h2] at hx
      have hx' : e.op = k := hx
      exact absurd (by omega) h1
    · rw [h2] at hx
      simp [nd0] at hx
      omega
    · rw [h2] at hx ⊢
      have : e.op = k := hx
      rw [this]
      rfl
  · rw [show flatL k [e.norm] = [e.norm] by simp [flatL, hx]]
    rfl
end Go.Proofs.YtbojcemamhiodaaGreatDoor
namespace Go.Proofs.YtbojcemamhiodaaGreatDoor
open Go.RowKit
/-- an operation of a region that draws its order, where it has no guard -/
theorem step_wp {P : Program} {ops : Array Oper} {o : Oper} {a : Act} {w : World} {K : Act → World → Prop} {Q : Exit → Act → World → Prop} {E : Prop} (hgd : o.guard = none) (h : Oper.wp P o a w K Q) : if Region.wanted o (yielded ops a.tmps) = true then Oper.wp P o a w K Q else E := by
  have hw : Region.wanted o (yielded ops a.tmps) = true := by simp [Region.wanted, hgd]
  rw [if_pos hw]
  exact h
theorem ptr_new {w : World} {b : Nat} : ∀ j u, [Value.pointer (some ⟨b, 0, none⟩)][j]? = some u → (w.alloc (.cells #[.pointer (some ⟨b, 0, none⟩)] 61)).cell? ((⟨w.heap.size, 0, none⟩ : Addr).add j) = some u := World.news_of_block (heap_alloc_new w (.cells #[.pointer (some ⟨b, 0, none⟩)] 61))
theorem own_at {w : World} {lo : Nat} {ao : Option Addr} {n cp : Nat} {ps : List Value} (h : w.ownsRow lo 61 1 (.slice ao n cp) ps.length ps) (h1 : ps.length = 1) : ∃ g v, ao = some ⟨g, 0, none⟩ ∧ n = 1 ∧ ps = [v] ∧ w.cell? ⟨g, 0, none⟩ = some v ∧ w.frozen? ⟨g, 0, none⟩ = false ∧ g < w.heap.size ∧ lo ≤ g := by
  match ps, h1, h with
  | [v], _, h =>
    rcases h.2 with ⟨_, h2⟩ | ⟨g, cap, cur, hv, hg, hh, c1, c2, c3, c4⟩
    · simp at h2
    · injection hv with e1 e2 e3
      refine ⟨g, v, e1, by simpa using e2, rfl, ?_, ?_, (Array.getElem?_eq_some_iff.1 hh).1, hg⟩
      · have h3 : cur.toList[0]? = some v := by
          have := congrArg (fun l => l[0]?) c4
          simpa [List.getElem?_take] using this
        simp only [World.cell?, hh]
        simpa using h3
      · simp [World.frozen?, hh]

/-- where row's loop stands -/
def RowI (w : World) (q B cap : Nat) (s : ByteArray) (T : List Tk) (d : Int) (E : Tk → Int → Res) (t : Tk) (X : Nat) (lv : Value) (ps : List Value) (wr : World) : Prop :=
  LoopI w q B X ⟨#[114, 111, 119]⟩ wr lv ps ∧
  ((∃ (kf k' : Nat) (t' : Tk) (xs : List Ex), rowF s E (s.size + 1) [] t d = rowF s E kf (normL xs) t' d ∧ (s.size : Int) < kf + t'.from_ ∧ T[k']? = some t' ∧ RS wr q B cap s T k' d 0 0 ∧ KidsI w.heap.size X wr lv ps xs ∧ (xs.length : Int) ≤ t'.from_) ∨
   (∃ (r : Res) (kk : Int), rowF s E (s.size + 1) [] t d = errR r.err r.tk r.d ∧ r.err ≠ 0 ∧ RS wr q B cap s T kk d r.err r.tk.from_ ∧ 1 ≤ ps.length ∧ (ps.length : Int) ≤ s.size + 1))
theorem RowI.start {w : World} {q B cap : Nat} {s : ByteArray} {T : List Tk} {d : Int} {E : Tk → Int → Res} {t : Tk} {k : Nat} (hok : TkOk s t) (ht : T[k]? = some t) (hr : RS w q B cap s T k d 0 0) :
    RowI w q B cap s T d E t w.heap.size (.slice none 0 0) [] (w.alloc (.cells (expV ⟨#[114, 111, 119]⟩ (.slice none 0 0) .empty noB 0).toArray 93)) := by
  have h0 := hok.from0
  refine ⟨⟨ex_new w _ _ _ _ _, World.ownsRow_nil _ _ _ _, by simp [Value.ownBlock], by simp, (But.refl _ _).alloc _, Nat.le_refl _, hr.lt, hr.tok.lt⟩, .inl ⟨s.size + 1, k, t, [], rfl, by omega, ht, hr.alloc _, ⟨rfl, by simp, by simp⟩, by simpa using h0⟩⟩
section
variable {w wr : World} {q B cap X : Nat} {s : ByteArray} {T : List Tk} {d : Int} {lv : Value} {ps : List Value} {xs : List Ex} {R : Res} {t' : Tk} {k' : Nat} {o : Int}
/-- one part alone stands for itself -/
theorem loop_done1 (ho : o = 5 ∨ o = 6) (h : LoopI w q B X (opW o) wr lv ps) (hk : KidsI w.heap.size X wr lv ps xs) (hn : ps.length = 1) (hE : R = ⟨0, joinF o (normL xs), t', d⟩) (ht : T[k']? = some t') (hrs : RS wr q B cap s T k' d 0 0) :
    ∃ b, ps = [.pointer (some ⟨b, 0, none⟩)] ∧ OkO w q B cap s T d R b wr := by
  have hl : xs.length = 1 := by have := hk.ps; rw [this, List.length_map] at hn; exact hn
  match xs, hl, hk, hE with
  | [x], _, hk, hE =>
    have hx := hk.ok x (by simp)
    refine ⟨x.b, hk.ps, h.bt, .inl ⟨by rw [hE], x, rfl, Tree.turn (fun j hS _ => ⟨hS.1, rfl⟩) x (hk.trees x (by simp)), hx, ?_, k', by rw [hE]; exact ht, hrs⟩⟩
    rw [hE]
    show x.norm = joinF o [x.norm]
    rw [join_single ho hx]
theorem loop_done2 (ho : o = 5 ∨ o = 6) (h : LoopI w q B X (opW o) wr lv ps) (hk : KidsI w.heap.size X wr lv ps xs) (hn : ps.length ≠ 1) (h6 : o = 6 → 1 ≤ ps.length) (hE : R = ⟨0, joinF o (normL xs), t', d⟩) (ht : T[k']? = some t') (hrs : RS wr q B cap s T k' d 0 0) :
    OkO w q B cap s T d R X wr := by
  have hl : xs.length = ps.length := by rw [hk.ps, List.length_map]
  refine ⟨h.bt, .inl ⟨by rw [hE], ⟨X, o, .empty, noB, 0, xs⟩, rfl, KidsI.tree h hk rfl, ?_, ?_, k', by rw [hE]; exact ht, hrs⟩⟩
  · rcases ho with rfl | rfl
    · exact OkX.mkRow hk.ok (by omega)
    · exact OkX.mkChoice hk.ok (by have := h6 rfl; omega)
  · rw [hE, Ex.norm_join _ ho]
theorem loop_err {r : Res} {kk : Int} {b : Nat} (h : LoopI w q B X (opW o) wr lv ps) (hE : R = errR r.err r.tk r.d) (he : r.err ≠ 0) (hrs : RS wr q B cap s T kk d r.err r.tk.from_) : OkO w q B cap s T d R b wr :=
  ⟨h.bt, .inr ⟨by rw [hE]; exact he, kk, by rw [hE]; exact hrs⟩⟩
end
section
variable {w w1 w2 W w5 : World} {q B cap X b kf : Nat} {s : ByteArray} {T : List Tk} {d : Int} {E : Tk → Int → Res} {t t' : Tk} {lv v' : Value} {ps : List Value} {xs : List Ex} {r R : Res}
/-- the reader behind a part that was read, and the part laid in -/
theorem loop_rs {op : ByteArray} (hL : LoopI w q B X op w1 lv ps) (ho : OkO w1 q B cap s T d r b w2) (hW : Below w2.heap.size w2 W) (hgr : W.grownBy w5 lv.ownBlock) :
    (r.err = 0 ∧ ∃ k' : Nat, T[k']? = some r.tk ∧ RS (w5.setCell ⟨X, 1, none⟩ v') q B cap s T k' d 0 0) ∨ (r.err ≠ 0 ∧ ∃ kk : Int, RS (w5.setCell ⟨X, 1, none⟩ v') q B cap s T kk d r.err r.tk.from_) := by
  rcases ho.out with ⟨h0, x, hxb, hxt, hxo, hxn, k', hk', hrs⟩ | ⟨h0, kk, hrs⟩
  · exact .inl ⟨h0, k', hk', hL.rs hrs hW hgr⟩
  · exact .inr ⟨h0, kk, hL.rs hrs hW hgr⟩
theorem loop_meas {op : ByteArray} {M : Nat} (hL : LoopI w q B X op w1 lv ps) (ho : OkO w1 q B cap s T d r b w2) (hW : Below w2.heap.size w2 W) (hgr : W.grownBy w5 lv.ownBlock) (hM : M = 1 + (s.size - t'.from_).toNat) (hlt : r.err = 0 → t'.from_ < r.tk.from_) (hle : r.tk.from_ ≤ s.size) :
    mR q B s (w5.setCell ⟨X, 1, none⟩ v') < M := by
  rcases loop_rs (v' := v') hL ho hW hgr with ⟨h0, k', hk', hrs⟩ | ⟨h0, kk, hrs⟩
  · rw [hrs.mR_ok hk', hM]
    have := hlt h0
    omega
  · rw [hrs.mR_err h0, hM]
    omega
theorem RowI.next (hL : LoopI w q B X ⟨#[114, 111, 119]⟩ w1 lv ps) (hK : KidsI w.heap.size X w1 lv ps xs) (hE : rowF s E (s.size + 1) [] t d = rowF s E (kf + 1) (normL xs) t' d) (ha : atIt s t' = true) (hr : itemF s E (s.size + 1) t' d = r) (hf : FineI s t'.from_ d r) (hfu : (s.size : Int) < (kf + 1 : Nat) + t'.from_) (hxl : (xs.length : Int) ≤ t'.from_)
    (ho : OkO w1 q B cap s T d r b w2) (hW : Below w2.heap.size w2 W) (hgr : W.grownBy w5 lv.ownBlock) (hown : w5.ownsRow w.heap.size 61 1 v' (ps.length + 1) (ps ++ [.pointer (some ⟨b, 0, none⟩)])) (hat : v'.ownBlock = lv.ownBlock ∨ v'.ownBlock = some W.heap.size) (hts : t'.from_ ≤ s.size) :
    RowI w q B cap s T d E t X v' (ps ++ [.pointer (some ⟨b, 0, none⟩)]) (w5.setCell ⟨X, 1, none⟩ v') := by
  have hpl : ps.length = xs.length := by rw [hK.ps, List.length_map]
  refine ⟨hL.next ho.bt hW hgr hown hat, ?_⟩
  rcases ho.out with ⟨he, x, hxb, hxt, hxo, hxn, k', hk', hrs⟩ | ⟨he, kk, hrs⟩
  · left
    have hd := hf.fine.dep he
    have hlt := hf.lt he
    refine ⟨kf, k', r.tk, xs ++ [x], ?_, by omega, hk', hL.rs hrs hW hgr, ?_, by simp; omega⟩
    · rw [hE, rowF_yes ha hr he, hd, normL_append, ← hxn]
      rfl
    · have := KidsI.next hL hK ho.bt hxt hxo hW hgr hat
      rwa [show ptrX x = .pointer (some ⟨b, 0, none⟩) by unfold ptrX; rw [hxb]] at this
  · right
    exact ⟨r, kk, by rw [hE, rowF_err ha hr he], he, hL.rs hrs hW hgr, by simp, by simp; omega⟩
end
theorem opW5 : (⟨#[114, 111, 119]⟩ : ByteArray) = opW 5 := rfl
theorem opW6 : (⟨#[47]⟩ : ByteArray) = opW 6 := rfl

set_option maxRecDepth 4000 in
set_option maxHeartbeats 4000000 in
theorem refRow_any (w : World) (q B cap : Nat) (s : ByteArray) (T : List Tk) (d : Int) (E : Tk → Int → Res) (t : Tk) (k : Nat) (hs : s.size ≤ 400) (hT : ChainT s T) (ht : T[k]? = some t) (hr : RS w q B cap s T k d 0 0)
    (hF : d < 12 → FineE s E (d + 1)) (hI : SaidIt s q B cap T 94 (itemF s E (s.size + 1)) d) :
    Calls Tryz.prog 62 #[.pointer (some ⟨q, 0, none⟩)] w (OutX w q B cap s T d (rowF s E (s.size + 1) [] t d)) := by
  obtain ⟨hok, _, _⟩ := hT.ok k t ht
  have HS := hide (RowI.start (E := E) hok ht hr)
  have hze := zeroExp
  have hL0 : (expV .empty (.slice none 0 0) .empty noB 0).set 0 (.string ⟨#[114, 111, 119]⟩) = expV ⟨#[114, 111, 119]⟩ (.slice none 0 0) .empty noB 0 := rfl
  have hlen := expV_len
  have HI := hide hI
  have HF := hide hF
  obtain ⟨i, hi, hz, hsz, hby⟩ := info_parts infoPtr
  clear hI hF hr
  go_enter Tryz.func62, Tryz.ntmps62
  go_wp2_with fail
  go_loopw [] (fun wr => ∃ (ao : Option Addr) (cp : Nat) (ps : List Value), Hid (RowI w q B cap s T d E t w.heap.size (.slice ao ps.length cp) ps wr)) (fun wr => mR q B s wr)
  case atStart => exact ⟨none, 0, [], HS⟩
  case round =>
    obtain ⟨ao, cp, ps, HR⟩ := hrel
    clear HS hL0 hze
    obtain ⟨hL, hcase⟩ := unhide HR
    have HL := hide hL
    clear HR hL
    rcases hcase with ⟨kf, k', t', xs, hE, hfu, ht', hrs, hkid, hxl⟩ | ⟨r, kk, hE, he, hrs, h1, h2⟩
    · obtain ⟨hok', h17, hnx⟩ := hT.ok k' t' ht'
      have hle := hok'.le
      have hsz' := hok'.size
      obtain ⟨kf, rfl⟩ : ∃ m, kf = m + 1 := ⟨kf - 1, by omega⟩
      have HK := hide hkid
      have HRS := hide hrs
      have HIt := hide (item_ok hT hrs ht')
      have hpl2 : ps.length ≤ 1000 := by rw [hkid.ps, List.length_map]; omega
      clear hkid hrs hnx h17
      cases ha : atIt s t'
      · rw [ha] at HIt
        have HE := hide (hE.trans (rowF_no ha))
        clear ha hE
        go_wp2_with fail
        go_at_call 93
        refine (unhide HIt).mono ?_
        rintro e w1 ⟨rfl, hb1⟩
        have HL1 := hide ((unhide HL).below hb1)
        have HK1 := hide ((unhide HK).below hb1)
        have HR1 := hide ((unhide HRS).below hb1)
        clear hb1
        have hblk := (unhide HL1).blk
        have c1 := hblk.c1
        have cl := hblk.lt
        clear hblk
        by_cases hn : ps.length = 1
        · obtain ⟨g, v, rfl, hn1, hps, cg, cgf, cgl, _⟩ := own_at (unhide HL1).own hn
          obtain ⟨b, hb, hok1⟩ := loop_done1 (o := 5) (.inl rfl) (unhide HL1) (unhide HK1) hn (unhide HE) ht' (unhide HR1)
          obtain rfl : v = .pointer (some ⟨b, 0, none⟩) := by rw [hb] at hps; simpa using hps.symm
          have HOk := hide hok1
          clear hb hok1
          clear hn hps
          go_wp2
          go_ret
          exact ⟨b, rfl, unhide HOk⟩
        · have hnb : ((ps.length : Int) == 1) = false := by simp; omega
          have HOk := hide (loop_done2 (o := 5) (.inl rfl) (unhide HL1) (unhide HK1) hn (fun h => by omega) (unhide HE) ht' (unhide HR1))
          clear hn
          go_wp2
          go_ret
          exact ⟨_, rfl, unhide HOk⟩
      · rw [ha] at HIt
        have h2' := atIt_ge ha
        have hf := itemF_fine (unhide HF) (s.size + 1) t' hok' h2'
        have HY := hide (fun r => rowF_yes (s := s) (E := E) (k := kf) (acc := normL xs) (t := t') (d := d) (r := r) ha)
        have HX := hide (fun r => rowF_err (s := s) (E := E) (k := kf) (acc := normL xs) (t := t') (d := d) (r := r) ha)
        have HSg := hide (fun W hW => unhide HI W k' t' ht' ha hW)
        generalize hrr : itemF s E (s.size + 1) t' d = r at hf HSg
        have Hr := hide hrr
        have HE := hide hE
        have Ha := hide ha
        clear hrr hE ha
        go_wp2_with fail
        go_at_call 93
        refine (unhide HIt).mono ?_
        rintro e w1 ⟨rfl, hb1⟩
        have HL1 := hide ((unhide HL).below hb1)
        have HK1 := hide ((unhide HK).below hb1)
        have HR1 := hide ((unhide HRS).below hb1)
        have hmr := (unhide HRS).mR_ok ht'
        clear hb1
        have c1 := (unhide HL1).blk.c1
        have cl := (unhide HL1).blk.lt
        have hlo := (unhide HL1).lo
        have hbz := (unhide HL1).bt.size
        go_wp2_with fail
        go_region_law
          (first
          | (refine step_wp (by rfl) ?_; go_simp; go_at_call 94; refine (unhide HSg _ ((unhide HR1).below (Below.refl _ _).drew)).mono ?_; rintro e w2 ⟨b, rfl, ho⟩; have HO := hide ho; clear ho; have HB2 := hide (But.from_drew (unhide HO).bt); have hX2 := (unhide HL1).blk.but (unhide HB2) (by have := (unhide HL1).qx; omega); have hS2 := hX2.c1; have hz2 := (unhide HB2).size; have hxl2 := hX2.lt; have hfz2 := hX2.fz; have HO2 := hide (show (w2.alloc (.cells #[.pointer (some ⟨b, 0, none⟩)] 61)).ownsRow w.heap.size 61 1 (.slice ao ps.length cp) ps.length ps from own_keep (unhide HL1).own fun j hj => (Below.heap_alloc _ _ _ (by have := ((unhide HL1).own.lt j hj).2; omega)).trans ((unhide HB2).block j ((unhide HL1).own.lt j hj).2 (by have := ((unhide HL1).own.lt j hj).1; have := (unhide HL1).qx; omega))))
          | (refine step_append_lies (w2.alloc (.cells #[.pointer (some ⟨b, 0, none⟩)] 61)) (by rfl) (.tmp 12) (.tmp 15) 30 (by rfl) w.heap.size 61 i _ 1 8 Tryz.underlying30 hi hz hsz hby rfl (by omega) (.slice ao ps.length cp) ps.length ps (by rfl) (unhide HO2) ⟨w2.heap.size, 0, none⟩ 1 1 [.pointer (some ⟨b, 0, none⟩)] (by rfl) rfl ptr_new (by simp; rfl) (by omega) (by unfold maxLen; omega) (by omega) (by simp; omega) (w2.heap.size + 1) (by simp) ?_; intro g5 cap5 w5 hown5 hgr5 hat5 hlt5; have HG5 := hide hgr5; have HO5 := hide hown5; have HA5 := hide hat5; clear hgr5 hown5 hat5; have hX5 := ((unhide HG5).block w.heap.size (by simp; omega) (fun e => (unhide HL1).apart e.symm)).trans (heap_old hX2); have hS3 := ExB.c1 hX5; have hxl5 := ExB.lt hX5; have hfz5 := ExB.fz hX5))
        all_goals
          have HOd := hide (show OkO w1 q B cap s T d r b w2 from ⟨unhide HB2, (unhide HO).out⟩)
          have hWb := hide (show Below w2.heap.size w2 (w2.alloc (.cells #[.pointer (some ⟨b, 0, none⟩)] 61)) from (Below.refl _ _).alloc (Nat.le_refl _) _)
          have hatt : Hid ((Value.slice (some ⟨g5, 0, none⟩) (ps.length + 1) cap5).ownBlock = (Value.slice ao ps.length cp).ownBlock ∨ (Value.slice (some ⟨g5, 0, none⟩) (ps.length + 1) cap5).ownBlock = some (w2.alloc (.cells #[.pointer (some ⟨b, 0, none⟩)] 61)).heap.size) := by
            rcases unhide HA5 with e | e
            · exact .inl e.symm
            · right
              rw [e]
              simp [Value.ownBlock]
          have HN := hide (RowI.next (t := t) (unhide HL1) (unhide HK1) (unhide HE) (unhide Ha) (unhide Hr) hf hfu hxl (unhide HOd) (unhide hWb) (unhide HG5) (unhide HO5) (unhide hatt) (by omega))
          have HM := hide (loop_meas (v' := .slice (some ⟨g5, 0, none⟩) (ps.length + 1) cap5) (unhide HL1) (unhide HOd) (unhide hWb) (unhide HG5) hmr hf.lt (by have := hf.fine.tk.le; have := hf.fine.tk.size; omega))
          go_wp2_with fail
          go_roundw
          case rel =>
            refine ⟨some ⟨g5, 0, none⟩, cap5, ps ++ [.pointer (some ⟨b, 0, none⟩)], ?_⟩
            rw [List.length_append]
            exact HN
          case measure => exact unhide HM
    · have HIt := hide (item_err hrs he)
      have HRS := hide hrs
      have HE := hide hE
      have He := hide he
      clear hrs hE he
      go_wp2_with fail
      go_at_call 93
      refine (unhide HIt).mono ?_
      rintro e w1 ⟨rfl, hb1⟩
      have HL1 := hide ((unhide HL).below hb1)
      have HR1 := hide ((unhide HRS).below hb1)
      clear hb1
      have hblk := (unhide HL1).blk
      have c1 := hblk.c1
      have cl := hblk.lt
      clear hblk
      by_cases hn : ps.length = 1
      · obtain ⟨g, v, rfl, hn1, hps, cg, cgf, cgl, _⟩ := own_at (unhide HL1).own hn
        obtain ⟨b, hb⟩ := (unhide HL1).ptr v (by rw [hps]; simp)
        subst hb
        have HOk := hide (loop_err (o := 5) (b := b) (unhide HL1) (unhide HE) (unhide He) (unhide HR1))
        clear hn hps
        go_wp2
        go_ret
        exact ⟨b, rfl, unhide HOk⟩
      · have hnb : ((ps.length : Int) == 1) = false := by simp; omega
        have HOk := hide (loop_err (o := 5) (b := w.heap.size) (unhide HL1) (unhide HE) (unhide He) (unhide HR1))
        clear hn
        go_wp2
        go_ret
        exact ⟨_, rfl, unhide HOk⟩
end Go.Proofs.YtbojcemamhiodaaGreatDoor
namespace Go.Proofs.YtbojcemamhiodaaGreatDoor
open Go.RowKit
/-- where choice's loop stands -/
def ChI (w : World) (q B cap : Nat) (s : ByteArray) (T : List Tk) (d : Int) (E : Tk → Int → Res) (t : Tk) (X : Nat) (lv : Value) (ps : List Value) (wr : World) : Prop :=
  LoopI w q B X ⟨#[47]⟩ wr lv ps ∧ 1 ≤ ps.length ∧
  ((∃ (kf k' : Nat) (t' : Tk) (xs : List Ex), exprF s E t d = rowsF s E kf (normL xs) t' d ∧ (s.size : Int) < kf + t'.from_ ∧ T[k']? = some t' ∧ RS wr q B cap s T k' d 0 0 ∧ KidsI w.heap.size X wr lv ps xs ∧ (xs.length : Int) ≤ t'.from_ + 1) ∨
   (∃ (r : Res) (kk : Int), exprF s E t d = errR r.err r.tk r.d ∧ r.err ≠ 0 ∧ RS wr q B cap s T kk d r.err r.tk.from_ ∧ (ps.length : Int) ≤ s.size + 2))
section
variable {w w1 w2 W w5 : World} {q B cap X b kf : Nat} {s : ByteArray} {T : List Tk} {d : Int} {E : Tk → Int → Res} {t t' : Tk} {lv v' : Value} {ps : List Value} {xs : List Ex} {r R : Res}
theorem ChI.start (hq : q < w.heap.size) (hB : B < w.heap.size) (hr : rowF s E (s.size + 1) [] t d = r) (hf : Fine s t.from_ d r) (h0 : 0 ≤ t.from_) (ho : OkO w q B cap s T d r b w2) :
    ChI w q B cap s T d E t (w2.heap.size + 1) (.slice (some ⟨w2.heap.size, 0, none⟩) 1 1) [.pointer (some ⟨b, 0, none⟩)] ((w2.alloc (.cells #[.pointer (some ⟨b, 0, none⟩)] 61)).alloc (.cells (expV ⟨#[47]⟩ (.slice (some ⟨w2.heap.size, 0, none⟩) 1 1) .empty noB 0).toArray 93)) := by
  have hz := ho.bt.size
  have hB2 : Below w2.heap.size w2 ((w2.alloc (.cells #[.pointer (some ⟨b, 0, none⟩)] 61)).alloc (.cells (expV ⟨#[47]⟩ (.slice (some ⟨w2.heap.size, 0, none⟩) 1 1) .empty noB 0).toArray 93)) := ((Below.refl _ _).alloc (Nat.le_refl _) _).alloc (by simp) _
  have hex := ex_new (w2.alloc (.cells #[.pointer (some ⟨b, 0, none⟩)] 61)) ⟨#[47]⟩ (.slice (some ⟨w2.heap.size, 0, none⟩) 1 1) .empty noB 0
  rw [show (w2.alloc (.cells #[.pointer (some ⟨b, 0, none⟩)] 61)).heap.size = w2.heap.size + 1 from by simp] at hex
  refine ⟨⟨hex, ?_, ?_, ?_, ho.bt.below hB2 hz, by omega, hq, hB⟩, by simp, ?_⟩
  · refine ⟨rfl, .inr ⟨w2.heap.size, 1, #[.pointer (some ⟨b, 0, none⟩)], rfl, hz, ?_, Nat.le_refl _, by unfold maxLen; omega, rfl, rfl⟩⟩
    exact heap_old (heap_alloc_new w2 _)
  · simp [Value.ownBlock]
  · intro p hp
    rw [List.mem_singleton] at hp
    exact ⟨b, hp⟩
  · have hge := hf.ge
    have hle := hf.tk.le
    have hsz := hf.tk.size
    rcases ho.out with ⟨he, x, hxb, hxt, hxo, hxn, k', hk', hrs⟩ | ⟨he, kk, hrs⟩
    · left
      have hd := hf.dep he
      refine ⟨s.size + 1, k', r.tk, [x], ?_, by omega, hk', hrs.below hB2, ⟨?_, fun y hy => ?_, fun y hy => ?_⟩, by simp; omega⟩
      · rw [exprF_ok hr he, hd, ← hxn]
        rfl
      · unfold ptrX
        rw [← hxb]
        rfl
      · rw [List.mem_singleton] at hy
        rw [hy]
        refine Tree.turn (fun j hS hl => ⟨⟨hS, by omega, ?_⟩, hB2.block j hl⟩) x hxt
        simp [Value.ownBlock]
        omega
      · rw [List.mem_singleton] at hy
        rw [hy]
        exact hxo
    · right
      exact ⟨r, kk, exprF_err hr he, he, hrs.below hB2, by simp; omega⟩
theorem ChI.next (hL : LoopI w q B X ⟨#[47]⟩ w1 lv ps) (hK : KidsI w.heap.size X w1 lv ps xs) (hE : exprF s E t d = rowsF s E (kf + 1) (normL xs) t' d) (h6 : t'.k = 6) (hr : rowF s E (s.size + 1) [] (nextT s t'.to) d = r) (hf : Fine s (nextT s t'.to).from_ d r) (hlt : t'.from_ < (nextT s t'.to).from_) (hfu : (s.size : Int) < (kf + 1 : Nat) + t'.from_) (hxl : (xs.length : Int) ≤ t'.from_ + 1)
    (ho : OkO w1 q B cap s T d r b w2) (hW : Below w2.heap.size w2 W) (hgr : W.grownBy w5 lv.ownBlock) (hown : w5.ownsRow w.heap.size 61 1 v' (ps.length + 1) (ps ++ [.pointer (some ⟨b, 0, none⟩)])) (hat : v'.ownBlock = lv.ownBlock ∨ v'.ownBlock = some W.heap.size) (hts : t'.from_ ≤ s.size) :
    ChI w q B cap s T d E t X v' (ps ++ [.pointer (some ⟨b, 0, none⟩)]) (w5.setCell ⟨X, 1, none⟩ v') := by
  have hpl : ps.length = xs.length := by rw [hK.ps, List.length_map]
  have hge := hf.ge
  refine ⟨hL.next ho.bt hW hgr hown hat, by simp, ?_⟩
  rcases ho.out with ⟨he, x, hxb, hxt, hxo, hxn, k', hk', hrs⟩ | ⟨he, kk, hrs⟩
  · left
    have hd := hf.dep he
    refine ⟨kf, k', r.tk, xs ++ [x], ?_, by omega, hk', hL.rs hrs hW hgr, ?_, by simp; omega⟩
    · rw [hE, rowsF_yes h6 hr he, hd, normL_append, ← hxn]
      rfl
    · have := KidsI.next hL hK ho.bt hxt hxo hW hgr hat
      rwa [show ptrX x = .pointer (some ⟨b, 0, none⟩) by unfold ptrX; rw [hxb]] at this
  · right
    exact ⟨r, kk, by rw [hE, rowsF_err h6 hr he], he, hL.rs hrs hW hgr, by simp; omega⟩
theorem LoopI.setK {op : ByteArray} (h : LoopI w q B X op w1 lv ps) (v : Value) : LoopI w q B X op (w1.setCell ⟨q, 1, none⟩ v) lv ps := by
  have hlo := h.lo
  have hqx := h.qx
  refine ⟨h.blk.other (show q ≠ X by omega) _, own_keep h.own fun j hj => Below.heap_setCell _ _ _ _ (show j ≠ q from fun e => by have := (h.own.lt j hj).1; omega), h.apart, h.ptr, h.bt.setCell (.inl rfl) _, hlo, hqx, h.bx⟩
theorem KidsI.setK {op : ByteArray} (h : LoopI w q B X op w1 lv ps) (hk : KidsI w.heap.size X w1 lv ps xs) (v : Value) : KidsI w.heap.size X (w1.setCell ⟨q, 1, none⟩ v) lv ps xs := by
  have hqx := h.qx
  refine ⟨hk.ps, fun x hx => Tree.turn (fun j hS _ => ⟨hS, Below.heap_setCell _ _ _ _ (show j ≠ q from fun e => by have := hS.1; omega)⟩) x (hk.trees x hx), hk.ok⟩
end
set_option maxRecDepth 4000 in
set_option maxHeartbeats 4000000 in
theorem refChoice_any (w : World) (q B cap : Nat) (s : ByteArray) (T : List Tk) (d : Int) (E : Tk → Int → Res) (t : Tk) (k : Nat) (hs : s.size ≤ 400) (hT : ChainT s T) (ht : T[k]? = some t) (hr : RS w q B cap s T k d 0 0)
    (hF : d < 12 → FineE s E (d + 1)) (hW : SaidCh s q B cap T 62 (rowF s E (s.size + 1) []) d) :
    Calls Tryz.prog 37 #[.pointer (some ⟨q, 0, none⟩)] w (OutX w q B cap s T d (exprF s E t d)) := by
  obtain ⟨hok, _, _⟩ := hT.ok k t ht
  have hqw := hr.lt
  have hBw := hr.tok.lt
  have hf0 := (rowF_fine hF (s.size + 1) [] t hok (Int.le_refl _) (.nil (Int.le_refl _))).1
  have HS := hide (fun b w2 (ho : OkO w q B cap s T d (rowF s E (s.size + 1) [] t d) b w2) => ChI.start (E := E) (t := t) hqw hBw rfl hf0 hok.from0 ho)
  have HC0 := hide (hW w k t ht hr)
  have hze := zeroExp
  have hL0 : ∀ v, ((expV .empty (.slice none 0 0) .empty noB 0).set 0 (.string ⟨#[47]⟩)).set 1 v = expV ⟨#[47]⟩ v .empty noB 0 := fun _ => rfl
  have hlen := expV_len
  have HI := hide hW
  have HF := hide hF
  obtain ⟨i, hi, hz, hsz, hby⟩ := info_parts infoPtr
  clear hW hF hr hf0
  go_enter Tryz.func37, Tryz.ntmps37
  go_wp2_with fail
  go_at_call 62
  refine (unhide HC0).mono ?_
  rintro e w0 ⟨b0, rfl, ho0⟩
  have HS0 := hide (unhide HS b0 w0 ho0)
  have hz0 := ho0.bt.size
  clear HS HC0 ho0
  go_wp2_with fail
  go_loopw [] (fun wr => ∃ (ao : Option Addr) (cp : Nat) (ps : List Value), Hid (ChI w q B cap s T d E t (w0.heap.size + 1) (.slice ao ps.length cp) ps wr)) (fun wr => mR q B s wr)
  case atStart => exact ⟨some ⟨w0.heap.size, 0, none⟩, 1, [.pointer (some ⟨b0, 0, none⟩)], HS0⟩
  case round =>
    obtain ⟨ao, cp, ps, HR⟩ := hrel
    clear HS0 hL0 hze
    obtain ⟨hL, hps1, hcase⟩ := unhide HR
    have HL := hide hL
    clear HR hL
    rcases hcase with ⟨kf, k', t', xs, hE, hfu, ht', hrs, hkid, hxl⟩ | ⟨r, kk, hE, he, hrs, h2⟩
    · obtain ⟨hok', h17, hnx⟩ := hT.ok k' t' ht'
      have hle := hok'.le
      have hsz' := hok'.size
      have hf0' := hok'.from0
      obtain ⟨kf, rfl⟩ : ∃ m, kf = m + 1 := ⟨kf - 1, by omega⟩
      have HK := hide hkid
      have HRS := hide hrs
      have HIt := hide (is_ok (whatK 6) hrs ht')
      have hpl2 : ps.length ≤ 1000 := by rw [hkid.ps, List.length_map]; omega
      rw [whatK_eq h17 (by omega)] at HIt
      clear hkid hrs h17
      by_cases h6 : t'.k = 6
      · have hb6 : (t'.k == 6) = true := by simpa using h6
        rw [hb6] at HIt
        have ht2 := hnx (by omega)
        have hlt := hok'.lt (by omega)
        have hnt := hok'.next
        have hf := (rowF_fine (unhide HF) (s.size + 1) [] _ hnt.1 (Int.le_refl _) (.nil (Int.le_refl _))).1
        have HSg := hide (fun W (hW : RS W q B cap s T ((k' : Int) + 1) d 0 0) => unhide HI W (k' + 1) _ ht2 (by rw [show ((k' + 1 : Nat) : Int) = (k' : Int) + 1 by omega]; exact hW))
        generalize hrr : rowF s E (s.size + 1) [] (nextT s t'.to) d = r at hf HSg
        have Hr := hide hrr
        have HE := hide hE
        have H6 := hide h6
        have hkl : (k' : Int) + 1 < T.length := by have := (List.getElem?_eq_some_iff.1 ht2).1; omega
        have hfew := hT.few
        have hmr := (unhide HRS).mR_ok ht'
        have hlt2 : t'.from_ < (nextT s t'.to).from_ := by omega
        clear hrr hE h6 hb6 hnx
        go_wp2_with fail
        go_at_call 38
        refine (unhide HIt).mono ?_
        rintro e w1 ⟨rfl, m1, rfl⟩
        obtain ⟨c0, c1, c2, c3, c4, cf, hqlt⟩ := five ((unhide HRS).drewN m1).rd
        have HL1 := hide ((((unhide HL).below (below_drewN' (Below.refl _ _) m1))).setK (.int .i64 ((k' : Int) + 1)))
        have HK1 := hide (KidsI.setK ((unhide HL).below (below_drewN' (Below.refl _ _) m1)) ((unhide HK).below (below_drewN' (Below.refl _ _) m1)) (.int .i64 ((k' : Int) + 1)))
        have HR1 := hide (((unhide HRS).drewN m1).setK ((k' : Int) + 1))
        have cX := (unhide HL1).blk.c1
        have cl := (unhide HL1).blk.lt
        have hbz := (unhide HL1).bt.size
        have hlo := (unhide HL1).lo
        go_wp2_with fail
        generalize hw1 : (wr.drewN m1).setCell ⟨q, 1, none⟩ (.int .i64 ((k' : Int) + 1)) = w1 at HL1 HK1 HR1 cX cl hbz ⊢
        clear hw1 c0 c1 c2 c3 c4 cf hqlt HL HK HRS
        go_region_law
          (first
          | (refine step_wp (by rfl) ?_; go_simp; go_at_call 62; refine (unhide HSg _ ((unhide HR1).below (Below.refl _ _).drew)).mono ?_; rintro e w2 ⟨b, rfl, ho⟩; have HO := hide ho; clear ho; have HB2 := hide (But.from_drew (unhide HO).bt); have hX2 := (unhide HL1).blk.but (unhide HB2) (by have := (unhide HL1).qx; omega); have hS2 := hX2.c1; have hz2 := (unhide HB2).size; have hxl2 := hX2.lt; have hfz2 := hX2.fz; have HO2 := hide (show (w2.alloc (.cells #[.pointer (some ⟨b, 0, none⟩)] 61)).ownsRow w.heap.size 61 1 (.slice ao ps.length cp) ps.length ps from own_keep (unhide HL1).own fun j hj => (Below.heap_alloc _ _ _ (by have := ((unhide HL1).own.lt j hj).2; omega)).trans ((unhide HB2).block j ((unhide HL1).own.lt j hj).2 (by have := ((unhide HL1).own.lt j hj).1; have := (unhide HL1).qx; omega))))
          | (refine step_append_lies (w2.alloc (.cells #[.pointer (some ⟨b, 0, none⟩)] 61)) (by rfl) (.tmp 22) (.tmp 25) 30 (by rfl) w.heap.size 61 i _ 1 8 Tryz.underlying30 hi hz hsz hby rfl (by omega) (.slice ao ps.length cp) ps.length ps (by rfl) (unhide HO2) ⟨w2.heap.size, 0, none⟩ 1 1 [.pointer (some ⟨b, 0, none⟩)] (by rfl) rfl ptr_new (by simp; rfl) (by omega) (by unfold maxLen; omega) (by omega) (by simp; omega) (w2.heap.size + 1) (by simp) ?_; intro g5 cap5 w5 hown5 hgr5 hat5 hlt5; have HG5 := hide hgr5; have HO5 := hide hown5; have HA5 := hide hat5; clear hgr5 hown5 hat5; have hX5 := ((unhide HG5).block (w0.heap.size + 1) (by simp; omega) (fun e => (unhide HL1).apart e.symm)).trans (heap_old hX2); have hS3 := ExB.c1 hX5; have hxl5 := ExB.lt hX5; have hfz5 := ExB.fz hX5))
        all_goals
          have HOd := hide (show OkO w1 q B cap s T d r b w2 from ⟨unhide HB2, (unhide HO).out⟩)
          have hWb := hide (show Below w2.heap.size w2 (w2.alloc (.cells #[.pointer (some ⟨b, 0, none⟩)] 61)) from (Below.refl _ _).alloc (Nat.le_refl _) _)
          have hatt : Hid ((Value.slice (some ⟨g5, 0, none⟩) (ps.length + 1) cap5).ownBlock = (Value.slice ao ps.length cp).ownBlock ∨ (Value.slice (some ⟨g5, 0, none⟩) (ps.length + 1) cap5).ownBlock = some (w2.alloc (.cells #[.pointer (some ⟨b, 0, none⟩)] 61)).heap.size) := by
            rcases unhide HA5 with e | e
            · exact .inl e.symm
            · right
              rw [e]
              simp [Value.ownBlock]
          have HN := hide (ChI.next (t := t) (unhide HL1) (unhide HK1) (unhide HE) (unhide H6) (unhide Hr) hf hlt2 hfu hxl (unhide HOd) (unhide hWb) (unhide HG5) (unhide HO5) (unhide hatt) (by omega))
          have HM := hide (loop_meas (v' := .slice (some ⟨g5, 0, none⟩) (ps.length + 1) cap5) (unhide HL1) (unhide HOd) (unhide hWb) (unhide HG5) hmr (fun _ => by have := hf.ge; omega) (by have := hf.tk.le; have := hf.tk.size; omega))
          go_wp2_with fail
          go_roundw
          case rel =>
            refine ⟨some ⟨g5, 0, none⟩, cap5, ps ++ [.pointer (some ⟨b, 0, none⟩)], ?_⟩
            rw [List.length_append]
            exact HN
          case measure => exact unhide HM
      · have hb6 : (t'.k == 6) = false := by simpa using h6
        rw [hb6] at HIt
        have HE := hide (hE.trans (rowsF_no h6))
        clear hE h6 hb6 hnx
        go_wp2_with fail
        go_at_call 38
        refine (unhide HIt).mono ?_
        rintro e w1 ⟨rfl, m1, rfl⟩
        have HL1 := hide ((unhide HL).below (below_drewN' (Below.refl _ _) m1))
        have HK1 := hide ((unhide HK).below (below_drewN' (Below.refl _ _) m1))
        have HR1 := hide ((unhide HRS).drewN m1)
        have hblk := (unhide HL1).blk
        have c1 := hblk.c1
        have cl := hblk.lt
        clear hblk
        by_cases hn : ps.length = 1
        · obtain ⟨g, v, rfl, hn1, hps, cg, cgf, cgl, _⟩ := own_at (unhide HL1).own hn
          obtain ⟨b, hb, hok1⟩ := loop_done1 (o := 6) (.inr rfl) (unhide HL1) (unhide HK1) hn (unhide HE) ht' (unhide HR1)
          obtain rfl : v = .pointer (some ⟨b, 0, none⟩) := by rw [hb] at hps; simpa using hps.symm
          have HOk := hide hok1
          clear hb hok1
          clear hn hps
          go_wp2
          go_ret
          exact ⟨b, rfl, unhide HOk⟩
        · have hnb : ((ps.length : Int) == 1) = false := by simp; omega
          have HOk := hide (loop_done2 (o := 6) (.inr rfl) (unhide HL1) (unhide HK1) hn (fun _ => hps1) (unhide HE) ht' (unhide HR1))
          clear hn
          go_wp2
          go_ret
          exact ⟨_, rfl, unhide HOk⟩
    · have HIt := hide (is_err (whatK 6) hrs he)
      have HRS := hide hrs
      have HE := hide hE
      have He := hide he
      clear hrs hE he
      go_wp2_with fail
      go_at_call 38
      refine (unhide HIt).mono ?_
      rintro e w1 ⟨rfl, m1, rfl⟩
      have HL1 := hide ((unhide HL).below (below_drewN' (Below.refl _ _) m1))
      have HR1 := hide ((unhide HRS).drewN m1)
      have hblk := (unhide HL1).blk
      have c1 := hblk.c1
      have cl := hblk.lt
      clear hblk
      by_cases hn : ps.length = 1
      · obtain ⟨g, v, rfl, hn1, hps, cg, cgf, cgl, _⟩ := own_at (unhide HL1).own hn
        obtain ⟨b, hb⟩ := (unhide HL1).ptr v (by rw [hps]; simp)
        subst hb
        have HOk := hide (loop_err (o := 6) (b := b) (unhide HL1) (unhide HE) (unhide He) (unhide HR1))
        clear hn hps
        go_wp2
        go_ret
        exact ⟨b, rfl, unhide HOk⟩
      · have hnb : ((ps.length : Int) == 1) = false := by simp; omega
        have HOk := hide (loop_err (o := 6) (b := w0.heap.size + 1) (unhide HL1) (unhide HE) (unhide He) (unhide HR1))
        clear hn
        go_wp2
        go_ret
        exact ⟨_, rfl, unhide HOk⟩
end Go.Proofs.YtbojcemamhiodaaGreatDoor
namespace Go.Proofs.YtbojcemamhiodaaGreatDoor
open Go.RowKit
theorem RS.range {w : World} {q B cap : Nat} {s : ByteArray} {T : List Tk} {k d e a : Int} (h : RS w q B cap s T k d e a) (i : Nat) (t : Tk) (ht : T[i]? = some t) : ∃ str f, TokR s t str f ∧ w.rangeAt B (i * 259) (tokV (whatK t.k) str f t.from_) ∧ (i : Int) < T.length ∧ (T.length : Int) ≤ maxLen := by
  obtain ⟨str, f, h1, h2, h3, h4, h5⟩ := h.tok.at i t ht
  refine ⟨str, f, h1, fun j v hv => ?_, h4, h5⟩
  have hj : j < 259 := by
    have := (List.getElem?_eq_some_iff.1 hv).1
    rwa [tokV_len] at this
  rw [h2 j hj]
  exact hv
/-- the world behind 't := r.l[r.k]' -/
def wTok (w : World) (cs : List Value) : World := ((w.alloc (.cells (tokV .empty .empty noB 0).toArray 83)).drew).setCells w.heap.size 0 cs
theorem tok_there (w : World) : ((w.alloc (.cells (tokV .empty .empty noB 0).toArray 83)).drew).there w.heap.size 0 259 := by
  intro j hj
  have h' : TokB ((w.alloc (.cells (tokV .empty .empty noB 0).toArray 83)).drew) w.heap.size .empty .empty noB 0 := tok_new w .empty .empty noB 0
  have hl : j < (tokV .empty .empty noB 0).length := by rw [tokV_len]; exact hj
  refine ⟨?_, h'.fz _⟩
  unfold TokB at h'
  simp only [World.cell?, h']
  simp [hl]
theorem setCells_row {w : World} {b : Nat} {t : TypeId} {C : Array Value} {L : List Value} (hb : w.heap[b]? = some (.cells C t (0, 0))) (hn : C.size = L.length) (h1 : ∀ v ∈ L, v.oneCell' = true) (ht : w.there b 0 L.length) : w.setCells b 0 L = w.setRow b L.toArray := by
  have e1 := storeRow (P := Tryz.prog) hb hn h1
  have e2 := run_storeCells_cells (P := Tryz.prog) b 0 L 0 w (fun j hj => by have := (ht j hj).1; rwa [show 0 + 0 + j = 0 + j by omega]) (fun j hj => by have := (ht j hj).2; rwa [show 0 + 0 + j = 0 + j by omega]) h1
  rw [e1] at e2
  injection e2 with _ e2
  exact e2.symm
theorem wTok_row (w : World) (a b : ByteArray) (f : Nat → Bool) (i : Int) : wTok w (tokV a b f i) = ((w.alloc (.cells (tokV .empty .empty noB 0).toArray 83)).drew).setRow w.heap.size (tokV a b f i).toArray :=
  setCells_row (w := (w.alloc (.cells (tokV .empty .empty noB 0).toArray 83)).drew) (tok_new w .empty .empty noB 0) (by rw [List.size_toArray, tokV_len, tokV_len]) (tokV_one a b f i) (by rw [tokV_len]; exact tok_there w)
theorem wTok_tok (w : World) (a b : ByteArray) (f : Nat → Bool) (i : Int) : TokB (wTok w (tokV a b f i)) w.heap.size a b f i := by
  rw [wTok_row]
  exact TokB.row (w := (w.alloc (.cells (tokV .empty .empty noB 0).toArray 83)).drew) (tok_new w .empty .empty noB 0) a b f i
theorem wTok_below (w : World) (a b : ByteArray) (f : Nat → Bool) (i : Int) : Below w.heap.size w (wTok w (tokV a b f i)) := by
  rw [wTok_row]
  exact below_setRow (((Below.refl _ _).alloc (Nat.le_refl _) _).drew) (Nat.le_refl _) _
end Go.Proofs.YtbojcemamhiodaaGreatDoor
namespace Go.Proofs.YtbojcemamhiodaaGreatDoor
open Go.RowKit
theorem withinF_1 {s : ByteArray} {r : Res} {c : Int} (h : r.err ≠ 0) : withinF s r c = errR r.err r.tk r.d := by unfold withinF; rw [if_pos h]
theorem withinF_2 {s : ByteArray} {r : Res} {c : Int} (h : r.err = 0) (hc : r.tk.k ≠ c) : withinF s r c = errR 2 r.tk r.d := by unfold withinF; rw [if_neg (by omega), if_pos hc]
theorem withinF_3 {s : ByteArray} {r : Res} {c : Int} (h : r.err = 0) (hc : r.tk.k = c) : withinF s r c = ⟨0, r.nd, nextT s r.tk.to, r.d - 1⟩ := by unfold withinF; rw [if_neg (by omega), if_neg (by omega)]
set_option maxRecDepth 4000 in
set_option maxHeartbeats 2000000 in
theorem closed_any (w : World) (q B cap : Nat) (s : ByteArray) (T : List Tk) (d c : Int) (E : Tk → Int → Res) (t : Tk) (k : Nat) (hT : ChainT s T) (ht : T[k]? = some t) (hr : RS w q B cap s T k d 0 0) (h0 : 0 ≤ d) (hd : d < 12) (hc : 2 ≤ c ∧ c ≤ 17)
    (hF : FineE s E (d + 1)) (hC : SaidCh s q B cap T 37 E (d + 1)) :
    Calls Tryz.prog 141 #[.pointer (some ⟨q, 0, none⟩), .string (whatK c)] w (OutX w q B cap s T d (withinF s (E t (d + 1)) c)) := by
  obtain ⟨hok, _, _⟩ := hT.ok k t ht
  have hf := hF t hok
  obtain ⟨c0, c1, c2, c3, c4, cf, hqlt⟩ := five hr.rd
  have HC := hide (hC (w.setCell ⟨q, 2, none⟩ (.int .i64 (d + 1))) k t ht (hr.setD (d + 1)))
  have hq := hr.lt
  clear hC hF hr
  generalize hrr : E t (d + 1) = r at hf HC ⊢
  clear hrr
  go_enter Tryz.func141, Tryz.ntmps141
  go_wp2_with fail
  go_at_call 37
  refine (unhide HC).mono ?_
  rintro e w1 ⟨b, rfl, ho⟩
  have HB : Hid (But q w w1) := ⟨ho.bt.os, ho.bt.tape, ho.bt.output, by have := ho.bt.size; simpa [World.setCell] using this, fun j hj hne => (ho.bt.block j (by simpa [World.setCell] using hj) hne).trans (Below.heap_setCell _ _ _ _ hne)⟩
  have hsz : (w.setCell ⟨q, 2, none⟩ (.int .i64 (d + 1))).heap.size = w.heap.size := by simp [World.setCell]
  have hB1 := (unhide HB).size
  rcases ho.out with ⟨he, x, hxb, hxt, hxo, hxn, k', hk', hrs⟩ | ⟨he, kk, hrs⟩
  · have hd1 := hf.dep he
    rw [hsz] at hxt
    obtain ⟨hok', h17, hnx⟩ := hT.ok k' _ hk'
    have HRS := hide (hrs.setD d)
    have HXT := hide (Tree.turn (w' := w1.setCell ⟨q, 2, none⟩ (.int .i64 d)) (fun j hS _ => ⟨hS, Below.heap_setCell _ _ _ _ (show j ≠ q from fun e => by have hS' : w.heap.size ≤ j := hS; omega)⟩) x hxt)
    obtain ⟨e0, e1, e2, e3, e4, ef, hqlt1⟩ := five hrs.rd
    have HIs := hide (is_ok (whatK c) (unhide HRS) hk')
    rw [whatK_eq h17 (by omega)] at HIs
    clear hxt hrs ho
    by_cases hcc : r.tk.k = c
    · have hb : (r.tk.k == c) = true := by simpa using hcc
      rw [hb] at HIs
      have hnx2 := hnx (by omega)
      have hlk := (List.getElem?_eq_some_iff.1 hnx2).1
      have hfew := hT.few
      have HR := hide (withinF_3 (s := s) he hcc)
      clear hb hcc
      go_wp2_with fail
      go_at_call 38
      refine (unhide HIs).mono ?_
      rintro e w2 ⟨rfl, m, rfl⟩
      have HR2 := hide (((unhide HRS).drewN m).setK ((k' : Int) + 1))
      obtain ⟨f0, f1, f2, f3, f4, ff, hqlt2⟩ := five ((unhide HRS).drewN m).rd
      go_wp2
      go_ret
      refine ⟨b, rfl, ?_, .inl ⟨by rw [unhide HR], x, hxb, ?_, hxo, by rw [unhide HR]; exact hxn, k' + 1, by rw [unhide HR]; exact hnx2, ?_⟩⟩
      · exact ((unhide HB).setCell (.inl rfl) _ : But q w (w1.setCell ⟨q, 2, none⟩ (.int .i64 d))).trans (⟨rfl, rfl, rfl, by simp [World.setCell], fun j hj hne => Below.heap_setCell _ _ _ _ hne⟩)
      · exact Tree.turn (fun j hS _ => ⟨hS, Below.heap_setCell _ _ _ _ (show j ≠ q from fun e => by have hS' : w.heap.size ≤ j := hS; omega)⟩) x ((unhide HXT).below (below_drewN' (Below.refl _ _) m))
      · rw [show ((k' + 1 : Nat) : Int) = (k' : Int) + 1 by omega]
        exact unhide HR2
    · have hb : (r.tk.k == c) = false := by simpa using hcc
      rw [hb] at HIs
      have HR := hide (withinF_2 (s := s) he hcc)
      clear hb hcc
      go_wp2_with fail
      go_at_call 38
      refine (unhide HIs).mono ?_
      rintro e w2 ⟨rfl, m, rfl⟩
      have HWr := hide (wrong_ok 2 ((unhide HRS).drewN m) hk')
      go_wp2_with fail
      go_at_call 39
      refine (unhide HWr).mono ?_
      rintro e w3 ⟨rfl, hrs3, hb3⟩
      have HR3 := hide hrs3
      have HB3 := hide hb3
      clear hrs3 hb3
      go_wp2
      go_ret
      refine ⟨b, rfl, ?_, .inr ⟨by rw [unhide HR]; show (2 : Int) ≠ 0; omega, (k' : Int), by rw [unhide HR]; exact unhide HR3⟩⟩
      have h1 : But q w ((w1.setCell ⟨q, 2, none⟩ (.int .i64 d)).drewN m) := ((unhide HB).setCell (.inl rfl) _ : But q w (w1.setCell ⟨q, 2, none⟩ (.int .i64 d))).trans (.of_below (below_drewN' (Below.refl _ _) m) (Nat.le_refl _))
      exact h1.trans (unhide HB3)
  · have HRS := hide (hrs.setD d)
    obtain ⟨e0, e1, e2, e3, e4, ef, hqlt1⟩ := five hrs.rd
    have HIs := hide (is_err (whatK c) (unhide HRS) he)
    have HR := hide (withinF_1 (s := s) (c := c) he)
    have He := hide he
    clear hrs ho he
    go_wp2_with fail
    go_at_call 38
    refine (unhide HIs).mono ?_
    rintro e w2 ⟨rfl, m, rfl⟩
    have HWr := hide (wrong_err 2 ((unhide HRS).drewN m) (unhide He))
    go_wp2_with fail
    go_at_call 39
    refine (unhide HWr).mono ?_
    rintro e w3 ⟨rfl, hw3⟩
    replace hw3 := hw3.symm
    subst hw3
    go_wp2
    go_ret
    refine ⟨b, rfl, ?_, .inr ⟨by rw [unhide HR]; exact unhide He, kk, by rw [unhide HR]; exact (unhide HRS).drewN m⟩⟩
    exact ((unhide HB).setCell (.inl rfl) _ : But q w (w1.setCell ⟨q, 2, none⟩ (.int .i64 d))).trans (.of_below (below_drewN' (Below.refl _ _) m) (Nat.le_refl _))
end Go.Proofs.YtbojcemamhiodaaGreatDoor
namespace Go.Proofs.YtbojcemamhiodaaGreatDoor
open Go.RowKit
/-- what the region 't := r.l[r.k]' reads -/
def STok (q B cap n k : Nat) (cs : List Value) (w' : World) : Prop := w'.cell? ⟨q, 0, none⟩ = some (.slice (some ⟨B, 0, none⟩) n cap) ∧ w'.cell? ⟨q, 1, none⟩ = some (.int .i64 k) ∧ w'.rangeAt B (k * 259) cs
structure TokF (w : World) (q B cap : Nat) (s : ByteArray) (T : List Tk) (d : Int) (k : Nat) (t : Tk) (str : ByteArray) (f : Nat → Bool) (cs : List Value) : Prop where
  tr : TokR s t str f
  hl : (k : Int) < T.length
  hm : (T.length : Int) ≤ maxLen
  len : cs.length = 259
  hi : (Tryz.prog.info? 83).map (·.size) = some cs.length
  one : ∀ v ∈ cs, v.oneCell' = true
  s1 : w.cell? ⟨q, 0, none⟩ = some (.slice (some ⟨B, 0, none⟩) T.length cap) ∧ w.cell? ⟨q, 1, none⟩ = some (.int .i64 k) ∧ w.rangeAt B (k * 259) cs
  s2 : ((w.alloc (.cells (tokV .empty .empty noB 0).toArray 83)).drew).cell? ⟨q, 0, none⟩ = some (.slice (some ⟨B, 0, none⟩) T.length cap) ∧ ((w.alloc (.cells (tokV .empty .empty noB 0).toArray 83)).drew).cell? ⟨q, 1, none⟩ = some (.int .i64 k) ∧ ((w.alloc (.cells (tokV .empty .empty noB 0).toArray 83)).drew).rangeAt B (k * 259) cs
  th : ((w.alloc (.cells (tokV .empty .empty noB 0).toArray 83)).drew).there w.heap.size 0 cs.toArray.size
  s3 : (wTok w cs).cell? ⟨q, 0, none⟩ = some (.slice (some ⟨B, 0, none⟩) T.length cap) ∧ (wTok w cs).cell? ⟨q, 1, none⟩ = some (.int .i64 k) ∧ (wTok w cs).rangeAt B (k * 259) cs
  tok : TokB (wTok w cs) w.heap.size (whatK t.k) str f t.from_
  rs : RS (wTok w cs) q B cap s T k d 0 0
  bel : Below w.heap.size w (wTok w cs)
theorem tok_facts {w : World} {q B cap : Nat} {s : ByteArray} {T : List Tk} {d : Int} {k : Nat} {t : Tk} (hr : RS w q B cap s T k d 0 0) (ht : T[k]? = some t) : ∃ str f cs, TokF w q B cap s T d k t str f cs := by
  obtain ⟨c0, c1, c2, c3, c4, cf, hqlt⟩ := five hr.rd
  obtain ⟨str, f, hTR, hrg, hkl, hkm⟩ := hr.range k t ht
  have hbel := wTok_below w (whatK t.k) str f t.from_
  have hr3 := hr.below hbel
  obtain ⟨g0, g1, _, _, _, _, _⟩ := five hr3.rd
  refine ⟨str, f, tokV (whatK t.k) str f t.from_, hTR, hkl, hkm, tokV_len _ _ _ _, by rw [sizeTok, tokV_len], tokV_one _ _ _ _, ⟨c0, c1, hrg⟩, ⟨?_, ?_, World.rangeAt_alloc hrg _⟩, ?_, ⟨g0, g1, ?_⟩, wTok_tok w _ _ _ _, hr3, hbel⟩
  · show (w.alloc _).cell? _ = _
    rw [World.cell?_alloc_lt _ _ _ hqlt]; exact c0
  · show (w.alloc _).cell? _ = _
    rw [World.cell?_alloc_lt _ _ _ hqlt]; exact c1
  · have h := tok_there w
    rwa [← tokV_len (whatK t.k) str f t.from_, ← List.size_toArray] at h
  · refine World.rangeAt_setCells_apart (w := (w.alloc (.cells (tokV .empty .empty noB 0).toArray 83)).drew) (World.rangeAt_alloc hrg _) _ _ _ (.inl ?_)
    have := hr.tok.lt
    omega
theorem wp_store_mid0 {P : Program} {op : Oper} {a : Act} {w : World} {K : Act → World → Prop} {Q : Exit → Act → World → Prop} (hd : op.dst = none) (ty : TypeId) (x y : Operand) (ho : op.op = .store ty x y)
    (b o : Nat) (cells : Array Value) (hx : a.eval x = .pointer (some ⟨b, o, none⟩)) (hy : a.eval y = .agg cells)
    (ht : w.there b o cells.size) (hi : (P.info? ty).map (·.size) = some cells.size) (h1 : cells.all (·.oneCell') = true)
    (h : K a (w.setCells b o cells.toList)) : op.wp P a w K Q := by
  refine wp_store_mid ty x y ho b o cells hx hy ht hi h1 ?_
  rw [hd]
  exact h
theorem load_tok (w : World) (B o : Nat) (cs : List Value) (h : w.rangeAt B o cs) (hi : (Tryz.prog.info? 83).map (·.size) = some cs.length) : (Instr.loadAt 83 (.pointer (some ⟨B, o, none⟩))).run Tryz.prog w = .ok (.agg cs.toArray) w :=
  run_loadAt_mid w B o 83 cs _ h Tryz.underlying83 (by simp [TypeDesc.isRow]) hi
theorem TokB.loadSet {w : World} {b : Nat} {what str : ByteArray} {f : Nat → Bool} {a : Int} (h : TokB w b what str f a) : (Instr.loadAt 81 (.pointer (some ⟨b, 2, none⟩))).run Tryz.prog w = .ok (.agg (setCells f)) w := by
  have h1 : w.rangeAt b 2 ((List.range 256).map fun c => Value.bool (f c)) := fun j v hv => by
    have hj : j < 256 := by have := (List.getElem?_eq_some_iff.1 hv).1; simpa using this
    have e : v = .bool (f j) := by simpa [hj] using hv.symm
    have hc : w.cell? ⟨b, 2 + j, none⟩ = some (.bool (f j)) := by
      simp only [World.cell?, TokB] at *
      rw [h]
      have : (tokV what str f a)[2 + j]? = some (.bool (f j)) := by
        unfold tokV
        rw [show 2 + j = j + 1 + 1 by omega, List.getElem?_cons_succ, List.getElem?_cons_succ, List.getElem?_append_left (by simpa using hj)]
        simp [hj]
      simpa using this
    rw [hc, e]
  exact run_loadAt_mid w b 2 81 _ _ h1 Tryz.underlying81 (by simp [TypeDesc.isRow]) (by rw [size256]; simp)
theorem foldl_put (o : Nat) : ∀ (l : List Value) (n : Nat) (C : Array Value) (j : Nat), ((l.zipIdx n).foldl (fun cs x => cs.setIfInBounds (o + x.2) x.1) C)[j]? = if o + n ≤ j ∧ j < o + n + l.length ∧ j < C.size then l[j - o - n]? else C[j]?
  | [], n, C, j => by
    rw [if_neg (by simp; omega)]
    rfl
  | v :: l, n, C, j => by
    rw [List.zipIdx_cons, List.foldl_cons, foldl_put o l (n + 1)]
    simp only [Array.size_setIfInBounds, List.length_cons]
    by_cases h1 : o + (n + 1) ≤ j ∧ j < o + (n + 1) + l.length ∧ j < C.size
    · rw [if_pos h1, if_pos (by omega), show j - o - n = (j - o - (n + 1)) + 1 by omega, List.getElem?_cons_succ]
    · rw [if_neg h1, Array.getElem?_setIfInBounds]
      by_cases h2 : o + n = j
      · rw [if_pos h2]
        by_cases h3 : o + n < C.size
        · rw [if_pos h3, if_pos (by omega), show j - o - n = 0 by omega]
          rfl
        · rw [if_neg h3, if_neg (by omega), Array.getElem?_eq_none (by omega)]
      · rw [if_neg h2, if_neg (by omega)]
theorem fold_set (op : ByteArray) (lv : Value) (str : ByteArray) (f : Nat → Bool) (a : Int) : Array.foldl (fun cs x => cs.setIfInBounds (3 + x.snd) x.fst) (expV op lv str noB a).toArray (setCells f).zipIdx 0 (setCells f).size = (expV op lv str f a).toArray := by
  have e : Array.foldl (fun cs x => cs.setIfInBounds (3 + x.snd) x.fst) (expV op lv str noB a).toArray (setCells f).zipIdx 0 (setCells f).size = (((List.range 256).map fun c => Value.bool (f c)).zipIdx 0).foldl (fun cs x => cs.setIfInBounds (3 + x.2) x.1) (expV op lv str noB a).toArray := by
    unfold setCells
    generalize (List.range 256).map (fun c => Value.bool (f c)) = L
    generalize (expV op lv str noB a).toArray = C
    rw [show L.toArray.size = L.toArray.zipIdx.size by simp, ← Array.foldl_toList, Array.toList_zipIdx]
  rw [e]
  apply Array.ext_getElem?
  intro j
  rw [foldl_put]
  have hl : ((List.range 256).map fun c => Value.bool (f c)).length = 256 := by simp
  rw [hl, List.size_toArray, expV_len]
  by_cases h : 3 + 0 ≤ j ∧ j < 3 + 0 + 256 ∧ j < 261
  · rw [if_pos h]
    have := expV_bit op lv str f a (j - 3) (by omega)
    rw [show 3 + (j - 3) = j by omega] at this
    rw [List.getElem?_toArray, this]
    have hj : j - 3 < 256 := by omega
    rw [Nat.sub_zero, List.getElem?_map, List.getElem?_range hj]
    rfl
  · rw [if_neg h, List.getElem?_toArray, List.getElem?_toArray]
    unfold expV
    match j, h with
    | 0, _ => rfl
    | 1, _ => rfl
    | 2, _ => rfl
    | j + 3, h =>
      rw [List.getElem?_cons_succ, List.getElem?_cons_succ, List.getElem?_cons_succ, List.getElem?_cons_succ, List.getElem?_cons_succ, List.getElem?_cons_succ, List.getElem?_append_right (by simp; omega), List.getElem?_append_right (by simp; omega)]
      simp
/-- an operation is taken first, and the slot that it writes is told -/
theorem take_dst {P : Program} {ops : Array Oper} {Q : Exit → Act → World → Prop} {md : Region.Mode} {S : World → Prop} {i : Nat} (n : Nat) {oi : Oper} {v : Value} {fuel : Nat} {listed : Array Bool} {a : Act} {w : World} (hi : ops[i]? = some oi) (hd : oi.dst = some n)
    (hs : Region.noSelect ops = true) (hf : Region.free md ops listed i = true) (hr : (Region.ready md ops listed).contains i = true)
    (hQ : ∀ c a w, Q (.panic c) (a.put oi.dst v) w → Q (.panic c) a w) (hy : YieldsIf P ops S oi v a) (hS : S w)
    (h : wpAnyH P md ops Q S fuel (listed.setIfInBounds i true) (a.put (some n) v) w) : wpAnyH P md ops Q S (fuel + 1) listed a w :=
  wpAnyH_take hi hs hf hr hQ hy hS (by rw [hd]; exact h)
theorem TokB.cat {w : World} {b : Nat} {what str : ByteArray} {f : Nat → Bool} {a : Int} (h : TokB w b what str f a) : w.cell? ⟨b, 258, none⟩ = some (.int .i64 a) := by
  simp only [World.cell?, TokB] at *
  rw [h]
  have : (tokV what str f a)[258]? = some (.int .i64 a) := by
    unfold tokV
    rw [List.getElem?_cons_succ, List.getElem?_cons_succ, List.getElem?_append_right (by simp)]
    simp
  simpa using this
section
variable {w w1 w' : World} {q B cap b : Nat} {s : ByteArray} {T : List Tk} {d : Int} {r : Res}
theorem OkO.mono (h : OkO w1 q B cap s T d r b w') (hb : But q w w1) : OkO w q B cap s T d r b w' := by
  have hz := hb.size
  refine ⟨hb.trans h.bt, ?_⟩
  rcases h.out with ⟨he, x, hxb, hxt, hx⟩ | h
  · exact .inl ⟨he, x, hxb, Tree.turn (fun j hS _ => ⟨by have hS' : w1.heap.size ≤ j := hS; omega, rfl⟩) x hxt, hx⟩
  · exact .inr h
/-- a leaf in a block of its own -/
theorem leaf_out {o : Int} {str : ByteArray} {f : Nat → Bool} {a : Int} {k' : Nat} (hb : But q w w1) (ho : 0 ≤ o ∧ o ≤ 3) (ha : 0 ≤ a) (hrs : RS w1 q B cap s T k' d 0 0) (he : r.err = 0) (hn : r.nd = ⟨o, a, if o = 1 then ⟨(bytesOf f true).toArray⟩ else str, []⟩) (ht : T[k']? = some r.tk) :
    OkO w q B cap s T d r w1.heap.size (w1.alloc (.cells (expV (opW o) (.slice none 0 0) str f a).toArray 93)) := by
  refine ⟨hb.alloc _, .inl ⟨he, ⟨w1.heap.size, o, str, f, a, []⟩, rfl, ?_, ?_, ?_, k', ht, hrs.alloc _⟩⟩
  · rw [Tree_iff]
    exact ⟨hb.size, ⟨_, ex_new w1 _ _ _ _ _, ⟨rfl, .inl ⟨rfl, rfl⟩⟩⟩, by simp⟩
  · rw [OkX_iff]
    exact ⟨by dsimp only; omega, ha, fun _ => rfl, fun h => by dsimp only at h; omega, fun h => by dsimp only at h; omega, fun h => by dsimp only at h; omega, by simp⟩
  · rw [Ex.norm_else _ (by dsimp only; omega), hn]
    rfl
/-- what is wrong, and a row that stands for nothing -/
theorem err_out {k' : Int} (hb : But q w w1) (he : r.err ≠ 0) (hrs : RS w1 q B cap s T k' d r.err r.tk.from_) (b : Nat) (o : Obj) : OkO w q B cap s T d r b (w1.alloc o) := ⟨hb.alloc _, .inr ⟨he, k', hrs.alloc _⟩⟩
end
/-- a node with one kid: what is caught -/
theorem catch_out {w w1 w2 W w5 : World} {q B cap X b g cap5 : Nat} {s : ByteArray} {T : List Tk} {d : Int} {r : Res} {nm : ByteArray} (hX : ExB w1 X (opW 4) (.slice none 0 0) nm noB 0) (hXlo : w.heap.size ≤ X) (hq : q < w.heap.size) (hBl : B < w.heap.size) (hb0 : But q w w1) (ho : OkO w1 q B cap s T d r b w2)
    (hW : Below w2.heap.size w2 W) (hgr : W.grownBy w5 none) (hown : w5.ownsRow w.heap.size 61 1 (.slice (some ⟨g, 0, none⟩) 1 cap5) 1 [.pointer (some ⟨b, 0, none⟩)]) (hg : g = W.heap.size) :
    OkO w q B cap s T d (partF nm r) X (w5.setCell ⟨X, 1, none⟩ (.slice (some ⟨g, 0, none⟩) 1 cap5)) := by
  have hz1 := hb0.size
  have hz2 := ho.bt.size
  have hzW := hW.size
  have hXl := hX.lt
  have hX5 : ExB w5 X (opW 4) (.slice none 0 0) nm noB 0 := by
    have h1 := (hX.but ho.bt (by omega)).below hW (Nat.le_refl _)
    exact (hgr.block X h1.lt (by simp)).trans h1
  have hbt : But q w (w5.setCell ⟨X, 1, none⟩ (.slice (some ⟨g, 0, none⟩) 1 cap5)) := by
    have h2 : But q w W := (hb0.trans ho.bt).below hW (by omega)
    have h3 : But q w w5 := ⟨hgr.os.trans h2.os, hgr.tape.trans h2.tape, hgr.output.trans h2.output, Nat.le_trans h2.size hgr.size, fun j hj hne => (hgr.block j (by omega) (by simp)).trans (h2.block j hj hne)⟩
    exact h3.setCell (.inr hXlo) _
  have hrs : ∀ {kk e a : Int}, RS w2 q B cap s T kk d e a → RS (w5.setCell ⟨X, 1, none⟩ (.slice (some ⟨g, 0, none⟩) 1 cap5)) q B cap s T kk d e a := fun h => ((h.below hW).grown hgr (fun j hj => by cases hj)).set (show X ≠ q by omega) (show X ≠ B by omega) _
  refine ⟨hbt, ?_⟩
  rcases ho.out with ⟨he, x, hxb, hxt, hxo, hxn, k', hk', hr⟩ | ⟨he, kk, hr⟩
  · left
    have hp : partF nm r = ⟨0, ⟨4, 0, nm, [r.nd]⟩, r.tk, r.d⟩ := by unfold partF; rw [if_neg (by omega)]
    refine ⟨by rw [hp], ⟨X, 4, nm, noB, 0, [x]⟩, rfl, ?_, ?_, ?_, k', by rw [hp]; exact hk', hrs hr⟩
    · rw [Tree_iff]
      refine ⟨hXlo, ⟨_, hX5.setL _, ?_⟩, fun y hy => ?_⟩
      · have h4 : w5.ownsRow w.heap.size 61 1 (.slice (some ⟨g, 0, none⟩) 1 cap5) 1 [ptrX x] := by
          unfold ptrX
          rw [hxb]
          exact hown
        exact own_keep h4 fun j hj => Below.heap_setCell _ _ _ _ (show j ≠ X from fun e => by
          have : g = j := by simpa [Value.ownBlock] using hj
          omega)
      · have hy' : y = x := by simpa using hy
        rw [hy']
        refine Tree.turn (fun j hS hl => ⟨?_, ?_⟩) x hxt
        · have hS' : w1.heap.size ≤ j := hS
          omega
        · have hS' : w1.heap.size ≤ j := hS
          rw [Below.heap_setCell _ _ _ _ (show j ≠ X by omega), hgr.block j (by omega) (by simp), hW.block j hl]
    · rw [OkX_iff]
      refine ⟨by simp, by simp, fun h => by simp at h, fun _ => rfl, fun h => by simp at h, fun h => by simp at h, fun y hy => ?_⟩
      have hy' : y = x := by simpa using hy
      rw [hy']
      exact hxo
    · rw [Ex.norm_else _ (by simp), hp, ← hxn]
      rfl
  · right
    have hp : partF nm r = errR r.err r.tk r.d := by unfold partF; rw [if_pos he]
    exact ⟨by rw [hp]; exact he, kk, by rw [hp]; exact hrs hr⟩
end Go.Proofs.YtbojcemamhiodaaGreatDoor

import Derived.Test.YtbojcemamhiodaaGreatDoorTrm
import Derived.Deep.RegionLaw
import Derived.Deep.DeepCutAuto
namespace Go.Proofs.YtbojcemamhiodaaGreatDoor
open Go.RowKit

/-- what term leaves -/
def OutT (w : World) (q lo : Nat) (X : Nat → Prop) (rs : List Rl) (g cap : Nat) (tv : Value) (r : Tm × List Tm) (e : Ending) (w' : World) : Prop :=
  ∃ ao n cp tv', e = .returned (.agg #[.int .i64 r.1.kind, .string r.1.text, .slice ao n cp]) ∧ IntR w' (fun b => w.heap.size ≤ b ∧ b ≠ q ∧ tv'.ownBlock ≠ some b) (.slice ao n cp) r.1.kids ∧
    Bd w' q lo X rs g cap tv' r.2 ∧ But2 q tv.ownBlock w w' ∧ (tv'.ownBlock = tv.ownBlock ∨ ∃ k, tv'.ownBlock = some k ∧ w.heap.size ≤ k)
def SaidT (q lo : Nat) (rs : List Rl) (g cap : Nat) (F : Nat) : Prop := ∀ w n ao nk cp X tv T, Bd w q lo X rs g cap tv T → (∀ b, X b → b < w.heap.size) → IsK w (fun b => b < lo) F (.slice ao nk cp) n.kids →
  (termN rs (F + 1) n T).2.length ≤ 100000 →
  Calls Tryz.prog 60 #[.pointer (some ⟨q, 0, none⟩), .agg #[.int .i64 n.kind, .int .i64 n.at_, .string n.text, .slice ao nk cp]] w (OutT w q lo X rs g cap tv (termN rs (F + 1) n T))

/-- where term's loop stands: k kids are done -/
structure TI (w : World) (q lo : Nat) (X : Nat → Prop) (rs : List Rl) (g cap : Nat) (tv : Value) (T : List Tm) (n : Nd) (nkv : Value) (F k : Nat) (ks : List Int) (kv tvr : Value) (Tr : List Tm) (wr : World) : Prop where
  pur : termsL (termN rs F) n.kids (baseK rs n) T = termsL (termN rs F) (n.kids.drop k) ks Tr
  nA : wr.heap[w.heap.size]? = some (.cells #[.int .i64 n.kind, .int .i64 n.at_, .string n.text, nkv] 118)
  nR : wr.heap[w.heap.size + 1]? = some (.cells #[.int .i64 0, .string ⟨#[]⟩, .slice none 0 0] 89)
  nX : wr.heap[w.heap.size + 2]? = some (.cells #[.int .i64 n.kind, .string n.text, kv] 89)
  own : wr.ownsRow (w.heap.size + 3) 3 1 kv ks.length (ints ks)
  apart : ∀ b, kv.ownBlock = some b → tvr.ownBlock ≠ some b ∧ b ≠ q
  bd : Bd wr q lo (fun b => X b ∨ kv.ownBlock = some b ∨ (w.heap.size ≤ b ∧ b < w.heap.size + 3)) rs g cap tvr Tr
  but : But2 q tv.ownBlock w wr
  ch : tvr.ownBlock = tv.ownBlock ∨ ∃ j, tvr.ownBlock = some j ∧ w.heap.size + 3 ≤ j
  few : ks.length ≤ k + 1

theorem three_t {w : World} {N : Nat} {a b c : Value} (h : w.heap[N]? = some (.cells #[a, b, c] 89)) :
    w.cell? ⟨N, 0, none⟩ = some a ∧ w.cell? ⟨N, 1, none⟩ = some b ∧ w.cell? ⟨N, 2, none⟩ = some c ∧ (∀ o, w.frozen? ⟨N, o, none⟩ = false) ∧ N < w.heap.size := by
  refine ⟨?_, ?_, ?_, fun o => ?_, (Array.getElem?_eq_some_iff.1 h).1⟩
  all_goals simp [World.cell?, World.frozen?, h]
theorem tree_keep {w w' : World} {q lo F : Nat} {own : Option Nat} {v : Value} {l : List Nd} (h : IsK w (fun b => b < lo) F v l) (hb : But2 q own w w') (hq : lo ≤ q) (ho : ∀ j, own = some j → lo ≤ j) : IsK w' (fun b => b < lo) F v l :=
  h.turn fun b hS hz => ⟨hS, hb.block b hz (by omega) (fun e => by have := ho b e; omega)⟩

/-- the world ahead of the test -/
abbrev W3 (w : World) (n : Nd) (nkv : Value) : World := ((w.alloc (.cells #[.int .i64 n.kind, .int .i64 n.at_, .string n.text, nkv] 118)).alloc (.cells #[.int .i64 0, .string ⟨#[]⟩, .slice none 0 0] 89)).alloc (.cells #[.int .i64 n.kind, .string n.text, .slice none 0 0] 89)
theorem W3_below (w : World) (n : Nd) (nkv : Value) : Below w.heap.size w (W3 w n nkv) := (((Below.refl _ _).alloc (Nat.le_refl _) _).alloc (by simp) _).alloc (by simp; omega) _
theorem W3_size (w : World) (n : Nd) (nkv : Value) : (W3 w n nkv).heap.size = w.heap.size + 3 := by simp
theorem W3_A (w : World) (n : Nd) (nkv : Value) : (W3 w n nkv).heap[w.heap.size]? = some (.cells #[.int .i64 n.kind, .int .i64 n.at_, .string n.text, nkv] 118) := heap_old (heap_old (heap_alloc_new _ _))
theorem W3_R (w : World) (n : Nd) (nkv : Value) : (W3 w n nkv).heap[w.heap.size + 1]? = some (.cells #[.int .i64 0, .string ⟨#[]⟩, .slice none 0 0] 89) := by
  have := heap_alloc_new (w.alloc (.cells #[.int .i64 n.kind, .int .i64 n.at_, .string n.text, nkv] 118)) (.cells #[.int .i64 0, .string ⟨#[]⟩, .slice none 0 0] 89)
  rw [show (w.alloc (.cells #[.int .i64 n.kind, .int .i64 n.at_, .string n.text, nkv] 118)).heap.size = w.heap.size + 1 from by simp] at this
  exact heap_old this
theorem W3_X (w : World) (n : Nd) (nkv : Value) : (W3 w n nkv).heap[w.heap.size + 2]? = some (.cells #[.int .i64 n.kind, .string n.text, .slice none 0 0] 89) := by
  have := heap_alloc_new ((w.alloc (.cells #[.int .i64 n.kind, .int .i64 n.at_, .string n.text, nkv] 118)).alloc (.cells #[.int .i64 0, .string ⟨#[]⟩, .slice none 0 0] 89)) (.cells #[.int .i64 n.kind, .string n.text, .slice none 0 0] 89)
  rw [show ((w.alloc (.cells #[.int .i64 n.kind, .int .i64 n.at_, .string n.text, nkv] 118)).alloc (.cells #[.int .i64 0, .string ⟨#[]⟩, .slice none 0 0] 89)).heap.size = w.heap.size + 2 from by simp] at this
  exact this
theorem TI.start {w wf : World} {q lo : Nat} {X : Nat → Prop} {rs : List Rl} {g cap : Nat} {tv : Value} {T : List Tm} {n : Nd} {nkv kv : Value} {F : Nat} (hbd : Bd w q lo X rs g cap tv T) (hb : Below w.heap.size w wf)
    (hA : wf.heap[w.heap.size]? = some (.cells #[.int .i64 n.kind, .int .i64 n.at_, .string n.text, nkv] 118)) (hR : wf.heap[w.heap.size + 1]? = some (.cells #[.int .i64 0, .string ⟨#[]⟩, .slice none 0 0] 89)) (hx : wf.heap[w.heap.size + 2]? = some (.cells #[.int .i64 n.kind, .string n.text, kv] 89))
    (ho : wf.ownsRow (w.heap.size + 3) 3 1 kv (baseK rs n).length (ints (baseK rs n))) : TI w q lo X rs g cap tv T n nkv F 0 (baseK rs n) kv tv T wf := by
  have hol := ho.lt
  have htl := hbd.terms.own_lt
  have hlq := hbd.lt
  refine ⟨rfl, hA, hR, hx, ho, fun b h => ?_, hbd.keep (fun b hz _ => hb.block b hz) (fun b hz h h' => ?_), (But2.refl _ _ _).below hb (Nat.le_refl _), .inl rfl, ?_⟩
  · have := hol b h
    exact ⟨fun e => by have := htl b e; omega, by omega⟩
  · rcases h' with h' | h' | h'
    · exact h h'
    · have := hol b h'; omega
    · omega
  · unfold baseK; split <;> simp

theorem set_x {w : World} {N : Nat} {a b c u : Value} (h : w.heap[N]? = some (.cells #[a, b, c] 89)) : (w.setCell ⟨N, 2, none⟩ u).heap[N]? = some (.cells #[a, b, u] 89) := by
  simp [World.setCell, Array.getElem?_modify, h]
theorem set_other {w : World} {N M o : Nat} {u : Value} {ob : Obj} (h : w.heap[M]? = some ob) (hne : M ≠ N) : (w.setCell ⟨N, o, none⟩ u).heap[M]? = some ob := (Below.heap_setCell _ _ _ _ (by simpa using hne)).trans h

/-- behind a call -/
theorem TI.after {w : World} {q lo : Nat} {X : Nat → Prop} {rs : List Rl} {g cap : Nat} {tv : Value} {T : List Tm} {n : Nd} {nkv : Value} {F k : Nat} {ks : List Int} {kv tvr : Value} {Tr : List Tm} {wr : World} (h : TI w q lo X rs g cap tv T n nkv F k ks kv tvr Tr wr)
    (hlq : q < w.heap.size) (hown : ∀ j, tv.ownBlock = some j → lo ≤ j ∧ j < w.heap.size) {o : Obj} {w2 : World} (hb : But2 q tvr.ownBlock (wr.alloc o) w2) :
    w2.heap[w.heap.size]? = some (.cells #[.int .i64 n.kind, .int .i64 n.at_, .string n.text, nkv] 118) ∧ w2.heap[w.heap.size + 1]? = some (.cells #[.int .i64 0, .string ⟨#[]⟩, .slice none 0 0] 89) ∧
    w2.heap[w.heap.size + 2]? = some (.cells #[.int .i64 n.kind, .string n.text, kv] 89) ∧ w2.ownsRow (w.heap.size + 3) 3 1 kv ks.length (ints ks) ∧ But2 q tv.ownBlock w w2 ∧ w.heap.size + 3 ≤ wr.heap.size := by
  have hz := (Array.getElem?_eq_some_iff.1 h.nX).1
  have far : ∀ b, w.heap.size ≤ b → b < w.heap.size + 3 → tvr.ownBlock ≠ some b := by
    intro b h1 h2 e
    rcases h.ch with hc | ⟨j, hj, hj'⟩
    · rw [hc] at e; have := hown b e; omega
    · rw [hj] at e; injection e with e; omega
  have go : ∀ b ob, w.heap.size ≤ b → b < w.heap.size + 3 → wr.heap[b]? = some ob → w2.heap[b]? = some ob := fun b ob h1 h2 h3 =>
    (hb.block b (by simp; omega) (by omega) (far b h1 h2)).trans (heap_old h3)
  refine ⟨go _ _ (by omega) (by omega) h.nA, go _ _ (by omega) (by omega) h.nR, go _ _ (by omega) (by omega) h.nX, ?_, ?_, by omega⟩
  · have hl := h.own.lt
    refine own_keep h.own fun b hb' => ?_
    have ha := h.apart b hb'
    exact (hb.block b (by have := (hl b hb').2; simp; omega) ha.2 ha.1).trans (Below.heap_alloc _ _ _ (hl b hb').2)
  · refine (h.but.alloc o).trans hb ?_
    rcases h.ch with hc | ⟨j, hj, hj'⟩
    · exact .inl hc
    · exact .inr ⟨j, hj, by omega⟩

/-- between the two appends of a round -/
structure M9 (w : World) (q lo : Nat) (X : Nat → Prop) (rs : List Rl) (g cap : Nat) (tv : Value) (n : Nd) (nkv : Value) (ks : List Int) (kv tv2 : Value) (r : Tm × List Tm) (rv : Value) (B : Nat) (wm : World) : Prop where
  nA : wm.heap[w.heap.size]? = some (.cells #[.int .i64 n.kind, .int .i64 n.at_, .string n.text, nkv] 118)
  nR : wm.heap[w.heap.size + 1]? = some (.cells #[.int .i64 0, .string ⟨#[]⟩, .slice none 0 0] 89)
  nX : wm.heap[w.heap.size + 2]? = some (.cells #[.int .i64 n.kind, .string n.text, kv] 89)
  nK : wm.heap[B]? = some (.cells #[.int .i64 r.1.kind, .string r.1.text, rv] 89)
  own : wm.ownsRow (w.heap.size + 3) 3 1 kv ks.length (ints ks)
  apart : ∀ b, kv.ownBlock = some b → tv2.ownBlock ≠ some b ∧ b ≠ q
  bd : Bd wm q lo (fun b => X b ∨ kv.ownBlock = some b ∨ (w.heap.size ≤ b ∧ b < w.heap.size + 3)) rs g cap tv2 r.2
  row : IntR wm (fun b => w.heap.size + 3 ≤ b ∧ b ≠ q ∧ tv2.ownBlock ≠ some b ∧ kv.ownBlock ≠ some b) rv r.1.kids
  but : But2 q tv.ownBlock w wm
  ch : tv2.ownBlock = tv.ownBlock ∨ ∃ j, tv2.ownBlock = some j ∧ w.heap.size + 3 ≤ j

theorem M9.make {w : World} {q lo : Nat} {X : Nat → Prop} {rs : List Rl} {g cap : Nat} {tv : Value} {T : List Tm} {n : Nd} {nkv : Value} {F k : Nat} {ks : List Int} {kv tvr : Value} {Tr : List Tm} {wr : World} (h : TI w q lo X rs g cap tv T n nkv F k ks kv tvr Tr wr)
    (hlq : q < w.heap.size) (hlo : lo ≤ q) (hown : ∀ j, tv.ownBlock = some j → lo ≤ j ∧ j < w.heap.size) {o : Obj} {w2 W9 w5 : World} {tv2 rv : Value} {r : Tm × List Tm} {Y : Nat → Prop} (hY : Y = fun b => X b ∨ kv.ownBlock = some b ∨ (w.heap.size ≤ b ∧ b < w.heap.size + 3))
    (hir : IntR w2 (fun b => (wr.alloc o).heap.size ≤ b ∧ b ≠ q ∧ tv2.ownBlock ≠ some b) rv r.1.kids) (hbd : Bd w2 q lo Y rs g cap tv2 r.2) (hb : But2 q tvr.ownBlock (wr.alloc o) w2)
    (hch : tv2.ownBlock = tvr.ownBlock ∨ ∃ k, tv2.ownBlock = some k ∧ (wr.alloc o).heap.size ≤ k) (hB : Below w2.heap.size w2 W9) (hS : W9.heap.size = w2.heap.size + 2)
    (hK : W9.heap[w2.heap.size]? = some (.cells #[.int .i64 r.1.kind, .string r.1.text, rv] 89)) {g5 cap5 : Nat} {x : Int} (hO : w5.ownsRow (w.heap.size + 3) 3 1 (.slice (some ⟨g5, 0, none⟩) (ks.length + 1) cap5) (ks.length + 1) (ints ks ++ [.int .i64 x]))
    (hG : W9.grownBy w5 kv.ownBlock) (hat : kv.ownBlock = some g5 ∨ g5 = w2.heap.size + 2) :
    M9 w q lo X rs g cap tv n nkv (ks ++ [x]) (.slice (some ⟨g5, 0, none⟩) (ks.length + 1) cap5) tv2 r rv w2.heap.size (w5.setCell ⟨w.heap.size + 2, 2, none⟩ (.slice (some ⟨g5, 0, none⟩) (ks.length + 1) cap5)) := by
  subst hY
  obtain ⟨fA, fR, fX, fO, fB, hz3⟩ := h.after hlq hown hb
  have hz2 := hb.size
  simp at hz2
  have hkl := h.own.lt
  have hkb : ∀ b, kv.ownBlock = some b → w.heap.size + 3 ≤ b ∧ b < wr.heap.size := hkl
  have hg5 : w.heap.size + 3 ≤ g5 := by
    rcases hat with e | e
    · exact (hkb g5 e).1
    · omega
  have htv2 : ∀ b, tv2.ownBlock = some b → kv.ownBlock ≠ some b := by
    intro b e1 e2
    rcases hch with e | ⟨j, e, hj⟩
    · rw [e] at e1; exact (h.apart b e2).1 e1
    · rw [e] at e1; injection e1 with e1; have := hkb b e2; simp at hj; omega
  have htl := hbd.terms.own_lt
  have key : ∀ b, b < w2.heap.size → b ≠ w.heap.size + 2 → kv.ownBlock ≠ some b → (w5.setCell ⟨w.heap.size + 2, 2, none⟩ (.slice (some ⟨g5, 0, none⟩) (ks.length + 1) cap5)).heap[b]? = w2.heap[b]? := fun b h1 h2 h3 =>
    (Below.heap_setCell _ _ _ _ (by simpa using h2)).trans ((hG.block b (by omega) (fun e => h3 e.symm)).trans (hB.block b h1))
  have nk : ∀ b, b < w.heap.size + 3 → kv.ownBlock ≠ some b := fun b hb' e => by have := hkb b e; omega
  have hX5 : w5.heap[w.heap.size + 2]? = some (.cells #[.int .i64 n.kind, .string n.text, kv] 89) := ((hG.block (w.heap.size + 2) (by omega) (fun e => nk _ (by omega) e.symm)).trans (hB.block _ (by omega))).trans fX
  refine ⟨(key _ (by omega) (by omega) (nk _ (by omega))).trans fA, (key _ (by omega) (by omega) (nk _ (by omega))).trans fR, set_x hX5, ?_, ?_, ?_, ?_, ?_, ?_, ?_⟩
  · exact set_other ((hG.block _ (by omega) (fun e => by have := hkb _ e.symm; omega)).trans hK) (by omega)
  · have h1 := own_keep (w' := w5.setCell ⟨w.heap.size + 2, 2, none⟩ (.slice (some ⟨g5, 0, none⟩) (ks.length + 1) cap5)) hO (fun b hb' => Below.heap_setCell _ _ _ _ (by cases hb'; simp; omega))
    simpa [ints] using h1
  · intro b e
    have e' : g5 = b := by injection e
    subst e'
    refine ⟨fun e2 => ?_, by omega⟩
    rcases hat with e3 | e3
    · exact htv2 _ e2 e3
    · have := (htl _ e2).2; omega
  · refine hbd.keep (fun b hz hc => ?_) (fun b hz hnX hX' => ?_)
    · refine key b hz ?_ ?_
      · rintro rfl
        rcases hc with hc | hc | hc | hc
        · omega
        · omega
        · rcases hch with e | ⟨j, e, hj⟩
          · rw [e] at hc
            rcases h.ch with e2 | ⟨j2, e2, hj2⟩
            · rw [e2] at hc; have := hown _ hc; omega
            · rw [e2] at hc; injection hc with hc; omega
          · rw [e] at hc; injection hc with hc; simp at hj; omega
        · exact hc.2.2.2 (.inr (.inr ⟨by omega, by omega⟩))
      · rcases hc with hc | hc | hc | hc
        · subst hc; exact nk _ (by omega)
        · exact nk _ (by omega)
        · exact htv2 b hc
        · exact fun e => hc.2.2.2 (.inr (.inl e))
    · rcases hX' with h1 | h1 | h1
      · exact hnX (.inl h1)
      · have e' : g5 = b := by injection h1
        subst e'
        rcases hat with e3 | e3
        · exact hnX (.inr (.inl e3))
        · omega
      · exact hnX (.inr (.inr h1))
  · refine RowIn.turn hir fun b hS' hz => ?_
    have hbw : wr.heap.size + 1 ≤ b := by simpa using hS'.1
    refine ⟨⟨by omega, hS'.2.1, hS'.2.2, fun e => ?_⟩, key b hz (by omega) (fun e => by have := hkb b e; omega)⟩
    have e' : g5 = b := by injection e
    subst e'
    rcases hat with e3 | e3
    · have := hkb _ e3; omega
    · omega
  · exact ((fB.below hB (by have := fB.size; omega)).grown hG (fun b e => .inl (by have := hkb b e; omega))).setCell (.inr (by simp)) _
  · rcases hch with e | ⟨j, e, hj⟩
    · rw [e]; exact h.ch
    · exact .inr ⟨j, e, by simp at hj; omega⟩

theorem TI.next {w : World} {q lo : Nat} {X : Nat → Prop} {rs : List Rl} {g cap : Nat} {tv : Value} {T : List Tm} {n : Nd} {nkv : Value} {F k : Nat} {ks : List Int} {kv tv2 : Value} {r : Tm × List Tm} {rv : Value} {B : Nat} {wm : World} (h : M9 w q lo X rs g cap tv n nkv ks kv tv2 r rv B wm)
    (hX : ∀ b, X b → b < w.heap.size) (hlq : q < w.heap.size) (hown : ∀ j, tv.ownBlock = some j → lo ≤ j ∧ j < w.heap.size) (hpur : termsL (termN rs F) n.kids (baseK rs n) T = termsL (termN rs F) (n.kids.drop (k + 1)) ks (r.2 ++ [r.1])) (hfew : ks.length ≤ k + 2)
    {W10 w7 : World} (hB : Below wm.heap.size wm W10) (hS : W10.heap.size = wm.heap.size + 1) {g7 cap7 : Nat} {xs : List Value} (hxs : CellsT (IntR wm (fun b => lo ≤ b ∧ b ≠ q ∧ tv2.ownBlock ≠ some b ∧ ¬ (X b ∨ kv.ownBlock = some b ∨ (w.heap.size ≤ b ∧ b < w.heap.size + 3)))) xs r.2)
    (hO : w7.ownsRow lo 89 3 (.slice (some ⟨g7, 0, none⟩) (r.2.length + 1) cap7) (r.2.length + 1) (xs ++ r.1.cs rv)) (hG : W10.grownBy w7 tv2.ownBlock) (hat : tv2.ownBlock = some g7 ∨ g7 = wm.heap.size + 1) :
    TI w q lo X rs g cap tv T n nkv F (k + 1) ks kv (.slice (some ⟨g7, 0, none⟩) (r.2.length + 1) cap7) (r.2 ++ [r.1]) (w7.setCell ⟨q, 1, none⟩ (.slice (some ⟨g7, 0, none⟩) (r.2.length + 1) cap7)) := by
  have htl := h.bd.terms.own_lt
  have hkl := h.own.lt
  have hzq := h.bd.lt
  have hloq := h.bd.loq
  have hz3 := (Array.getElem?_eq_some_iff.1 h.nX).1
  have key : ∀ b, b < wm.heap.size → b ≠ q → tv2.ownBlock ≠ some b → (w7.setCell ⟨q, 1, none⟩ (.slice (some ⟨g7, 0, none⟩) (r.2.length + 1) cap7)).heap[b]? = wm.heap[b]? := fun b h1 h2 h3 =>
    (Below.heap_setCell _ _ _ _ (by simpa using h2)).trans ((hG.block b (by omega) (fun e => h3 e.symm)).trans (hB.block b h1))
  have far : ∀ b, w.heap.size ≤ b → b < w.heap.size + 3 → tv2.ownBlock ≠ some b := by
    intro b h1 h2 e
    rcases h.ch with hc | ⟨j, hj, hj'⟩
    · rw [hc] at e; have := hown b e; omega
    · rw [hj] at e; injection e with e; omega
  have hg7q : g7 ≠ q := by
    rintro rfl
    rcases hat with e | e
    · exact h.bd.own e
    · omega
  have hg7 : ∀ b, b < wm.heap.size → tv2.ownBlock ≠ some b → g7 ≠ b := by
    rintro b h1 h2 rfl
    rcases hat with e | e
    · exact h2 e
    · omega
  refine ⟨hpur, (key _ (by omega) (by omega) (far _ (by omega) (by omega))).trans h.nA, (key _ (by omega) (by omega) (far _ (by omega) (by omega))).trans h.nR, (key _ (by omega) (by omega) (far _ (by omega) (by omega))).trans h.nX, ?_, ?_, ?_, ?_, ?_, by omega⟩
  · exact own_keep h.own fun b hb => key b (hkl b hb).2 (h.apart b hb).2 (h.apart b hb).1
  · intro b hb
    have h1 := h.apart b hb
    refine ⟨fun e => ?_, h1.2⟩
    have e' : g7 = b := by injection e
    exact hg7 b (hkl b hb).2 h1.1 e'
  · refine ⟨?_, h.bd.rules.keep (key g (by have := h.bd.rules.lt; omega) (by have := h.bd.glo; omega) (fun e => by have := (htl g e).1; have := h.bd.glo; omega)) (fun b hb hz => key b hz (by omega) (fun e => by have := (htl b e).1; omega)), h.bd.glo, h.bd.few, ⟨xs ++ r.1.cs rv, ?_, ?_⟩, hloq, fun e => hg7q (by injection e)⟩
    · have h1 : w7.heap[q]? = some (.cells #[.slice (some ⟨g, 0, none⟩) rs.length cap, tv2] 127) := ((hG.block q (by omega) (fun e => h.bd.own e.symm)).trans (hB.block q hzq)).trans h.bd.cell
      simp [World.setCell, Array.getElem?_modify, h1]
    · have h1 := own_keep (w' := w7.setCell ⟨q, 1, none⟩ (.slice (some ⟨g7, 0, none⟩) (r.2.length + 1) cap7)) hO (fun b hb => Below.heap_setCell _ _ _ _ (by cases hb; simpa using hg7q))
      simpa using h1
    · refine CellsT.snoc ?_ (CellsT.imp (fun _ _ kk => RowIn.turn kk fun b hb hz => ⟨⟨hb.1, hb.2.1, fun e => hg7 b hz hb.2.2.1 (by injection e), hb.2.2.2⟩, key b hz hb.2.1 hb.2.2.1⟩) hxs)
      refine RowIn.turn h.row fun b hb hz => ⟨⟨by omega, hb.2.1, fun e => hg7 b hz hb.2.2.1 (by injection e), ?_⟩, key b hz hb.2.1 hb.2.2.1⟩
      rintro (h1 | h1 | h1)
      · have := hX b h1; omega
      · exact hb.2.2.2 h1
      · omega
  · refine ((h.but.below hB (by omega)).grown hG (fun b e => ?_)).setCell (.inl rfl) _
    rcases h.ch with hc | ⟨j, hj, hj'⟩
    · exact .inr (hc ▸ e)
    · rw [hj] at e; injection e with e; exact .inl (by omega)
  · rcases hat with e | e
    · rcases h.ch with hc | ⟨j, hj, hj'⟩
      · exact .inl (e.symm.trans hc)
      · rw [hj] at e; injection e with e; exact .inr ⟨g7, rfl, by omega⟩
    · exact .inr ⟨g7, rfl, by omega⟩

theorem intR_of_own {w : World} {base : Nat} {kv : Value} {ks : List Int} {P : Nat → Prop} (h : w.ownsRow base 3 1 kv ks.length (ints ks)) (hP : ∀ b, kv.ownBlock = some b → P b) : IntR w P kv ks := by
  refine ⟨h.1, ?_⟩
  rcases h.2 with h2 | ⟨g, cap, cur, hv, hg, hh, r⟩
  · exact .inl h2
  · exact .inr ⟨g, cap, cur, hv, hP g (by rw [hv]; rfl), hh, r⟩
theorem TI.done {w : World} {q lo : Nat} {X : Nat → Prop} {rs : List Rl} {g cap : Nat} {tv : Value} {T : List Tm} {n : Nd} {nkv : Value} {F k : Nat} {ks : List Int} {kv tvr : Value} {Tr : List Tm} {wr : World} (h : TI w q lo X rs g cap tv T n nkv F k ks kv tvr Tr wr)
    (hk : n.kids.length ≤ k) (hlq : q < w.heap.size) (hown : ∀ j, tv.ownBlock = some j → lo ≤ j ∧ j < w.heap.size) (a b c : Value) (ao : Option Addr) (m cp : Nat) (hkv : kv = .slice ao m cp) :
    OutT w q lo X rs g cap tv (termN rs (F + 1) n T) (.returned (.agg #[.int .i64 n.kind, .string n.text, .slice ao m cp])) (((wr.setCell ⟨w.heap.size + 1, 0, none⟩ a).setCell ⟨w.heap.size + 1, 1, none⟩ b).setCell ⟨w.heap.size + 1, 2, none⟩ c) := by
  have hp : termN rs (F + 1) n T = (⟨n.kind, n.text, ks⟩, Tr) := by
    have := h.pur
    rw [List.drop_eq_nil_of_le hk] at this
    simp only [termN, this, termsL]
  have key : ∀ d, d ≠ w.heap.size + 1 → (((wr.setCell ⟨w.heap.size + 1, 0, none⟩ a).setCell ⟨w.heap.size + 1, 1, none⟩ b).setCell ⟨w.heap.size + 1, 2, none⟩ c).heap[d]? = wr.heap[d]? := fun d hd => by
    rw [Below.heap_setCell _ _ _ _ (by simpa using hd), Below.heap_setCell _ _ _ _ (by simpa using hd), Below.heap_setCell _ _ _ _ (by simpa using hd)]
  have far : tvr.ownBlock ≠ some (w.heap.size + 1) := by
    intro e
    rcases h.ch with hc | ⟨j, hj, hj'⟩
    · rw [hc] at e; have := hown _ e; omega
    · rw [hj] at e; injection e with e; omega
  have hkl := h.own.lt
  have hloq := h.bd.loq
  rw [hp]
  subst hkv
  refine ⟨ao, m, cp, tvr, rfl, intR_of_own (own_keep h.own fun d hd => key d (by have := hkl d hd; omega)) (fun d hd => ⟨by have := hkl d hd; omega, (h.apart d hd).2, (h.apart d hd).1⟩), h.bd.keep (fun d hz hc => key d ?_) (fun d _ hn hx => hn (.inl hx)), ?_, ?_⟩
  · rintro rfl
    rcases hc with hc | hc | hc | hc
    · omega
    · omega
    · exact far hc
    · exact hc.2.2.2 (.inr (.inr ⟨by omega, by omega⟩))
  · exact ((h.but.setCell (.inr (by simp)) _).setCell (.inr (by simp)) _).setCell (.inr (by simp)) _
  · rcases h.ch with hc | ⟨j, hj, hj'⟩
    · exact .inl hc
    · exact .inr ⟨j, hj, by omega⟩
end Go.Proofs.YtbojcemamhiodaaGreatDoor

import Derived.Test.YtbojcemamhiodaaGreatDoorTrm3
namespace Go.Proofs.YtbojcemamhiodaaGreatDoor
open Go.RowKit

theorem term_all (q lo : Nat) (rs : List Rl) (g cap : Nat) : ∀ F, SaidT q lo rs g cap F
  | 0 => term_any q lo rs g cap 0 fun F' h => by omega
  | F + 1 => term_any q lo rs g cap (F + 1) fun F' h => by
    have e : F' = F := by omega
    subst e
    exact term_all q lo rs g cap F'

def buildL (rs : List Rl) (F : Nat) : List Rl → Nat → List Tm → List Tm
  | [], _, T => T
  | r :: l, i, T => buildL rs F l (i + 1) ((termN rs F r.body T).2.set i (termN rs F r.body T).1)
/-- the terms of a grammar -/
def buildF (F : Nat) (rs : List Rl) : List Tm := buildL rs F rs 0 (List.replicate rs.length Tm.zero)
theorem buildL_mono (rs : List Rl) (F : Nat) : ∀ (l : List Rl) (i : Nat) (T : List Tm), T.length ≤ (buildL rs F l i T).length
  | [], _, _ => Nat.le_refl _
  | r :: l, i, T => by
    have h1 := buildL_mono rs F l (i + 1) ((termN rs F r.body T).2.set i (termN rs F r.body T).1)
    have h2 := termN_mono rs F r.body T
    simp only [buildL]
    simp at h1
    omega

theorem made_row {K : Value → List Int → Prop} (hK : K (.slice none 0 0) []) : ∀ n : Nat, CellsT K (madeCells #[.int .i64 0, .string ⟨#[]⟩, .slice none 0 0] (n * 3)).toList (List.replicate n Tm.zero)
  | 0 => by simp [madeCells, CellsT]
  | n + 1 => by
    have ih := CellsT.snoc (t := Tm.zero) hK (made_row hK n)
    rw [List.replicate_succ']
    have e : (madeCells #[.int .i64 0, .string ⟨#[]⟩, .slice none 0 0] ((n + 1) * 3)).toList = (madeCells #[.int .i64 0, .string ⟨#[]⟩, .slice none 0 0] (n * 3)).toList ++ Tm.zero.cs (.slice none 0 0) := by
      have e1 : (n + 1) * 3 = n * 3 + 1 + 1 + 1 := by omega
      have m0 : n * 3 % 3 = 0 := by omega
      have m1 : (n * 3 + 1) % 3 = 1 := by omega
      have m2 : (n * 3 + 1 + 1) % 3 = 2 := by omega
      simp [madeCells, e1, List.range_succ, m0, m1, m2, Tm.cs, Tm.zero]
      rfl
    rw [e]
    exact ih

/-- three cells of the row are written -/
theorem GrowT.set {w : World} {lo : Nat} {S : Nat → Prop} {gt cp k : Nat} {T : List Tm} {t : Tm} {rv : Value} (h : GrowT w lo S (.slice (some ⟨gt, 0, none⟩) T.length cp) T) (hr : IntR w S rv t.kids) (hS : ∀ b, S b → b ≠ gt) (hk : k < T.length) :
    GrowT (((w.setCell ⟨gt, k * 3, none⟩ (.int .i64 t.kind)).setCell ⟨gt, k * 3 + 1, none⟩ (.string t.text)).setCell ⟨gt, k * 3 + 2, none⟩ rv) lo S (.slice (some ⟨gt, 0, none⟩) T.length cp) (T.set k t) := by
  obtain ⟨xs, h1, h2⟩ := h
  have key : ∀ b, b ≠ gt → (((w.setCell ⟨gt, k * 3, none⟩ (.int .i64 t.kind)).setCell ⟨gt, k * 3 + 1, none⟩ (.string t.text)).setCell ⟨gt, k * 3 + 2, none⟩ rv).heap[b]? = w.heap[b]? := fun b hb => by
    rw [Below.heap_setCell _ _ _ _ (by simpa using hb), Below.heap_setCell _ _ _ _ (by simpa using hb), Below.heap_setCell _ _ _ _ (by simpa using hb)]
  refine ⟨((xs.set (k * 3) (.int .i64 t.kind)).set (k * 3 + 1) (.string t.text)).set (k * 3 + 2) rv, ⟨by simpa using h1.1, ?_⟩, CellsT.imp (fun _ _ kk => RowIn.turn kk fun b hb _ => ⟨hb, key b (hS b hb)⟩) (CellsT.set hr h2 k hk)⟩
  rcases h1.2 with ⟨e, _⟩ | ⟨g', cap', cur, e, hg, hh, c1, c2, c3, c4⟩
  · cases e
  · injection e with e1 e2 e3
    injection e1 with e1
    injection e1 with e1
    subst e1
    refine .inr ⟨gt, cap', ((cur.setIfInBounds (k * 3) (.int .i64 t.kind)).setIfInBounds (k * 3 + 1) (.string t.text)).setIfInBounds (k * 3 + 2) rv, by rw [e3, List.length_set], hg, ?_, by simpa using c1, c2, by simpa using c3, ?_⟩
    · simp [World.setCell, Array.getElem?_modify, hh]
    · simp only [List.length_set, Array.toList_setIfInBounds, List.take_set]
      rw [c4]

/-- a grammar in block G; what hangs on it lies in blocks of S -/
structure Gm (w : World) (S : Nat → Prop) (G : Nat) (nv tv : Value) (nms : List ByteArray) (T : List Tm) : Prop where
  inS : S G
  cell : w.heap[G]? = some (.cells #[nv, tv] 57)
  names : RowIn w S 9 1 nv nms.length (nms.map Value.string)
  terms : ∃ xs, RowIn w S 89 3 tv T.length xs ∧ CellsT (IntR w S) xs T
theorem Gm.turn {w w' : World} {S S' : Nat → Prop} {G : Nat} {nv tv : Value} {nms : List ByteArray} {T : List Tm} (h : Gm w S G nv tv nms T) (k : Turn S S' w w') : Gm w' S' G nv tv nms T := by
  obtain ⟨xs, h1, h2⟩ := h.terms
  have hG := k G h.inS (Array.getElem?_eq_some_iff.1 h.cell).1
  exact ⟨hG.1, hG.2.trans h.cell, h.names.turn k, xs, h1.turn k, CellsT.imp (fun _ _ kk => RowIn.turn kk k) h2⟩

theorem infoStr : (Tryz.prog.info? 9).map (fun i => (i.zero, i.size, i.bytes)) = some (some (.string ⟨#[]⟩), 1, 16) := by kernel_rfl
theorem run_make_t (w : World) (n : Nat) (hn : n ≤ 12) : (Instr.makeSlice 55 (.int .i64 n) (.int .i64 n)).run Tryz.prog w = .ok (.slice (some ⟨w.heap.size, 0, none⟩) n n) (w.alloc (.cells (madeCells #[.int .i64 0, .string ⟨#[]⟩, .slice none 0 0] (n * 3)) 89)) := by
  obtain ⟨i, hi, hz, hsz, hby⟩ := info_parts infoTerm
  have h := run_make (P := Tryz.prog) w 55 89 i _ Tryz.underlying55 hi hz .i64 .i64 n n (by omega) (by omega) (by rw [hby]; omega) (by omega)
  rw [hsz] at h
  simp only [Int.toNat_natCast] at h
  exact h

/-- where build's loop stands: k rules are done -/
structure BI (w : World) (rs : List Rl) (g cap F : Nat) (k : Nat) (nv tvr : Value) (Tr : List Tm) (wr : World) : Prop where
  pur : buildF (F + 1) rs = buildL rs (F + 1) (rs.drop k) k Tr
  len : rs.length ≤ Tr.length
  own : wr.ownsRow (w.heap.size + 2) 9 1 nv k ((rs.take k).map fun r => Value.string r.name)
  apart : ∀ b, nv.ownBlock = some b → tvr.ownBlock ≠ some b ∧ b ≠ w.heap.size + 1
  bd : Bd wr (w.heap.size + 1) w.heap.size (fun b => nv.ownBlock = some b) rs g cap tvr Tr
  bel : Below w.heap.size w wr

theorem BI.start {w : World} {rs : List Rl} {g cap F : Nat} (hr : Rw w (fun b => b < w.heap.size) g cap rs) (hn : rs.length ≤ 12) :
    BI w rs g cap F 0 (.slice none 0 0) (.slice (some ⟨w.heap.size, 0, none⟩) rs.length rs.length) (List.replicate rs.length Tm.zero)
      ((w.alloc (.cells (madeCells #[.int .i64 0, .string ⟨#[]⟩, .slice none 0 0] (rs.length * 3)) 89)).alloc (.cells #[.slice (some ⟨g, 0, none⟩) rs.length cap, .slice (some ⟨w.heap.size, 0, none⟩) rs.length rs.length] 127)) := by
  have hb : Below w.heap.size w ((w.alloc (.cells (madeCells #[.int .i64 0, .string ⟨#[]⟩, .slice none 0 0] (rs.length * 3)) 89)).alloc (.cells #[.slice (some ⟨g, 0, none⟩) rs.length cap, .slice (some ⟨w.heap.size, 0, none⟩) rs.length rs.length] 127)) :=
    ((Below.refl _ _).alloc (Nat.le_refl _) _).alloc (by simp) _
  have hq := heap_alloc_new (w.alloc (.cells (madeCells #[.int .i64 0, .string ⟨#[]⟩, .slice none 0 0] (rs.length * 3)) 89)) (.cells #[.slice (some ⟨g, 0, none⟩) rs.length cap, .slice (some ⟨w.heap.size, 0, none⟩) rs.length rs.length] 127)
  rw [show (w.alloc (.cells (madeCells #[.int .i64 0, .string ⟨#[]⟩, .slice none 0 0] (rs.length * 3)) 89)).heap.size = w.heap.size + 1 from by simp] at hq
  refine ⟨rfl, by simp, World.ownsRow_nil _ _ _ _, fun b h => (by cases h), ⟨hq, hr.keep (hb.block g hr.lt) (fun b _ hz => hb.block b hz), hr.lt, hn, ⟨(madeCells #[.int .i64 0, .string ⟨#[]⟩, .slice none 0 0] (rs.length * 3)).toList, ⟨by simp [size_madeCells], .inr ⟨w.heap.size, rs.length, madeCells #[.int .i64 0, .string ⟨#[]⟩, .slice none 0 0] (rs.length * 3), by simp, Nat.le_refl _, heap_old (heap_alloc_new w _), by simp, by unfold maxLen; omega, size_madeCells _ _, ?_⟩⟩, made_row ⟨rfl, .inl ⟨rfl, rfl⟩⟩ _⟩, by omega, fun h => by simp [Value.ownBlock] at h⟩, hb⟩
  rw [List.take_of_length_le (by simp [size_madeCells])]

/-- the world ahead of names' append -/
abbrev W5 (w2 : World) (gt k : Nat) (t : Tm) (rv : Value) (o2 o3 : Obj) : World :=
  ((((w2.setCell ⟨gt, k * 3, none⟩ (.int .i64 t.kind)).setCell ⟨gt, k * 3 + 1, none⟩ (.string t.text)).setCell ⟨gt, k * 3 + 2, none⟩ rv).alloc o2).alloc o3
theorem W5_size (w2 : World) (gt k : Nat) (t : Tm) (rv : Value) (o2 o3 : Obj) : (W5 w2 gt k t rv o2 o3).heap.size = w2.heap.size + 2 := by simp [World.setCell]
theorem W5_block {w2 : World} {gt k : Nat} {t : Tm} {rv : Value} {o2 o3 : Obj} {b : Nat} (hb : b < w2.heap.size) (hg : b ≠ gt) : (W5 w2 gt k t rv o2 o3).heap[b]? = w2.heap[b]? := by
  rw [Below.heap_alloc _ _ _ (by simp [World.setCell]; omega), Below.heap_alloc _ _ _ (by simp [World.setCell]; omega), Below.heap_setCell _ _ _ _ (by simpa using hg), Below.heap_setCell _ _ _ _ (by simpa using hg), Below.heap_setCell _ _ _ _ (by simpa using hg)]

theorem BI.next {w : World} {rs : List Rl} {g cap F k : Nat} {nv tvr : Value} {Tr : List Tm} {wr : World} (h : BI w rs g cap F k nv tvr Tr wr) (hlt : k < rs.length) {o o2 o3 : Obj} {w2 w6 : World} {t : Tm × List Tm} {rv : Value} {gt cpt : Nat}
    (hir : IntR w2 (fun b => (wr.alloc o).heap.size ≤ b ∧ b ≠ w.heap.size + 1 ∧ (Value.slice (some ⟨gt, 0, none⟩) t.2.length cpt).ownBlock ≠ some b) rv t.1.kids) (hbd : Bd w2 (w.heap.size + 1) w.heap.size (fun b => nv.ownBlock = some b) rs g cap (.slice (some ⟨gt, 0, none⟩) t.2.length cpt) t.2)
    (hb : But2 (w.heap.size + 1) tvr.ownBlock (wr.alloc o) w2) (hch : some gt = tvr.ownBlock ∨ wr.heap.size + 1 ≤ gt) (hl : rs.length ≤ t.2.length)
    (hpur : buildF (F + 1) rs = buildL rs (F + 1) (rs.drop (k + 1)) (k + 1) (t.2.set k t.1)) {g6 cap6 : Nat} (hO : w6.ownsRow (w.heap.size + 2) 9 1 (.slice (some ⟨g6, 0, none⟩) (k + 1) cap6) (k + 1) ((rs.take (k + 1)).map fun r => Value.string r.name))
    (hG : (W5 w2 gt k t.1 rv o2 o3).grownBy w6 nv.ownBlock) (hat : nv.ownBlock = some g6 ∨ g6 = w2.heap.size + 2) :
    BI w rs g cap F (k + 1) (.slice (some ⟨g6, 0, none⟩) (k + 1) cap6) (.slice (some ⟨gt, 0, none⟩) t.2.length cpt) (t.2.set k t.1) w6 := by
  have hz2 := hb.size
  simp at hz2
  have hnl := h.own.lt
  have htl := hbd.terms.own_lt gt rfl
  have hvl := h.bd.terms.own_lt
  have hbz := h.bel.size
  have hgq : gt ≠ w.heap.size + 1 := fun e => hbd.own (by rw [e]; rfl)
  have hngt : ∀ b, nv.ownBlock = some b → b ≠ gt := by
    rintro b e rfl
    rcases hch with e2 | e2
    · exact (h.apart b e).1 e2.symm
    · have := hnl b e; omega
  have hg6 : w.heap.size + 2 ≤ g6 := by
    rcases hat with e | e
    · exact (hnl g6 e).1
    · omega
  have hs5 := W5_size w2 gt k t.1 rv o2 o3
  have key : ∀ b, b < w2.heap.size → b ≠ gt → nv.ownBlock ≠ some b → w6.heap[b]? = w2.heap[b]? := fun b h1 h2 h3 =>
    (hG.block b (by rw [hs5]; omega) (fun e => h3 e.symm)).trans (W5_block h1 h2)
  have hset : GrowT (W5 w2 gt k t.1 rv o2 o3) w.heap.size (fun b => w.heap.size ≤ b ∧ b ≠ w.heap.size + 1 ∧ b ≠ gt ∧ nv.ownBlock ≠ some b) (.slice (some ⟨gt, 0, none⟩) t.2.length cpt) (t.2.set k t.1) := by
    have h1 : GrowT w2 w.heap.size (fun b => w.heap.size ≤ b ∧ b ≠ w.heap.size + 1 ∧ b ≠ gt ∧ nv.ownBlock ≠ some b) (.slice (some ⟨gt, 0, none⟩) t.2.length cpt) t.2 :=
      hbd.terms.keep (fun b hS hz => ⟨⟨hS.1, hS.2.1, fun e => hS.2.2.1 (by rw [e]; rfl), hS.2.2.2⟩, rfl⟩) (fun b e => rfl)
    have h2 : IntR w2 (fun b => w.heap.size ≤ b ∧ b ≠ w.heap.size + 1 ∧ b ≠ gt ∧ nv.ownBlock ≠ some b) rv t.1.kids :=
      RowIn.turn hir fun b hS hz => ⟨⟨by have := hS.1; simp at this; omega, hS.2.1, fun e => hS.2.2 (by rw [e]; rfl), fun e => by have := hnl b e; have := hS.1; simp at this; omega⟩, rfl⟩
    refine ((h1.set h2 (fun b hS => hS.2.2.1) (by omega)).keep (fun b hS hz => ⟨hS, Below.heap_alloc _ _ _ hz⟩) (fun b e => Below.heap_alloc _ _ _ (by have e' : gt = b := (by injection e); simp [World.setCell]; omega))).keep (fun b hS hz => ⟨hS, Below.heap_alloc _ _ _ hz⟩) (fun b e => Below.heap_alloc _ _ _ (by have e' : gt = b := (by injection e); simp [World.setCell]; omega))
  refine ⟨hpur, by simpa using hl, hO, fun b e => ?_, ⟨(key _ hbd.lt (fun e => hgq e.symm) (fun e => (h.apart _ e).2 rfl)).trans hbd.cell, hbd.rules.keep (key g hbd.rules.lt (by have := hbd.glo; omega) (fun e => by have := hnl g e; have := hbd.glo; omega)) (fun b hS hz => key b hz (by omega) (fun e => by have := hnl b e; omega)), hbd.glo, hbd.few, ?_, hbd.loq, hbd.own⟩, ?_⟩
  · have e' : g6 = b := by injection e
    subst e'
    refine ⟨fun e2 => ?_, by omega⟩
    have e3 : gt = g6 := by injection e2
    rcases hat with e4 | e4
    · exact hngt g6 e4 e3.symm
    · omega
  · have h1 := hset.keep (w' := w6) (S' := fun b => w.heap.size ≤ b ∧ b ≠ w.heap.size + 1 ∧ (Value.slice (some ⟨gt, 0, none⟩) t.2.length cpt).ownBlock ≠ some b ∧ ¬ (Value.slice (some ⟨g6, 0, none⟩) (k + 1) cap6).ownBlock = some b) (fun b hS hz => ⟨⟨hS.1, hS.2.1, fun e => hS.2.2.1 (by injection e with e; exact e.symm), fun e => ?_⟩, hG.block b hz (fun e => hS.2.2.2 e.symm)⟩) (fun b e => hG.block b (by have e' : gt = b := (by injection e); rw [hs5]; omega) (fun e2 => by have e' : gt = b := (by injection e); exact hngt b e2.symm e'.symm))
    · simpa using h1
    · have e' : g6 = b := by injection e
      subst e'
      rcases hat with e4 | e4
      · exact hS.2.2.2 e4
      · rw [hs5] at hz; omega
  · refine ⟨hG.os.trans (hb.os.trans h.bel.os), hG.tape.trans (hb.tape.trans h.bel.tape), hG.output.trans (hb.output.trans h.bel.output), by have := hG.size; rw [hs5] at this; omega, fun b hb' => ?_⟩
    rw [key b (by omega) (by omega) (fun e => by have := hnl b e; omega), hb.block b (by simp; omega) (by omega) (fun e => by have := hvl b e; omega), Below.heap_alloc _ _ _ (by omega), h.bel.block b hb']
end Go.Proofs.YtbojcemamhiodaaGreatDoor

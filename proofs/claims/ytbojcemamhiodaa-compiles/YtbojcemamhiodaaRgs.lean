import Derived.Test.YtbojcemamhiodaaRys
import Derived.Test.YtbojcemamhiodaaBx
namespace Go.Proofs.Ytbojcemamhiodaa
open Go.RowKit
theorem RS.range {w : World} {q B cap : Nat} {s : ByteArray} {T : List Tk} {k d e a : Int} (h : RS w q B cap s T k d e a) (i : Nat) (t : Tk) (ht : T[i]? = some t) : ∃ str f, TokR s t str f ∧ w.rangeAt B (i * 259) (tokV (whatK t.k) str f t.from_) ∧ (i : Int) < T.length ∧ (T.length : Int) ≤ maxLen := by
  obtain ⟨str, f, h1, h2, h3, h4, h5⟩ := h.tok.at i t ht
  refine ⟨str, f, h1, fun j v hv => ?_, h4, h5⟩
  have hj : j < 259 := by
    have := (List.getElem?_eq_some_iff.1 hv).1
    rwa [tokV_len] at this
  rw [h2 j hj]
  exact hv
/-- the world behind 't := r.l[r.k]' -/
def wTok (w : World) (cs : List Value) : World := ((w.alloc (.cells (tokV .empty .empty noB 0).toArray 56)).drew).setCells w.heap.size 0 cs
theorem tok_there (w : World) : ((w.alloc (.cells (tokV .empty .empty noB 0).toArray 56)).drew).there w.heap.size 0 259 := by
  intro j hj
  have h' : TokB ((w.alloc (.cells (tokV .empty .empty noB 0).toArray 56)).drew) w.heap.size .empty .empty noB 0 := tok_new w .empty .empty noB 0
  have hl : j < (tokV .empty .empty noB 0).length := by rw [tokV_len]; exact hj
  refine ⟨?_, h'.fz _⟩
  unfold TokB at h'
  simp only [World.cell?, h']
  simp [hl]
theorem setCells_row {w : World} {b : Nat} {t : TypeId} {C : Array Value} {L : List Value} (hb : w.heap[b]? = some (.cells C t (0, 0))) (hn : C.size = L.length) (h1 : ∀ v ∈ L, v.oneCell' = true) (ht : w.there b 0 L.length) : w.setCells b 0 L = w.setRow b L.toArray := by
  have e1 := storeRow (P := Try.prog) hb hn h1
  have e2 := run_storeCells_cells (P := Try.prog) b 0 L 0 w (fun j hj => by have := (ht j hj).1; rwa [show 0 + 0 + j = 0 + j by omega]) (fun j hj => by have := (ht j hj).2; rwa [show 0 + 0 + j = 0 + j by omega]) h1
  rw [e1] at e2
  injection e2 with _ e2
  exact e2.symm
theorem wTok_row (w : World) (a b : ByteArray) (f : Nat → Bool) (i : Int) : wTok w (tokV a b f i) = ((w.alloc (.cells (tokV .empty .empty noB 0).toArray 56)).drew).setRow w.heap.size (tokV a b f i).toArray :=
  setCells_row (w := (w.alloc (.cells (tokV .empty .empty noB 0).toArray 56)).drew) (tok_new w .empty .empty noB 0) (by rw [List.size_toArray, tokV_len, tokV_len]) (tokV_one a b f i) (by rw [tokV_len]; exact tok_there w)
theorem wTok_tok (w : World) (a b : ByteArray) (f : Nat → Bool) (i : Int) : TokB (wTok w (tokV a b f i)) w.heap.size a b f i := by
  rw [wTok_row]
  exact TokB.row (w := (w.alloc (.cells (tokV .empty .empty noB 0).toArray 56)).drew) (tok_new w .empty .empty noB 0) a b f i
theorem wTok_below (w : World) (a b : ByteArray) (f : Nat → Bool) (i : Int) : Below w.heap.size w (wTok w (tokV a b f i)) := by
  rw [wTok_row]
  exact below_setRow (((Below.refl _ _).alloc (Nat.le_refl _) _).drew) (Nat.le_refl _) _
end Go.Proofs.Ytbojcemamhiodaa
namespace Go.Proofs.Ytbojcemamhiodaa
open Go.RowKit
theorem withinF_1 {s : ByteArray} {r : Res} {c : Int} (h : r.err ≠ 0) : withinF s r c = errR r.err r.tk r.d := by unfold withinF; rw [if_pos h]
theorem withinF_2 {s : ByteArray} {r : Res} {c : Int} (h : r.err = 0) (hc : r.tk.k ≠ c) : withinF s r c = errR 2 r.tk r.d := by unfold withinF; rw [if_neg (by omega), if_pos hc]
theorem withinF_3 {s : ByteArray} {r : Res} {c : Int} (h : r.err = 0) (hc : r.tk.k = c) : withinF s r c = ⟨0, r.nd, nextT s r.tk.to, r.d - 1⟩ := by unfold withinF; rw [if_neg (by omega), if_neg (by omega)]
set_option maxRecDepth 4000 in
set_option maxHeartbeats 2000000 in
theorem closed_any (w : World) (q B cap : Nat) (s : ByteArray) (T : List Tk) (d c : Int) (E : Tk → Int → Res) (t : Tk) (k : Nat) (hT : ChainT s T) (ht : T[k]? = some t) (hr : RS w q B cap s T k d 0 0) (h0 : 0 ≤ d) (hd : d < 12) (hc : 2 ≤ c ∧ c ≤ 17)
    (hF : FineE s E (d + 1)) (hC : SaidCh s q B cap T 15 E (d + 1)) :
    Calls Try.prog 71 #[.pointer (some ⟨q, 0, none⟩), .string (whatK c)] w (OutX w q B cap s T d (withinF s (E t (d + 1)) c)) := by
  obtain ⟨hok, _, _⟩ := hT.ok k t ht
  have hf := hF t hok
  obtain ⟨c0, c1, c2, c3, c4, cf, hqlt⟩ := five hr.rd
  have HC := hide (hC (w.setCell ⟨q, 2, none⟩ (.int .i64 (d + 1))) k t ht (hr.setD (d + 1)))
  have hq := hr.lt
  clear hC hF hr
  generalize hrr : E t (d + 1) = r at hf HC ⊢
  clear hrr
  go_enter Try.func71, Try.ntmps71
  go_wp2_with fail
  go_at_call 15
  refine (unhide HC).mono ?_
  rintro e w1 ⟨b, rfl, ho⟩
  have HB : Hid (But q w w1) := ⟨ho.bt.os, ho.bt.tape, ho.bt.output, by have := ho.bt.size; simpa [World.setCell] using this, fun j hj hne => (ho.bt.block j (by simpa [World.setCell] using hj) hne).trans (Below.heap_setCell _ _ _ _ hne)⟩
  have hsz : (w.setCell ⟨q, 2, none⟩ (.int .i64 (d + 1))).heap.size = w.heap.size := by simp [World.setCell]
  have hB1 := (unhide HB).size
  rcases ho.out with ⟨he, x, hxb, hxt, hxo, hxn, k', hk', hrs⟩ | ⟨he, kk, hrs⟩
  · have hd1 := hf.dep he
    rw [hsz] at hxt
    obtain ⟨hok', h17, hnx⟩ := hT.ok k' _ hk'
    have HRS := hide (hrs.setD d)
    have HXT := hide (Tree.turn (w' := w1.setCell ⟨q, 2, none⟩ (.int .i64 d)) (fun j hS _ => ⟨hS, Below.heap_setCell _ _ _ _ (show j ≠ q from fun e => by have hS' : w.heap.size ≤ j := hS; omega)⟩) x hxt)
    obtain ⟨e0, e1, e2, e3, e4, ef, hqlt1⟩ := five hrs.rd
    have HIs := hide (is_ok (whatK c) (unhide HRS) hk')
    rw [whatK_eq h17 (by omega)] at HIs
    clear hxt hrs ho
    by_cases hcc : r.tk.k = c
    · have hb : (r.tk.k == c) = true := by simpa using hcc
      rw [hb] at HIs
      have hnx2 := hnx (by omega)
      have hlk := (List.getElem?_eq_some_iff.1 hnx2).1
      have hfew := hT.few
      have HR := hide (withinF_3 (s := s) he hcc)
      clear hb hcc
      go_wp2_with fail
      go_at_call 16
      refine (unhide HIs).mono ?_
      rintro e w2 ⟨rfl, m, rfl⟩
      have HR2 := hide (((unhide HRS).drewN m).setK ((k' : Int) + 1))
      obtain ⟨f0, f1, f2, f3, f4, ff, hqlt2⟩ := five ((unhide HRS).drewN m).rd
      go_wp2
      go_ret
      refine ⟨b, rfl, ?_, .inl ⟨by rw [unhide HR], x, hxb, ?_, hxo, by rw [unhide HR]; exact hxn, k' + 1, by rw [unhide HR]; exact hnx2, ?_⟩⟩
      · exact ((unhide HB).setCell (.inl rfl) _ : But q w (w1.setCell ⟨q, 2, none⟩ (.int .i64 d))).trans (⟨rfl, rfl, rfl, by simp [World.setCell], fun j hj hne => Below.heap_setCell _ _ _ _ hne⟩)
      · exact Tree.turn (fun j hS _ => ⟨hS, Below.heap_setCell _ _ _ _ (show j ≠ q from fun e => by have hS' : w.heap.size ≤ j := hS; omega)⟩) x ((unhide HXT).below (below_drewN' (Below.refl _ _) m))
      · rw [show ((k' + 1 : Nat) : Int) = (k' : Int) + 1 by omega]
        exact unhide HR2
    · have hb : (r.tk.k == c) = false := by simpa using hcc
      rw [hb] at HIs
      have HR := hide (withinF_2 (s := s) he hcc)
      clear hb hcc
      go_wp2_with fail
      go_at_call 16
      refine (unhide HIs).mono ?_
      rintro e w2 ⟨rfl, m, rfl⟩
      have HWr := hide (wrong_ok 2 ((unhide HRS).drewN m) hk')
      go_wp2_with fail
      go_at_call 17
      refine (unhide HWr).mono ?_
      rintro e w3 ⟨rfl, hrs3, hb3⟩
      have HR3 := hide hrs3
      have HB3 := hide hb3
      clear hrs3 hb3
      go_wp2
      go_ret
      refine ⟨b, rfl, ?_, .inr ⟨by rw [unhide HR]; show (2 : Int) ≠ 0; omega, (k' : Int), by rw [unhide HR]; exact unhide HR3⟩⟩
      have h1 : But q w ((w1.setCell ⟨q, 2, none⟩ (.int .i64 d)).drewN m) := ((unhide HB).setCell (.inl rfl) _ : But q w (w1.setCell ⟨q, 2, none⟩ (.int .i64 d))).trans (.of_below (below_drewN' (Below.refl _ _) m) (Nat.le_refl _))
      exact h1.trans (unhide HB3)
  · have HRS := hide (hrs.setD d)
    obtain ⟨e0, e1, e2, e3, e4, ef, hqlt1⟩ := five hrs.rd
    have HIs := hide (is_err (whatK c) (unhide HRS) he)
    have HR := hide (withinF_1 (s := s) (c := c) he)
    have He := hide he
    clear hrs ho he
    go_wp2_with fail
    go_at_call 16
    refine (unhide HIs).mono ?_
    rintro e w2 ⟨rfl, m, rfl⟩
    have HWr := hide (wrong_err 2 ((unhide HRS).drewN m) (unhide He))
    go_wp2_with fail
    go_at_call 17
    refine (unhide HWr).mono ?_
    rintro e w3 ⟨rfl, hw3⟩
    replace hw3 := hw3.symm
    subst hw3
    go_wp2
    go_ret
    refine ⟨b, rfl, ?_, .inr ⟨by rw [unhide HR]; exact unhide He, kk, by rw [unhide HR]; exact (unhide HRS).drewN m⟩⟩
    exact ((unhide HB).setCell (.inl rfl) _ : But q w (w1.setCell ⟨q, 2, none⟩ (.int .i64 d))).trans (.of_below (below_drewN' (Below.refl _ _) m) (Nat.le_refl _))
end Go.Proofs.Ytbojcemamhiodaa
namespace Go.Proofs.Ytbojcemamhiodaa
open Go.RowKit
/-- what the region 't := r.l[r.k]' reads -/
def STok (q B cap n k : Nat) (cs : List Value) (w' : World) : Prop := w'.cell? ⟨q, 0, none⟩ = some (.slice (some ⟨B, 0, none⟩) n cap) ∧ w'.cell? ⟨q, 1, none⟩ = some (.int .i64 k) ∧ w'.rangeAt B (k * 259) cs
structure TokF (w : World) (q B cap : Nat) (s : ByteArray) (T : List Tk) (d : Int) (k : Nat) (t : Tk) (str : ByteArray) (f : Nat → Bool) (cs : List Value) : Prop where
  tr : TokR s t str f
  hl : (k : Int) < T.length
  hm : (T.length : Int) ≤ maxLen
  len : cs.length = 259
  hi : (Try.prog.info? 56).map (·.size) = some cs.length
  one : ∀ v ∈ cs, v.oneCell' = true
  s1 : w.cell? ⟨q, 0, none⟩ = some (.slice (some ⟨B, 0, none⟩) T.length cap) ∧ w.cell? ⟨q, 1, none⟩ = some (.int .i64 k) ∧ w.rangeAt B (k * 259) cs
  s2 : ((w.alloc (.cells (tokV .empty .empty noB 0).toArray 56)).drew).cell? ⟨q, 0, none⟩ = some (.slice (some ⟨B, 0, none⟩) T.length cap) ∧ ((w.alloc (.cells (tokV .empty .empty noB 0).toArray 56)).drew).cell? ⟨q, 1, none⟩ = some (.int .i64 k) ∧ ((w.alloc (.cells (tokV .empty .empty noB 0).toArray 56)).drew).rangeAt B (k * 259) cs
  th : ((w.alloc (.cells (tokV .empty .empty noB 0).toArray 56)).drew).there w.heap.size 0 cs.toArray.size
  s3 : (wTok w cs).cell? ⟨q, 0, none⟩ = some (.slice (some ⟨B, 0, none⟩) T.length cap) ∧ (wTok w cs).cell? ⟨q, 1, none⟩ = some (.int .i64 k) ∧ (wTok w cs).rangeAt B (k * 259) cs
  tok : TokB (wTok w cs) w.heap.size (whatK t.k) str f t.from_
  rs : RS (wTok w cs) q B cap s T k d 0 0
  bel : Below w.heap.size w (wTok w cs)
theorem tok_facts {w : World} {q B cap : Nat} {s : ByteArray} {T : List Tk} {d : Int} {k : Nat} {t : Tk} (hr : RS w q B cap s T k d 0 0) (ht : T[k]? = some t) : ∃ str f cs, TokF w q B cap s T d k t str f cs := by
  obtain ⟨c0, c1, c2, c3, c4, cf, hqlt⟩ := five hr.rd
  obtain ⟨str, f, hTR, hrg, hkl, hkm⟩ := hr.range k t ht
  have hbel := wTok_below w (whatK t.k) str f t.from_
  have hr3 := hr.below hbel
  obtain ⟨g0, g1, _, _, _, _, _⟩ := five hr3.rd
  refine ⟨str, f, tokV (whatK t.k) str f t.from_, hTR, hkl, hkm, tokV_len _ _ _ _, by rw [sizeTok, tokV_len], tokV_one _ _ _ _, ⟨c0, c1, hrg⟩, ⟨?_, ?_, World.rangeAt_alloc hrg _⟩, ?_, ⟨g0, g1, ?_⟩, wTok_tok w _ _ _ _, hr3, hbel⟩
  · show (w.alloc _).cell? _ = _
    rw [World.cell?_alloc_lt _ _ _ hqlt]; exact c0
  · show (w.alloc _).cell? _ = _
    rw [World.cell?_alloc_lt _ _ _ hqlt]; exact c1
  · have h := tok_there w
    rwa [← tokV_len (whatK t.k) str f t.from_, ← List.size_toArray] at h
  · refine World.rangeAt_setCells_apart (w := (w.alloc (.cells (tokV .empty .empty noB 0).toArray 56)).drew) (World.rangeAt_alloc hrg _) _ _ _ (.inl ?_)
    have := hr.tok.lt
    omega
theorem wp_store_mid0 {P : Program} {op : Oper} {a : Act} {w : World} {K : Act → World → Prop} {Q : Exit → Act → World → Prop} (hd : op.dst = none) (ty : TypeId) (x y : Operand) (ho : op.op = .store ty x y)
    (b o : Nat) (cells : Array Value) (hx : a.eval x = .pointer (some ⟨b, o, none⟩)) (hy : a.eval y = .agg cells)
    (ht : w.there b o cells.size) (hi : (P.info? ty).map (·.size) = some cells.size) (h1 : cells.all (·.oneCell') = true)
    (h : K a (w.setCells b o cells.toList)) : op.wp P a w K Q := by
  refine wp_store_mid ty x y ho b o cells hx hy ht hi h1 ?_
  rw [hd]
  exact h
theorem load_tok (w : World) (B o : Nat) (cs : List Value) (h : w.rangeAt B o cs) (hi : (Try.prog.info? 56).map (·.size) = some cs.length) : (Instr.loadAt 56 (.pointer (some ⟨B, o, none⟩))).run Try.prog w = .ok (.agg cs.toArray) w :=
  run_loadAt_mid w B o 56 cs _ h Try.underlying56 (by simp [TypeDesc.isRow]) hi
theorem TokB.loadSet {w : World} {b : Nat} {what str : ByteArray} {f : Nat → Bool} {a : Int} (h : TokB w b what str f a) : (Instr.loadAt 54 (.pointer (some ⟨b, 2, none⟩))).run Try.prog w = .ok (.agg (setCells f)) w := by
  have h1 : w.rangeAt b 2 ((List.range 256).map fun c => Value.bool (f c)) := fun j v hv => by
    have hj : j < 256 := by have := (List.getElem?_eq_some_iff.1 hv).1; simpa using this
    have e : v = .bool (f j) := by simpa [hj] using hv.symm
    have hc : w.cell? ⟨b, 2 + j, none⟩ = some (.bool (f j)) := by
      simp only [World.cell?, TokB] at *
      rw [h]
      have : (tokV what str f a)[2 + j]? = some (.bool (f j)) := by
        unfold tokV
        rw [show 2 + j = j + 1 + 1 by omega, List.getElem?_cons_succ, List.getElem?_cons_succ, List.getElem?_append_left (by simpa using hj)]
        simp [hj]
      simpa using this
    rw [hc, e]
  exact run_loadAt_mid w b 2 54 _ _ h1 Try.underlying54 (by simp [TypeDesc.isRow]) (by rw [size256]; simp)
theorem foldl_put (o : Nat) : ∀ (l : List Value) (n : Nat) (C : Array Value) (j : Nat), ((l.zipIdx n).foldl (fun cs x => cs.setIfInBounds (o + x.2) x.1) C)[j]? = if o + n ≤ j ∧ j < o + n + l.length ∧ j < C.size then l[j - o - n]? else C[j]?
  | [], n, C, j => by
    rw [if_neg (by simp; omega)]
    rfl
  | v :: l, n, C, j => by
    rw [List.zipIdx_cons, List.foldl_cons, foldl_put o l (n + 1)]
    simp only [Array.size_setIfInBounds, List.length_cons]
    by_cases h1 : o + (n + 1) ≤ j ∧ j < o + (n + 1) + l.length ∧ j < C.size
    · rw [if_pos h1, if_pos (by omega), show j - o - n = (j - o - (n + 1)) + 1 by omega, List.getElem?_cons_succ]
    · rw [if_neg h1, Array.getElem?_setIfInBounds]
      by_cases h2 : o + n = j
      · rw [if_pos h2]
        by_cases h3 : o + n < C.size
        · rw [if_pos h3, if_pos (by omega), show j - o - n = 0 by omega]
          rfl
        · rw [if_neg h3, if_neg (by omega), Array.getElem?_eq_none (by omega)]
      · rw [if_neg h2, if_neg (by omega)]
theorem fold_set (op : ByteArray) (lv : Value) (str : ByteArray) (f : Nat → Bool) (a : Int) : Array.foldl (fun cs x => cs.setIfInBounds (3 + x.snd) x.fst) (expV op lv str noB a).toArray (setCells f).zipIdx 0 (setCells f).size = (expV op lv str f a).toArray := by
  have e : Array.foldl (fun cs x => cs.setIfInBounds (3 + x.snd) x.fst) (expV op lv str noB a).toArray (setCells f).zipIdx 0 (setCells f).size = (((List.range 256).map fun c => Value.bool (f c)).zipIdx 0).foldl (fun cs x => cs.setIfInBounds (3 + x.2) x.1) (expV op lv str noB a).toArray := by
    unfold setCells
    generalize (List.range 256).map (fun c => Value.bool (f c)) = L
    generalize (expV op lv str noB a).toArray = C
    rw [show L.toArray.size = L.toArray.zipIdx.size by simp, ← Array.foldl_toList, Array.toList_zipIdx]
  rw [e]
  apply Array.ext_getElem?
  intro j
  rw [foldl_put]
  have hl : ((List.range 256).map fun c => Value.bool (f c)).length = 256 := by simp
  rw [hl, List.size_toArray, expV_len]
  by_cases h : 3 + 0 ≤ j ∧ j < 3 + 0 + 256 ∧ j < 261
  · rw [if_pos h]
    have := expV_bit op lv str f a (j - 3) (by omega)
    rw [show 3 + (j - 3) = j by omega] at this
    rw [List.getElem?_toArray, this]
    have hj : j - 3 < 256 := by omega
    rw [Nat.sub_zero, List.getElem?_map, List.getElem?_range hj]
    rfl
  · rw [if_neg h, List.getElem?_toArray, List.getElem?_toArray]
    unfold expV
    match j, h with
    | 0, _ => rfl
    | 1, _ => rfl
    | 2, _ => rfl
    | j + 3, h =>
      rw [List.getElem?_cons_succ, List.getElem?_cons_succ, List.getElem?_cons_succ, List.getElem?_cons_succ, List.getElem?_cons_succ, List.getElem?_cons_succ, List.getElem?_append_right (by simp; omega), List.getElem?_append_right (by simp; omega)]
      simp
/-- an operation is taken first, and the slot that it writes is told -/
theorem take_dst {P : Program} {ops : Array Oper} {Q : Exit → Act → World → Prop} {md : Region.Mode} {S : World → Prop} {i : Nat} (n : Nat) {oi : Oper} {v : Value} {fuel : Nat} {listed : Array Bool} {a : Act} {w : World} (hi : ops[i]? = some oi) (hd : oi.dst = some n)
    (hs : Region.noSelect ops = true) (hf : Region.free md ops listed i = true) (hr : (Region.ready md ops listed).contains i = true)
    (hQ : ∀ c a w, Q (.panic c) (a.put oi.dst v) w → Q (.panic c) a w) (hy : YieldsIf P ops S oi v a) (hS : S w)
    (h : wpAnyH P md ops Q S fuel (listed.setIfInBounds i true) (a.put (some n) v) w) : wpAnyH P md ops Q S (fuel + 1) listed a w :=
  wpAnyH_take hi hs hf hr hQ hy hS (by rw [hd]; exact h)
theorem TokB.cat {w : World} {b : Nat} {what str : ByteArray} {f : Nat → Bool} {a : Int} (h : TokB w b what str f a) : w.cell? ⟨b, 258, none⟩ = some (.int .i64 a) := by
  simp only [World.cell?, TokB] at *
  rw [h]
  have : (tokV what str f a)[258]? = some (.int .i64 a) := by
    unfold tokV
    rw [List.getElem?_cons_succ, List.getElem?_cons_succ, List.getElem?_append_right (by simp)]
    simp
  simpa using this
section
variable {w w1 w' : World} {q B cap b : Nat} {s : ByteArray} {T : List Tk} {d : Int} {r : Res}
theorem OkO.mono (h : OkO w1 q B cap s T d r b w') (hb : But q w w1) : OkO w q B cap s T d r b w' := by
  have hz := hb.size
  refine ⟨hb.trans h.bt, ?_⟩
  rcases h.out with ⟨he, x, hxb, hxt, hx⟩ | h
  · exact .inl ⟨he, x, hxb, Tree.turn (fun j hS _ => ⟨by have hS' : w1.heap.size ≤ j := hS; omega, rfl⟩) x hxt, hx⟩
  · exact .inr h
/-- a leaf in a block of its own -/
theorem leaf_out {o : Int} {str : ByteArray} {f : Nat → Bool} {a : Int} {k' : Nat} (hb : But q w w1) (ho : 0 ≤ o ∧ o ≤ 3) (ha : 0 ≤ a) (hrs : RS w1 q B cap s T k' d 0 0) (he : r.err = 0) (hn : r.nd = ⟨o, a, if o = 1 then ⟨(bytesOf f true).toArray⟩ else str, []⟩) (ht : T[k']? = some r.tk) :
    OkO w q B cap s T d r w1.heap.size (w1.alloc (.cells (expV (opW o) (.slice none 0 0) str f a).toArray 86)) := by
  refine ⟨hb.alloc _, .inl ⟨he, ⟨w1.heap.size, o, str, f, a, []⟩, rfl, ?_, ?_, ?_, k', ht, hrs.alloc _⟩⟩
  · rw [Tree_iff]
    exact ⟨hb.size, ⟨_, ex_new w1 _ _ _ _ _, ⟨rfl, .inl ⟨rfl, rfl⟩⟩⟩, by simp⟩
  · rw [OkX_iff]
    exact ⟨by dsimp only; omega, ha, fun _ => rfl, fun h => by dsimp only at h; omega, fun h => by dsimp only at h; omega, fun h => by dsimp only at h; omega, by simp⟩
  · rw [Ex.norm_else _ (by dsimp only; omega), hn]
    rfl
/-- what is wrong, and a row that stands for nothing -/
theorem err_out {k' : Int} (hb : But q w w1) (he : r.err ≠ 0) (hrs : RS w1 q B cap s T k' d r.err r.tk.from_) (b : Nat) (o : Obj) : OkO w q B cap s T d r b (w1.alloc o) := ⟨hb.alloc _, .inr ⟨he, k', hrs.alloc _⟩⟩
end
/-- a node with one kid: what is caught -/
theorem catch_out {w w1 w2 W w5 : World} {q B cap X b g cap5 : Nat} {s : ByteArray} {T : List Tk} {d : Int} {r : Res} {nm : ByteArray} (hX : ExB w1 X (opW 4) (.slice none 0 0) nm noB 0) (hXlo : w.heap.size ≤ X) (hq : q < w.heap.size) (hBl : B < w.heap.size) (hb0 : But q w w1) (ho : OkO w1 q B cap s T d r b w2)
    (hW : Below w2.heap.size w2 W) (hgr : W.grownBy w5 none) (hown : w5.ownsRow w.heap.size 57 1 (.slice (some ⟨g, 0, none⟩) 1 cap5) 1 [.pointer (some ⟨b, 0, none⟩)]) (hg : g = W.heap.size) :
    OkO w q B cap s T d (partF nm r) X (w5.setCell ⟨X, 1, none⟩ (.slice (some ⟨g, 0, none⟩) 1 cap5)) := by
  have hz1 := hb0.size
  have hz2 := ho.bt.size
  have hzW := hW.size
  have hXl := hX.lt
  have hX5 : ExB w5 X (opW 4) (.slice none 0 0) nm noB 0 := by
    have h1 := (hX.but ho.bt (by omega)).below hW (Nat.le_refl _)
    exact (hgr.block X h1.lt (by simp)).trans h1
  have hbt : But q w (w5.setCell ⟨X, 1, none⟩ (.slice (some ⟨g, 0, none⟩) 1 cap5)) := by
    have h2 : But q w W := (hb0.trans ho.bt).below hW (by omega)
    have h3 : But q w w5 := ⟨hgr.os.trans h2.os, hgr.tape.trans h2.tape, hgr.output.trans h2.output, Nat.le_trans h2.size hgr.size, fun j hj hne => (hgr.block j (by omega) (by simp)).trans (h2.block j hj hne)⟩
    exact h3.setCell (.inr hXlo) _
  have hrs : ∀ {kk e a : Int}, RS w2 q B cap s T kk d e a → RS (w5.setCell ⟨X, 1, none⟩ (.slice (some ⟨g, 0, none⟩) 1 cap5)) q B cap s T kk d e a := fun h => ((h.below hW).grown hgr (fun j hj => by cases hj)).set (show X ≠ q by omega) (show X ≠ B by omega) _
  refine ⟨hbt, ?_⟩
  rcases ho.out with ⟨he, x, hxb, hxt, hxo, hxn, k', hk', hr⟩ | ⟨he, kk, hr⟩
  · left
    have hp : partF nm r = ⟨0, ⟨4, 0, nm, [r.nd]⟩, r.tk, r.d⟩ := by unfold partF; rw [if_neg (by omega)]
    refine ⟨by rw [hp], ⟨X, 4, nm, noB, 0, [x]⟩, rfl, ?_, ?_, ?_, k', by rw [hp]; exact hk', hrs hr⟩
    · rw [Tree_iff]
      refine ⟨hXlo, ⟨_, hX5.setL _, ?_⟩, fun y hy => ?_⟩
      · have h4 : w5.ownsRow w.heap.size 57 1 (.slice (some ⟨g, 0, none⟩) 1 cap5) 1 [ptrX x] := by
          unfold ptrX
          rw [hxb]
          exact hown
        exact own_keep h4 fun j hj => Below.heap_setCell _ _ _ _ (show j ≠ X from fun e => by
          have : g = j := by simpa [Value.ownBlock] using hj
          omega)
      · have hy' : y = x := by simpa using hy
        rw [hy']
        refine Tree.turn (fun j hS hl => ⟨?_, ?_⟩) x hxt
        · have hS' : w1.heap.size ≤ j := hS
          omega
        · have hS' : w1.heap.size ≤ j := hS
          rw [Below.heap_setCell _ _ _ _ (show j ≠ X by omega), hgr.block j (by omega) (by simp), hW.block j hl]
    · rw [OkX_iff]
      refine ⟨by simp, by simp, fun h => by simp at h, fun _ => rfl, fun h => by simp at h, fun h => by simp at h, fun y hy => ?_⟩
      have hy' : y = x := by simpa using hy
      rw [hy']
      exact hxo
    · rw [Ex.norm_else _ (by simp), hp, ← hxn]
      rfl
  · right
    have hp : partF nm r = errR r.err r.tk r.d := by unfold partF; rw [if_pos he]
    exact ⟨by rw [hp]; exact he, kk, by rw [hp]; exact hrs hr⟩
end Go.Proofs.Ytbojcemamhiodaa

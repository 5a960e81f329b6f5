import Derived.Test.YtbojcemamhiodaaLas
import Derived.Laws.AppendOwnNone
import Derived.OwnWalk
namespace Go.Proofs.Ytbojcemamhiodaa
open Go.RowKit
/-- append of one own row to another -/
theorem wpList_append_rows {P : Program} (w : World) {ops : Array Oper} {rest : List Oper} {o : Oper} {a : Act} {Q : Exit → Act → World → Prop} (hgd : o.guard = none) (s x : Operand) (t : TypeId)
    (ho : o.op = .call { callee := .builtin .append, args := #[s, x], argTypes := #[t, t] })
    (base base2 : Nat) (e : TypeId) (i : TypeInfo) (z : Value) (size bytes : Nat) (ht : P.underlying t = some (.slice e)) (hi : P.info? e = some i) (hz : i.zero = some z)
    (hsize : i.size = size) (hby : i.bytes = bytes) (hzs : z.cells.size = size) (hsz : 0 < size)
    (v : Value) (n : Nat) (xs : List Value) (hs : a.eval s = v) (hown : w.ownsRow base e size v n xs)
    (v2 : Value) (m : Nat) (ys : List Value) (hx : a.eval x = v2) (hown2 : w.ownsRow base2 e size v2 m ys) (h1 : ∀ u ∈ ys, u.oneCell' = true)
    (h63 : n + m ≤ maxLen) (hbytes : (n + m) * bytes ≤ 140737488355328) (hbase : base ≤ w.heap.size)
    (h : ∀ v' w', w'.ownsRow base e size v' (n + m) (xs ++ ys) → w.grownBy w' v.ownBlock → wpList P ops Q rest (a.put o.dst v') w') : wpList P ops Q (o :: rest) a w := by
  have hl2 := hown2.1
  rcases hown2.2 with ⟨e1, e2⟩ | ⟨g, cap, cur, e1, _⟩
  · subst e1
    subst e2
    have hy : ys = [] := List.length_eq_zero_iff.1 (by simpa using hl2)
    subst hy
    refine wpList_append_own_none hgd s x t ho base e i size ht hi v n xs hs hown hx ?_
    exact h v w (by simpa using hown) (World.grownBy.refl _ _)
  · subst e1
    exact wpList_append_own w hgd s x t ho base e i z size bytes ht hi hz hsize hby hzs hsz v n xs hs hown ⟨g, 0, none⟩ m cap ys hx hl2 (hown2.cells rfl) h1 h63 hbytes hbase (fun v' w' h2 h3 _ => h v' w' h2 h3)
theorem infoIntL : (Try.prog.info? 3).map (fun i => (i.zero, i.size, i.bytes)) = some (some (.int .i64 0), 1, 8) := by kernel_rfl
/-- the numbers of rules, as they lie in memory -/
def toV (gs : List RX) (l : List ByteArray) : List Value := l.map fun nm => .int .i64 (findF (rlX gs) nm)
theorem toV_one (gs : List RX) (l : List ByteArray) : ∀ u ∈ toV gs l, u.oneCell' = true := by
  intro u hu
  unfold toV at hu
  rw [List.mem_map] at hu
  obtain ⟨y, _, rfl⟩ := hu
  rfl
theorem toV_append (gs : List RX) (l m : List ByteArray) : toV gs (l ++ m) = toV gs l ++ toV gs m := List.map_append
theorem rowNm_len (kn : ByteArray → Bool) : ∀ l : List Ex, (∀ k ∈ l, (begX kn k).length ≤ szX k) → (rowNm (l.map fun k => (begX kn k, bareX kn k))).length ≤ szL l
  | [], _ => Nat.zero_le _
  | e :: l, h => by
    have h1 := h e (by simp)
    have h2 := rowNm_len kn l (fun k hk => h k (by simp [hk]))
    rw [List.map_cons, rowNm, szL_cons, List.length_append]
    dsimp only
    split
    · omega
    · simp; omega
theorem flat_len (kn : ByteArray → Bool) : ∀ l : List Ex, (∀ k ∈ l, (begX kn k).length ≤ szX k) → ((l.map (begX kn)).flatten).length ≤ szL l
  | [], _ => Nat.zero_le _
  | e :: l, h => by
    have h1 := h e (by simp)
    have h2 := flat_len kn l (fun k hk => h k (by simp [hk]))
    rw [List.map_cons, List.flatten_cons, szL_cons, List.length_append]
    omega
theorem begX_len (kn : ByteArray → Bool) (e : Ex) : (begX kn e).length ≤ szX e := by
  refine Ex.ind (P := fun e => (begX kn e).length ≤ szX e) (fun e ih => ?_) e
  rw [begX_def, szX_def]
  split
  · simp
  · split
    · have := rowNm_len kn e.kids ih
      omega
    · have := flat_len kn e.kids ih
      omega
/-- what an expression begins with, from its k-th part on -/
def restX (kn : ByteArray → Bool) (e : Ex) (k : Nat) : List ByteArray := if e.op = 5 then rowNm ((e.kids.drop k).map fun y => (begX kn y, bareX kn y)) else ((e.kids.drop k).map (begX kn)).flatten
theorem begX_rest {kn : ByteArray → Bool} {e : Ex} (h : e.op ≠ 2) : begX kn e = restX kn e 0 := by
  unfold restX
  rw [begX_def, if_neg h, List.drop_zero]
theorem restX_end {kn : ByteArray → Bool} {e : Ex} {k : Nat} (h : e.kids.length ≤ k) : restX kn e k = [] := by
  unfold restX
  rw [List.drop_eq_nil_of_le h]
  split <;> rfl
theorem restX_row {kn : ByteArray → Bool} {e : Ex} {k : Nat} (h5 : e.op = 5) (h : k < e.kids.length) : restX kn e k = begX kn e.kids[k] ++ (if bareX kn e.kids[k] = true then restX kn e (k + 1) else []) := by
  unfold restX
  rw [if_pos h5, if_pos h5, List.drop_eq_getElem_cons h, List.map_cons, rowNm]
theorem restX_step {kn : ByteArray → Bool} {e : Ex} {k : Nat} (h5 : e.op ≠ 5) (h : k < e.kids.length) : restX kn e k = begX kn e.kids[k] ++ restX kn e (k + 1) := by
  unfold restX
  rw [if_neg h5, if_neg h5, List.drop_eq_getElem_cons h, List.map_cons, List.flatten_cons]
theorem opL (k : Int) (l : List UInt8) (h : (opW k).toList = l) {a : Int} (ha : 0 ≤ a ∧ a ≤ 11) (hk : 0 ≤ k ∧ k ≤ 11) : ((opW a).toList == l) = (a == k) := by rw [← h, opW_eq ha hk]
/-- what first answers -/
def OutF (w : World) (gs : List RX) (kn : ByteArray → Bool) (e : Ex) (x : Ending) (w' : World) : Prop := ∃ v, x = .returned v ∧ w'.ownsRow w.heap.size 3 1 v (begX kn e).length (toV gs (begX kn e)) ∧ Below w.heap.size w w'
set_option maxRecDepth 4000 in
set_option maxHeartbeats 4000000 in
theorem first_any (g : Nat) (nv av ev kv : Value) (gs : List RX) (f : Nat → Bool) (e : Ex) : ∀ w : World, GR w g nv av ev gs → RowB w kv gs.length f → Tree w AnyB e → OkX e → unkX (unR (rlX gs)) e = -1 → szX e ≤ 1000000 → Calls Try.prog 52 #[.pointer (some ⟨g, 0, none⟩), ptrX e, kv] w (OutF w gs (knF (rlX gs) f) e) := by
  refine Ex.ind (P := fun e => ∀ w : World, GR w g nv av ev gs → RowB w kv gs.length f → Tree w AnyB e → OkX e → unkX (unR (rlX gs)) e = -1 → szX e ≤ 1000000 → Calls Try.prog 52 #[.pointer (some ⟨g, 0, none⟩), ptrX e, kv] w (OutF w gs (knF (rlX gs) f) e)) (fun e ih w hG hK ht ho hu hz => ?_) e
  rw [Tree_iff] at ht
  obtain ⟨_, ⟨lv, hb, hrow⟩, hk⟩ := ht
  have ho' := (OkX_iff e).1 ho
  obtain ⟨hu1, hu2⟩ := unkX_kids hu ho
  have hop := ho'.op
  have hsz := szX_def e
  have hsk : ∀ k ∈ e.kids, szX k ≤ szL e.kids := fun k hk' => by
    obtain ⟨l1, l2, hl⟩ := List.append_of_mem hk'
    rw [hl]
    unfold szL
    rw [List.map_append, List.sum_append, List.map_cons, List.sum_cons]
    omega
  obtain ⟨ao, cp, rfl⟩ := hrow.shape
  have hfew := hrow.few
  unfold maxLen at hfew
  have c0 := hb.c0
  have c1 := hb.c1
  have c2 := hb.c2
  have hlt := hb.lt
  have HX := hide hb
  have HR := hide hrow
  have HK := hide hk
  have HKn := hide hK
  have HG := hide hG
  have HI := hide ih
  have e2 : ((opW e.op).toList == [114, 117, 108, 101]) = (e.op == 2) := opL 2 _ (by decide +kernel) hop (by omega)
  have e5 : ((opW e.op).toList == [114, 111, 119]) = (e.op == 5) := opL 5 _ (by decide +kernel) hop (by omega)
  obtain ⟨ti, hi, hzi, hs1, hby⟩ := info_parts infoIntL
  have hlo := hG.cells.2.2.2
  clear hb hrow hk ih hG hK hu
  unfold ptrX
  by_cases hop2 : e.op = 2
  · have hb2 : begX (knF (rlX gs) f) e = [e.str] := by rw [begX_def, if_pos hop2]
    have HF : Hid (OutF w gs (knF (rlX gs) f) e (.returned (.slice (some ⟨w.heap.size, 0, none⟩) 1 1)) (w.alloc (.cells #[.int .i64 (findF (rlX gs) e.str)] 3))) := by
      refine ⟨_, rfl, ?_, (Below.refl _ _).alloc (Nat.le_refl _) _⟩
      rw [hb2]
      exact ⟨rfl, .inr ⟨w.heap.size, 1, _, rfl, Nat.le_refl _, heap_alloc_new w _, Nat.le_refl _, by unfold maxLen; omega, rfl, rfl⟩⟩
    have HRu := hide (Rule_any w g nv av ev gs e.str (unhide HG))
    rw [show (e.op == 2) = true by simpa using hop2] at e2
    clear e5 hop2 hb2
    go_enter Try.func52, Try.ntmps52
    go_wp2_with fail
    go_at_call 30
    refine (unhide HRu).mono ?_
    rintro x w2 ⟨rfl, hw2⟩
    replace hw2 := hw2.symm
    subst hw2
    go_wp2
    go_ret
    exact unhide HF
  · rw [show (e.op == 2) = false by simpa using hop2] at e2
    by_cases hop5 : e.op = 5
    · rw [show (e.op == 5) = true by simpa using hop5] at e5
      have HOp5 := hide hop5
      have HOp2 := hide hop2
      clear hop5 hop2 hop
      go_enter Try.func52, Try.ntmps52
      go_wp2
      go_loopw [7, 27] (fun v i wr => ∃ (k : Nat) (acc : List ByteArray) (a1 : Option Addr) (p1 : Nat), k ≤ e.kids.length ∧ v = .slice a1 acc.length p1 ∧ i = .int .i64 k ∧ Hid (begX (knF (rlX gs) f) e = acc ++ restX (knF (rlX gs) f) e k ∧ acc.length ≤ 1000000) ∧ Hid (wr.ownsRow w.heap.size 3 1 (.slice a1 acc.length p1) acc.length (toV gs acc)) ∧ Hid (Below w.heap.size w wr)) (fun _ i _ => e.kids.length - (intOf i).toNat)
      case atStart => exact ⟨0, [], none, 0, Nat.zero_le _, rfl, rfl, ⟨begX_rest (unhide HOp2), by simp⟩, World.ownsRow_nil _ _ _ _, Below.refl _ _⟩
      case round =>
        obtain ⟨k, acc, a1, p1, hk, rfl, rfl, HA, HO, HB⟩ := hrel
        have hzb := (unhide HB).size
        by_cases hk2 : k < e.kids.length
        · have hki : (k : Int) < e.kids.length := by omega
          have hmem : e.kids[k] ∈ e.kids := List.getElem_mem hk2
          obtain ⟨B, cap, hv, _, hc, hf, _, _, _, hB⟩ := ((unhide HR).below (unhide HB)).at (i := k) (u := ptrX e.kids[k]) (by rw [List.getElem?_map, List.getElem?_eq_getElem hk2]; rfl)
          injection hv with hv1 _ hv2
          subst hv1
          subst hv2
          have c0r := ExB.c0 ((unhide HX).below (unhide HB) (Nat.le_refl _))
          have clr := ExB.lt ((unhide HX).below (unhide HB) (Nat.le_refl _))
          have htr := (unhide HK _ hmem).below (unhide HB)
          have HC := hide (unhide HI e.kids[k] hmem wr ((unhide HG).below (unhide HB)) ((unhide HKn).below (unhide HB)) htr (ho'.kids _ hmem) (hu1 _ hmem) (by have := hsk _ hmem; omega))
          have HNx := hide (restX_row (unhide HOp5) hk2 (kn := knF (rlX gs) f))
          have hbl : acc.length + (begX (knF (rlX gs) f) e.kids[k]).length ≤ 1000000 := by
            have h1 := (unhide HA).1
            have h2 := begX_len (knF (rlX gs) f) e
            rw [h1, unhide HNx] at h2
            simp only [List.length_append] at h2
            omega
          have HAc := hide (show begX (knF (rlX gs) f) e = (acc ++ begX (knF (rlX gs) f) e.kids[k]) ++ (if bareX (knF (rlX gs) f) e.kids[k] = true then restX (knF (rlX gs) f) e (k + 1) else []) by rw [(unhide HA).1, unhide HNx, List.append_assoc])
          unfold ptrX at hc HC
          generalize hkb : begX (knF (rlX gs) f) e.kids[k] = kb at hbl HAc HNx
          go_wp2_with fail
          go_at_call 52
          refine (unhide HC).mono ?_
          rintro x w2 ⟨v2, rfl, hown2, hb2⟩
          rw [hkb] at hown2
          obtain ⟨a2, p2, rfl⟩ := own_shape hown2
          have HO2 := hide hown2
          have HB2 := hide hb2
          have hz2 := hb2.size
          have HO1 := hide (own_below (unhide HO) hb2)
          have hlt1 := hide ((unhide HO).lt)
          clear hown2 hb2 hkb
          go_wp2_with (first | (at_builtin; refine wpList_append_rows w2 rfl (.tmp 31) (.tmp 35) 30 rfl w.heap.size wr.heap.size 3 ti _ 1 8 Try.underlying30 hi hzi hs1 hby rfl (by omega) (.slice a1 acc.length p1) acc.length _ rfl (unhide HO1) (.slice a2 kb.length p2) kb.length _ rfl (unhide HO2) (toV_one _ _) (by unfold maxLen; omega) (by omega) (by omega) ?_) | go_in)
          intro v3 w3 hown3 hgr3
          obtain ⟨a3, p3, rfl⟩ := own_shape hown3
          have HB3 := hide (((unhide HB).trans ((unhide HB2).mono hzb)).grown hgr3 (by omega) (fun j hj => (unhide hlt1 j hj).1))
          have HO3 : Hid (w3.ownsRow w.heap.size 3 1 (.slice a3 (acc ++ kb).length p3) (acc ++ kb).length (toV gs (acc ++ kb))) := by
            rw [toV_append, List.length_append]
            exact hown3
          rw [← List.length_append]
          have hbl2 : (acc ++ kb).length ≤ 1000000 := by rw [List.length_append]; exact hbl
          have c0s := ExB.c0 ((unhide HX).below (unhide HB3) (Nat.le_refl _))
          have cls := ExB.lt ((unhide HX).below (unhide HB3) (Nat.le_refl _))
          generalize hac : acc ++ kb = acc' at HO3 HAc hbl2 ⊢
          clear hown3 hgr3 hac hbl c0r clr hc hf hB
          have HBa := hide (refBare_any w3 g nv av ev kv gs f ((unhide HG).below (unhide HB3)) ((unhide HKn).below (unhide HB3)) e.kids[k] ((unhide HK _ hmem).below (unhide HB3)) (ho'.kids _ hmem) (hu1 _ hmem))
          unfold ptrX at HBa
          cases hbk : bareX (knF (rlX gs) f) e.kids[k]
          · rw [hbk] at HBa HAc
            have HFin : Hid (begX (knF (rlX gs) f) e = acc') := by
              have h := unhide HAc
              unfold Hid
              simpa using h
            go_wp2_with fail
            go_at_call 34
            refine (unhide HBa).mono ?_
            rintro x w4 ⟨rfl, hw4⟩
            replace hw4 := hw4.symm
            subst hw4
            go_wp2
            go_ret
            refine ⟨_, rfl, ?_, unhide HB3⟩
            rw [unhide HFin]
            exact unhide HO3
          · rw [hbk] at HBa HAc
            have HFin : Hid (begX (knF (rlX gs) f) e = acc' ++ restX (knF (rlX gs) f) e (k + 1) ∧ acc'.length ≤ 1000000) := ⟨by have h := unhide HAc; simpa using h, hbl2⟩
            go_wp2_with fail
            go_at_call 34
            refine (unhide HBa).mono ?_
            rintro x w4 ⟨rfl, hw4⟩
            replace hw4 := hw4.symm
            subst hw4
            go_wp2_with fail
            go_roundw
            case rel => exact ⟨k + 1, acc', a3, p3, by omega, rfl, by go_num, HFin, HO3, HB3⟩
            case measure => simp [intOf]; omega
        · have hki : ¬ (k : Int) < e.kids.length := by omega
          have HFin : Hid (begX (knF (rlX gs) f) e = acc) := by
            have h1 := (unhide HA).1
            rw [restX_end (by omega), List.append_nil] at h1
            exact h1
          go_wp2
          go_ret
          refine ⟨_, rfl, ?_, unhide HB⟩
          rw [unhide HFin]
          exact unhide HO
    · rw [show (e.op == 5) = false by simpa using hop5] at e5
      have HOp5 := hide hop5
      have HOp2 := hide hop2
      clear hop5 hop2 hop
      go_enter Try.func52, Try.ntmps52
      go_wp2
      go_loopw [7, 27] (fun v i wr => ∃ (k : Nat) (acc : List ByteArray) (a1 : Option Addr) (p1 : Nat), k ≤ e.kids.length ∧ v = .slice a1 acc.length p1 ∧ i = .int .i64 k ∧ Hid (begX (knF (rlX gs) f) e = acc ++ restX (knF (rlX gs) f) e k ∧ acc.length ≤ 1000000) ∧ Hid (wr.ownsRow w.heap.size 3 1 (.slice a1 acc.length p1) acc.length (toV gs acc)) ∧ Hid (Below w.heap.size w wr)) (fun _ i _ => e.kids.length - (intOf i).toNat)
      case atStart => exact ⟨0, [], none, 0, Nat.zero_le _, rfl, rfl, ⟨begX_rest (unhide HOp2), by simp⟩, World.ownsRow_nil _ _ _ _, Below.refl _ _⟩
      case round =>
        obtain ⟨k, acc, a1, p1, hk, rfl, rfl, HA, HO, HB⟩ := hrel
        have hzb := (unhide HB).size
        by_cases hk2 : k < e.kids.length
        · have hki : (k : Int) < e.kids.length := by omega
          have hmem : e.kids[k] ∈ e.kids := List.getElem_mem hk2
          obtain ⟨B, cap, hv, _, hc, hf, _, _, _, hB⟩ := ((unhide HR).below (unhide HB)).at (i := k) (u := ptrX e.kids[k]) (by rw [List.getElem?_map, List.getElem?_eq_getElem hk2]; rfl)
          injection hv with hv1 _ hv2
          subst hv1
          subst hv2
          have c0r := ExB.c0 ((unhide HX).below (unhide HB) (Nat.le_refl _))
          have clr := ExB.lt ((unhide HX).below (unhide HB) (Nat.le_refl _))
          have htr := (unhide HK _ hmem).below (unhide HB)
          have HC := hide (unhide HI e.kids[k] hmem wr ((unhide HG).below (unhide HB)) ((unhide HKn).below (unhide HB)) htr (ho'.kids _ hmem) (hu1 _ hmem) (by have := hsk _ hmem; omega))
          have HNx := hide (restX_step (unhide HOp5) hk2 (kn := knF (rlX gs) f))
          have hbl : acc.length + (begX (knF (rlX gs) f) e.kids[k]).length ≤ 1000000 := by
            have h1 := (unhide HA).1
            have h2 := begX_len (knF (rlX gs) f) e
            rw [h1, unhide HNx] at h2
            simp only [List.length_append] at h2
            omega
          have HAc := hide (show begX (knF (rlX gs) f) e = (acc ++ begX (knF (rlX gs) f) e.kids[k]) ++ restX (knF (rlX gs) f) e (k + 1) by rw [(unhide HA).1, unhide HNx, List.append_assoc])
          unfold ptrX at hc HC
          generalize hkb : begX (knF (rlX gs) f) e.kids[k] = kb at hbl HAc HNx
          go_wp2_with fail
          go_at_call 52
          refine (unhide HC).mono ?_
          rintro x w2 ⟨v2, rfl, hown2, hb2⟩
          rw [hkb] at hown2
          obtain ⟨a2, p2, rfl⟩ := own_shape hown2
          have HO2 := hide hown2
          have HB2 := hide hb2
          have hz2 := hb2.size
          have HO1 := hide (own_below (unhide HO) hb2)
          have hlt1 := hide ((unhide HO).lt)
          clear hown2 hb2 hkb
          go_wp2_with (first | (at_builtin; refine wpList_append_rows w2 rfl (.tmp 31) (.tmp 35) 30 rfl w.heap.size wr.heap.size 3 ti _ 1 8 Try.underlying30 hi hzi hs1 hby rfl (by omega) (.slice a1 acc.length p1) acc.length _ rfl (unhide HO1) (.slice a2 kb.length p2) kb.length _ rfl (unhide HO2) (toV_one _ _) (by unfold maxLen; omega) (by omega) (by omega) ?_) | go_in)
          intro v3 w3 hown3 hgr3
          obtain ⟨a3, p3, rfl⟩ := own_shape hown3
          have HB3 := hide (((unhide HB).trans ((unhide HB2).mono hzb)).grown hgr3 (by omega) (fun j hj => (unhide hlt1 j hj).1))
          have HO3 : Hid (w3.ownsRow w.heap.size 3 1 (.slice a3 (acc ++ kb).length p3) (acc ++ kb).length (toV gs (acc ++ kb))) := by
            rw [toV_append, List.length_append]
            exact hown3
          rw [← List.length_append]
          have hbl2 : (acc ++ kb).length ≤ 1000000 := by rw [List.length_append]; exact hbl
          have c0s := ExB.c0 ((unhide HX).below (unhide HB3) (Nat.le_refl _))
          have cls := ExB.lt ((unhide HX).below (unhide HB3) (Nat.le_refl _))
          generalize hac : acc ++ kb = acc' at HO3 HAc hbl2 ⊢
          clear hown3 hgr3 hac hbl c0r clr hc hf hB
          have HFin : Hid (begX (knF (rlX gs) f) e = acc' ++ restX (knF (rlX gs) f) e (k + 1) ∧ acc'.length ≤ 1000000) := ⟨unhide HAc, hbl2⟩
          go_wp2_with fail
          go_roundw
          case rel => exact ⟨k + 1, acc', a3, p3, by omega, rfl, by go_num, HFin, HO3, HB3⟩
          case measure => simp [intOf]; omega
        · have hki : ¬ (k : Int) < e.kids.length := by omega
          have HFin : Hid (begX (knF (rlX gs) f) e = acc) := by
            have h1 := (unhide HA).1
            rw [restX_end (by omega), List.append_nil] at h1
            exact h1
          go_wp2
          go_ret
          refine ⟨_, rfl, ?_, unhide HB⟩
          rw [unhide HFin]
          exact unhide HO
end Go.Proofs.Ytbojcemamhiodaa
namespace Go.Proofs.Ytbojcemamhiodaa
open Go.RowKit
theorem infoBoolL : (Try.prog.info? 4).map (fun i => (i.zero, i.size, i.bytes)) = some (some (.bool false), 1, 1) := by kernel_rfl
/-- a row of truths in a block of its own -/
def OwnB2 (w : World) (lo B n : Nat) (f : Nat → Bool) : Prop := lo ≤ B ∧ n ≤ maxLen ∧ w.heap[B]? = some (.cells ((List.range n).map fun i => Value.bool (f i)).toArray 4 (0, 0))
theorem OwnB2.rowB {w : World} {lo B n : Nat} {f : Nat → Bool} (h : OwnB2 w lo B n f) : RowB w (.slice (some ⟨B, 0, none⟩) n n) n f :=
  ⟨by simp, .inr ⟨B, n, _, rfl, trivial, h.2.2, Nat.le_refl _, h.2.1, by simp, by rw [Nat.mul_one]; exact List.take_of_length_le (by simp)⟩⟩
theorem OwnB2.lt {w : World} {lo B n : Nat} {f : Nat → Bool} (h : OwnB2 w lo B n f) : B < w.heap.size := (Array.getElem?_eq_some_iff.1 h.2.2).1
theorem OwnB2.below {w w' : World} {lo B n : Nat} {f : Nat → Bool} (h : OwnB2 w lo B n f) (hb : Below w.heap.size w w') : OwnB2 w' lo B n f := ⟨h.1, h.2.1, (hb.block B h.lt).trans h.2.2⟩
theorem OwnB2.other {w : World} {lo B n : Nat} {f : Nat → Bool} (h : OwnB2 w lo B n f) {p : Addr} (hp : p.block ≠ B) (u : Value) : OwnB2 (w.setCell p u) lo B n f := ⟨h.1, h.2.1, (Below.heap_setCell _ _ _ _ (fun e => hp e.symm)).trans h.2.2⟩
theorem OwnB2.cell {w : World} {lo B n : Nat} {f : Nat → Bool} (h : OwnB2 w lo B n f) {i : Nat} (hi : i < n) : w.cell? ⟨B, i, none⟩ = some (.bool (f i)) := by
  simp [World.cell?, h.2.2, hi]
theorem OwnB2.fz {w : World} {lo B n : Nat} {f : Nat → Bool} (h : OwnB2 w lo B n f) (o : Nat) : w.frozen? ⟨B, o, none⟩ = false := by simp [World.frozen?, h.2.2]
theorem OwnB2.congr {w : World} {lo B n : Nat} {f g : Nat → Bool} (h : OwnB2 w lo B n f) (hfg : ∀ i, i < n → f i = g i) : OwnB2 w lo B n g := by
  refine ⟨h.1, h.2.1, ?_⟩
  rw [h.2.2]
  have : (List.range n).map (fun i => Value.bool (f i)) = (List.range n).map (fun i => Value.bool (g i)) := List.map_congr_left fun i hi => by rw [hfg i (List.mem_range.1 hi)]
  rw [this]
theorem OwnB2.set {w : World} {lo B n : Nat} {f : Nat → Bool} (h : OwnB2 w lo B n f) {i : Nat} (v : Bool) : OwnB2 (w.setCell ⟨B, i, none⟩ (.bool v)) lo B n (upd f i v) := by
  refine ⟨h.1, h.2.1, ?_⟩
  rw [set_block h.2.2]
  congr 2
  apply Array.ext_getElem?
  intro j
  rw [Array.getElem?_setIfInBounds]
  simp only [List.size_toArray, List.length_map, List.length_range, List.getElem?_toArray, List.getElem?_map]
  by_cases hj : i = j
  · subst hj
    rw [if_pos rfl]
    by_cases hi : i < n
    · rw [if_pos hi, List.getElem?_range hi]
      simp [upd]
    · rw [if_neg hi, List.getElem?_eq_none (by simpa using hi)]
      rfl
  · rw [if_neg hj]
    by_cases hi : j < n
    · rw [List.getElem?_range hi]
      simp [upd, Ne.symm hj]
    · rw [List.getElem?_eq_none (by simpa using hi)]
      rfl
theorem OwnB2.made {w : World} {lo n : Nat} (hlo : lo ≤ w.heap.size) (hn : n ≤ maxLen) {W : World} (h : W.ownsRow lo 4 1 (.slice (some ⟨w.heap.size, 0, none⟩) n n) n (madeCells #[Value.bool false] n).toList) : OwnB2 W lo w.heap.size n (fun _ => false) := by
  refine ⟨hlo, hn, ?_⟩
  rcases h.2 with ⟨h1, _⟩ | ⟨g, cap, cur, h1, _, h3, _, _, h6, h7⟩
  · cases h1
  · injection h1 with h1 _ h2
    injection h1 with h1
    injection h1 with h1
    subst h1
    subst h2
    rw [h3]
    have hlen : cur.toList.length = n := by rw [Array.length_toList, h6, Nat.mul_one]
    rw [List.take_of_length_le (by omega)] at h7
    have e : cur = ((List.range n).map fun _ => Value.bool false).toArray := by
      rw [← Array.toArray_toList (xs := cur), h7]
      congr 1
      apply List.ext_getElem
      · rw [← h7]; simp [h6]
      · intro i h8 h9
        simp [madeCells]
        rw [Nat.mod_one]
        rfl
    rw [e]
/-- what empties and reached answer -/
def OutB (w : World) (n : Nat) (f : Nat → Bool) (x : Ending) (w' : World) : Prop := ∃ B, x = .returned (.slice (some ⟨B, 0, none⟩) n n) ∧ OwnB2 w' w.heap.size B n f ∧ Below w.heap.size w w'
/-- rules of which each name is known -/
structure OkG (gs : List RX) : Prop where
  few : gs.length ≤ 12
  ok : ∀ x ∈ gs, OkX x.ex
  unk : ∀ x ∈ gs, unkX (unR (rlX gs)) x.ex = -1
  size : ∀ x ∈ gs, szX x.ex ≤ 1000000
set_option maxRecDepth 4000 in
set_option maxHeartbeats 4000000 in
theorem empties_any (w : World) (g : Nat) (nv av ev : Value) (gs : List RX) (hG : GR w g nv av ev gs) (hO : OkG gs) : Calls Try.prog 32 #[.pointer (some ⟨g, 0, none⟩)] w (OutB w gs.length (knownG gs)) := by
  obtain ⟨g0, g1, g2, hgl⟩ := hG.cells
  obtain ⟨na, nc, rfl⟩ := hG.names.shape
  obtain ⟨ea, ec, rfl⟩ := hG.exps.shape
  have hn := hO.few
  have HG := hide hG
  have HOk := hide hO
  obtain ⟨ti, hi, hzi, hs1, hby⟩ := info_parts infoBoolL
  clear hG hO
  go_enter Try.func32, Try.ntmps32
  go_wp2_with (first | (at_make; refine wpList_make_full w rfl (.tmp 11) (.tmp 11) 89 rfl w.heap.size 4 ti _ 1 Try.underlying89 hi hzi hs1 .i64 .i64 _ _ gs.length rfl rfl rfl rfl (by rw [hby]; omega) (by unfold maxLen; omega) (Nat.le_refl _) ?_) | go_in)
  intro w1 hown1 hgr1
  have HB1 := hide ((Below.refl w.heap.size w).grown hgr1 (Nat.le_refl _) (fun k hk => by cases hk))
  have HO1 := hide (OwnB2.made (n := gs.length) (Nat.le_refl _) (by unfold maxLen; omega) hown1)
  obtain ⟨a0, a1, a2, hal⟩ := ((unhide HG).below (unhide HB1)).cells
  clear hown1 hgr1
  go_wp2_with fail
  go_loopw [3, 18] (fun v i wr => ∃ (m B : Nat), m ≤ gs.length ∧ v = .slice (some ⟨B, 0, none⟩) gs.length gs.length ∧ i = .int .i64 m ∧ Hid (OwnB2 wr w.heap.size B gs.length (empK (bareG gs) m)) ∧ Hid (Below w.heap.size w wr)) (fun _ i _ => gs.length - (intOf i).toNat)
  case atStart => exact ⟨0, w.heap.size, Nat.zero_le _, rfl, rfl, HO1, HB1⟩
  case round =>
    obtain ⟨m, B, hm, rfl, rfl, HO, HB⟩ := hrel
    have hzb := (unhide HB).size
    by_cases hm2 : m < gs.length
    · have hmi : (m : Int) < gs.length := by omega
      obtain ⟨b0, b1, b2, hbl⟩ := ((unhide HG).below (unhide HB)).cells
      clear a0 a1 a2 hal
      have hBl := (unhide HO).lt
      go_wp2_with (first | (at_make; refine wpList_make_full wr rfl (.tmp 24) (.tmp 24) 89 rfl w.heap.size 4 ti _ 1 Try.underlying89 hi hzi hs1 .i64 .i64 _ _ gs.length rfl rfl rfl rfl (by rw [hby]; omega) (by unfold maxLen; omega) hzb ?_) | go_in)
      intro w2 hown2 hgr2
      have hb2 : Below wr.heap.size wr w2 := (Below.refl wr.heap.size wr).grown hgr2 (Nat.le_refl _) (fun k hk => by cases hk)
      have HB2 := hide ((unhide HB).grown hgr2 hzb (fun k hk => by cases hk))
      have HN2 := hide (OwnB2.made (n := gs.length) hzb (by unfold maxLen; omega) hown2)
      have HO2 := hide ((unhide HO).below hb2)
      obtain ⟨d0, d1, d2, hdl⟩ := ((unhide HG).below (unhide HB2)).cells
      obtain ⟨N, hN⟩ : ∃ N, wr.heap.size = N := ⟨_, rfl⟩
      rw [hN] at HN2 ⊢
      have hNB : N ≠ B := by omega
      have hNw : w.heap.size ≤ N := by omega
      clear hown2 hgr2 hb2 b0 b1 b2 hbl HO HB hN hzb hBl
      go_wp2_with fail
      go_loopw [31] (fun i wx => ∃ k : Nat, k ≤ gs.length ∧ i = .int .i64 k ∧ Hid (OwnB2 wx w.heap.size N gs.length (fun j => decide (j < k) && bareG gs (empK (bareG gs) m) j)) ∧ Hid (OwnB2 wx w.heap.size B gs.length (empK (bareG gs) m)) ∧ Hid (Below w.heap.size w wx)) (fun i _ => gs.length - (intOf i).toNat)
      case atStart => exact ⟨0, Nat.zero_le _, rfl, (unhide HN2).congr (fun i _ => by simp), HO2, HB2⟩
      case round =>
        obtain ⟨k, hk, rfl, HNk, HOk2, HBk⟩ := hrel
        by_cases hk2 : k < gs.length
        · have hki : (k : Int) < gs.length := by omega
          have hG3 := (unhide HG).below (unhide HBk)
          have hmem : gs[k] ∈ gs := List.getElem_mem hk2
          obtain ⟨X, cap, hv, _, hc, hf, _, _, _, hXl⟩ := hG3.exps.at (i := k) (u := ptrX gs[k].ex) (by rw [List.getElem?_map, List.getElem?_eq_getElem hk2]; rfl)
          injection hv with hv1 _ hv2
          subst hv1
          subst hv2
          have HC := hide (refBare_any wr g _ _ _ (.slice (some ⟨B, 0, none⟩) gs.length gs.length) gs _ hG3 (unhide HOk2).rowB gs[k].ex (hG3.trees _ hmem) ((unhide HOk).ok _ hmem) ((unhide HOk).unk _ hmem))
          have hbg : bareX (knF (rlX gs) (empK (bareG gs) m)) gs[k].ex = bareG gs (empK (bareG gs) m) k := by
            unfold bareG
            rw [List.getElem?_eq_getElem hk2]
          rw [hbg] at HC
          obtain ⟨bv, hbv⟩ : ∃ bv, bareG gs (empK (bareG gs) m) k = bv := ⟨_, rfl⟩
          rw [hbv] at HC
          have HNs := hide (((unhide HNk).set (i := k) bv).congr (g := fun j => decide (j < k + 1) && bareG gs (empK (bareG gs) m) j) (fun j _ => by
            unfold upd
            by_cases hj : j = k
            · rw [if_pos hj, hj, hbv]; simp
            · rw [if_neg hj, show decide (j < k + 1) = decide (j < k) from decide_eq_decide.2 (by omega)]))
          have HOs := hide ((unhide HOk2).other (p := ⟨N, k, none⟩) hNB (.bool bv))
          have HBs := hide ((unhide HBk).setCell (p := ⟨N, k, none⟩) hNw (.bool bv))
          have nc2 := (unhide HNk).cell hk2
          have nf2 := (unhide HNk).fz
          have nl2 := (unhide HNk).lt
          unfold ptrX at hc HC
          clear hG3 hbg hbv
          go_wp2_with fail
          go_at_call 34
          refine (unhide HC).mono ?_
          rintro x w4 ⟨rfl, hw4⟩
          replace hw4 := hw4.symm
          subst hw4
          go_wp2_with fail
          go_roundw
          case rel => exact ⟨k + 1, by omega, by go_num, HNs, HOs, HBs⟩
          case measure => simp [intOf]; omega
        · have hki : ¬ (k : Int) < gs.length := by omega
          have hke : k = gs.length := by omega
          have HNe := hide ((unhide HNk).congr (g := empK (bareG gs) (m + 1)) (fun j hj => by
            rw [decide_eq_true (show j < k by omega), Bool.true_and]
            rfl))
          go_wp2_with fail
          go_roundw
          case rel => exact ⟨m + 1, N, by omega, rfl, by go_num, HNe, HBk⟩
          case measure => simp [intOf]; omega
    · have hmi : ¬ (m : Int) < gs.length := by omega
      have hme : m = gs.length := by omega
      have HFin : Hid (OwnB2 wr w.heap.size B gs.length (knownG gs)) := by
        have h := unhide HO
        rw [hme] at h
        exact h
      go_wp2
      go_ret
      exact ⟨B, rfl, unhide HFin, unhide HB⟩
end Go.Proofs.Ytbojcemamhiodaa
namespace Go.Proofs.Ytbojcemamhiodaa
open Go.RowKit
/-- a row of numbers of rules -/
theorem toV_at {gs : List RX} {l : List ByteArray} {i : Nat} (hi : i < l.length) : (toV gs l)[i]? = some (.int .i64 (findF (rlX gs) l[i])) := by
  unfold toV
  rw [List.getElem?_map, List.getElem?_eq_getElem hi]
  rfl
/-- rules that are begun with are known -/
theorem beg_in {gs : List RX} (hO : OkG gs) (kn : ByteArray → Bool) {a : Nat} (ha : a < gs.length) (nm : ByteArray) (hn : nm ∈ begX kn gs[a].ex) : ∃ c : Nat, findF (rlX gs) nm = c ∧ c < gs.length := by
  have h1 := beg_known kn (unR (rlX gs)) gs[a].ex (hO.ok _ (List.getElem_mem ha)) (hO.unk _ (List.getElem_mem ha)) nm hn
  unfold unR at h1
  have h2 := findF_range (rlX gs) nm
  rw [rlX_len] at h2
  have h3 : 0 ≤ findF (rlX gs) nm := by simpa using h1
  exact ⟨(findF (rlX gs) nm).toNat, by omega, by omega⟩
theorem fsG_at (gs : List RX) (kn : ByteArray → Bool) {a : Nat} (ha : a < gs.length) : fsG gs kn a = (begX kn gs[a].ex).map fun nm => (findF (rlX gs) nm).toNat := by
  unfold fsG
  rw [List.getElem?_eq_getElem ha]
def nmsG (gs : List RX) (l : List ByteArray) : List Nat := l.map fun nm => (findF (rlX gs) nm).toNat
theorem nmsG_drop {gs : List RX} {l : List ByteArray} {i c : Nat} (hi : i < l.length) (hc : findF (rlX gs) l[i] = c) : nmsG gs (l.drop i) = c :: nmsG gs (l.drop (i + 1)) := by
  unfold nmsG
  rw [List.drop_eq_getElem_cons hi, List.map_cons, hc]
  rfl
theorem rowNe {w : World} {base N : Nat} {e : TypeId} {size : Nat} {v : Value} {n : Nat} {xs : List Value} (h : w.ownsRow base e size v n xs) (hN : N < base) : RowIn w (fun b => b ≠ N) e size v n xs :=
  (RowIn.of_owns h).turn fun b hS _ => ⟨by have hS' : base ≤ b := hS; omega, rfl⟩
theorem rowSet {w : World} {N : Nat} {e : TypeId} {size : Nat} {v : Value} {n : Nat} {xs : List Value} (h : RowIn w (fun b => b ≠ N) e size v n xs) (i : Nat) (u : Value) : RowIn (w.setCell ⟨N, i, none⟩ u) (fun b => b ≠ N) e size v n xs :=
  h.turn fun _ hS _ => ⟨hS, Below.heap_setCell _ _ _ _ hS⟩
set_option maxRecDepth 4000 in
set_option maxHeartbeats 8000000 in
theorem reached_any (w : World) (g : Nat) (nv av ev kv : Value) (gs : List RX) (kf : Nat → Bool) (hG : GR w g nv av ev gs) (hO : OkG gs) (hK : RowB w kv gs.length kf) (a : Nat) (ha : a < gs.length) :
    Calls Try.prog 33 #[.pointer (some ⟨g, 0, none⟩), .int .i64 a, kv] w (OutB w gs.length (reachR (fsG gs (knF (rlX gs) kf)) gs.length a)) := by
  obtain ⟨g0, g1, g2, hgl⟩ := hG.cells
  obtain ⟨na, nc, rfl⟩ := hG.names.shape
  obtain ⟨ea, ec, hev⟩ := hG.exps.shape
  obtain ⟨X, cap, hv, _, hc, hf, _, _, _, hXl⟩ := hG.exps.at (i := a) (u := ptrX gs[a].ex) (by rw [List.getElem?_map, List.getElem?_eq_getElem ha]; rfl)
  subst hv
  clear hev
  have hn := hO.few
  have hai : (a : Int) < gs.length := by omega
  have ha0 : (0 : Int) ≤ (a : Int) := by omega
  have HG := hide hG
  have HOk := hide hO
  have HKn := hide hK
  obtain ⟨kn, hkn⟩ : ∃ kn, knF (rlX gs) kf = kn := ⟨_, rfl⟩
  have HFi := hide (fun (W : World) (hW : Below w.heap.size w W) (b : Nat) (hb : b < gs.length) => (first_any g _ _ _ kv gs kf gs[b].ex W (hG.below hW) (hK.below hW) ((hG.trees _ (List.getElem_mem hb)).below hW) (hO.ok _ (List.getElem_mem hb)) (hO.unk _ (List.getElem_mem hb)) (hO.size _ (List.getElem_mem hb))))
  rw [hkn] at HFi ⊢
  have HIn := hide (fun (b : Nat) (hb : b < gs.length) (nm : ByteArray) (h : nm ∈ begX kn gs[b].ex) => beg_in hO kn hb nm h)
  have HFs := hide (fun (b : Nat) (hb : b < gs.length) => fsG_at gs kn hb)
  obtain ⟨ti, hi, hzi, hs1, hby⟩ := info_parts infoBoolL
  unfold ptrX at hc HFi
  clear hG hO hK hkn
  go_enter Try.func33, Try.ntmps33
  go_wp2_with (first | (at_make; refine wpList_make_full w rfl (.tmp 17) (.tmp 17) 89 rfl w.heap.size 4 ti _ 1 Try.underlying89 hi hzi hs1 .i64 .i64 _ _ gs.length rfl rfl rfl rfl (by rw [hby]; omega) (by unfold maxLen; omega) (Nat.le_refl _) ?_) | go_in)
  intro w1 hown1 hgr1
  have HB1 := hide ((Below.refl w.heap.size w).grown hgr1 (Nat.le_refl _) (fun k hk => by cases hk))
  have HO1 := hide (OwnB2.made (n := gs.length) (Nat.le_refl _) (by unfold maxLen; omega) hown1)
  obtain ⟨a0, a1, a2, hal⟩ := ((unhide HG).below (unhide HB1)).cells
  have hcA := ((unhide HB1).cell (p := ⟨X, a, none⟩) hXl).trans hc
  have hzA := (unhide HB1).size
  obtain ⟨N, hN⟩ : ∃ N, N = w.heap.size := ⟨_, rfl⟩
  have HO1N : Hid (OwnB2 w1 w.heap.size N gs.length fun _ => false) := by rw [hN]; exact HO1
  have hNw : w.heap.size ≤ N := by omega
  have hN1 : N < w1.heap.size := (unhide HO1N).lt
  rw [← hN]
  clear hown1 hgr1 g0 g1 g2 hf hN HO1
  go_wp2_with fail
  go_at_call 52
  refine (unhide HFi _ (unhide HB1) a ha).mono ?_
  rintro x w2 ⟨v2, rfl, hown2, hb2⟩
  have HO2 := hide ((unhide HO1N).below hb2)
  have HB2 := hide ((unhide HB1).trans (hb2.mono hzA))
  have hbl2 := begX_len kn gs[a].ex
  have hsz2 := (unhide HOk).size _ (List.getElem_mem ha)
  have HIn2 := hide (unhide HIn a ha)
  have HFs2 := hide (unhide HFs a ha)
  generalize begX kn gs[a].ex = L at hown2 hbl2 HIn2 HFs2
  obtain ⟨la, lc, rfl⟩ := own_shape hown2
  have HL := hide (rowNe hown2 (by omega))
  have hLl : L.length ≤ 1000000 := by omega
  clear hown2 hb2 hbl2 hsz2 a0 a1 a2 hal hcA hc hN1 hzA HB1 HO1N
  go_wp2_with fail
  go_loopw [30] (fun i wr => ∃ (k : Nat) (f : Nat → Bool), k ≤ L.length ∧ i = .int .i64 k ∧ Hid (startR (nmsG gs L) (fun _ => false) = startR (nmsG gs (L.drop k)) f) ∧ Hid (OwnB2 wr w.heap.size N gs.length f) ∧ Hid (Below w.heap.size w wr) ∧ Hid (RowIn wr (fun b => b ≠ N) 3 1 (.slice la L.length lc) L.length (toV gs L))) (fun i _ => L.length - (intOf i).toNat)
  case atStart => exact ⟨0, fun _ => false, Nat.zero_le _, rfl, rfl, HO2, HB2, HL⟩
  case round =>
    obtain ⟨k, f, hk, rfl, HS, HOf, HBf, HLf⟩ := hrel
    clear HO2 HB2 HL
    by_cases hk2 : k < L.length
    · have hki : (k : Int) < L.length := by omega
      obtain ⟨c, hc, hcl⟩ := unhide HIn2 L[k] (List.getElem_mem hk2)
      have hci : (c : Int) < gs.length := by omega
      have hat := toV_at (gs := gs) hk2
      rw [hc] at hat
      obtain ⟨Y, cap2, hv, _, hcY, hfY, _, _, _, hYl⟩ := (unhide HLf).at hat
      injection hv with hv1 _ hv2
      subst hv1
      subst hv2
      have HS2 : Hid (startR (nmsG gs L) (fun _ => false) = startR (nmsG gs (L.drop (k + 1))) (upd f c true)) := by
        have h := unhide HS
        rw [nmsG_drop hk2 hc] at h
        exact h
      have HOs := hide ((unhide HOf).set (i := c) true)
      have HBs := hide ((unhide HBf).setCell (p := ⟨N, c, none⟩) hNw (.bool true))
      have HLs := hide (rowSet (unhide HLf) c (.bool true))
      have nc2 := (unhide HOf).cell hcl
      have nf2 := (unhide HOf).fz
      have nl2 := (unhide HOf).lt
      clear hc hat
      go_wp2_with fail
      go_roundw
      case rel => exact ⟨k + 1, _, by omega, by go_num, HS2, HOs, HBs, HLs⟩
      case measure => simp [intOf]; omega
    · have hki : ¬ (k : Int) < L.length := by omega
      have HF0 : Hid (reachR (fsG gs kn) gs.length a = roundsR (fsG gs kn) gs.length gs.length f) := by
        have h := unhide HS
        rw [List.drop_eq_nil_of_le (by omega)] at h
        unfold reachR
        rw [unhide HFs2]
        exact congrArg (roundsR (fsG gs kn) gs.length gs.length) h
      obtain ⟨a0, a1, a2, hal⟩ := ((unhide HG).below (unhide HBf)).cells
      clear HS HIn2 HFs2
      go_wp2_with fail
      go_loopw [43] (fun i wr => ∃ (m : Nat) (f : Nat → Bool), m ≤ gs.length ∧ i = .int .i64 m ∧ Hid (reachR (fsG gs kn) gs.length a = roundsR (fsG gs kn) gs.length (gs.length - m) f) ∧ Hid (OwnB2 wr w.heap.size N gs.length f) ∧ Hid (Below w.heap.size w wr)) (fun i _ => gs.length - (intOf i).toNat)
      case atStart => exact ⟨0, f, Nat.zero_le _, rfl, HF0, HOf, HBf⟩
      case round =>
        obtain ⟨m, f1, hm, rfl, HF1, HO1, HB1⟩ := hrel
        clear HF0 HOf HBf HLf a0 a1 a2 hal
        by_cases hm2 : m < gs.length
        · have hmi : (m : Int) < gs.length := by omega
          have HF2 : Hid (reachR (fsG gs kn) gs.length a = roundsR (fsG gs kn) gs.length (gs.length - (m + 1)) (roundR (fsG gs kn) (List.range gs.length) f1)) := by
            have h := unhide HF1
            rw [show gs.length - m = (gs.length - (m + 1)) + 1 by omega] at h
            exact h
          go_wp2_with fail
          go_loopw [47] (fun i wr => ∃ (b : Nat) (f : Nat → Bool), b ≤ gs.length ∧ i = .int .i64 b ∧ Hid (roundR (fsG gs kn) (List.range gs.length) f1 = roundR (fsG gs kn) ((List.range gs.length).drop b) f) ∧ Hid (OwnB2 wr w.heap.size N gs.length f) ∧ Hid (Below w.heap.size w wr)) (fun i _ => gs.length - (intOf i).toNat)
          case atStart => exact ⟨0, f1, Nat.zero_le _, rfl, rfl, HO1, HB1⟩
          case round =>
            obtain ⟨b, f2, hb, rfl, HR2, HO2, HB2⟩ := hrel
            clear HF1 HO1 HB1
            by_cases hb2 : b < gs.length
            · have hbi : (b : Int) < gs.length := by omega
              have hG3 := (unhide HG).below (unhide HB2)
              obtain ⟨b0, b1, b2, hbl⟩ := hG3.cells
              obtain ⟨Z, cap3, hv3, _, hcZ, hfZ, _, _, _, hZl⟩ := hG3.exps.at (i := b) (u := ptrX gs[b].ex) (by rw [List.getElem?_map, List.getElem?_eq_getElem hb2]; rfl)
              injection hv3 with hv4 _ hv5
              injection hv4 with hv4
              injection hv4 with hv4
              subst hv4
              unfold ptrX at hcZ
              have HC := hide (unhide HFi _ (unhide HB2) b hb2)
              have hsz3 := (unhide HOk).size _ (List.getElem_mem hb2)
              have hbl3 := begX_len kn gs[b].ex
              have HIn3 := hide (unhide HIn b hb2)
              have HR3 : Hid (roundR (fsG gs kn) (List.range gs.length) f1 = roundR (fsG gs kn) ((List.range gs.length).drop (b + 1)) (stepR b (nmsG gs (begX kn gs[b].ex)) f2)) := by
                have h := unhide HR2
                rw [List.drop_eq_getElem_cons (by simpa using hb2), roundR, List.getElem_range, unhide HFs b hb2] at h
                exact h
              have hN2 := (unhide HO2).lt
              have hz2 := (unhide HB2).size
              clear hG3 hv5
              obtain ⟨M, hM⟩ : ∃ M, begX kn gs[b].ex = M := ⟨_, rfl⟩
              rw [hM] at hbl3 HIn3 HR3
              go_wp2_with fail
              go_at_call 52
              refine (unhide HC).mono ?_
              rintro x w4 ⟨v4, rfl, hown4, hb4⟩
              rw [hM] at hown4
              have HO4 := hide ((unhide HO2).below hb4)
              have HB4 := hide ((unhide HB2).trans (hb4.mono hz2))
              obtain ⟨ma, mc, rfl⟩ := own_shape hown4
              have HL4 := hide (rowNe hown4 hN2)
              have hMl : M.length ≤ 1000000 := by omega
              clear hown4 hb4 hM hbl3 hsz3 b0 b1 b2 hbl hcZ hfZ hZl hN2 hz2 HC HO2 HB2 HR2
              go_wp2_with fail
              go_loopw [61] (fun i wr => ∃ (k : Nat) (f : Nat → Bool), k ≤ M.length ∧ i = .int .i64 k ∧ Hid (stepR b (nmsG gs M) f2 = stepR b (nmsG gs (M.drop k)) f) ∧ Hid (OwnB2 wr w.heap.size N gs.length f) ∧ Hid (Below w.heap.size w wr) ∧ Hid (RowIn wr (fun b => b ≠ N) 3 1 (.slice ma M.length mc) M.length (toV gs M))) (fun i _ => M.length - (intOf i).toNat)
              case atStart => exact ⟨0, f2, Nat.zero_le _, rfl, rfl, HO4, HB4, HL4⟩
              case round =>
                obtain ⟨k, f3, hk, rfl, HS3, HO3, HB3, HL3⟩ := hrel
                clear HO4 HB4 HL4
                by_cases hk2 : k < M.length
                · have hki : (k : Int) < M.length := by omega
                  obtain ⟨c, hc, hcl⟩ := unhide HIn3 M[k] (List.getElem_mem hk2)
                  have hci : (c : Int) < gs.length := by omega
                  have hat := toV_at (gs := gs) hk2
                  rw [hc] at hat
                  obtain ⟨Y, cap2, hv, _, hcY, hfY, _, _, _, hYl⟩ := (unhide HL3).at hat
                  injection hv with hv1 _ hv2
                  subst hv1
                  subst hv2
                  cases hfc : f3 c
                  · have HS4 : Hid (stepR b (nmsG gs M) f2 = stepR b (nmsG gs (M.drop (k + 1))) (upd f3 c (false || f3 b))) := by
                      have h := unhide HS3
                      rw [nmsG_drop hk2 hc, stepR, hfc] at h
                      exact h
                    have HOs := hide ((unhide HO3).set (i := c) ((false || f3 b)))
                    have HBs := hide ((unhide HB3).setCell (p := ⟨N, c, none⟩) hNw (.bool ((false || f3 b))))
                    have HLs := hide (rowSet (unhide HL3) c (.bool ((false || f3 b))))
                    have nc2 := (unhide HO3).cell hcl
                    have nb2 := (unhide HO3).cell hb2
                    have nf2 := (unhide HO3).fz
                    have nl2 := (unhide HO3).lt
                    rw [hfc] at nc2
                    clear hc hat hfc
                    go_wp2_with fail
                    go_roundw
                    case rel => exact ⟨k + 1, _, by omega, by go_num, HS4, HOs, HBs, HLs⟩
                    case measure => simp [intOf]; omega
                  · have HS4 : Hid (stepR b (nmsG gs M) f2 = stepR b (nmsG gs (M.drop (k + 1))) (upd f3 c (true || f3 b))) := by
                      have h := unhide HS3
                      rw [nmsG_drop hk2 hc, stepR, hfc] at h
                      exact h
                    have HOs := hide ((unhide HO3).set (i := c) ((true || f3 b)))
                    have HBs := hide ((unhide HB3).setCell (p := ⟨N, c, none⟩) hNw (.bool ((true || f3 b))))
                    have HLs := hide (rowSet (unhide HL3) c (.bool ((true || f3 b))))
                    have nc2 := (unhide HO3).cell hcl
                    have nb2 := (unhide HO3).cell hb2
                    have nf2 := (unhide HO3).fz
                    have nl2 := (unhide HO3).lt
                    rw [hfc] at nc2
                    clear hc hat hfc
                    go_wp2_with fail
                    go_roundw
                    case rel => exact ⟨k + 1, _, by omega, by go_num, HS4, HOs, HBs, HLs⟩
                    case measure => simp [intOf]; omega
                · have hki : ¬ (k : Int) < M.length := by omega
                  have HR4 : Hid (roundR (fsG gs kn) (List.range gs.length) f1 = roundR (fsG gs kn) ((List.range gs.length).drop (b + 1)) f3) := by
                    have h := unhide HS3
                    rw [List.drop_eq_nil_of_le (by omega)] at h
                    have h2 := unhide HR3
                    rw [h] at h2
                    exact h2
                  go_wp2_with fail
                  go_roundw
                  case rel => exact ⟨b + 1, f3, by omega, by go_num, HR4, HO3, HB3⟩
                  case measure => simp [intOf]; omega
            · have hbi : ¬ (b : Int) < gs.length := by omega
              have HR3 : Hid (roundR (fsG gs kn) (List.range gs.length) f1 = f2) := by
                have h := unhide HR2
                rw [List.drop_eq_nil_of_le (by simp; omega)] at h
                exact h
              rw [unhide HR3] at HF2
              go_wp2_with fail
              go_roundw
              case rel => exact ⟨m + 1, f2, by omega, by go_num, HF2, HO2, HB2⟩
              case measure => simp [intOf]; omega
        · have hmi : ¬ (m : Int) < gs.length := by omega
          have HFin : Hid (reachR (fsG gs kn) gs.length a = f1) := by
            have h := unhide HF1
            rw [show gs.length - m = 0 by omega] at h
            exact h
          go_wp2
          go_ret
          refine ⟨N, rfl, ?_, unhide HB1⟩
          rw [unhide HFin]
          exact unhide HO1
end Go.Proofs.Ytbojcemamhiodaa

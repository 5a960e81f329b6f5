import Derived.Test.YtbojcemamhiodaaXp
import Derived.Test.YtbojcemamhiodaaRys
namespace Go.Proofs.Ytbojcemamhiodaa
open Go.RowKit
theorem RowIn.shape {w : World} {S : Nat → Prop} {e : TypeId} {size : Nat} {v : Value} {n : Nat} {xs : List Value} (h : RowIn w S e size v n xs) : ∃ ao cp, v = .slice ao n cp := by
  rcases h.2 with ⟨h2, h3⟩ | ⟨g, cap, cur, h2, _⟩
  · exact ⟨none, 0, by rw [h2, h3]⟩
  · exact ⟨_, cap, h2⟩
theorem RowIn.few {w : World} {S : Nat → Prop} {e : TypeId} {size : Nat} {v : Value} {n : Nat} {xs : List Value} (h : RowIn w S e size v n xs) : n ≤ maxLen := by
  rcases h.2 with ⟨h2, h3⟩ | ⟨g, cap, cur, h2, _, _, h3, h4, _⟩
  · rw [h3]; exact Nat.zero_le _
  · omega
theorem RowIn.at {w : World} {S : Nat → Prop} {e : TypeId} {v : Value} {n : Nat} {xs : List Value} (h : RowIn w S e 1 v n xs) {i : Nat} {u : Value} (hi : xs[i]? = some u) :
    ∃ B cap, v = .slice (some ⟨B, 0, none⟩) n cap ∧ S B ∧ w.cell? ⟨B, i, none⟩ = some u ∧ (∀ o, w.frozen? ⟨B, o, none⟩ = false) ∧ i < n ∧ n ≤ cap ∧ cap ≤ maxLen ∧ B < w.heap.size := by
  have hil := (List.getElem?_eq_some_iff.1 hi).1
  obtain ⟨hl, h2⟩ := h
  rcases h2 with ⟨h2, h3⟩ | ⟨g, cap, cur, h2, hS, hh, h3, h4, h5, h6⟩
  · omega
  · refine ⟨g, cap, h2, hS, ?_, fun o => ?_, by omega, h3, h4, (Array.getElem?_eq_some_iff.1 hh).1⟩
    · rw [← h6, List.getElem?_take, if_pos (by omega)] at hi
      simp only [World.cell?, hh]
      simpa using hi
    · simp [World.frozen?, hh]
theorem RowIn.below {w w' : World} {S : Nat → Prop} {e : TypeId} {size : Nat} {v : Value} {n : Nat} {xs : List Value} (h : RowIn w S e size v n xs) (hb : Below w.heap.size w w') : RowIn w' S e size v n xs := h.turn fun b hS hz => ⟨hS, hb.block b hz⟩
def AnyB (_ : Nat) : Prop := True
def SameW (a b : World) : Prop := a = b
theorem RowIn.any {w : World} {S : Nat → Prop} {e : TypeId} {size : Nat} {v : Value} {n : Nat} {xs : List Value} (h : RowIn w S e size v n xs) : RowIn w AnyB e size v n xs := h.turn fun _ _ _ => ⟨trivial, rfl⟩
theorem Tree.any {w : World} {S : Nat → Prop} {e : Ex} (h : Tree w S e) : Tree w AnyB e := Tree.turn (fun _ _ _ => ⟨trivial, rfl⟩) e h
/-- a grammar of pegref as it lies in memory -/
structure GR (w : World) (g : Nat) (nv av ev : Value) (gs : List RX) : Prop where
  blk : w.heap[g]? = some (.cells #[nv, av, ev] 33)
  names : RowIn w AnyB 9 1 nv gs.length (gs.map fun x => .string x.name)
  ats : RowIn w AnyB 3 1 av gs.length (gs.map fun x => .int .i64 x.at_)
  exps : RowIn w AnyB 57 1 ev gs.length (gs.map fun x => ptrX x.ex)
  trees : ∀ x ∈ gs, Tree w AnyB x.ex
theorem GR.below {w w' : World} {g : Nat} {nv av ev : Value} {gs : List RX} (h : GR w g nv av ev gs) (hb : Below w.heap.size w w') : GR w' g nv av ev gs :=
  ⟨(hb.block g (Array.getElem?_eq_some_iff.1 h.blk).1).trans h.blk, h.names.below hb, h.ats.below hb, h.exps.below hb, fun x hx => (h.trees x hx).below hb⟩
theorem GR.cells {w : World} {g : Nat} {nv av ev : Value} {gs : List RX} (h : GR w g nv av ev gs) : w.cell? ⟨g, 0, none⟩ = some nv ∧ w.cell? ⟨g, 1, none⟩ = some av ∧ w.cell? ⟨g, 2, none⟩ = some ev ∧ g < w.heap.size := by
  refine ⟨?_, ?_, ?_, (Array.getElem?_eq_some_iff.1 h.blk).1⟩
  all_goals simp [World.cell?, h.blk]
theorem rlX_len (gs : List RX) : (rlX gs).length = gs.length := by simp [rlX]
set_option maxHeartbeats 1000000 in
theorem Rule_any (w : World) (g : Nat) (nv av ev : Value) (gs : List RX) (nm : ByteArray) (h : GR w g nv av ev gs) :
    Calls Try.prog 30 #[.pointer (some ⟨g, 0, none⟩), .string nm] w fun e w' => e = .returned (.int .i64 (findF (rlX gs) nm)) ∧ w' = w := by
  obtain ⟨c0, _, _, hlt⟩ := h.cells
  obtain ⟨ao, cp, rfl⟩ := h.names.shape
  have hfew := h.names.few
  unfold maxLen at hfew
  have HN := hide h.names
  clear h
  go_enter Try.func30, Try.ntmps30
  go_wp2
  go_loop [12] (fun i => ∃ k : Nat, k ≤ gs.length ∧ i = .int .i64 k ∧ Hid (findF (rlX gs) nm = findFrom ((rlX gs).drop k) k nm)) (fun i => gs.length - (intOf i).toNat)
  case atStart => exact ⟨0, Nat.zero_le _, rfl, rfl⟩
  case round =>
    obtain ⟨k, hk, rfl, HS⟩ := hrel
    by_cases hk2 : k < gs.length
    · have hki : (k : Int) < gs.length := by omega
      obtain ⟨B, cap, hv, _, hc, hf, _, _, _, hB⟩ := (unhide HN).at (i := k) (u := .string gs[k].name) (by rw [List.getElem?_map, List.getElem?_eq_getElem hk2]; rfl)
      injection hv with hv1 _ hv2
      subst hv1
      subst hv2
      have hd : (rlX gs).drop k = gs[k].rl :: (rlX gs).drop (k + 1) := by
        rw [List.drop_eq_getElem_cons (by rw [rlX_len]; exact hk2)]
        simp [rlX]
      cases hx : (gs[k].name.toList == nm.toList)
      · have HE : Hid (findF (rlX gs) nm = findFrom ((rlX gs).drop (k + 1)) (k + 1 : Nat) nm) := by
          refine (unhide HS).trans ?_
          rw [hd, findFrom, if_neg (by show ¬ (gs[k].name.toList == nm.toList) = true; simp [hx])]
          rfl
        clear hd
        go_wp2
        go_round
        case rel => exact ⟨k + 1, by omega, by go_num, HE⟩
        case measure => simp [intOf]; omega
      · have HE : Hid (findF (rlX gs) nm = k) := by
          refine (unhide HS).trans ?_
          rw [hd, findFrom, if_pos (show (gs[k].rl.name.toList == nm.toList) = true from hx)]
        clear hd
        go_wp2
        go_ret
        exact ⟨ret_int (unhide HE).symm, rfl⟩
    · have hki : ¬ (k : Int) < gs.length := by omega
      have HE : Hid (findF (rlX gs) nm = -1) := by
        refine (unhide HS).trans ?_
        rw [List.drop_eq_nil_of_le (by rw [rlX_len]; omega)]; rfl
      go_wp2
      go_ret
      exact ⟨ret_int (unhide HE).symm, rfl⟩
end Go.Proofs.Ytbojcemamhiodaa
namespace Go.Proofs.Ytbojcemamhiodaa
open Go.RowKit
theorem szL_take (l : List Ex) : ∀ k, szL (l.take k) ≤ szL l := by
  induction l with
  | nil => intro k; simp
  | cons e l ih =>
    intro k
    cases k with
    | zero => simp [szL]
    | succ k => rw [List.take_succ_cons, szL_cons, szL_cons]; have := ih k; omega
theorem allL_len : ∀ l : List Ex, (l.map allX).flatten.length = szL l
  | [] => rfl
  | e :: l => by rw [List.map_cons, List.flatten_cons, List.length_append, allX_len, allL_len l, szL_cons]
/-- all parts of expressions, as they lie in memory -/
def allV (l : List Ex) : List Value := (l.map allX).flatten.map ptrX
def allE (e : Ex) : List Value := (allX e).map ptrX
theorem allE_one (e : Ex) : ∀ u ∈ allE e, u.oneCell' = true := by
  intro u hu
  unfold allE at hu
  rw [List.mem_map] at hu
  obtain ⟨y, _, rfl⟩ := hu
  rfl
/-- what all answers -/
def OutA (w : World) (e : Ex) (x : Ending) (w' : World) : Prop := ∃ v, x = .returned v ∧ w'.ownsRow w.heap.size 57 1 v (allX e).length (allE e) ∧ Below w.heap.size w w'
theorem infoPtrX : (Try.prog.info? 57).map (fun i => (i.zero, i.size, i.bytes)) = some (some (.pointer none), 1, 8) := by kernel_rfl
theorem own_some {w : World} {base : Nat} {e : TypeId} {size : Nat} {v : Value} {n : Nat} {xs : List Value} (h : w.ownsRow base e size v n xs) (hn : n ≠ 0) : ∃ g cap, v = .slice (some ⟨g, 0, none⟩) n cap ∧ base ≤ g := by
  rcases h.2 with ⟨_, h3⟩ | ⟨g, cap, cur, h2, h3, _⟩
  · exact absurd h3 hn
  · exact ⟨g, cap, h2, h3⟩
set_option maxRecDepth 4000 in
set_option maxHeartbeats 1000000 in
theorem all_any (e : Ex) : ∀ w : World, Tree w AnyB e → szX e ≤ 1000000 → Calls Try.prog 31 #[ptrX e] w (OutA w e) := by
  refine Ex.ind (P := fun e => ∀ w : World, Tree w AnyB e → szX e ≤ 1000000 → Calls Try.prog 31 #[ptrX e] w (OutA w e)) (fun e ih w ht hz => ?_) e
  have HT := hide ht
  rw [Tree_iff] at ht
  obtain ⟨_, ⟨lv, hb, hrow⟩, hk⟩ := ht
  have c1 := hb.c1
  have hlt := hb.lt
  have hsz := szX_def e
  have hlen := allX_len e
  obtain ⟨ao, cp, rfl⟩ := hrow.shape
  have hfew := hrow.few
  unfold maxLen at hfew
  have HR := hide hrow
  have HK := hide hk
  have HI := hide ih
  have HL := hide (show allE e = allV e.kids ++ [ptrX e] by unfold allE allV; rw [allX_def, List.map_append]; rfl)
  obtain ⟨ti, hi, hzi, hs1, hby⟩ := info_parts infoPtrX
  clear hb hrow hk ih
  unfold ptrX at HL ⊢
  go_enter Try.func31, Try.ntmps31
  go_wp2
  go_loopw [3, 11] (fun v i wr => ∃ (k : Nat) (a1 : Option Addr) (n1 p1 : Nat), k ≤ e.kids.length ∧ v = .slice a1 n1 p1 ∧ i = .int .i64 k ∧ Hid (n1 = szL (e.kids.take k) ∧ wr.ownsRow w.heap.size 57 1 (.slice a1 n1 p1) n1 (allV (e.kids.take k))) ∧ Hid (Below w.heap.size w wr)) (fun _ i _ => e.kids.length - (intOf i).toNat)
  case atStart => exact ⟨0, none, 0, 0, Nat.zero_le _, rfl, rfl, ⟨rfl, World.ownsRow_nil _ _ _ _⟩, Below.refl _ _⟩
  case round =>
    obtain ⟨k, a1, n1, p1, hk, rfl, rfl, HO, HB⟩ := hrel
    have hzb := (unhide HB).size
    by_cases hk2 : k < e.kids.length
    · have hki : (k : Int) < e.kids.length := by omega
      have hmem : e.kids[k] ∈ e.kids := List.getElem_mem hk2
      obtain ⟨B, cap, hv, _, hc, hf, _, _, _, hB⟩ := ((unhide HR).below (unhide HB)).at (i := k) (u := ptrX e.kids[k]) (by rw [List.getElem?_map, List.getElem?_eq_getElem hk2]; rfl)
      injection hv with hv1 _ hv2
      subst hv1
      subst hv2
      have htk : e.kids.take (k + 1) = e.kids.take k ++ [e.kids[k]] := by rw [List.take_add_one, List.getElem?_eq_getElem hk2]; rfl
      have hsum : szL (e.kids.take (k + 1)) = szL (e.kids.take k) + szX e.kids[k] := by rw [htk]; unfold szL; rw [List.map_append, List.sum_append]; simp
      have hle := szL_take e.kids (k + 1)
      have hbd : n1 + szX e.kids[k] ≤ 1000000 ∧ n1 + szX e.kids[k] = szL (e.kids.take (k + 1)) := by have := (unhide HO).1; omega
      have hbd1 := hbd.1
      have HBD := hide hbd.2
      have HC := hide (unhide HI e.kids[k] hmem wr ((unhide HK _ hmem).below (unhide HB)) (by omega))
      have hpos : szX e.kids[k] ≠ 0 := by rw [szX_def]; omega
      have hlk := allX_len e.kids[k]
      have HFl := hide (show allV (e.kids.take (k + 1)) = allV (e.kids.take k) ++ allE e.kids[k] by unfold allV allE; rw [htk, List.map_append, List.flatten_append, List.map_append]; simp)
      unfold ptrX at hc HC
      clear htk hsum hle hbd hsz hlen
      go_wp2_with fail
      go_at_call 31
      refine (unhide HC).mono ?_
      rintro x w2 ⟨v2, rfl, hown2, hb2⟩
      rw [hlk] at hown2
      obtain ⟨g2, cap2, rfl, hg2⟩ := own_some hown2 hpos
      have HO2 := hide hown2
      have HB2 := hide hb2
      have hz2 := hb2.size
      have HO1 := hide (own_below (unhide HO).2 hb2)
      have hlt1 := hide ((unhide HO).2.lt)
      clear hown2 hb2
      go_wp2_with (first | (at_builtin; refine wpList_append2 w2 rfl (.tmp 15) (.tmp 17) 31 rfl w.heap.size 57 ti _ 1 8 Try.underlying31 hi hzi hs1 hby rfl (by omega) (.slice a1 n1 p1) n1 _ rfl (unhide HO1) ⟨g2, 0, none⟩ (szX e.kids[k]) cap2 (by omega) _ rfl (unhide HO2).1 ((unhide HO2).cells rfl) (allE_one _) (by unfold maxLen; omega) (by omega) (by omega) ?_) | go_in)
      intro v3 w3 hown3 hgr3 hat3
      obtain ⟨a3, c3, rfl⟩ := own_shape hown3
      have HO3 : Hid (n1 + szX e.kids[k] = szL (e.kids.take (k + 1)) ∧ w3.ownsRow w.heap.size 57 1 (.slice a3 (n1 + szX e.kids[k]) c3) (n1 + szX e.kids[k]) (allV (e.kids.take (k + 1)))) := ⟨unhide HBD, by rw [unhide HFl]; exact hown3⟩
      have HB3 := hide (((unhide HB).trans ((unhide HB2).mono hzb)).grown hgr3 (by omega) (fun j hj => (unhide hlt1 j hj).1))
      clear hown3 hgr3 hat3
      go_wp2_with fail
      go_roundw
      case rel => exact ⟨k + 1, a3, n1 + szX e.kids[k], c3, by omega, rfl, by go_num, HO3, HB3⟩
      case measure => simp [intOf]; omega
    · have hki : ¬ (k : Int) < e.kids.length := by omega
      have hke : k = e.kids.length := by omega
      have hn1 := (unhide HO).1
      have hown := (unhide HO).2
      rw [hke, List.take_length] at hown hn1
      have hbd1 : n1 ≤ 1000000 := by omega
      have e1 : (allX e).length = n1 + 1 := by omega
      have HE1 := hide e1
      have HO1 := hide hown
      clear hn1 e1 hsz hlen hke
      have hlt1 := hide hown.lt
      clear hown HO
      go_wp2_with (first | (at_builtin; refine wpList_append2 (wr.alloc (.cells #[.pointer (some ⟨e.b, 0, none⟩)] 57)) rfl (.tmp 20) (.tmp 22) 31 rfl w.heap.size 57 ti _ 1 8 Try.underlying31 hi hzi hs1 hby rfl (by omega) (.slice a1 n1 p1) n1 _ rfl (own_below (unhide HO1) ((Below.refl _ _).alloc (Nat.le_refl _) _)) ⟨wr.heap.size, 0, none⟩ 1 1 (by omega) [.pointer (some ⟨e.b, 0, none⟩)] rfl rfl ptr_new (by simp; rfl) (by unfold maxLen; omega) (by omega) (by simp; omega) ?_) | go_in)
      intro v3 w3 hown3 hgr3 hat3
      obtain ⟨a3, c3, rfl⟩ := own_shape hown3
      have HO3 := hide hown3
      have HB3 := hide (((unhide HB).alloc hzb _).grown hgr3 (by simp; omega) (fun j hj => (unhide hlt1 j hj).1))
      clear hown3 hgr3 hat3
      go_wp2
      go_ret
      refine ⟨_, rfl, ?_, unhide HB3⟩
      rw [unhide HE1, unhide HL]
      exact unhide HO3
end Go.Proofs.Ytbojcemamhiodaa
namespace Go.Proofs.Ytbojcemamhiodaa
open Go.RowKit
theorem firstX_none {f : Ex → Int} : ∀ {l : List Ex}, firstX f l = -1 → ∀ e ∈ l, f e = -1
  | [], _, e, he => by simp at he
  | x :: l, h, e, he => by
    rw [firstX] at h
    cases hx : (f x != -1)
    · rw [if_neg (by simp [hx])] at h
      rw [List.mem_cons] at he
      rcases he with rfl | he
      · simpa using hx
      · exact firstX_none h e he
    · rw [if_pos hx] at h
      rw [h] at hx
      simp at hx
theorem unkX_kids {un : ByteArray → Bool} {e : Ex} (h : unkX un e = -1) (ho : OkX e) : (∀ k ∈ e.kids, unkX un k = -1) ∧ (e.op = 2 → un e.str = false) := by
  have h' := (OkX_iff e).1 ho
  rw [unkX_def] at h
  by_cases hc : e.op = 2 ∧ un e.str = true
  · rw [if_pos hc] at h
    have := h'.at0
    omega
  · rw [if_neg hc] at h
    refine ⟨firstX_none h, fun h2 => ?_⟩
    cases hu : un e.str
    · rfl
    · exact absurd ⟨h2, hu⟩ hc
/-- a row of truths -/
def RowB (w : World) (v : Value) (n : Nat) (f : Nat → Bool) : Prop := RowIn w AnyB 4 1 v n ((List.range n).map fun i => Value.bool (f i))
theorem RowB.below {w w' : World} {v : Value} {n : Nat} {f : Nat → Bool} (h : RowB w v n f) (hb : Below w.heap.size w w') : RowB w' v n f := RowIn.below h hb
theorem RowB.at {w : World} {v : Value} {n : Nat} {f : Nat → Bool} (h : RowB w v n f) {i : Nat} (hi : i < n) :
    ∃ B cap, v = .slice (some ⟨B, 0, none⟩) n cap ∧ w.cell? ⟨B, i, none⟩ = some (.bool (f i)) ∧ (∀ o, w.frozen? ⟨B, o, none⟩ = false) ∧ n ≤ cap ∧ cap ≤ maxLen ∧ B < w.heap.size := by
  obtain ⟨B, cap, h1, _, h2, h3, _, h4, h5, h6⟩ := RowIn.at h (i := i) (u := .bool (f i)) (by simp [hi])
  exact ⟨B, cap, h1, h2, h3, h4, h5, h6⟩
def cntB (p : Ex → Bool) (l : List Ex) : Nat := l.countP p
theorem cntB_all (p : Ex → Bool) (l : List Ex) : ((cntB p l : Int) == (l.length : Int)) = l.all p := by
  unfold cntB
  rw [Bool.eq_iff_iff, List.all_eq_true, ← List.countP_eq_length, beq_iff_eq]
  omega
theorem cntB_any (p : Ex → Bool) (l : List Ex) : decide (0 < cntB p l) = l.any p := by
  unfold cntB
  rw [Bool.eq_iff_iff, List.any_eq_true, decide_eq_true_iff, ← List.countP_pos_iff]
theorem cntB_le (p : Ex → Bool) (l : List Ex) : cntB p l ≤ l.length := List.countP_le_length
theorem cntB_next {p : Ex → Bool} {l : List Ex} {k : Nat} (hk : k < l.length) : cntB p (l.take (k + 1)) = cntB p (l.take k) + (if p l[k] = true then 1 else 0) := by
  unfold cntB
  rw [List.take_add_one, List.getElem?_eq_getElem hk, List.countP_append]
  simp [List.countP_cons]
set_option maxHeartbeats 4000000 in
theorem refBare_any (w : World) (g : Nat) (nv av ev kv : Value) (gs : List RX) (f : Nat → Bool) (hG : GR w g nv av ev gs) (hK : RowB w kv gs.length f) (e : Ex) : Tree w AnyB e → OkX e → unkX (unR (rlX gs)) e = -1 → Calls Try.prog 34 #[.pointer (some ⟨g, 0, none⟩), ptrX e, kv] w fun x w' => x = .returned (.bool (bareX (knF (rlX gs) f) e)) ∧ w' = w := by
  refine Ex.ind (P := fun e => Tree w AnyB e → OkX e → unkX (unR (rlX gs)) e = -1 → Calls Try.prog 34 #[.pointer (some ⟨g, 0, none⟩), ptrX e, kv] w fun x w' => x = .returned (.bool (bareX (knF (rlX gs) f) e)) ∧ w' = w) (fun e ih ht ho hu => ?_) e
  rw [Tree_iff] at ht
  obtain ⟨_, ⟨lv, hb, hrow⟩, hk⟩ := ht
  have ho' := (OkX_iff e).1 ho
  obtain ⟨hu1, hu2⟩ := unkX_kids hu ho
  have c0 := hb.c0
  have c1 := hb.c1
  have c2 := hb.c2
  have hlt := hb.lt
  have hopc : e.op = 0 ∨ e.op = 1 ∨ e.op = 2 ∨ (e.op = 3 ∨ e.op = 7 ∨ e.op = 8 ∨ e.op = 9 ∨ e.op = 11) ∨ e.op = 6 ∨ (e.op = 4 ∨ e.op = 5 ∨ e.op = 10) := by
    have := ho'.op
    omega
  have HBd := hide (bareX_def (knF (rlX gs) f) e)
  obtain ⟨ko, kc, rfl⟩ := RowIn.shape hK
  obtain ⟨ao, cp, rfl⟩ := hrow.shape
  have hfew := hrow.few
  unfold maxLen at hfew
  have HR := hide hrow
  have HKn := hide hK
  have HG := hide hG
  have HI := hide (fun k hk' => ih k hk' (hk k hk') (ho'.kids k hk') (hu1 k hk'))
  clear hb hrow hk ih hG hK hu hu1
  unfold ptrX
  rcases hopc with h | h | h | h | h | h
  · have hop : opW e.op = ⟨#[119, 111, 114, 100]⟩ := by rw [h]; rfl
    rw [hop] at c0
    have HRes : Hid (bareX (knF (rlX gs) f) e = e.str.toList.isEmpty) := by
      unfold Hid
      rw [unhide HBd, h]
      simp
    have HE : Hid ((e.str.toList == []) = e.str.toList.isEmpty) := by
      unfold Hid
      cases e.str.toList <;> rfl
    clear h
    go_enter Try.func34, Try.ntmps34
    go_wp2
    go_ret
    exact ⟨by rw [unhide HRes, ← unhide HE]; rfl, rfl⟩
  · have hop : opW e.op = ⟨#[115, 101, 116]⟩ := by rw [h]; rfl
    rw [hop] at c0
    have HRes : Hid (bareX (knF (rlX gs) f) e = false) := by
      unfold Hid
      rw [unhide HBd, h]
      simp
    clear h
    go_enter Try.func34, Try.ntmps34
    go_wp2
    go_ret
    exact ⟨by rw [unhide HRes]; rfl, rfl⟩
  · have hop : opW e.op = ⟨#[114, 117, 108, 101]⟩ := by rw [h]; rfl
    rw [hop] at c0
    have hun := hu2 h
    unfold unR at hun
    have hfr := findF_range (rlX gs) e.str
    rw [rlX_len] at hfr
    have hge : 0 ≤ findF (rlX gs) e.str := by simpa using hun
    obtain ⟨m, hm⟩ : ∃ m : Nat, findF (rlX gs) e.str = m := ⟨(findF (rlX gs) e.str).toNat, by omega⟩
    have HRes : Hid (bareX (knF (rlX gs) f) e = f m) := by
      unfold Hid
      rw [unhide HBd, h]
      simp [knF, hm]
    have hml : m < gs.length := by omega
    have hmi : (m : Int) < gs.length := by omega
    have HRu := hide (Rule_any w g nv av ev gs e.str (unhide HG))
    rw [hm] at HRu
    obtain ⟨B, cap, hv, hc, hf, _, _, hB⟩ := (unhide HKn).at hml
    injection hv with hv1 _ hv2
    subst hv1
    subst hv2
    clear h hun hfr hge hm
    go_enter Try.func34, Try.ntmps34
    go_wp2_with fail
    go_at_call 30
    refine (unhide HRu).mono ?_
    rintro x w2 ⟨rfl, hw2⟩
    replace hw2 := hw2.symm
    subst hw2
    go_wp2
    go_ret
    exact ⟨by rw [unhide HRes]; rfl, rfl⟩
  · rcases h with h | h | h | h | h
    · have hop : opW e.op = ⟨#[112, 108, 97, 99, 101]⟩ := by rw [h]; rfl
      rw [hop] at c0
      have HRes : Hid (bareX (knF (rlX gs) f) e = true) := by
        unfold Hid
        rw [unhide HBd, h]
        simp
      clear h
      go_enter Try.func34, Try.ntmps34
      go_wp2
      go_ret
      exact ⟨by rw [unhide HRes]; rfl, rfl⟩
    · have hop : opW e.op = ⟨#[38]⟩ := by rw [h]; rfl
      rw [hop] at c0
      have HRes : Hid (bareX (knF (rlX gs) f) e = true) := by
        unfold Hid
        rw [unhide HBd, h]
        simp
      clear h
      go_enter Try.func34, Try.ntmps34
      go_wp2
      go_ret
      exact ⟨by rw [unhide HRes]; rfl, rfl⟩
    · have hop : opW e.op = ⟨#[33]⟩ := by rw [h]; rfl
      rw [hop] at c0
      have HRes : Hid (bareX (knF (rlX gs) f) e = true) := by
        unfold Hid
        rw [unhide HBd, h]
        simp
      clear h
      go_enter Try.func34, Try.ntmps34
      go_wp2
      go_ret
      exact ⟨by rw [unhide HRes]; rfl, rfl⟩
    · have hop : opW e.op = ⟨#[42]⟩ := by rw [h]; rfl
      rw [hop] at c0
      have HRes : Hid (bareX (knF (rlX gs) f) e = true) := by
        unfold Hid
        rw [unhide HBd, h]
        simp
      clear h
      go_enter Try.func34, Try.ntmps34
      go_wp2
      go_ret
      exact ⟨by rw [unhide HRes]; rfl, rfl⟩
    · have hop : opW e.op = ⟨#[63]⟩ := by rw [h]; rfl
      rw [hop] at c0
      have HRes : Hid (bareX (knF (rlX gs) f) e = true) := by
        unfold Hid
        rw [unhide HBd, h]
        simp
      clear h
      go_enter Try.func34, Try.ntmps34
      go_wp2
      go_ret
      exact ⟨by rw [unhide HRes]; rfl, rfl⟩
  · have hop : opW e.op = ⟨#[47]⟩ := by rw [h]; rfl
    rw [hop] at c0
    have HRes : Hid (bareX (knF (rlX gs) f) e = e.kids.any (bareX (knF (rlX gs) f))) := by
      unfold Hid
      rw [unhide HBd, h]
      simp
    clear h
    go_enter Try.func34, Try.ntmps34
    go_wp2
    go_loopw [7, 45] (fun n i wr => ∃ k : Nat, k ≤ e.kids.length ∧ n = .int .i64 (cntB (bareX (knF (rlX gs) f)) (e.kids.take k)) ∧ i = .int .i64 k ∧ SameW wr w) (fun _ i _ => e.kids.length - (intOf i).toNat)
    case atStart => exact ⟨0, Nat.zero_le _, rfl, rfl, rfl⟩
    case round =>
      obtain ⟨k, hk, rfl, rfl, HW⟩ := hrel
      have hw : w = wr := Eq.symm HW
      subst hw
      clear HW
      by_cases hk2 : k < e.kids.length
      · have hki : (k : Int) < e.kids.length := by omega
        have hmem : e.kids[k] ∈ e.kids := List.getElem_mem hk2
        obtain ⟨B, cap, hv, _, hc, hf, _, _, _, hB⟩ := (unhide HR).at (i := k) (u := ptrX e.kids[k]) (by rw [List.getElem?_map, List.getElem?_eq_getElem hk2]; rfl)
        injection hv with hv1 _ hv2
        subst hv1
        subst hv2
        have hnx := cntB_next (p := bareX (knF (rlX gs) f)) hk2
        have hcl := cntB_le (bareX (knF (rlX gs) f)) (e.kids.take k)
        have htl : (e.kids.take k).length ≤ k := by rw [List.length_take]; omega
        have HC := hide (unhide HI e.kids[k] hmem)
        unfold ptrX at hc HC
        generalize hcn : cntB (bareX (knF (rlX gs) f)) (e.kids.take k) = cn at hnx hcl ⊢
        have HNx := hide hnx
        cases hbk : bareX (knF (rlX gs) f) e.kids[k]
        · rw [hbk] at HC HNx
          clear hnx hcn hbk
          go_wp2_with fail
          go_at_call 34
          refine (unhide HC).mono ?_
          rintro x w2 ⟨rfl, hw2⟩
          replace hw2 := hw2.symm
          subst hw2
          go_wp2_with fail
          go_roundw
          case rel => exact ⟨k + 1, by omega, by rw [unhide HNx]; simp, by go_num, rfl⟩
          case measure => simp [intOf]; omega
        · rw [hbk] at HC HNx
          clear hnx hcn hbk
          go_wp2_with fail
          go_at_call 34
          refine (unhide HC).mono ?_
          rintro x w2 ⟨rfl, hw2⟩
          replace hw2 := hw2.symm
          subst hw2
          go_wp2_with fail
          go_roundw
          case rel => exact ⟨k + 1, by omega, by rw [unhide HNx]; go_num, by go_num, rfl⟩
          case measure => simp [intOf]; omega
      · have hki : ¬ (k : Int) < e.kids.length := by omega
        have hke : k = e.kids.length := by omega
        subst hke
        rw [List.take_length]
        have HCA := hide (cntB_any (bareX (knF (rlX gs) f)) e.kids)
        go_wp2
        go_ret
        refine ⟨?_, rfl⟩
        rw [unhide HRes, ← unhide HCA]
        rfl
  · rcases h with h | h | h
    · have hop : opW e.op = ⟨#[99, 97, 116, 99, 104]⟩ := by rw [h]; rfl
      rw [hop] at c0
      have HRes : Hid (bareX (knF (rlX gs) f) e = e.kids.all (bareX (knF (rlX gs) f))) := by
        unfold Hid
        rw [unhide HBd, h]
        simp
      clear h
      go_enter Try.func34, Try.ntmps34
      go_wp2
      go_loopw [7, 45] (fun n i wr => ∃ k : Nat, k ≤ e.kids.length ∧ n = .int .i64 (cntB (bareX (knF (rlX gs) f)) (e.kids.take k)) ∧ i = .int .i64 k ∧ SameW wr w) (fun _ i _ => e.kids.length - (intOf i).toNat)
      case atStart => exact ⟨0, Nat.zero_le _, rfl, rfl, rfl⟩
      case round =>
        obtain ⟨k, hk, rfl, rfl, HW⟩ := hrel
        have hw : w = wr := Eq.symm HW
        subst hw
        clear HW
        by_cases hk2 : k < e.kids.length
        · have hki : (k : Int) < e.kids.length := by omega
          have hmem : e.kids[k] ∈ e.kids := List.getElem_mem hk2
          obtain ⟨B, cap, hv, _, hc, hf, _, _, _, hB⟩ := (unhide HR).at (i := k) (u := ptrX e.kids[k]) (by rw [List.getElem?_map, List.getElem?_eq_getElem hk2]; rfl)
          injection hv with hv1 _ hv2
          subst hv1
          subst hv2
          have hnx := cntB_next (p := bareX (knF (rlX gs) f)) hk2
          have hcl := cntB_le (bareX (knF (rlX gs) f)) (e.kids.take k)
          have htl : (e.kids.take k).length ≤ k := by rw [List.length_take]; omega
          have HC := hide (unhide HI e.kids[k] hmem)
          unfold ptrX at hc HC
          generalize hcn : cntB (bareX (knF (rlX gs) f)) (e.kids.take k) = cn at hnx hcl ⊢
          have HNx := hide hnx
          cases hbk : bareX (knF (rlX gs) f) e.kids[k]
          · rw [hbk] at HC HNx
            clear hnx hcn hbk
            go_wp2_with fail
            go_at_call 34
            refine (unhide HC).mono ?_
            rintro x w2 ⟨rfl, hw2⟩
            replace hw2 := hw2.symm
            subst hw2
            go_wp2_with fail
            go_roundw
            case rel => exact ⟨k + 1, by omega, by rw [unhide HNx]; simp, by go_num, rfl⟩
            case measure => simp [intOf]; omega
          · rw [hbk] at HC HNx
            clear hnx hcn hbk
            go_wp2_with fail
            go_at_call 34
            refine (unhide HC).mono ?_
            rintro x w2 ⟨rfl, hw2⟩
            replace hw2 := hw2.symm
            subst hw2
            go_wp2_with fail
            go_roundw
            case rel => exact ⟨k + 1, by omega, by rw [unhide HNx]; go_num, by go_num, rfl⟩
            case measure => simp [intOf]; omega
        · have hki : ¬ (k : Int) < e.kids.length := by omega
          have hke : k = e.kids.length := by omega
          subst hke
          rw [List.take_length]
          have HCA := hide (cntB_all (bareX (knF (rlX gs) f)) e.kids)
          go_wp2
          go_ret
          refine ⟨?_, rfl⟩
          rw [unhide HRes, ← unhide HCA]
          rfl
    · have hop : opW e.op = ⟨#[114, 111, 119]⟩ := by rw [h]; rfl
      rw [hop] at c0
      have HRes : Hid (bareX (knF (rlX gs) f) e = e.kids.all (bareX (knF (rlX gs) f))) := by
        unfold Hid
        rw [unhide HBd, h]
        simp
      clear h
      go_enter Try.func34, Try.ntmps34
      go_wp2
      go_loopw [7, 45] (fun n i wr => ∃ k : Nat, k ≤ e.kids.length ∧ n = .int .i64 (cntB (bareX (knF (rlX gs) f)) (e.kids.take k)) ∧ i = .int .i64 k ∧ SameW wr w) (fun _ i _ => e.kids.length - (intOf i).toNat)
      case atStart => exact ⟨0, Nat.zero_le _, rfl, rfl, rfl⟩
      case round =>
        obtain ⟨k, hk, rfl, rfl, HW⟩ := hrel
        have hw : w = wr := Eq.symm HW
        subst hw
        clear HW
        by_cases hk2 : k < e.kids.length
        · have hki : (k : Int) < e.kids.length := by omega
          have hmem : e.kids[k] ∈ e.kids := List.getElem_mem hk2
          obtain ⟨B, cap, hv, _, hc, hf, _, _, _, hB⟩ := (unhide HR).at (i := k) (u := ptrX e.kids[k]) (by rw [List.getElem?_map, List.getElem?_eq_getElem hk2]; rfl)
          injection hv with hv1 _ hv2
          subst hv1
          subst hv2
          have hnx := cntB_next (p := bareX (knF (rlX gs) f)) hk2
          have hcl := cntB_le (bareX (knF (rlX gs) f)) (e.kids.take k)
          have htl : (e.kids.take k).length ≤ k := by rw [List.length_take]; omega
          have HC := hide (unhide HI e.kids[k] hmem)
          unfold ptrX at hc HC
          generalize hcn : cntB (bareX (knF (rlX gs) f)) (e.kids.take k) = cn at hnx hcl ⊢
          have HNx := hide hnx
          cases hbk : bareX (knF (rlX gs) f) e.kids[k]
          · rw [hbk] at HC HNx
            clear hnx hcn hbk
            go_wp2_with fail
            go_at_call 34
            refine (unhide HC).mono ?_
            rintro x w2 ⟨rfl, hw2⟩
            replace hw2 := hw2.symm
            subst hw2
            go_wp2_with fail
            go_roundw
            case rel => exact ⟨k + 1, by omega, by rw [unhide HNx]; simp, by go_num, rfl⟩
            case measure => simp [intOf]; omega
          · rw [hbk] at HC HNx
            clear hnx hcn hbk
            go_wp2_with fail
            go_at_call 34
            refine (unhide HC).mono ?_
            rintro x w2 ⟨rfl, hw2⟩
            replace hw2 := hw2.symm
            subst hw2
            go_wp2_with fail
            go_roundw
            case rel => exact ⟨k + 1, by omega, by rw [unhide HNx]; go_num, by go_num, rfl⟩
            case measure => simp [intOf]; omega
        · have hki : ¬ (k : Int) < e.kids.length := by omega
          have hke : k = e.kids.length := by omega
          subst hke
          rw [List.take_length]
          have HCA := hide (cntB_all (bareX (knF (rlX gs) f)) e.kids)
          go_wp2
          go_ret
          refine ⟨?_, rfl⟩
          rw [unhide HRes, ← unhide HCA]
          rfl
    · have hop : opW e.op = ⟨#[43]⟩ := by rw [h]; rfl
      rw [hop] at c0
      have HRes : Hid (bareX (knF (rlX gs) f) e = e.kids.all (bareX (knF (rlX gs) f))) := by
        unfold Hid
        rw [unhide HBd, h]
        simp
      clear h
      go_enter Try.func34, Try.ntmps34
      go_wp2
      go_loopw [7, 45] (fun n i wr => ∃ k : Nat, k ≤ e.kids.length ∧ n = .int .i64 (cntB (bareX (knF (rlX gs) f)) (e.kids.take k)) ∧ i = .int .i64 k ∧ SameW wr w) (fun _ i _ => e.kids.length - (intOf i).toNat)
      case atStart => exact ⟨0, Nat.zero_le _, rfl, rfl, rfl⟩
      case round =>
        obtain ⟨k, hk, rfl, rfl, HW⟩ := hrel
        have hw : w = wr := Eq.symm HW
        subst hw
        clear HW
        by_cases hk2 : k < e.kids.length
        · have hki : (k : Int) < e.kids.length := by omega
          have hmem : e.kids[k] ∈ e.kids := List.getElem_mem hk2
          obtain ⟨B, cap, hv, _, hc, hf, _, _, _, hB⟩ := (unhide HR).at (i := k) (u := ptrX e.kids[k]) (by rw [List.getElem?_map, List.getElem?_eq_getElem hk2]; rfl)
          injection hv with hv1 _ hv2
          subst hv1
          subst hv2
          have hnx := cntB_next (p := bareX (knF (rlX gs) f)) hk2
          have hcl := cntB_le (bareX (knF (rlX gs) f)) (e.kids.take k)
          have htl : (e.kids.take k).length ≤ k := by rw [List.length_take]; omega
          have HC := hide (unhide HI e.kids[k] hmem)
          unfold ptrX at hc HC
          generalize hcn : cntB (bareX (knF (rlX gs) f)) (e.kids.take k) = cn at hnx hcl ⊢
          have HNx := hide hnx
          cases hbk : bareX (knF (rlX gs) f) e.kids[k]
          · rw [hbk] at HC HNx
            clear hnx hcn hbk
            go_wp2_with fail
            go_at_call 34
            refine (unhide HC).mono ?_
            rintro x w2 ⟨rfl, hw2⟩
            replace hw2 := hw2.symm
            subst hw2
            go_wp2_with fail
            go_roundw
            case rel => exact ⟨k + 1, by omega, by rw [unhide HNx]; simp, by go_num, rfl⟩
            case measure => simp [intOf]; omega
          · rw [hbk] at HC HNx
            clear hnx hcn hbk
            go_wp2_with fail
            go_at_call 34
            refine (unhide HC).mono ?_
            rintro x w2 ⟨rfl, hw2⟩
            replace hw2 := hw2.symm
            subst hw2
            go_wp2_with fail
            go_roundw
            case rel => exact ⟨k + 1, by omega, by rw [unhide HNx]; go_num, by go_num, rfl⟩
            case measure => simp [intOf]; omega
        · have hki : ¬ (k : Int) < e.kids.length := by omega
          have hke : k = e.kids.length := by omega
          subst hke
          rw [List.take_length]
          have HCA := hide (cntB_all (bareX (knF (rlX gs) f)) e.kids)
          go_wp2
          go_ret
          refine ⟨?_, rfl⟩
          rw [unhide HRes, ← unhide HCA]
          rfl
end Go.Proofs.Ytbojcemamhiodaa

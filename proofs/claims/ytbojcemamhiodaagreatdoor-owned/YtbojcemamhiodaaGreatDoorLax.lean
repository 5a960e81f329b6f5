import Derived.Test.YtbojcemamhiodaaGreatDoorXps
import Derived.Test.YtbojcemamhiodaaGreatDoorRyg
import Derived.Laws.AppendOwnNone
import Derived.OwnWalk
namespace Go.Proofs.YtbojcemamhiodaaGreatDoor
open Go.RowKit
theorem RowIn.shape {w : World} {S : Nat → Prop} {e : TypeId} {size : Nat} {v : Value} {n : Nat} {xs : List Value} (h : RowIn w S e size v n xs) : ∃ ao cp, v = .slice ao n cp := by
  rcases h.2 with ⟨h2, h3⟩ | ⟨g, cap, cur, h2, _⟩
  · exact ⟨none, 0, by rw [h2, h3]⟩
  · exact ⟨_, cap, h2⟩
theorem RowIn.few {w : World} {S : Nat → Prop} {e : TypeId} {size : Nat} {v : Value} {n : Nat} {xs : List Value} (h : RowIn w S e size v n xs) : n ≤ maxLen := by
  rcases h.2 with ⟨h2, h3⟩ | ⟨g, cap, cur, h2, _, _, h3, h4, _⟩
  · rw [h3]; exact Nat.zero_le _
  · omega
theorem RowIn.at {w : World} {S : Nat → Prop} {e : TypeId} {v : Value} {n : Nat} {xs : List Value} (h : RowIn w S e 1 v n xs) {i : Nat} {u : Value} (hi : xs[i]? = some u) :
    ∃ B cap, v = .slice (some ⟨B, 0, none⟩) n cap ∧ S B ∧ w.cell? ⟨B, i, none⟩ = some u ∧ (∀ o, w.frozen? ⟨B, o, none⟩ = false) ∧ i < n ∧ n ≤ cap ∧ cap ≤ maxLen ∧ B < w.heap.size := by
  have hil := (List.getElem?_eq_some_iff.1 hi).1
  obtain ⟨hl, h2⟩ := h
  rcases h2 with ⟨h2, h3⟩ | ⟨g, cap, cur, h2, hS, hh, h3, h4, h5, h6⟩
  · omega
  · refine ⟨g, cap, h2, hS, ?_, fun o => ?_, by omega, h3, h4, (Array.getElem?_eq_some_iff.1 hh).1⟩
    · rw [← h6, List.getElem?_take, if_pos (by omega)] at hi
      simp only [World.cell?, hh]
      simpa using hi
    · simp [World.frozen?, hh]
theorem RowIn.below {w w' : World} {S : Nat → Prop} {e : TypeId} {size : Nat} {v : Value} {n : Nat} {xs : List Value} (h : RowIn w S e size v n xs) (hb : Below w.heap.size w w') : RowIn w' S e size v n xs := h.turn fun b hS hz => ⟨hS, hb.block b hz⟩
def AnyB (_ : Nat) : Prop := True
def SameW (a b : World) : Prop := a = b
theorem RowIn.any {w : World} {S : Nat → Prop} {e : TypeId} {size : Nat} {v : Value} {n : Nat} {xs : List Value} (h : RowIn w S e size v n xs) : RowIn w AnyB e size v n xs := h.turn fun _ _ _ => ⟨trivial, rfl⟩
theorem Tree.any {w : World} {S : Nat → Prop} {e : Ex} (h : Tree w S e) : Tree w AnyB e := Tree.turn (fun _ _ _ => ⟨trivial, rfl⟩) e h
/-- a grammar of pegref as it lies in memory -/
structure GR (w : World) (g : Nat) (nv av ev : Value) (gs : List RX) : Prop where
  blk : w.heap[g]? = some (.cells #[nv, av, ev] 32)
  names : RowIn w AnyB 9 1 nv gs.length (gs.map fun x => .string x.name)
  ats : RowIn w AnyB 3 1 av gs.length (gs.map fun x => .int .i64 x.at_)
  exps : RowIn w AnyB 61 1 ev gs.length (gs.map fun x => ptrX x.ex)
  trees : ∀ x ∈ gs, Tree w AnyB x.ex
theorem GR.below {w w' : World} {g : Nat} {nv av ev : Value} {gs : List RX} (h : GR w g nv av ev gs) (hb : Below w.heap.size w w') : GR w' g nv av ev gs :=
  ⟨(hb.block g (Array.getElem?_eq_some_iff.1 h.blk).1).trans h.blk, h.names.below hb, h.ats.below hb, h.exps.below hb, fun x hx => (h.trees x hx).below hb⟩
theorem GR.cells {w : World} {g : Nat} {nv av ev : Value} {gs : List RX} (h : GR w g nv av ev gs) : w.cell? ⟨g, 0, none⟩ = some nv ∧ w.cell? ⟨g, 1, none⟩ = some av ∧ w.cell? ⟨g, 2, none⟩ = some ev ∧ g < w.heap.size := by
  refine ⟨?_, ?_, ?_, (Array.getElem?_eq_some_iff.1 h.blk).1⟩
  all_goals simp [World.cell?, h.blk]
theorem rlX_len (gs : List RX) : (rlX gs).length = gs.length := by simp [rlX]
set_option maxHeartbeats 1000000 in
theorem Rule_any (w : World) (g : Nat) (nv av ev : Value) (gs : List RX) (nm : ByteArray) (h : GR w g nv av ev gs) :
    Calls Tryz.prog 63 #[.pointer (some ⟨g, 0, none⟩), .string nm] w fun e w' => e = .returned (.int .i64 (findF (rlX gs) nm)) ∧ w' = w := by
  obtain ⟨c0, _, _, hlt⟩ := h.cells
  obtain ⟨ao, cp, rfl⟩ := h.names.shape
  have hfew := h.names.few
  unfold maxLen at hfew
  have HN := hide h.names
  clear h
  go_enter Tryz.func63, Tryz.ntmps63
  go_wp2
  go_loop [12] (fun i => ∃ k : Nat, k ≤ gs.length ∧ i = .int .i64 k ∧ Hid (findF (rlX gs) nm = findFrom ((rlX gs).drop k) k nm)) (fun i => gs.length - (intOf i).toNat)
  case atStart => exact ⟨0, Nat.zero_le _, rfl, rfl⟩
  case round =>
    obtain ⟨k, hk, rfl, HS⟩ := hrel
    by_cases hk2 : k < gs.length
    · have hki : (k : Int) < gs.length := by omega
      obtain ⟨B, cap, hv, _, hc, hf, _, _, _, hB⟩ := (unhide HN).at (i := k) (u := .string gs[k].name) (by rw [List.getElem?_map, List.getElem?_eq_getElem hk2]; rfl)
      injection hv with hv1 _ hv2
      subst hv1
      subst hv2
      have hd : (rlX gs).drop k = gs[k].rl :: (rlX gs).drop (k + 1) := by
        rw [List.drop_eq_getElem_cons (by rw [rlX_len]; exact hk2)]
        simp [rlX]
      cases hx : (gs[k].name.toList == nm.toList)
      · have HE : Hid (findF (rlX gs) nm = findFrom ((rlX gs).drop (k + 1)) (k + 1 : Nat) nm) := by
          refine (unhide HS).trans ?_
          rw [hd, findFrom, if_neg (by show ¬ (gs[k].name.toList == nm.toList) = true; simp [hx])]
          rfl
        clear hd
        go_wp2
        go_round
        case rel => exact ⟨k + 1, by omega, by go_num, HE⟩
        case measure => simp [intOf]; omega
      · have HE : Hid (findF (rlX gs) nm = k) := by
          refine (unhide HS).trans ?_
          rw [hd, findFrom, if_pos (show (gs[k].rl.name.toList == nm.toList) = true from hx)]
        clear hd
        go_wp2
        go_ret
        exact ⟨ret_int (unhide HE).symm, rfl⟩
    · have hki : ¬ (k : Int) < gs.length := by omega
      have HE : Hid (findF (rlX gs) nm = -1) := by
        refine (unhide HS).trans ?_
        rw [List.drop_eq_nil_of_le (by rw [rlX_len]; omega)]; rfl
      go_wp2
      go_ret
      exact ⟨ret_int (unhide HE).symm, rfl⟩
end Go.Proofs.YtbojcemamhiodaaGreatDoor
namespace Go.Proofs.YtbojcemamhiodaaGreatDoor
open Go.RowKit
theorem szL_take (l : List Ex) : ∀ k, szL (l.take k) ≤ szL l := by
  induction l with
  | nil => intro k; simp
  | cons e l ih =>
    intro k
    cases k with
    | zero => simp [szL]
    | succ k => rw [List.take_succ_cons, szL_cons, szL_cons]; have := ih k; omega
theorem allL_len : ∀ l : List Ex, (l.map allX).flatten.length = szL l
  | [] => rfl
  | e :: l => by rw [List.map_cons, List.flatten_cons, List.length_append, allX_len, allL_len l, szL_cons]
/-- all parts of expressions, as they lie in memory -/
def allV (l : List Ex) : List Value := (l.map allX).flatten.map ptrX
def allE (e : Ex) : List Value := (allX e).map ptrX
theorem allE_one (e : Ex) : ∀ u ∈ allE e, u.oneCell' = true := by
  intro u hu
  unfold allE at hu
  rw [List.mem_map] at hu
  obtain ⟨y, _, rfl⟩ := hu
  rfl
/-- what all answers -/
def OutA (w : World) (e : Ex) (x : Ending) (w' : World) : Prop := ∃ v, x = .returned v ∧ w'.ownsRow w.heap.size 61 1 v (allX e).length (allE e) ∧ Below w.heap.size w w'
theorem infoPtrX : (Tryz.prog.info? 61).map (fun i => (i.zero, i.size, i.bytes)) = some (some (.pointer none), 1, 8) := by kernel_rfl
theorem own_some {w : World} {base : Nat} {e : TypeId} {size : Nat} {v : Value} {n : Nat} {xs : List Value} (h : w.ownsRow base e size v n xs) (hn : n ≠ 0) : ∃ g cap, v = .slice (some ⟨g, 0, none⟩) n cap ∧ base ≤ g := by
  rcases h.2 with ⟨_, h3⟩ | ⟨g, cap, cur, h2, h3, _⟩
  · exact absurd h3 hn
  · exact ⟨g, cap, h2, h3⟩
set_option maxRecDepth 4000 in
set_option maxHeartbeats 1000000 in
theorem all_any (e : Ex) : ∀ w : World, Tree w AnyB e → szX e ≤ 1000000 → Calls Tryz.prog 64 #[ptrX e] w (OutA w e) := by
  refine Ex.ind (P := fun e => ∀ w : World, Tree w AnyB e → szX e ≤ 1000000 → Calls Tryz.prog 64 #[ptrX e] w (OutA w e)) (fun e ih w ht hz => ?_) e
  have HT := hide ht
  rw [Tree_iff] at ht
  obtain ⟨_, ⟨lv, hb, hrow⟩, hk⟩ := ht
  have c1 := hb.c1
  have hlt := hb.lt
  have hsz := szX_def e
  have hlen := allX_len e
  obtain ⟨ao, cp, rfl⟩ := hrow.shape
  have hfew := hrow.few
  unfold maxLen at hfew
  have HR := hide hrow
  have HK := hide hk
  have HI := hide ih
  have HL := hide (show allE e = allV e.kids ++ [ptrX e] by unfold allE allV; rw [allX_def, List.map_append]; rfl)
  obtain ⟨ti, hi, hzi, hs1, hby⟩ := info_parts infoPtrX
  clear hb hrow hk ih
  unfold ptrX at HL ⊢
  go_enter Tryz.func64, Tryz.ntmps64
  go_wp2
  go_loopw [3, 11] (fun v i wr => ∃ (k : Nat) (a1 : Option Addr) (n1 p1 : Nat), k ≤ e.kids.length ∧ v = .slice a1 n1 p1 ∧ i = .int .i64 k ∧ Hid (n1 = szL (e.kids.take k) ∧ wr.ownsRow w.heap.size 61 1 (.slice a1 n1 p1) n1 (allV (e.kids.take k))) ∧ Hid (Below w.heap.size w wr)) (fun _ i _ => e.kids.length - (intOf i).toNat)
  case atStart => exact ⟨0, none, 0, 0, Nat.zero_le _, rfl, rfl, ⟨rfl, World.ownsRow_nil _ _ _ _⟩, Below.refl _ _⟩
  case round =>
    obtain ⟨k, a1, n1, p1, hk, rfl, rfl, HO, HB⟩ := hrel
    have hzb := (unhide HB).size
    by_cases hk2 : k < e.kids.length
    · have hki : (k : Int) < e.kids.length := by omega
      have hmem : e.kids[k] ∈ e.kids := List.getElem_mem hk2
      obtain ⟨B, cap, hv, _, hc, hf, _, _, _, hB⟩ := ((unhide HR).below (unhide HB)).at (i := k) (u := ptrX e.kids[k]) (by rw [List.getElem?_map, List.getElem?_eq_getElem hk2]; rfl)
      injection hv with hv1 _ hv2
      subst hv1
      subst hv2
      have htk : e.kids.take (k + 1) = e.kids.take k ++ [e.kids[k]] := by rw [List.take_add_one, List.getElem?_eq_getElem hk2]; rfl
      have hsum : szL (e.kids.take (k + 1)) = szL (e.kids.take k) + szX e.kids[k] := by rw [htk]; unfold szL; rw [List.map_append, List.sum_append]; simp
      have hle := szL_take e.kids (k + 1)
      have hbd : n1 + szX e.kids[k] ≤ 1000000 ∧ n1 + szX e.kids[k] = szL (e.kids.take (k + 1)) := by have := (unhide HO).1; omega
      have hbd1 := hbd.1
      have HBD := hide hbd.2
      have HC := hide (unhide HI e.kids[k] hmem wr ((unhide HK _ hmem).below (unhide HB)) (by omega))
      have hpos : szX e.kids[k] ≠ 0 := by rw [szX_def]; omega
      have hlk := allX_len e.kids[k]
      have HFl := hide (show allV (e.kids.take (k + 1)) = allV (e.kids.take k) ++ allE e.kids[k] by unfold allV allE; rw [htk, List.map_append, List.flatten_append, List.map_append]; simp)
      unfold ptrX at hc HC
      clear htk hsum hle hbd hsz hlen
      go_wp2_with fail
      go_at_call 64
      refine (unhide HC).mono ?_
      rintro x w2 ⟨v2, rfl, hown2, hb2⟩
      rw [hlk] at hown2
      obtain ⟨g2, cap2, rfl, hg2⟩ := own_some hown2 hpos
      have HO2 := hide hown2
      have HB2 := hide hb2
      have hz2 := hb2.size
      have HO1 := hide (own_below (unhide HO).2 hb2)
      have hlt1 := hide ((unhide HO).2.lt)
      clear hown2 hb2
      go_wp2_with (first | (at_builtin; refine wpList_append2 w2 rfl (.tmp 15) (.tmp 17) 30 rfl w.heap.size 61 ti _ 1 8 Tryz.underlying30 hi hzi hs1 hby rfl (by omega) (.slice a1 n1 p1) n1 _ rfl (unhide HO1) ⟨g2, 0, none⟩ (szX e.kids[k]) cap2 (by omega) _ rfl (unhide HO2).1 ((unhide HO2).cells rfl) (allE_one _) (by unfold maxLen; omega) (by omega) (by omega) ?_) | go_in)
      intro v3 w3 hown3 hgr3 hat3
      obtain ⟨a3, c3, rfl⟩ := own_shape hown3
      have HO3 : Hid (n1 + szX e.kids[k] = szL (e.kids.take (k + 1)) ∧ w3.ownsRow w.heap.size 61 1 (.slice a3 (n1 + szX e.kids[k]) c3) (n1 + szX e.kids[k]) (allV (e.kids.take (k + 1)))) := ⟨unhide HBD, by rw [unhide HFl]; exact hown3⟩
      have HB3 := hide (((unhide HB).trans ((unhide HB2).mono hzb)).grown hgr3 (by omega) (fun j hj => (unhide hlt1 j hj).1))
      clear hown3 hgr3 hat3
      go_wp2_with fail
      go_roundw
      case rel => exact ⟨k + 1, a3, n1 + szX e.kids[k], c3, by omega, rfl, by go_num, HO3, HB3⟩
      case measure => simp [intOf]; omega
    · have hki : ¬ (k : Int) < e.kids.length := by omega
      have hke : k = e.kids.length := by omega
      have hn1 := (unhide HO).1
      have hown := (unhide HO).2
      rw [hke, List.take_length] at hown hn1
      have hbd1 : n1 ≤ 1000000 := by omega
      have e1 : (allX e).length = n1 + 1 := by omega
      have HE1 := hide e1
      have HO1 := hide hown
      clear hn1 e1 hsz hlen hke
      have hlt1 := hide hown.lt
      clear hown HO
      go_wp2_with (first | (at_builtin; refine wpList_append2 (wr.alloc (.cells #[.pointer (some ⟨e.b, 0, none⟩)] 61)) rfl (.tmp 20) (.tmp 22) 30 rfl w.heap.size 61 ti _ 1 8 Tryz.underlying30 hi hzi hs1 hby rfl (by omega) (.slice a1 n1 p1) n1 _ rfl (own_below (unhide HO1) ((Below.refl _ _).alloc (Nat.le_refl _) _)) ⟨wr.heap.size, 0, none⟩ 1 1 (by omega) [.pointer (some ⟨e.b, 0, none⟩)] rfl rfl ptr_new (by simp; rfl) (by unfold maxLen; omega) (by omega) (by simp; omega) ?_) | go_in)
      intro v3 w3 hown3 hgr3 hat3
      obtain ⟨a3, c3, rfl⟩ := own_shape hown3
      have HO3 := hide hown3
      have HB3 := hide (((unhide HB).alloc hzb _).grown hgr3 (by simp; omega) (fun j hj => (unhide hlt1 j hj).1))
      clear hown3 hgr3 hat3
      go_wp2
      go_ret
      refine ⟨_, rfl, ?_, unhide HB3⟩
      rw [unhide HE1, unhide HL]
      exact unhide HO3
end Go.Proofs.YtbojcemamhiodaaGreatDoor
namespace Go.Proofs.YtbojcemamhiodaaGreatDoor
open Go.RowKit
theorem firstX_none {f : Ex → Int} : ∀ {l : List Ex}, firstX f l = -1 → ∀ e ∈ l, f e = -1
  | [], _, e, he => by simp at he
  | x :: l, h, e, he => by
    rw [firstX] at h
    cases hx : (f x != -1)
    · rw [if_neg (by simp [hx])] at h
      rw [List.mem_cons] at he
      rcases he with rfl | he
      · simpa using hx
      · exact firstX_none h e he
    · rw [if_pos hx] at h
      rw [h] at hx
      simp at hx
theorem unkX_kids {un : ByteArray → Bool} {e : Ex} (h : unkX un e = -1) (ho : OkX e) : (∀ k ∈ e.kids, unkX un k = -1) ∧ (e.op = 2 → un e.str = false) := by
  have h' := (OkX_iff e).1 ho
  rw [unkX_def] at h
  by_cases hc : e.op = 2 ∧ un e.str = true
  · rw [if_pos hc] at h
    have := h'.at0
    omega
  · rw [if_neg hc] at h
    refine ⟨firstX_none h, fun h2 => ?_⟩
    cases hu : un e.str
    · rfl
    · exact absurd ⟨h2, hu⟩ hc
/-- a row of truths -/
def RowB (w : World) (v : Value) (n : Nat) (f : Nat → Bool) : Prop := RowIn w AnyB 4 1 v n ((List.range n).map fun i => Value.bool (f i))
theorem RowB.below {w w' : World} {v : Value} {n : Nat} {f : Nat → Bool} (h : RowB w v n f) (hb : Below w.heap.size w w') : RowB w' v n f := RowIn.below h hb
theorem RowB.at {w : World} {v : Value} {n : Nat} {f : Nat → Bool} (h : RowB w v n f) {i : Nat} (hi : i < n) :
    ∃ B cap, v = .slice (some ⟨B, 0, none⟩) n cap ∧ w.cell? ⟨B, i, none⟩ = some (.bool (f i)) ∧ (∀ o, w.frozen? ⟨B, o, none⟩ = false) ∧ n ≤ cap ∧ cap ≤ maxLen ∧ B < w.heap.size := by
  obtain ⟨B, cap, h1, _, h2, h3, _, h4, h5, h6⟩ := RowIn.at h (i := i) (u := .bool (f i)) (by simp [hi])
  exact ⟨B, cap, h1, h2, h3, h4, h5, h6⟩
def cntB (p : Ex → Bool) (l : List Ex) : Nat := l.countP p
theorem cntB_all (p : Ex → Bool) (l : List Ex) : ((cntB p l : Int) == (l.length : Int)) = l.all p := by
  unfold cntB
  rw [Bool.eq_iff_iff, List.all_eq_true, ← List.countP_eq_length, beq_iff_eq]
  omega
theorem cntB_any (p : Ex → Bool) (l : List Ex) : decide (0 < cntB p l) = l.any p := by
  unfold cntB
  rw [Bool.eq_iff_iff, List.any_eq_true, decide_eq_true_iff, ← List.countP_pos_iff]
theorem cntB_le (p : Ex → Bool) (l : List Ex) : cntB p l ≤ l.length := List.countP_le_length
theorem cntB_next {p : Ex → Bool} {l : List Ex} {k : Nat} (hk : k < l.length) : cntB p (l.take (k + 1)) = cntB p (l.take k) + (if p l[k] = true then 1 else 0) := by
  unfold cntB
  rw [List.take_add_one, List.getElem?_eq_getElem hk, List.countP_append]
  simp [List.countP_cons]
set_option maxHeartbeats 4000000 in
theorem refBare_any (w : World) (g : Nat) (nv av ev kv : Value) (gs : List RX) (f : Nat → Bool) (hG : GR w g nv av ev gs) (hK : RowB w kv gs.length f) (e : Ex) : Tree w AnyB e → OkX e → unkX (unR (rlX gs)) e = -1 → Calls Tryz.prog 67 #[.pointer (some ⟨g, 0, none⟩), ptrX e, kv] w fun x w' => x = .returned (.bool (bareX (knF (rlX gs) f) e)) ∧ w' = w := by
  refine Ex.ind (P := fun e => Tree w AnyB e → OkX e → unkX (unR (rlX gs)) e = -1 → Calls Tryz.prog 67 #[.pointer (some ⟨g, 0, none⟩), ptrX e, kv] w fun x w' => x = .returned (.bool (bareX (knF (rlX gs) f) e)) ∧ w' = w) (fun e ih ht ho hu => ?_) e
  rw [Tree_iff] at ht
  obtain ⟨_, ⟨lv, hb, hrow⟩, hk⟩ := ht
  have ho' := (OkX_iff e).1 ho
  obtain ⟨hu1, hu2⟩ := unkX_kids hu ho
  have c0 := hb.c0
  have c1 := hb.c1
  have c2 := hb.c2
  have hlt := hb.lt
  have hopc : e.op = 0 ∨ e.op = 1 ∨ e.op = 2 ∨ (e.op = 3 ∨ e.op = 7 ∨ e.op = 8 ∨ e.op = 9 ∨ e.op = 11) ∨ e.op = 6 ∨ (e.op = 4 ∨ e.op = 5 ∨ e.op = 10) := by
    have := ho'.op
    omega
  have HBd := hide (bareX_def (knF (rlX gs) f) e)
  obtain ⟨ko, kc, rfl⟩ := RowIn.shape hK
  obtain ⟨ao, cp, rfl⟩ := hrow.shape
  have hfew := hrow.few
  unfold maxLen at hfew
  have HR := hide hrow
  have HKn := hide hK
  have HG := hide hG
  have HI := hide (fun k hk' => ih k hk' (hk k hk') (ho'.kids k hk') (hu1 k hk'))
  clear hb hrow hk ih hG hK hu hu1
  unfold ptrX
  rcases hopc with h | h | h | h | h | h
  · have hop : opW e.op = ⟨#[119, 111, 114, 100]⟩ := by rw [h]; rfl
    rw [hop] at c0
    have HRes : Hid (bareX (knF (rlX gs) f) e = e.str.toList.isEmpty) := by
      unfold Hid
      rw [unhide HBd, h]
      simp
    have HE : Hid ((e.str.toList == []) = e.str.toList.isEmpty) := by
      unfold Hid
      cases e.str.toList <;> rfl
    clear h
    go_enter Tryz.func67, Tryz.ntmps67
    go_wp2
    go_ret
    exact ⟨by rw [unhide HRes, ← unhide HE]; rfl, rfl⟩
  · have hop : opW e.op = ⟨#[115, 101, 116]⟩ := by rw [h]; rfl
    rw [hop] at c0
    have HRes : Hid (bareX (knF (rlX gs) f) e = false) := by
      unfold Hid
      rw [unhide HBd, h]
      simp
    clear h
    go_enter Tryz.func67, Tryz.ntmps67
    go_wp2
    go_ret
    exact ⟨by rw [unhide HRes]; rfl, rfl⟩
  · have hop : opW e.op = ⟨#[114, 117, 108, 101]⟩ := by rw [h]; rfl
    rw [hop] at c0
    have hun := hu2 h
    unfold unR at hun
    have hfr := findF_range (rlX gs) e.str
    rw [rlX_len] at hfr
    have hge : 0 ≤ findF (rlX gs) e.str := by simpa using hun
    obtain ⟨m, hm⟩ : ∃ m : Nat, findF (rlX gs) e.str = m := ⟨(findF (rlX gs) e.str).toNat, by omega⟩
    have HRes : Hid (bareX (knF (rlX gs) f) e = f m) := by
      unfold Hid
      rw [unhide HBd, h]
      simp [knF, hm]
    have hml : m < gs.length := by omega
    have hmi : (m : Int) < gs.length := by omega
    have HRu := hide (Rule_any w g nv av ev gs e.str (unhide HG))
    rw [hm] at HRu
    obtain ⟨B, cap, hv, hc, hf, _, _, hB⟩ := (unhide HKn).at hml
    injection hv with hv1 _ hv2
    subst hv1
    subst hv2
    clear h hun hfr hge hm
    go_enter Tryz.func67, Tryz.ntmps67
    go_wp2_with fail
    go_at_call 63
    refine (unhide HRu).mono ?_
    rintro x w2 ⟨rfl, hw2⟩
    replace hw2 := hw2.symm
    subst hw2
    go_wp2
    go_ret
    exact ⟨by rw [unhide HRes]; rfl, rfl⟩
  · rcases h with h | h | h | h | h
    · have hop : opW e.op = ⟨#[112, 108, 97, 99, 101]⟩ := by rw [h]; rfl
      rw [hop] at c0
      have HRes : Hid (bareX (knF (rlX gs) f) e = true) := by
        unfold Hid
        rw [unhide HBd, h]
        simp
      clear h
      go_enter Tryz.func67, Tryz.ntmps67
      go_wp2
      go_ret
      exact ⟨by rw [unhide HRes]; rfl, rfl⟩
    · have hop : opW e.op = ⟨#[38]⟩ := by rw [h]; rfl
      rw [hop] at c0
      have HRes : Hid (bareX (knF (rlX gs) f) e = true) := by
        unfold Hid
        rw [unhide HBd, h]
        simp
      clear h
      go_enter Tryz.func67, Tryz.ntmps67
      go_wp2
      go_ret
      exact ⟨by rw [unhide HRes]; rfl, rfl⟩
    · have hop : opW e.op = ⟨#[33]⟩ := by rw [h]; rfl
      rw [hop] at c0
      have HRes : Hid (bareX (knF (rlX gs) f) e = true) := by
        unfold Hid
        rw [unhide HBd, h]
        simp
      clear h
      go_enter Tryz.func67, Tryz.ntmps67
      go_wp2
      go_ret
      exact ⟨by rw [unhide HRes]; rfl, rfl⟩
    · have hop : opW e.op = ⟨#[42]⟩ := by rw [h]; rfl
      rw [hop] at c0
      have HRes : Hid (bareX (knF (rlX gs) f) e = true) := by
        unfold Hid
        rw [unhide HBd, h]
        simp
      clear h
      go_enter Tryz.func67, Tryz.ntmps67
      go_wp2
      go_ret
      exact ⟨by rw [unhide HRes]; rfl, rfl⟩
    · have hop : opW e.op = ⟨#[63]⟩ := by rw [h]; rfl
      rw [hop] at c0
      have HRes : Hid (bareX (knF (rlX gs) f) e = true) := by
        unfold Hid
        rw [unhide HBd, h]
        simp
      clear h
      go_enter Tryz.func67, Tryz.ntmps67
      go_wp2
      go_ret
      exact ⟨by rw [unhide HRes]; rfl, rfl⟩
  · have hop : opW e.op = ⟨#[47]⟩ := by rw [h]; rfl
    rw [hop] at c0
    have HRes : Hid (bareX (knF (rlX gs) f) e = e.kids.any (bareX (knF (rlX gs) f))) := by
      unfold Hid
      rw [unhide HBd, h]
      simp
    clear h
    go_enter Tryz.func67, Tryz.ntmps67
    go_wp2
    go_loopw [7, 45] (fun n i wr => ∃ k : Nat, k ≤ e.kids.length ∧ n = .int .i64 (cntB (bareX (knF (rlX gs) f)) (e.kids.take k)) ∧ i = .int .i64 k ∧ SameW wr w) (fun _ i _ => e.kids.length - (intOf i).toNat)
    case atStart => exact ⟨0, Nat.zero_le _, rfl, rfl, rfl⟩
    case round =>
      obtain ⟨k, hk, rfl, rfl, HW⟩ := hrel
      have hw : w = wr := Eq.symm HW
      subst hw
      clear HW
      by_cases hk2 : k < e.kids.length
      · have hki : (k : Int) < e.kids.length := by omega
        have hmem : e.kids[k] ∈ e.kids := List.getElem_mem hk2
        obtain ⟨B, cap, hv, _, hc, hf, _, _, _, hB⟩ := (unhide HR).at (i := k) (u := ptrX e.kids[k]) (by rw [List.getElem?_map, List.getElem?_eq_getElem hk2]; rfl)
        injection hv with hv1 _ hv2
        subst hv1
        subst hv2
        have hnx := cntB_next (p := bareX (knF (rlX gs) f)) hk2
        have hcl := cntB_le (bareX (knF (rlX gs) f)) (e.kids.take k)
        have htl : (e.kids.take k).length ≤ k := by rw [List.length_take]; omega
        have HC := hide (unhide HI e.kids[k] hmem)
        unfold ptrX at hc HC
        generalize hcn : cntB (bareX (knF (rlX gs) f)) (e.kids.take k) = cn at hnx hcl ⊢
        have HNx := hide hnx
        cases hbk : bareX (knF (rlX gs) f) e.kids[k]
        · rw [hbk] at HC HNx
          clear hnx hcn hbk
          go_wp2_with fail
          go_at_call 67
          refine (unhide HC).mono ?_
          rintro x w2 ⟨rfl, hw2⟩
          replace hw2 := hw2.symm
          subst hw2
          go_wp2_with fail
          go_roundw
          case rel => exact ⟨k + 1, by omega, by rw [unhide HNx]; simp, by go_num, rfl⟩
          case measure => simp [intOf]; omega
        · rw [hbk] at HC HNx
          clear hnx hcn hbk
          go_wp2_with fail
          go_at_call 67
          refine (unhide HC).mono ?_
          rintro x w2 ⟨rfl, hw2⟩
          replace hw2 := hw2.symm
          subst hw2
          go_wp2_with fail
          go_roundw
          case rel => exact ⟨k + 1, by omega, by rw [unhide HNx]; go_num, by go_num, rfl⟩
          case measure => simp [intOf]; omega
      · have hki : ¬ (k : Int) < e.kids.length := by omega
        have hke : k = e.kids.length := by omega
        subst hke
        rw [List.take_length]
        have HCA := hide (cntB_any (bareX (knF (rlX gs) f)) e.kids)
        go_wp2
        go_ret
        refine ⟨?_, rfl⟩
        rw [unhide HRes, ← unhide HCA]
        rfl
  · rcases h with h | h | h
    · have hop : opW e.op = ⟨#[99, 97, 116, 99, 104]⟩ := by rw [h]; rfl
      rw [hop] at c0
      have HRes : Hid (bareX (knF (rlX gs) f) e = e.kids.all (bareX (knF (rlX gs) f))) := by
        unfold Hid
        rw [unhide HBd, h]
        simp
      clear h
      go_enter Tryz.func67, Tryz.ntmps67
      go_wp2
      go_loopw [7, 45] (fun n i wr => ∃ k : Nat, k ≤ e.kids.length ∧ n = .int .i64 (cntB (bareX (knF (rlX gs) f)) (e.kids.take k)) ∧ i = .int .i64 k ∧ SameW wr w) (fun _ i _ => e.kids.length - (intOf i).toNat)
      case atStart => exact ⟨0, Nat.zero_le _, rfl, rfl, rfl⟩
      case round =>
        obtain ⟨k, hk, rfl, rfl, HW⟩ := hrel
        have hw : w = wr := Eq.symm HW
        subst hw
        clear HW
        by_cases hk2 : k < e.kids.length
        · have hki : (k : Int) < e.kids.length := by omega
          have hmem : e.kids[k] ∈ e.kids := List.getElem_mem hk2
          obtain ⟨B, cap, hv, _, hc, hf, _, _, _, hB⟩ := (unhide HR).at (i := k) (u := ptrX e.kids[k]) (by rw [List.getElem?_map, List.getElem?_eq_getElem hk2]; rfl)
          injection hv with hv1 _ hv2
          subst hv1
          subst hv2
          have hnx := cntB_next (p := bareX (knF (rlX gs) f)) hk2
          have hcl := cntB_le (bareX (knF (rlX gs) f)) (e.kids.take k)
          have htl : (e.kids.take k).length ≤ k := by rw [List.length_take]; omega
          have HC := hide (unhide HI e.kids[k] hmem)
          unfold ptrX at hc HC
          generalize hcn : cntB (bareX (knF (rlX gs) f)) (e.kids.take k) = cn at hnx hcl ⊢
          have HNx := hide hnx
          cases hbk : bareX (knF (rlX gs) f) e.kids[k]
          · rw [hbk] at HC HNx
            clear hnx hcn hbk
            go_wp2_with fail
            go_at_call 67
            refine (unhide HC).mono ?_
            rintro x w2 ⟨rfl, hw2⟩
            replace hw2 := hw2.symm
            subst hw2
            go_wp2_with fail
            go_roundw
            case rel => exact ⟨k + 1, by omega, by rw [unhide HNx]; simp, by go_num, rfl⟩
            case measure => simp [intOf]; omega
          · rw [hbk] at HC HNx
            clear hnx hcn hbk
            go_wp2_with fail
            go_at_call 67
            refine (unhide HC).mono ?_
            rintro x w2 ⟨rfl, hw2⟩
            replace hw2 := hw2.symm
            subst hw2
            go_wp2_with fail
            go_roundw
            case rel => exact ⟨k + 1, by omega, by rw [unhide HNx]; go_num, by go_num, rfl⟩
            case measure => simp [intOf]; omega
        · have hki : ¬ (k : Int) < e.kids.length := by omega
          have hke : k = e.kids.length := by omega
          subst hke
          rw [List.take_length]
          have HCA := hide (cntB_all (bareX (knF (rlX gs) f)) e.kids)
          go_wp2
          go_ret
          refine ⟨?_, rfl⟩
          rw [unhide HRes, ← unhide HCA]
          rfl
    · have hop : opW e.op = ⟨#[114, 111, 119]⟩ := by rw [h]; rfl
      rw [hop] at c0
      have HRes : Hid (bareX (knF (rlX gs) f) e = e.kids.all (bareX (knF (rlX gs) f))) := by
        unfold Hid
        rw [unhide HBd, h]
        simp
      clear h
      go_enter Tryz.func67, Tryz.ntmps67
      go_wp2
      go_loopw [7, 45] (fun n i wr => ∃ k : Nat, k ≤ e.kids.length ∧ n = .int .i64 (cntB (bareX (knF (rlX gs) f)) (e.kids.take k)) ∧ i = .int .i64 k ∧ SameW wr w) (fun _ i _ => e.kids.length - (intOf i).toNat)
      case atStart => exact ⟨0, Nat.zero_le _, rfl, rfl, rfl⟩
      case round =>
        obtain ⟨k, hk, rfl, rfl, HW⟩ := hrel
        have hw : w = wr := Eq.symm HW
        subst hw
        clear HW
        by_cases hk2 : k < e.kids.length
        · have hki : (k : Int) < e.kids.length := by omega
          have hmem : e.kids[k] ∈ e.kids := List.getElem_mem hk2
          obtain ⟨B, cap, hv, _, hc, hf, _, _, _, hB⟩ := (unhide HR).at (i := k) (u := ptrX e.kids[k]) (by rw [List.getElem?_map, List.getElem?_eq_getElem hk2]; rfl)
          injection hv with hv1 _ hv2
          subst hv1
          subst hv2
          have hnx := cntB_next (p := bareX (knF (rlX gs) f)) hk2
          have hcl := cntB_le (bareX (knF (rlX gs) f)) (e.kids.take k)
          have htl : (e.kids.take k).length ≤ k := by rw [List.length_take]; omega
          have HC := hide (unhide HI e.kids[k] hmem)
          unfold ptrX at hc HC
          generalize hcn : cntB (bareX (knF (rlX gs) f)) (e.kids.take k) = cn at hnx hcl ⊢
          have HNx := hide hnx
          cases hbk : bareX (knF (rlX gs) f) e.kids[k]
          · rw [hbk] at HC HNx
            clear hnx hcn hbk
            go_wp2_with fail
            go_at_call 67
            refine (unhide HC).mono ?_
            rintro x w2 ⟨rfl, hw2⟩
            replace hw2 := hw2.symm
            subst hw2
            go_wp2_with fail
            go_roundw
            case rel => exact ⟨k + 1, by omega, by rw [unhide HNx]; simp, by go_num, rfl⟩
            case measure => simp [intOf]; omega
          · rw [hbk] at HC HNx
            clear hnx hcn hbk
            go_wp2_with fail
            go_at_call 67
            refine (unhide HC).mono ?_
            rintro x w2 ⟨rfl, hw2⟩
            replace hw2 := hw2.symm
            subst hw2
            go_wp2_with fail
            go_roundw
            case rel => exact ⟨k + 1, by omega, by rw [unhide HNx]; go_num, by go_num, rfl⟩
            case measure => simp [intOf]; omega
        · have hki : ¬ (k : Int) < e.kids.length := by omega
          have hke : k = e.kids.length := by omega
          subst hke
          rw [List.take_length]
          have HCA := hide (cntB_all (bareX (knF (rlX gs) f)) e.kids)
          go_wp2
          go_ret
          refine ⟨?_, rfl⟩
          rw [unhide HRes, ← unhide HCA]
          rfl
    · have hop : opW e.op = ⟨#[43]⟩ := by rw [h]; rfl
      rw [hop] at c0
      have HRes : Hid (bareX (knF (rlX gs) f) e = e.kids.all (bareX (knF (rlX gs) f))) := by
        unfold Hid
        rw [unhide HBd, h]
        simp
      clear h
      go_enter Tryz.func67, Tryz.ntmps67
      go_wp2
      go_loopw [7, 45] (fun n i wr => ∃ k : Nat, k ≤ e.kids.length ∧ n = .int .i64 (cntB (bareX (knF (rlX gs) f)) (e.kids.take k)) ∧ i = .int .i64 k ∧ SameW wr w) (fun _ i _ => e.kids.length - (intOf i).toNat)
      case atStart => exact ⟨0, Nat.zero_le _, rfl, rfl, rfl⟩
      case round =>
        obtain ⟨k, hk, rfl, rfl, HW⟩ := hrel
        have hw : w = wr := Eq.symm HW
        subst hw
        clear HW
        by_cases hk2 : k < e.kids.length
        · have hki : (k : Int) < e.kids.length := by omega
          have hmem : e.kids[k] ∈ e.kids := List.getElem_mem hk2
          obtain ⟨B, cap, hv, _, hc, hf, _, _, _, hB⟩ := (unhide HR).at (i := k) (u := ptrX e.kids[k]) (by rw [List.getElem?_map, List.getElem?_eq_getElem hk2]; rfl)
          injection hv with hv1 _ hv2
          subst hv1
          subst hv2
          have hnx := cntB_next (p := bareX (knF (rlX gs) f)) hk2
          have hcl := cntB_le (bareX (knF (rlX gs) f)) (e.kids.take k)
          have htl : (e.kids.take k).length ≤ k := by rw [List.length_take]; omega
          have HC := hide (unhide HI e.kids[k] hmem)
          unfold ptrX at hc HC
          generalize hcn : cntB (bareX (knF (rlX gs) f)) (e.kids.take k) = cn at hnx hcl ⊢
          have HNx := hide hnx
          cases hbk : bareX (knF (rlX gs) f) e.kids[k]
          · rw [hbk] at HC HNx
            clear hnx hcn hbk
            go_wp2_with fail
            go_at_call 67
            refine (unhide HC).mono ?_
            rintro x w2 ⟨rfl, hw2⟩
            replace hw2 := hw2.symm
            subst hw2
            go_wp2_with fail
            go_roundw
            case rel => exact ⟨k + 1, by omega, by rw [unhide HNx]; simp, by go_num, rfl⟩
            case measure => simp [intOf]; omega
          · rw [hbk] at HC HNx
            clear hnx hcn hbk
            go_wp2_with fail
            go_at_call 67
            refine (unhide HC).mono ?_
            rintro x w2 ⟨rfl, hw2⟩
            replace hw2 := hw2.symm
            subst hw2
            go_wp2_with fail
            go_roundw
            case rel => exact ⟨k + 1, by omega, by rw [unhide HNx]; go_num, by go_num, rfl⟩
            case measure => simp [intOf]; omega
        · have hki : ¬ (k : Int) < e.kids.length := by omega
          have hke : k = e.kids.length := by omega
          subst hke
          rw [List.take_length]
          have HCA := hide (cntB_all (bareX (knF (rlX gs) f)) e.kids)
          go_wp2
          go_ret
          refine ⟨?_, rfl⟩
          rw [unhide HRes, ← unhide HCA]
          rfl
end Go.Proofs.YtbojcemamhiodaaGreatDoor
namespace Go.Proofs.YtbojcemamhiodaaGreatDoor
open Go.RowKit
/-- append of one own row to another -/
theorem wpList_append_rows {P : Program} (w : World) {ops : Array Oper} {rest : List Oper} {o : Oper} {a : Act} {Q : Exit → Act → World → Prop} (hgd : o.guard = none) (s x : Operand) (t : TypeId)
    (ho : o.op = .call { callee := .builtin .append, args := #[s, x], argTypes := #[t, t] })
    (base base2 : Nat) (e : TypeId) (i : TypeInfo) (z : Value) (size bytes : Nat) (ht : P.underlying t = some (.slice e)) (hi : P.info? e = some i) (hz : i.zero = some z)
    (hsize : i.size = size) (hby : i.bytes = bytes) (hzs : z.cells.size = size) (hsz : 0 < size)
    (v : Value) (n : Nat) (xs : List Value) (hs : a.eval s = v) (hown : w.ownsRow base e size v n xs)
    (v2 : Value) (m : Nat) (ys : List Value) (hx : a.eval x = v2) (hown2 : w.ownsRow base2 e size v2 m ys) (h1 : ∀ u ∈ ys, u.oneCell' = true)
    (h63 : n + m ≤ maxLen) (hbytes : (n + m) * bytes ≤ 140737488355328) (hbase : base ≤ w.heap.size)
    (h : ∀ v' w', w'.ownsRow base e size v' (n + m) (xs ++ ys) → w.grownBy w' v.ownBlock → wpList P ops Q rest (a.put o.dst v') w') : wpList P ops Q (o :: rest) a w := by
  have hl2 := hown2.1
  rcases hown2.2 with ⟨e1, e2⟩ | ⟨g, cap, cur, e1, _⟩
  · subst e1
    subst e2
    have hy : ys = [] := List.length_eq_zero_iff.1 (by simpa using hl2)
    subst hy
    refine wpList_append_own_none hgd s x t ho base e i size ht hi v n xs hs hown hx ?_
    exact h v w (by simpa using hown) (World.grownBy.refl _ _)
  · subst e1
    exact wpList_append_own w hgd s x t ho base e i z size bytes ht hi hz hsize hby hzs hsz v n xs hs hown ⟨g, 0, none⟩ m cap ys hx hl2 (hown2.cells rfl) h1 h63 hbytes hbase (fun v' w' h2 h3 _ => h v' w' h2 h3)
theorem infoIntL : (Tryz.prog.info? 3).map (fun i => (i.zero, i.size, i.bytes)) = some (some (.int .i64 0), 1, 8) := by kernel_rfl
/-- the numbers of rules, as they lie in memory -/
def toV (gs : List RX) (l : List ByteArray) : List Value := l.map fun nm => .int .i64 (findF (rlX gs) nm)
theorem toV_one (gs : List RX) (l : List ByteArray) : ∀ u ∈ toV gs l, u.oneCell' = true := by
  intro u hu
  unfold toV at hu
  rw [List.mem_map] at hu
  obtain ⟨y, _, rfl⟩ := hu
  rfl
theorem toV_append (gs : List RX) (l m : List ByteArray) : toV gs (l ++ m) = toV gs l ++ toV gs m := List.map_append
theorem rowNm_len (kn : ByteArray → Bool) : ∀ l : List Ex, (∀ k ∈ l, (begX kn k).length ≤ szX k) → (rowNm (l.map fun k => (begX kn k, bareX kn k))).length ≤ szL l
  | [], _ => Nat.zero_le _
  | e :: l, h => by
    have h1 := h e (by simp)
    have h2 := rowNm_len kn l (fun k hk => h k (by simp [hk]))
    rw [List.map_cons, rowNm, szL_cons, List.length_append]
    dsimp only
    split
    · omega
    · simp; omega
theorem flat_len (kn : ByteArray → Bool) : ∀ l : List Ex, (∀ k ∈ l, (begX kn k).length ≤ szX k) → ((l.map (begX kn)).flatten).length ≤ szL l
  | [], _ => Nat.zero_le _
  | e :: l, h => by
    have h1 := h e (by simp)
    have h2 := flat_len kn l (fun k hk => h k (by simp [hk]))
    rw [List.map_cons, List.flatten_cons, szL_cons, List.length_append]
    omega
theorem begX_len (kn : ByteArray → Bool) (e : Ex) : (begX kn e).length ≤ szX e := by
  refine Ex.ind (P := fun e => (begX kn e).length ≤ szX e) (fun e ih => ?_) e
  rw [begX_def, szX_def]
  split
  · simp
  · split
    · have := rowNm_len kn e.kids ih
      omega
    · have := flat_len kn e.kids ih
      omega
/-- what an expression begins with, from its k-th part on -/
def restX (kn : ByteArray → Bool) (e : Ex) (k : Nat) : List ByteArray := if e.op = 5 then rowNm ((e.kids.drop k).map fun y => (begX kn y, bareX kn y)) else ((e.kids.drop k).map (begX kn)).flatten
theorem begX_rest {kn : ByteArray → Bool} {e : Ex} (h : e.op ≠ 2) : begX kn e = restX kn e 0 := by
  unfold restX
  rw [begX_def, if_neg h, List.drop_zero]
theorem restX_end {kn : ByteArray → Bool} {e : Ex} {k : Nat} (h : e.kids.length ≤ k) : restX kn e k = [] := by
  unfold restX
  rw [List.drop_eq_nil_of_le h]
  split <;> rfl
theorem restX_row {kn : ByteArray → Bool} {e : Ex} {k : Nat} (h5 : e.op = 5) (h : k < e.kids.length) : restX kn e k = begX kn e.kids[k] ++ (if bareX kn e.kids[k] = true then restX kn e (k + 1) else []) := by
  unfold restX
  rw [if_pos h5, if_pos h5, List.drop_eq_getElem_cons h, List.map_cons, rowNm]
theorem restX_step {kn : ByteArray → Bool} {e : Ex} {k : Nat} (h5 : e.op ≠ 5) (h : k < e.kids.length) : restX kn e k = begX kn e.kids[k] ++ restX kn e (k + 1) := by
  unfold restX
  rw [if_neg h5, if_neg h5, List.drop_eq_getElem_cons h, List.map_cons, List.flatten_cons]
theorem opL (k : Int) (l : List UInt8) (h : (opW k).toList = l) {a : Int} (ha : 0 ≤ a ∧ a ≤ 11) (hk : 0 ≤ k ∧ k ≤ 11) : ((opW a).toList == l) = (a == k) := by rw [← h, opW_eq ha hk]
/-- what first answers -/
def OutF (w : World) (gs : List RX) (kn : ByteArray → Bool) (e : Ex) (x : Ending) (w' : World) : Prop := ∃ v, x = .returned v ∧ w'.ownsRow w.heap.size 3 1 v (begX kn e).length (toV gs (begX kn e)) ∧ Below w.heap.size w w'
set_option maxRecDepth 4000 in
set_option maxHeartbeats 4000000 in
theorem first_any (g : Nat) (nv av ev kv : Value) (gs : List RX) (f : Nat → Bool) (e : Ex) : ∀ w : World, GR w g nv av ev gs → RowB w kv gs.length f → Tree w AnyB e → OkX e → unkX (unR (rlX gs)) e = -1 → szX e ≤ 1000000 → Calls Tryz.prog 95 #[.pointer (some ⟨g, 0, none⟩), ptrX e, kv] w (OutF w gs (knF (rlX gs) f) e) := by
  refine Ex.ind (P := fun e => ∀ w : World, GR w g nv av ev gs → RowB w kv gs.length f → Tree w AnyB e → OkX e → unkX (unR (rlX gs)) e = -1 → szX e ≤ 1000000 → Calls Tryz.prog 95 #[.pointer (some ⟨g, 0, none⟩), ptrX e, kv] w (OutF w gs (knF (rlX gs) f) e)) (fun e ih w hG hK ht ho hu hz => ?_) e
  rw [Tree_iff] at ht
  obtain ⟨_, ⟨lv, hb, hrow⟩, hk⟩ := ht
  have ho' := (OkX_iff e).1 ho
  obtain ⟨hu1, hu2⟩ := unkX_kids hu ho
  have hop := ho'.op
  have hsz := szX_def e
  have hsk : ∀ k ∈ e.kids, szX k ≤ szL e.kids := fun k hk' => by
    obtain ⟨l1, l2, hl⟩ := List.append_of_mem hk'
    rw [hl]
    unfold szL
    rw [List.map_append, List.sum_append, List.map_cons, List.sum_cons]
    omega
  obtain ⟨ao, cp, rfl⟩ := hrow.shape
  have hfew := hrow.few
  unfold maxLen at hfew
  have c0 := hb.c0
  have c1 := hb.c1
  have c2 := hb.c2
  have hlt := hb.lt
  have HX := hide hb
  have HR := hide hrow
  have HK := hide hk
  have HKn := hide hK
  have HG := hide hG
  have HI := hide ih
  have e2 : ((opW e.op).toList == [114, 117, 108, 101]) = (e.op == 2) := opL 2 _ (by decide +kernel) hop (by omega)
  have e5 : ((opW e.op).toList == [114, 111, 119]) = (e.op == 5) := opL 5 _ (by decide +kernel) hop (by omega)
  obtain ⟨ti, hi, hzi, hs1, hby⟩ := info_parts infoIntL
  have hlo := hG.cells.2.2.2
  clear hb hrow hk ih hG hK hu
  unfold ptrX
  by_cases hop2 : e.op = 2
  · have hb2 : begX (knF (rlX gs) f) e = [e.str] := by rw [begX_def, if_pos hop2]
    have HF : Hid (OutF w gs (knF (rlX gs) f) e (.returned (.slice (some ⟨w.heap.size, 0, none⟩) 1 1)) (w.alloc (.cells #[.int .i64 (findF (rlX gs) e.str)] 3))) := by
      refine ⟨_, rfl, ?_, (Below.refl _ _).alloc (Nat.le_refl _) _⟩
      rw [hb2]
      exact ⟨rfl, .inr ⟨w.heap.size, 1, _, rfl, Nat.le_refl _, heap_alloc_new w _, Nat.le_refl _, by unfold maxLen; omega, rfl, rfl⟩⟩
    have HRu := hide (Rule_any w g nv av ev gs e.str (unhide HG))
    rw [show (e.op == 2) = true by simpa using hop2] at e2
    clear e5 hop2 hb2
    go_enter Tryz.func95, Tryz.ntmps95
    go_wp2_with fail
    go_at_call 63
    refine (unhide HRu).mono ?_
    rintro x w2 ⟨rfl, hw2⟩
    replace hw2 := hw2.symm
    subst hw2
    go_wp2
    go_ret
    exact unhide HF
  · rw [show (e.op == 2) = false by simpa using hop2] at e2
    by_cases hop5 : e.op = 5
    · rw [show (e.op == 5) = true by simpa using hop5] at e5
      have HOp5 := hide hop5
      have HOp2 := hide hop2
      clear hop5 hop2 hop
      go_enter Tryz.func95, Tryz.ntmps95
      go_wp2
      go_loopw [7, 27] (fun v i wr => ∃ (k : Nat) (acc : List ByteArray) (a1 : Option Addr) (p1 : Nat), k ≤ e.kids.length ∧ v = .slice a1 acc.length p1 ∧ i = .int .i64 k ∧ Hid (begX (knF (rlX gs) f) e = acc ++ restX (knF (rlX gs) f) e k ∧ acc.length ≤ 1000000) ∧ Hid (wr.ownsRow w.heap.size 3 1 (.slice a1 acc.length p1) acc.length (toV gs acc)) ∧ Hid (Below w.heap.size w wr)) (fun _ i _ => e.kids.length - (intOf i).toNat)
      case atStart => exact ⟨0, [], none, 0, Nat.zero_le _, rfl, rfl, ⟨begX_rest (unhide HOp2), by simp⟩, World.ownsRow_nil _ _ _ _, Below.refl _ _⟩
      case round =>
        obtain ⟨k, acc, a1, p1, hk, rfl, rfl, HA, HO, HB⟩ := hrel
        have hzb := (unhide HB).size
        by_cases hk2 : k < e.kids.length
        · have hki : (k : Int) < e.kids.length := by omega
          have hmem : e.kids[k] ∈ e.kids := List.getElem_mem hk2
          obtain ⟨B, cap, hv, _, hc, hf, _, _, _, hB⟩ := ((unhide HR).below (unhide HB)).at (i := k) (u := ptrX e.kids[k]) (by rw [List.getElem?_map, List.getElem?_eq_getElem hk2]; rfl)
          injection hv with hv1 _ hv2
          subst hv1
          subst hv2
          have c0r := ExB.c0 ((unhide HX).below (unhide HB) (Nat.le_refl _))
          have clr := ExB.lt ((unhide HX).below (unhide HB) (Nat.le_refl _))
          have htr := (unhide HK _ hmem).below (unhide HB)
          have HC := hide (unhide HI e.kids[k] hmem wr ((unhide HG).below (unhide HB)) ((unhide HKn).below (unhide HB)) htr (ho'.kids _ hmem) (hu1 _ hmem) (by have := hsk _ hmem; omega))
          have HNx := hide (restX_row (unhide HOp5) hk2 (kn := knF (rlX gs) f))
          have hbl : acc.length + (begX (knF (rlX gs) f) e.kids[k]).length ≤ 1000000 := by
            have h1 := (unhide HA).1
            have h2 := begX_len (knF (rlX gs) f) e
            rw [h1, unhide HNx] at h2
            simp only [List.length_append] at h2
            omega
          have HAc := hide (show begX (knF (rlX gs) f) e = (acc ++ begX (knF (rlX gs) f) e.kids[k]) ++ (if bareX (knF (rlX gs) f) e.kids[k] = true then restX (knF (rlX gs) f) e (k + 1) else []) by rw [(unhide HA).1, unhide HNx, List.append_assoc])
          unfold ptrX at hc HC
          generalize hkb : begX (knF (rlX gs) f) e.kids[k] = kb at hbl HAc HNx
          go_wp2_with fail
          go_at_call 95
          refine (unhide HC).mono ?_
          rintro x w2 ⟨v2, rfl, hown2, hb2⟩
          rw [hkb] at hown2
          obtain ⟨a2, p2, rfl⟩ := own_shape hown2
          have HO2 := hide hown2
          have HB2 := hide hb2
          have hz2 := hb2.size
          have HO1 := hide (own_below (unhide HO) hb2)
          have hlt1 := hide ((unhide HO).lt)
          clear hown2 hb2 hkb
          go_wp2_with (first | (at_builtin; refine wpList_append_rows w2 rfl (.tmp 31) (.tmp 35) 29 rfl w.heap.size wr.heap.size 3 ti _ 1 8 Tryz.underlying29 hi hzi hs1 hby rfl (by omega) (.slice a1 acc.length p1) acc.length _ rfl (unhide HO1) (.slice a2 kb.length p2) kb.length _ rfl (unhide HO2) (toV_one _ _) (by unfold maxLen; omega) (by omega) (by omega) ?_) | go_in)
          intro v3 w3 hown3 hgr3
          obtain ⟨a3, p3, rfl⟩ := own_shape hown3
          have HB3 := hide (((unhide HB).trans ((unhide HB2).mono hzb)).grown hgr3 (by omega) (fun j hj => (unhide hlt1 j hj).1))
          have HO3 : Hid (w3.ownsRow w.heap.size 3 1 (.slice a3 (acc ++ kb).length p3) (acc ++ kb).length (toV gs (acc ++ kb))) := by
            rw [toV_append, List.length_append]
            exact hown3
          rw [← List.length_append]
          have hbl2 : (acc ++ kb).length ≤ 1000000 := by rw [List.length_append]; exact hbl
          have c0s := ExB.c0 ((unhide HX).below (unhide HB3) (Nat.le_refl _))
          have cls := ExB.lt ((unhide HX).below (unhide HB3) (Nat.le_refl _))
          generalize hac : acc ++ kb = acc' at HO3 HAc hbl2 ⊢
          clear hown3 hgr3 hac hbl c0r clr hc hf hB
          have HBa := hide (refBare_any w3 g nv av ev kv gs f ((unhide HG).below (unhide HB3)) ((unhide HKn).below (unhide HB3)) e.kids[k] ((unhide HK _ hmem).below (unhide HB3)) (ho'.kids _ hmem) (hu1 _ hmem))
          unfold ptrX at HBa
          cases hbk : bareX (knF (rlX gs) f) e.kids[k]
          · rw [hbk] at HBa HAc
            have HFin : Hid (begX (knF (rlX gs) f) e = acc') := by
              have h := unhide HAc
              unfold Hid
              simpa using h
            go_wp2_with fail
            go_at_call 67
            refine (unhide HBa).mono ?_
            rintro x w4 ⟨rfl, hw4⟩
            replace hw4 := hw4.symm
            subst hw4
            go_wp2
            go_ret
            refine ⟨_, rfl, ?_, unhide HB3⟩
            rw [unhide HFin]
            exact unhide HO3
          · rw [hbk] at HBa HAc
            have HFin : Hid (begX (knF (rlX gs) f) e = acc' ++ restX (knF (rlX gs) f) e (k + 1) ∧ acc'.length ≤ 1000000) := ⟨by have h := unhide HAc; simpa using h, hbl2⟩
            go_wp2_with fail
            go_at_call 67
            refine (unhide HBa).mono ?_
            rintro x w4 ⟨rfl, hw4⟩
            replace hw4 := hw4.symm
            subst hw4
            go_wp2_with fail
            go_roundw
            case rel => exact ⟨k + 1, acc', a3, p3, by omega, rfl, by go_num, HFin, HO3, HB3⟩
            case measure => simp [intOf]; omega
        · have hki : ¬ (k : Int) < e.kids.length := by omega
          have HFin : Hid (begX (knF (rlX gs) f) e = acc) := by
            have h1 := (unhide HA).1
            rw [restX_end (by omega), List.append_nil] at h1
            exact h1
          go_wp2
          go_ret
          refine ⟨_, rfl, ?_, unhide HB⟩
          rw [unhide HFin]
          exact unhide HO
    · rw [show (e.op == 5) = false by simpa using hop5] at e5
      have HOp5 := hide hop5
      have HOp2 := hide hop2
      clear hop5 hop2 hop
      go_enter Tryz.func95, Tryz.ntmps95
      go_wp2
      go_loopw [7, 27] (fun v i wr => ∃ (k : Nat) (acc : List ByteArray) (a1 : Option Addr) (p1 : Nat), k ≤ e.kids.length ∧ v = .slice a1 acc.length p1 ∧ i = .int .i64 k ∧ Hid (begX (knF (rlX gs) f) e = acc ++ restX (knF (rlX gs) f) e k ∧ acc.length ≤ 1000000) ∧ Hid (wr.ownsRow w.heap.size 3 1 (.slice a1 acc.length p1) acc.length (toV gs acc)) ∧ Hid (Below w.heap.size w wr)) (fun _ i _ => e.kids.length - (intOf i).toNat)
      case atStart => exact ⟨0, [], none, 0, Nat.zero_le _, rfl, rfl, ⟨begX_rest (unhide HOp2), by simp⟩, World.ownsRow_nil _ _ _ _, Below.refl _ _⟩
      case round =>
        obtain ⟨k, acc, a1, p1, hk, rfl, rfl, HA, HO, HB⟩ := hrel
        have hzb := (unhide HB).size
        by_cases hk2 : k < e.kids.length
        · have hki : (k : Int) < e.kids.length := by omega
          have hmem : e.kids[k] ∈ e.kids := List.getElem_mem hk2
          obtain ⟨B, cap, hv, _, hc, hf, _, _, _, hB⟩ := ((unhide HR).below (unhide HB)).at (i := k) (u := ptrX e.kids[k]) (by rw [List.getElem?_map, List.getElem?_eq_getElem hk2]; rfl)
          injection hv with hv1 _ hv2
          subst hv1
          subst hv2
          have c0r := ExB.c0 ((unhide HX).below (unhide HB) (Nat.le_refl _))
          have clr := ExB.lt ((unhide HX).below (unhide HB) (Nat.le_refl _))
          have htr := (unhide HK _ hmem).below (unhide HB)
          have HC := hide (unhide HI e.kids[k] hmem wr ((unhide HG).below (unhide HB)) ((unhide HKn).below (unhide HB)) htr (ho'.kids _ hmem) (hu1 _ hmem) (by have := hsk _ hmem; omega))
          have HNx := hide (restX_step (unhide HOp5) hk2 (kn := knF (rlX gs) f))
          have hbl : acc.length + (begX (knF (rlX gs) f) e.kids[k]).length ≤ 1000000 := by
            have h1 := (unhide HA).1
            have h2 := begX_len (knF (rlX gs) f) e
            rw [h1, unhide HNx] at h2
            simp only [List.length_append] at h2
            omega
          have HAc := hide (show begX (knF (rlX gs) f) e = (acc ++ begX (knF (rlX gs) f) e.kids[k]) ++ restX (knF (rlX gs) f) e (k + 1) by rw [(unhide HA).1, unhide HNx, List.append_assoc])
          unfold ptrX at hc HC
          generalize hkb : begX (knF (rlX gs) f) e.kids[k] = kb at hbl HAc HNx
          go_wp2_with fail
          go_at_call 95
          refine (unhide HC).mono ?_
          rintro x w2 ⟨v2, rfl, hown2, hb2⟩
          rw [hkb] at hown2
          obtain ⟨a2, p2, rfl⟩ := own_shape hown2
          have HO2 := hide hown2
          have HB2 := hide hb2
          have hz2 := hb2.size
          have HO1 := hide (own_below (unhide HO) hb2)
          have hlt1 := hide ((unhide HO).lt)
          clear hown2 hb2 hkb
          go_wp2_with (first | (at_builtin; refine wpList_append_rows w2 rfl (.tmp 31) (.tmp 35) 29 rfl w.heap.size wr.heap.size 3 ti _ 1 8 Tryz.underlying29 hi hzi hs1 hby rfl (by omega) (.slice a1 acc.length p1) acc.length _ rfl (unhide HO1) (.slice a2 kb.length p2) kb.length _ rfl (unhide HO2) (toV_one _ _) (by unfold maxLen; omega) (by omega) (by omega) ?_) | go_in)
          intro v3 w3 hown3 hgr3
          obtain ⟨a3, p3, rfl⟩ := own_shape hown3
          have HB3 := hide (((unhide HB).trans ((unhide HB2).mono hzb)).grown hgr3 (by omega) (fun j hj => (unhide hlt1 j hj).1))
          have HO3 : Hid (w3.ownsRow w.heap.size 3 1 (.slice a3 (acc ++ kb).length p3) (acc ++ kb).length (toV gs (acc ++ kb))) := by
            rw [toV_append, List.length_append]
            exact hown3
          rw [← List.length_append]
          have hbl2 : (acc ++ kb).length ≤ 1000000 := by rw [List.length_append]; exact hbl
          have c0s := ExB.c0 ((unhide HX).below (unhide HB3) (Nat.le_refl _))
          have cls := ExB.lt ((unhide HX).below (unhide HB3) (Nat.le_refl _))
          generalize hac : acc ++ kb = acc' at HO3 HAc hbl2 ⊢
          clear hown3 hgr3 hac hbl c0r clr hc hf hB
          have HFin : Hid (begX (knF (rlX gs) f) e = acc' ++ restX (knF (rlX gs) f) e (k + 1) ∧ acc'.length ≤ 1000000) := ⟨unhide HAc, hbl2⟩
          go_wp2_with fail
          go_roundw
          case rel => exact ⟨k + 1, acc', a3, p3, by omega, rfl, by go_num, HFin, HO3, HB3⟩
          case measure => simp [intOf]; omega
        · have hki : ¬ (k : Int) < e.kids.length := by omega
          have HFin : Hid (begX (knF (rlX gs) f) e = acc) := by
            have h1 := (unhide HA).1
            rw [restX_end (by omega), List.append_nil] at h1
            exact h1
          go_wp2
          go_ret
          refine ⟨_, rfl, ?_, unhide HB⟩
          rw [unhide HFin]
          exact unhide HO
end Go.Proofs.YtbojcemamhiodaaGreatDoor
namespace Go.Proofs.YtbojcemamhiodaaGreatDoor
open Go.RowKit
theorem infoBoolL : (Tryz.prog.info? 4).map (fun i => (i.zero, i.size, i.bytes)) = some (some (.bool false), 1, 1) := by kernel_rfl
/-- a row of truths in a block of its own -/
def OwnB2 (w : World) (lo B n : Nat) (f : Nat → Bool) : Prop := lo ≤ B ∧ n ≤ maxLen ∧ w.heap[B]? = some (.cells ((List.range n).map fun i => Value.bool (f i)).toArray 4 (0, 0))
theorem OwnB2.rowB {w : World} {lo B n : Nat} {f : Nat → Bool} (h : OwnB2 w lo B n f) : RowB w (.slice (some ⟨B, 0, none⟩) n n) n f :=
  ⟨by simp, .inr ⟨B, n, _, rfl, trivial, h.2.2, Nat.le_refl _, h.2.1, by simp, by rw [Nat.mul_one]; exact List.take_of_length_le (by simp)⟩⟩
theorem OwnB2.lt {w : World} {lo B n : Nat} {f : Nat → Bool} (h : OwnB2 w lo B n f) : B < w.heap.size := (Array.getElem?_eq_some_iff.1 h.2.2).1
theorem OwnB2.below {w w' : World} {lo B n : Nat} {f : Nat → Bool} (h : OwnB2 w lo B n f) (hb : Below w.heap.size w w') : OwnB2 w' lo B n f := ⟨h.1, h.2.1, (hb.block B h.lt).trans h.2.2⟩
theorem OwnB2.other {w : World} {lo B n : Nat} {f : Nat → Bool} (h : OwnB2 w lo B n f) {p : Addr} (hp : p.block ≠ B) (u : Value) : OwnB2 (w.setCell p u) lo B n f := ⟨h.1, h.2.1, (Below.heap_setCell _ _ _ _ (fun e => hp e.symm)).trans h.2.2⟩
theorem OwnB2.cell {w : World} {lo B n : Nat} {f : Nat → Bool} (h : OwnB2 w lo B n f) {i : Nat} (hi : i < n) : w.cell? ⟨B, i, none⟩ = some (.bool (f i)) := by
  simp [World.cell?, h.2.2, hi]
theorem OwnB2.fz {w : World} {lo B n : Nat} {f : Nat → Bool} (h : OwnB2 w lo B n f) (o : Nat) : w.frozen? ⟨B, o, none⟩ = false := by simp [World.frozen?, h.2.2]
theorem OwnB2.congr {w : World} {lo B n : Nat} {f g : Nat → Bool} (h : OwnB2 w lo B n f) (hfg : ∀ i, i < n → f i = g i) : OwnB2 w lo B n g := by
  refine ⟨h.1, h.2.1, ?_⟩
  rw [h.2.2]
  have : (List.range n).map (fun i => Value.bool (f i)) = (List.range n).map (fun i => Value.bool (g i)) := List.map_congr_left fun i hi => by rw [hfg i (List.mem_range.1 hi)]
  rw [this]
theorem OwnB2.set {w : World} {lo B n : Nat} {f : Nat → Bool} (h : OwnB2 w lo B n f) {i : Nat} (v : Bool) : OwnB2 (w.setCell ⟨B, i, none⟩ (.bool v)) lo B n (upd f i v) := by
  refine ⟨h.1, h.2.1, ?_⟩
  rw [set_block h.2.2]
  congr 2
  apply Array.ext_getElem?
  intro j
  rw [Array.getElem?_setIfInBounds]
  simp only [List.size_toArray, List.length_map, List.length_range, List.getElem?_toArray, List.getElem?_map]
  by_cases hj : i = j
  · subst hj
    rw [if_pos rfl]
    by_cases hi : i < n
    · rw [if_pos hi, List.getElem?_range hi]
      simp [upd]
    · rw [if_neg hi, List.getElem?_eq_none (by simpa using hi)]
      rfl
  · rw [if_neg hj]
    by_cases hi : j < n
    · rw [List.getElem?_range hi]
      simp [upd, Ne.symm hj]
    · rw [List.getElem?_eq_none (by simpa using hi)]
      rfl
theorem OwnB2.made {w : World} {lo n : Nat} (hlo : lo ≤ w.heap.size) (hn : n ≤ maxLen) {W : World} (h : W.ownsRow lo 4 1 (.slice (some ⟨w.heap.size, 0, none⟩) n n) n (madeCells #[Value.bool false] n).toList) : OwnB2 W lo w.heap.size n (fun _ => false) := by
  refine ⟨hlo, hn, ?_⟩
  rcases h.2 with ⟨h1, _⟩ | ⟨g, cap, cur, h1, _, h3, _, _, h6, h7⟩
  · cases h1
  · injection h1 with h1 _ h2
    injection h1 with h1
    injection h1 with h1
    subst h1
    subst h2
    rw [h3]
    have hlen : cur.toList.length = n := by rw [Array.length_toList, h6, Nat.mul_one]
    rw [List.take_of_length_le (by omega)] at h7
    have e : cur = ((List.range n).map fun _ => Value.bool false).toArray := by
      rw [← Array.toArray_toList (xs := cur), h7]
      congr 1
      apply List.ext_getElem
      · rw [← h7]; simp [h6]
      · intro i h8 h9
        simp [madeCells]
        rw [Nat.mod_one]
        rfl
    rw [e]
/-- what empties and reached answer -/
def OutB (w : World) (n : Nat) (f : Nat → Bool) (x : Ending) (w' : World) : Prop := ∃ B, x = .returned (.slice (some ⟨B, 0, none⟩) n n) ∧ OwnB2 w' w.heap.size B n f ∧ Below w.heap.size w w'
/-- rules of which each name is known -/
structure OkG (gs : List RX) : Prop where
  few : gs.length ≤ 12
  ok : ∀ x ∈ gs, OkX x.ex
  unk : ∀ x ∈ gs, unkX (unR (rlX gs)) x.ex = -1
  size : ∀ x ∈ gs, szX x.ex ≤ 1000000
set_option maxRecDepth 4000 in
set_option maxHeartbeats 4000000 in
theorem empties_any (w : World) (g : Nat) (nv av ev : Value) (gs : List RX) (hG : GR w g nv av ev gs) (hO : OkG gs) : Calls Tryz.prog 65 #[.pointer (some ⟨g, 0, none⟩)] w (OutB w gs.length (knownG gs)) := by
  obtain ⟨g0, g1, g2, hgl⟩ := hG.cells
  obtain ⟨na, nc, rfl⟩ := hG.names.shape
  obtain ⟨ea, ec, rfl⟩ := hG.exps.shape
  have hn := hO.few
  have HG := hide hG
  have HOk := hide hO
  obtain ⟨ti, hi, hzi, hs1, hby⟩ := info_parts infoBoolL
  clear hG hO
  go_enter Tryz.func65, Tryz.ntmps65
  go_wp2_with (first | (at_make; refine wpList_make_full w rfl (.tmp 11) (.tmp 11) 133 rfl w.heap.size 4 ti _ 1 Tryz.underlying133 hi hzi hs1 .i64 .i64 _ _ gs.length rfl rfl rfl rfl (by rw [hby]; omega) (by unfold maxLen; omega) (Nat.le_refl _) ?_) | go_in)
  intro w1 hown1 hgr1
  have HB1 := hide ((Below.refl w.heap.size w).grown hgr1 (Nat.le_refl _) (fun k hk => by cases hk))
  have HO1 := hide (OwnB2.made (n := gs.length) (Nat.le_refl _) (by unfold maxLen; omega) hown1)
  obtain ⟨a0, a1, a2, hal⟩ := ((unhide HG).below (unhide HB1)).cells
  clear hown1 hgr1
  go_wp2_with fail
  go_loopw [3, 18] (fun v i wr => ∃ (m B : Nat), m ≤ gs.length ∧ v = .slice (some ⟨B, 0, none⟩) gs.length gs.length ∧ i = .int .i64 m ∧ Hid (OwnB2 wr w.heap.size B gs.length (empK (bareG gs) m)) ∧ Hid (Below w.heap.size w wr)) (fun _ i _ => gs.length - (intOf i).toNat)
  case atStart => exact ⟨0, w.heap.size, Nat.zero_le _, rfl, rfl, HO1, HB1⟩
  case round =>
    obtain ⟨m, B, hm, rfl, rfl, HO, HB⟩ := hrel
    have hzb := (unhide HB).size
    by_cases hm2 : m < gs.length
    · have hmi : (m : Int) < gs.length := by omega
      obtain ⟨b0, b1, b2, hbl⟩ := ((unhide HG).below (unhide HB)).cells
      clear a0 a1 a2 hal
      have hBl := (unhide HO).lt
      go_wp2_with (first | (at_make; refine wpList_make_full wr rfl (.tmp 24) (.tmp 24) 133 rfl w.heap.size 4 ti _ 1 Tryz.underlying133 hi hzi hs1 .i64 .i64 _ _ gs.length rfl rfl rfl rfl (by rw [hby]; omega) (by unfold maxLen; omega) hzb ?_) | go_in)
      intro w2 hown2 hgr2
      have hb2 : Below wr.heap.size wr w2 := (Below.refl wr.heap.size wr).grown hgr2 (Nat.le_refl _) (fun k hk => by cases hk)
      have HB2 := hide ((unhide HB).grown hgr2 hzb (fun k hk => by cases hk))
      have HN2 := hide (OwnB2.made (n := gs.length) hzb (by unfold maxLen; omega) hown2)
      have HO2 := hide ((unhide HO).below hb2)
      obtain ⟨d0, d1, d2, hdl⟩ := ((unhide HG).below (unhide HB2)).cells
      obtain ⟨N, hN⟩ : ∃ N, wr.heap.size = N := ⟨_, rfl⟩
      rw [hN] at HN2 ⊢
      have hNB : N ≠ B := by omega
      have hNw : w.heap.size ≤ N := by omega
      clear hown2 hgr2 hb2 b0 b1 b2 hbl HO HB hN hzb hBl
      go_wp2_with fail
      go_loopw [31] (fun i wx => ∃ k : Nat, k ≤ gs.length ∧ i = .int .i64 k ∧ Hid (OwnB2 wx w.heap.size N gs.length (fun j => decide (j < k) && bareG gs (empK (bareG gs) m) j)) ∧ Hid (OwnB2 wx w.heap.size B gs.length (empK (bareG gs) m)) ∧ Hid (Below w.heap.size w wx)) (fun i _ => gs.length - (intOf i).toNat)
      case atStart => exact ⟨0, Nat.zero_le _, rfl, (unhide HN2).congr (fun i _ => by simp), HO2, HB2⟩
      case round =>
        obtain ⟨k, hk, rfl, HNk, HOk2, HBk⟩ := hrel
        by_cases hk2 : k < gs.length
        · have hki : (k : Int) < gs.length := by omega
          have hG3 := (unhide HG).below (unhide HBk)
          have hmem : gs[k] ∈ gs := List.getElem_mem hk2
          obtain ⟨X, cap, hv, _, hc, hf, _, _, _, hXl⟩ := hG3.exps.at (i := k) (u := ptrX gs[k].ex) (by rw [List.getElem?_map, List.getElem?_eq_getElem hk2]; rfl)
          injection hv with hv1 _ hv2
          subst hv1
          subst hv2
          have HC := hide (refBare_any wr g _ _ _ (.slice (some ⟨B, 0, none⟩) gs.length gs.length) gs _ hG3 (unhide HOk2).rowB gs[k].ex (hG3.trees _ hmem) ((unhide HOk).ok _ hmem) ((unhide HOk).unk _ hmem))
          have hbg : bareX (knF (rlX gs) (empK (bareG gs) m)) gs[k].ex = bareG gs (empK (bareG gs) m) k := by
            unfold bareG
            rw [List.getElem?_eq_getElem hk2]
          rw [hbg] at HC
          obtain ⟨bv, hbv⟩ : ∃ bv, bareG gs (empK (bareG gs) m) k = bv := ⟨_, rfl⟩
          rw [hbv] at HC
          have HNs := hide (((unhide HNk).set (i := k) bv).congr (g := fun j => decide (j < k + 1) && bareG gs (empK (bareG gs) m) j) (fun j _ => by
            unfold upd
            by_cases hj : j = k
            · rw [if_pos hj, hj, hbv]; simp
            · rw [if_neg hj, show decide (j < k + 1) = decide (j < k) from decide_eq_decide.2 (by omega)]))
          have HOs := hide ((unhide HOk2).other (p := ⟨N, k, none⟩) hNB (.bool bv))
          have HBs := hide ((unhide HBk).setCell (p := ⟨N, k, none⟩) hNw (.bool bv))
          have nc2 := (unhide HNk).cell hk2
          have nf2 := (unhide HNk).fz
          have nl2 := (unhide HNk).lt
          unfold ptrX at hc HC
          clear hG3 hbg hbv
          go_wp2_with fail
          go_at_call 67
          refine (unhide HC).mono ?_
          rintro x w4 ⟨rfl, hw4⟩
          replace hw4 := hw4.symm
          subst hw4
          go_wp2_with fail
          go_roundw
          case rel => exact ⟨k + 1, by omega, by go_num, HNs, HOs, HBs⟩
          case measure => simp [intOf]; omega
        · have hki : ¬ (k : Int) < gs.length := by omega
          have hke : k = gs.length := by omega
          have HNe := hide ((unhide HNk).congr (g := empK (bareG gs) (m + 1)) (fun j hj => by
            rw [decide_eq_true (show j < k by omega), Bool.true_and]
            rfl))
          go_wp2_with fail
          go_roundw
          case rel => exact ⟨m + 1, N, by omega, rfl, by go_num, HNe, HBk⟩
          case measure => simp [intOf]; omega
    · have hmi : ¬ (m : Int) < gs.length := by omega
      have hme : m = gs.length := by omega
      have HFin : Hid (OwnB2 wr w.heap.size B gs.length (knownG gs)) := by
        have h := unhide HO
        rw [hme] at h
        exact h
      go_wp2
      go_ret
      exact ⟨B, rfl, unhide HFin, unhide HB⟩
end Go.Proofs.YtbojcemamhiodaaGreatDoor
namespace Go.Proofs.YtbojcemamhiodaaGreatDoor
open Go.RowKit
/-- a row of numbers of rules -/
theorem toV_at {gs : List RX} {l : List ByteArray} {i : Nat} (hi : i < l.length) : (toV gs l)[i]? = some (.int .i64 (findF (rlX gs) l[i])) := by
  unfold toV
  rw [List.getElem?_map, List.getElem?_eq_getElem hi]
  rfl
/-- rules that are begun with are known -/
theorem beg_in {gs : List RX} (hO : OkG gs) (kn : ByteArray → Bool) {a : Nat} (ha : a < gs.length) (nm : ByteArray) (hn : nm ∈ begX kn gs[a].ex) : ∃ c : Nat, findF (rlX gs) nm = c ∧ c < gs.length := by
  have h1 := beg_known kn (unR (rlX gs)) gs[a].ex (hO.ok _ (List.getElem_mem ha)) (hO.unk _ (List.getElem_mem ha)) nm hn
  unfold unR at h1
  have h2 := findF_range (rlX gs) nm
  rw [rlX_len] at h2
  have h3 : 0 ≤ findF (rlX gs) nm := by simpa using h1
  exact ⟨(findF (rlX gs) nm).toNat, by omega, by omega⟩
theorem fsG_at (gs : List RX) (kn : ByteArray → Bool) {a : Nat} (ha : a < gs.length) : fsG gs kn a = (begX kn gs[a].ex).map fun nm => (findF (rlX gs) nm).toNat := by
  unfold fsG
  rw [List.getElem?_eq_getElem ha]
def nmsG (gs : List RX) (l : List ByteArray) : List Nat := l.map fun nm => (findF (rlX gs) nm).toNat
theorem nmsG_drop {gs : List RX} {l : List ByteArray} {i c : Nat} (hi : i < l.length) (hc : findF (rlX gs) l[i] = c) : nmsG gs (l.drop i) = c :: nmsG gs (l.drop (i + 1)) := by
  unfold nmsG
  rw [List.drop_eq_getElem_cons hi, List.map_cons, hc]
  rfl
theorem rowNe {w : World} {base N : Nat} {e : TypeId} {size : Nat} {v : Value} {n : Nat} {xs : List Value} (h : w.ownsRow base e size v n xs) (hN : N < base) : RowIn w (fun b => b ≠ N) e size v n xs :=
  (RowIn.of_owns h).turn fun b hS _ => ⟨by have hS' : base ≤ b := hS; omega, rfl⟩
theorem rowSet {w : World} {N : Nat} {e : TypeId} {size : Nat} {v : Value} {n : Nat} {xs : List Value} (h : RowIn w (fun b => b ≠ N) e size v n xs) (i : Nat) (u : Value) : RowIn (w.setCell ⟨N, i, none⟩ u) (fun b => b ≠ N) e size v n xs :=
  h.turn fun _ hS _ => ⟨hS, Below.heap_setCell _ _ _ _ hS⟩
set_option maxRecDepth 4000 in
set_option maxHeartbeats 8000000 in
theorem reached_any (w : World) (g : Nat) (nv av ev kv : Value) (gs : List RX) (kf : Nat → Bool) (hG : GR w g nv av ev gs) (hO : OkG gs) (hK : RowB w kv gs.length kf) (a : Nat) (ha : a < gs.length) :
    Calls Tryz.prog 66 #[.pointer (some ⟨g, 0, none⟩), .int .i64 a, kv] w (OutB w gs.length (reachR (fsG gs (knF (rlX gs) kf)) gs.length a)) := by
  obtain ⟨g0, g1, g2, hgl⟩ := hG.cells
  obtain ⟨na, nc, rfl⟩ := hG.names.shape
  obtain ⟨ea, ec, hev⟩ := hG.exps.shape
  obtain ⟨X, cap, hv, _, hc, hf, _, _, _, hXl⟩ := hG.exps.at (i := a) (u := ptrX gs[a].ex) (by rw [List.getElem?_map, List.getElem?_eq_getElem ha]; rfl)
  subst hv
  clear hev
  have hn := hO.few
  have hai : (a : Int) < gs.length := by omega
  have ha0 : (0 : Int) ≤ (a : Int) := by omega
  have HG := hide hG
  have HOk := hide hO
  have HKn := hide hK
  obtain ⟨kn, hkn⟩ : ∃ kn, knF (rlX gs) kf = kn := ⟨_, rfl⟩
  have HFi := hide (fun (W : World) (hW : Below w.heap.size w W) (b : Nat) (hb : b < gs.length) => (first_any g _ _ _ kv gs kf gs[b].ex W (hG.below hW) (hK.below hW) ((hG.trees _ (List.getElem_mem hb)).below hW) (hO.ok _ (List.getElem_mem hb)) (hO.unk _ (List.getElem_mem hb)) (hO.size _ (List.getElem_mem hb))))
  rw [hkn] at HFi ⊢
  have HIn := hide (fun (b : Nat) (hb : b < gs.length) (nm : ByteArray) (h : nm ∈ begX kn gs[b].ex) => beg_in hO kn hb nm h)
  have HFs := hide (fun (b : Nat) (hb : b < gs.length) => fsG_at gs kn hb)
  obtain ⟨ti, hi, hzi, hs1, hby⟩ := info_parts infoBoolL
  unfold ptrX at hc HFi
  clear hG hO hK hkn
  go_enter Tryz.func66, Tryz.ntmps66
  go_wp2_with (first | (at_make; refine wpList_make_full w rfl (.tmp 17) (.tmp 17) 133 rfl w.heap.size 4 ti _ 1 Tryz.underlying133 hi hzi hs1 .i64 .i64 _ _ gs.length rfl rfl rfl rfl (by rw [hby]; omega) (by unfold maxLen; omega) (Nat.le_refl _) ?_) | go_in)
  intro w1 hown1 hgr1
  have HB1 := hide ((Below.refl w.heap.size w).grown hgr1 (Nat.le_refl _) (fun k hk => by cases hk))
  have HO1 := hide (OwnB2.made (n := gs.length) (Nat.le_refl _) (by unfold maxLen; omega) hown1)
  obtain ⟨a0, a1, a2, hal⟩ := ((unhide HG).below (unhide HB1)).cells
  have hcA := ((unhide HB1).cell (p := ⟨X, a, none⟩) hXl).trans hc
  have hzA := (unhide HB1).size
  obtain ⟨N, hN⟩ : ∃ N, N = w.heap.size := ⟨_, rfl⟩
  have HO1N : Hid (OwnB2 w1 w.heap.size N gs.length fun _ => false) := by rw [hN]; exact HO1
  have hNw : w.heap.size ≤ N := by omega
  have hN1 : N < w1.heap.size := (unhide HO1N).lt
  rw [← hN]
  clear hown1 hgr1 g0 g1 g2 hf hN HO1
  go_wp2_with fail
  go_at_call 95
  refine (unhide HFi _ (unhide HB1) a ha).mono ?_
  rintro x w2 ⟨v2, rfl, hown2, hb2⟩
  have HO2 := hide ((unhide HO1N).below hb2)
  have HB2 := hide ((unhide HB1).trans (hb2.mono hzA))
  have hbl2 := begX_len kn gs[a].ex
  have hsz2 := (unhide HOk).size _ (List.getElem_mem ha)
  have HIn2 := hide (unhide HIn a ha)
  have HFs2 := hide (unhide HFs a ha)
  generalize begX kn gs[a].ex = L at hown2 hbl2 HIn2 HFs2
  obtain ⟨la, lc, rfl⟩ := own_shape hown2
  have HL := hide (rowNe hown2 (by omega))
  have hLl : L.length ≤ 1000000 := by omega
  clear hown2 hb2 hbl2 hsz2 a0 a1 a2 hal hcA hc hN1 hzA HB1 HO1N
  go_wp2_with fail
  go_loopw [30] (fun i wr => ∃ (k : Nat) (f : Nat → Bool), k ≤ L.length ∧ i = .int .i64 k ∧ Hid (startR (nmsG gs L) (fun _ => false) = startR (nmsG gs (L.drop k)) f) ∧ Hid (OwnB2 wr w.heap.size N gs.length f) ∧ Hid (Below w.heap.size w wr) ∧ Hid (RowIn wr (fun b => b ≠ N) 3 1 (.slice la L.length lc) L.length (toV gs L))) (fun i _ => L.length - (intOf i).toNat)
  case atStart => exact ⟨0, fun _ => false, Nat.zero_le _, rfl, rfl, HO2, HB2, HL⟩
  case round =>
    obtain ⟨k, f, hk, rfl, HS, HOf, HBf, HLf⟩ := hrel
    clear HO2 HB2 HL
    by_cases hk2 : k < L.length
    · have hki : (k : Int) < L.length := by omega
      obtain ⟨c, hc, hcl⟩ := unhide HIn2 L[k] (List.getElem_mem hk2)
      have hci : (c : Int) < gs.length := by omega
      have hat := toV_at (gs := gs) hk2
      rw [hc] at hat
      obtain ⟨Y, cap2, hv, _, hcY, hfY, _, _, _, hYl⟩ := (unhide HLf).at hat
      injection hv with hv1 _ hv2
      subst hv1
      subst hv2
      have HS2 : Hid (startR (nmsG gs L) (fun _ => false) = startR (nmsG gs (L.drop (k + 1))) (upd f c true)) := by
        have h := unhide HS
        rw [nmsG_drop hk2 hc] at h
        exact h
      have HOs := hide ((unhide HOf).set (i := c) true)
      have HBs := hide ((unhide HBf).setCell (p := ⟨N, c, none⟩) hNw (.bool true))
      have HLs := hide (rowSet (unhide HLf) c (.bool true))
      have nc2 := (unhide HOf).cell hcl
      have nf2 := (unhide HOf).fz
      have nl2 := (unhide HOf).lt
      clear hc hat
      go_wp2_with fail
      go_roundw
      case rel => exact ⟨k + 1, _, by omega, by go_num, HS2, HOs, HBs, HLs⟩
      case measure => simp [intOf]; omega
    · have hki : ¬ (k : Int) < L.length := by omega
      have HF0 : Hid (reachR (fsG gs kn) gs.length a = roundsR (fsG gs kn) gs.length gs.length f) := by
        have h := unhide HS
        rw [List.drop_eq_nil_of_le (by omega)] at h
        unfold reachR
        rw [unhide HFs2]
        exact congrArg (roundsR (fsG gs kn) gs.length gs.length) h
      obtain ⟨a0, a1, a2, hal⟩ := ((unhide HG).below (unhide HBf)).cells
      clear HS HIn2 HFs2
      go_wp2_with fail
      go_loopw [43] (fun i wr => ∃ (m : Nat) (f : Nat → Bool), m ≤ gs.length ∧ i = .int .i64 m ∧ Hid (reachR (fsG gs kn) gs.length a = roundsR (fsG gs kn) gs.length (gs.length - m) f) ∧ Hid (OwnB2 wr w.heap.size N gs.length f) ∧ Hid (Below w.heap.size w wr)) (fun i _ => gs.length - (intOf i).toNat)
      case atStart => exact ⟨0, f, Nat.zero_le _, rfl, HF0, HOf, HBf⟩
      case round =>
        obtain ⟨m, f1, hm, rfl, HF1, HO1, HB1⟩ := hrel
        clear HF0 HOf HBf HLf a0 a1 a2 hal
        by_cases hm2 : m < gs.length
        · have hmi : (m : Int) < gs.length := by omega
          have HF2 : Hid (reachR (fsG gs kn) gs.length a = roundsR (fsG gs kn) gs.length (gs.length - (m + 1)) (roundR (fsG gs kn) (List.range gs.length) f1)) := by
            have h := unhide HF1
            rw [show gs.length - m = (gs.length - (m + 1)) + 1 by omega] at h
            exact h
          go_wp2_with fail
          go_loopw [47] (fun i wr => ∃ (b : Nat) (f : Nat → Bool), b ≤ gs.length ∧ i = .int .i64 b ∧ Hid (roundR (fsG gs kn) (List.range gs.length) f1 = roundR (fsG gs kn) ((List.range gs.length).drop b) f) ∧ Hid (OwnB2 wr w.heap.size N gs.length f) ∧ Hid (Below w.heap.size w wr)) (fun i _ => gs.length - (intOf i).toNat)
          case atStart => exact ⟨0, f1, Nat.zero_le _, rfl, rfl, HO1, HB1⟩
          case round =>
            obtain ⟨b, f2, hb, rfl, HR2, HO2, HB2⟩ := hrel
            clear HF1 HO1 HB1
            by_cases hb2 : b < gs.length
            · have hbi : (b : Int) < gs.length := by omega
              have hG3 := (unhide HG).below (unhide HB2)
              obtain ⟨b0, b1, b2, hbl⟩ := hG3.cells
              obtain ⟨Z, cap3, hv3, _, hcZ, hfZ, _, _, _, hZl⟩ := hG3.exps.at (i := b) (u := ptrX gs[b].ex) (by rw [List.getElem?_map, List.getElem?_eq_getElem hb2]; rfl)
              injection hv3 with hv4 _ hv5
              injection hv4 with hv4
              injection hv4 with hv4
              subst hv4
              unfold ptrX at hcZ
              have HC := hide (unhide HFi _ (unhide HB2) b hb2)
              have hsz3 := (unhide HOk).size _ (List.getElem_mem hb2)
              have hbl3 := begX_len kn gs[b].ex
              have HIn3 := hide (unhide HIn b hb2)
              have HR3 : Hid (roundR (fsG gs kn) (List.range gs.length) f1 = roundR (fsG gs kn) ((List.range gs.length).drop (b + 1)) (stepR b (nmsG gs (begX kn gs[b].ex)) f2)) := by
                have h := unhide HR2
                rw [List.drop_eq_getElem_cons (by simpa using hb2), roundR, List.getElem_range, unhide HFs b hb2] at h
                exact h
              have hN2 := (unhide HO2).lt
              have hz2 := (unhide HB2).size
              clear hG3 hv5
              obtain ⟨M, hM⟩ : ∃ M, begX kn gs[b].ex = M := ⟨_, rfl⟩
              rw [hM] at hbl3 HIn3 HR3
              go_wp2_with fail
              go_at_call 95
              refine (unhide HC).mono ?_
              rintro x w4 ⟨v4, rfl, hown4, hb4⟩
              rw [hM] at hown4
              have HO4 := hide ((unhide HO2).below hb4)
              have HB4 := hide ((unhide HB2).trans (hb4.mono hz2))
              obtain ⟨ma, mc, rfl⟩ := own_shape hown4
              have HL4 := hide (rowNe hown4 hN2)
              have hMl : M.length ≤ 1000000 := by omega
              clear hown4 hb4 hM hbl3 hsz3 b0 b1 b2 hbl hcZ hfZ hZl hN2 hz2 HC HO2 HB2 HR2
              go_wp2_with fail
              go_loopw [61] (fun i wr => ∃ (k : Nat) (f : Nat → Bool), k ≤ M.length ∧ i = .int .i64 k ∧ Hid (stepR b (nmsG gs M) f2 = stepR b (nmsG gs (M.drop k)) f) ∧ Hid (OwnB2 wr w.heap.size N gs.length f) ∧ Hid (Below w.heap.size w wr) ∧ Hid (RowIn wr (fun b => b ≠ N) 3 1 (.slice ma M.length mc) M.length (toV gs M))) (fun i _ => M.length - (intOf i).toNat)
              case atStart => exact ⟨0, f2, Nat.zero_le _, rfl, rfl, HO4, HB4, HL4⟩
              case round =>
                obtain ⟨k, f3, hk, rfl, HS3, HO3, HB3, HL3⟩ := hrel
                clear HO4 HB4 HL4
                by_cases hk2 : k < M.length
                · have hki : (k : Int) < M.length := by omega
                  obtain ⟨c, hc, hcl⟩ := unhide HIn3 M[k] (List.getElem_mem hk2)
                  have hci : (c : Int) < gs.length := by omega
                  have hat := toV_at (gs := gs) hk2
                  rw [hc] at hat
                  obtain ⟨Y, cap2, hv, _, hcY, hfY, _, _, _, hYl⟩ := (unhide HL3).at hat
                  injection hv with hv1 _ hv2
                  subst hv1
                  subst hv2
                  cases hfc : f3 c
                  · have HS4 : Hid (stepR b (nmsG gs M) f2 = stepR b (nmsG gs (M.drop (k + 1))) (upd f3 c (false || f3 b))) := by
                      have h := unhide HS3
                      rw [nmsG_drop hk2 hc, stepR, hfc] at h
                      exact h
                    have HOs := hide ((unhide HO3).set (i := c) ((false || f3 b)))
                    have HBs := hide ((unhide HB3).setCell (p := ⟨N, c, none⟩) hNw (.bool ((false || f3 b))))
                    have HLs := hide (rowSet (unhide HL3) c (.bool ((false || f3 b))))
                    have nc2 := (unhide HO3).cell hcl
                    have nb2 := (unhide HO3).cell hb2
                    have nf2 := (unhide HO3).fz
                    have nl2 := (unhide HO3).lt
                    rw [hfc] at nc2
                    clear hc hat hfc
                    go_wp2_with fail
                    go_roundw
                    case rel => exact ⟨k + 1, _, by omega, by go_num, HS4, HOs, HBs, HLs⟩
                    case measure => simp [intOf]; omega
                  · have HS4 : Hid (stepR b (nmsG gs M) f2 = stepR b (nmsG gs (M.drop (k + 1))) (upd f3 c (true || f3 b))) := by
                      have h := unhide HS3
                      rw [nmsG_drop hk2 hc, stepR, hfc] at h
                      exact h
                    have HOs := hide ((unhide HO3).set (i := c) ((true || f3 b)))
                    have HBs := hide ((unhide HB3).setCell (p := ⟨N, c, none⟩) hNw (.bool ((true || f3 b))))
                    have HLs := hide (rowSet (unhide HL3) c (.bool ((true || f3 b))))
                    have nc2 := (unhide HO3).cell hcl
                    have nb2 := (unhide HO3).cell hb2
                    have nf2 := (unhide HO3).fz
                    have nl2 := (unhide HO3).lt
                    rw [hfc] at nc2
                    clear hc hat hfc
                    go_wp2_with fail
                    go_roundw
                    case rel => exact ⟨k + 1, _, by omega, by go_num, HS4, HOs, HBs, HLs⟩
                    case measure => simp [intOf]; omega
                · have hki : ¬ (k : Int) < M.length := by omega
                  have HR4 : Hid (roundR (fsG gs kn) (List.range gs.length) f1 = roundR (fsG gs kn) ((List.range gs.length).drop (b + 1)) f3) := by
                    have h := unhide HS3
                    rw [List.drop_eq_nil_of_le (by omega)] at h
                    have h2 := unhide HR3
                    rw [h] at h2
                    exact h2
                  go_wp2_with fail
                  go_roundw
                  case rel => exact ⟨b + 1, f3, by omega, by go_num, HR4, HO3, HB3⟩
                  case measure => simp [intOf]; omega
            · have hbi : ¬ (b : Int) < gs.length := by omega
              have HR3 : Hid (roundR (fsG gs kn) (List.range gs.length) f1 = f2) := by
                have h := unhide HR2
                rw [List.drop_eq_nil_of_le (by simp; omega)] at h
                exact h
              rw [unhide HR3] at HF2
              go_wp2_with fail
              go_roundw
              case rel => exact ⟨m + 1, f2, by omega, by go_num, HF2, HO2, HB2⟩
              case measure => simp [intOf]; omega
        · have hmi : ¬ (m : Int) < gs.length := by omega
          have HFin : Hid (reachR (fsG gs kn) gs.length a = f1) := by
            have h := unhide HF1
            rw [show gs.length - m = 0 by omega] at h
            exact h
          go_wp2
          go_ret
          refine ⟨N, rfl, ?_, unhide HB1⟩
          rw [unhide HFin]
          exact unhide HO1
end Go.Proofs.YtbojcemamhiodaaGreatDoor
namespace Go.Proofs.YtbojcemamhiodaaGreatDoor
open Go.RowKit
theorem all_tree {w : World} (e : Ex) : Tree w AnyB e → ∀ k ∈ allX e, Tree w AnyB k := by
  refine Ex.ind (P := fun e => Tree w AnyB e → ∀ k ∈ allX e, Tree w AnyB k) (fun e ih h k hk => ?_) e
  rw [allX_def, List.mem_append] at hk
  rcases hk with hk | hk
  · rw [List.mem_flatten] at hk
    obtain ⟨l, hl, hk⟩ := hk
    rw [List.mem_map] at hl
    obtain ⟨y, hy, rfl⟩ := hl
    have h' := h
    rw [Tree_iff] at h'
    exact ih y hy (h'.2.2 y hy) k hk
  · have e1 : k = e := by simpa using hk
    rw [e1]
    exact h
theorem all_unk {un : ByteArray → Bool} (e : Ex) : OkX e → unkX un e = -1 → ∀ k ∈ allX e, unkX un k = -1 := by
  refine Ex.ind (P := fun e => OkX e → unkX un e = -1 → ∀ k ∈ allX e, unkX un k = -1) (fun e ih ho h k hk => ?_) e
  rw [allX_def, List.mem_append] at hk
  rcases hk with hk | hk
  · rw [List.mem_flatten] at hk
    obtain ⟨l, hl, hk⟩ := hk
    rw [List.mem_map] at hl
    obtain ⟨y, hy, rfl⟩ := hl
    exact ih y hy (((OkX_iff e).1 ho).kids y hy) ((unkX_kids h ho).1 y hy) k hk
  · have e1 : k = e := by simpa using hk
    rw [e1]
    exact h
theorem fstP_yes {p : Ex → Bool} {l : List Ex} {j : Nat} (hj : j < l.length) (h : p l[j] = true) : fstP p (l.drop j) = l[j].at_ := by
  rw [List.drop_eq_getElem_cons hj, fstP, if_pos h]
theorem fstP_no {p : Ex → Bool} {l : List Ex} {j : Nat} (hj : j < l.length) (h : p l[j] = false) : fstP p (l.drop j) = fstP p (l.drop (j + 1)) := by
  rw [List.drop_eq_getElem_cons hj, fstP, if_neg (by simp [h])]
theorem firstG_yes {f : Ex → Int} {gs : List RX} {k : Nat} (hk : k < gs.length) (h : f gs[k].ex ≠ -1) : firstG f (gs.drop k) = f gs[k].ex := by
  rw [List.drop_eq_getElem_cons hk, firstG, if_pos (by simpa using h)]
theorem firstG_no {f : Ex → Int} {gs : List RX} {k : Nat} (hk : k < gs.length) (h : f gs[k].ex = -1) : firstG f (gs.drop k) = firstG f (gs.drop (k + 1)) := by
  rw [List.drop_eq_getElem_cons hk, firstG, if_neg (by simp [h])]
theorem twiceL_yes {gs : List RX} {k : Nat} (hk : k < gs.length) (h : findF (rlX gs) gs[k].name < k) : twiceL (rlX gs) ((rlX gs).drop k) k = gs[k].at_ := by
  have hd : (rlX gs).drop k = gs[k].rl :: (rlX gs).drop (k + 1) := by
    rw [List.drop_eq_getElem_cons (by rw [rlX_len]; exact hk)]
    simp [rlX]
  rw [hd, twiceL, if_pos (show findF (rlX gs) gs[k].rl.name < k from h)]
  rfl
theorem twiceL_no {gs : List RX} {k : Nat} (hk : k < gs.length) (h : ¬ findF (rlX gs) gs[k].name < k) : twiceL (rlX gs) ((rlX gs).drop k) k = twiceL (rlX gs) ((rlX gs).drop (k + 1)) ((k + 1 : Nat) : Int) := by
  have hd : (rlX gs).drop k = gs[k].rl :: (rlX gs).drop (k + 1) := by
    rw [List.drop_eq_getElem_cons (by rw [rlX_len]; exact hk)]
    simp [rlX]
  rw [hd, twiceL, if_neg (show ¬ findF (rlX gs) gs[k].rl.name < k from h)]
  rfl
theorem leftG_yes {gs : List RX} {kn : ByteArray → Bool} {k : Nat} (hk : k < gs.length) (h : reachR (fsG gs kn) gs.length k k = true) : leftG gs kn (gs.drop k) k = gs[k].at_ := by
  rw [List.drop_eq_getElem_cons hk, leftG, if_pos h]
theorem leftG_no {gs : List RX} {kn : ByteArray → Bool} {k : Nat} (hk : k < gs.length) (h : reachR (fsG gs kn) gs.length k k = false) : leftG gs kn (gs.drop k) k = leftG gs kn (gs.drop (k + 1)) (k + 1) := by
  rw [List.drop_eq_getElem_cons hk, leftG, if_neg (by simp [h])]
theorem rowAt {w : World} {S : Nat → Prop} {e : TypeId} {ao : Option Addr} {cp n : Nat} {xs : List Value} (h : RowIn w S e 1 (.slice ao n cp) n xs) {i : Nat} {u : Value} (hi : xs[i]? = some u) :
    ∃ B, ao = some ⟨B, 0, none⟩ ∧ w.cell? ⟨B, i, none⟩ = some u ∧ (∀ o, w.frozen? ⟨B, o, none⟩ = false) ∧ B < w.heap.size := by
  obtain ⟨B, cap, hv, _, hc, hf, _, _, _, hB⟩ := h.at hi
  injection hv with hv1 _ hv2
  exact ⟨B, hv1, hc, hf, hB⟩
/-- what lawful answers -/
def OutL (w : World) (g : Nat) (gs : List RX) (x : Ending) (w' : World) : Prop :=
  ∃ p, x = .returned (.tuple #[.pointer p, .int .i64 (lawX gs).1, .int .i64 (lawX gs).2]) ∧ ((lawX gs).1 = 0 → p = some ⟨g, 0, none⟩) ∧ ((lawX gs).1 ≠ 0 → p = none) ∧ Below w.heap.size w w'
/-- rules that have been read -/
structure ReadG (gs : List RX) : Prop where
  ok : ∀ x ∈ gs, OkX x.ex
  size : ∀ x ∈ gs, szX x.ex ≤ 1000000
  at0 : ∀ x ∈ gs, 0 ≤ x.at_
theorem OutL.no {w : World} {g : Nat} {gs : List RX} {w' : World} {e a : Int} (h : lawX gs = (e, a)) (he : e ≠ 0) (hb : Below w.heap.size w w') : OutL w g gs (.returned (.tuple #[.pointer none, .int .i64 e, .int .i64 a])) w' := by
  refine ⟨none, by rw [h], fun h0 => ?_, fun _ => rfl, hb⟩
  rw [h] at h0
  exact absurd h0 he
set_option maxRecDepth 10000 in
set_option maxHeartbeats 16000000 in
theorem lawful_any (w : World) (g : Nat) (nv av ev : Value) (gs : List RX) (hG : GR w g nv av ev gs) (hR : ReadG gs) : Calls Tryz.prog 40 #[.pointer (some ⟨g, 0, none⟩)] w (OutL w g gs) := by
  obtain ⟨g0, g1, g2, hgl⟩ := hG.cells
  obtain ⟨na, nc, rfl⟩ := hG.names.shape
  obtain ⟨aa, ac, rfl⟩ := hG.ats.shape
  obtain ⟨ea, ec, rfl⟩ := hG.exps.shape
  have hfew := hG.names.few
  unfold maxLen at hfew
  have HG := hide hG
  have HRd := hide hR
  obtain ⟨law, hlaw⟩ : ∃ r, lawX gs = r := ⟨_, rfl⟩
  have HLaw := hide hlaw
  clear hG hR hlaw
  by_cases hn0 : gs.length = 0
  · have HL : Hid (lawX gs = (4, 0)) := by unfold lawX Hid; rw [if_pos (.inl hn0)]
    have h1 : (gs.length : Int) < 1 := by omega
    go_enter Tryz.func40, Tryz.ntmps40
    go_wp2
    go_ret3
    exact OutL.no (unhide HL) (by omega) (Below.refl _ _)
  have h1 : ¬ (gs.length : Int) < 1 := by omega
  by_cases hn12 : 12 < gs.length
  · have HL : Hid (lawX gs = (4, 0)) := by unfold lawX Hid; rw [if_pos (.inr hn12)]
    have h2 : (12 : Int) < gs.length := by omega
    go_enter Tryz.func40, Tryz.ntmps40
    go_wp2
    go_ret3
    exact OutL.no (unhide HL) (by omega) (Below.refl _ _)
  have h2 : ¬ (12 : Int) < gs.length := by omega
  have HL1 : Hid (lawX gs = if (twiceL (rlX gs) (rlX gs) 0 != -1) = true then (5, twiceL (rlX gs) (rlX gs) 0) else
      if (firstG (unkX (unR (rlX gs))) gs != -1) = true then (6, firstG (unkX (unR (rlX gs))) gs) else
      if (leftG gs (knF (rlX gs) (knownG gs)) gs 0 != -1) = true then (7, leftG gs (knF (rlX gs) (knownG gs)) gs 0) else
      if (firstG (loopX (knF (rlX gs) (knownG gs))) gs != -1) = true then (8, firstG (loopX (knF (rlX gs) (knownG gs))) gs) else (0, 0)) := by
    unfold lawX Hid
    rw [if_neg (by omega)]
  go_enter Tryz.func40, Tryz.ntmps40
  go_wp2_with fail
  go_loopw [36] (fun i wr => ∃ k : Nat, k ≤ gs.length ∧ i = .int .i64 k ∧ Hid (twiceL (rlX gs) (rlX gs) 0 = twiceL (rlX gs) ((rlX gs).drop k) k) ∧ Hid (Below w.heap.size w wr)) (fun i _ => gs.length - (intOf i).toNat)
  case atStart => exact ⟨0, Nat.zero_le _, rfl, rfl, Below.refl _ _⟩
  case round =>
    obtain ⟨k, hk, rfl, HT, HB⟩ := hrel
    have hG1 := (unhide HG).below (unhide HB)
    obtain ⟨b0, b1, b2, hbl⟩ := hG1.cells
    clear g0 g1 g2
    by_cases hk2 : k < gs.length
    · have hki : (k : Int) < gs.length := by omega
      have hk0 : (0 : Int) ≤ (k : Int) := by omega
      obtain ⟨NB, hNB, nc0, nf0, nl0⟩ := rowAt hG1.names (i := k) (u := .string gs[k].name) (by rw [List.getElem?_map, List.getElem?_eq_getElem hk2]; rfl)
      obtain ⟨AB, hAB, ac0, af0, al0⟩ := rowAt hG1.ats (i := k) (u := .int .i64 gs[k].at_) (by rw [List.getElem?_map, List.getElem?_eq_getElem hk2]; rfl)
      subst hNB
      subst hAB
      have HRu := hide (Rule_any wr g _ _ _ gs gs[k].name hG1)
      have hat0 := (unhide HRd).at0 gs[k] (List.getElem_mem hk2)
      by_cases hx : findF (rlX gs) gs[k].name < k
      · have HL : Hid (lawX gs = (5, gs[k].at_)) := by
          have e1 : twiceL (rlX gs) (rlX gs) 0 = gs[k].at_ := (unhide HT).trans (twiceL_yes hk2 hx)
          unfold Hid
          rw [unhide HL1, e1, if_pos (by simp; omega)]
        generalize hfv : findF (rlX gs) gs[k].name = fv at HRu hx
        clear hG1 hfv
        go_wp2_with fail
        go_at_call 63
        refine (unhide HRu).mono ?_
        rintro x w2 ⟨rfl, hw2⟩
        replace hw2 := hw2.symm
        subst hw2
        go_wp2_with fail
        go_region
        go_wp2
        go_ret3
        exact OutL.no (unhide HL) (by omega) (unhide HB).drew
      · have HT2 : Hid (twiceL (rlX gs) (rlX gs) 0 = twiceL (rlX gs) ((rlX gs).drop (k + 1)) ((k + 1 : Nat) : Int)) := (unhide HT).trans (twiceL_no hk2 hx)
        generalize hfv : findF (rlX gs) gs[k].name = fv at HRu hx
        clear hG1 hfv
        go_wp2_with fail
        go_at_call 63
        refine (unhide HRu).mono ?_
        rintro x w2 ⟨rfl, hw2⟩
        replace hw2 := hw2.symm
        subst hw2
        go_wp2_with fail
        go_roundw
        case rel => exact ⟨k + 1, by omega, by go_num, HT2, HB⟩
        case measure => simp [intOf]; omega
    · have hki : ¬ (k : Int) < gs.length := by omega
      have HL2 : Hid (lawX gs = if (firstG (unkX (unR (rlX gs))) gs != -1) = true then (6, firstG (unkX (unR (rlX gs))) gs) else
          if (leftG gs (knF (rlX gs) (knownG gs)) gs 0 != -1) = true then (7, leftG gs (knF (rlX gs) (knownG gs)) gs 0) else
          if (firstG (loopX (knF (rlX gs) (knownG gs))) gs != -1) = true then (8, firstG (loopX (knF (rlX gs) (knownG gs))) gs) else (0, 0)) := by
        have e1 : twiceL (rlX gs) (rlX gs) 0 = -1 := by
          rw [unhide HT, List.drop_eq_nil_of_le (by rw [rlX_len]; omega)]
          rfl
        unfold Hid
        rw [unhide HL1, e1, if_neg (by simp)]
      clear HL1 HT hG1 hk
      go_wp2_with fail
      go_loopw [59] (fun i wr => ∃ k : Nat, k ≤ gs.length ∧ i = .int .i64 k ∧ Hid (firstG (unkX (unR (rlX gs))) gs = firstG (unkX (unR (rlX gs))) (gs.drop k)) ∧ Hid (Below w.heap.size w wr)) (fun i _ => gs.length - (intOf i).toNat)
      case atStart => exact ⟨0, Nat.zero_le _, rfl, rfl, HB⟩
      case round =>
        obtain ⟨k, hk, rfl, HF, HB3⟩ := hrel
        have hG1 := (unhide HG).below (unhide HB3)
        clear b0 b1 b2 hbl HB
        by_cases hk2 : k < gs.length
        · have hki : (k : Int) < gs.length := by omega
          have hmem : gs[k] ∈ gs := List.getElem_mem hk2
          obtain ⟨EB, hEB, ec0, ef0, el0⟩ := rowAt hG1.exps (i := k) (u := ptrX gs[k].ex) (by rw [List.getElem?_map, List.getElem?_eq_getElem hk2]; rfl)
          subst hEB
          have HC := hide (all_any gs[k].ex wr (hG1.trees _ hmem) ((unhide HRd).size _ hmem))
          have HTr := hide (all_tree gs[k].ex (hG1.trees _ hmem))
          have HOx := hide (allX_ok gs[k].ex ((unhide HRd).ok _ hmem))
          have HUk := hide (unk_all (unR (rlX gs)) gs[k].ex ((unhide HRd).ok _ hmem))
          have hzb := (unhide HB3).size
          have hlen := allX_len gs[k].ex
          have hsz := (unhide HRd).size _ hmem
          unfold ptrX at ec0 HC
          clear hG1
          go_wp2_with fail
          go_at_call 64
          refine (unhide HC).mono ?_
          rintro x w2 ⟨v2, rfl, hown2, hb2⟩
          obtain ⟨L, hL⟩ : ∃ L, allX gs[k].ex = L := ⟨_, rfl⟩
          have hE : allE gs[k].ex = L.map ptrX := by unfold allE; rw [hL]
          rw [hE, hL] at hown2
          rw [hL] at hlen HTr HOx HUk
          have hLl : L.length ≤ 1000000 := by omega
          obtain ⟨la, lc, rfl⟩ := own_shape hown2
          have HLr := hide ((RowIn.of_owns hown2).any)
          have HT2 := hide (fun y (hy : y ∈ L) => (unhide HTr y hy).below hb2)
          have HB2 := hide ((unhide HB3).trans (hb2.mono hzb))
          clear hown2 hb2 hE hlen hsz HTr HC
          go_wp2_with fail
          go_loopw [66] (fun i wr => ∃ j : Nat, j ≤ L.length ∧ i = .int .i64 j ∧ Hid (fstP (fun x => x.op == 2 && unR (rlX gs) x.str) L = fstP (fun x => x.op == 2 && unR (rlX gs) x.str) (L.drop j)) ∧ Hid (Below w2.heap.size w2 wr)) (fun i _ => L.length - (intOf i).toNat)
          case atStart => exact ⟨0, Nat.zero_le _, rfl, rfl, Below.refl _ _⟩
          case round =>
            obtain ⟨j, hj, rfl, HP, HBj⟩ := hrel
            have HBw := hide ((unhide HB2).trans ((unhide HBj).mono (unhide HB2).size))
            by_cases hj2 : j < L.length
            · have hji : (j : Int) < L.length := by omega
              have hjm : L[j] ∈ L := List.getElem_mem hj2
              obtain ⟨LB, hLB, lc0, lf0, ll0⟩ := rowAt ((unhide HLr).below (unhide HBj)) (i := j) (u := ptrX L[j]) (by rw [List.getElem?_map, List.getElem?_eq_getElem hj2]; rfl)
              subst hLB
              have hty := (unhide HT2 _ hjm).below (unhide HBj)
              rw [Tree_iff] at hty
              obtain ⟨_, ⟨lv, hxb, hxr⟩, _⟩ := hty
              have y0 := hxb.c0
              have y2 := hxb.c2
              have ya := hxb.cat
              have yl := hxb.lt
              have hyo := (OkX_iff _).1 (unhide HOx _ hjm)
              have hya := hyo.at0
              have e2 : ((opW L[j].op).toList == [114, 117, 108, 101]) = (L[j].op == 2) := opL 2 _ (by decide +kernel) hyo.op (by omega)
              have HYes := hide (fun (h : (fun x : Ex => x.op == 2 && unR (rlX gs) x.str) L[j] = true) => (show lawX gs = (6, L[j].at_) by
                have e1 : unkX (unR (rlX gs)) gs[k].ex = L[j].at_ := by rw [unhide HUk, unhide HP, fstP_yes hj2 h]
                have e3 : firstG (unkX (unR (rlX gs))) gs = L[j].at_ := by rw [unhide HF, firstG_yes hk2 (by omega), e1]
                rw [unhide HL2, e3, if_pos (by simp; omega)]))
              have HNo := hide (fun (h : (fun x : Ex => x.op == 2 && unR (rlX gs) x.str) L[j] = false) => (unhide HP).trans (fstP_no hj2 h))
              unfold ptrX at lc0
              generalize L[j] = y at lc0 y0 y2 ya yl hya e2 HYes HNo
              clear hxb hxr hyo HP HT2 HOx
              by_cases hy2 : y.op = 2
              · rw [show (y.op == 2) = true by simpa using hy2] at e2
                have HRu := hide (Rule_any wr g _ _ _ gs y.str ((unhide HG).below (unhide HBw)))
                by_cases hun : findF (rlX gs) y.str < 0
                · have HL := hide (unhide HYes (by simp [hy2, unR, hun]))
                  generalize findF (rlX gs) y.str = fv at HRu hun
                  clear HYes HNo hy2
                  go_wp2_with fail
                  go_at_call 63
                  refine (unhide HRu).mono ?_
                  rintro x w3 ⟨rfl, hw3⟩
                  replace hw3 := hw3.symm
                  subst hw3
                  go_wp2_with fail
                  go_region
                  go_wp2
                  go_ret3
                  exact OutL.no (unhide HL) (by omega) (unhide HBw).drew
                · have HP2 := hide (unhide HNo (by simp [hy2, unR]; omega))
                  generalize findF (rlX gs) y.str = fv at HRu hun
                  clear HYes HNo hy2
                  go_wp2_with fail
                  go_at_call 63
                  refine (unhide HRu).mono ?_
                  rintro x w3 ⟨rfl, hw3⟩
                  replace hw3 := hw3.symm
                  subst hw3
                  go_wp2_with fail
                  go_roundw
                  case rel => exact ⟨j + 1, by omega, by go_num, HP2, HBj⟩
                  case measure => simp [intOf]; omega
              · rw [show (y.op == 2) = false by simpa using hy2] at e2
                have HP2 := hide (unhide HNo (by simp [hy2]))
                clear HYes HNo hy2
                go_wp2_with fail
                go_roundw
                case rel => exact ⟨j + 1, by omega, by go_num, HP2, HBj⟩
                case measure => simp [intOf]; omega
            · have hji : ¬ (j : Int) < L.length := by omega
              have HF2 : Hid (firstG (unkX (unR (rlX gs))) gs = firstG (unkX (unR (rlX gs))) (gs.drop (k + 1))) := by
                have e1 : unkX (unR (rlX gs)) gs[k].ex = -1 := by
                  rw [unhide HUk, unhide HP, List.drop_eq_nil_of_le (by omega)]
                  rfl
                exact (unhide HF).trans (firstG_no hk2 e1)
              go_wp2_with fail
              go_roundw
              case rel => exact ⟨k + 1, by omega, by go_num, HF2, HBw⟩
              case measure => simp [intOf]; omega
        · have hki : ¬ (k : Int) < gs.length := by omega
          have hfn : firstG (unkX (unR (rlX gs))) gs = -1 := by
            rw [unhide HF, List.drop_eq_nil_of_le (by omega)]
            rfl
          have HL3 : Hid (lawX gs = if (leftG gs (knF (rlX gs) (knownG gs)) gs 0 != -1) = true then (7, leftG gs (knF (rlX gs) (knownG gs)) gs 0) else
              if (firstG (loopX (knF (rlX gs) (knownG gs))) gs != -1) = true then (8, firstG (loopX (knF (rlX gs) (knownG gs))) gs) else (0, 0)) := by
            unfold Hid
            rw [unhide HL2, hfn, if_neg (by simp)]
          have HOk : Hid (OkG gs) := ⟨by omega, (unhide HRd).ok, firstG_none hfn, (unhide HRd).size⟩
          have HC := hide (empties_any wr g _ _ _ gs hG1 (unhide HOk))
          have hzb := (unhide HB3).size
          clear HL2 HF hfn hG1 hk
          go_wp2_with fail
          go_at_call 65
          refine (unhide HC).mono ?_
          rintro x w2 ⟨B, rfl, hown2, hb2⟩
          have HB2 := hide ((unhide HB3).trans (hb2.mono hzb))
          have HKn := hide hown2.rowB
          obtain ⟨b0, b1, b2, hbl⟩ := ((unhide HG).below (unhide HB2)).cells
          obtain ⟨kn, hkn⟩ : ∃ kn, knF (rlX gs) (knownG gs) = kn := ⟨_, rfl⟩
          have HKe := hide hkn
          rw [hkn] at HL3
          clear hown2 hb2 hkn HC HB3
          go_wp2_with fail
          go_loopw [97] (fun i wr => ∃ k : Nat, k ≤ gs.length ∧ i = .int .i64 k ∧ Hid (leftG gs kn gs 0 = leftG gs kn (gs.drop k) k) ∧ Hid (Below w2.heap.size w2 wr)) (fun i _ => gs.length - (intOf i).toNat)
          case atStart => exact ⟨0, Nat.zero_le _, rfl, rfl, Below.refl _ _⟩
          case round =>
            obtain ⟨k, hk, rfl, HF, HB4⟩ := hrel
            have HBw := hide ((unhide HB2).trans ((unhide HB4).mono (unhide HB2).size))
            have hG1 := (unhide HG).below (unhide HBw)
            clear b0 b1 b2 hbl
            by_cases hk2 : k < gs.length
            · have hki : (k : Int) < gs.length := by omega
              have hk0 : (0 : Int) ≤ (k : Int) := by omega
              have HC := hide (reached_any wr g _ _ _ (.slice (some ⟨B, 0, none⟩) gs.length gs.length) gs (knownG gs) hG1 (unhide HOk) ((unhide HKn).below (unhide HB4)) k hk2)
              rw [unhide HKe] at HC
              have hat0 := (unhide HRd).at0 gs[k] (List.getElem_mem hk2)
              have hzb := (unhide HBw).size
              clear hG1
              go_wp2_with fail
              go_at_call 66
              refine (unhide HC).mono ?_
              rintro x w4 ⟨B2, rfl, hown4, hb4⟩
              have hcc := hown4.cell hk2
              have hcf := hown4.fz
              have hcl := hown4.lt
              have HB5 := hide ((unhide HBw).trans (hb4.mono hzb))
              have HB6 := hide ((unhide HB4).trans (hb4.mono (unhide HB4).size))
              have hG2 := (unhide HG).below (unhide HB5)
              obtain ⟨b0, b1, b2, hbl⟩ := hG2.cells
              obtain ⟨AB, hAB, ac0, af0, al0⟩ := rowAt hG2.ats (i := k) (u := .int .i64 gs[k].at_) (by rw [List.getElem?_map, List.getElem?_eq_getElem hk2]; rfl)
              subst hAB
              cases hr : reachR (fsG gs kn) gs.length k k
              · rw [hr] at hcc
                have HF2 := hide ((unhide HF).trans (leftG_no hk2 hr))
                clear hown4 hb4 hG2 hr
                go_wp2_with fail
                go_roundw
                case rel => exact ⟨k + 1, by omega, by go_num, HF2, HB6⟩
                case measure => simp [intOf]; omega
              · rw [hr] at hcc
                have HL : Hid (lawX gs = (7, gs[k].at_)) := by
                  have e3 : leftG gs kn gs 0 = gs[k].at_ := (unhide HF).trans (leftG_yes hk2 hr)
                  unfold Hid
                  rw [unhide HL3, e3, if_pos (by simp; omega)]
                clear hown4 hb4 hG2 hr
                go_wp2_with fail
                go_region
                go_wp2
                go_ret3
                exact OutL.no (unhide HL) (by omega) (unhide HB5).drew
            · have hki : ¬ (k : Int) < gs.length := by omega
              have HL4 : Hid (lawX gs = if (firstG (loopX kn) gs != -1) = true then (8, firstG (loopX kn) gs) else (0, 0)) := by
                have e1 : leftG gs kn gs 0 = -1 := by
                  rw [unhide HF, List.drop_eq_nil_of_le (by omega)]
                  rfl
                unfold Hid
                rw [unhide HL3, e1, if_neg (by simp)]
              obtain ⟨b0, b1, b2, hbl⟩ := hG1.cells
              clear HL3 HF hG1 hk
              go_wp2_with fail
              go_loopw [120] (fun i wr => ∃ k : Nat, k ≤ gs.length ∧ i = .int .i64 k ∧ Hid (firstG (loopX kn) gs = firstG (loopX kn) (gs.drop k)) ∧ Hid (Below w2.heap.size w2 wr)) (fun i _ => gs.length - (intOf i).toNat)
              case atStart => exact ⟨0, Nat.zero_le _, rfl, rfl, HB4⟩
              case round =>
                obtain ⟨k, hk, rfl, HF, HB7⟩ := hrel
                clear HBw HB4 b0 b1 b2 hbl
                have HBw := hide ((unhide HB2).trans ((unhide HB7).mono (unhide HB2).size))
                have hG1 := (unhide HG).below (unhide HBw)
                by_cases hk2 : k < gs.length
                · have hki : (k : Int) < gs.length := by omega
                  have hmem : gs[k] ∈ gs := List.getElem_mem hk2
                  obtain ⟨EB, hEB, ec0, ef0, el0⟩ := rowAt hG1.exps (i := k) (u := ptrX gs[k].ex) (by rw [List.getElem?_map, List.getElem?_eq_getElem hk2]; rfl)
                  subst hEB
                  have HC := hide (all_any gs[k].ex wr (hG1.trees _ hmem) ((unhide HRd).size _ hmem))
                  have HTr := hide (all_tree gs[k].ex (hG1.trees _ hmem))
                  have HOx := hide (allX_ok gs[k].ex ((unhide HRd).ok _ hmem))
                  have HUx := hide (all_unk gs[k].ex ((unhide HRd).ok _ hmem) ((unhide HOk).unk _ hmem))
                  have HUk := hide (loop_all kn gs[k].ex ((unhide HRd).ok _ hmem))
                  have hlen := allX_len gs[k].ex
                  have hsz := (unhide HRd).size _ hmem
                  unfold ptrX at ec0 HC
                  clear hG1
                  go_wp2_with fail
                  go_at_call 64
                  refine (unhide HC).mono ?_
                  rintro x w5 ⟨v5, rfl, hown5, hb5⟩
                  obtain ⟨L, hL⟩ : ∃ L, allX gs[k].ex = L := ⟨_, rfl⟩
                  have hE : allE gs[k].ex = L.map ptrX := by unfold allE; rw [hL]
                  rw [hE, hL] at hown5
                  rw [hL] at hlen HTr HOx HUk HUx
                  have hLl : L.length ≤ 1000000 := by omega
                  obtain ⟨la, lc, rfl⟩ := own_shape hown5
                  have HLr := hide ((RowIn.of_owns hown5).any)
                  have HT5 := hide (fun y (hy : y ∈ L) => (unhide HTr y hy).below hb5)
                  have HB5 := hide ((unhide HB7).trans (hb5.mono (unhide HB7).size))
                  clear hown5 hb5 hE hlen hsz HTr HC
                  go_wp2_with fail
                  go_loopw [127] (fun i wr => ∃ j : Nat, j ≤ L.length ∧ i = .int .i64 j ∧ Hid (fstP (fun x => (x.op == 9 || x.op == 10) && x.kids.all (bareX kn)) L = fstP (fun x => (x.op == 9 || x.op == 10) && x.kids.all (bareX kn)) (L.drop j)) ∧ Hid (Below w5.heap.size w5 wr)) (fun i _ => L.length - (intOf i).toNat)
                  case atStart => exact ⟨0, Nat.zero_le _, rfl, rfl, Below.refl _ _⟩
                  case round =>
                    obtain ⟨j, hj, rfl, HP, HBj⟩ := hrel
                    have HBk := hide ((unhide HB5).trans ((unhide HBj).mono (unhide HB5).size))
                    have HBv := hide ((unhide HB2).trans ((unhide HBk).mono (unhide HB2).size))
                    by_cases hj2 : j < L.length
                    · have hji : (j : Int) < L.length := by omega
                      have hjm : L[j] ∈ L := List.getElem_mem hj2
                      obtain ⟨LB, hLB, lc0, lf0, ll0⟩ := rowAt ((unhide HLr).below (unhide HBj)) (i := j) (u := ptrX L[j]) (by rw [List.getElem?_map, List.getElem?_eq_getElem hj2]; rfl)
                      subst hLB
                      have hty := (unhide HT5 _ hjm).below (unhide HBj)
                      rw [Tree_iff] at hty
                      obtain ⟨_, ⟨lv, hxb, hxr⟩, hxk⟩ := hty
                      obtain ⟨ka, kc, rfl⟩ := hxr.shape
                      have y0 := hxb.c0
                      have y1 := hxb.c1
                      have ya := hxb.cat
                      have yl := hxb.lt
                      have hyo := (OkX_iff _).1 (unhide HOx _ hjm)
                      have hya := hyo.at0
                      have e9 : ((opW L[j].op).toList == [42]) = (L[j].op == 9) := opL 9 _ (by decide +kernel) hyo.op (by omega)
                      have e10 : ((opW L[j].op).toList == [43]) = (L[j].op == 10) := opL 10 _ (by decide +kernel) hyo.op (by omega)
                      have HYes := hide (fun (h : (fun x : Ex => (x.op == 9 || x.op == 10) && x.kids.all (bareX kn)) L[j] = true) => (show lawX gs = (8, L[j].at_) by
                        have e1 : loopX kn gs[k].ex = L[j].at_ := by rw [unhide HUk, unhide HP, fstP_yes hj2 h]
                        have e3 : firstG (loopX kn) gs = L[j].at_ := by rw [unhide HF, firstG_yes hk2 (by omega), e1]
                        rw [unhide HL4, e3, if_pos (by simp; omega)]))
                      have HNo := hide (fun (h : (fun x : Ex => (x.op == 9 || x.op == 10) && x.kids.all (bareX kn)) L[j] = false) => (unhide HP).trans (fstP_no hj2 h))
                      have HUy := hide (unkX_kids (unhide HUx _ hjm) (unhide HOx _ hjm)).1
                      have HXr := hide hxr
                      have HXk := hide hxk
                      have HYo := hide hyo
                      unfold ptrX at lc0
                      generalize L[j] = y at lc0 y0 y1 ya yl hya e9 e10 HYes HNo HUy HXr HXk HYo
                      clear hxb hxr hyo HP HT5 HOx HUx hxk
                      by_cases hy2 : y.op = 9 ∨ y.op = 10
                      · have hk1 := (unhide HYo).one (by omega)
                        obtain ⟨z, hz⟩ : ∃ z, y.kids = [z] := List.length_eq_one_iff.1 hk1
                        have hzm : z ∈ y.kids := by rw [hz]; simp
                        have hxr1 := unhide HXr
                        rw [hz] at hxr1
                        obtain ⟨ZB, hZB, zc0, zf0, zl0⟩ := rowAt hxr1 (i := 0) (u := ptrX z) rfl
                        subst hZB
                        have HBa := hide (refBare_any wr g _ _ _ (.slice (some ⟨B, 0, none⟩) gs.length gs.length) gs (knownG gs) ((unhide HG).below (unhide HBv)) ((unhide HKn).below (unhide HBk)) z (unhide HXk z hzm) ((unhide HYo).kids z hzm) (unhide HUy z hzm))
                        rw [unhide HKe] at HBa
                        unfold ptrX at zc0 HBa
                        rw [hz] at y1
                        have HA : Hid (y.kids.all (bareX kn) = bareX kn z) := by unfold Hid; rw [hz]; simp
                        cases hbz : bareX kn z
                        · rw [hbz] at HBa HA
                          have HP2 := hide (unhide HNo (by simp [unhide HA]))
                          clear HYes HNo hxr1 hk1 hz
                          rcases hy2 with hy9 | hy10
                          · rw [show (y.op == 9) = true by simpa using hy9] at e9
                            clear hy9 e10 hbz
                            go_wp2_with fail
                            go_at_call 67
                            refine (unhide HBa).mono ?_
                            rintro x w6 ⟨rfl, hw6⟩
                            replace hw6 := hw6.symm
                            subst hw6
                            go_wp2_with fail
                            go_roundw
                            case rel => exact ⟨j + 1, by omega, by go_num, HP2, HBj⟩
                            case measure => simp [intOf]; omega
                          · rw [show (y.op == 9) = false by simp; omega] at e9
                            rw [show (y.op == 10) = true by simpa using hy10] at e10
                            clear hy10 hbz
                            go_wp2_with fail
                            go_at_call 67
                            refine (unhide HBa).mono ?_
                            rintro x w6 ⟨rfl, hw6⟩
                            replace hw6 := hw6.symm
                            subst hw6
                            go_wp2_with fail
                            go_roundw
                            case rel => exact ⟨j + 1, by omega, by go_num, HP2, HBj⟩
                            case measure => simp [intOf]; omega
                        · rw [hbz] at HBa HA
                          have HL := hide (unhide HYes (by simp [unhide HA]; exact hy2))
                          clear HYes HNo hxr1 hk1 hz
                          rcases hy2 with hy9 | hy10
                          · rw [show (y.op == 9) = true by simpa using hy9] at e9
                            clear hy9 e10 hbz
                            go_wp2_with fail
                            go_at_call 67
                            refine (unhide HBa).mono ?_
                            rintro x w6 ⟨rfl, hw6⟩
                            replace hw6 := hw6.symm
                            subst hw6
                            go_wp2_with fail
                            go_region
                            go_wp2
                            go_ret3
                            exact OutL.no (unhide HL) (by omega) (unhide HBv).drew
                          · rw [show (y.op == 9) = false by simp; omega] at e9
                            rw [show (y.op == 10) = true by simpa using hy10] at e10
                            clear hy10 hbz
                            go_wp2_with fail
                            go_at_call 67
                            refine (unhide HBa).mono ?_
                            rintro x w6 ⟨rfl, hw6⟩
                            replace hw6 := hw6.symm
                            subst hw6
                            go_wp2_with fail
                            go_region
                            go_wp2
                            go_ret3
                            exact OutL.no (unhide HL) (by omega) (unhide HBv).drew
                      · rw [show (y.op == 9) = false by simp; omega] at e9
                        rw [show (y.op == 10) = false by simp; omega] at e10
                        have HP2 := hide (unhide HNo (by simp; omega))
                        clear HYes HNo hy2
                        go_wp2_with fail
                        go_roundw
                        case rel => exact ⟨j + 1, by omega, by go_num, HP2, HBj⟩
                        case measure => simp [intOf]; omega
                    · have hji : ¬ (j : Int) < L.length := by omega
                      have HF2 : Hid (firstG (loopX kn) gs = firstG (loopX kn) (gs.drop (k + 1))) := by
                        have e1 : loopX kn gs[k].ex = -1 := by
                          rw [unhide HUk, unhide HP, List.drop_eq_nil_of_le (by omega)]
                          rfl
                        exact (unhide HF).trans (firstG_no hk2 e1)
                      go_wp2_with fail
                      go_roundw
                      case rel => exact ⟨k + 1, by omega, by go_num, HF2, HBk⟩
                      case measure => simp [intOf]; omega
                · have hki : ¬ (k : Int) < gs.length := by omega
                  have HL : Hid (lawX gs = (0, 0)) := by
                    have e1 : firstG (loopX kn) gs = -1 := by
                      rw [unhide HF, List.drop_eq_nil_of_le (by omega)]
                      rfl
                    unfold Hid
                    rw [unhide HL4, e1, if_neg (by simp)]
                  go_wp2
                  go_ret3
                  have hl := unhide HL
                  exact ⟨some ⟨g, 0, none⟩, by rw [hl]; rfl, fun _ => rfl, fun h => absurd (by rw [hl]) h, unhide HBw⟩
end Go.Proofs.YtbojcemamhiodaaGreatDoor

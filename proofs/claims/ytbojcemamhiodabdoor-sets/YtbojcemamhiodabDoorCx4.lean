import Derived.Test.YtbojcemamhiodabDoorCx3
import Derived.Deep.RegionHeld3
import Derived.Deep.RegionLaw
import Derived.Deep.AppendLies
namespace Go.Proofs.YtbojcemamhiodabDoor
open Go.RowKit

theorem own_take {w : World} {lo : Nat} {e : TypeId} {g n cp k : Nat} {xs : List Value} (h : w.ownsRow lo e 1 (.slice (some ⟨g, 0, none⟩) n cp) n xs) (hk : k ≤ n) : w.ownsRow lo e 1 (.slice (some ⟨g, 0, none⟩) k cp) k (xs.take k) := by
  have hl := h.1
  rcases h.2 with ⟨e1, _⟩ | ⟨g', cap, cur, hv, hlo, hh, hle, hcm, hcs, ht⟩
  · cases e1
  · injection hv with e1 e2 e3
    injection e1 with e1
    injection e1 with e1
    subst e1
    subst e3
    refine ⟨by rw [List.length_take]; omega, .inr ⟨g, cp, cur, rfl, hlo, hh, by omega, hcm, hcs, ?_⟩⟩
    rw [← ht, List.take_take]
    congr 1
    omega
/-- the list of what is caught within a part, and its brackets -/
def witC (o : List UInt8) (y : List Ct) : List UInt8 := match y with | [] => o | c :: l => outC (o ++ [40]) (c :: l) ++ [41]

theorem step_appendS {w : World} {ops : Array Oper} {o : Oper} {a : Act} {K : Act → World → Prop} {Q : Exit → Act → World → Prop} {E : Prop} (hgd : o.guard = none) (sl x : Operand)
    (ho : o.op = .call { callee := .builtin .append, args := #[sl, x], argTypes := #[22, 9] })
    (base : Nat) (v : Value) (l : List UInt8) (hs : a.eval sl = v) (hown : w.ownsRow base 5 1 v l.length (u8s l)) (s : ByteArray) (hx : a.eval x = .string s)
    (hbytes : l.length + s.size ≤ 140737488355328) (hbase : base ≤ w.heap.size)
    (h : ∀ v' w', OwnB w' base v' (l ++ s.data.toList) → Hid (w.grownBy w' v.ownBlock) → Hid (∀ k, v'.ownBlock = some k → v.ownBlock = some k ∨ w.heap.size ≤ k) → K (a.put o.dst v') w') :
    if Region.wanted o (yielded ops a.tmps) = true then Oper.wp Tryd.prog o a w K Q else E := by
  have hw : Region.wanted o (yielded ops a.tmps) = true := by simp [Region.wanted, hgd]
  rw [if_pos hw]
  obtain ⟨i, hi, hz, hsz, hby⟩ := info_parts infoB
  obtain ⟨v', w', hr, h2, h3, h4⟩ := run_appendS w base 22 9 o.type 5 i Tryd.underlying22 Tryd.underlying9 hi hz hsz hby v l.length _ hown s (by unfold maxLen; omega) hbytes hbase
  unfold Oper.wp execOp
  simp only [ho, resolve, invoke, builtin, Sem.run_bind, Sem.run_pure, Result.andThen_ok, List.map_toArray, List.map_cons, List.map_nil, hs, hx, hr]
  refine h v' w' ?_ h3 h4
  have e : (l ++ s.data.toList).length = l.length + s.size := by rw [List.length_append]; rfl
  unfold OwnB
  rw [e, u8s_app]
  exact h2

section
variable {S : Nat → Prop} {p nb lo cb sb : Nat} {tv : Value} {T : List Tm} {s : ByteArray} {m : Int → Int → Option Int} {c : Int → Int → Option (List Ct)} {ov ov' : Value} {w w' w1 : World} {o o' : List UInt8}

set_option maxRecDepth 4000 in
set_option maxHeartbeats 4000000 in
theorem cwithin_any (hrow : SaidC S p nb lo cb sb tv T s m 59 (rowC m c)) (w : World) (ov : Value) (o : List UInt8) (ks : List Int) (ao : Option Addr) (n cp : Nat) (a : Int) (y : List Ct) (hC : Cx w S p nb lo cb sb tv T s m ov o) (hl : IntR w S (.slice ao n cp) ks) (h0 : 0 ≤ a) (h1 : a ≤ s.size) (hr : rowC m c ks a = some y) (hb0 : o.length ≤ 70368744177664) (hb : y ≠ [] → (outC (o ++ [40]) y).length ≤ 70368744177664) :
    Calls Tryd.prog 67 #[.pointer (some ⟨cb, 0, none⟩), .slice ao n cp, .int .i64 a] w (OutX S p nb lo cb sb tv T s m w ov (witC o y)) := by
  obtain ⟨c0, c1, c2, cf, hcb⟩ := hC.cells
  obtain ⟨aov, cpv, rfl, hcv, _⟩ := hC.shape
  have hlo := hC.lt.2.2.2.2
  have HO := hide hC.out
  have HC := hide hC
  have HL := hide hl
  have HR := hide hr
  have Hrow := hide hrow
  have HB := hide hb
  have hlen : o.length + 1 ≤ 140737488355328 := by omega
  clear hC hl hr hrow hb
  go_enter Tryd.func67, Tryd.ntmps67
  go_wp2_with (first | (at_builtin; refine wpList_append1 rfl (.tmp 16) (.tmp 17) rfl lo _ o rfl 40 40 rfl _ (unhide HO) _ rfl rfl hlen hlo ?_) | fail)
  intro v1 w1 hown hgr hob
  have HP := hide ((unhide HC).put hgr hown hob)
  obtain ⟨k2, kf⟩ := (unhide HC).keepC hgr
  obtain ⟨_, _, _, hsh⟩ := hown.shape
  subst hsh
  clear hown hgr hob c0 c1 c2 cf
  have HT := hide (unhide Hrow _ _ (o ++ [40]) ks ao n cp a y (unhide HP).1 ((unhide HL).fx (unhide HC) (unhide HP).2) h0 h1 (unhide HR) (unhide HB))
  go_wp2_with fail
  go_at_call 59
  refine (unhide HT).mono ?_
  rintro e w2 ⟨v2, rfl, hC2, hF2⟩
  have HF2 := hide ((unhide HP).2.trans hF2)
  obtain ⟨d0, d1, d2, df, hdb⟩ := hC2.cells
  obtain ⟨ao2, cp2, rfl, hcp2, hcm2⟩ := hC2.shape
  have hlo2 := hC2.lt.2.2.2.2
  have HC2 := hide hC2
  have HO2 := hide hC2.out
  clear hC2 hF2 k2 kf
  cases y with
  | nil =>
    have e1 : outC (o ++ [40]) [] = o ++ [40] := rfl
    rw [e1] at HC2 d2 hcp2 HO2
    simp only [List.length_append, List.length_cons, List.length_nil] at d2 hcp2
    obtain ⟨g, cp3, hv, _, hg⟩ := (unhide HC2).out.form (by simp)
    injection hv with hv1 _ hv3
    subst hv1
    have HT2 := hide (own_take (k := o.length) (unhide HO2) (by simp))
    have HPT := hide ((unhide HC2).put (w1 := w2) (ov' := .slice (some ⟨g, 0, none⟩) o.length cp2) (o' := o) ⟨rfl, rfl, rfl, Nat.le_refl _, fun _ _ _ => rfl⟩ (by have := unhide HT2; rw [u8s_app, List.take_left' (u8s_length o)] at this; exact this) (fun k hk => .inl hk))
    have hcpI : (o.length : Int) ≤ cp2 := by omega
    clear hv3
    go_wp2
    go_end0
    exact ⟨_, rfl, (unhide HPT).1, (unhide HF2).trans (unhide HPT).2⟩
  | cons q l =>
    have hmore := outC_more q l (o ++ [40])
    have hbb := unhide HB (by simp)
    obtain ⟨z, hz⟩ : ∃ z, outC (o ++ [40]) (q :: l) = z := ⟨_, rfl⟩
    have HW : Hid (witC o (q :: l) = z ++ [41]) := by unfold Hid witC; rw [← hz]
    rw [hz] at hmore hbb d2 hcp2 HC2 HO2 HF2
    simp only [List.length_append, List.length_cons, List.length_nil] at hmore
    have hne : ((z.length : Int) == (o.length : Int) + 1) = false := by simp; omega
    have hlen2 : z.length + 1 ≤ 140737488355328 := by omega
    clear hz
    go_wp2_with (first | (at_builtin; refine wpList_append1 rfl (.tmp 46) (.tmp 47) rfl lo _ z rfl 41 41 rfl _ (unhide HO2) _ rfl rfl hlen2 hlo2 ?_) | fail)
    intro v3 w3 hown hgr hob
    have HP3 := hide ((unhide HC2).put hgr hown hob)
    obtain ⟨k2, kf⟩ := (unhide HC2).keepC hgr
    obtain ⟨_, _, _, hsh⟩ := hown.shape
    subst hsh
    clear hown hgr hob d0 d1 d2 df
    go_wp2
    go_end0
    exact ⟨_, rfl, by rw [unhide HW]; exact (unhide HP3).1, (unhide HF2).trans (unhide HP3).2⟩

theorem box_keep {w w1 : World} {ob : Obj} (hC : Cx w S p nb lo cb sb tv T s m ov o) (hf : Fx nb cb sb ov ov' (w.alloc ob) w1) : w1.heap[w.heap.size]? = some ob := by
  have hl := hC.lt
  exact (hf.block w.heap.size (by simp) (by omega) (by omega) (by omega) (fun e => by have := hC.outLt _ e; omega)).trans (heap_alloc_new w ob)
theorem three_x {w : World} {b : Nat} {x y z : Value} (h : w.heap[b]? = some (.cells #[x, y, z] 66)) : w.cell? ⟨b, 0, none⟩ = some x ∧ w.cell? ⟨b, 1, none⟩ = some y ∧ w.cell? ⟨b, 2, none⟩ = some z ∧ b < w.heap.size := by
  refine ⟨?_, ?_, ?_, (Array.getElem?_eq_some_iff.1 h).1⟩
  all_goals simp [World.cell?, h]
/-- a part's head -/
def headC (o : List UInt8) (name : List UInt8) (a r : Nat) : List UInt8 := btwC o ++ (if name = [] then [] else name ++ [61]) ++ decC a ++ [45] ++ decC r
theorem wrC_place (a : Int) : wrC (.mk a (-1) [] []) = decC a := by
  unfold wrC
  rw [if_pos rfl]
theorem wrC_part (a r : Nat) (name : List UInt8) (y : List Ct) : wrC (.mk a r name y) = (if name = [] then [] else name ++ [61]) ++ decC a ++ [45] ++ decC r ++ (match y with | [] => [] | c :: l => 40 :: (wrC c ++ wrC.rest l) ++ [41]) := by
  conv => lhs; unfold wrC
  rw [if_neg (by omega)]
  cases y <;> rfl
theorem part_out {o : List UInt8} {name : List UInt8} {a r : Nat} {y : List Ct} (hy : ∀ x ∈ y, CtOk x) : witC (headC o name a r) y = outC o [.mk a r name y] := by
  show _ = btwC o ++ wrC (.mk a r name y)
  rw [wrC_part]
  cases y with
  | nil => simp [witC, headC]
  | cons q l =>
    show outC (headC o name a r ++ [40]) (q :: l) ++ [41] = _
    rw [outC_open _ _ hy]
    simp [headC, wrL]
end
end Go.Proofs.YtbojcemamhiodabDoor

import Derived.Test.YtbojcemamhiodaaGreatDoorRecC
import Derived.Deep.DeepCutAuto
namespace Go.Proofs.YtbojcemamhiodaaGreatDoor
open Go.RowKit

theorem signsF_yes {s : ByteArray} {k : Nat} {n : Nd} {t : Tk} (h : (t.k == 9 || t.k == 10 || t.k == 11) = true) :
    signsF s (k + 1) n t = signsF s k ⟨repK t.k, t.from_, ByteArray.empty, [n]⟩ (nextT s t.to) := by rw [signsF, if_pos h]
theorem signsF_no {s : ByteArray} {k : Nat} {n : Nd} {t : Tk} (h : (t.k == 9 || t.k == 10 || t.k == 11) = false) : signsF s k n t = (n, t) := by
  cases k with
  | zero => rfl
  | succ k => rw [signsF, if_neg (by simp [h])]

theorem ofIsK_one {w : World} {S : Nat → Prop} {h : Nat} {kv : Value} {t : Nd} (hn : IsK w S h kv t.kids) (hS : S w.heap.size) :
    IsK (w.alloc (.cells (t.cs kv).toArray 118)) S (h + 1) (.slice (some ⟨w.heap.size, 0, none⟩) 1 1) [t] := by
  refine ⟨t.cs kv, ?_, kv, [], by simp, hn.turn (fun b hb hz => ⟨hb, Below.heap_alloc _ _ _ hz⟩), rfl⟩
  exact ⟨rfl, .inr ⟨w.heap.size, 1, (t.cs kv).toArray, rfl, hS, heap_alloc_new w _, Nat.le_refl _, by unfold maxLen; omega, rfl, rfl⟩⟩

/-- the token's place, out of the parser's block -/
def fromIn (q : Nat) (w : World) : Int := intOf ((w.cell? ⟨q, 2, none⟩).getD (.bool false))
theorem Ps.fromIn {w : World} {q : Nat} {s : ByteArray} {t : Tk} {d : Int} (h : Ps w q s t d) : fromIn q w = t.from_ := by
  unfold Go.Proofs.YtbojcemamhiodaaGreatDoor.fromIn
  rw [h.cells.2.2.1]
  rfl

theorem IsK.drew {w : World} {S : Nat → Prop} {h : Nat} {kv : Value} {ts : List Nd} (k : IsK w S h kv ts) : IsK w.drew S h kv ts :=
  k.turn (w' := w.drew) (S' := S) fun b hS _ => ⟨hS, show w.heap[b]? = w.heap[b]? from rfl⟩

/-- a round of repeated, ahead of its step -/
theorem rep_world {w w' : World} {q N M : Nat} {s : ByteArray} {t : Tk} {d a b : Int} {n : Nd} {ao : Option Addr} {nk cp : Nat} {o : Obj} {x : Value} (hq : q < N) (hNM : N < M) (hw : w.heap.size ≤ N)
    (HN : w'.heap[N]? = some o) (HM : w'.heap[M]? = some (.cells #[.int .i64 n.kind, .int .i64 n.at_, .string n.text, .slice ao nk cp] 118))
    (HK : ∃ h, IsK w' (fun b => N < b ∧ b ≠ M) h (.slice ao nk cp) n.kids) (HP : Ps w' q s t d) (HB : But q w w')
    (W : World) (hW : W = (((((w'.setCell ⟨M, 0, none⟩ (.int .i64 a)).setCell ⟨M, 1, none⟩ (.int .i64 b)).setCell ⟨M, 2, none⟩ x).setCell ⟨M, 3, none⟩ (.slice (some ⟨w'.heap.size, 0, none⟩) 1 1)).alloc
      (.cells #[.int .i64 n.kind, .int .i64 n.at_, .string n.text, .slice ao nk cp] 118)).drew) :
    W.heap[N]? = some o ∧ W.heap[M]? = some (.cells #[.int .i64 a, .int .i64 b, x, .slice (some ⟨w'.heap.size, 0, none⟩) 1 1] 118) ∧
    (∃ h, IsK W (fun b => N < b ∧ b ≠ M) h (.slice (some ⟨w'.heap.size, 0, none⟩) 1 1) [n]) ∧ Ps W q s t d ∧ But q w W := by
  have hM := (Array.getElem?_eq_some_iff.1 HM).1
  subst hW
  refine ⟨?_, ?_, ?_, ((HP.set4 (by omega)).alloc _), ((HB.set4 (by omega)).alloc _).drew⟩
  · refine heap_old ?_
    rw [Below.heap_setCell _ _ _ _ (by simp; omega), Below.heap_setCell _ _ _ _ (by simp; omega), Below.heap_setCell _ _ _ _ (by simp; omega), Below.heap_setCell _ _ _ _ (by simp; omega), HN]
  · refine heap_old ?_
    simp [World.setCell, Array.getElem?_modify, HM]
  · obtain ⟨h, hh⟩ := HK
    have h4 : ((((w'.setCell ⟨M, 0, none⟩ (.int .i64 a)).setCell ⟨M, 1, none⟩ (.int .i64 b)).setCell ⟨M, 2, none⟩ x).setCell ⟨M, 3, none⟩ (.slice (some ⟨w'.heap.size, 0, none⟩) 1 1)).heap.size = w'.heap.size := size_set4
    have h5 := ofIsK_one (w := ((((w'.setCell ⟨M, 0, none⟩ (.int .i64 a)).setCell ⟨M, 1, none⟩ (.int .i64 b)).setCell ⟨M, 2, none⟩ x).setCell ⟨M, 3, none⟩ (.slice (some ⟨w'.heap.size, 0, none⟩) 1 1))) (t := n) (hh.turn (S' := fun b => N < b ∧ b ≠ M) fun b hS hz => ⟨hS, by
      rw [Below.heap_setCell _ _ _ _ (by simp; omega), Below.heap_setCell _ _ _ _ (by simp; omega), Below.heap_setCell _ _ _ _ (by simp; omega), Below.heap_setCell _ _ _ _ (by simp; omega)]⟩) (by rw [h4]; omega)
    rw [h4] at h5
    exact ⟨h + 1, IsK.drew h5⟩

set_option maxHeartbeats 2000000 in
theorem repeated_any (w : World) (q : Nat) (s : ByteArray) (t : Tk) (d : Int) (E : Tk → Int → Res) (hs : s.size ≤ 400) (ht : TkOk s t) (h2 : 2 ≤ t.k) (hp : Ps w q s t d) (hd : 0 ≤ d) (hd' : d ≤ 12)
    (hF : d < 12 → FineE s E (d + 1)) (hE : d < 12 → SaidE s q E (d + 1)) :
    Calls Tryz.prog 153 #[.pointer (some ⟨q, 0, none⟩)] w (Out s q w (repeatedF s E t d)) := by
  have hlt := hp.lt
  have hne : w.heap.size ≠ q := by omega
  have hf := (singleF_fine hF ht h2).1
  have Hb := hide (fun w' (hp' : Ps w' q s t d) => single_any w' q s t d E hs ht hp' hd hd' hF hE)
  have HR : Hid (repeatedF s E t d = signedF s (singleF s E t d)) := rfl
  clear hF hE
  go_enter Tryz.func153, Tryz.ntmps153
  go_wp2_with fail
  go_at_call 157
  refine (unhide Hb _ (hp.alloc _)).mono ?_
  generalize singleF s E t d = r at HR hf ⊢
  rintro e w1 ⟨ao, nk, cp, rfl, hk1, hp1, hb1⟩
  have hN1 := hide (hb1.keep (heap_alloc_new w _) hne)
  obtain ⟨r0, r1, r2, r3, rf, hz1⟩ := four (unhide hN1)
  have htk := hf.tk
  by_cases he : r.err ≠ 0
  · have b1 : (r.err != 0) = true := by simpa using he
    have HR' : Hid (repeatedF s E t d = errR r.err r.tk r.d) := (unhide HR).trans (if_pos he)
    clear he
    go_wp2
    refine bodyPost_ret (v := .tuple #[.agg #[.int .i64 0, .int .i64 0, .string ByteArray.empty, .slice none 0 0], .int .i64 r.err]) (by simp [results, Tryz.results153, go_sem, r0, r1, r2, r3, hz1]; rfl) rfl ?_
    rw [unhide HR']
    exact ⟨none, 0, 0, rfl, Kids.nil _ _, (hp1.set4 hne).alloc _, (hb1.from_alloc.set4 (Nat.le_refl _)).alloc _⟩
  · have b1 : (r.err != 0) = false := by simpa using he
    have HR' : Hid (repeatedF s E t d = ⟨0, (signsF s (s.size + 1) r.nd r.tk).1, (signsF s (s.size + 1) r.nd r.tk).2, r.d⟩) := (unhide HR).trans (if_neg he)
    clear he
    clear r0 r1 r2 r3 rf
    have hne1 : w1.heap.size ≠ q := by omega
    have hnm : w1.heap.size ≠ w.heap.size := by omega
    go_wp2_with fail
    go_loopw [] (fun wr => ∃ (k : Nat) (n : Nd) (t : Tk) (ao : Option Addr) (nk cp : Nat), Hid (signsF s (s.size + 1) r.nd r.tk = signsF s k n t) ∧ TkOk s t ∧ (s.size : Int) < k + t.from_ ∧
        Hid (wr.heap[w.heap.size]? = some (.cells #[.int .i64 0, .int .i64 0, .string ⟨#[]⟩, .slice none 0 0] 118)) ∧
        Hid (wr.heap[w1.heap.size]? = some (.cells #[.int .i64 n.kind, .int .i64 n.at_, .string n.text, .slice ao nk cp] 118)) ∧
        Hid (∃ h, IsK wr (fun b => w.heap.size < b ∧ b ≠ w1.heap.size) h (.slice ao nk cp) n.kids) ∧ Hid (Ps wr q s t r.d) ∧ Hid (But q w wr)) (fun wr => (s.size - fromIn q wr).toNat)
    case atStart =>
      refine ⟨s.size + 1, r.nd, r.tk, ao, nk, cp, rfl, htk, by have := htk.from0; omega, heap_old (unhide hN1), heap_alloc_new w1 _, ?_, hp1.alloc _, hb1.from_alloc.alloc _⟩
      obtain ⟨h, hh⟩ := hk1
      refine ⟨h, hh.turn fun b hS hz => ⟨?_, Below.heap_alloc _ _ _ hz⟩⟩
      simp at hS
      exact ⟨by omega, by omega⟩
    case round =>
      obtain ⟨k, n, t', ao', nk', cp', HS, hok, hfu, HN, HM, HK, HP, HB⟩ := hrel
      obtain ⟨r0, r1, r2, r3, rf, hz2⟩ := four (unhide HN)
      obtain ⟨m0, m1, m2, m3, mf, hz3⟩ := four (unhide HM)
      obtain ⟨c0, c1, c2, c3, c4⟩ := (unhide HP).cells
      have hltr := (unhide HP).lt
      cases hb : (t'.k == 9 || t'.k == 10 || t'.k == 11)
      · have HE := hide ((unhide HS).trans (signsF_no hb))
        have Hb' := hide hb
        clear hb
        go_wp2_with (go_at_call 158; refine (atRepeat_any _ _ _ _ _ (unhide HP)).mono ?_; rintro e w' ⟨rfl, rfl⟩; rw [unhide Hb'])
        refine bodyPost_ret (v := .tuple #[.agg #[.int .i64 n.kind, .int .i64 n.at_, .string n.text, .slice ao' nk' cp'], .int .i64 0]) (by simp [results, Tryz.results153, go_sem, r0, r1, r2, r3]) rfl ?_
        rw [unhide HR', unhide HE]
        obtain ⟨h, hh⟩ := unhide HK
        refine ⟨ao', nk', cp', rfl, ⟨h, hh.turn fun b hS hz => ⟨by omega, ?_⟩⟩, (unhide HP).set4 hne, (unhide HB).set4 (Nat.le_refl _)⟩
        exact (Keeps.refl (w.heap.size + 1) _).set4 (by omega) b (by omega) hz
      · obtain ⟨k, rfl⟩ : ∃ m, k = m + 1 := ⟨k - 1, by have := hok.le; have := hok.size; omega⟩
        have HE := hide ((unhide HS).trans (signsF_yes hb))
        have hk2 : 2 ≤ t'.k := by simp at hb; omega
        have hlt' := hok.lt hk2
        have hnx := hok.next
        have Hb' := hide hb
        clear hb
        go_wp2_with fail
        go_at_call 158
        refine (atRepeat_any _ _ _ _ _ (unhide HP)).mono ?_
        rintro e w' ⟨rfl, rfl⟩
        rw [unhide Hb']
        go_upto_region 5 with fail
        go_cut [] (fun wc => Hid (wc.heap[w.heap.size]? = some (.cells #[.int .i64 0, .int .i64 0, .string ⟨#[]⟩, .slice none 0 0] 118)) ∧
          Hid (wc.heap[w1.heap.size]? = some (.cells #[.int .i64 (repK t'.k), .int .i64 t'.from_, .string ⟨#[]⟩, .slice (some ⟨w'.heap.size, 0, none⟩) 1 1] 118)) ∧
          Hid (∃ h, IsK wc (fun b => w.heap.size < b ∧ b ≠ w1.heap.size) h (.slice (some ⟨w'.heap.size, 0, none⟩) 1 1) [n]) ∧ Hid (Ps wc q s t' r.d) ∧ Hid (But q w wc))
        case first =>
          go_region_with (go_at_call 159; refine (repeatKind_any _ _).mono ?_; rintro e w' ⟨rfl, rfl⟩)
          all_goals
            go_wp2_with fail
            go_meet
            case rel => exact rep_world (by omega) (by omega) (Nat.le_refl _) (unhide HN) (unhide HM) (unhide HK) (unhide HP) (unhide HB) _ rfl
        case rest =>
          obtain ⟨Y1, Y2, Y3, Y4, Y5⟩ := hcut
          clear r0 r1 r2 r3 rf m0 m1 m2 m3 mf c0 c1 c2 c3 c4
          go_wp2_with fail
          go_at_call 118
          refine (step_any _ _ _ _ _ hs (by have := hok.from0; have := hok.le; omega) hok.size (unhide Y4)).mono ?_
          rintro e w6 ⟨rfl, hp6, hb6⟩
          go_wp2_with fail
          go_roundw
          case rel =>
            obtain ⟨h, hh⟩ := unhide Y3
            exact ⟨k, _, _, _, 1, 1, HE, hnx.1, by omega, hb6.keep (unhide Y1) hne, hb6.keep (unhide Y2) hne1, ⟨h, hh.turn fun b hS hz => ⟨hS, hb6.block b hz (by omega)⟩⟩, hp6, (unhide Y5).trans hb6⟩
          case measure => rw [hp6.fromIn, (unhide HP).fromIn]; have := hok.size; have := hok.lt hk2; omega
end Go.Proofs.YtbojcemamhiodaaGreatDoor

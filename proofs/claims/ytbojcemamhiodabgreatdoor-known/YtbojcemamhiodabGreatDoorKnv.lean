import Derived.Test.YtbojcemamhiodabGreatDoorKb
import Derived.Deep.RegionHeld3
import Derived.Test.YtbojcemamhiodabGreatDoorRows
import Derived.ProofKit
import Derived.LaidMore
import Derived.OpenShut
import Derived.Stop.Joined
import Derived.Lib.LaidTab
import Derived.Stop.LaidErr
namespace Go.Proofs.YtbojcemamhiodabGreatDoor
open Go.RowKit

theorem pick_34 (c : Int) (w : World) (h0 : -9223372036854775808 ≤ c) (h1 : c ≤ 9223372036854775807) :
    Calls Tryz.prog 16 #[.int .i64 c, .int .i64 34] w fun e w' => ∃ k : Nat, k < 34 ∧ e = .returned (.int .i64 k) ∧ w' = w := by
  by_cases hc : c < 0
  · go_enter Tryz.func16, Tryz.ntmps16
    go_wp2
    go_ret
    refine ⟨((-(c + 1)) % 34).toNat, by omega, ret_int ?_, rfl⟩
    rw [← Int.neg_tmod, Int.tmod_eq_emod_of_nonneg (by omega)]
    omega
  · go_enter Tryz.func16, Tryz.ntmps16
    go_wp2
    go_ret
    exact ⟨(c % 34).toNat, by omega, ret_int (by omega), rfl⟩
structure KnOk (q : KnR) (T : List Tm) (l : List Ct) : Prop where
  comp : compileF 40 20 q.t = some (0, 0)
  built : buildF (40 + 1) (parseF q.t).rules = T
  few : T.length ≤ 100000
  txt : ∀ t ∈ T, t.text.size ≤ 400
  rules : rulesA T 40 [] ((parseF q.t).rules.map fun r => r.name) 0 = some q.x.data.toList
  nms : ((parseF q.t).rules.map fun r => r.name).length ≤ 100000
  tz : q.t.size ≤ 400
  sz : q.s.size ≤ 60
  xz : q.x.size ≤ 1000
  mt : Mr T q.s 0 0 q.r
  ct : q.r ≠ -1 → Cr T q.s 0 0 l ∧ (wrL l).length ≤ 70368744177664 ∧ q.c = ⟨(wrL l).toArray⟩
theorem tblK_at (k : Nat) (h : k < 34) : ∃ q T l, tblK[k]? = some q ∧ KnOk q T l := by
  have hl : k < tblK.length := by rw [tblK_length]; exact h
  have hr := List.all_eq_true.1 tblK_right tblK[k] (List.getElem_mem hl)
  unfold rightK at hr
  simp only [Bool.and_eq_true, Bool.or_eq_true, beq_iff_eq, decide_eq_true_eq, List.all_eq_true] at hr
  obtain ⟨⟨⟨⟨⟨⟨⟨⟨⟨⟨⟨⟨h1, h2⟩, h3⟩, h4⟩, h5⟩, h6⟩, h7⟩, h8⟩, h9⟩, h10⟩, h11⟩, h12⟩, h13⟩ := hr
  have hct : ∃ l, tblK[k].r ≠ -1 → Cr (buildF 41 (parseF tblK[k].t).rules) tblK[k].s 0 0 l ∧ (wrL l).length ≤ 70368744177664 ∧ tblK[k].c = ⟨(wrL l).toArray⟩ := by
    by_cases hm : tblK[k].r = -1
    · exact ⟨[], fun e => absurd hm e⟩
    · rcases h13 with h13 | h13
      · exact absurd h13 hm
      · cases hc : catN (buildF 41 (parseF tblK[k].t).rules) tblK[k].s (matchN (buildF 41 (parseF tblK[k].t).rules) tblK[k].s 60) 60 0 0 with
        | none => rw [hc] at h13; cases h13
        | some l =>
          rw [hc] at h13
          have h13' : wrL l = tblK[k].c.data.toList := by simpa [caughtB] using h13
          refine ⟨l, fun _ => ⟨⟨60, 60, hc⟩, ?_, ?_⟩⟩
          · rw [h13']
            have : tblK[k].c.data.toList.length = tblK[k].c.size := rfl
            omega
          · rw [h13']
  obtain ⟨l, hct⟩ := hct
  exact ⟨tblK[k], _, l, List.getElem?_eq_getElem hl, h1, rfl, h2, h3, h4, by simpa using h5, h6, h7, h8, ⟨60, h12⟩, hct⟩
theorem five_k {w : World} {N : Nat} {a b c d e : Value} (h : w.heap[N]? = some (.cells #[a, b, c, d, e] 41)) :
    w.cell? ⟨N, 0, none⟩ = some a ∧ w.cell? ⟨N, 1, none⟩ = some b ∧ w.cell? ⟨N, 2, none⟩ = some c ∧ w.cell? ⟨N, 3, none⟩ = some d ∧ w.cell? ⟨N, 4, none⟩ = some e ∧ N < w.heap.size := by
  refine ⟨?_, ?_, ?_, ?_, ?_, (Array.getElem?_eq_some_iff.1 h).1⟩
  all_goals simp [World.cell?, h]

set_option maxRecDepth 4000 in
set_option maxHeartbeats 1000000 in
theorem known_any (w : World) (c : Int) (h0 : -9223372036854775808 ≤ c) (h1 : c ≤ 9223372036854775807) (ht : Tab w) :
    Calls Tryz.prog 5 #[.int .i64 c] w fun e w' => e = .returned (.bool true) ∧ Below w.heap.size w w' := by
  have HT := hide ht
  clear ht
  go_enter Tryz.func5, Tryz.ntmps5
  go_wp2_with fail
  go_at_call 15
  refine (lots_any _).mono ?_
  rintro e w1 ⟨B, rfl, hB, hb1, htb⟩
  have Ht := hide htb
  have Hb1 := hide hb1
  clear htb hb1
  go_wp2_with fail
  go_at_call 16
  refine (pick_34 _ _ h0 h1).mono ?_
  rintro e w2 ⟨k, hk, rfl, hw2⟩
  have hw3 := hw2.symm
  subst hw3
  obtain ⟨q, T, l, hq, hok⟩ := tblK_at k hk
  obtain ⟨a0, a1, a2, a3, a4⟩ := unhide Ht k q hq
  have Hok := hide hok
  have hxz := hok.xz
  clear hw2 hq hok
  have hz1 := (unhide Hb1).size
  have HA1 := hide (show Below w1.heap.size w1 (w1.alloc (.cells #[.string q.t, .string q.x, .string q.s, .int .i64 q.r, .string q.c] 41)) from (Below.refl _ _).alloc (Nat.le_refl _) _)
  go_wp2_with fail
  go_at_call 8
  refine (compile_any _ 40 20 q.t (0, 0) (by have := (unhide Hok).tz; omega) (unhide Hok).comp).mono ?_
  rintro e w3 ⟨p, rfl, hb3, hp⟩
  rcases hp with ⟨h, _⟩ | ⟨_, G, nv, tv, rfl, hgm⟩
  · exact absurd rfl h
  rw [(unhide Hok).built] at hgm
  have hbox := below_keep hb3 (heap_alloc_new w1 _) (Nat.le_refl _)
  obtain ⟨x0, x1, x2, x3, x4, hxl⟩ := five_k hbox
  have HBX := hide hbox
  have Hb3 := hide ((unhide HA1).trans (hb3.mono (unhide HA1).size))
  have HB3 := hide ((unhide Hb1).trans ((unhide Hb3).mono hz1))
  have HTX := hide (fun (W : World) (hW : Below w3.heap.size w3 W) => Text_any (unhide Hok).txt (unhide Hok).nms 40 W q.x.data.toList (hgm.below hW) (((unhide HT).below (unhide HB3)).below hW) (unhide Hok).rules (by have : q.x.data.toList.length = q.x.size := rfl; omega))
  rw [bl_of] at HTX
  have HMA := hide (fun W : World => matches_any W q.t q.s q.c 0 q.r 40 20 T l (unhide Hok).tz (unhide Hok).comp (unhide Hok).built (unhide Hok).few (unhide Hok).txt (unhide Hok).sz (by omega) (by omega) (unhide Hok).mt (unhide Hok).ct)
  clear hb3 hgm hbox
  have hself : (q.x.toList == q.x.toList) = true := by simp
  go_wp2_with fail
  go_region_held3 (fun w' => w'.cell? ⟨w1.heap.size, 1, none⟩ = some (.string q.x)) (go_keep)
    (first | (go_at_call 13; refine (unhide HTX _ (Below.refl _ _).drew).mono ?_; rintro e w4 ⟨rfl, hb4⟩; have hb5 := hide (below_drew hb4); clear hb4; obtain ⟨y0, y1, y2, y3, y4, hy⟩ := five_k (below_keep (unhide hb5) (unhide HBX) (Nat.le_refl _))))
  have HB5 := hide ((unhide HB3).trans ((unhide hb5).mono (unhide HB3).size))
  clear x0 x1 x2 x3 x4 hxl a0 a1 a2 a3 a4
  go_wp2_with fail
  go_at_call 11
  refine (unhide HMA _).mono ?_
  rintro e w6 ⟨rfl, hb6⟩
  have HB6 := hide ((unhide HB5).trans (hb6.mono (unhide HB5).size))
  clear hb6
  go_wp2
  go_ret
  exact ⟨rfl, unhide HB6⟩
end Go.Proofs.YtbojcemamhiodabGreatDoor
namespace Go.Proofs.YtbojcemamhiodabGreatDoor
open Go.ChangeShapes Go.WideShapes Go.ChangeAt Go.RowKit

def deB : List Int := [0, 1, 56, 2, 57, 49, 28, 3, 61, 58, 42, 50, 38, 29, 17, 4, 62, 47, 59, 36, 45, 43, 51, 22, 53, 39, 33, 30, 24, 18, 12, 5, 63, 55, 48, 27, 60, 41, 37, 16, 46, 35, 44, 21, 52, 32, 23, 11, 54, 26, 40, 15, 34, 20, 31, 10, 25, 14, 19, 9, 13, 8, 7, 6]
set_option maxRecDepth 100000 in
/-- what the condition gives: the one cell that FormatInt reads -/
theorem tab_of {W : World} (h : laidMetH Tryz.prog Rows.knownRow.laid W) : Tab W := by
  rw [MakeChecks.laidMetH_plain _ _ _ (by kernel_rfl)] at h
  have h2 := laidMet.tail h
  have h3 := Lib.tabIs_of_head (k := .u8) (zs := deB) (g := 2) (t := 143) (e := 5) (n := 64) (by kernel_rfl) (by kernel_rfl) Tryz.underlying143 Tryz.underlying5 (by kernel_rfl) (by kernel_rfl) h2
  have h4 := h3.cell (g := 2) (by kernel_rfl) 15 (by decide)
  refine ⟨h4, ?_⟩
  rcases Nat.lt_or_ge 2 W.heap.size with h5 | h5
  · exact h5
  · rw [World.cell?, Array.getElem?_eq_none h5] at h4
    cases h4
end Go.Proofs.YtbojcemamhiodabGreatDoor

import Derived.Test.YtbojcemamhiodabGreatDoorMt6
import Derived.Test.YtbojcemamhiodabGreatDoorComp
namespace Go.Proofs.YtbojcemamhiodabGreatDoor
open Go.RowKit

set_option maxRecDepth 4000 in
set_option maxHeartbeats 2000000 in
/-- matches, of a grammar that compiles -/
theorem matches_any (w : World) (t s cs : ByteArray) (a r : Int) (F Z : Nat) (T : List Tm) (l : List Ct) (ht : t.size ≤ 400) (hcomp : compileF F Z t = some (0, 0)) (hT : buildF (F + 1) (parseF t).rules = T) (hf : T.length ≤ 100000) (htx : ∀ t ∈ T, t.text.size ≤ 400) (hs : s.size ≤ 60) (h0 : 0 ≤ a) (h1 : a ≤ s.size) (hr : Mr T s 0 a r) (hl : r ≠ -1 → Cr T s 0 a l ∧ (wrL l).length ≤ 70368744177664 ∧ cs = ⟨(wrL l).toArray⟩) :
    Calls Tryz.prog 11 #[.string t, .string s, .int .i64 a, .int .i64 r, .string cs] w fun e w' => e = .returned (.bool true) ∧ Below w.heap.size w w' := by
  obtain ⟨F1, hr1⟩ := hr.up
  have hok := matchN_ok T s F1 0 a r (hr1 F1 (Nat.le_refl _)) h0 h1
  have hr3 : r ≤ 60 := by unfold Ok at hok; omega
  have hr4 : -1 ≤ r := by unfold Ok at hok; omega
  have HC := hide (compile_any w F Z t (0, 0) (by omega) hcomp)
  have HT := hide hT
  have HX := hide htx
  have HR := hide hr1
  have HL := hide hl
  clear hcomp hT hr hr1 hok htx hl
  go_enter Tryz.func11, Tryz.ntmps11
  go_wp2_with fail
  go_at_call 8
  refine (unhide HC).mono ?_
  rintro e w1 ⟨p, rfl, hb1, hc⟩
  rcases hc with ⟨h, _⟩ | ⟨_, G, nv, tv, rfl, hgm⟩
  · exact absurd rfl h
  rw [unhide HT] at hgm
  have Hgm := hide hgm
  have Hb1 := hide hb1
  clear hgm hb1
  by_cases hm : r = -1
  · subst hm
    have HM := hide (Match_any w1 _ G nv tv _ T s a (-1) F1 (unhide Hgm) hs hf (unhide HX) h0 h1 (unhide HR F1 (Nat.le_refl _)) 0 ⟨#[]⟩ false (.inl ⟨rfl, rfl, rfl, rfl⟩))
    go_wp2_with fail
    go_at_call 9
    refine (unhide HM).mono ?_
    rintro e w2 ⟨rfl, hb2⟩
    have HB2 := hide ((unhide Hb1).trans (hb2.mono (unhide Hb1).size))
    clear hb2
    go_wp2
    go_ret
    exact ⟨rfl, unhide HB2⟩
  · obtain ⟨hcr, hbl, hcs⟩ := unhide HL hm
    obtain ⟨F2, hcr⟩ := hcr.up
    have HM := hide (Match_any w1 _ G nv tv _ T s a r (max F1 F2) (unhide Hgm) hs hf (unhide HX) h0 h1 (unhide HR _ (by omega)) r cs true (.inr ⟨hm, rfl, rfl, l, max F1 F2, hcr _ _ (by omega) (by omega), hbl, hcs⟩))
    have hge : 0 ≤ r := by omega
    clear hm hcr hbl hcs
    go_wp2_with fail
    go_at_call 9
    refine (unhide HM).mono ?_
    rintro e w2 ⟨rfl, hb2⟩
    have HB2 := hide ((unhide Hb1).trans (hb2.mono (unhide Hb1).size))
    clear hb2
    go_wp2
    go_ret
    exact ⟨rfl, unhide HB2⟩
end Go.Proofs.YtbojcemamhiodabGreatDoor

import Derived.Test.YtdofpbbahamkkaaMt6
import Derived.Test.YtdofpbbahamkkaaComp
namespace Go.Proofs.Ytdofpbbahamkkaa
open Go.RowKit

set_option maxRecDepth 4000 in
set_option maxHeartbeats 2000000 in
/-- matches, of a grammar that compiles, and a match that catches nothing -/
theorem matches_any (w : World) (t s : ByteArray) (a r : Int) (F Z Fm : Nat) (T : List Tm) (ht : t.size ≤ 400) (hcomp : compileF F Z t = some (0, 0)) (hT : buildF (F + 1) (parseF t).rules = T) (hf : T.length ≤ 100000) (htx : ∀ t ∈ T, t.text.size ≤ 400) (hs : s.size ≤ 60) (h0 : 0 ≤ a) (h1 : a ≤ s.size) (hr : matchN T s Fm 0 a = some r) :
    Calls Try.prog 12 #[.string t, .string s, .int .i64 a, .int .i64 r, .string ⟨#[]⟩] w fun e w' => e = .returned (.bool true) ∧ Below w.heap.size w w' := by
  have hok := matchN_ok T s Fm 0 a r hr h0 h1
  have hr3 : r ≤ 60 := by unfold Ok at hok; omega
  have hr4 : -1 ≤ r := by unfold Ok at hok; omega
  have HC := hide (compile_any w F Z t (0, 0) (by omega) hcomp)
  have HT := hide hT
  have HX := hide htx
  have HR := hide hr
  clear hcomp hT hr hok htx
  go_enter Try.func12, Try.ntmps12
  go_wp2_with fail
  go_at_call 13
  refine (unhide HC).mono ?_
  rintro e w1 ⟨p, rfl, hb1, hc⟩
  rcases hc with ⟨h, _⟩ | ⟨_, G, nv, tv, rfl, hgm⟩
  · exact absurd rfl h
  rw [unhide HT] at hgm
  have Hgm := hide hgm
  have Hb1 := hide hb1
  clear hgm hb1
  by_cases hm : r = -1
  · subst hm
    have HM := hide (Match_any w1 _ G nv tv _ T s a (-1) Fm (unhide Hgm) hs hf (unhide HX) h0 h1 (unhide HR) 0 false (.inl ⟨rfl, rfl, rfl⟩))
    go_wp2_with fail
    go_at_call 15
    refine (unhide HM).mono ?_
    rintro e w2 ⟨rfl, hb2⟩
    have HB2 := hide ((unhide Hb1).trans (hb2.mono (unhide Hb1).size))
    clear hb2
    go_wp2
    go_ret
    exact ⟨rfl, unhide HB2⟩
  · have HM := hide (Match_any w1 _ G nv tv _ T s a r Fm (unhide Hgm) hs hf (unhide HX) h0 h1 (unhide HR) r true (.inr ⟨hm, rfl, rfl⟩))
    have hge : 0 ≤ r := by omega
    clear hm
    go_wp2_with fail
    go_at_call 15
    refine (unhide HM).mono ?_
    rintro e w2 ⟨rfl, hb2⟩
    have HB2 := hide ((unhide Hb1).trans (hb2.mono (unhide Hb1).size))
    clear hb2
    go_wp2
    go_ret
    exact ⟨rfl, unhide HB2⟩
end Go.Proofs.Ytdofpbbahamkkaa

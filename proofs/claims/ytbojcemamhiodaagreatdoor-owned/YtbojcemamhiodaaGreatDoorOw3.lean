import Derived.Test.YtbojcemamhiodaaGreatDoorOw2
import Derived.Test.YtbojcemamhiodaaGreatDoorRub
import Derived.Test.YtbojcemamhiodaaGreatDoorTwt
namespace Go.Proofs.YtbojcemamhiodaaGreatDoor
open Go.RowKit

theorem both_sd (w : World) (s : ByteArray) (hT : Tab w) : Calls Tryz.prog 13 #[.string s] w (OutSd w) := by
  refine (both_any w s).mono ?_
  rintro e w1 ⟨hb, h⟩
  refine ⟨hb, ?_⟩
  rcases h with rfl | ⟨G, g, nv, tv, nv', av, ev, gs, F, rfl, hrl, hrg, hlz, hgr, hgm, hD⟩
  · exact .inl rfl
  · refine .inr ⟨G, g, nv', gs.map RX.name, bl (textG gs), rfl, ?_⟩
    obtain ⟨f1, f2, f3, f4⟩ := text_facts hrl hlz hrg hD
    have hTb : Tab w1 := Tab.below hT hb
    have hlen : gs.length ≠ 0 ∧ gs.length ≤ 12 := by
      by_cases h12 : gs.length = 0 ∨ 12 < gs.length
      · unfold lawX at hlz
        rw [if_pos h12] at hlz
        simp at hlz
      · omega
    obtain ⟨c0, _, _, hgl⟩ := hgr.cells
    have hgm2 := hgm
    rw [← hrl, rl_names] at hgm2
    refine ⟨hgl, c0, by simpa using hlen.1, fun W hW => ?_, fun W B v hW hv => ?_, fun W hW => ?_, fun W hW => ?_⟩
    · exact Rules_names W _ G nv tv _ _ (hgm2.below hW) (by simp; omega)
    · exact same_any W v nv' (gs.map RX.name) ((RowIn.of_owns hv).any) (by have h := hgr.names.below hW; rw [List.length_map]; unfold strV; rw [List.map_map]; exact h) (by simp; omega)
    · exact Text_any f1 f2 (F + 2) W (textG gs) (hgm.below hW) (hTb.below hW) f3 f4
    · exact refText_any W g nv' av ev gs (hgr.below hW) hrg.ok f4
theorem Owned_any (w : World) (s u : ByteArray) (hT : Tab w) : Calls Tryz.prog 3 #[.string s, .string u] w fun e w' => e = .returned (.bool true) ∧ Below w.heap.size w w' :=
  owned_walk w s u (both_sd w s hT) (fun w1 hb => both_sd w1 u (hT.below hb))
end Go.Proofs.YtbojcemamhiodaaGreatDoor

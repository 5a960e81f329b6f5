import Derived.Test.YtbojcemamhiodaaRhs
import Derived.Test.YtbojcemamhiodaaComp
namespace Go.Proofs.Ytbojcemamhiodaa
open Go.RowKit
theorem parse_long (w : World) (s : ByteArray) (h400 : 400 < s.size) : Calls Try.prog 10 #[.string s] w (OutP w (parseF s)) := by
  have HR : Hid (parseF s = ⟨1, [], 0⟩) := if_pos h400
  have hI : (400 : Int) < s.size := by omega
  go_enter Try.func10, Try.ntmps10
  go_wp2
  go_ret3
  rw [unhide HR]
  exact ⟨none, 0, rfl, GrowR.nil _ _, Below.refl _ _⟩
theorem compile_long (w : World) (F : Nat) (s : ByteArray) (h400 : 400 < s.size) : Calls Try.prog 8 #[.string s] w (OutC w F (parseF s) ((parseF s).err, (parseF s).at_)) := by
  have HP := hide (parse_long w s h400)
  have he : (parseF s).err ≠ 0 := by
    rw [show parseF s = ⟨1, [], 0⟩ from if_pos h400]
    simp
  generalize parseF s = p at he HP ⊢
  have b1 : (p.err != 0) = true := by simpa using he
  have He := hide he
  clear he
  go_enter Try.func8, Try.ntmps8
  go_wp2_with fail
  go_at_call 10
  refine (unhide HP).mono ?_
  rintro e w1 ⟨ao, cp, rfl, hg1, hb1⟩
  go_wp2
  go_ret3
  exact ⟨none, rfl, hb1, .inl ⟨unhide He, rfl⟩⟩
/-- Compile answers, whatever the text -/
theorem compile_all (s : ByteArray) : ∃ (F : Nat) (r : Int × Int), (∀ w, Calls Try.prog 8 #[.string s] w (OutC w F (parseF s) r)) ∧ ((parseF s).err ≠ 0 → r = ((parseF s).err, (parseF s).at_)) ∧ ((parseF s).err = 0 → ∀ gs, rlX gs = (parseF s).rules → (∀ g ∈ gs, OkX g.ex) → lawX gs = r) := by
  by_cases h400 : 400 < s.size
  · refine ⟨0, _, fun w => compile_long w 0 s h400, fun _ => rfl, fun h => ?_⟩
    rw [show parseF s = ⟨1, [], 0⟩ from if_pos h400] at h
    simp at h
  · obtain ⟨F, Z, r, h1, h2⟩ := compile_ends s
    refine ⟨F, r, fun w => compile_any w F Z s r (by omega) h1, fun he => ?_, fun h0 gs hg ho => ?_⟩
    · unfold compileF at h1
      rw [if_pos he] at h1
      injection h1 with h1
      exact h1.symm
    · obtain ⟨h3, h4⟩ := h2 h0
      rw [← hg] at h3 h4
      exact law_check gs F Z r h4 h3 ho
theorem lawX_zero {gs : List RX} (h : (lawX gs).1 = 0) : lawX gs = (0, 0) := by
  unfold lawX at h ⊢
  split at h
  · simp at h
  · split at h
    · simp at h
    · split at h
      · simp at h
      · split at h
        · simp at h
        · split at h
          · simp at h
          · rename_i h1 h2 h3 h4 h5
            rw [if_neg h1, if_neg h2, if_neg h3, if_neg h4, if_neg h5]
/-- what both answers -/
def OutBt (w : World) (s : ByteArray) (x : Ending) (w' : World) : Prop :=
  Below w.heap.size w w' ∧ ((x = .returned (.tuple #[.pointer none, .pointer none, .bool true])) ∨
    (∃ G g nv tv nv' av ev gs F, x = .returned (.tuple #[.pointer (some ⟨G, 0, none⟩), .pointer (some ⟨g, 0, none⟩), .bool true]) ∧ rlX gs = (parseF s).rules ∧ ReadG gs ∧ lawX gs = (0, 0) ∧
      GR w' g nv' av ev gs ∧ Gm w' (fun b => w.heap.size ≤ b) G nv tv ((parseF s).rules.map fun r => r.name) (buildF (F + 1) (parseF s).rules)))
set_option maxHeartbeats 2000000 in
theorem both_any (w : World) (s : ByteArray) : Calls Try.prog 5 #[.string s] w (OutBt w s) := by
  obtain ⟨F, r, hC, he, h0⟩ := compile_all s
  have HC := hide (hC w)
  have HR := hide (fun W => Read_any W s)
  have HX : Hid (∀ gs, ((parseF s).err = 0 → rlX gs = (parseF s).rules ∧ ReadG gs) → readX s gs = r) := by
    intro gs h
    unfold readX
    by_cases hp : (parseF s).err ≠ 0
    · rw [if_pos hp, he hp]
    · have hp0 : (parseF s).err = 0 := by omega
      rw [if_neg hp]
      exact h0 hp0 gs (h hp0).1 (h hp0).2.ok
  have HE := hide he
  clear hC he h0
  go_enter Try.func5, Try.ntmps5
  go_wp2_with fail
  go_at_call 8
  refine (unhide HC).mono ?_
  rintro x w1 ⟨p, rfl, hb1, hp⟩
  go_wp2_with fail
  go_at_call 9
  refine (unhide HR w1).mono ?_
  rintro x w2 ⟨gs, pm, rfl, hrg, hn, hg, hb2⟩
  have hx := unhide HX gs hrg
  rw [hx] at hn hg ⊢
  have hb := hb1.trans (hb2.mono hb1.size)
  have b1 : (r.1 != r.1) = false := by simp
  have b2 : (r.2 != r.2) = false := by simp
  rcases hp with ⟨h1, rfl⟩ | ⟨h1, G, nv, tv, rfl, hgm⟩
  · have hpm := hn h1
    subst hpm
    have HB := hide hb
    clear hx hn hg hb hb1 hb2 hrg
    go_wp2
    go_ret3
    exact ⟨unhide HB, .inl rfl⟩
  · obtain ⟨g, nv', av, ev, hpm, hgr, _⟩ := hg h1
    subst hpm
    have HF : Hid (OutBt w s (.returned (.tuple #[.pointer (some ⟨G, 0, none⟩), .pointer (some ⟨g, 0, none⟩), .bool true])) w2) := by
      have hp0 : (parseF s).err = 0 := by
        by_cases hp : (parseF s).err ≠ 0
        · have e1 := unhide HE hp
          rw [e1] at h1
          exact absurd h1 hp
        · omega
      have hl : lawX gs = r := by
        rw [← hx]
        unfold readX
        rw [if_neg (by omega)]
      refine ⟨hb, .inr ⟨G, g, nv, tv, nv', av, ev, gs, F, rfl, (hrg hp0).1, (hrg hp0).2, ?_, hgr, hgm.turn fun b hS hz => ⟨hS, hb2.block b hz⟩⟩⟩
      exact lawX_zero (by rw [hl]; exact h1)
    clear hx hn hg hb hb1 hb2 hrg hgm hgr
    go_wp2
    go_ret3
    exact unhide HF
theorem Compiles_any (w : World) (s : ByteArray) : Calls Try.prog 3 #[.string s] w fun e w' => e = .returned (.bool true) ∧ Below w.heap.size w w' := by
  have HB := hide (both_any w s)
  go_enter Try.func3, Try.ntmps3
  go_wp2_with fail
  go_at_call 5
  refine (unhide HB).mono ?_
  rintro x w1 ⟨hb, h⟩
  rcases h with rfl | ⟨G, g, nv, tv, nv', av, ev, gs, F, rfl, _⟩
  · go_wp2
    go_ret
    exact ⟨rfl, hb⟩
  · go_wp2
    go_ret
    exact ⟨rfl, hb⟩
end Go.Proofs.Ytbojcemamhiodaa

import Derived.Test.YtbojcemamhiodaaGreatDoorBui2
import Derived.Test.YtbojcemamhiodaaGreatDoorParse
namespace Go.Proofs.YtbojcemamhiodaaGreatDoor
open Go.RowKit

/-- Compile's error and place; none: a tree is deeper than F, or the rounds of findBegins have not come to an end after Z -/
def compileF (F Z : Nat) (s : ByteArray) : Option (Int × Int) :=
  if (parseF s).err ≠ 0 then some ((parseF s).err, (parseF s).at_) else if ((parseF s).rules.all fun r => fits F r.body.kids) = true then
    (match checkF F Z (parseF s).rules with
    | none => none
    | some r => if r.1 = 0 ∧ 100000 < (buildF (F + 1) (parseF s).rules).length then none else some r)
  else none

theorem Rw.all {w : World} {S : Nat → Prop} {g cap : Nat} {rs : List Rl} (h : Rw w S g cap rs) : Rw w (fun b => b < w.heap.size) g cap rs := by
  obtain ⟨cur, n, xs, h1, h2, h3, h4, h5, h6⟩ := h
  exact ⟨cur, n, xs, h1, h2, h3, h4, h5, Cells8.imp (fun _ _ k => k.turn fun b _ hz => ⟨hz, rfl⟩) h6⟩
theorem GrowR.rw {w : World} {lo n cp : Nat} {ao : Option Addr} {rs : List Rl} (h : GrowR w lo (.slice ao n cp) rs) (hn : 0 < rs.length) : ∃ g S, ao = some ⟨g, 0, none⟩ ∧ n = rs.length ∧ Rw w S g cp rs := by
  obtain ⟨hh, xs, h1, h2⟩ := h
  rcases h1.2 with ⟨_, hz⟩ | ⟨g, cap, cur, hv, _, hh0, hcap, hcm, hcs, htake⟩
  · omega
  · injection hv with e1 e2 e3
    subst e3
    exact ⟨g, _, e1, e2, cur, hh, xs, hh0, hcap, hcm, hcs, htake, h2⟩

theorem check_any (w : World) (lo F Z : Nat) (v : Value) (rs : List Rl) (r : Int × Int) (hr : checkF F Z rs = some r) (hF : DeepF F rs) (hg : GrowR w lo v rs) :
    Calls Tryz.prog 33 #[v] w fun e w' => e = .returned (.tuple #[.int .i64 r.1, .int .i64 r.2]) ∧ Below w.heap.size w w' := by
  by_cases hn : rs.length = 0 ∨ 12 < rs.length
  · exact check_few w lo F Z v rs r hr hg hn
  · unfold checkF at hr
    rw [if_neg hn] at hr
    exact check_many w lo F Z v rs r hr hg (by omega) (by omega) hF

theorem checkF_ok {F Z : Nat} {rs : List Rl} {r : Int × Int} (h : checkF F Z rs = some r) (h0 : r.1 = 0) : rs.length ≤ 12 := by
  unfold checkF at h
  split at h
  · injection h with h
    rw [← h] at h0
    simp at h0
  · omega

theorem checkF_pos {F Z : Nat} {rs : List Rl} {r : Int × Int} (h : checkF F Z rs = some r) (h0 : r.1 = 0) : 0 < rs.length := by
  unfold checkF at h
  split at h
  · injection h with h
    rw [← h] at h0
    simp at h0
  · omega

/-- what Compile leaves -/
def OutC (w : World) (F : Nat) (p0 : PRes) (r : Int × Int) (e : Ending) (w' : World) : Prop :=
  ∃ p, e = .returned (.tuple #[.pointer p, .int .i64 r.1, .int .i64 r.2]) ∧ Below w.heap.size w w' ∧
    ((r.1 ≠ 0 ∧ p = none) ∨ (r.1 = 0 ∧ ∃ G nv tv, p = some ⟨G, 0, none⟩ ∧ Gm w' (fun b => w.heap.size ≤ b) G nv tv (p0.rules.map fun r => r.name) (buildF (F + 1) p0.rules)))

set_option maxHeartbeats 2000000 in
theorem compile_any (w : World) (F Z : Nat) (s : ByteArray) (r : Int × Int) (hs : s.size ≤ 4611686018427387904) (hr : compileF F Z s = some r) :
    Calls Tryz.prog 20 #[.string s] w (OutC w F (parseF s) r) := by
  unfold compileF at hr
  have HP := hide (parse_any w s hs)
  generalize parseF s = p at hr HP ⊢
  by_cases he : p.err ≠ 0
  · rw [if_pos he] at hr
    injection hr with hr
    subst hr
    have b1 : (p.err != 0) = true := by simpa using he
    have He := hide he
    clear he
    go_enter Tryz.func20, Tryz.ntmps20
    go_wp2_with fail
    go_at_call 32
    refine (unhide HP).mono ?_
    rintro e w1 ⟨ao, cp, rfl, hg1, hb1⟩
    go_wp2
    go_ret3
    exact ⟨none, rfl, hb1, .inl ⟨unhide He, rfl⟩⟩
  · rw [if_neg he] at hr
    have b1 : (p.err != 0) = false := by simpa using he
    by_cases hfit : (p.rules.all fun r => fits F r.body.kids) = true
    case neg => rw [if_neg hfit] at hr; cases hr
    rw [if_pos hfit] at hr
    obtain ⟨hr, hlen⟩ : checkF F Z p.rules = some r ∧ (r.1 = 0 → (buildF (F + 1) p.rules).length ≤ 100000) := by
      cases hc : checkF F Z p.rules with
      | none => rw [hc] at hr; cases hr
      | some r0 =>
        rw [hc] at hr
        dsimp only at hr
        split at hr
        · cases hr
        · rename_i hn
          injection hr with hr
          subst hr
          exact ⟨rfl, fun h0 => by omega⟩
    have HL := hide hlen
    clear hlen
    have HF := hide (show DeepF F p.rules from List.all_eq_true.1 hfit)
    clear hfit
    have Hr := hide hr
    clear he hr
    go_enter Tryz.func20, Tryz.ntmps20
    go_wp2_with fail
    go_at_call 32
    refine (unhide HP).mono ?_
    rintro e w1 ⟨ao, cp, rfl, hg1, hb1⟩
    have Hg1 := hide hg1
    have Hb1 := hide hb1
    clear hg1 hb1
    go_wp2_with fail
    go_at_call 33
    refine (check_any _ _ _ _ _ _ _ (unhide Hr) (unhide HF) (unhide Hg1)).mono ?_
    rintro e w2 ⟨rfl, hb2⟩
    have hz1 := (unhide Hb1).size
    have Hb2 := hide ((unhide Hb1).trans (hb2.mono hz1))
    have Hg2 := hide ((unhide Hg1).keeps (below_keeps hb2 (Nat.le_refl _)))
    have hz2 := (unhide Hb2).size
    clear hb2
    by_cases he2 : r.1 ≠ 0
    · have b2 : (r.1 != 0) = true := by simpa using he2
      have He2 := hide he2
      clear he2
      go_wp2
      go_ret3
      exact ⟨none, rfl, unhide Hb2, .inl ⟨unhide He2, rfl⟩⟩
    · have b2 : (r.1 != 0) = false := by simpa using he2
      have he3 : r.1 = 0 := by omega
      have hl := checkF_ok (unhide Hr) he3
      have hr2 : r = (0, 0) := by
        have h1 := unhide Hr
        unfold checkF at h1
        rw [if_neg (by
          intro hn
          rw [if_pos hn] at h1
          injection h1 with h1
          rw [← h1] at he3
          simp at he3)] at h1
        unfold check2 at h1
        split at h1
        · injection h1 with h1; rw [← h1] at he3; simp at he3
        · split at h1
          · injection h1 with h1; rw [← h1] at he3; simp at he3
          · cases hfb : fixB F Z (fixE F 13 p.rules) with
            | none => rw [hfb] at h1; simp at h1
            | some rz =>
              rw [hfb] at h1
              simp at h1
              unfold check3 at h1
              split at h1
              · rw [← h1] at he3; simp at he3
              · split at h1
                · rw [← h1] at he3; simp at he3
                · exact h1.symm
      have hpos := checkF_pos (unhide Hr) he3
      have hlen := unhide HL he3
      subst hr2
      clear he2 he3
      obtain ⟨g, S, rfl, _, hrw⟩ := (unhide Hg2).rw hpos
      have HB := hide (build_any w2 p.rules g cp F hrw.all hl (unhide HF) hlen)
      clear hrw hlen
      go_wp2_with fail
      go_at_call 34
      refine (unhide HB).mono ?_
      rintro e w3 ⟨G, nv, tv, rfl, hgm, hb3⟩
      have Hgm := hide hgm
      have Hb3 := hide ((unhide Hb2).trans (hb3.mono hz2))
      clear hgm hb3
      go_wp2
      go_ret3
      exact ⟨some ⟨G, 0, none⟩, rfl, unhide Hb3, .inr ⟨rfl, G, nv, tv, rfl, (unhide Hgm).turn fun b hS _ => ⟨by omega, rfl⟩⟩⟩
end Go.Proofs.YtbojcemamhiodaaGreatDoor

import Derived.Test.YtcgocmocceikdabNam
namespace Go.Proofs.Ytcgocmocceikdab
open Go.RowKit

/-- Compile's error and place; none: a tree is deeper than F, or the rounds of findBegins have not come to an end after Z -/
def compileF (F Z : Nat) (s : ByteArray) : Option (Int × Int) :=
  if (parseF s).err ≠ 0 then some ((parseF s).err, (parseF s).at_) else if ((parseF s).rules.all fun r => fits F r.body.kids) = true then checkF F Z (parseF s).rules else none

theorem check_any (w : World) (lo F Z : Nat) (v : Value) (rs : List Rl) (r : Int × Int) (hr : checkF F Z rs = some r) (hF : DeepF F rs) (hg : GrowR w lo v rs) :
    Calls Try.prog 9 #[v] w fun e w' => e = .returned (.tuple #[.int .i64 r.1, .int .i64 r.2]) ∧ Below w.heap.size w w' := by
  by_cases hn : rs.length = 0 ∨ 12 < rs.length
  · exact check_few w lo F Z v rs r hr hg hn
  · unfold checkF at hr
    rw [if_neg hn] at hr
    exact check_many w lo F Z v rs r hr hg (by omega) (by omega) hF

theorem checkF_ok {F Z : Nat} {rs : List Rl} {r : Int × Int} (h : checkF F Z rs = some r) (h0 : r.1 = 0) : rs.length ≤ 12 := by
  unfold checkF at h
  split at h
  · injection h with h
    rw [← h] at h0
    simp at h0
  · omega

/-- what Compile leaves, of what the statement asks -/
def OutC (w : World) (r : Int × Int) (e : Ending) (w' : World) : Prop :=
  ∃ p, e = .returned (.tuple #[.pointer p, .int .i64 r.1, .int .i64 r.2]) ∧ (p = none ↔ r.1 ≠ 0) ∧ Below w.heap.size w w'

set_option maxHeartbeats 2000000 in
theorem compile_any (w : World) (F Z : Nat) (s : ByteArray) (r : Int × Int) (hs : s.size ≤ 1000000) (hr : compileF F Z s = some r) :
    Calls Try.prog 6 #[.string s] w (OutC w r) := by
  unfold compileF at hr
  have HP := hide (parse_any w s hs)
  generalize parseF s = p at hr HP
  by_cases he : p.err ≠ 0
  · rw [if_pos he] at hr
    injection hr with hr
    subst hr
    have b1 : (p.err != 0) = true := by simpa using he
    have He := hide he
    clear he
    go_enter Try.func6, Try.ntmps6
    go_wp2_with fail
    go_at_call 8
    refine (unhide HP).mono ?_
    rintro e w1 ⟨ao, cp, rfl, hg1, hb1⟩
    go_wp2
    go_ret3
    exact ⟨none, rfl, ⟨fun _ => unhide He, fun _ => rfl⟩, hb1⟩
  · rw [if_neg he] at hr
    have b1 : (p.err != 0) = false := by simpa using he
    by_cases hfit : (p.rules.all fun r => fits F r.body.kids) = true
    case neg => rw [if_neg hfit] at hr; cases hr
    rw [if_pos hfit] at hr
    have HF := hide (show DeepF F p.rules from List.all_eq_true.1 hfit)
    clear hfit
    have Hr := hide hr
    clear he hr
    go_enter Try.func6, Try.ntmps6
    go_wp2_with fail
    go_at_call 8
    refine (unhide HP).mono ?_
    rintro e w1 ⟨ao, cp, rfl, hg1, hb1⟩
    have Hg1 := hide hg1
    have Hb1 := hide hb1
    clear hg1 hb1
    go_wp2_with fail
    go_at_call 9
    refine (check_any _ _ _ _ _ _ _ (unhide Hr) (unhide HF) (unhide Hg1)).mono ?_
    rintro e w2 ⟨rfl, hb2⟩
    have hz1 := (unhide Hb1).size
    have Hb2 := hide ((unhide Hb1).trans (hb2.mono hz1))
    have Hg2 := hide ((unhide Hg1).keeps (below_keeps hb2 (Nat.le_refl _)))
    have hz2 := (unhide Hb2).size
    clear hb2
    by_cases he2 : r.1 ≠ 0
    · have b2 : (r.1 != 0) = true := by simpa using he2
      have He2 := hide he2
      clear he2
      go_wp2
      go_ret3
      exact ⟨none, rfl, ⟨fun _ => unhide He2, fun _ => rfl⟩, unhide Hb2⟩
    · have b2 : (r.1 != 0) = false := by simpa using he2
      have he3 : r.1 = 0 := by omega
      have hl := checkF_ok (unhide Hr) he3
      have hr2 : r = (0, 0) := by
        have h1 := unhide Hr
        unfold checkF at h1
        rw [if_neg (by
          intro hn
          rw [if_pos hn] at h1
          injection h1 with h1
          rw [← h1] at he3
          simp at he3)] at h1
        unfold check2 at h1
        split at h1
        · injection h1 with h1; rw [← h1] at he3; simp at he3
        · split at h1
          · injection h1 with h1; rw [← h1] at he3; simp at he3
          · cases hfb : fixB F Z (fixE F 13 p.rules) with
            | none => rw [hfb] at h1; simp at h1
            | some rz =>
              rw [hfb] at h1
              simp at h1
              unfold check3 at h1
              split at h1
              · rw [← h1] at he3; simp at he3
              · split at h1
                · rw [← h1] at he3; simp at he3
                · exact h1.symm
      subst hr2
      clear he2 he3
      go_wp2_with fail
      go_at_call 10
      refine (namesOf_any _ _ _ _ (unhide Hg2) hl).mono ?_
      rintro e w3 ⟨v3, rfl, ho3, hb3⟩
      obtain ⟨ao3, n3, cp3, rfl⟩ : ∃ a b c, v3 = .slice a b c := by
        rcases ho3.2 with ⟨h, _⟩ | ⟨_, _, _, h, _⟩
        · exact ⟨_, _, _, h⟩
        · exact ⟨_, _, _, h⟩
      have Hb3 := hide ((unhide Hb2).trans (hb3.mono hz2))
      clear ho3 hb3
      go_wp2
      go_ret3
      exact ⟨some ⟨w3.heap.size, 0, none⟩, rfl, ⟨fun h => by simp at h, fun h => by simp at h⟩, (unhide Hb3).alloc (by have := (unhide Hb3).size; omega) _⟩
end Go.Proofs.Ytcgocmocceikdab

import Derived.Test.YtdofpbbahamkkaaChkB
import Derived.Test.YtdofpbbahamkkaaParse
namespace Go.Proofs.Ytdofpbbahamkkaa
open Go.RowKit

def check3 (F : Nat) (rz : List Rl) : Int × Int :=
  if (leftL rz 0 != -1) = true then (7, leftL rz 0) else if (firstR (loopN rz (F + 1)) rz != -1) = true then (8, firstR (loopN rz (F + 1)) rz) else (0, 0)
def check2 (F Z : Nat) (rs : List Rl) : Option (Int × Int) :=
  if (twiceL rs rs 0 != -1) = true then some (5, twiceL rs rs 0) else
  if (firstR (unkN rs (F + 1)) rs != -1) = true then some (6, firstR (unkN rs (F + 1)) rs) else
  (fixB F Z (fixE F 13 rs)).map (check3 F)
def checkF (F Z : Nat) (rs : List Rl) : Option (Int × Int) :=
  if rs.length = 0 ∨ 12 < rs.length then some (4, 0) else check2 F Z rs

set_option maxHeartbeats 2000000 in
theorem check_few (w : World) (lo F Z : Nat) (v : Value) (rs : List Rl) (r : Int × Int) (hr : checkF F Z rs = some r) (hg : GrowR w lo v rs) (hn : rs.length = 0 ∨ 12 < rs.length) :
    Calls Try.prog 17 #[v] w fun e w' => e = .returned (.tuple #[.int .i64 r.1, .int .i64 r.2]) ∧ Below w.heap.size w w' := by
  obtain ⟨ao, cp, rfl⟩ := hg.shape
  unfold checkF at hr
  rw [if_pos hn] at hr
  injection hr with hr
  subst hr
  clear hg
  rcases hn with hn | hn
  · rw [hn]
    go_enter Try.func17, Try.ntmps17
    go_wp2
    go_ret2
    exact ⟨rfl, Below.refl _ _⟩
  · have h0 : ((rs.length : Int) == 0) = false := by rw [beq_eq_false_iff_ne]; omega
    go_enter Try.func17, Try.ntmps17
    go_wp2
    go_ret2
    exact ⟨rfl, Below.refl _ _⟩

theorem Cells8.one {w : World} {S : Nat → Prop} {h : Nat} : ∀ {xs : List Value} {rs : List Rl}, Cells8 (IsK w S h) xs rs → ∀ u ∈ xs, u.oneCell' = true
  | _, [], hx, u, hu => by rw [hx] at hu; simp at hu
  | _, t :: ts, ⟨kv, rest, h1, h2, h3⟩, u, hu => by
    obtain ⟨ao, n, cp, rfl⟩ := h2.shape
    rw [h1] at hu
    rcases List.mem_append.1 hu with hu | hu
    · simp [Rl.cs] at hu
      rcases hu with rfl | rfl | rfl | rfl | rfl | rfl | rfl | rfl | rfl <;> rfl
    · exact Cells8.one h3 u hu

/-- the checker as check lays it -/
theorem ck_new {w w1 : World} {lo n : Nat} {own : Option Nat} {v : Value} {rs : List Rl} {xs : List Value} (h2 : Cells8 (IsK w (fun b => lo ≤ b ∧ own ≠ some b) n) xs rs) (hn0 : 0 < rs.length) (hn1 : rs.length ≤ 12)
    (ho : w1.ownsRow w.heap.size 83 8 v rs.length xs) (hg : (w.alloc (.cells #[] 83)).grownBy w1 (some w.heap.size)) :
    ∃ g cap, v = .slice (some ⟨g, 0, none⟩) rs.length cap ∧ w.heap.size ≤ g ∧ g < w1.heap.size ∧ Ck (w1.alloc (.cells #[.slice (some ⟨g, 0, none⟩) rs.length cap] 87)) (fun b => b < w.heap.size) w1.heap.size g cap rs := by
  rcases ho.2 with ⟨_, hz⟩ | ⟨g, cap, cur, hv, hlo, hh, hc1, hc2, hc3, ht⟩
  · omega
  refine ⟨g, cap, hv, hlo, (Array.getElem?_eq_some_iff.1 hh).1, ⟨heap_alloc_new _ _, ⟨cur, n, xs, heap_old hh, hc1, hc2, hc3, ht, ?_⟩, hn1⟩⟩
  refine Cells8.imp (fun _ _ k => k.turn fun b hS hz => ⟨hz, ?_⟩) h2
  have e1 : w1.heap[b]? = (w.alloc (.cells #[] 83)).heap[b]? := hg.block b (by simp; omega) (fun e => by injection e with e; omega)
  have hz1 : b < w1.heap.size := by have := hg.size; simp at this; omega
  rw [Below.heap_alloc _ _ _ hz1, e1, Below.heap_alloc _ _ _ hz]

theorem grown_below {w w1 : World} {o : Obj} (hg : (w.alloc o).grownBy w1 (some w.heap.size)) : Below w.heap.size w w1 :=
  ((Below.refl _ w).alloc (Nat.le_refl _) o).grown hg (by simp) (fun k hk => by injection hk with hk; omega)

set_option maxRecDepth 4000 in
set_option maxHeartbeats 2000000 in
theorem check_many (w : World) (lo F Z : Nat) (v : Value) (rs : List Rl) (r : Int × Int) (hr : check2 F Z rs = some r) (hg : GrowR w lo v rs) (hn0 : 0 < rs.length) (hn1 : rs.length ≤ 12) (hF : DeepF F rs) :
    Calls Try.prog 17 #[v] w fun e w' => e = .returned (.tuple #[.int .i64 r.1, .int .i64 r.2]) ∧ Below w.heap.size w w' := by
  obtain ⟨hh, xs, h1, h2⟩ := hg
  rcases h1.2 with ⟨_, hz⟩ | ⟨g0, cap0, cur0, rfl, hlo, hh0, hcap, hcm, hcs, htake⟩
  · omega
  obtain ⟨i, hi, hz, hsz, hby⟩ := info_parts info54
  have h0 : ((rs.length : Int) == 0) = false := by rw [beq_eq_false_iff_ne]; omega
  have hlt0 : g0 < w.heap.size := (Array.getElem?_eq_some_iff.1 hh0).1
  have Hown0 : Hid ((w.alloc (.cells #[] 83)).ownsRow w.heap.size 83 8 (.slice (some ⟨w.heap.size, 0, none⟩) 0 0) 0 []) := World.ownsRow_made (base := w.heap.size) (e := 83) (size := 8) w #[] 0 (Nat.le_refl _) (by unfold maxLen; omega) rfl
  have Hnews : Hid (∀ j u, xs[j]? = some u → (w.alloc (.cells #[] 83)).cell? ((⟨g0, 0, none⟩ : Addr).add j) = some u) := by
    intro j u hj
    have := h1.cells (g := g0) rfl j u hj
    rw [← this]
    exact World.cell?_of_block (w := w) (Below.heap_alloc _ _ _ (by unfold Addr.add; split <;> exact hlt0))
  have Hone := hide h2.one
  have Hxl := hide h1.1
  have H2 := hide h2
  have HF := hide hF
  have Hr := hide hr
  clear h1 h2 htake hh0 hcs hF hr
  go_enter Try.func17, Try.ntmps17
  go_wp2_with (first | (at_builtin; refine wpList_append2 _ rfl (.tmp 14) (.tmp 15) 50 rfl w.heap.size 83 i _ 8 96 Try.underlying50 hi hz hsz hby rfl (by omega) _ 0 [] rfl (unhide Hown0) ⟨g0, 0, none⟩ rs.length cap0 hn0 xs rfl (unhide Hxl) (unhide Hnews) (unhide Hone) (by unfold maxLen; omega) (by omega) (by simp) ?_) | (go_at_call 28; fail) | go_in)
  intro v' w1 hown1 hgr1 _
  obtain ⟨g, cap, rfl, hg1, hg2, hck⟩ := ck_new (unhide H2) hn0 hn1 hown1 hgr1
  have HB1 := hide (grown_below hgr1)
  have Hck := hide hck
  have hzz := (unhide HB1).size
  clear hown1 hgr1 hck
  have hcg : w1.heap.size ≠ g := by omega
  go_wp2_with fail
  go_at_call 28
  refine (twice_any _ _ _ _ _ _ (unhide Hck)).mono ?_
  rintro e w2 ⟨rfl, hb2⟩
  have Hck2 := hide ((unhide Hck).below hb2)
  have HB2 := hide (((unhide HB1).alloc hzz (.cells #[.slice (some ⟨g, 0, none⟩) rs.length cap] 87)).trans (hb2.mono (by simp; omega)))
  have hz2 := (unhide HB2).size
  clear hb2
  cases hx1 : (twiceL rs rs 0 != -1)
  · have Hr2 : Hid ((if (firstR (unkN rs (F + 1)) rs != -1) = true then some (6, firstR (unkN rs (F + 1)) rs) else (fixB F Z (fixE F 13 rs)).map (check3 F)) = some r) := by
      have := unhide Hr; unfold check2 at this; rw [if_neg (by simp [hx1])] at this; exact this
    go_wp2_with fail
    go_at_call 29
    refine (unknown_any _ _ _ _ _ _ _ (unhide Hck2) (unhide HF)).mono ?_
    rintro e w3 ⟨rfl, hb3⟩
    have Hck3 := hide ((unhide Hck2).below hb3)
    have HB3 := hide ((unhide HB2).trans (hb3.mono hz2))
    have hz3 := (unhide HB3).size
    clear hb3 hx1
    cases hx2 : (firstR (unkN rs (F + 1)) rs != -1)
    · have Hr3 : Hid ((fixB F Z (fixE F 13 rs)).map (check3 F) = some r) := by
        have := unhide Hr2; rw [if_neg (by simp [hx2])] at this; exact this
      obtain ⟨rz, hrz, hr3⟩ : ∃ rz, fixB F Z (fixE F 13 rs) = some rz ∧ check3 F rz = r := by
        have := unhide Hr3
        cases hfb : fixB F Z (fixE F 13 rs) with
        | none => rw [hfb] at this; simp at this
        | some rz => rw [hfb] at this; simp at this; exact ⟨rz, rfl, this⟩
      have Hrz := hide hrz
      have Hr4 := hide hr3
      clear hrz hr3
      go_wp2_with fail
      go_at_call 30
      refine (findEmpty_any _ _ _ _ _ _ _ (unhide Hck3) (unhide HF) (fun b hb => by omega) hcg).mono ?_
      rintro e w4 ⟨rfl, hck4, hF4, hb4⟩
      have Hck4 := hide hck4
      have HF4 := hide hF4
      have HB4 := hide ((unhide HB3).trans (but_below hb4 hg1 hz3))
      have hz4 := (unhide HB4).size
      clear hck4 hF4 hb4 hx2
      go_wp2_with fail
      go_at_call 31
      refine (findBegins_any _ _ _ _ _ _ _ _ _ (unhide Hrz) (unhide Hck4) (unhide HF4) (fun b hb => by omega) hcg).mono ?_
      rintro e w5 ⟨rfl, hck5, hF5, hb5⟩
      have Hck5 := hide hck5
      have HF5 := hide hF5
      have HB5 := hide ((unhide HB4).trans (but_below hb5 hg1 hz4))
      have hz5 := (unhide HB5).size
      clear hck5 hF5 hb5
      go_wp2_with fail
      go_at_call 32
      refine (left_any _ _ _ _ _ _ (unhide Hck5)).mono ?_
      rintro e w6 ⟨rfl, hb6⟩
      have Hck6 := hide ((unhide Hck5).below hb6)
      have HB6 := hide ((unhide HB5).trans (hb6.mono hz5))
      have hz6 := (unhide HB6).size
      clear hb6
      cases hx3 : (leftL rz 0 != -1)
      · have Hr5 : Hid ((if (firstR (loopN rz (F + 1)) rz != -1) = true then (8, firstR (loopN rz (F + 1)) rz) else (0, 0)) = r) := by
          have := unhide Hr4; unfold check3 at this; rw [if_neg (by simp [hx3])] at this; exact this
        go_wp2_with fail
        go_at_call 33
        refine (loop_any _ _ _ _ _ _ _ (unhide Hck6) (unhide HF5)).mono ?_
        rintro e w7 ⟨rfl, hb7⟩
        have HB7 := hide ((unhide HB6).trans (hb7.mono hz6))
        clear hb7 hx3
        cases hx4 : (firstR (loopN rz (F + 1)) rz != -1)
        · go_wp2
          go_ret2
          have e1 := unhide Hr5
          rw [if_neg (by simp [hx4])] at e1
          subst e1
          exact ⟨rfl, unhide HB7⟩
        · go_wp2
          go_ret2
          have e1 := unhide Hr5
          rw [if_pos hx4] at e1
          subst e1
          exact ⟨rfl, unhide HB7⟩
      · go_wp2
        go_ret2
        have e1 := unhide Hr4
        unfold check3 at e1
        rw [if_pos hx3] at e1
        subst e1
        exact ⟨rfl, unhide HB6⟩
    · go_wp2
      go_ret2
      have e1 := unhide Hr2
      rw [if_pos hx2] at e1
      injection e1 with e1
      subst e1
      exact ⟨rfl, unhide HB3⟩
  · go_wp2
    go_ret2
    have e1 := unhide Hr
    unfold check2 at e1
    rw [if_pos hx1] at e1
    injection e1 with e1
    subst e1
    exact ⟨rfl, unhide HB2⟩
end Go.Proofs.Ytdofpbbahamkkaa

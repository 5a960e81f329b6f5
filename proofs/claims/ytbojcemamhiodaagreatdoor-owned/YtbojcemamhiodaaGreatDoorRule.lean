import Derived.Test.YtbojcemamhiodaaGreatDoorRecG
import Derived.Test.YtbojcemamhiodaaGreatDoorRl
namespace Go.Proofs.YtbojcemamhiodaaGreatDoor
open Go.RowKit

structure RRes where
  err : Int
  rl : Rl
  tk : Tk
  d : Int
def Rl.zero : Rl := ⟨ByteArray.empty, 0, Nd.zero, false, 0⟩
def ruleEnd (s : ByteArray) (t : Tk) (r : Res) : RRes := if r.err ≠ 0 then ⟨r.err, Rl.zero, r.tk, r.d⟩ else ⟨0, ⟨t.of s, t.from_, r.nd, false, 0⟩, r.tk, r.d⟩
def ruleF (s : ByteArray) (t : Tk) : RRes :=
  if t.k ≠ 2 then ⟨2, Rl.zero, t, 0⟩ else
  if (nextT s t.to).k ≠ 3 then ⟨2, Rl.zero, nextT s t.to, 0⟩ else
  ruleEnd s t (exprN s 13 (nextT s (nextT s t.to).to) 0)

def OutR (s : ByteArray) (q : Nat) (w : World) (r : RRes) (e : Ending) (w' : World) : Prop :=
  ∃ ao n cp, e = .returned (.tuple #[.agg #[.string r.rl.name, .int .i64 r.rl.at_, .int .i64 r.rl.body.kind, .int .i64 r.rl.body.at_, .string r.rl.body.text, .slice ao n cp, .bool r.rl.empty, .int .i64 r.rl.begins], .int .i64 r.err]) ∧
    Kids w' w.heap.size (.slice ao n cp) r.rl.body.kids ∧ Ps w' q s r.tk r.d ∧ But q w w'

section
variable {q N : Nat} {w w1 : World} {s : ByteArray} {t : Tk} {dd : Int} {a0 a1 a2 a3 a4 a5 a6 a7 : Value}
theorem eight (h : w.heap[N]? = some (.cells #[a0, a1, a2, a3, a4, a5, a6, a7] 120)) :
    w.cell? ⟨N, 0, none⟩ = some a0 ∧ w.cell? ⟨N, 1, none⟩ = some a1 ∧ w.cell? ⟨N, 2, none⟩ = some a2 ∧ w.cell? ⟨N, 3, none⟩ = some a3 ∧ w.cell? ⟨N, 4, none⟩ = some a4 ∧ w.cell? ⟨N, 5, none⟩ = some a5 ∧ w.cell? ⟨N, 6, none⟩ = some a6 ∧ w.cell? ⟨N, 7, none⟩ = some a7 ∧
    (∀ o, w.frozen? ⟨N, o, none⟩ = false) ∧ N < w.heap.size := by
  refine ⟨?_, ?_, ?_, ?_, ?_, ?_, ?_, ?_, fun o => ?_, (Array.getElem?_eq_some_iff.1 h).1⟩
  all_goals simp [World.cell?, World.frozen?, h]
/-- eight stores into block N -/
def set8 (w : World) (N : Nat) (a0 a1 a2 a3 a4 a5 a6 a7 : Value) : World :=
  (((((((w.setCell ⟨N, 0, none⟩ a0).setCell ⟨N, 1, none⟩ a1).setCell ⟨N, 2, none⟩ a2).setCell ⟨N, 3, none⟩ a3).setCell ⟨N, 4, none⟩ a4).setCell ⟨N, 5, none⟩ a5).setCell ⟨N, 6, none⟩ a6).setCell ⟨N, 7, none⟩ a7
theorem Ps.set8 (h : Ps w q s t dd) (hn : N ≠ q) : Ps (set8 w N a0 a1 a2 a3 a4 a5 a6 a7) q s t dd :=
  (((((((h.set hn _).set hn _).set hn _).set hn _).set hn _).set hn _).set hn _).set hn _
theorem But.set8 (h : But q w w1) (hn : w.heap.size ≤ N) : But q w (set8 w1 N a0 a1 a2 a3 a4 a5 a6 a7) :=
  (((((((h.setCell (.inr hn) _).setCell (.inr hn) _).setCell (.inr hn) _).setCell (.inr hn) _).setCell (.inr hn) _).setCell (.inr hn) _).setCell (.inr hn) _).setCell (.inr hn) _
theorem Keeps.set8 {lo : Nat} (h : Keeps lo w w1) (hn : N < lo) : Keeps lo w (set8 w1 N a0 a1 a2 a3 a4 a5 a6 a7) :=
  (((((((h.set hn _).set hn _).set hn _).set hn _).set hn _).set hn _).set hn _).set hn _
end

set_option maxHeartbeats 2000000 in
theorem rule_any (w : World) (q : Nat) (s : ByteArray) (t : Tk) (hs : s.size ≤ 400) (ht : TkOk s t) (hp : Ps w q s t 0) (hE : SaidE s q (exprN s 13) 0) :
    Calls Tryz.prog 53 #[.pointer (some ⟨q, 0, none⟩)] w (OutR s q w (ruleF s t)) := by
  have hlt := hp.lt
  have hne : w.heap.size ≠ q := by omega
  have hne1 : w.heap.size + 1 ≠ q := by omega
  have hn := ht.next
  have hn2 := hn.1.next
  obtain ⟨c0, c1, c2, c3, c4⟩ := hp.cells
  have HE := hide hE
  clear hE
  by_cases h2 : t.k = 2
  · by_cases h3 : (nextT s t.to).k = 3
    · have HR : Hid (ruleF s t = ruleEnd s t (exprN s 13 (nextT s (nextT s t.to).to) 0)) := by
        unfold ruleF; rw [if_neg (by omega), if_neg (by omega)]; rfl
      have hf := exprN_fine (s := s) 13 0 (by omega) (by omega) _ hn2.1
      have H2 := hide h2
      have H3 := hide h3
      clear h2 h3
      go_enter Tryz.func53, Tryz.ntmps53
      go_wp2_with fail
      go_at_call 81
      refine (take_yes _ _ _ _ _ _ hs ht ((hp.alloc _).alloc _) (unhide H2)).mono ?_
      rintro e w1 ⟨rfl, hp1, hb1⟩
      have hN1 := hide (hb1.keep (heap_old (heap_alloc_new w _)) hne)
      have hT1 := hide (hb1.keep (heap_alloc_new _ _) (by simpa using hne1))
      go_wp2_with fail
      go_at_call 81
      refine (take_yes _ _ _ _ _ _ hs hn.1 hp1 (unhide H3)).mono ?_
      rintro e w2 ⟨rfl, hp2, hb2⟩
      have hN2 := hide (hb2.keep (unhide hN1) hne)
      have hT2 := hide (hb2.keep (unhide hT1) (by simpa using hne1))
      go_wp2_with fail
      go_at_call 82
      refine (unhide HE _ _ hn2.1 hp2).mono ?_
      generalize exprN s 13 (nextT s (nextT s t.to).to) 0 = r at HR hf ⊢
      rintro e w3 ⟨ao, nk, cp, rfl, hk3, hp3, hb3⟩
      have hN3 := hide (hb3.keep (unhide hN2) hne)
      have hT3 := hide (hb3.keep (unhide hT2) (by simpa using hne1))
      have hz1 := hb1.size
      have hz2 := hb2.size
      have hz3 := hb3.size
      simp at hz1
      have hB3 : But q w w3 := (hb1.from_alloc.from_alloc.trans hb2).trans hb3
      clear c0 c1 c2 c3 c4
      by_cases he : r.err ≠ 0
      · have b1 : (r.err != 0) = true := by simpa using he
        have HR' : Hid (ruleF s t = ⟨r.err, Rl.zero, r.tk, r.d⟩) := (unhide HR).trans (if_pos he)
        obtain ⟨r0, r1, r2, r3, r5, r6, r7, r8, rf, hz4⟩ := eight (unhide hN3)
        clear he
        go_wp2
        refine bodyPost_ret (v := .tuple #[.agg #[.string ByteArray.empty, .int .i64 0, .int .i64 0, .int .i64 0, .string ByteArray.empty, .slice none 0 0, .bool false, .int .i64 0], .int .i64 r.err]) (by simp [results, Tryz.results53, go_sem, r0, r1, r2, r3, r5, r6, r7, r8, hz4]; rfl) rfl ?_
        rw [unhide HR']
        exact ⟨none, 0, 0, rfl, Kids.nil _ _, (hp3.set8 hne).alloc _, (hB3.set8 (Nat.le_refl _)).alloc _⟩
      · have b1 : (r.err != 0) = false := by simpa using he
        have HR' : Hid (ruleF s t = ⟨0, ⟨t.of s, t.from_, r.nd, false, 0⟩, r.tk, r.d⟩) := (unhide HR).trans (if_neg he)
        clear he
        obtain ⟨t0, t1, t2, hzt⟩ := three (unhide hT3)
        simp at t0 t1 t2 hzt
        obtain ⟨d0, d1, d2, d3, d4⟩ := hp3.cells
        obtain ⟨r0, r1, r2, r3, r5, r6, r7, r8, rf, hz4⟩ := eight (unhide hN3)
        have hlt3 := hp3.lt
        have hne3 : w3.heap.size ≠ q := by omega
        have hn31 : w3.heap.size ≠ w.heap.size := by omega
        have hn32 : w.heap.size ≠ w3.heap.size := by omega
        go_wp2_with fail
        go_region_held3 (fun w' => w'.cell? ⟨w.heap.size + 1, 0, none⟩ = some (.int .i64 t.k) ∧ w'.cell? ⟨w.heap.size + 1, 1, none⟩ = some (.int .i64 t.from_) ∧ w'.cell? ⟨w.heap.size + 1, 2, none⟩ = some (.int .i64 t.to) ∧ w'.cell? ⟨q, 0, none⟩ = some (.string s) ∧
            w'.cell? ⟨w3.heap.size, 0, none⟩ = some (.int .i64 r.nd.kind) ∧ w'.cell? ⟨w3.heap.size, 1, none⟩ = some (.int .i64 r.nd.at_) ∧ w'.cell? ⟨w3.heap.size, 2, none⟩ = some (.string r.nd.text) ∧ w'.cell? ⟨w3.heap.size, 3, none⟩ = some (.slice ao nk cp)) (go_keep)
          (first | (go_at_call 83; refine (of_any _ _ _ ht).mono ?_; rintro e w4 ⟨rfl, hb4⟩; have hb5 := hide (below_drew hb4); clear hb4; obtain ⟨x0, x1, x2, hx⟩ := three (below_keep (unhide hb5) (heap_old (unhide hT3)) (Nat.le_refl _)); obtain ⟨y0, y1, y2, y3, yf, hy⟩ := four (below_keep (unhide hb5) (heap_alloc_new w3 _) (Nat.le_refl _)); obtain ⟨z0, z1, z2, z3, z4⟩ := ((hp3.alloc _).but (unhide hb5)).cells; obtain ⟨v0, v1, v2, v3, v4, v5, v6, v7, vf, hv⟩ := eight (below_keep (unhide hb5) (heap_old (unhide hN3)) (Nat.le_refl _)); simp at x0 x1 x2))
        go_wp2
        refine bodyPost_ret (v := .tuple #[.agg #[.string (t.of s), .int .i64 t.from_, .int .i64 r.nd.kind, .int .i64 r.nd.at_, .string r.nd.text, .slice ao nk cp, .bool false, .int .i64 0], .int .i64 0]) (by simp [results, Tryz.results53, go_sem, v0, v1, v2, v3, v4, v5, v6, v7]) rfl ?_
        rw [unhide HR']
        have hK : Keeps w2.heap.size w3 w4 := fun k hk hl => ((unhide hb5).block k (by simp; omega)).trans (Below.heap_alloc _ _ _ hl)
        exact ⟨ao, nk, cp, rfl, hk3.keeps (hK.set8 (by omega)) (by omega), ((hp3.alloc _).but (unhide hb5)).set8 hne, ((hB3.alloc _).below (unhide hb5) (by simp; omega)).set8 (Nat.le_refl _)⟩
    · have HR : Hid (ruleF s t = ⟨2, Rl.zero, nextT s t.to, 0⟩) := by
        unfold ruleF; rw [if_neg (by omega), if_pos h3]; rfl
      have H2 := hide h2
      have H3 := hide h3
      clear h2 h3
      go_enter Tryz.func53, Tryz.ntmps53
      go_wp2_with fail
      go_at_call 81
      refine (take_yes _ _ _ _ _ _ hs ht ((hp.alloc _).alloc _) (unhide H2)).mono ?_
      rintro e w1 ⟨rfl, hp1, hb1⟩
      have hN1 := hide (hb1.keep (heap_old (heap_alloc_new w _)) hne)
      obtain ⟨r0, r1, r2, r3, r5, r6, r7, r8, rf, hz4⟩ := eight (unhide hN1)
      go_wp2_with fail
      go_at_call 81
      refine (take_no _ _ _ _ _ _ hp1 (unhide H3)).mono ?_
      rintro e w2 ⟨rfl, rfl⟩
      go_wp2
      refine bodyPost_ret (v := .tuple #[.agg #[.string ByteArray.empty, .int .i64 0, .int .i64 0, .int .i64 0, .string ByteArray.empty, .slice none 0 0, .bool false, .int .i64 0], .int .i64 2]) (by simp [results, Tryz.results53, go_sem, r0, r1, r2, r3, r5, r6, r7, r8]; rfl) rfl ?_
      rw [unhide HR]
      exact ⟨none, 0, 0, rfl, Kids.nil _ _, hp1.set8 hne, hb1.from_alloc.from_alloc.set8 (Nat.le_refl _)⟩
  · have HR : Hid (ruleF s t = ⟨2, Rl.zero, t, 0⟩) := if_pos h2
    have H2 := hide h2
    clear h2
    go_enter Tryz.func53, Tryz.ntmps53
    go_wp2_with fail
    go_at_call 81
    refine (take_no _ _ _ _ _ _ ((hp.alloc _).alloc _) (unhide H2)).mono ?_
    rintro e w2 ⟨rfl, rfl⟩
    go_wp2
    refine bodyPost_ret (v := .tuple #[.agg #[.string ByteArray.empty, .int .i64 0, .int .i64 0, .int .i64 0, .string ByteArray.empty, .slice none 0 0, .bool false, .int .i64 0], .int .i64 2]) (by simp [results, Tryz.results53, go_sem]; rfl) rfl ?_
    rw [unhide HR]
    exact ⟨none, 0, 0, rfl, Kids.nil _ _, (hp.alloc _).alloc _, ((But.refl q w).alloc _).alloc _⟩
end Go.Proofs.YtbojcemamhiodaaGreatDoor

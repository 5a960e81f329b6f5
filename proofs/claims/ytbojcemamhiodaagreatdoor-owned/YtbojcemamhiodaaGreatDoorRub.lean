import Derived.Test.YtbojcemamhiodaaGreatDoorRho
import Derived.OwnWalk
namespace Go.Proofs.YtbojcemamhiodaaGreatDoor
open Go.RowKit
theorem infoStrL : (Tryz.prog.info? 9).map (fun i => (i.zero, i.size, i.bytes)) = some (some (.string ⟨#[]⟩), 1, 16) := by kernel_rfl
def strV (l : List ByteArray) : List Value := l.map Value.string
theorem strV_snoc {l : List ByteArray} {k : Nat} (hk : k < l.length) : strV (l.take (k + 1)) = strV (l.take k) ++ [.string l[k]] := by
  unfold strV
  rw [List.take_add_one, List.getElem?_eq_getElem hk, List.map_append]
  rfl
theorem str_new1 {w : World} {b : ByteArray} : ∀ j u, [Value.string b][j]? = some u → (w.alloc (.cells #[.string b] 9)).cell? ((⟨w.heap.size, 0, none⟩ : Addr).add j) = some u := World.news_of_block (heap_alloc_new w (.cells #[.string b] 9))
/-- Rules: the names, in a row of the caller's own -/
def OutNms (w : World) (nms : List ByteArray) (x : Ending) (w' : World) : Prop := ∃ v, x = .returned v ∧ w'.ownsRow w.heap.size 9 1 v nms.length (strV nms) ∧ Below w.heap.size w w'
set_option maxRecDepth 4000 in
set_option maxHeartbeats 2000000 in
theorem Rules_names (w : World) (S : Nat → Prop) (G : Nat) (nv tv : Value) (nms : List ByteArray) (T : List Tm) (h : Gm w S G nv tv nms T) (hn : nms.length ≤ 1000) : Calls Tryz.prog 14 #[.pointer (some ⟨G, 0, none⟩)] w (OutNms w nms) := by
  have hc0 : w.cell? ⟨G, 0, none⟩ = some nv := by simp [World.cell?, h.cell]
  have hGl : G < w.heap.size := (Array.getElem?_eq_some_iff.1 h.cell).1
  obtain ⟨na, nc, rfl⟩ := h.names.shape
  have HN := hide h.names
  obtain ⟨ti, hi, hzi, hs1, hby⟩ := info_parts infoStrL
  clear h
  go_enter Tryz.func14, Tryz.ntmps14
  go_wp2_with (first | (at_make; refine wpList_make_own w rfl _ (.tmp 12) 27 rfl w.heap.size 9 ti _ 1 Tryz.underlying27 hi hzi hs1 .i64 .i64 _ nms.length rfl rfl rfl (by rw [hby]; omega) (by unfold maxLen; omega) (Nat.le_refl _) ?_) | go_in)
  intro w1 hown1 hgr1
  have HB1 := hide ((Below.refl w.heap.size w).grown hgr1 (Nat.le_refl _) (fun k hk => by cases hk))
  have HO1 := hide hown1
  have hc1 := ((unhide HB1).cell (p := ⟨G, 0, none⟩) hGl).trans hc0
  have hz1 := (unhide HB1).size
  clear hown1 hgr1
  go_wp2_with fail
  go_loopw [3, 19] (fun v i wr => ∃ (k : Nat) (a1 : Option Addr) (p1 : Nat), k ≤ nms.length ∧ v = .slice a1 k p1 ∧ i = .int .i64 k ∧ Hid (wr.ownsRow w.heap.size 9 1 (.slice a1 k p1) k (strV (nms.take k))) ∧ Hid (Below w.heap.size w wr)) (fun _ i _ => nms.length - (intOf i).toNat)
  case atStart => exact ⟨0, some ⟨w.heap.size, 0, none⟩, nms.length, Nat.zero_le _, rfl, rfl, HO1, HB1⟩
  case round =>
    obtain ⟨k, a1, p1, hk, rfl, rfl, HO, HB⟩ := hrel
    have hzb := (unhide HB).size
    by_cases hk2 : k < nms.length
    · have hki : (k : Int) < nms.length := by omega
      obtain ⟨X, hX, hcX, hfX, hXl⟩ := rowAt ((unhide HN).turn (S' := AnyB) fun b _ hz => ⟨trivial, (unhide HB).block b hz⟩) (i := k) (u := .string nms[k]) (by rw [List.getElem?_map, List.getElem?_eq_getElem hk2]; rfl)
      subst hX
      have HSn := hide (strV_snoc hk2)
      have HO1 := hide (own_below (unhide HO) ((Below.refl _ _).alloc (Nat.le_refl _) (.cells #[.string nms[k]] 9)))
      have hlt1 := hide ((unhide HO).lt)
      go_wp2_with (first | (at_builtin; refine wpList_append2 (wr.alloc (.cells #[.string nms[k]] 9)) rfl (.tmp 23) (.tmp 25) 27 rfl w.heap.size 9 ti _ 1 16 Tryz.underlying27 hi hzi hs1 hby rfl (by omega) (.slice a1 k p1) k _ rfl (unhide HO1) ⟨wr.heap.size, 0, none⟩ 1 1 (by omega) [.string nms[k]] rfl rfl str_new1 (by simp; rfl) (by unfold maxLen; omega) (by omega) (by simp; omega) ?_) | go_in)
      intro v3 w3 hown3 hgr3 _
      obtain ⟨a3, c3, rfl⟩ := own_shape hown3
      have HO3 : Hid (w3.ownsRow w.heap.size 9 1 (.slice a3 (k + 1) c3) (k + 1) (strV (nms.take (k + 1)))) := by rw [unhide HSn]; exact hown3
      have HB3 := hide (((unhide HB).alloc hzb _).grown hgr3 (by simp; omega) (fun j hj => (unhide hlt1 j hj).1))
      clear hown3 hgr3
      go_wp2_with fail
      go_roundw
      case rel => exact ⟨k + 1, a3, c3, by omega, rfl, by go_num, HO3, HB3⟩
      case measure => simp [intOf]; omega
    · have hki : ¬ (k : Int) < nms.length := by omega
      have hke : k = nms.length := by omega
      have HF : Hid (wr.ownsRow w.heap.size 9 1 (.slice a1 k p1) nms.length (strV nms)) := by
        have h := unhide HO
        rw [hke, List.take_length] at h
        rw [hke]
        exact h
      clear hke
      go_wp2
      go_ret
      exact ⟨_, rfl, unhide HF, unhide HB⟩
set_option maxRecDepth 4000 in
set_option maxHeartbeats 2000000 in
theorem same_any (w : World) (av bv : Value) (l : List ByteArray) (ha : RowIn w AnyB 9 1 av l.length (strV l)) (hb : RowIn w AnyB 9 1 bv l.length (strV l)) (hn : l.length ≤ 1000) : Calls Tryz.prog 15 #[av, bv] w fun e w' => e = .returned (.bool true) ∧ Below w.heap.size w w' := by
  obtain ⟨aa, ac, rfl⟩ := ha.shape
  obtain ⟨ba, bc, rfl⟩ := hb.shape
  have HA := hide ha
  have HB := hide hb
  have hll : ((l.length : Int) != l.length) = false := by simp
  clear ha hb
  go_enter Tryz.func15, Tryz.ntmps15
  go_wp2_with fail
  go_loopw [13] (fun i wr => ∃ k : Nat, k ≤ l.length ∧ i = .int .i64 k ∧ Hid (Below w.heap.size w wr)) (fun i _ => l.length - (intOf i).toNat)
  case atStart => exact ⟨0, Nat.zero_le _, rfl, Below.refl _ _⟩
  case round =>
    obtain ⟨k, hk, rfl, HBl⟩ := hrel
    by_cases hk2 : k < l.length
    · have hki : (k : Int) < l.length := by omega
      have hk0 : (0 : Int) ≤ (k : Int) := by omega
      have hat : (strV l)[k]? = some (.string l[k]) := by unfold strV; rw [List.getElem?_map, List.getElem?_eq_getElem hk2]; rfl
      obtain ⟨X, hX, hcX, hfX, hXl⟩ := rowAt ((unhide HA).below (unhide HBl)) hat
      obtain ⟨Y, hY, hcY, hfY, hYl⟩ := rowAt ((unhide HB).below (unhide HBl)) hat
      subst hX
      subst hY
      have hne : (l[k].toList != l[k].toList) = false := by simp
      clear hat
      go_wp2_with fail
      go_region
      go_wp2_with fail
      go_roundw
      case rel => exact ⟨k + 1, by omega, by go_num, (unhide HBl).drew⟩
      case measure => simp [intOf]; omega
    · have hki : ¬ (k : Int) < l.length := by omega
      go_wp2
      go_ret
      exact ⟨rfl, unhide HBl⟩
theorem rl_names (gs : List RX) : (rlX gs).map (fun r => r.name) = gs.map RX.name := by
  unfold rlX
  rw [List.map_map]
  rfl
end Go.Proofs.YtbojcemamhiodaaGreatDoor

import Derived.Test.YtbojcemamhiodaaBo
import Derived.OwnWalk
namespace Go.Proofs.Ytbojcemamhiodaa
open Go.RowKit
theorem infoStrL : (Try.prog.info? 9).map (fun i => (i.zero, i.size, i.bytes)) = some (some (.string ⟨#[]⟩), 1, 16) := by kernel_rfl
def strV (l : List ByteArray) : List Value := l.map Value.string
theorem strV_snoc {l : List ByteArray} {k : Nat} (hk : k < l.length) : strV (l.take (k + 1)) = strV (l.take k) ++ [.string l[k]] := by
  unfold strV
  rw [List.take_add_one, List.getElem?_eq_getElem hk, List.map_append]
  rfl
theorem str_new1 {w : World} {b : ByteArray} : ∀ j u, [Value.string b][j]? = some u → (w.alloc (.cells #[.string b] 9)).cell? ((⟨w.heap.size, 0, none⟩ : Addr).add j) = some u := World.news_of_block (heap_alloc_new w (.cells #[.string b] 9))
/-- Rules: the names, in a row of the caller's own -/
def OutNms (w : World) (nms : List ByteArray) (x : Ending) (w' : World) : Prop := ∃ v, x = .returned v ∧ w'.ownsRow w.heap.size 9 1 v nms.length (strV nms) ∧ Below w.heap.size w w'
set_option maxRecDepth 4000 in
set_option maxHeartbeats 2000000 in
theorem Rules_names (w : World) (S : Nat → Prop) (G : Nat) (nv tv : Value) (nms : List ByteArray) (T : List Tm) (h : Gm w S G nv tv nms T) (hn : nms.length ≤ 1000) : Calls Try.prog 7 #[.pointer (some ⟨G, 0, none⟩)] w (OutNms w nms) := by
  have hc0 : w.cell? ⟨G, 0, none⟩ = some nv := by simp [World.cell?, h.cell]
  have hGl : G < w.heap.size := (Array.getElem?_eq_some_iff.1 h.cell).1
  obtain ⟨na, nc, rfl⟩ := h.names.shape
  have HN := hide h.names
  obtain ⟨ti, hi, hzi, hs1, hby⟩ := info_parts infoStrL
  clear h
  go_enter Try.func7, Try.ntmps7
  go_wp2_with (first | (at_make; refine wpList_make_own w rfl _ (.tmp 12) 28 rfl w.heap.size 9 ti _ 1 Try.underlying28 hi hzi hs1 .i64 .i64 _ nms.length rfl rfl rfl (by rw [hby]; omega) (by unfold maxLen; omega) (Nat.le_refl _) ?_) | go_in)
  intro w1 hown1 hgr1
  have HB1 := hide ((Below.refl w.heap.size w).grown hgr1 (Nat.le_refl _) (fun k hk => by cases hk))
  have HO1 := hide hown1
  have hc1 := ((unhide HB1).cell (p := ⟨G, 0, none⟩) hGl).trans hc0
  have hz1 := (unhide HB1).size
  clear hown1 hgr1
  go_wp2_with fail
  go_loopw [3, 19] (fun v i wr => ∃ (k : Nat) (a1 : Option Addr) (p1 : Nat), k ≤ nms.length ∧ v = .slice a1 k p1 ∧ i = .int .i64 k ∧ Hid (wr.ownsRow w.heap.size 9 1 (.slice a1 k p1) k (strV (nms.take k))) ∧ Hid (Below w.heap.size w wr)) (fun _ i _ => nms.length - (intOf i).toNat)
  case atStart => exact ⟨0, some ⟨w.heap.size, 0, none⟩, nms.length, Nat.zero_le _, rfl, rfl, HO1, HB1⟩
  case round =>
    obtain ⟨k, a1, p1, hk, rfl, rfl, HO, HB⟩ := hrel
    have hzb := (unhide HB).size
    by_cases hk2 : k < nms.length
    · have hki : (k : Int) < nms.length := by omega
      obtain ⟨X, hX, hcX, hfX, hXl⟩ := rowAt ((unhide HN).turn (S' := AnyB) fun b _ hz => ⟨trivial, (unhide HB).block b hz⟩) (i := k) (u := .string nms[k]) (by rw [List.getElem?_map, List.getElem?_eq_getElem hk2]; rfl)
      subst hX
      have HSn := hide (strV_snoc hk2)
      have HO1 := hide (own_below (unhide HO) ((Below.refl _ _).alloc (Nat.le_refl _) (.cells #[.string nms[k]] 9)))
      have hlt1 := hide ((unhide HO).lt)
      go_wp2_with (first | (at_builtin; refine wpList_append2 (wr.alloc (.cells #[.string nms[k]] 9)) rfl (.tmp 23) (.tmp 25) 28 rfl w.heap.size 9 ti _ 1 16 Try.underlying28 hi hzi hs1 hby rfl (by omega) (.slice a1 k p1) k _ rfl (unhide HO1) ⟨wr.heap.size, 0, none⟩ 1 1 (by omega) [.string nms[k]] rfl rfl str_new1 (by simp; rfl) (by unfold maxLen; omega) (by omega) (by simp; omega) ?_) | go_in)
      intro v3 w3 hown3 hgr3 _
      obtain ⟨a3, c3, rfl⟩ := own_shape hown3
      have HO3 : Hid (w3.ownsRow w.heap.size 9 1 (.slice a3 (k + 1) c3) (k + 1) (strV (nms.take (k + 1)))) := by rw [unhide HSn]; exact hown3
      have HB3 := hide (((unhide HB).alloc hzb _).grown hgr3 (by simp; omega) (fun j hj => (unhide hlt1 j hj).1))
      clear hown3 hgr3
      go_wp2_with fail
      go_roundw
      case rel => exact ⟨k + 1, a3, c3, by omega, rfl, by go_num, HO3, HB3⟩
      case measure => simp [intOf]; omega
    · have hki : ¬ (k : Int) < nms.length := by omega
      have hke : k = nms.length := by omega
      have HF : Hid (wr.ownsRow w.heap.size 9 1 (.slice a1 k p1) nms.length (strV nms)) := by
        have h := unhide HO
        rw [hke, List.take_length] at h
        rw [hke]
        exact h
      clear hke
      go_wp2
      go_ret
      exact ⟨_, rfl, unhide HF, unhide HB⟩
set_option maxRecDepth 4000 in
set_option maxHeartbeats 2000000 in
theorem same_any (w : World) (av bv : Value) (l : List ByteArray) (ha : RowIn w AnyB 9 1 av l.length (strV l)) (hb : RowIn w AnyB 9 1 bv l.length (strV l)) (hn : l.length ≤ 1000) : Calls Try.prog 6 #[av, bv] w fun e w' => e = .returned (.bool true) ∧ Below w.heap.size w w' := by
  obtain ⟨aa, ac, rfl⟩ := ha.shape
  obtain ⟨ba, bc, rfl⟩ := hb.shape
  have HA := hide ha
  have HB := hide hb
  have hll : ((l.length : Int) != l.length) = false := by simp
  clear ha hb
  go_enter Try.func6, Try.ntmps6
  go_wp2_with fail
  go_loopw [13] (fun i wr => ∃ k : Nat, k ≤ l.length ∧ i = .int .i64 k ∧ Hid (Below w.heap.size w wr)) (fun i _ => l.length - (intOf i).toNat)
  case atStart => exact ⟨0, Nat.zero_le _, rfl, Below.refl _ _⟩
  case round =>
    obtain ⟨k, hk, rfl, HBl⟩ := hrel
    by_cases hk2 : k < l.length
    · have hki : (k : Int) < l.length := by omega
      have hk0 : (0 : Int) ≤ (k : Int) := by omega
      have hat : (strV l)[k]? = some (.string l[k]) := by unfold strV; rw [List.getElem?_map, List.getElem?_eq_getElem hk2]; rfl
      obtain ⟨X, hX, hcX, hfX, hXl⟩ := rowAt ((unhide HA).below (unhide HBl)) hat
      obtain ⟨Y, hY, hcY, hfY, hYl⟩ := rowAt ((unhide HB).below (unhide HBl)) hat
      subst hX
      subst hY
      have hne : (l[k].toList != l[k].toList) = false := by simp
      clear hat
      go_wp2_with fail
      go_region
      go_wp2_with fail
      go_roundw
      case rel => exact ⟨k + 1, by omega, by go_num, (unhide HBl).drew⟩
      case measure => simp [intOf]; omega
    · have hki : ¬ (k : Int) < l.length := by omega
      go_wp2
      go_ret
      exact ⟨rfl, unhide HBl⟩
theorem rl_names (gs : List RX) : (rlX gs).map (fun r => r.name) = gs.map RX.name := by
  unfold rlX
  rw [List.map_map]
  rfl
set_option maxRecDepth 4000 in
set_option maxHeartbeats 2000000 in
theorem Rules_any (w : World) (s : ByteArray) : Calls Try.prog 4 #[.string s] w fun e w' => e = .returned (.bool true) ∧ Below w.heap.size w w' := by
  have HB := hide (both_any w s)
  go_enter Try.func4, Try.ntmps4
  go_wp2_with fail
  go_at_call 5
  refine (unhide HB).mono ?_
  rintro x w1 ⟨hb, h⟩
  have HBe := hide hb
  rcases h with rfl | ⟨G, g, nv, tv, nv', av, ev, gs, F, rfl, hrl, hrg, hlz, hgr, hgm⟩
  · clear hb
    go_wp2_with fail
    go_quiet (fail)
    go_wp2
    go_ret
    exact ⟨rfl, below_drewN' (unhide HBe) _⟩
  · have hz := hb.size
    have hlen : gs.length ≤ 12 := by
      by_cases h12 : gs.length = 0 ∨ 12 < gs.length
      · unfold lawX at hlz
        rw [if_pos h12] at hlz
        simp at hlz
      · omega
    rw [← hrl, rl_names] at hgm
    obtain ⟨c0, _, _, hgl⟩ := hgr.cells
    have HN := hide (fun W (hW : Below w1.heap.size w1 W) => Rules_names W _ G nv tv _ _ (hgm.turn fun b hS hz => ⟨hS, hW.block b hz⟩) (by simp; omega))
    have HS := hide (fun W v (hW : Below w1.heap.size w1 W) (hv : W.ownsRow w1.heap.size 9 1 v (gs.map RX.name).length (strV (gs.map RX.name))) => same_any W v nv' (gs.map RX.name) ((RowIn.of_owns hv).any) (by have h := hgr.names.below hW; rw [List.length_map]; unfold strV; rw [List.map_map]; exact h) (by simp; omega))
    clear hb hrl hrg hlz hgr hgm hlen
    go_wp2_with fail
    refine wp_region_held_drew (S := fun w' => w'.cell? ⟨g, 0, none⟩ = some nv') (by kernel_rfl) c0 (fun hHeld => ?_)
    refine take_dst (i := 0) 12 (v := ?_) rfl rfl (by kernel_rfl) (by kernel_rfl) (by kernel_rfl) (fun _ _ _ h => h) (Or.inl ⟨by kernel_rfl, ?_⟩) (by assumption) ?_
    rotate_left
    · intro w hSw
      go_simp
      try with_reducible rfl
    try simp only [Act.put, List.setIfInBounds_toArray, List.set_cons_zero, List.set_cons_succ]
    refine take_dst (i := 1) 13 (v := ?_) rfl rfl (by kernel_rfl) (by kernel_rfl) (by kernel_rfl) (fun _ _ _ h => h) (Or.inl ⟨by kernel_rfl, ?_⟩) (by assumption) ?_
    rotate_left
    · intro w hSw
      go_simp
      try with_reducible rfl
    try simp only [Act.put, List.setIfInBounds_toArray, List.set_cons_zero, List.set_cons_succ]
    refine take_dst (i := 2) 14 (v := ?_) rfl rfl (by kernel_rfl) (by kernel_rfl) (by kernel_rfl) (fun _ _ _ h => h) (Or.inl ⟨by kernel_rfl, ?_⟩) (by assumption) ?_
    rotate_left
    · intro w hSw
      go_simp
      try with_reducible rfl
    try simp only [Act.put, List.setIfInBounds_toArray, List.set_cons_zero, List.set_cons_succ]
    refine take_dst (i := 3) 15 (v := ?_) rfl rfl (by kernel_rfl) (by kernel_rfl) (by kernel_rfl) (fun _ _ _ h => h) (Or.inl ⟨by kernel_rfl, ?_⟩) (by assumption) ?_
    rotate_left
    · intro w hSw
      go_simp
      try with_reducible rfl
    try simp only [Act.put, List.setIfInBounds_toArray, List.set_cons_zero, List.set_cons_succ]
    refine take_dst (i := 4) 16 (v := ?_) rfl rfl (by kernel_rfl) (by kernel_rfl) (by kernel_rfl) (fun _ _ _ h => h) (Or.inl ⟨by kernel_rfl, ?_⟩) (by assumption) ?_
    rotate_left
    · intro w hSw
      go_simp
      try with_reducible rfl
    try simp only [Act.put, List.setIfInBounds_toArray, List.set_cons_zero, List.set_cons_succ]
    refine take_dst (i := 5) 17 (v := ?_) rfl rfl (by kernel_rfl) (by kernel_rfl) (by kernel_rfl) (fun _ _ _ h => h) (Or.inl ⟨by kernel_rfl, ?_⟩) (by assumption) ?_
    rotate_left
    · intro w hSw
      go_simp
      try with_reducible rfl
    try simp only [Act.put, List.setIfInBounds_toArray, List.set_cons_zero, List.set_cons_succ]
    refine take_dst (i := 7) 19 (v := ?_) rfl rfl (by kernel_rfl) (by kernel_rfl) (by kernel_rfl) (fun _ _ _ h => h) (Or.inl ⟨by kernel_rfl, ?_⟩) (by assumption) ?_
    rotate_left
    · intro w hSw
      go_simp
      try with_reducible rfl
    try simp only [Act.put, List.setIfInBounds_toArray, List.set_cons_zero, List.set_cons_succ]
    refine take_dst (i := 8) 20 (v := ?_) rfl rfl (by kernel_rfl) (by kernel_rfl) (by kernel_rfl) (fun _ _ _ h => h) (Or.inl ⟨by kernel_rfl, ?_⟩) (by assumption) ?_
    rotate_left
    · intro w hSw
      go_simp
      try with_reducible rfl
    try simp only [Act.put, List.setIfInBounds_toArray, List.set_cons_zero, List.set_cons_succ]
    refine take_dst (i := 9) 21 (v := ?_) rfl rfl (by kernel_rfl) (by kernel_rfl) (by kernel_rfl) (fun _ _ _ h => h) (Or.inl ⟨by kernel_rfl, ?_⟩) (by assumption) ?_
    rotate_left
    · intro w hSw
      go_simp
      try with_reducible rfl
    try simp only [Act.put, List.setIfInBounds_toArray, List.set_cons_zero, List.set_cons_succ]
    refine take_dst (i := 10) 22 (v := ?_) rfl rfl (by kernel_rfl) (by kernel_rfl) (by kernel_rfl) (fun _ _ _ h => h) (Or.inl ⟨by kernel_rfl, ?_⟩) (by assumption) ?_
    rotate_left
    · intro w hSw
      go_simp
      try with_reducible rfl
    try simp only [Act.put, List.setIfInBounds_toArray, List.set_cons_zero, List.set_cons_succ]
    refine wpAnyH_ready (rs := [6]) (by kernel_rfl) (by simp) ?_
    refine AllReadyH.cons rfl (fun K hK => ?_) AllReadyH.nil
    rw [if_pos (by kernel_rfl)]
    go_simp
    go_at_call 7
    refine (unhide HN _ (Below.refl _ _).drew).mono ?_
    rintro x w2 ⟨v2, rfl, hown2, hb2⟩
    have hbd : Below w1.heap.size w1 w2 := (Below.refl w1.heap.size w1).drew.trans hb2
    have HSm := hide (unhide HS _ _ hbd hown2)
    have HB2 := hide ((unhide HBe).trans (hbd.mono hz))
    have hc2 := (hbd.cell (p := ⟨g, 0, none⟩) hgl).trans c0
    have hz2 := (unhide HB2).size
    have hgl2 : g < w2.heap.size := Nat.lt_of_lt_of_le hgl hbd.size
    clear hown2 hb2 hbd
    refine hK.out _ _ hc2 (fun hHeld2 => ?_)
    clear hK K hHeld
    try simp only [Act.put, List.setIfInBounds_toArray, List.set_cons_zero, List.set_cons_succ]
    refine wpAnyH_ready (rs := [11]) (by kernel_rfl) (by simp) ?_
    refine AllReadyH.cons rfl (fun K hK => ?_) AllReadyH.nil
    rw [if_pos (by kernel_rfl)]
    go_simp
    go_at_call 6
    refine (unhide HSm).mono ?_
    rintro x w3 ⟨rfl, hb3⟩
    have HB3 := hide ((unhide HB2).trans (hb3.mono hz2))
    have hc3 := (hb3.cell (p := ⟨g, 0, none⟩) hgl2).trans hc2
    clear hb3
    refine hK.out _ _ hc3 (fun hHeld3 => ?_)
    clear hK K hHeld2
    try simp only [Act.put, List.setIfInBounds_toArray, List.set_cons_zero, List.set_cons_succ]
    refine take_dst (i := 12) 24 (v := ?_) rfl rfl (by kernel_rfl) (by kernel_rfl) (by kernel_rfl) (fun _ _ _ h => h) (Or.inl ⟨by kernel_rfl, ?_⟩) (by assumption) ?_
    rotate_left
    · intro w hSw
      go_simp
      try with_reducible rfl
    try simp only [Act.put, List.setIfInBounds_toArray, List.set_cons_zero, List.set_cons_succ]
    refine take_dst (i := 13) 25 (v := ?_) rfl rfl (by kernel_rfl) (by kernel_rfl) (by kernel_rfl) (fun _ _ _ h => h) (Or.inl ⟨by kernel_rfl, ?_⟩) (by assumption) ?_
    rotate_left
    · intro w hSw
      go_simp
      try with_reducible rfl
    try simp only [Act.put, List.setIfInBounds_toArray, List.set_cons_zero, List.set_cons_succ]
    refine take_dst (i := 14) 2 (v := ?_) rfl rfl (by kernel_rfl) (by kernel_rfl) (by kernel_rfl) (fun _ _ _ h => h) (Or.inl ⟨by kernel_rfl, ?_⟩) (by assumption) ?_
    rotate_left
    · intro w hSw
      go_simp
      try with_reducible rfl
    try simp only [Act.put, List.setIfInBounds_toArray, List.set_cons_zero, List.set_cons_succ]
    refine wpAnyH_done (by kernel_rfl) ?_ _
    try simp only [Act.put, List.setIfInBounds_toArray, List.set_cons_zero, List.set_cons_succ]
    go_wp2
    go_ret
    exact ⟨rfl, unhide HB3⟩
end Go.Proofs.Ytbojcemamhiodaa

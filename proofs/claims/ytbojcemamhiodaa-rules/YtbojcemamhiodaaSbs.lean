import Derived.Test.YtbojcemamhiodaaRgs
namespace Go.Proofs.Ytbojcemamhiodaa
open Go.RowKit
set_option linter.unusedSimpArgs false in
set_option maxRecDepth 10000 in
set_option maxHeartbeats 4000000 in
theorem single_set (w : World) (q B cap : Nat) (s : ByteArray) (T : List Tk) (d : Int) (E : Tk → Int → Res) (t : Tk) (k : Nat) (hT : ChainT s T) (ht : T[k]? = some t) (hr : RS w q B cap s T k d 0 0) (hk : t.k = 5) :
    Calls Try.prog 66 #[.pointer (some ⟨q, 0, none⟩)] w (OutX w q B cap s T d (singleF s E t d)) := by
  obtain ⟨str, f, cs, hF⟩ := tok_facts hr ht
  have hkl := hF.hl
  have hkm := hF.hm
  have HTR := hide hF.tr
  have HF := hide hF
  have hzt := zeroTok
  have hk0 : (0 : Int) ≤ (k : Int) := Int.natCast_nonneg _
  have hqw := hr.lt
  have hfew := hT.few
  obtain ⟨hok, h17, hnx⟩ := hT.ok k t ht
  clear hF hr
  go_enter Try.func66, Try.ntmps66
  go_upto_region 1 with fail
  go_cut [3] (fun v wc => v = .pointer (some ⟨w.heap.size, 0, none⟩) ∧ Hid (TokB wc w.heap.size (whatK t.k) str f t.from_) ∧ Hid (RS wc q B cap s T k d 0 0) ∧ Hid (Below w.heap.size w wc))
  case first =>
    refine wp_region_held_drew (S := fun w' => w'.cell? ⟨q, 0, none⟩ = some (.slice (some ⟨B, 0, none⟩) T.length cap) ∧ w'.cell? ⟨q, 1, none⟩ = some (.int .i64 k) ∧ w'.rangeAt B (k * 259) cs) (by kernel_rfl) (unhide HF).s1 (fun hHeld => ?_)
    refine wpAnyH_take (i := 0) (v := ?_) rfl (by kernel_rfl) (by kernel_rfl) (by kernel_rfl) (fun _ _ _ h => h) (Or.inl ⟨by rfl, ?_⟩) (by assumption) ?_
    rotate_left
    · intro w hSw
      obtain ⟨s0, s1, s2⟩ := hSw
      go_simp
      try with_reducible rfl
    try simp only [Act.put, List.setIfInBounds_toArray, List.set_cons_zero, List.set_cons_succ]
    refine wpAnyH_take (i := 1) (v := ?_) rfl (by kernel_rfl) (by kernel_rfl) (by kernel_rfl) (fun _ _ _ h => h) (Or.inl ⟨by rfl, ?_⟩) (by assumption) ?_
    rotate_left
    · intro w hSw
      obtain ⟨s0, s1, s2⟩ := hSw
      go_simp
      try with_reducible rfl
    try simp only [Act.put, List.setIfInBounds_toArray, List.set_cons_zero, List.set_cons_succ]
    refine wpAnyH_take (i := 2) (v := ?_) rfl (by kernel_rfl) (by kernel_rfl) (by kernel_rfl) (fun _ _ _ h => h) (Or.inl ⟨by rfl, ?_⟩) (by assumption) ?_
    rotate_left
    · intro w hSw
      obtain ⟨s0, s1, s2⟩ := hSw
      go_simp
      try with_reducible rfl
    try simp only [Act.put, List.setIfInBounds_toArray, List.set_cons_zero, List.set_cons_succ]
    refine wpAnyH_take (i := 3) (v := ?_) rfl (by kernel_rfl) (by kernel_rfl) (by kernel_rfl) (fun _ _ _ h => h) (Or.inl ⟨by rfl, ?_⟩) (by assumption) ?_
    rotate_left
    · intro w hSw
      obtain ⟨s0, s1, s2⟩ := hSw
      go_simp
      try with_reducible rfl
    try simp only [Act.put, List.setIfInBounds_toArray, List.set_cons_zero, List.set_cons_succ]
    refine wpAnyH_take (i := 4) (v := ?_) rfl (by kernel_rfl) (by kernel_rfl) (by kernel_rfl) (fun _ _ _ h => h) (Or.inl ⟨by rfl, ?_⟩) (by assumption) ?_
    rotate_left
    · intro w hSw
      obtain ⟨s0, s1, s2⟩ := hSw
      go_simp
      try with_reducible rfl
    try simp only [Act.put, List.setIfInBounds_toArray, List.set_cons_zero, List.set_cons_succ]
    refine wpAnyH_take (i := 5) (v := ?_) rfl (by kernel_rfl) (by kernel_rfl) (by kernel_rfl) (fun _ _ _ h => h) (Or.inl ⟨by rfl, ?_⟩) (by assumption) ?_
    rotate_left
    · intro w hSw
      obtain ⟨s0, s1, s2⟩ := hSw
      go_simp
      try with_reducible rfl
    try simp only [Act.put, List.setIfInBounds_toArray, List.set_cons_zero, List.set_cons_succ]
    refine wpAnyH_take (i := 6) (v := ?_) rfl (by kernel_rfl) (by kernel_rfl) (by kernel_rfl) (fun _ _ _ h => h) (Or.inl ⟨by rfl, ?_⟩) (by assumption) ?_
    rotate_left
    · intro w hSw
      obtain ⟨s0, s1, s2⟩ := hSw
      go_simp
      try with_reducible rfl
    try simp only [Act.put, List.setIfInBounds_toArray, List.set_cons_zero, List.set_cons_succ]
    refine wpAnyH_take (i := 7) (v := ?_) rfl (by kernel_rfl) (by kernel_rfl) (by kernel_rfl) (fun _ _ _ h => h) (Or.inl ⟨by rfl, ?_⟩) (by assumption) ?_
    rotate_left
    · intro w hSw
      obtain ⟨s0, s1, s2⟩ := hSw
      go_simp
      try with_reducible rfl
    try simp only [Act.put, List.setIfInBounds_toArray, List.set_cons_zero, List.set_cons_succ]
    refine wpAnyH_take (i := 8) (v := ?_) rfl (by kernel_rfl) (by kernel_rfl) (by kernel_rfl) (fun _ _ _ h => h) (Or.inl ⟨by rfl, ?_⟩) (by assumption) ?_
    rotate_left
    · intro w hSw
      obtain ⟨s0, s1, s2⟩ := hSw
      go_simp
      try with_reducible rfl
    try simp only [Act.put, List.setIfInBounds_toArray, List.set_cons_zero, List.set_cons_succ]
    refine wpAnyH_take (i := 9) (v := .agg cs.toArray) rfl (by kernel_rfl) (by kernel_rfl) (by kernel_rfl) (fun _ _ _ h => h) (yieldsIf_load_mid (by rfl) 56 (.tmp 15) (by rfl) B (k * 259) ?hx cs _ (fun w hSw => ?hs) Try.underlying56 (by simp [TypeDesc.isRow]) (unhide HF).hi) (by assumption) ?rst
    case hx => go_simp
    case hs => exact hSw.2.2
    case rst =>
    try simp only [Act.put, List.setIfInBounds_toArray, List.set_cons_zero, List.set_cons_succ]
    clear hHeld
    refine wpAnyH_ready (rs := [10]) (by kernel_rfl) (by simp) ?_
    refine AllReadyH.cons rfl (fun K hK => ?_) AllReadyH.nil
    go_simp
    refine hK.out _ _ (unhide HF).s2 (fun hHeld2 => ?_)
    clear hK K
    try simp only [Act.put, List.setIfInBounds_toArray, List.set_cons_zero, List.set_cons_succ]
    refine wpAnyH_ready (rs := [11]) (by kernel_rfl) (by simp) ?_
    refine AllReadyH.cons rfl (fun K hK => ?_) AllReadyH.nil
    rw [if_pos (by rfl)]
    refine wp_store_mid0 rfl _ _ _ rfl _ _ cs.toArray rfl rfl (unhide HF).th (by rw [List.size_toArray]; exact (unhide HF).hi) (all_oneCell_toArray (unhide HF).one) ?_
    refine hK.out _ _ (unhide HF).s3 (fun _ => ?_)
    clear hK K hHeld2
    refine wpAnyH_done (by kernel_rfl) ?_ _
    try simp only [Act.put, List.setIfInBounds_toArray, List.set_cons_zero, List.set_cons_succ]
    go_wp2_with fail
    go_meet
    case rel => exact ⟨rfl, (unhide HF).tok, (unhide HF).rs, (unhide HF).bel⟩
  case rest =>
  obtain ⟨rfl, HTc, HRc, HBc⟩ := hcut
  clear HF hzt
  have hcz := (unhide HBc).size
  obtain ⟨c0, c1, c2, c3, c4, cf, hqlt⟩ := five (unhide HRc).rd
  have t0 := (unhide HTc).c0
  have t1 := (unhide HTc).c1
  have tl := (unhide HTc).lt
  have hNq : w.heap.size ≠ q := by omega
  have hres : singleF s E t d = ⟨0, leafF s t, nextT s t.to, d⟩ := by
    unfold singleF
    rw [if_neg (by omega), if_neg (by omega)]
  have hleaf : leafF s t = ⟨1, 0, if (1 : Int) = 1 then ⟨(bytesOf f true).toArray⟩ else .empty, []⟩ := by
    unfold leafF
    rw [if_neg (by omega), if_neg (by omega), if_pos rfl, (unhide HTR).set hk]
  have e13 : ((whatK t.k).toList == [40]) = false := by rw [whatL 13 [40] (by decide +kernel) h17 (by omega)]; simp; omega
  have e15 : ((whatK t.k).toList == [123]) = false := by rw [whatL 15 [123] (by decide +kernel) h17 (by omega)]; simp; omega
  have e2 : ((whatK t.k).toList == [110, 97, 109, 101]) = false := by rw [whatL 2 [110, 97, 109, 101] (by decide +kernel) h17 (by omega)]; simp; omega
  have e4 : ((whatK t.k).toList == [119, 111, 114, 100]) = false := by rw [whatL 4 [119, 111, 114, 100] (by decide +kernel) h17 (by omega)]; simp; omega
  have e5 : ((whatK t.k).toList == [115, 101, 116]) = true := by rw [whatL 5 [115, 101, 116] (by decide +kernel) h17 (by omega)]; simp; omega
  have hnx2 := hnx (by omega)
  have hlk := (List.getElem?_eq_some_iff.1 hnx2).1
  have hze := zeroExp
  have hlenE := expV_len
  have HRk := hide ((unhide HRc).setK ((k : Int) + 1))
  have HBk := hide ((But.of_below (unhide HBc) (Nat.le_refl _) : But q w wc).setCell (p := ⟨q, 1, none⟩) (.inl rfl) (.int .i64 ((k : Int) + 1)))
  have hsz : (wc.setCell ⟨q, 1, none⟩ (.int .i64 ((k : Int) + 1))).heap.size = wc.heap.size := by simp [World.setCell]
  have HTk := hide ((unhide HTc).other (p := ⟨q, 1, none⟩) (show q ≠ w.heap.size by omega) (.int .i64 ((k : Int) + 1)))
  have hL0 : (expV .empty (.slice none 0 0) .empty noB 0).set 0 (.string ⟨#[115, 101, 116]⟩) = expV ⟨#[115, 101, 116]⟩ (.slice none 0 0) .empty noB 0 := rfl
  have HRR := hide hres
  have HLf := hide hleaf
  clear hk hres hleaf
  go_wp2_with fail
  refine wp_load rfl (unhide HTk).loadSet ?_
  have hs256 := setCells_size f
  go_wp2_with fail
  have hfo := fold_set ⟨#[115, 101, 116]⟩ (.slice none 0 0) .empty f 0
  rw [hs256] at hfo
  rw [hfo]
  go_ret
  have hrk := unhide HRk
  have hcast : (k : Int) + 1 = ((k + 1 : Nat) : Int) := by omega
  rw [hcast] at hrk HBk hsz ⊢
  refine ⟨wc.heap.size, rfl, ?_⟩
  have hlo := leaf_out (o := 1) (str := .empty) (f := f) (a := 0) (r := singleF s E t d) (k' := k + 1) (unhide HBk) (by omega) (by omega) hrk ?_ ?_ ?_
  · rw [hsz] at hlo
    exact hlo
  · rw [unhide HRR]
  · rw [unhide HRR]
    exact unhide HLf
  · rw [unhide HRR]
    exact hnx2
end Go.Proofs.Ytbojcemamhiodaa
namespace Go.Proofs.Ytbojcemamhiodaa
open Go.RowKit
set_option linter.unusedSimpArgs false in
set_option maxRecDepth 10000 in
set_option maxHeartbeats 4000000 in
theorem single_dot (w : World) (q B cap : Nat) (s : ByteArray) (T : List Tk) (d : Int) (E : Tk → Int → Res) (t : Tk) (k : Nat) (hT : ChainT s T) (ht : T[k]? = some t) (hr : RS w q B cap s T k d 0 0) (hk : t.k = 12) :
    Calls Try.prog 66 #[.pointer (some ⟨q, 0, none⟩)] w (OutX w q B cap s T d (singleF s E t d)) := by
  obtain ⟨str, f, cs, hF⟩ := tok_facts hr ht
  have hkl := hF.hl
  have hkm := hF.hm
  have HTR := hide hF.tr
  have HF := hide hF
  have hzt := zeroTok
  have hk0 : (0 : Int) ≤ (k : Int) := Int.natCast_nonneg _
  have hqw := hr.lt
  have hfew := hT.few
  obtain ⟨hok, h17, hnx⟩ := hT.ok k t ht
  clear hF hr
  go_enter Try.func66, Try.ntmps66
  go_upto_region 1 with fail
  go_cut [3] (fun v wc => v = .pointer (some ⟨w.heap.size, 0, none⟩) ∧ Hid (TokB wc w.heap.size (whatK t.k) str f t.from_) ∧ Hid (RS wc q B cap s T k d 0 0) ∧ Hid (Below w.heap.size w wc))
  case first =>
    refine wp_region_held_drew (S := fun w' => w'.cell? ⟨q, 0, none⟩ = some (.slice (some ⟨B, 0, none⟩) T.length cap) ∧ w'.cell? ⟨q, 1, none⟩ = some (.int .i64 k) ∧ w'.rangeAt B (k * 259) cs) (by kernel_rfl) (unhide HF).s1 (fun hHeld => ?_)
    refine wpAnyH_take (i := 0) (v := ?_) rfl (by kernel_rfl) (by kernel_rfl) (by kernel_rfl) (fun _ _ _ h => h) (Or.inl ⟨by rfl, ?_⟩) (by assumption) ?_
    rotate_left
    · intro w hSw
      obtain ⟨s0, s1, s2⟩ := hSw
      go_simp
      try with_reducible rfl
    try simp only [Act.put, List.setIfInBounds_toArray, List.set_cons_zero, List.set_cons_succ]
    refine wpAnyH_take (i := 1) (v := ?_) rfl (by kernel_rfl) (by kernel_rfl) (by kernel_rfl) (fun _ _ _ h => h) (Or.inl ⟨by rfl, ?_⟩) (by assumption) ?_
    rotate_left
    · intro w hSw
      obtain ⟨s0, s1, s2⟩ := hSw
      go_simp
      try with_reducible rfl
    try simp only [Act.put, List.setIfInBounds_toArray, List.set_cons_zero, List.set_cons_succ]
    refine wpAnyH_take (i := 2) (v := ?_) rfl (by kernel_rfl) (by kernel_rfl) (by kernel_rfl) (fun _ _ _ h => h) (Or.inl ⟨by rfl, ?_⟩) (by assumption) ?_
    rotate_left
    · intro w hSw
      obtain ⟨s0, s1, s2⟩ := hSw
      go_simp
      try with_reducible rfl
    try simp only [Act.put, List.setIfInBounds_toArray, List.set_cons_zero, List.set_cons_succ]
    refine wpAnyH_take (i := 3) (v := ?_) rfl (by kernel_rfl) (by kernel_rfl) (by kernel_rfl) (fun _ _ _ h => h) (Or.inl ⟨by rfl, ?_⟩) (by assumption) ?_
    rotate_left
    · intro w hSw
      obtain ⟨s0, s1, s2⟩ := hSw
      go_simp
      try with_reducible rfl
    try simp only [Act.put, List.setIfInBounds_toArray, List.set_cons_zero, List.set_cons_succ]
    refine wpAnyH_take (i := 4) (v := ?_) rfl (by kernel_rfl) (by kernel_rfl) (by kernel_rfl) (fun _ _ _ h => h) (Or.inl ⟨by rfl, ?_⟩) (by assumption) ?_
    rotate_left
    · intro w hSw
      obtain ⟨s0, s1, s2⟩ := hSw
      go_simp
      try with_reducible rfl
    try simp only [Act.put, List.setIfInBounds_toArray, List.set_cons_zero, List.set_cons_succ]
    refine wpAnyH_take (i := 5) (v := ?_) rfl (by kernel_rfl) (by kernel_rfl) (by kernel_rfl) (fun _ _ _ h => h) (Or.inl ⟨by rfl, ?_⟩) (by assumption) ?_
    rotate_left
    · intro w hSw
      obtain ⟨s0, s1, s2⟩ := hSw
      go_simp
      try with_reducible rfl
    try simp only [Act.put, List.setIfInBounds_toArray, List.set_cons_zero, List.set_cons_succ]
    refine wpAnyH_take (i := 6) (v := ?_) rfl (by kernel_rfl) (by kernel_rfl) (by kernel_rfl) (fun _ _ _ h => h) (Or.inl ⟨by rfl, ?_⟩) (by assumption) ?_
    rotate_left
    · intro w hSw
      obtain ⟨s0, s1, s2⟩ := hSw
      go_simp
      try with_reducible rfl
    try simp only [Act.put, List.setIfInBounds_toArray, List.set_cons_zero, List.set_cons_succ]
    refine wpAnyH_take (i := 7) (v := ?_) rfl (by kernel_rfl) (by kernel_rfl) (by kernel_rfl) (fun _ _ _ h => h) (Or.inl ⟨by rfl, ?_⟩) (by assumption) ?_
    rotate_left
    · intro w hSw
      obtain ⟨s0, s1, s2⟩ := hSw
      go_simp
      try with_reducible rfl
    try simp only [Act.put, List.setIfInBounds_toArray, List.set_cons_zero, List.set_cons_succ]
    refine wpAnyH_take (i := 8) (v := ?_) rfl (by kernel_rfl) (by kernel_rfl) (by kernel_rfl) (fun _ _ _ h => h) (Or.inl ⟨by rfl, ?_⟩) (by assumption) ?_
    rotate_left
    · intro w hSw
      obtain ⟨s0, s1, s2⟩ := hSw
      go_simp
      try with_reducible rfl
    try simp only [Act.put, List.setIfInBounds_toArray, List.set_cons_zero, List.set_cons_succ]
    refine wpAnyH_take (i := 9) (v := .agg cs.toArray) rfl (by kernel_rfl) (by kernel_rfl) (by kernel_rfl) (fun _ _ _ h => h) (yieldsIf_load_mid (by rfl) 56 (.tmp 15) (by rfl) B (k * 259) ?hx cs _ (fun w hSw => ?hs) Try.underlying56 (by simp [TypeDesc.isRow]) (unhide HF).hi) (by assumption) ?rst
    case hx => go_simp
    case hs => exact hSw.2.2
    case rst =>
    try simp only [Act.put, List.setIfInBounds_toArray, List.set_cons_zero, List.set_cons_succ]
    clear hHeld
    refine wpAnyH_ready (rs := [10]) (by kernel_rfl) (by simp) ?_
    refine AllReadyH.cons rfl (fun K hK => ?_) AllReadyH.nil
    go_simp
    refine hK.out _ _ (unhide HF).s2 (fun hHeld2 => ?_)
    clear hK K
    try simp only [Act.put, List.setIfInBounds_toArray, List.set_cons_zero, List.set_cons_succ]
    refine wpAnyH_ready (rs := [11]) (by kernel_rfl) (by simp) ?_
    refine AllReadyH.cons rfl (fun K hK => ?_) AllReadyH.nil
    rw [if_pos (by rfl)]
    refine wp_store_mid0 rfl _ _ _ rfl _ _ cs.toArray rfl rfl (unhide HF).th (by rw [List.size_toArray]; exact (unhide HF).hi) (all_oneCell_toArray (unhide HF).one) ?_
    refine hK.out _ _ (unhide HF).s3 (fun _ => ?_)
    clear hK K hHeld2
    refine wpAnyH_done (by kernel_rfl) ?_ _
    try simp only [Act.put, List.setIfInBounds_toArray, List.set_cons_zero, List.set_cons_succ]
    go_wp2_with fail
    go_meet
    case rel => exact ⟨rfl, (unhide HF).tok, (unhide HF).rs, (unhide HF).bel⟩
  case rest =>
  obtain ⟨rfl, HTc, HRc, HBc⟩ := hcut
  clear HF hzt
  have hcz := (unhide HBc).size
  obtain ⟨c0, c1, c2, c3, c4, cf, hqlt⟩ := five (unhide HRc).rd
  have t0 := (unhide HTc).c0
  have t1 := (unhide HTc).c1
  have tl := (unhide HTc).lt
  have hNq : w.heap.size ≠ q := by omega
  have hres : singleF s E t d = ⟨0, leafF s t, nextT s t.to, d⟩ := by
    unfold singleF
    rw [if_neg (by omega), if_neg (by omega)]
  have hleaf : leafF s t = ⟨1, 0, if (1 : Int) = 1 then ⟨(bytesOf (fun _ => true) true).toArray⟩ else .empty, []⟩ := by
    unfold leafF
    rw [if_neg (by omega), if_neg (by omega), if_pos rfl, dot_bytes s t hk]
  have e13 : ((whatK t.k).toList == [40]) = false := by rw [whatL 13 [40] (by decide +kernel) h17 (by omega)]; simp; omega
  have e15 : ((whatK t.k).toList == [123]) = false := by rw [whatL 15 [123] (by decide +kernel) h17 (by omega)]; simp; omega
  have e2 : ((whatK t.k).toList == [110, 97, 109, 101]) = false := by rw [whatL 2 [110, 97, 109, 101] (by decide +kernel) h17 (by omega)]; simp; omega
  have e4 : ((whatK t.k).toList == [119, 111, 114, 100]) = false := by rw [whatL 4 [119, 111, 114, 100] (by decide +kernel) h17 (by omega)]; simp; omega
  have e5 : ((whatK t.k).toList == [115, 101, 116]) = false := by rw [whatL 5 [115, 101, 116] (by decide +kernel) h17 (by omega)]; simp; omega
  have e12 : ((whatK t.k).toList == [46]) = true := by rw [whatL 12 [46] (by decide +kernel) h17 (by omega)]; simp; omega
  have hnx2 := hnx (by omega)
  have hlk := (List.getElem?_eq_some_iff.1 hnx2).1
  have hze := zeroExp
  have hlenE := expV_len
  have HRk := hide ((unhide HRc).setK ((k : Int) + 1))
  have HBk := hide ((But.of_below (unhide HBc) (Nat.le_refl _) : But q w wc).setCell (p := ⟨q, 1, none⟩) (.inl rfl) (.int .i64 ((k : Int) + 1)))
  have hsz : (wc.setCell ⟨q, 1, none⟩ (.int .i64 ((k : Int) + 1))).heap.size = wc.heap.size := by simp [World.setCell]
  have hL0 : (expV .empty (.slice none 0 0) .empty noB 0).set 0 (.string ⟨#[115, 101, 116]⟩) = expV ⟨#[115, 101, 116]⟩ (.slice none 0 0) .empty noB 0 := rfl
  have HRR := hide hres
  have HLf := hide hleaf
  have hX0 := ex_new (wc.setCell ⟨q, 1, none⟩ (.int .i64 ((k : Int) + 1))) ⟨#[115, 101, 116]⟩ (.slice none 0 0) .empty noB 0
  rw [hsz] at hX0
  have HX0 := hide hX0
  have HRa := hide ((unhide HRk).alloc (.cells (expV ⟨#[115, 101, 116]⟩ (.slice none 0 0) .empty noB 0).toArray 86))
  have HBa := hide ((unhide HBk).alloc (.cells (expV ⟨#[115, 101, 116]⟩ (.slice none 0 0) .empty noB 0).toArray 86))
  have hBl := (unhide HRc).tok.lt
  clear hk hres hleaf hX0
  go_wp2_with fail
  go_loopw [69] (fun v wx => ∃ x : Nat, v = .int .i64 x ∧ x ≤ 256 ∧ Hid (ExB wx wc.heap.size ⟨#[115, 101, 116]⟩ (.slice none 0 0) .empty (fun c => decide (c < x)) 0) ∧ Hid (RS wx q B cap s T ((k : Int) + 1) d 0 0) ∧ Hid (But q w wx)) (fun v _ => 256 - (intOf v).toNat)
  case atStart => exact ⟨0, rfl, by omega, HX0, HRa, HBa⟩
  case round =>
    obtain ⟨x, rfl, hx, HXx, HRx, HBx⟩ := hrel
    by_cases hx2 : x < 256
    · have hxI : (x : Int) < 256 := by omega
      have hbit := (unhide HXx).cbit x hx2
      have hfz := (unhide HXx).fz
      have hlX := (unhide HXx).lt
      have hXy := (unhide HXx).setBit x hx2 true
      have ef : upd (fun c => decide (c < x)) x true = fun c => decide (c < x + 1) := by
        funext c
        unfold upd
        by_cases h : c = x
        · rw [if_pos h]; simp; omega
        · rw [if_neg h]; exact decide_eq_decide.2 (by omega)
      rw [ef] at hXy
      have HXy := hide hXy
      have HRy := hide ((unhide HRx).set (p := ⟨wc.heap.size, 3 + x, none⟩) (show wc.heap.size ≠ q by omega) (show wc.heap.size ≠ B by omega) (.bool true))
      have HBy := hide ((unhide HBx).setCell (p := ⟨wc.heap.size, 3 + x, none⟩) (.inr hcz) (.bool true))
      clear hXy ef
      go_wp2_with fail
      go_roundw
      case rel => exact ⟨x + 1, by go_num, by omega, HXy, HRy, HBy⟩
      case measure => simp [intOf]; omega
    · have ex : x = 256 := by omega
      subst ex
      go_wp2
      go_ret
      refine ⟨wc.heap.size, rfl, ?_⟩
      have hrx := unhide HRx
      rw [show (k : Int) + 1 = ((k + 1 : Nat) : Int) by omega] at hrx
      refine ⟨unhide HBx, .inl ⟨by rw [unhide HRR], ⟨wc.heap.size, 1, .empty, fun c => decide (c < 256), 0, []⟩, rfl, ?_, ?_, ?_, k + 1, by rw [unhide HRR]; exact hnx2, hrx⟩⟩
      · rw [Tree_iff]
        exact ⟨hcz, ⟨_, unhide HXx, ⟨rfl, .inl ⟨rfl, rfl⟩⟩⟩, by simp⟩
      · rw [OkX_iff]
        exact ⟨by simp, by simp, fun _ => rfl, fun h => by simp at h, fun h => by simp at h, fun h => by simp at h, by simp⟩
      · rw [Ex.norm_else _ (by simp), unhide HRR]
        show (⟨1, 0, if (1 : Int) = 1 then ⟨(bytesOf (fun c => decide (c < 256)) true).toArray⟩ else .empty, normL []⟩ : Nd) = leafF s t
        have e9 : bytesOf (fun c => decide (c < 256)) true = bytesOf (fun _ => true) true := bytesOf_congr (fun x hx => by simp [hx])
        rw [unhide HLf, e9]
        rfl
end Go.Proofs.Ytbojcemamhiodaa
namespace Go.Proofs.Ytbojcemamhiodaa
open Go.RowKit
set_option linter.unusedSimpArgs false in
set_option maxRecDepth 10000 in
set_option maxHeartbeats 4000000 in
theorem single_paren (w : World) (q B cap : Nat) (s : ByteArray) (T : List Tk) (d : Int) (E : Tk → Int → Res) (t : Tk) (k : Nat) (hT : ChainT s T) (ht : T[k]? = some t) (hr : RS w q B cap s T k d 0 0) (h0 : 0 ≤ d) (hd : d < 12) (hF : FineE s E (d + 1)) (hC : SaidCh s q B cap T 15 E (d + 1)) (hk : t.k = 13) :
    Calls Try.prog 66 #[.pointer (some ⟨q, 0, none⟩)] w (OutX w q B cap s T d (singleF s E t d)) := by
  obtain ⟨str, f, cs, hF⟩ := tok_facts hr ht
  have hkl := hF.hl
  have hkm := hF.hm
  have HTR := hide hF.tr
  have HF := hide hF
  have hzt := zeroTok
  have hk0 : (0 : Int) ≤ (k : Int) := Int.natCast_nonneg _
  have hqw := hr.lt
  have hfew := hT.few
  obtain ⟨hok, h17, hnx⟩ := hT.ok k t ht
  clear hF hr
  go_enter Try.func66, Try.ntmps66
  go_upto_region 1 with fail
  go_cut [3] (fun v wc => v = .pointer (some ⟨w.heap.size, 0, none⟩) ∧ Hid (TokB wc w.heap.size (whatK t.k) str f t.from_) ∧ Hid (RS wc q B cap s T k d 0 0) ∧ Hid (Below w.heap.size w wc))
  case first =>
    refine wp_region_held_drew (S := fun w' => w'.cell? ⟨q, 0, none⟩ = some (.slice (some ⟨B, 0, none⟩) T.length cap) ∧ w'.cell? ⟨q, 1, none⟩ = some (.int .i64 k) ∧ w'.rangeAt B (k * 259) cs) (by kernel_rfl) (unhide HF).s1 (fun hHeld => ?_)
    refine wpAnyH_take (i := 0) (v := ?_) rfl (by kernel_rfl) (by kernel_rfl) (by kernel_rfl) (fun _ _ _ h => h) (Or.inl ⟨by rfl, ?_⟩) (by assumption) ?_
    rotate_left
    · intro w hSw
      obtain ⟨s0, s1, s2⟩ := hSw
      go_simp
      try with_reducible rfl
    try simp only [Act.put, List.setIfInBounds_toArray, List.set_cons_zero, List.set_cons_succ]
    refine wpAnyH_take (i := 1) (v := ?_) rfl (by kernel_rfl) (by kernel_rfl) (by kernel_rfl) (fun _ _ _ h => h) (Or.inl ⟨by rfl, ?_⟩) (by assumption) ?_
    rotate_left
    · intro w hSw
      obtain ⟨s0, s1, s2⟩ := hSw
      go_simp
      try with_reducible rfl
    try simp only [Act.put, List.setIfInBounds_toArray, List.set_cons_zero, List.set_cons_succ]
    refine wpAnyH_take (i := 2) (v := ?_) rfl (by kernel_rfl) (by kernel_rfl) (by kernel_rfl) (fun _ _ _ h => h) (Or.inl ⟨by rfl, ?_⟩) (by assumption) ?_
    rotate_left
    · intro w hSw
      obtain ⟨s0, s1, s2⟩ := hSw
      go_simp
      try with_reducible rfl
    try simp only [Act.put, List.setIfInBounds_toArray, List.set_cons_zero, List.set_cons_succ]
    refine wpAnyH_take (i := 3) (v := ?_) rfl (by kernel_rfl) (by kernel_rfl) (by kernel_rfl) (fun _ _ _ h => h) (Or.inl ⟨by rfl, ?_⟩) (by assumption) ?_
    rotate_left
    · intro w hSw
      obtain ⟨s0, s1, s2⟩ := hSw
      go_simp
      try with_reducible rfl
    try simp only [Act.put, List.setIfInBounds_toArray, List.set_cons_zero, List.set_cons_succ]
    refine wpAnyH_take (i := 4) (v := ?_) rfl (by kernel_rfl) (by kernel_rfl) (by kernel_rfl) (fun _ _ _ h => h) (Or.inl ⟨by rfl, ?_⟩) (by assumption) ?_
    rotate_left
    · intro w hSw
      obtain ⟨s0, s1, s2⟩ := hSw
      go_simp
      try with_reducible rfl
    try simp only [Act.put, List.setIfInBounds_toArray, List.set_cons_zero, List.set_cons_succ]
    refine wpAnyH_take (i := 5) (v := ?_) rfl (by kernel_rfl) (by kernel_rfl) (by kernel_rfl) (fun _ _ _ h => h) (Or.inl ⟨by rfl, ?_⟩) (by assumption) ?_
    rotate_left
    · intro w hSw
      obtain ⟨s0, s1, s2⟩ := hSw
      go_simp
      try with_reducible rfl
    try simp only [Act.put, List.setIfInBounds_toArray, List.set_cons_zero, List.set_cons_succ]
    refine wpAnyH_take (i := 6) (v := ?_) rfl (by kernel_rfl) (by kernel_rfl) (by kernel_rfl) (fun _ _ _ h => h) (Or.inl ⟨by rfl, ?_⟩) (by assumption) ?_
    rotate_left
    · intro w hSw
      obtain ⟨s0, s1, s2⟩ := hSw
      go_simp
      try with_reducible rfl
    try simp only [Act.put, List.setIfInBounds_toArray, List.set_cons_zero, List.set_cons_succ]
    refine wpAnyH_take (i := 7) (v := ?_) rfl (by kernel_rfl) (by kernel_rfl) (by kernel_rfl) (fun _ _ _ h => h) (Or.inl ⟨by rfl, ?_⟩) (by assumption) ?_
    rotate_left
    · intro w hSw
      obtain ⟨s0, s1, s2⟩ := hSw
      go_simp
      try with_reducible rfl
    try simp only [Act.put, List.setIfInBounds_toArray, List.set_cons_zero, List.set_cons_succ]
    refine wpAnyH_take (i := 8) (v := ?_) rfl (by kernel_rfl) (by kernel_rfl) (by kernel_rfl) (fun _ _ _ h => h) (Or.inl ⟨by rfl, ?_⟩) (by assumption) ?_
    rotate_left
    · intro w hSw
      obtain ⟨s0, s1, s2⟩ := hSw
      go_simp
      try with_reducible rfl
    try simp only [Act.put, List.setIfInBounds_toArray, List.set_cons_zero, List.set_cons_succ]
    refine wpAnyH_take (i := 9) (v := .agg cs.toArray) rfl (by kernel_rfl) (by kernel_rfl) (by kernel_rfl) (fun _ _ _ h => h) (yieldsIf_load_mid (by rfl) 56 (.tmp 15) (by rfl) B (k * 259) ?hx cs _ (fun w hSw => ?hs) Try.underlying56 (by simp [TypeDesc.isRow]) (unhide HF).hi) (by assumption) ?rst
    case hx => go_simp
    case hs => exact hSw.2.2
    case rst =>
    try simp only [Act.put, List.setIfInBounds_toArray, List.set_cons_zero, List.set_cons_succ]
    clear hHeld
    refine wpAnyH_ready (rs := [10]) (by kernel_rfl) (by simp) ?_
    refine AllReadyH.cons rfl (fun K hK => ?_) AllReadyH.nil
    go_simp
    refine hK.out _ _ (unhide HF).s2 (fun hHeld2 => ?_)
    clear hK K
    try simp only [Act.put, List.setIfInBounds_toArray, List.set_cons_zero, List.set_cons_succ]
    refine wpAnyH_ready (rs := [11]) (by kernel_rfl) (by simp) ?_
    refine AllReadyH.cons rfl (fun K hK => ?_) AllReadyH.nil
    rw [if_pos (by rfl)]
    refine wp_store_mid0 rfl _ _ _ rfl _ _ cs.toArray rfl rfl (unhide HF).th (by rw [List.size_toArray]; exact (unhide HF).hi) (all_oneCell_toArray (unhide HF).one) ?_
    refine hK.out _ _ (unhide HF).s3 (fun _ => ?_)
    clear hK K hHeld2
    refine wpAnyH_done (by kernel_rfl) ?_ _
    try simp only [Act.put, List.setIfInBounds_toArray, List.set_cons_zero, List.set_cons_succ]
    go_wp2_with fail
    go_meet
    case rel => exact ⟨rfl, (unhide HF).tok, (unhide HF).rs, (unhide HF).bel⟩
  case rest =>
  obtain ⟨rfl, HTc, HRc, HBc⟩ := hcut
  clear HF hzt
  have hcz := (unhide HBc).size
  obtain ⟨c0, c1, c2, c3, c4, cf, hqlt⟩ := five (unhide HRc).rd
  have t0 := (unhide HTc).c0
  have t1 := (unhide HTc).c1
  have tl := (unhide HTc).lt
  have hNq : w.heap.size ≠ q := by omega
  have hres : singleF s E t d = withinF s (E (nextT s t.to) (d + 1)) 14 := by
    unfold singleF bracketsF
    rw [if_pos hk, if_neg (by omega)]
  have e13 : ((whatK t.k).toList == [40]) = true := by rw [whatL 13 [40] (by decide +kernel) h17 (by omega)]; simp; omega
  have e15 : ((whatK t.k).toList == [123]) = false := by rw [whatL 15 [123] (by decide +kernel) h17 (by omega)]; simp; omega
  have e2 : ((whatK t.k).toList == [110, 97, 109, 101]) = false := by rw [whatL 2 [110, 97, 109, 101] (by decide +kernel) h17 (by omega)]; simp; omega
  have e4 : ((whatK t.k).toList == [119, 111, 114, 100]) = false := by rw [whatL 4 [119, 111, 114, 100] (by decide +kernel) h17 (by omega)]; simp; omega
  have e5 : ((whatK t.k).toList == [115, 101, 116]) = false := by rw [whatL 5 [115, 101, 116] (by decide +kernel) h17 (by omega)]; simp; omega
  have e12 : ((whatK t.k).toList == [46]) = false := by rw [whatL 12 [46] (by decide +kernel) h17 (by omega)]; simp; omega
  have hnx2 := hnx (by omega)
  have hlk := (List.getElem?_eq_some_iff.1 hnx2).1
  have hze := zeroExp
  have hlenE := expV_len
  have HRk := hide ((unhide HRc).setK ((k : Int) + 1))
  have HBk := hide ((But.of_below (unhide HBc) (Nat.le_refl _) : But q w wc).setCell (p := ⟨q, 1, none⟩) (.inl rfl) (.int .i64 ((k : Int) + 1)))
  have hsz : (wc.setCell ⟨q, 1, none⟩ (.int .i64 ((k : Int) + 1))).heap.size = wc.heap.size := by simp [World.setCell]
  have hd12 : (d == 12) = false := by simp; omega
  have HCl := hide (closed_any (wc.setCell ⟨q, 1, none⟩ (.int .i64 ((k : Int) + 1))) q B cap s T d 14 E _ (k + 1) hT hnx2 (by rw [show ((k + 1 : Nat) : Int) = (k : Int) + 1 by omega]; exact unhide HRk) h0 hd (by omega) hF hC)
  have HRR := hide hres
  clear hk hres hd hF hC h0
  go_wp2_with fail
  go_at_call 71
  refine (unhide HCl).mono ?_
  rintro e w3 ⟨b, rfl, ho⟩
  have HO := hide ho
  clear ho
  go_wp2
  go_ret
  exact ⟨b, rfl, by rw [unhide HRR]; exact (unhide HO).mono (unhide HBk)⟩
end Go.Proofs.Ytbojcemamhiodaa
namespace Go.Proofs.Ytbojcemamhiodaa
open Go.RowKit
set_option linter.unusedSimpArgs false in
set_option maxRecDepth 10000 in
set_option maxHeartbeats 4000000 in
theorem single_plc (w : World) (q B cap : Nat) (s : ByteArray) (T : List Tk) (d : Int) (E : Tk → Int → Res) (t : Tk) (k : Nat) (hT : ChainT s T) (ht : T[k]? = some t) (hr : RS w q B cap s T k d 0 0) (h0 : 0 ≤ d) (hd : d < 12) (hk : t.k = 15) (hk2 : (nextT s t.to).k = 16) :
    Calls Try.prog 66 #[.pointer (some ⟨q, 0, none⟩)] w (OutX w q B cap s T d (singleF s E t d)) := by
  obtain ⟨str, f, cs, hF⟩ := tok_facts hr ht
  have hkl := hF.hl
  have hkm := hF.hm
  have HTR := hide hF.tr
  have HF := hide hF
  have hzt := zeroTok
  have hk0 : (0 : Int) ≤ (k : Int) := Int.natCast_nonneg _
  have hqw := hr.lt
  have hfew := hT.few
  obtain ⟨hok, h17, hnx⟩ := hT.ok k t ht
  clear hF hr
  go_enter Try.func66, Try.ntmps66
  go_upto_region 1 with fail
  go_cut [3] (fun v wc => v = .pointer (some ⟨w.heap.size, 0, none⟩) ∧ Hid (TokB wc w.heap.size (whatK t.k) str f t.from_) ∧ Hid (RS wc q B cap s T k d 0 0) ∧ Hid (Below w.heap.size w wc))
  case first =>
    refine wp_region_held_drew (S := fun w' => w'.cell? ⟨q, 0, none⟩ = some (.slice (some ⟨B, 0, none⟩) T.length cap) ∧ w'.cell? ⟨q, 1, none⟩ = some (.int .i64 k) ∧ w'.rangeAt B (k * 259) cs) (by kernel_rfl) (unhide HF).s1 (fun hHeld => ?_)
    refine wpAnyH_take (i := 0) (v := ?_) rfl (by kernel_rfl) (by kernel_rfl) (by kernel_rfl) (fun _ _ _ h => h) (Or.inl ⟨by rfl, ?_⟩) (by assumption) ?_
    rotate_left
    · intro w hSw
      obtain ⟨s0, s1, s2⟩ := hSw
      go_simp
      try with_reducible rfl
    try simp only [Act.put, List.setIfInBounds_toArray, List.set_cons_zero, List.set_cons_succ]
    refine wpAnyH_take (i := 1) (v := ?_) rfl (by kernel_rfl) (by kernel_rfl) (by kernel_rfl) (fun _ _ _ h => h) (Or.inl ⟨by rfl, ?_⟩) (by assumption) ?_
    rotate_left
    · intro w hSw
      obtain ⟨s0, s1, s2⟩ := hSw
      go_simp
      try with_reducible rfl
    try simp only [Act.put, List.setIfInBounds_toArray, List.set_cons_zero, List.set_cons_succ]
    refine wpAnyH_take (i := 2) (v := ?_) rfl (by kernel_rfl) (by kernel_rfl) (by kernel_rfl) (fun _ _ _ h => h) (Or.inl ⟨by rfl, ?_⟩) (by assumption) ?_
    rotate_left
    · intro w hSw
      obtain ⟨s0, s1, s2⟩ := hSw
      go_simp
      try with_reducible rfl
    try simp only [Act.put, List.setIfInBounds_toArray, List.set_cons_zero, List.set_cons_succ]
    refine wpAnyH_take (i := 3) (v := ?_) rfl (by kernel_rfl) (by kernel_rfl) (by kernel_rfl) (fun _ _ _ h => h) (Or.inl ⟨by rfl, ?_⟩) (by assumption) ?_
    rotate_left
    · intro w hSw
      obtain ⟨s0, s1, s2⟩ := hSw
      go_simp
      try with_reducible rfl
    try simp only [Act.put, List.setIfInBounds_toArray, List.set_cons_zero, List.set_cons_succ]
    refine wpAnyH_take (i := 4) (v := ?_) rfl (by kernel_rfl) (by kernel_rfl) (by kernel_rfl) (fun _ _ _ h => h) (Or.inl ⟨by rfl, ?_⟩) (by assumption) ?_
    rotate_left
    · intro w hSw
      obtain ⟨s0, s1, s2⟩ := hSw
      go_simp
      try with_reducible rfl
    try simp only [Act.put, List.setIfInBounds_toArray, List.set_cons_zero, List.set_cons_succ]
    refine wpAnyH_take (i := 5) (v := ?_) rfl (by kernel_rfl) (by kernel_rfl) (by kernel_rfl) (fun _ _ _ h => h) (Or.inl ⟨by rfl, ?_⟩) (by assumption) ?_
    rotate_left
    · intro w hSw
      obtain ⟨s0, s1, s2⟩ := hSw
      go_simp
      try with_reducible rfl
    try simp only [Act.put, List.setIfInBounds_toArray, List.set_cons_zero, List.set_cons_succ]
    refine wpAnyH_take (i := 6) (v := ?_) rfl (by kernel_rfl) (by kernel_rfl) (by kernel_rfl) (fun _ _ _ h => h) (Or.inl ⟨by rfl, ?_⟩) (by assumption) ?_
    rotate_left
    · intro w hSw
      obtain ⟨s0, s1, s2⟩ := hSw
      go_simp
      try with_reducible rfl
    try simp only [Act.put, List.setIfInBounds_toArray, List.set_cons_zero, List.set_cons_succ]
    refine wpAnyH_take (i := 7) (v := ?_) rfl (by kernel_rfl) (by kernel_rfl) (by kernel_rfl) (fun _ _ _ h => h) (Or.inl ⟨by rfl, ?_⟩) (by assumption) ?_
    rotate_left
    · intro w hSw
      obtain ⟨s0, s1, s2⟩ := hSw
      go_simp
      try with_reducible rfl
    try simp only [Act.put, List.setIfInBounds_toArray, List.set_cons_zero, List.set_cons_succ]
    refine wpAnyH_take (i := 8) (v := ?_) rfl (by kernel_rfl) (by kernel_rfl) (by kernel_rfl) (fun _ _ _ h => h) (Or.inl ⟨by rfl, ?_⟩) (by assumption) ?_
    rotate_left
    · intro w hSw
      obtain ⟨s0, s1, s2⟩ := hSw
      go_simp
      try with_reducible rfl
    try simp only [Act.put, List.setIfInBounds_toArray, List.set_cons_zero, List.set_cons_succ]
    refine wpAnyH_take (i := 9) (v := .agg cs.toArray) rfl (by kernel_rfl) (by kernel_rfl) (by kernel_rfl) (fun _ _ _ h => h) (yieldsIf_load_mid (by rfl) 56 (.tmp 15) (by rfl) B (k * 259) ?hx cs _ (fun w hSw => ?hs) Try.underlying56 (by simp [TypeDesc.isRow]) (unhide HF).hi) (by assumption) ?rst
    case hx => go_simp
    case hs => exact hSw.2.2
    case rst =>
    try simp only [Act.put, List.setIfInBounds_toArray, List.set_cons_zero, List.set_cons_succ]
    clear hHeld
    refine wpAnyH_ready (rs := [10]) (by kernel_rfl) (by simp) ?_
    refine AllReadyH.cons rfl (fun K hK => ?_) AllReadyH.nil
    go_simp
    refine hK.out _ _ (unhide HF).s2 (fun hHeld2 => ?_)
    clear hK K
    try simp only [Act.put, List.setIfInBounds_toArray, List.set_cons_zero, List.set_cons_succ]
    refine wpAnyH_ready (rs := [11]) (by kernel_rfl) (by simp) ?_
    refine AllReadyH.cons rfl (fun K hK => ?_) AllReadyH.nil
    rw [if_pos (by rfl)]
    refine wp_store_mid0 rfl _ _ _ rfl _ _ cs.toArray rfl rfl (unhide HF).th (by rw [List.size_toArray]; exact (unhide HF).hi) (all_oneCell_toArray (unhide HF).one) ?_
    refine hK.out _ _ (unhide HF).s3 (fun _ => ?_)
    clear hK K hHeld2
    refine wpAnyH_done (by kernel_rfl) ?_ _
    try simp only [Act.put, List.setIfInBounds_toArray, List.set_cons_zero, List.set_cons_succ]
    go_wp2_with fail
    go_meet
    case rel => exact ⟨rfl, (unhide HF).tok, (unhide HF).rs, (unhide HF).bel⟩
  case rest =>
  obtain ⟨rfl, HTc, HRc, HBc⟩ := hcut
  clear HF hzt
  have hcz := (unhide HBc).size
  obtain ⟨c0, c1, c2, c3, c4, cf, hqlt⟩ := five (unhide HRc).rd
  have t0 := (unhide HTc).c0
  have t1 := (unhide HTc).c1
  have tl := (unhide HTc).lt
  have hNq : w.heap.size ≠ q := by omega
  have hres : singleF s E t d = ⟨0, nd0 3 [], nextT s (nextT s t.to).to, d⟩ := by
    unfold singleF catchF
    rw [if_neg (by omega), if_pos hk, if_neg (by omega), if_pos hk2]
  have e13 : ((whatK t.k).toList == [40]) = false := by rw [whatL 13 [40] (by decide +kernel) h17 (by omega)]; simp; omega
  have e15 : ((whatK t.k).toList == [123]) = true := by rw [whatL 15 [123] (by decide +kernel) h17 (by omega)]; simp; omega
  have e2 : ((whatK t.k).toList == [110, 97, 109, 101]) = false := by rw [whatL 2 [110, 97, 109, 101] (by decide +kernel) h17 (by omega)]; simp; omega
  have e4 : ((whatK t.k).toList == [119, 111, 114, 100]) = false := by rw [whatL 4 [119, 111, 114, 100] (by decide +kernel) h17 (by omega)]; simp; omega
  have e5 : ((whatK t.k).toList == [115, 101, 116]) = false := by rw [whatL 5 [115, 101, 116] (by decide +kernel) h17 (by omega)]; simp; omega
  have e12 : ((whatK t.k).toList == [46]) = false := by rw [whatL 12 [46] (by decide +kernel) h17 (by omega)]; simp; omega
  have hnx2 := hnx (by omega)
  have hlk := (List.getElem?_eq_some_iff.1 hnx2).1
  have hze := zeroExp
  have hlenE := expV_len
  have HRk := hide ((unhide HRc).setK ((k : Int) + 1))
  have HBk := hide ((But.of_below (unhide HBc) (Nat.le_refl _) : But q w wc).setCell (p := ⟨q, 1, none⟩) (.inl rfl) (.int .i64 ((k : Int) + 1)))
  have hsz : (wc.setCell ⟨q, 1, none⟩ (.int .i64 ((k : Int) + 1))).heap.size = wc.heap.size := by simp [World.setCell]
  have hd12 : (d == 12) = false := by simp; omega
  obtain ⟨hok2, h172, hnx3⟩ := hT.ok (k + 1) _ hnx2
  have hnx4 := hnx3 (by omega)
  have hlk2 := (List.getElem?_eq_some_iff.1 hnx4).1
  have hcast : ((k + 1 : Nat) : Int) = (k : Int) + 1 := by omega
  have hrk1 := unhide HRk
  rw [← hcast] at hrk1
  have HIs := hide (is_ok (whatK 16) hrk1 hnx2)
  rw [whatK_eq h172 (by omega), show ((nextT s t.to).k == 16) = true by simpa using hk2, hcast] at HIs
  have hL0 : (expV .empty (.slice none 0 0) .empty noB 0).set 0 (.string ⟨#[112, 108, 97, 99, 101]⟩) = expV ⟨#[112, 108, 97, 99, 101]⟩ (.slice none 0 0) .empty noB 0 := rfl
  have HRR := hide hres
  clear hk hk2 hres hd h0 hrk1 hcast
  go_wp2_with fail
  go_at_call 16
  refine (unhide HIs).mono ?_
  rintro e w3 ⟨rfl, m, rfl⟩
  obtain ⟨g0, g1, g2, g3, g4, gf, hql2⟩ := five ((unhide HRk).drewN m).rd
  have HR3 := hide (((unhide HRk).drewN m).setK ((k : Int) + 1 + 1))
  have HB3 := hide (((unhide HBk).trans (.of_below (below_drewN' (Below.refl _ _) m) (Nat.le_refl _))).setCell (p := ⟨q, 1, none⟩) (.inl rfl) (.int .i64 ((k : Int) + 1 + 1)))
  go_wp2
  go_ret
  have hr3 := unhide HR3
  have hcast : (k : Int) + 1 + 1 = ((k + 2 : Nat) : Int) := by omega
  have hsz3 : ((((wc.setCell ⟨q, 1, none⟩ (.int .i64 ((k : Int) + 1))).drewN m).setCell ⟨q, 1, none⟩ (.int .i64 ((k : Int) + 1 + 1)))).heap.size = wc.heap.size := by simp [World.setCell]
  rw [hcast] at hr3 HB3 hsz3 ⊢
  have hlo := leaf_out (o := 3) (str := .empty) (f := noB) (a := 0) (r := singleF s E t d) (k' := k + 2) (unhide HB3) (by omega) (by omega) hr3 ?_ ?_ ?_
  · rw [hsz3] at hlo
    exact ⟨wc.heap.size, rfl, hlo⟩
  · rw [unhide HRR]
  · rw [unhide HRR]
    rfl
  · rw [unhide HRR]
    exact hnx4
end Go.Proofs.Ytbojcemamhiodaa

import Derived.Test.YtbojcemamhiodaaRgs
namespace Go.Proofs.Ytbojcemamhiodaa
open Go.RowKit
set_option linter.unusedSimpArgs false in
set_option maxRecDepth 10000 in
set_option maxHeartbeats 4000000 in
theorem single_deep13 (w : World) (q B cap : Nat) (s : ByteArray) (T : List Tk) (d : Int) (E : Tk → Int → Res) (t : Tk) (k : Nat) (hT : ChainT s T) (ht : T[k]? = some t) (hr : RS w q B cap s T k d 0 0) (hk13 : t.k = 13) (hd : d = 12) :
    Calls Try.prog 66 #[.pointer (some ⟨q, 0, none⟩)] w (OutX w q B cap s T d (singleF s E t d)) := by
  obtain ⟨str, f, cs, hF⟩ := tok_facts hr ht
  have hkl := hF.hl
  have hkm := hF.hm
  have HTR := hide hF.tr
  have HF := hide hF
  have hzt := zeroTok
  have hk0 : (0 : Int) ≤ (k : Int) := Int.natCast_nonneg _
  have hqw := hr.lt
  have hfew := hT.few
  obtain ⟨hok, h17, hnx⟩ := hT.ok k t ht
  clear hF hr
  go_enter Try.func66, Try.ntmps66
  go_upto_region 1 with fail
  go_cut [3] (fun v wc => v = .pointer (some ⟨w.heap.size, 0, none⟩) ∧ Hid (TokB wc w.heap.size (whatK t.k) str f t.from_) ∧ Hid (RS wc q B cap s T k d 0 0) ∧ Hid (Below w.heap.size w wc))
  case first =>
    refine wp_region_held_drew (S := fun w' => w'.cell? ⟨q, 0, none⟩ = some (.slice (some ⟨B, 0, none⟩) T.length cap) ∧ w'.cell? ⟨q, 1, none⟩ = some (.int .i64 k) ∧ w'.rangeAt B (k * 259) cs) (by kernel_rfl) (unhide HF).s1 (fun hHeld => ?_)
    refine wpAnyH_take (i := 0) (v := ?_) rfl (by kernel_rfl) (by kernel_rfl) (by kernel_rfl) (fun _ _ _ h => h) (Or.inl ⟨by rfl, ?_⟩) (by assumption) ?_
    rotate_left
    · intro w hSw
      obtain ⟨s0, s1, s2⟩ := hSw
      go_simp
      try with_reducible rfl
    try simp only [Act.put, List.setIfInBounds_toArray, List.set_cons_zero, List.set_cons_succ]
    refine wpAnyH_take (i := 1) (v := ?_) rfl (by kernel_rfl) (by kernel_rfl) (by kernel_rfl) (fun _ _ _ h => h) (Or.inl ⟨by rfl, ?_⟩) (by assumption) ?_
    rotate_left
    · intro w hSw
      obtain ⟨s0, s1, s2⟩ := hSw
      go_simp
      try with_reducible rfl
    try simp only [Act.put, List.setIfInBounds_toArray, List.set_cons_zero, List.set_cons_succ]
    refine wpAnyH_take (i := 2) (v := ?_) rfl (by kernel_rfl) (by kernel_rfl) (by kernel_rfl) (fun _ _ _ h => h) (Or.inl ⟨by rfl, ?_⟩) (by assumption) ?_
    rotate_left
    · intro w hSw
      obtain ⟨s0, s1, s2⟩ := hSw
      go_simp
      try with_reducible rfl
    try simp only [Act.put, List.setIfInBounds_toArray, List.set_cons_zero, List.set_cons_succ]
    refine wpAnyH_take (i := 3) (v := ?_) rfl (by kernel_rfl) (by kernel_rfl) (by kernel_rfl) (fun _ _ _ h => h) (Or.inl ⟨by rfl, ?_⟩) (by assumption) ?_
    rotate_left
    · intro w hSw
      obtain ⟨s0, s1, s2⟩ := hSw
      go_simp
      try with_reducible rfl
    try simp only [Act.put, List.setIfInBounds_toArray, List.set_cons_zero, List.set_cons_succ]
    refine wpAnyH_take (i := 4) (v := ?_) rfl (by kernel_rfl) (by kernel_rfl) (by kernel_rfl) (fun _ _ _ h => h) (Or.inl ⟨by rfl, ?_⟩) (by assumption) ?_
    rotate_left
    · intro w hSw
      obtain ⟨s0, s1, s2⟩ := hSw
      go_simp
      try with_reducible rfl
    try simp only [Act.put, List.setIfInBounds_toArray, List.set_cons_zero, List.set_cons_succ]
    refine wpAnyH_take (i := 5) (v := ?_) rfl (by kernel_rfl) (by kernel_rfl) (by kernel_rfl) (fun _ _ _ h => h) (Or.inl ⟨by rfl, ?_⟩) (by assumption) ?_
    rotate_left
    · intro w hSw
      obtain ⟨s0, s1, s2⟩ := hSw
      go_simp
      try with_reducible rfl
    try simp only [Act.put, List.setIfInBounds_toArray, List.set_cons_zero, List.set_cons_succ]
    refine wpAnyH_take (i := 6) (v := ?_) rfl (by kernel_rfl) (by kernel_rfl) (by kernel_rfl) (fun _ _ _ h => h) (Or.inl ⟨by rfl, ?_⟩) (by assumption) ?_
    rotate_left
    · intro w hSw
      obtain ⟨s0, s1, s2⟩ := hSw
      go_simp
      try with_reducible rfl
    try simp only [Act.put, List.setIfInBounds_toArray, List.set_cons_zero, List.set_cons_succ]
    refine wpAnyH_take (i := 7) (v := ?_) rfl (by kernel_rfl) (by kernel_rfl) (by kernel_rfl) (fun _ _ _ h => h) (Or.inl ⟨by rfl, ?_⟩) (by assumption) ?_
    rotate_left
    · intro w hSw
      obtain ⟨s0, s1, s2⟩ := hSw
      go_simp
      try with_reducible rfl
    try simp only [Act.put, List.setIfInBounds_toArray, List.set_cons_zero, List.set_cons_succ]
    refine wpAnyH_take (i := 8) (v := ?_) rfl (by kernel_rfl) (by kernel_rfl) (by kernel_rfl) (fun _ _ _ h => h) (Or.inl ⟨by rfl, ?_⟩) (by assumption) ?_
    rotate_left
    · intro w hSw
      obtain ⟨s0, s1, s2⟩ := hSw
      go_simp
      try with_reducible rfl
    try simp only [Act.put, List.setIfInBounds_toArray, List.set_cons_zero, List.set_cons_succ]
    refine wpAnyH_take (i := 9) (v := .agg cs.toArray) rfl (by kernel_rfl) (by kernel_rfl) (by kernel_rfl) (fun _ _ _ h => h) (yieldsIf_load_mid (by rfl) 56 (.tmp 15) (by rfl) B (k * 259) ?hx cs _ (fun w hSw => ?hs) Try.underlying56 (by simp [TypeDesc.isRow]) (unhide HF).hi) (by assumption) ?rst
    case hx => go_simp
    case hs => exact hSw.2.2
    case rst =>
    try simp only [Act.put, List.setIfInBounds_toArray, List.set_cons_zero, List.set_cons_succ]
    clear hHeld
    refine wpAnyH_ready (rs := [10]) (by kernel_rfl) (by simp) ?_
    refine AllReadyH.cons rfl (fun K hK => ?_) AllReadyH.nil
    go_simp
    refine hK.out _ _ (unhide HF).s2 (fun hHeld2 => ?_)
    clear hK K
    try simp only [Act.put, List.setIfInBounds_toArray, List.set_cons_zero, List.set_cons_succ]
    refine wpAnyH_ready (rs := [11]) (by kernel_rfl) (by simp) ?_
    refine AllReadyH.cons rfl (fun K hK => ?_) AllReadyH.nil
    rw [if_pos (by rfl)]
    refine wp_store_mid0 rfl _ _ _ rfl _ _ cs.toArray rfl rfl (unhide HF).th (by rw [List.size_toArray]; exact (unhide HF).hi) (all_oneCell_toArray (unhide HF).one) ?_
    refine hK.out _ _ (unhide HF).s3 (fun _ => ?_)
    clear hK K hHeld2
    refine wpAnyH_done (by kernel_rfl) ?_ _
    try simp only [Act.put, List.setIfInBounds_toArray, List.set_cons_zero, List.set_cons_succ]
    go_wp2_with fail
    go_meet
    case rel => exact ⟨rfl, (unhide HF).tok, (unhide HF).rs, (unhide HF).bel⟩
  case rest =>
  obtain ⟨rfl, HTc, HRc, HBc⟩ := hcut
  clear HF hzt
  have hcz := (unhide HBc).size
  obtain ⟨c0, c1, c2, c3, c4, cf, hqlt⟩ := five (unhide HRc).rd
  have t0 := (unhide HTc).c0
  have t1 := (unhide HTc).c1
  have tl := (unhide HTc).lt
  have hNq : w.heap.size ≠ q := by omega
  have hres : singleF s E t d = errR 3 t d := by
    unfold singleF bracketsF
    rw [if_pos hk13, if_pos (by omega)]
  have e13 : ((whatK t.k).toList == [40]) = true := by rw [whatL 13 [40] (by decide +kernel) h17 (by omega)]; simp; omega
  have e15 : ((whatK t.k).toList == [123]) = false := by rw [whatL 15 [123] (by decide +kernel) h17 (by omega)]; simp; omega
  have hd12 : (d == 12) = true := by simp; omega
  have HWr := hide (wrong_ok 3 (unhide HRc) ht)
  have hze := zeroExp
  have hL0 : (expV .empty (.slice none 0 0) .empty noB 0).set 0 (.string ⟨#[114, 111, 119]⟩) = expV ⟨#[114, 111, 119]⟩ (.slice none 0 0) .empty noB 0 := rfl
  have hlenE := expV_len
  have HRR := hide hres
  clear hd hk13 hres
  go_wp2_with fail
  go_at_call 17
  refine (unhide HWr).mono ?_
  rintro e w3 ⟨rfl, hrs3, hb3⟩
  have HR3 := hide hrs3
  have HB3 := hide ((But.of_below (unhide HBc) (Nat.le_refl _) : But q w wc).trans hb3)
  clear hrs3 hb3
  go_wp2
  go_ret
  refine ⟨_, rfl, err_out (k' := (k : Int)) (unhide HB3) ?_ ?_ _ _⟩
  · rw [unhide HRR]; show (3 : Int) ≠ 0; omega
  · rw [unhide HRR]; exact unhide HR3
end Go.Proofs.Ytbojcemamhiodaa
namespace Go.Proofs.Ytbojcemamhiodaa
open Go.RowKit
set_option linter.unusedSimpArgs false in
set_option maxRecDepth 10000 in
set_option maxHeartbeats 4000000 in
theorem single_deep15 (w : World) (q B cap : Nat) (s : ByteArray) (T : List Tk) (d : Int) (E : Tk → Int → Res) (t : Tk) (k : Nat) (hT : ChainT s T) (ht : T[k]? = some t) (hr : RS w q B cap s T k d 0 0) (hk13 : t.k = 15) (hd : d = 12) :
    Calls Try.prog 66 #[.pointer (some ⟨q, 0, none⟩)] w (OutX w q B cap s T d (singleF s E t d)) := by
  obtain ⟨str, f, cs, hF⟩ := tok_facts hr ht
  have hkl := hF.hl
  have hkm := hF.hm
  have HTR := hide hF.tr
  have HF := hide hF
  have hzt := zeroTok
  have hk0 : (0 : Int) ≤ (k : Int) := Int.natCast_nonneg _
  have hqw := hr.lt
  have hfew := hT.few
  obtain ⟨hok, h17, hnx⟩ := hT.ok k t ht
  clear hF hr
  go_enter Try.func66, Try.ntmps66
  go_upto_region 1 with fail
  go_cut [3] (fun v wc => v = .pointer (some ⟨w.heap.size, 0, none⟩) ∧ Hid (TokB wc w.heap.size (whatK t.k) str f t.from_) ∧ Hid (RS wc q B cap s T k d 0 0) ∧ Hid (Below w.heap.size w wc))
  case first =>
    refine wp_region_held_drew (S := fun w' => w'.cell? ⟨q, 0, none⟩ = some (.slice (some ⟨B, 0, none⟩) T.length cap) ∧ w'.cell? ⟨q, 1, none⟩ = some (.int .i64 k) ∧ w'.rangeAt B (k * 259) cs) (by kernel_rfl) (unhide HF).s1 (fun hHeld => ?_)
    refine wpAnyH_take (i := 0) (v := ?_) rfl (by kernel_rfl) (by kernel_rfl) (by kernel_rfl) (fun _ _ _ h => h) (Or.inl ⟨by rfl, ?_⟩) (by assumption) ?_
    rotate_left
    · intro w hSw
      obtain ⟨s0, s1, s2⟩ := hSw
      go_simp
      try with_reducible rfl
    try simp only [Act.put, List.setIfInBounds_toArray, List.set_cons_zero, List.set_cons_succ]
    refine wpAnyH_take (i := 1) (v := ?_) rfl (by kernel_rfl) (by kernel_rfl) (by kernel_rfl) (fun _ _ _ h => h) (Or.inl ⟨by rfl, ?_⟩) (by assumption) ?_
    rotate_left
    · intro w hSw
      obtain ⟨s0, s1, s2⟩ := hSw
      go_simp
      try with_reducible rfl
    try simp only [Act.put, List.setIfInBounds_toArray, List.set_cons_zero, List.set_cons_succ]
    refine wpAnyH_take (i := 2) (v := ?_) rfl (by kernel_rfl) (by kernel_rfl) (by kernel_rfl) (fun _ _ _ h => h) (Or.inl ⟨by rfl, ?_⟩) (by assumption) ?_
    rotate_left
    · intro w hSw
      obtain ⟨s0, s1, s2⟩ := hSw
      go_simp
      try with_reducible rfl
    try simp only [Act.put, List.setIfInBounds_toArray, List.set_cons_zero, List.set_cons_succ]
    refine wpAnyH_take (i := 3) (v := ?_) rfl (by kernel_rfl) (by kernel_rfl) (by kernel_rfl) (fun _ _ _ h => h) (Or.inl ⟨by rfl, ?_⟩) (by assumption) ?_
    rotate_left
    · intro w hSw
      obtain ⟨s0, s1, s2⟩ := hSw
      go_simp
      try with_reducible rfl
    try simp only [Act.put, List.setIfInBounds_toArray, List.set_cons_zero, List.set_cons_succ]
    refine wpAnyH_take (i := 4) (v := ?_) rfl (by kernel_rfl) (by kernel_rfl) (by kernel_rfl) (fun _ _ _ h => h) (Or.inl ⟨by rfl, ?_⟩) (by assumption) ?_
    rotate_left
    · intro w hSw
      obtain ⟨s0, s1, s2⟩ := hSw
      go_simp
      try with_reducible rfl
    try simp only [Act.put, List.setIfInBounds_toArray, List.set_cons_zero, List.set_cons_succ]
    refine wpAnyH_take (i := 5) (v := ?_) rfl (by kernel_rfl) (by kernel_rfl) (by kernel_rfl) (fun _ _ _ h => h) (Or.inl ⟨by rfl, ?_⟩) (by assumption) ?_
    rotate_left
    · intro w hSw
      obtain ⟨s0, s1, s2⟩ := hSw
      go_simp
      try with_reducible rfl
    try simp only [Act.put, List.setIfInBounds_toArray, List.set_cons_zero, List.set_cons_succ]
    refine wpAnyH_take (i := 6) (v := ?_) rfl (by kernel_rfl) (by kernel_rfl) (by kernel_rfl) (fun _ _ _ h => h) (Or.inl ⟨by rfl, ?_⟩) (by assumption) ?_
    rotate_left
    · intro w hSw
      obtain ⟨s0, s1, s2⟩ := hSw
      go_simp
      try with_reducible rfl
    try simp only [Act.put, List.setIfInBounds_toArray, List.set_cons_zero, List.set_cons_succ]
    refine wpAnyH_take (i := 7) (v := ?_) rfl (by kernel_rfl) (by kernel_rfl) (by kernel_rfl) (fun _ _ _ h => h) (Or.inl ⟨by rfl, ?_⟩) (by assumption) ?_
    rotate_left
    · intro w hSw
      obtain ⟨s0, s1, s2⟩ := hSw
      go_simp
      try with_reducible rfl
    try simp only [Act.put, List.setIfInBounds_toArray, List.set_cons_zero, List.set_cons_succ]
    refine wpAnyH_take (i := 8) (v := ?_) rfl (by kernel_rfl) (by kernel_rfl) (by kernel_rfl) (fun _ _ _ h => h) (Or.inl ⟨by rfl, ?_⟩) (by assumption) ?_
    rotate_left
    · intro w hSw
      obtain ⟨s0, s1, s2⟩ := hSw
      go_simp
      try with_reducible rfl
    try simp only [Act.put, List.setIfInBounds_toArray, List.set_cons_zero, List.set_cons_succ]
    refine wpAnyH_take (i := 9) (v := .agg cs.toArray) rfl (by kernel_rfl) (by kernel_rfl) (by kernel_rfl) (fun _ _ _ h => h) (yieldsIf_load_mid (by rfl) 56 (.tmp 15) (by rfl) B (k * 259) ?hx cs _ (fun w hSw => ?hs) Try.underlying56 (by simp [TypeDesc.isRow]) (unhide HF).hi) (by assumption) ?rst
    case hx => go_simp
    case hs => exact hSw.2.2
    case rst =>
    try simp only [Act.put, List.setIfInBounds_toArray, List.set_cons_zero, List.set_cons_succ]
    clear hHeld
    refine wpAnyH_ready (rs := [10]) (by kernel_rfl) (by simp) ?_
    refine AllReadyH.cons rfl (fun K hK => ?_) AllReadyH.nil
    go_simp
    refine hK.out _ _ (unhide HF).s2 (fun hHeld2 => ?_)
    clear hK K
    try simp only [Act.put, List.setIfInBounds_toArray, List.set_cons_zero, List.set_cons_succ]
    refine wpAnyH_ready (rs := [11]) (by kernel_rfl) (by simp) ?_
    refine AllReadyH.cons rfl (fun K hK => ?_) AllReadyH.nil
    rw [if_pos (by rfl)]
    refine wp_store_mid0 rfl _ _ _ rfl _ _ cs.toArray rfl rfl (unhide HF).th (by rw [List.size_toArray]; exact (unhide HF).hi) (all_oneCell_toArray (unhide HF).one) ?_
    refine hK.out _ _ (unhide HF).s3 (fun _ => ?_)
    clear hK K hHeld2
    refine wpAnyH_done (by kernel_rfl) ?_ _
    try simp only [Act.put, List.setIfInBounds_toArray, List.set_cons_zero, List.set_cons_succ]
    go_wp2_with fail
    go_meet
    case rel => exact ⟨rfl, (unhide HF).tok, (unhide HF).rs, (unhide HF).bel⟩
  case rest =>
  obtain ⟨rfl, HTc, HRc, HBc⟩ := hcut
  clear HF hzt
  have hcz := (unhide HBc).size
  obtain ⟨c0, c1, c2, c3, c4, cf, hqlt⟩ := five (unhide HRc).rd
  have t0 := (unhide HTc).c0
  have t1 := (unhide HTc).c1
  have tl := (unhide HTc).lt
  have hNq : w.heap.size ≠ q := by omega
  have hres : singleF s E t d = errR 3 t d := by
    unfold singleF catchF
    rw [if_neg (by omega), if_pos hk13, if_pos (by omega)]
  have e13 : ((whatK t.k).toList == [40]) = false := by rw [whatL 13 [40] (by decide +kernel) h17 (by omega)]; simp; omega
  have e15 : ((whatK t.k).toList == [123]) = true := by rw [whatL 15 [123] (by decide +kernel) h17 (by omega)]; simp; omega
  have hd12 : (d == 12) = true := by simp; omega
  have HWr := hide (wrong_ok 3 (unhide HRc) ht)
  have hze := zeroExp
  have hL0 : (expV .empty (.slice none 0 0) .empty noB 0).set 0 (.string ⟨#[114, 111, 119]⟩) = expV ⟨#[114, 111, 119]⟩ (.slice none 0 0) .empty noB 0 := rfl
  have hlenE := expV_len
  have HRR := hide hres
  clear hd hk13 hres
  go_wp2_with fail
  go_at_call 17
  refine (unhide HWr).mono ?_
  rintro e w3 ⟨rfl, hrs3, hb3⟩
  have HR3 := hide hrs3
  have HB3 := hide ((But.of_below (unhide HBc) (Nat.le_refl _) : But q w wc).trans hb3)
  clear hrs3 hb3
  go_wp2
  go_ret
  refine ⟨_, rfl, err_out (k' := (k : Int)) (unhide HB3) ?_ ?_ _ _⟩
  · rw [unhide HRR]; show (3 : Int) ≠ 0; omega
  · rw [unhide HRR]; exact unhide HR3
end Go.Proofs.Ytbojcemamhiodaa
namespace Go.Proofs.Ytbojcemamhiodaa
open Go.RowKit
set_option linter.unusedSimpArgs false in
set_option maxRecDepth 10000 in
set_option maxHeartbeats 4000000 in
theorem single_name (w : World) (q B cap : Nat) (s : ByteArray) (T : List Tk) (d : Int) (E : Tk → Int → Res) (t : Tk) (k : Nat) (hT : ChainT s T) (ht : T[k]? = some t) (hr : RS w q B cap s T k d 0 0) (hk : t.k = 2) :
    Calls Try.prog 66 #[.pointer (some ⟨q, 0, none⟩)] w (OutX w q B cap s T d (singleF s E t d)) := by
  obtain ⟨str, f, cs, hF⟩ := tok_facts hr ht
  have hkl := hF.hl
  have hkm := hF.hm
  have HTR := hide hF.tr
  have HF := hide hF
  have hzt := zeroTok
  have hk0 : (0 : Int) ≤ (k : Int) := Int.natCast_nonneg _
  have hqw := hr.lt
  have hfew := hT.few
  obtain ⟨hok, h17, hnx⟩ := hT.ok k t ht
  clear hF hr
  go_enter Try.func66, Try.ntmps66
  go_upto_region 1 with fail
  go_cut [3] (fun v wc => v = .pointer (some ⟨w.heap.size, 0, none⟩) ∧ Hid (TokB wc w.heap.size (whatK t.k) str f t.from_) ∧ Hid (RS wc q B cap s T k d 0 0) ∧ Hid (Below w.heap.size w wc))
  case first =>
    refine wp_region_held_drew (S := fun w' => w'.cell? ⟨q, 0, none⟩ = some (.slice (some ⟨B, 0, none⟩) T.length cap) ∧ w'.cell? ⟨q, 1, none⟩ = some (.int .i64 k) ∧ w'.rangeAt B (k * 259) cs) (by kernel_rfl) (unhide HF).s1 (fun hHeld => ?_)
    refine wpAnyH_take (i := 0) (v := ?_) rfl (by kernel_rfl) (by kernel_rfl) (by kernel_rfl) (fun _ _ _ h => h) (Or.inl ⟨by rfl, ?_⟩) (by assumption) ?_
    rotate_left
    · intro w hSw
      obtain ⟨s0, s1, s2⟩ := hSw
      go_simp
      try with_reducible rfl
    try simp only [Act.put, List.setIfInBounds_toArray, List.set_cons_zero, List.set_cons_succ]
    refine wpAnyH_take (i := 1) (v := ?_) rfl (by kernel_rfl) (by kernel_rfl) (by kernel_rfl) (fun _ _ _ h => h) (Or.inl ⟨by rfl, ?_⟩) (by assumption) ?_
    rotate_left
    · intro w hSw
      obtain ⟨s0, s1, s2⟩ := hSw
      go_simp
      try with_reducible rfl
    try simp only [Act.put, List.setIfInBounds_toArray, List.set_cons_zero, List.set_cons_succ]
    refine wpAnyH_take (i := 2) (v := ?_) rfl (by kernel_rfl) (by kernel_rfl) (by kernel_rfl) (fun _ _ _ h => h) (Or.inl ⟨by rfl, ?_⟩) (by assumption) ?_
    rotate_left
    · intro w hSw
      obtain ⟨s0, s1, s2⟩ := hSw
      go_simp
      try with_reducible rfl
    try simp only [Act.put, List.setIfInBounds_toArray, List.set_cons_zero, List.set_cons_succ]
    refine wpAnyH_take (i := 3) (v := ?_) rfl (by kernel_rfl) (by kernel_rfl) (by kernel_rfl) (fun _ _ _ h => h) (Or.inl ⟨by rfl, ?_⟩) (by assumption) ?_
    rotate_left
    · intro w hSw
      obtain ⟨s0, s1, s2⟩ := hSw
      go_simp
      try with_reducible rfl
    try simp only [Act.put, List.setIfInBounds_toArray, List.set_cons_zero, List.set_cons_succ]
    refine wpAnyH_take (i := 4) (v := ?_) rfl (by kernel_rfl) (by kernel_rfl) (by kernel_rfl) (fun _ _ _ h => h) (Or.inl ⟨by rfl, ?_⟩) (by assumption) ?_
    rotate_left
    · intro w hSw
      obtain ⟨s0, s1, s2⟩ := hSw
      go_simp
      try with_reducible rfl
    try simp only [Act.put, List.setIfInBounds_toArray, List.set_cons_zero, List.set_cons_succ]
    refine wpAnyH_take (i := 5) (v := ?_) rfl (by kernel_rfl) (by kernel_rfl) (by kernel_rfl) (fun _ _ _ h => h) (Or.inl ⟨by rfl, ?_⟩) (by assumption) ?_
    rotate_left
    · intro w hSw
      obtain ⟨s0, s1, s2⟩ := hSw
      go_simp
      try with_reducible rfl
    try simp only [Act.put, List.setIfInBounds_toArray, List.set_cons_zero, List.set_cons_succ]
    refine wpAnyH_take (i := 6) (v := ?_) rfl (by kernel_rfl) (by kernel_rfl) (by kernel_rfl) (fun _ _ _ h => h) (Or.inl ⟨by rfl, ?_⟩) (by assumption) ?_
    rotate_left
    · intro w hSw
      obtain ⟨s0, s1, s2⟩ := hSw
      go_simp
      try with_reducible rfl
    try simp only [Act.put, List.setIfInBounds_toArray, List.set_cons_zero, List.set_cons_succ]
    refine wpAnyH_take (i := 7) (v := ?_) rfl (by kernel_rfl) (by kernel_rfl) (by kernel_rfl) (fun _ _ _ h => h) (Or.inl ⟨by rfl, ?_⟩) (by assumption) ?_
    rotate_left
    · intro w hSw
      obtain ⟨s0, s1, s2⟩ := hSw
      go_simp
      try with_reducible rfl
    try simp only [Act.put, List.setIfInBounds_toArray, List.set_cons_zero, List.set_cons_succ]
    refine wpAnyH_take (i := 8) (v := ?_) rfl (by kernel_rfl) (by kernel_rfl) (by kernel_rfl) (fun _ _ _ h => h) (Or.inl ⟨by rfl, ?_⟩) (by assumption) ?_
    rotate_left
    · intro w hSw
      obtain ⟨s0, s1, s2⟩ := hSw
      go_simp
      try with_reducible rfl
    try simp only [Act.put, List.setIfInBounds_toArray, List.set_cons_zero, List.set_cons_succ]
    refine wpAnyH_take (i := 9) (v := .agg cs.toArray) rfl (by kernel_rfl) (by kernel_rfl) (by kernel_rfl) (fun _ _ _ h => h) (yieldsIf_load_mid (by rfl) 56 (.tmp 15) (by rfl) B (k * 259) ?hx cs _ (fun w hSw => ?hs) Try.underlying56 (by simp [TypeDesc.isRow]) (unhide HF).hi) (by assumption) ?rst
    case hx => go_simp
    case hs => exact hSw.2.2
    case rst =>
    try simp only [Act.put, List.setIfInBounds_toArray, List.set_cons_zero, List.set_cons_succ]
    clear hHeld
    refine wpAnyH_ready (rs := [10]) (by kernel_rfl) (by simp) ?_
    refine AllReadyH.cons rfl (fun K hK => ?_) AllReadyH.nil
    go_simp
    refine hK.out _ _ (unhide HF).s2 (fun hHeld2 => ?_)
    clear hK K
    try simp only [Act.put, List.setIfInBounds_toArray, List.set_cons_zero, List.set_cons_succ]
    refine wpAnyH_ready (rs := [11]) (by kernel_rfl) (by simp) ?_
    refine AllReadyH.cons rfl (fun K hK => ?_) AllReadyH.nil
    rw [if_pos (by rfl)]
    refine wp_store_mid0 rfl _ _ _ rfl _ _ cs.toArray rfl rfl (unhide HF).th (by rw [List.size_toArray]; exact (unhide HF).hi) (all_oneCell_toArray (unhide HF).one) ?_
    refine hK.out _ _ (unhide HF).s3 (fun _ => ?_)
    clear hK K hHeld2
    refine wpAnyH_done (by kernel_rfl) ?_ _
    try simp only [Act.put, List.setIfInBounds_toArray, List.set_cons_zero, List.set_cons_succ]
    go_wp2_with fail
    go_meet
    case rel => exact ⟨rfl, (unhide HF).tok, (unhide HF).rs, (unhide HF).bel⟩
  case rest =>
  obtain ⟨rfl, HTc, HRc, HBc⟩ := hcut
  clear HF hzt
  have hcz := (unhide HBc).size
  obtain ⟨c0, c1, c2, c3, c4, cf, hqlt⟩ := five (unhide HRc).rd
  have t0 := (unhide HTc).c0
  have t1 := (unhide HTc).c1
  have tl := (unhide HTc).lt
  have hNq : w.heap.size ≠ q := by omega
  have hres : singleF s E t d = ⟨0, leafF s t, nextT s t.to, d⟩ := by
    unfold singleF
    rw [if_neg (by omega), if_neg (by omega)]
  have hleaf : leafF s t = ⟨2, t.from_, if (2 : Int) = 1 then ⟨(bytesOf noB true).toArray⟩ else str, []⟩ := by
    unfold leafF
    rw [if_pos hk, if_neg (by omega), (unhide HTR).name hk]
  have e13 : ((whatK t.k).toList == [40]) = false := by rw [whatL 13 [40] (by decide +kernel) h17 (by omega)]; simp; omega
  have e15 : ((whatK t.k).toList == [123]) = false := by rw [whatL 15 [123] (by decide +kernel) h17 (by omega)]; simp; omega
  have e2 : ((whatK t.k).toList == [110, 97, 109, 101]) = true := by rw [whatL 2 [110, 97, 109, 101] (by decide +kernel) h17 (by omega)]; simp; omega
  have hnx2 := hnx (by omega)
  have hlk := (List.getElem?_eq_some_iff.1 hnx2).1
  have hf0 := hok.from0
  have tat := (unhide HTc).cat
  have hze := zeroExp
  have hL0 : (((expV .empty (.slice none 0 0) .empty noB 0).set 0 (.string ⟨#[114, 117, 108, 101]⟩)).set 2 (.string str)).set 259 (.int .i64 t.from_) = expV ⟨#[114, 117, 108, 101]⟩ (.slice none 0 0) str noB t.from_ := by rw [expV_op, expV_s, expV_at]
  have hlenE := expV_len
  have HRk := hide ((unhide HRc).setK ((k : Int) + 1))
  have HBk := hide ((But.of_below (unhide HBc) (Nat.le_refl _) : But q w wc).setCell (p := ⟨q, 1, none⟩) (.inl rfl) (.int .i64 ((k : Int) + 1)))
  have HRR := hide hres
  have HLf := hide hleaf
  clear hk hres hleaf
  go_wp2
  go_ret
  have hrk := unhide HRk
  have hsz : (wc.setCell ⟨q, 1, none⟩ (.int .i64 ((k : Int) + 1))).heap.size = wc.heap.size := by simp [World.setCell]
  have hcast : (k : Int) + 1 = ((k + 1 : Nat) : Int) := by omega
  rw [hcast] at hrk HBk hsz ⊢
  refine ⟨wc.heap.size, rfl, ?_⟩
  have hlo := leaf_out (o := 2) (str := str) (f := noB) (a := t.from_) (r := singleF s E t d) (k' := k + 1) (unhide HBk) (by omega) (by omega) hrk ?_ ?_ ?_
  · rw [hsz] at hlo
    exact hlo
  · rw [unhide HRR]
  · rw [unhide HRR]
    exact unhide HLf
  · rw [unhide HRR]
    exact hnx2
end Go.Proofs.Ytbojcemamhiodaa
namespace Go.Proofs.Ytbojcemamhiodaa
open Go.RowKit
set_option linter.unusedSimpArgs false in
set_option maxRecDepth 10000 in
set_option maxHeartbeats 4000000 in
theorem single_word (w : World) (q B cap : Nat) (s : ByteArray) (T : List Tk) (d : Int) (E : Tk → Int → Res) (t : Tk) (k : Nat) (hT : ChainT s T) (ht : T[k]? = some t) (hr : RS w q B cap s T k d 0 0) (hk : t.k = 4) :
    Calls Try.prog 66 #[.pointer (some ⟨q, 0, none⟩)] w (OutX w q B cap s T d (singleF s E t d)) := by
  obtain ⟨str, f, cs, hF⟩ := tok_facts hr ht
  have hkl := hF.hl
  have hkm := hF.hm
  have HTR := hide hF.tr
  have HF := hide hF
  have hzt := zeroTok
  have hk0 : (0 : Int) ≤ (k : Int) := Int.natCast_nonneg _
  have hqw := hr.lt
  have hfew := hT.few
  obtain ⟨hok, h17, hnx⟩ := hT.ok k t ht
  clear hF hr
  go_enter Try.func66, Try.ntmps66
  go_upto_region 1 with fail
  go_cut [3] (fun v wc => v = .pointer (some ⟨w.heap.size, 0, none⟩) ∧ Hid (TokB wc w.heap.size (whatK t.k) str f t.from_) ∧ Hid (RS wc q B cap s T k d 0 0) ∧ Hid (Below w.heap.size w wc))
  case first =>
    refine wp_region_held_drew (S := fun w' => w'.cell? ⟨q, 0, none⟩ = some (.slice (some ⟨B, 0, none⟩) T.length cap) ∧ w'.cell? ⟨q, 1, none⟩ = some (.int .i64 k) ∧ w'.rangeAt B (k * 259) cs) (by kernel_rfl) (unhide HF).s1 (fun hHeld => ?_)
    refine wpAnyH_take (i := 0) (v := ?_) rfl (by kernel_rfl) (by kernel_rfl) (by kernel_rfl) (fun _ _ _ h => h) (Or.inl ⟨by rfl, ?_⟩) (by assumption) ?_
    rotate_left
    · intro w hSw
      obtain ⟨s0, s1, s2⟩ := hSw
      go_simp
      try with_reducible rfl
    try simp only [Act.put, List.setIfInBounds_toArray, List.set_cons_zero, List.set_cons_succ]
    refine wpAnyH_take (i := 1) (v := ?_) rfl (by kernel_rfl) (by kernel_rfl) (by kernel_rfl) (fun _ _ _ h => h) (Or.inl ⟨by rfl, ?_⟩) (by assumption) ?_
    rotate_left
    · intro w hSw
      obtain ⟨s0, s1, s2⟩ := hSw
      go_simp
      try with_reducible rfl
    try simp only [Act.put, List.setIfInBounds_toArray, List.set_cons_zero, List.set_cons_succ]
    refine wpAnyH_take (i := 2) (v := ?_) rfl (by kernel_rfl) (by kernel_rfl) (by kernel_rfl) (fun _ _ _ h => h) (Or.inl ⟨by rfl, ?_⟩) (by assumption) ?_
    rotate_left
    · intro w hSw
      obtain ⟨s0, s1, s2⟩ := hSw
      go_simp
      try with_reducible rfl
    try simp only [Act.put, List.setIfInBounds_toArray, List.set_cons_zero, List.set_cons_succ]
    refine wpAnyH_take (i := 3) (v := ?_) rfl (by kernel_rfl) (by kernel_rfl) (by kernel_rfl) (fun _ _ _ h => h) (Or.inl ⟨by rfl, ?_⟩) (by assumption) ?_
    rotate_left
    · intro w hSw
      obtain ⟨s0, s1, s2⟩ := hSw
      go_simp
      try with_reducible rfl
    try simp only [Act.put, List.setIfInBounds_toArray, List.set_cons_zero, List.set_cons_succ]
    refine wpAnyH_take (i := 4) (v := ?_) rfl (by kernel_rfl) (by kernel_rfl) (by kernel_rfl) (fun _ _ _ h => h) (Or.inl ⟨by rfl, ?_⟩) (by assumption) ?_
    rotate_left
    · intro w hSw
      obtain ⟨s0, s1, s2⟩ := hSw
      go_simp
      try with_reducible rfl
    try simp only [Act.put, List.setIfInBounds_toArray, List.set_cons_zero, List.set_cons_succ]
    refine wpAnyH_take (i := 5) (v := ?_) rfl (by kernel_rfl) (by kernel_rfl) (by kernel_rfl) (fun _ _ _ h => h) (Or.inl ⟨by rfl, ?_⟩) (by assumption) ?_
    rotate_left
    · intro w hSw
      obtain ⟨s0, s1, s2⟩ := hSw
      go_simp
      try with_reducible rfl
    try simp only [Act.put, List.setIfInBounds_toArray, List.set_cons_zero, List.set_cons_succ]
    refine wpAnyH_take (i := 6) (v := ?_) rfl (by kernel_rfl) (by kernel_rfl) (by kernel_rfl) (fun _ _ _ h => h) (Or.inl ⟨by rfl, ?_⟩) (by assumption) ?_
    rotate_left
    · intro w hSw
      obtain ⟨s0, s1, s2⟩ := hSw
      go_simp
      try with_reducible rfl
    try simp only [Act.put, List.setIfInBounds_toArray, List.set_cons_zero, List.set_cons_succ]
    refine wpAnyH_take (i := 7) (v := ?_) rfl (by kernel_rfl) (by kernel_rfl) (by kernel_rfl) (fun _ _ _ h => h) (Or.inl ⟨by rfl, ?_⟩) (by assumption) ?_
    rotate_left
    · intro w hSw
      obtain ⟨s0, s1, s2⟩ := hSw
      go_simp
      try with_reducible rfl
    try simp only [Act.put, List.setIfInBounds_toArray, List.set_cons_zero, List.set_cons_succ]
    refine wpAnyH_take (i := 8) (v := ?_) rfl (by kernel_rfl) (by kernel_rfl) (by kernel_rfl) (fun _ _ _ h => h) (Or.inl ⟨by rfl, ?_⟩) (by assumption) ?_
    rotate_left
    · intro w hSw
      obtain ⟨s0, s1, s2⟩ := hSw
      go_simp
      try with_reducible rfl
    try simp only [Act.put, List.setIfInBounds_toArray, List.set_cons_zero, List.set_cons_succ]
    refine wpAnyH_take (i := 9) (v := .agg cs.toArray) rfl (by kernel_rfl) (by kernel_rfl) (by kernel_rfl) (fun _ _ _ h => h) (yieldsIf_load_mid (by rfl) 56 (.tmp 15) (by rfl) B (k * 259) ?hx cs _ (fun w hSw => ?hs) Try.underlying56 (by simp [TypeDesc.isRow]) (unhide HF).hi) (by assumption) ?rst
    case hx => go_simp
    case hs => exact hSw.2.2
    case rst =>
    try simp only [Act.put, List.setIfInBounds_toArray, List.set_cons_zero, List.set_cons_succ]
    clear hHeld
    refine wpAnyH_ready (rs := [10]) (by kernel_rfl) (by simp) ?_
    refine AllReadyH.cons rfl (fun K hK => ?_) AllReadyH.nil
    go_simp
    refine hK.out _ _ (unhide HF).s2 (fun hHeld2 => ?_)
    clear hK K
    try simp only [Act.put, List.setIfInBounds_toArray, List.set_cons_zero, List.set_cons_succ]
    refine wpAnyH_ready (rs := [11]) (by kernel_rfl) (by simp) ?_
    refine AllReadyH.cons rfl (fun K hK => ?_) AllReadyH.nil
    rw [if_pos (by rfl)]
    refine wp_store_mid0 rfl _ _ _ rfl _ _ cs.toArray rfl rfl (unhide HF).th (by rw [List.size_toArray]; exact (unhide HF).hi) (all_oneCell_toArray (unhide HF).one) ?_
    refine hK.out _ _ (unhide HF).s3 (fun _ => ?_)
    clear hK K hHeld2
    refine wpAnyH_done (by kernel_rfl) ?_ _
    try simp only [Act.put, List.setIfInBounds_toArray, List.set_cons_zero, List.set_cons_succ]
    go_wp2_with fail
    go_meet
    case rel => exact ⟨rfl, (unhide HF).tok, (unhide HF).rs, (unhide HF).bel⟩
  case rest =>
  obtain ⟨rfl, HTc, HRc, HBc⟩ := hcut
  clear HF hzt
  have hcz := (unhide HBc).size
  obtain ⟨c0, c1, c2, c3, c4, cf, hqlt⟩ := five (unhide HRc).rd
  have t0 := (unhide HTc).c0
  have t1 := (unhide HTc).c1
  have tl := (unhide HTc).lt
  have hNq : w.heap.size ≠ q := by omega
  have hres : singleF s E t d = ⟨0, leafF s t, nextT s t.to, d⟩ := by
    unfold singleF
    rw [if_neg (by omega), if_neg (by omega)]
  have hleaf : leafF s t = ⟨0, 0, if (0 : Int) = 1 then ⟨(bytesOf noB true).toArray⟩ else str, []⟩ := by
    unfold leafF
    rw [if_neg (by omega), if_pos hk, if_neg (by omega), (unhide HTR).word hk]
  have e13 : ((whatK t.k).toList == [40]) = false := by rw [whatL 13 [40] (by decide +kernel) h17 (by omega)]; simp; omega
  have e15 : ((whatK t.k).toList == [123]) = false := by rw [whatL 15 [123] (by decide +kernel) h17 (by omega)]; simp; omega
  have e2 : ((whatK t.k).toList == [110, 97, 109, 101]) = false := by rw [whatL 2 [110, 97, 109, 101] (by decide +kernel) h17 (by omega)]; simp; omega
  have e4 : ((whatK t.k).toList == [119, 111, 114, 100]) = true := by rw [whatL 4 [119, 111, 114, 100] (by decide +kernel) h17 (by omega)]; simp; omega
  have hnx2 := hnx (by omega)
  have hlk := (List.getElem?_eq_some_iff.1 hnx2).1
  have hf0 := hok.from0
  have tat := (unhide HTc).cat
  have hze := zeroExp
  have hL0 : ((expV .empty (.slice none 0 0) .empty noB 0).set 0 (.string ⟨#[119, 111, 114, 100]⟩)).set 2 (.string str) = expV ⟨#[119, 111, 114, 100]⟩ (.slice none 0 0) str noB 0 := rfl
  have hlenE := expV_len
  have HRk := hide ((unhide HRc).setK ((k : Int) + 1))
  have HBk := hide ((But.of_below (unhide HBc) (Nat.le_refl _) : But q w wc).setCell (p := ⟨q, 1, none⟩) (.inl rfl) (.int .i64 ((k : Int) + 1)))
  have HRR := hide hres
  have HLf := hide hleaf
  clear hk hres hleaf
  go_wp2
  go_ret
  have hrk := unhide HRk
  have hsz : (wc.setCell ⟨q, 1, none⟩ (.int .i64 ((k : Int) + 1))).heap.size = wc.heap.size := by simp [World.setCell]
  have hcast : (k : Int) + 1 = ((k + 1 : Nat) : Int) := by omega
  rw [hcast] at hrk HBk hsz ⊢
  refine ⟨wc.heap.size, rfl, ?_⟩
  have hlo := leaf_out (o := 0) (str := str) (f := noB) (a := 0) (r := singleF s E t d) (k' := k + 1) (unhide HBk) (by omega) (by omega) hrk ?_ ?_ ?_
  · rw [hsz] at hlo
    exact hlo
  · rw [unhide HRR]
  · rw [unhide HRR]
    exact unhide HLf
  · rw [unhide HRR]
    exact hnx2
end Go.Proofs.Ytbojcemamhiodaa

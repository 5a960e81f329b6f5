import Derived.Test.YtbojcemamhiodaaGreatDoorRyg
namespace Go.Proofs.YtbojcemamhiodaaGreatDoor
open Go.RowKit
set_option linter.unusedSimpArgs false in
set_option maxRecDepth 10000 in
set_option maxHeartbeats 4000000 in
theorem single_deep13 (w : World) (q B cap : Nat) (s : ByteArray) (T : List Tk) (d : Int) (E : Tk → Int → Res) (t : Tk) (k : Nat) (hT : ChainT s T) (ht : T[k]? = some t) (hr : RS w q B cap s T k d 0 0) (hk13 : t.k = 13) (hd : d = 12) :
    Calls Tryz.prog 125 #[.pointer (some ⟨q, 0, none⟩)] w (OutX w q B cap s T d (singleF s E t d)) := by
  obtain ⟨str, f, cs, hF⟩ := tok_facts hr ht
  have hkl := hF.hl
  have hkm := hF.hm
  have HTR := hide hF.tr
  have HF := hide hF
  have hzt := zeroTok
  have hk0 : (0 : Int) ≤ (k : Int) := Int.natCast_nonneg _
  have hqw := hr.lt
  have hfew := hT.few
  obtain ⟨hok, h17, hnx⟩ := hT.ok k t ht
  clear hF hr
  go_enter Tryz.func125, Tryz.ntmps125
  go_upto_region 1 with fail
  go_cut [3] (fun v wc => v = .pointer (some ⟨w.heap.size, 0, none⟩) ∧ Hid (TokB wc w.heap.size (whatK t.k) str f t.from_) ∧ Hid (RS wc q B cap s T k d 0 0) ∧ Hid (Below w.heap.size w wc))
  case first =>
    refine wp_region_held_drew (S := fun w' => w'.cell? ⟨q, 0, none⟩ = some (.slice (some ⟨B, 0, none⟩) T.length cap) ∧ w'.cell? ⟨q, 1, none⟩ = some (.int .i64 k) ∧ w'.rangeAt B (k * 259) cs) (by kernel_rfl) (unhide HF).s1 (fun hHeld => ?_)
    refine wpAnyH_take (i := 0) (v := ?_) rfl (by kernel_rfl) (by kernel_rfl) (by kernel_rfl) (fun _ _ _ h => h) (Or.inl ⟨by rfl, ?_⟩) (by assumption) ?_
    rotate_left
    · intro w hSw
      obtain ⟨s0, s1, s2⟩ := hSw
      go_simp
      try with_reducible rfl
    try simp only [Act.put, List.setIfInBounds_toArray, List.set_cons_zero, List.set_cons_succ]
    refine wpAnyH_take (i := 1) (v := ?_) rfl (by kernel_rfl) (by kernel_rfl) (by kernel_rfl) (fun _ _ _ h => h) (Or.inl ⟨by rfl, ?_⟩) (by assumption) ?_
    rotate_left
    · intro w hSw
      obtain ⟨s0, s1, s2⟩ := hSw
      go_simp
      try with_reducible rfl
    try simp only [Act.put, List.setIfInBounds_toArray, List.set_cons_zero, List.set_cons_succ]
    refine wpAnyH_take (i := 2) (v := ?_) rfl (by kernel_rfl) (by kernel_rfl) (by kernel_rfl) (fun _ _ _ h => h) (Or.inl ⟨by rfl, ?_⟩) (by assumption) ?_
    rotate_left
    · intro w hSw
      obtain ⟨s0, s1, s2⟩ := hSw
      go_simp
      try with_reducible rfl
    try simp only [Act.put, List.setIfInBounds_toArray, List.set_cons_zero, List.set_cons_succ]
    refine wpAnyH_take (i := 3) (v := ?_) rfl (by kernel_rfl) (by kernel_rfl) (by kernel_rfl) (fun _ _ _ h => h) (Or.inl ⟨by rfl, ?_⟩) (by assumption) ?_
    rotate_left
    · intro w hSw
      obtain ⟨s0, s1, s2⟩ := hSw
      go_simp
      try with_reducible rfl
    try simp only [Act.put, List.setIfInBounds_toArray, List.set_cons_zero, List.set_cons_succ]
    refine wpAnyH_take (i := 4) (v := ?_) rfl (by kernel_rfl) (by kernel_rfl) (by kernel_rfl) (fun _ _ _ h => h) (Or.inl ⟨by rfl, ?_⟩) (by assumption) ?_
    rotate_left
    · intro w hSw
      obtain ⟨s0, s1, s2⟩ := hSw
      go_simp
      try with_reducible rfl
    try simp only [Act.put, List.setIfInBounds_toArray, List.set_cons_zero, List.set_cons_succ]
    refine wpAnyH_take (i := 5) (v := ?_) rfl (by kernel_rfl) (by kernel_rfl) (by kernel_rfl) (fun _ _ _ h => h) (Or.inl ⟨by rfl, ?_⟩) (by assumption) ?_
    rotate_left
    · intro w hSw
      obtain ⟨s0, s1, s2⟩ := hSw
      go_simp
      try with_reducible rfl
    try simp only [Act.put, List.setIfInBounds_toArray, List.set_cons_zero, List.set_cons_succ]
    refine wpAnyH_take (i := 6) (v := ?_) rfl (by kernel_rfl) (by kernel_rfl) (by kernel_rfl) (fun _ _ _ h => h) (Or.inl ⟨by rfl, ?_⟩) (by assumption) ?_
    rotate_left
    · intro w hSw
      obtain ⟨s0, s1, s2⟩ := hSw
      go_simp
      try with_reducible rfl
    try simp only [Act.put, List.setIfInBounds_toArray, List.set_cons_zero, List.set_cons_succ]
    refine wpAnyH_take (i := 7) (v := ?_) rfl (by kernel_rfl) (by kernel_rfl) (by kernel_rfl) (fun _ _ _ h => h) (Or.inl ⟨by rfl, ?_⟩) (by assumption) ?_
    rotate_left
    · intro w hSw
      obtain ⟨s0, s1, s2⟩ := hSw
      go_simp
      try with_reducible rfl
    try simp only [Act.put, List.setIfInBounds_toArray, List.set_cons_zero, List.set_cons_succ]
    refine wpAnyH_take (i := 8) (v := ?_) rfl (by kernel_rfl) (by kernel_rfl) (by kernel_rfl) (fun _ _ _ h => h) (Or.inl ⟨by rfl, ?_⟩) (by assumption) ?_
    rotate_left
    · intro w hSw
      obtain ⟨s0, s1, s2⟩ := hSw
      go_simp
      try with_reducible rfl
    try simp only [Act.put, List.setIfInBounds_toArray, List.set_cons_zero, List.set_cons_succ]
    refine wpAnyH_take (i := 9) (v := .agg cs.toArray) rfl (by kernel_rfl) (by kernel_rfl) (by kernel_rfl) (fun _ _ _ h => h) (yieldsIf_load_mid (by rfl) 83 (.tmp 15) (by rfl) B (k * 259) ?hx cs _ (fun w hSw => ?hs) Tryz.underlying83 (by simp [TypeDesc.isRow]) (unhide HF).hi) (by assumption) ?rst
    case hx => go_simp
    case hs => exact hSw.2.2
    case rst =>
    try simp only [Act.put, List.setIfInBounds_toArray, List.set_cons_zero, List.set_cons_succ]
    clear hHeld
    refine wpAnyH_ready (rs := [10]) (by kernel_rfl) (by simp) ?_
    refine AllReadyH.cons rfl (fun K hK => ?_) AllReadyH.nil
    go_simp
    refine hK.out _ _ (unhide HF).s2 (fun hHeld2 => ?_)
    clear hK K
    try simp only [Act.put, List.setIfInBounds_toArray, List.set_cons_zero, List.set_cons_succ]
    refine wpAnyH_ready (rs := [11]) (by kernel_rfl) (by simp) ?_
    refine AllReadyH.cons rfl (fun K hK => ?_) AllReadyH.nil
    rw [if_pos (by rfl)]
    refine wp_store_mid0 rfl _ _ _ rfl _ _ cs.toArray rfl rfl (unhide HF).th (by rw [List.size_toArray]; exact (unhide HF).hi) (all_oneCell_toArray (unhide HF).one) ?_
    refine hK.out _ _ (unhide HF).s3 (fun _ => ?_)
    clear hK K hHeld2
    refine wpAnyH_done (by kernel_rfl) ?_ _
    try simp only [Act.put, List.setIfInBounds_toArray, List.set_cons_zero, List.set_cons_succ]
    go_wp2_with fail
    go_meet
    case rel => exact ⟨rfl, (unhide HF).tok, (unhide HF).rs, (unhide HF).bel⟩
  case rest =>
  obtain ⟨rfl, HTc, HRc, HBc⟩ := hcut
  clear HF hzt
  have hcz := (unhide HBc).size
  obtain ⟨c0, c1, c2, c3, c4, cf, hqlt⟩ := five (unhide HRc).rd
  have t0 := (unhide HTc).c0
  have t1 := (unhide HTc).c1
  have tl := (unhide HTc).lt
  have hNq : w.heap.size ≠ q := by omega
  have hres : singleF s E t d = errR 3 t d := by
    unfold singleF bracketsF
    rw [if_pos hk13, if_pos (by omega)]
  have e13 : ((whatK t.k).toList == [40]) = true := by rw [whatL 13 [40] (by decide +kernel) h17 (by omega)]; simp; omega
  have e15 : ((whatK t.k).toList == [123]) = false := by rw [whatL 15 [123] (by decide +kernel) h17 (by omega)]; simp; omega
  have hd12 : (d == 12) = true := by simp; omega
  have HWr := hide (wrong_ok 3 (unhide HRc) ht)
  have hze := zeroExp
  have hL0 : (expV .empty (.slice none 0 0) .empty noB 0).set 0 (.string ⟨#[114, 111, 119]⟩) = expV ⟨#[114, 111, 119]⟩ (.slice none 0 0) .empty noB 0 := rfl
  have hlenE := expV_len
  have HRR := hide hres
  clear hd hk13 hres
  go_wp2_with fail
  go_at_call 39
  refine (unhide HWr).mono ?_
  rintro e w3 ⟨rfl, hrs3, hb3⟩
  have HR3 := hide hrs3
  have HB3 := hide ((But.of_below (unhide HBc) (Nat.le_refl _) : But q w wc).trans hb3)
  clear hrs3 hb3
  go_wp2
  go_ret
  refine ⟨_, rfl, err_out (k' := (k : Int)) (unhide HB3) ?_ ?_ _ _⟩
  · rw [unhide HRR]; show (3 : Int) ≠ 0; omega
  · rw [unhide HRR]; exact unhide HR3
end Go.Proofs.YtbojcemamhiodaaGreatDoor
namespace Go.Proofs.YtbojcemamhiodaaGreatDoor
open Go.RowKit
set_option linter.unusedSimpArgs false in
set_option maxRecDepth 10000 in
set_option maxHeartbeats 4000000 in
theorem single_deep15 (w : World) (q B cap : Nat) (s : ByteArray) (T : List Tk) (d : Int) (E : Tk → Int → Res) (t : Tk) (k : Nat) (hT : ChainT s T) (ht : T[k]? = some t) (hr : RS w q B cap s T k d 0 0) (hk13 : t.k = 15) (hd : d = 12) :
    Calls Tryz.prog 125 #[.pointer (some ⟨q, 0, none⟩)] w (OutX w q B cap s T d (singleF s E t d)) := by
  obtain ⟨str, f, cs, hF⟩ := tok_facts hr ht
  have hkl := hF.hl
  have hkm := hF.hm
  have HTR := hide hF.tr
  have HF := hide hF
  have hzt := zeroTok
  have hk0 : (0 : Int) ≤ (k : Int) := Int.natCast_nonneg _
  have hqw := hr.lt
  have hfew := hT.few
  obtain ⟨hok, h17, hnx⟩ := hT.ok k t ht
  clear hF hr
  go_enter Tryz.func125, Tryz.ntmps125
  go_upto_region 1 with fail
  go_cut [3] (fun v wc => v = .pointer (some ⟨w.heap.size, 0, none⟩) ∧ Hid (TokB wc w.heap.size (whatK t.k) str f t.from_) ∧ Hid (RS wc q B cap s T k d 0 0) ∧ Hid (Below w.heap.size w wc))
  case first =>
    refine wp_region_held_drew (S := fun w' => w'.cell? ⟨q, 0, none⟩ = some (.slice (some ⟨B, 0, none⟩) T.length cap) ∧ w'.cell? ⟨q, 1, none⟩ = some (.int .i64 k) ∧ w'.rangeAt B (k * 259) cs) (by kernel_rfl) (unhide HF).s1 (fun hHeld => ?_)
    refine wpAnyH_take (i := 0) (v := ?_) rfl (by kernel_rfl) (by kernel_rfl) (by kernel_rfl) (fun _ _ _ h => h) (Or.inl ⟨by rfl, ?_⟩) (by assumption) ?_
    rotate_left
    · intro w hSw
      obtain ⟨s0, s1, s2⟩ := hSw
      go_simp
      try with_reducible rfl
    try simp only [Act.put, List.setIfInBounds_toArray, List.set_cons_zero, List.set_cons_succ]
    refine wpAnyH_take (i := 1) (v := ?_) rfl (by kernel_rfl) (by kernel_rfl) (by kernel_rfl) (fun _ _ _ h => h) (Or.inl ⟨by rfl, ?_⟩) (by assumption) ?_
    rotate_left
    · intro w hSw
      obtain ⟨s0, s1, s2⟩ := hSw
      go_simp
      try with_reducible rfl
    try simp only [Act.put, List.setIfInBounds_toArray, List.set_cons_zero, List.set_cons_succ]
    refine wpAnyH_take (i := 2) (v := ?_) rfl (by kernel_rfl) (by kernel_rfl) (by kernel_rfl) (fun _ _ _ h => h) (Or.inl ⟨by rfl, ?_⟩) (by assumption) ?_
    rotate_left
    · intro w hSw
      obtain ⟨s0, s1, s2⟩ := hSw
      go_simp
      try with_reducible rfl
    try simp only [Act.put, List.setIfInBounds_toArray, List.set_cons_zero, List.set_cons_succ]
    refine wpAnyH_take (i := 3) (v := ?_) rfl (by kernel_rfl) (by kernel_rfl) (by kernel_rfl) (fun _ _ _ h => h) (Or.inl ⟨by rfl, ?_⟩) (by assumption) ?_
    rotate_left
    · intro w hSw
      obtain ⟨s0, s1, s2⟩ := hSw
      go_simp
      try with_reducible rfl
    try simp only [Act.put, List.setIfInBounds_toArray, List.set_cons_zero, List.set_cons_succ]
    refine wpAnyH_take (i := 4) (v := ?_) rfl (by kernel_rfl) (by kernel_rfl) (by kernel_rfl) (fun _ _ _ h => h) (Or.inl ⟨by rfl, ?_⟩) (by assumption) ?_
    rotate_left
    · intro w hSw
      obtain ⟨s0, s1, s2⟩ := hSw
      go_simp
      try with_reducible rfl
    try simp only [Act.put, List.setIfInBounds_toArray, List.set_cons_zero, List.set_cons_succ]
    refine wpAnyH_take (i := 5) (v := ?_) rfl (by kernel_rfl) (by kernel_rfl) (by kernel_rfl) (fun _ _ _ h => h) (Or.inl ⟨by rfl, ?_⟩) (by assumption) ?_
    rotate_left
    · intro w hSw
      obtain ⟨s0, s1, s2⟩ := hSw
      go_simp
      try with_reducible rfl
    try simp only [Act.put, List.setIfInBounds_toArray, List.set_cons_zero, List.set_cons_succ]
    refine wpAnyH_take (i := 6) (v := ?_) rfl (by kernel_rfl) (by kernel_rfl) (by kernel_rfl) (fun _ _ _ h => h) (Or.inl ⟨by rfl, ?_⟩) (by assumption) ?_
    rotate_left
    · intro w hSw
      obtain ⟨s0, s1, s2⟩ := hSw
      go_simp
      try with_reducible rfl
    try simp only [Act.put, List.setIfInBounds_toArray, List.set_cons_zero, List.set_cons_succ]
    refine wpAnyH_take (i := 7) (v := ?_) rfl (by kernel_rfl) (by kernel_rfl) (by kernel_rfl) (fun _ _ _ h => h) (Or.inl ⟨by rfl, ?_⟩) (by assumption) ?_
    rotate_left
    · intro w hSw
      obtain ⟨s0, s1, s2⟩ := hSw
      go_simp
      try with_reducible rfl
    try simp only [Act.put, List.setIfInBounds_toArray, List.set_cons_zero, List.set_cons_succ]
    refine wpAnyH_take (i := 8) (v := ?_) rfl (by kernel_rfl) (by kernel_rfl) (by kernel_rfl) (fun _ _ _ h => h) (Or.inl ⟨by rfl, ?_⟩) (by assumption) ?_
    rotate_left
    · intro w hSw
      obtain ⟨s0, s1, s2⟩ := hSw
      go_simp
      try with_reducible rfl
    try simp only [Act.put, List.setIfInBounds_toArray, List.set_cons_zero, List.set_cons_succ]
    refine wpAnyH_take (i := 9) (v := .agg cs.toArray) rfl (by kernel_rfl) (by kernel_rfl) (by kernel_rfl) (fun _ _ _ h => h) (yieldsIf_load_mid (by rfl) 83 (.tmp 15) (by rfl) B (k * 259) ?hx cs _ (fun w hSw => ?hs) Tryz.underlying83 (by simp [TypeDesc.isRow]) (unhide HF).hi) (by assumption) ?rst
    case hx => go_simp
    case hs => exact hSw.2.2
    case rst =>
    try simp only [Act.put, List.setIfInBounds_toArray, List.set_cons_zero, List.set_cons_succ]
    clear hHeld
    refine wpAnyH_ready (rs := [10]) (by kernel_rfl) (by simp) ?_
    refine AllReadyH.cons rfl (fun K hK => ?_) AllReadyH.nil
    go_simp
    refine hK.out _ _ (unhide HF).s2 (fun hHeld2 => ?_)
    clear hK K
    try simp only [Act.put, List.setIfInBounds_toArray, List.set_cons_zero, List.set_cons_succ]
    refine wpAnyH_ready (rs := [11]) (by kernel_rfl) (by simp) ?_
    refine AllReadyH.cons rfl (fun K hK => ?_) AllReadyH.nil
    rw [if_pos (by rfl)]
    refine wp_store_mid0 rfl _ _ _ rfl _ _ cs.toArray rfl rfl (unhide HF).th (by rw [List.size_toArray]; exact (unhide HF).hi) (all_oneCell_toArray (unhide HF).one) ?_
    refine hK.out _ _ (unhide HF).s3 (fun _ => ?_)
    clear hK K hHeld2
    refine wpAnyH_done (by kernel_rfl) ?_ _
    try simp only [Act.put, List.setIfInBounds_toArray, List.set_cons_zero, List.set_cons_succ]
    go_wp2_with fail
    go_meet
    case rel => exact ⟨rfl, (unhide HF).tok, (unhide HF).rs, (unhide HF).bel⟩
  case rest =>
  obtain ⟨rfl, HTc, HRc, HBc⟩ := hcut
  clear HF hzt
  have hcz := (unhide HBc).size
  obtain ⟨c0, c1, c2, c3, c4, cf, hqlt⟩ := five (unhide HRc).rd
  have t0 := (unhide HTc).c0
  have t1 := (unhide HTc).c1
  have tl := (unhide HTc).lt
  have hNq : w.heap.size ≠ q := by omega
  have hres : singleF s E t d = errR 3 t d := by
    unfold singleF catchF
    rw [if_neg (by omega), if_pos hk13, if_pos (by omega)]
  have e13 : ((whatK t.k).toList == [40]) = false := by rw [whatL 13 [40] (by decide +kernel) h17 (by omega)]; simp; omega
  have e15 : ((whatK t.k).toList == [123]) = true := by rw [whatL 15 [123] (by decide +kernel) h17 (by omega)]; simp; omega
  have hd12 : (d == 12) = true := by simp; omega
  have HWr := hide (wrong_ok 3 (unhide HRc) ht)
  have hze := zeroExp
  have hL0 : (expV .empty (.slice none 0 0) .empty noB 0).set 0 (.string ⟨#[114, 111, 119]⟩) = expV ⟨#[114, 111, 119]⟩ (.slice none 0 0) .empty noB 0 := rfl
  have hlenE := expV_len
  have HRR := hide hres
  clear hd hk13 hres
  go_wp2_with fail
  go_at_call 39
  refine (unhide HWr).mono ?_
  rintro e w3 ⟨rfl, hrs3, hb3⟩
  have HR3 := hide hrs3
  have HB3 := hide ((But.of_below (unhide HBc) (Nat.le_refl _) : But q w wc).trans hb3)
  clear hrs3 hb3
  go_wp2
  go_ret
  refine ⟨_, rfl, err_out (k' := (k : Int)) (unhide HB3) ?_ ?_ _ _⟩
  · rw [unhide HRR]; show (3 : Int) ≠ 0; omega
  · rw [unhide HRR]; exact unhide HR3
end Go.Proofs.YtbojcemamhiodaaGreatDoor
namespace Go.Proofs.YtbojcemamhiodaaGreatDoor
open Go.RowKit
set_option linter.unusedSimpArgs false in
set_option maxRecDepth 10000 in
set_option maxHeartbeats 4000000 in
theorem single_name (w : World) (q B cap : Nat) (s : ByteArray) (T : List Tk) (d : Int) (E : Tk → Int → Res) (t : Tk) (k : Nat) (hT : ChainT s T) (ht : T[k]? = some t) (hr : RS w q B cap s T k d 0 0) (hk : t.k = 2) :
    Calls Tryz.prog 125 #[.pointer (some ⟨q, 0, none⟩)] w (OutX w q B cap s T d (singleF s E t d)) := by
  obtain ⟨str, f, cs, hF⟩ := tok_facts hr ht
  have hkl := hF.hl
  have hkm := hF.hm
  have HTR := hide hF.tr
  have HF := hide hF
  have hzt := zeroTok
  have hk0 : (0 : Int) ≤ (k : Int) := Int.natCast_nonneg _
  have hqw := hr.lt
  have hfew := hT.few
  obtain ⟨hok, h17, hnx⟩ := hT.ok k t ht
  clear hF hr
  go_enter Tryz.func125, Tryz.ntmps125
  go_upto_region 1 with fail
  go_cut [3] (fun v wc => v = .pointer (some ⟨w.heap.size, 0, none⟩) ∧ Hid (TokB wc w.heap.size (whatK t.k) str f t.from_) ∧ Hid (RS wc q B cap s T k d 0 0) ∧ Hid (Below w.heap.size w wc))
  case first =>
    refine wp_region_held_drew (S := fun w' => w'.cell? ⟨q, 0, none⟩ = some (.slice (some ⟨B, 0, none⟩) T.length cap) ∧ w'.cell? ⟨q, 1, none⟩ = some (.int .i64 k) ∧ w'.rangeAt B (k * 259) cs) (by kernel_rfl) (unhide HF).s1 (fun hHeld => ?_)
    refine wpAnyH_take (i := 0) (v := ?_) rfl (by kernel_rfl) (by kernel_rfl) (by kernel_rfl) (fun _ _ _ h => h) (Or.inl ⟨by rfl, ?_⟩) (by assumption) ?_
    rotate_left
    · intro w hSw
      obtain ⟨s0, s1, s2⟩ := hSw
      go_simp
      try with_reducible rfl
    try simp only [Act.put, List.setIfInBounds_toArray, List.set_cons_zero, List.set_cons_succ]
    refine wpAnyH_take (i := 1) (v := ?_) rfl (by kernel_rfl) (by kernel_rfl) (by kernel_rfl) (fun _ _ _ h => h) (Or.inl ⟨by rfl, ?_⟩) (by assumption) ?_
    rotate_left
    · intro w hSw
      obtain ⟨s0, s1, s2⟩ := hSw
      go_simp
      try with_reducible rfl
    try simp only [Act.put, List.setIfInBounds_toArray, List.set_cons_zero, List.set_cons_succ]
    refine wpAnyH_take (i := 2) (v := ?_) rfl (by kernel_rfl) (by kernel_rfl) (by kernel_rfl) (fun _ _ _ h => h) (Or.inl ⟨by rfl, ?_⟩) (by assumption) ?_
    rotate_left
    · intro w hSw
      obtain ⟨s0, s1, s2⟩ := hSw
      go_simp
      try with_reducible rfl
    try simp only [Act.put, List.setIfInBounds_toArray, List.set_cons_zero, List.set_cons_succ]
    refine wpAnyH_take (i := 3) (v := ?_) rfl (by kernel_rfl) (by kernel_rfl) (by kernel_rfl) (fun _ _ _ h => h) (Or.inl ⟨by rfl, ?_⟩) (by assumption) ?_
    rotate_left
    · intro w hSw
      obtain ⟨s0, s1, s2⟩ := hSw
      go_simp
      try with_reducible rfl
    try simp only [Act.put, List.setIfInBounds_toArray, List.set_cons_zero, List.set_cons_succ]
    refine wpAnyH_take (i := 4) (v := ?_) rfl (by kernel_rfl) (by kernel_rfl) (by kernel_rfl) (fun _ _ _ h => h) (Or.inl ⟨by rfl, ?_⟩) (by assumption) ?_
    rotate_left
    · intro w hSw
      obtain ⟨s0, s1, s2⟩ := hSw
      go_simp
      try with_reducible rfl
    try simp only [Act.put, List.setIfInBounds_toArray, List.set_cons_zero, List.set_cons_succ]
    refine wpAnyH_take (i := 5) (v := ?_) rfl (by kernel_rfl) (by kernel_rfl) (by kernel_rfl) (fun _ _ _ h => h) (Or.inl ⟨by rfl, ?_⟩) (by assumption) ?_
    rotate_left
    · intro w hSw
      obtain ⟨s0, s1, s2⟩ := hSw
      go_simp
      try with_reducible rfl
    try simp only [Act.put, List.setIfInBounds_toArray, List.set_cons_zero, List.set_cons_succ]
    refine wpAnyH_take (i := 6) (v := ?_) rfl (by kernel_rfl) (by kernel_rfl) (by kernel_rfl) (fun _ _ _ h => h) (Or.inl ⟨by rfl, ?_⟩) (by assumption) ?_
    rotate_left
    · intro w hSw
      obtain ⟨s0, s1, s2⟩ := hSw
      go_simp
      try with_reducible rfl
    try simp only [Act.put, List.setIfInBounds_toArray, List.set_cons_zero, List.set_cons_succ]
    refine wpAnyH_take (i := 7) (v := ?_) rfl (by kernel_rfl) (by kernel_rfl) (by kernel_rfl) (fun _ _ _ h => h) (Or.inl ⟨by rfl, ?_⟩) (by assumption) ?_
    rotate_left
    · intro w hSw
      obtain ⟨s0, s1, s2⟩ := hSw
      go_simp
      try with_reducible rfl
    try simp only [Act.put, List.setIfInBounds_toArray, List.set_cons_zero, List.set_cons_succ]
    refine wpAnyH_take (i := 8) (v := ?_) rfl (by kernel_rfl) (by kernel_rfl) (by kernel_rfl) (fun _ _ _ h => h) (Or.inl ⟨by rfl, ?_⟩) (by assumption) ?_
    rotate_left
    · intro w hSw
      obtain ⟨s0, s1, s2⟩ := hSw
      go_simp
      try with_reducible rfl
    try simp only [Act.put, List.setIfInBounds_toArray, List.set_cons_zero, List.set_cons_succ]
    refine wpAnyH_take (i := 9) (v := .agg cs.toArray) rfl (by kernel_rfl) (by kernel_rfl) (by kernel_rfl) (fun _ _ _ h => h) (yieldsIf_load_mid (by rfl) 83 (.tmp 15) (by rfl) B (k * 259) ?hx cs _ (fun w hSw => ?hs) Tryz.underlying83 (by simp [TypeDesc.isRow]) (unhide HF).hi) (by assumption) ?rst
    case hx => go_simp
    case hs => exact hSw.2.2
    case rst =>
    try simp only [Act.put, List.setIfInBounds_toArray, List.set_cons_zero, List.set_cons_succ]
    clear hHeld
    refine wpAnyH_ready (rs := [10]) (by kernel_rfl) (by simp) ?_
    refine AllReadyH.cons rfl (fun K hK => ?_) AllReadyH.nil
    go_simp
    refine hK.out _ _ (unhide HF).s2 (fun hHeld2 => ?_)
    clear hK K
    try simp only [Act.put, List.setIfInBounds_toArray, List.set_cons_zero, List.set_cons_succ]
    refine wpAnyH_ready (rs := [11]) (by kernel_rfl) (by simp) ?_
    refine AllReadyH.cons rfl (fun K hK => ?_) AllReadyH.nil
    rw [if_pos (by rfl)]
    refine wp_store_mid0 rfl _ _ _ rfl _ _ cs.toArray rfl rfl (unhide HF).th (by rw [List.size_toArray]; exact (unhide HF).hi) (all_oneCell_toArray (unhide HF).one) ?_
    refine hK.out _ _ (unhide HF).s3 (fun _ => ?_)
    clear hK K hHeld2
    refine wpAnyH_done (by kernel_rfl) ?_ _
    try simp only [Act.put, List.setIfInBounds_toArray, List.set_cons_zero, List.set_cons_succ]
    go_wp2_with fail
    go_meet
    case rel => exact ⟨rfl, (unhide HF).tok, (unhide HF).rs, (unhide HF).bel⟩
  case rest =>
  obtain ⟨rfl, HTc, HRc, HBc⟩ := hcut
  clear HF hzt
  have hcz := (unhide HBc).size
  obtain ⟨c0, c1, c2, c3, c4, cf, hqlt⟩ := five (unhide HRc).rd
  have t0 := (unhide HTc).c0
  have t1 := (unhide HTc).c1
  have tl := (unhide HTc).lt
  have hNq : w.heap.size ≠ q := by omega
  have hres : singleF s E t d = ⟨0, leafF s t, nextT s t.to, d⟩ := by
    unfold singleF
    rw [if_neg (by omega), if_neg (by omega)]
  have hleaf : leafF s t = ⟨2, t.from_, if (2 : Int) = 1 then ⟨(bytesOf noB true).toArray⟩ else str, []⟩ := by
    unfold leafF
    rw [if_pos hk, if_neg (by omega), (unhide HTR).name hk]
  have e13 : ((whatK t.k).toList == [40]) = false := by rw [whatL 13 [40] (by decide +kernel) h17 (by omega)]; simp; omega
  have e15 : ((whatK t.k).toList == [123]) = false := by rw [whatL 15 [123] (by decide +kernel) h17 (by omega)]; simp; omega
  have e2 : ((whatK t.k).toList == [110, 97, 109, 101]) = true := by rw [whatL 2 [110, 97, 109, 101] (by decide +kernel) h17 (by omega)]; simp; omega
  have hnx2 := hnx (by omega)
  have hlk := (List.getElem?_eq_some_iff.1 hnx2).1
  have hf0 := hok.from0
  have tat := (unhide HTc).cat
  have hze := zeroExp
  have hL0 : (((expV .empty (.slice none 0 0) .empty noB 0).set 0 (.string ⟨#[114, 117, 108, 101]⟩)).set 2 (.string str)).set 259 (.int .i64 t.from_) = expV ⟨#[114, 117, 108, 101]⟩ (.slice none 0 0) str noB t.from_ := by rw [expV_op, expV_s, expV_at]
  have hlenE := expV_len
  have HRk := hide ((unhide HRc).setK ((k : Int) + 1))
  have HBk := hide ((But.of_below (unhide HBc) (Nat.le_refl _) : But q w wc).setCell (p := ⟨q, 1, none⟩) (.inl rfl) (.int .i64 ((k : Int) + 1)))
  have HRR := hide hres
  have HLf := hide hleaf
  clear hk hres hleaf
  go_wp2
  go_ret
  have hrk := unhide HRk
  have hsz : (wc.setCell ⟨q, 1, none⟩ (.int .i64 ((k : Int) + 1))).heap.size = wc.heap.size := by simp [World.setCell]
  have hcast : (k : Int) + 1 = ((k + 1 : Nat) : Int) := by omega
  rw [hcast] at hrk HBk hsz ⊢
  refine ⟨wc.heap.size, rfl, ?_⟩
  have hlo := leaf_out (o := 2) (str := str) (f := noB) (a := t.from_) (r := singleF s E t d) (k' := k + 1) (unhide HBk) (by omega) (by omega) hrk ?_ ?_ ?_
  · rw [hsz] at hlo
    exact hlo
  · rw [unhide HRR]
  · rw [unhide HRR]
    exact unhide HLf
  · rw [unhide HRR]
    exact hnx2
end Go.Proofs.YtbojcemamhiodaaGreatDoor
namespace Go.Proofs.YtbojcemamhiodaaGreatDoor
open Go.RowKit
set_option linter.unusedSimpArgs false in
set_option maxRecDepth 10000 in
set_option maxHeartbeats 4000000 in
theorem single_word (w : World) (q B cap : Nat) (s : ByteArray) (T : List Tk) (d : Int) (E : Tk → Int → Res) (t : Tk) (k : Nat) (hT : ChainT s T) (ht : T[k]? = some t) (hr : RS w q B cap s T k d 0 0) (hk : t.k = 4) :
    Calls Tryz.prog 125 #[.pointer (some ⟨q, 0, none⟩)] w (OutX w q B cap s T d (singleF s E t d)) := by
  obtain ⟨str, f, cs, hF⟩ := tok_facts hr ht
  have hkl := hF.hl
  have hkm := hF.hm
  have HTR := hide hF.tr
  have HF := hide hF
  have hzt := zeroTok
  have hk0 : (0 : Int) ≤ (k : Int) := Int.natCast_nonneg _
  have hqw := hr.lt
  have hfew := hT.few
  obtain ⟨hok, h17, hnx⟩ := hT.ok k t ht
  clear hF hr
  go_enter Tryz.func125, Tryz.ntmps125
  go_upto_region 1 with fail
  go_cut [3] (fun v wc => v = .pointer (some ⟨w.heap.size, 0, none⟩) ∧ Hid (TokB wc w.heap.size (whatK t.k) str f t.from_) ∧ Hid (RS wc q B cap s T k d 0 0) ∧ Hid (Below w.heap.size w wc))
  case first =>
    refine wp_region_held_drew (S := fun w' => w'.cell? ⟨q, 0, none⟩ = some (.slice (some ⟨B, 0, none⟩) T.length cap) ∧ w'.cell? ⟨q, 1, none⟩ = some (.int .i64 k) ∧ w'.rangeAt B (k * 259) cs) (by kernel_rfl) (unhide HF).s1 (fun hHeld => ?_)
    refine wpAnyH_take (i := 0) (v := ?_) rfl (by kernel_rfl) (by kernel_rfl) (by kernel_rfl) (fun _ _ _ h => h) (Or.inl ⟨by rfl, ?_⟩) (by assumption) ?_
    rotate_left
    · intro w hSw
      obtain ⟨s0, s1, s2⟩ := hSw
      go_simp
      try with_reducible rfl
    try simp only [Act.put, List.setIfInBounds_toArray, List.set_cons_zero, List.set_cons_succ]
    refine wpAnyH_take (i := 1) (v := ?_) rfl (by kernel_rfl) (by kernel_rfl) (by kernel_rfl) (fun _ _ _ h => h) (Or.inl ⟨by rfl, ?_⟩) (by assumption) ?_
    rotate_left
    · intro w hSw
      obtain ⟨s0, s1, s2⟩ := hSw
      go_simp
      try with_reducible rfl
    try simp only [Act.put, List.setIfInBounds_toArray, List.set_cons_zero, List.set_cons_succ]
    refine wpAnyH_take (i := 2) (v := ?_) rfl (by kernel_rfl) (by kernel_rfl) (by kernel_rfl) (fun _ _ _ h => h) (Or.inl ⟨by rfl, ?_⟩) (by assumption) ?_
    rotate_left
    · intro w hSw
      obtain ⟨s0, s1, s2⟩ := hSw
      go_simp
      try with_reducible rfl
    try simp only [Act.put, List.setIfInBounds_toArray, List.set_cons_zero, List.set_cons_succ]
    refine wpAnyH_take (i := 3) (v := ?_) rfl (by kernel_rfl) (by kernel_rfl) (by kernel_rfl) (fun _ _ _ h => h) (Or.inl ⟨by rfl, ?_⟩) (by assumption) ?_
    rotate_left
    · intro w hSw
      obtain ⟨s0, s1, s2⟩ := hSw
      go_simp
      try with_reducible rfl
    try simp only [Act.put, List.setIfInBounds_toArray, List.set_cons_zero, List.set_cons_succ]
    refine wpAnyH_take (i := 4) (v := ?_) rfl (by kernel_rfl) (by kernel_rfl) (by kernel_rfl) (fun _ _ _ h => h) (Or.inl ⟨by rfl, ?_⟩) (by assumption) ?_
    rotate_left
    · intro w hSw
      obtain ⟨s0, s1, s2⟩ := hSw
      go_simp
      try with_reducible rfl
    try simp only [Act.put, List.setIfInBounds_toArray, List.set_cons_zero, List.set_cons_succ]
    refine wpAnyH_take (i := 5) (v := ?_) rfl (by kernel_rfl) (by kernel_rfl) (by kernel_rfl) (fun _ _ _ h => h) (Or.inl ⟨by rfl, ?_⟩) (by assumption) ?_
    rotate_left
    · intro w hSw
      obtain ⟨s0, s1, s2⟩ := hSw
      go_simp
      try with_reducible rfl
    try simp only [Act.put, List.setIfInBounds_toArray, List.set_cons_zero, List.set_cons_succ]
    refine wpAnyH_take (i := 6) (v := ?_) rfl (by kernel_rfl) (by kernel_rfl) (by kernel_rfl) (fun _ _ _ h => h) (Or.inl ⟨by rfl, ?_⟩) (by assumption) ?_
    rotate_left
    · intro w hSw
      obtain ⟨s0, s1, s2⟩ := hSw
      go_simp
      try with_reducible rfl
    try simp only [Act.put, List.setIfInBounds_toArray, List.set_cons_zero, List.set_cons_succ]
    refine wpAnyH_take (i := 7) (v := ?_) rfl (by kernel_rfl) (by kernel_rfl) (by kernel_rfl) (fun _ _ _ h => h) (Or.inl ⟨by rfl, ?_⟩) (by assumption) ?_
    rotate_left
    · intro w hSw
      obtain ⟨s0, s1, s2⟩ := hSw
      go_simp
      try with_reducible rfl
    try simp only [Act.put, List.setIfInBounds_toArray, List.set_cons_zero, List.set_cons_succ]
    refine wpAnyH_take (i := 8) (v := ?_) rfl (by kernel_rfl) (by kernel_rfl) (by kernel_rfl) (fun _ _ _ h => h) (Or.inl ⟨by rfl, ?_⟩) (by assumption) ?_
    rotate_left
    · intro w hSw
      obtain ⟨s0, s1, s2⟩ := hSw
      go_simp
      try with_reducible rfl
    try simp only [Act.put, List.setIfInBounds_toArray, List.set_cons_zero, List.set_cons_succ]
    refine wpAnyH_take (i := 9) (v := .agg cs.toArray) rfl (by kernel_rfl) (by kernel_rfl) (by kernel_rfl) (fun _ _ _ h => h) (yieldsIf_load_mid (by rfl) 83 (.tmp 15) (by rfl) B (k * 259) ?hx cs _ (fun w hSw => ?hs) Tryz.underlying83 (by simp [TypeDesc.isRow]) (unhide HF).hi) (by assumption) ?rst
    case hx => go_simp
    case hs => exact hSw.2.2
    case rst =>
    try simp only [Act.put, List.setIfInBounds_toArray, List.set_cons_zero, List.set_cons_succ]
    clear hHeld
    refine wpAnyH_ready (rs := [10]) (by kernel_rfl) (by simp) ?_
    refine AllReadyH.cons rfl (fun K hK => ?_) AllReadyH.nil
    go_simp
    refine hK.out _ _ (unhide HF).s2 (fun hHeld2 => ?_)
    clear hK K
    try simp only [Act.put, List.setIfInBounds_toArray, List.set_cons_zero, List.set_cons_succ]
    refine wpAnyH_ready (rs := [11]) (by kernel_rfl) (by simp) ?_
    refine AllReadyH.cons rfl (fun K hK => ?_) AllReadyH.nil
    rw [if_pos (by rfl)]
    refine wp_store_mid0 rfl _ _ _ rfl _ _ cs.toArray rfl rfl (unhide HF).th (by rw [List.size_toArray]; exact (unhide HF).hi) (all_oneCell_toArray (unhide HF).one) ?_
    refine hK.out _ _ (unhide HF).s3 (fun _ => ?_)
    clear hK K hHeld2
    refine wpAnyH_done (by kernel_rfl) ?_ _
    try simp only [Act.put, List.setIfInBounds_toArray, List.set_cons_zero, List.set_cons_succ]
    go_wp2_with fail
    go_meet
    case rel => exact ⟨rfl, (unhide HF).tok, (unhide HF).rs, (unhide HF).bel⟩
  case rest =>
  obtain ⟨rfl, HTc, HRc, HBc⟩ := hcut
  clear HF hzt
  have hcz := (unhide HBc).size
  obtain ⟨c0, c1, c2, c3, c4, cf, hqlt⟩ := five (unhide HRc).rd
  have t0 := (unhide HTc).c0
  have t1 := (unhide HTc).c1
  have tl := (unhide HTc).lt
  have hNq : w.heap.size ≠ q := by omega
  have hres : singleF s E t d = ⟨0, leafF s t, nextT s t.to, d⟩ := by
    unfold singleF
    rw [if_neg (by omega), if_neg (by omega)]
  have hleaf : leafF s t = ⟨0, 0, if (0 : Int) = 1 then ⟨(bytesOf noB true).toArray⟩ else str, []⟩ := by
    unfold leafF
    rw [if_neg (by omega), if_pos hk, if_neg (by omega), (unhide HTR).word hk]
  have e13 : ((whatK t.k).toList == [40]) = false := by rw [whatL 13 [40] (by decide +kernel) h17 (by omega)]; simp; omega
  have e15 : ((whatK t.k).toList == [123]) = false := by rw [whatL 15 [123] (by decide +kernel) h17 (by omega)]; simp; omega
  have e2 : ((whatK t.k).toList == [110, 97, 109, 101]) = false := by rw [whatL 2 [110, 97, 109, 101] (by decide +kernel) h17 (by omega)]; simp; omega
  have e4 : ((whatK t.k).toList == [119, 111, 114, 100]) = true := by rw [whatL 4 [119, 111, 114, 100] (by decide +kernel) h17 (by omega)]; simp; omega
  have hnx2 := hnx (by omega)
  have hlk := (List.getElem?_eq_some_iff.1 hnx2).1
  have hf0 := hok.from0
  have tat := (unhide HTc).cat
  have hze := zeroExp
  have hL0 : ((expV .empty (.slice none 0 0) .empty noB 0).set 0 (.string ⟨#[119, 111, 114, 100]⟩)).set 2 (.string str) = expV ⟨#[119, 111, 114, 100]⟩ (.slice none 0 0) str noB 0 := rfl
  have hlenE := expV_len
  have HRk := hide ((unhide HRc).setK ((k : Int) + 1))
  have HBk := hide ((But.of_below (unhide HBc) (Nat.le_refl _) : But q w wc).setCell (p := ⟨q, 1, none⟩) (.inl rfl) (.int .i64 ((k : Int) + 1)))
  have HRR := hide hres
  have HLf := hide hleaf
  clear hk hres hleaf
  go_wp2
  go_ret
  have hrk := unhide HRk
  have hsz : (wc.setCell ⟨q, 1, none⟩ (.int .i64 ((k : Int) + 1))).heap.size = wc.heap.size := by simp [World.setCell]
  have hcast : (k : Int) + 1 = ((k + 1 : Nat) : Int) := by omega
  rw [hcast] at hrk HBk hsz ⊢
  refine ⟨wc.heap.size, rfl, ?_⟩
  have hlo := leaf_out (o := 0) (str := str) (f := noB) (a := 0) (r := singleF s E t d) (k' := k + 1) (unhide HBk) (by omega) (by omega) hrk ?_ ?_ ?_
  · rw [hsz] at hlo
    exact hlo
  · rw [unhide HRR]
  · rw [unhide HRR]
    exact unhide HLf
  · rw [unhide HRR]
    exact hnx2
end Go.Proofs.YtbojcemamhiodaaGreatDoor
namespace Go.Proofs.YtbojcemamhiodaaGreatDoor
open Go.RowKit
set_option linter.unusedSimpArgs false in
set_option maxRecDepth 10000 in
set_option maxHeartbeats 4000000 in
theorem single_set (w : World) (q B cap : Nat) (s : ByteArray) (T : List Tk) (d : Int) (E : Tk → Int → Res) (t : Tk) (k : Nat) (hT : ChainT s T) (ht : T[k]? = some t) (hr : RS w q B cap s T k d 0 0) (hk : t.k = 5) :
    Calls Tryz.prog 125 #[.pointer (some ⟨q, 0, none⟩)] w (OutX w q B cap s T d (singleF s E t d)) := by
  obtain ⟨str, f, cs, hF⟩ := tok_facts hr ht
  have hkl := hF.hl
  have hkm := hF.hm
  have HTR := hide hF.tr
  have HF := hide hF
  have hzt := zeroTok
  have hk0 : (0 : Int) ≤ (k : Int) := Int.natCast_nonneg _
  have hqw := hr.lt
  have hfew := hT.few
  obtain ⟨hok, h17, hnx⟩ := hT.ok k t ht
  clear hF hr
  go_enter Tryz.func125, Tryz.ntmps125
  go_upto_region 1 with fail
  go_cut [3] (fun v wc => v = .pointer (some ⟨w.heap.size, 0, none⟩) ∧ Hid (TokB wc w.heap.size (whatK t.k) str f t.from_) ∧ Hid (RS wc q B cap s T k d 0 0) ∧ Hid (Below w.heap.size w wc))
  case first =>
    refine wp_region_held_drew (S := fun w' => w'.cell? ⟨q, 0, none⟩ = some (.slice (some ⟨B, 0, none⟩) T.length cap) ∧ w'.cell? ⟨q, 1, none⟩ = some (.int .i64 k) ∧ w'.rangeAt B (k * 259) cs) (by kernel_rfl) (unhide HF).s1 (fun hHeld => ?_)
    refine wpAnyH_take (i := 0) (v := ?_) rfl (by kernel_rfl) (by kernel_rfl) (by kernel_rfl) (fun _ _ _ h => h) (Or.inl ⟨by rfl, ?_⟩) (by assumption) ?_
    rotate_left
    · intro w hSw
      obtain ⟨s0, s1, s2⟩ := hSw
      go_simp
      try with_reducible rfl
    try simp only [Act.put, List.setIfInBounds_toArray, List.set_cons_zero, List.set_cons_succ]
    refine wpAnyH_take (i := 1) (v := ?_) rfl (by kernel_rfl) (by kernel_rfl) (by kernel_rfl) (fun _ _ _ h => h) (Or.inl ⟨by rfl, ?_⟩) (by assumption) ?_
    rotate_left
    · intro w hSw
      obtain ⟨s0, s1, s2⟩ := hSw
      go_simp
      try with_reducible rfl
    try simp only [Act.put, List.setIfInBounds_toArray, List.set_cons_zero, List.set_cons_succ]
    refine wpAnyH_take (i := 2) (v := ?_) rfl (by kernel_rfl) (by kernel_rfl) (by kernel_rfl) (fun _ _ _ h => h) (Or.inl ⟨by rfl, ?_⟩) (by assumption) ?_
    rotate_left
    · intro w hSw
      obtain ⟨s0, s1, s2⟩ := hSw
      go_simp
      try with_reducible rfl
    try simp only [Act.put, List.setIfInBounds_toArray, List.set_cons_zero, List.set_cons_succ]
    refine wpAnyH_take (i := 3) (v := ?_) rfl (by kernel_rfl) (by kernel_rfl) (by kernel_rfl) (fun _ _ _ h => h) (Or.inl ⟨by rfl, ?_⟩) (by assumption) ?_
    rotate_left
    · intro w hSw
      obtain ⟨s0, s1, s2⟩ := hSw
      go_simp
      try with_reducible rfl
    try simp only [Act.put, List.setIfInBounds_toArray, List.set_cons_zero, List.set_cons_succ]
    refine wpAnyH_take (i := 4) (v := ?_) rfl (by kernel_rfl) (by kernel_rfl) (by kernel_rfl) (fun _ _ _ h => h) (Or.inl ⟨by rfl, ?_⟩) (by assumption) ?_
    rotate_left
    · intro w hSw
      obtain ⟨s0, s1, s2⟩ := hSw
      go_simp
      try with_reducible rfl
    try simp only [Act.put, List.setIfInBounds_toArray, List.set_cons_zero, List.set_cons_succ]
    refine wpAnyH_take (i := 5) (v := ?_) rfl (by kernel_rfl) (by kernel_rfl) (by kernel_rfl) (fun _ _ _ h => h) (Or.inl ⟨by rfl, ?_⟩) (by assumption) ?_
    rotate_left
    · intro w hSw
      obtain ⟨s0, s1, s2⟩ := hSw
      go_simp
      try with_reducible rfl
    try simp only [Act.put, List.setIfInBounds_toArray, List.set_cons_zero, List.set_cons_succ]
    refine wpAnyH_take (i := 6) (v := ?_) rfl (by kernel_rfl) (by kernel_rfl) (by kernel_rfl) (fun _ _ _ h => h) (Or.inl ⟨by rfl, ?_⟩) (by assumption) ?_
    rotate_left
    · intro w hSw
      obtain ⟨s0, s1, s2⟩ := hSw
      go_simp
      try with_reducible rfl
    try simp only [Act.put, List.setIfInBounds_toArray, List.set_cons_zero, List.set_cons_succ]
    refine wpAnyH_take (i := 7) (v := ?_) rfl (by kernel_rfl) (by kernel_rfl) (by kernel_rfl) (fun _ _ _ h => h) (Or.inl ⟨by rfl, ?_⟩) (by assumption) ?_
    rotate_left
    · intro w hSw
      obtain ⟨s0, s1, s2⟩ := hSw
      go_simp
      try with_reducible rfl
    try simp only [Act.put, List.setIfInBounds_toArray, List.set_cons_zero, List.set_cons_succ]
    refine wpAnyH_take (i := 8) (v := ?_) rfl (by kernel_rfl) (by kernel_rfl) (by kernel_rfl) (fun _ _ _ h => h) (Or.inl ⟨by rfl, ?_⟩) (by assumption) ?_
    rotate_left
    · intro w hSw
      obtain ⟨s0, s1, s2⟩ := hSw
      go_simp
      try with_reducible rfl
    try simp only [Act.put, List.setIfInBounds_toArray, List.set_cons_zero, List.set_cons_succ]
    refine wpAnyH_take (i := 9) (v := .agg cs.toArray) rfl (by kernel_rfl) (by kernel_rfl) (by kernel_rfl) (fun _ _ _ h => h) (yieldsIf_load_mid (by rfl) 83 (.tmp 15) (by rfl) B (k * 259) ?hx cs _ (fun w hSw => ?hs) Tryz.underlying83 (by simp [TypeDesc.isRow]) (unhide HF).hi) (by assumption) ?rst
    case hx => go_simp
    case hs => exact hSw.2.2
    case rst =>
    try simp only [Act.put, List.setIfInBounds_toArray, List.set_cons_zero, List.set_cons_succ]
    clear hHeld
    refine wpAnyH_ready (rs := [10]) (by kernel_rfl) (by simp) ?_
    refine AllReadyH.cons rfl (fun K hK => ?_) AllReadyH.nil
    go_simp
    refine hK.out _ _ (unhide HF).s2 (fun hHeld2 => ?_)
    clear hK K
    try simp only [Act.put, List.setIfInBounds_toArray, List.set_cons_zero, List.set_cons_succ]
    refine wpAnyH_ready (rs := [11]) (by kernel_rfl) (by simp) ?_
    refine AllReadyH.cons rfl (fun K hK => ?_) AllReadyH.nil
    rw [if_pos (by rfl)]
    refine wp_store_mid0 rfl _ _ _ rfl _ _ cs.toArray rfl rfl (unhide HF).th (by rw [List.size_toArray]; exact (unhide HF).hi) (all_oneCell_toArray (unhide HF).one) ?_
    refine hK.out _ _ (unhide HF).s3 (fun _ => ?_)
    clear hK K hHeld2
    refine wpAnyH_done (by kernel_rfl) ?_ _
    try simp only [Act.put, List.setIfInBounds_toArray, List.set_cons_zero, List.set_cons_succ]
    go_wp2_with fail
    go_meet
    case rel => exact ⟨rfl, (unhide HF).tok, (unhide HF).rs, (unhide HF).bel⟩
  case rest =>
  obtain ⟨rfl, HTc, HRc, HBc⟩ := hcut
  clear HF hzt
  have hcz := (unhide HBc).size
  obtain ⟨c0, c1, c2, c3, c4, cf, hqlt⟩ := five (unhide HRc).rd
  have t0 := (unhide HTc).c0
  have t1 := (unhide HTc).c1
  have tl := (unhide HTc).lt
  have hNq : w.heap.size ≠ q := by omega
  have hres : singleF s E t d = ⟨0, leafF s t, nextT s t.to, d⟩ := by
    unfold singleF
    rw [if_neg (by omega), if_neg (by omega)]
  have hleaf : leafF s t = ⟨1, 0, if (1 : Int) = 1 then ⟨(bytesOf f true).toArray⟩ else .empty, []⟩ := by
    unfold leafF
    rw [if_neg (by omega), if_neg (by omega), if_pos rfl, (unhide HTR).set hk]
  have e13 : ((whatK t.k).toList == [40]) = false := by rw [whatL 13 [40] (by decide +kernel) h17 (by omega)]; simp; omega
  have e15 : ((whatK t.k).toList == [123]) = false := by rw [whatL 15 [123] (by decide +kernel) h17 (by omega)]; simp; omega
  have e2 : ((whatK t.k).toList == [110, 97, 109, 101]) = false := by rw [whatL 2 [110, 97, 109, 101] (by decide +kernel) h17 (by omega)]; simp; omega
  have e4 : ((whatK t.k).toList == [119, 111, 114, 100]) = false := by rw [whatL 4 [119, 111, 114, 100] (by decide +kernel) h17 (by omega)]; simp; omega
  have e5 : ((whatK t.k).toList == [115, 101, 116]) = true := by rw [whatL 5 [115, 101, 116] (by decide +kernel) h17 (by omega)]; simp; omega
  have hnx2 := hnx (by omega)
  have hlk := (List.getElem?_eq_some_iff.1 hnx2).1
  have hze := zeroExp
  have hlenE := expV_len
  have HRk := hide ((unhide HRc).setK ((k : Int) + 1))
  have HBk := hide ((But.of_below (unhide HBc) (Nat.le_refl _) : But q w wc).setCell (p := ⟨q, 1, none⟩) (.inl rfl) (.int .i64 ((k : Int) + 1)))
  have hsz : (wc.setCell ⟨q, 1, none⟩ (.int .i64 ((k : Int) + 1))).heap.size = wc.heap.size := by simp [World.setCell]
  have HTk := hide ((unhide HTc).other (p := ⟨q, 1, none⟩) (show q ≠ w.heap.size by omega) (.int .i64 ((k : Int) + 1)))
  have hL0 : (expV .empty (.slice none 0 0) .empty noB 0).set 0 (.string ⟨#[115, 101, 116]⟩) = expV ⟨#[115, 101, 116]⟩ (.slice none 0 0) .empty noB 0 := rfl
  have HRR := hide hres
  have HLf := hide hleaf
  clear hk hres hleaf
  go_wp2_with fail
  refine wp_load rfl (unhide HTk).loadSet ?_
  have hs256 := setCells_size f
  go_wp2_with fail
  have hfo := fold_set ⟨#[115, 101, 116]⟩ (.slice none 0 0) .empty f 0
  rw [hs256] at hfo
  rw [hfo]
  go_ret
  have hrk := unhide HRk
  have hcast : (k : Int) + 1 = ((k + 1 : Nat) : Int) := by omega
  rw [hcast] at hrk HBk hsz ⊢
  refine ⟨wc.heap.size, rfl, ?_⟩
  have hlo := leaf_out (o := 1) (str := .empty) (f := f) (a := 0) (r := singleF s E t d) (k' := k + 1) (unhide HBk) (by omega) (by omega) hrk ?_ ?_ ?_
  · rw [hsz] at hlo
    exact hlo
  · rw [unhide HRR]
  · rw [unhide HRR]
    exact unhide HLf
  · rw [unhide HRR]
    exact hnx2
end Go.Proofs.YtbojcemamhiodaaGreatDoor
namespace Go.Proofs.YtbojcemamhiodaaGreatDoor
open Go.RowKit
set_option linter.unusedSimpArgs false in
set_option maxRecDepth 10000 in
set_option maxHeartbeats 4000000 in
theorem single_dot (w : World) (q B cap : Nat) (s : ByteArray) (T : List Tk) (d : Int) (E : Tk → Int → Res) (t : Tk) (k : Nat) (hT : ChainT s T) (ht : T[k]? = some t) (hr : RS w q B cap s T k d 0 0) (hk : t.k = 12) :
    Calls Tryz.prog 125 #[.pointer (some ⟨q, 0, none⟩)] w (OutX w q B cap s T d (singleF s E t d)) := by
  obtain ⟨str, f, cs, hF⟩ := tok_facts hr ht
  have hkl := hF.hl
  have hkm := hF.hm
  have HTR := hide hF.tr
  have HF := hide hF
  have hzt := zeroTok
  have hk0 : (0 : Int) ≤ (k : Int) := Int.natCast_nonneg _
  have hqw := hr.lt
  have hfew := hT.few
  obtain ⟨hok, h17, hnx⟩ := hT.ok k t ht
  clear hF hr
  go_enter Tryz.func125, Tryz.ntmps125
  go_upto_region 1 with fail
  go_cut [3] (fun v wc => v = .pointer (some ⟨w.heap.size, 0, none⟩) ∧ Hid (TokB wc w.heap.size (whatK t.k) str f t.from_) ∧ Hid (RS wc q B cap s T k d 0 0) ∧ Hid (Below w.heap.size w wc))
  case first =>
    refine wp_region_held_drew (S := fun w' => w'.cell? ⟨q, 0, none⟩ = some (.slice (some ⟨B, 0, none⟩) T.length cap) ∧ w'.cell? ⟨q, 1, none⟩ = some (.int .i64 k) ∧ w'.rangeAt B (k * 259) cs) (by kernel_rfl) (unhide HF).s1 (fun hHeld => ?_)
    refine wpAnyH_take (i := 0) (v := ?_) rfl (by kernel_rfl) (by kernel_rfl) (by kernel_rfl) (fun _ _ _ h => h) (Or.inl ⟨by rfl, ?_⟩) (by assumption) ?_
    rotate_left
    · intro w hSw
      obtain ⟨s0, s1, s2⟩ := hSw
      go_simp
      try with_reducible rfl
    try simp only [Act.put, List.setIfInBounds_toArray, List.set_cons_zero, List.set_cons_succ]
    refine wpAnyH_take (i := 1) (v := ?_) rfl (by kernel_rfl) (by kernel_rfl) (by kernel_rfl) (fun _ _ _ h => h) (Or.inl ⟨by rfl, ?_⟩) (by assumption) ?_
    rotate_left
    · intro w hSw
      obtain ⟨s0, s1, s2⟩ := hSw
      go_simp
      try with_reducible rfl
    try simp only [Act.put, List.setIfInBounds_toArray, List.set_cons_zero, List.set_cons_succ]
    refine wpAnyH_take (i := 2) (v := ?_) rfl (by kernel_rfl) (by kernel_rfl) (by kernel_rfl) (fun _ _ _ h => h) (Or.inl ⟨by rfl, ?_⟩) (by assumption) ?_
    rotate_left
    · intro w hSw
      obtain ⟨s0, s1, s2⟩ := hSw
      go_simp
      try with_reducible rfl
    try simp only [Act.put, List.setIfInBounds_toArray, List.set_cons_zero, List.set_cons_succ]
    refine wpAnyH_take (i := 3) (v := ?_) rfl (by kernel_rfl) (by kernel_rfl) (by kernel_rfl) (fun _ _ _ h => h) (Or.inl ⟨by rfl, ?_⟩) (by assumption) ?_
    rotate_left
    · intro w hSw
      obtain ⟨s0, s1, s2⟩ := hSw
      go_simp
      try with_reducible rfl
    try simp only [Act.put, List.setIfInBounds_toArray, List.set_cons_zero, List.set_cons_succ]
    refine wpAnyH_take (i := 4) (v := ?_) rfl (by kernel_rfl) (by kernel_rfl) (by kernel_rfl) (fun _ _ _ h => h) (Or.inl ⟨by rfl, ?_⟩) (by assumption) ?_
    rotate_left
    · intro w hSw
      obtain ⟨s0, s1, s2⟩ := hSw
      go_simp
      try with_reducible rfl
    try simp only [Act.put, List.setIfInBounds_toArray, List.set_cons_zero, List.set_cons_succ]
    refine wpAnyH_take (i := 5) (v := ?_) rfl (by kernel_rfl) (by kernel_rfl) (by kernel_rfl) (fun _ _ _ h => h) (Or.inl ⟨by rfl, ?_⟩) (by assumption) ?_
    rotate_left
    · intro w hSw
      obtain ⟨s0, s1, s2⟩ := hSw
      go_simp
      try with_reducible rfl
    try simp only [Act.put, List.setIfInBounds_toArray, List.set_cons_zero, List.set_cons_succ]
    refine wpAnyH_take (i := 6) (v := ?_) rfl (by kernel_rfl) (by kernel_rfl) (by kernel_rfl) (fun _ _ _ h => h) (Or.inl ⟨by rfl, ?_⟩) (by assumption) ?_
    rotate_left
    · intro w hSw
      obtain ⟨s0, s1, s2⟩ := hSw
      go_simp
      try with_reducible rfl
    try simp only [Act.put, List.setIfInBounds_toArray, List.set_cons_zero, List.set_cons_succ]
    refine wpAnyH_take (i := 7) (v := ?_) rfl (by kernel_rfl) (by kernel_rfl) (by kernel_rfl) (fun _ _ _ h => h) (Or.inl ⟨by rfl, ?_⟩) (by assumption) ?_
    rotate_left
    · intro w hSw
      obtain ⟨s0, s1, s2⟩ := hSw
      go_simp
      try with_reducible rfl
    try simp only [Act.put, List.setIfInBounds_toArray, List.set_cons_zero, List.set_cons_succ]
    refine wpAnyH_take (i := 8) (v := ?_) rfl (by kernel_rfl) (by kernel_rfl) (by kernel_rfl) (fun _ _ _ h => h) (Or.inl ⟨by rfl, ?_⟩) (by assumption) ?_
    rotate_left
    · intro w hSw
      obtain ⟨s0, s1, s2⟩ := hSw
      go_simp
      try with_reducible rfl
    try simp only [Act.put, List.setIfInBounds_toArray, List.set_cons_zero, List.set_cons_succ]
    refine wpAnyH_take (i := 9) (v := .agg cs.toArray) rfl (by kernel_rfl) (by kernel_rfl) (by kernel_rfl) (fun _ _ _ h => h) (yieldsIf_load_mid (by rfl) 83 (.tmp 15) (by rfl) B (k * 259) ?hx cs _ (fun w hSw => ?hs) Tryz.underlying83 (by simp [TypeDesc.isRow]) (unhide HF).hi) (by assumption) ?rst
    case hx => go_simp
    case hs => exact hSw.2.2
    case rst =>
    try simp only [Act.put, List.setIfInBounds_toArray, List.set_cons_zero, List.set_cons_succ]
    clear hHeld
    refine wpAnyH_ready (rs := [10]) (by kernel_rfl) (by simp) ?_
    refine AllReadyH.cons rfl (fun K hK => ?_) AllReadyH.nil
    go_simp
    refine hK.out _ _ (unhide HF).s2 (fun hHeld2 => ?_)
    clear hK K
    try simp only [Act.put, List.setIfInBounds_toArray, List.set_cons_zero, List.set_cons_succ]
    refine wpAnyH_ready (rs := [11]) (by kernel_rfl) (by simp) ?_
    refine AllReadyH.cons rfl (fun K hK => ?_) AllReadyH.nil
    rw [if_pos (by rfl)]
    refine wp_store_mid0 rfl _ _ _ rfl _ _ cs.toArray rfl rfl (unhide HF).th (by rw [List.size_toArray]; exact (unhide HF).hi) (all_oneCell_toArray (unhide HF).one) ?_
    refine hK.out _ _ (unhide HF).s3 (fun _ => ?_)
    clear hK K hHeld2
    refine wpAnyH_done (by kernel_rfl) ?_ _
    try simp only [Act.put, List.setIfInBounds_toArray, List.set_cons_zero, List.set_cons_succ]
    go_wp2_with fail
    go_meet
    case rel => exact ⟨rfl, (unhide HF).tok, (unhide HF).rs, (unhide HF).bel⟩
  case rest =>
  obtain ⟨rfl, HTc, HRc, HBc⟩ := hcut
  clear HF hzt
  have hcz := (unhide HBc).size
  obtain ⟨c0, c1, c2, c3, c4, cf, hqlt⟩ := five (unhide HRc).rd
  have t0 := (unhide HTc).c0
  have t1 := (unhide HTc).c1
  have tl := (unhide HTc).lt
  have hNq : w.heap.size ≠ q := by omega
  have hres : singleF s E t d = ⟨0, leafF s t, nextT s t.to, d⟩ := by
    unfold singleF
    rw [if_neg (by omega), if_neg (by omega)]
  have hleaf : leafF s t = ⟨1, 0, if (1 : Int) = 1 then ⟨(bytesOf (fun _ => true) true).toArray⟩ else .empty, []⟩ := by
    unfold leafF
    rw [if_neg (by omega), if_neg (by omega), if_pos rfl, dot_bytes s t hk]
  have e13 : ((whatK t.k).toList == [40]) = false := by rw [whatL 13 [40] (by decide +kernel) h17 (by omega)]; simp; omega
  have e15 : ((whatK t.k).toList == [123]) = false := by rw [whatL 15 [123] (by decide +kernel) h17 (by omega)]; simp; omega
  have e2 : ((whatK t.k).toList == [110, 97, 109, 101]) = false := by rw [whatL 2 [110, 97, 109, 101] (by decide +kernel) h17 (by omega)]; simp; omega
  have e4 : ((whatK t.k).toList == [119, 111, 114, 100]) = false := by rw [whatL 4 [119, 111, 114, 100] (by decide +kernel) h17 (by omega)]; simp; omega
  have e5 : ((whatK t.k).toList == [115, 101, 116]) = false := by rw [whatL 5 [115, 101, 116] (by decide +kernel) h17 (by omega)]; simp; omega
  have e12 : ((whatK t.k).toList == [46]) = true := by rw [whatL 12 [46] (by decide +kernel) h17 (by omega)]; simp; omega
  have hnx2 := hnx (by omega)
  have hlk := (List.getElem?_eq_some_iff.1 hnx2).1
  have hze := zeroExp
  have hlenE := expV_len
  have HRk := hide ((unhide HRc).setK ((k : Int) + 1))
  have HBk := hide ((But.of_below (unhide HBc) (Nat.le_refl _) : But q w wc).setCell (p := ⟨q, 1, none⟩) (.inl rfl) (.int .i64 ((k : Int) + 1)))
  have hsz : (wc.setCell ⟨q, 1, none⟩ (.int .i64 ((k : Int) + 1))).heap.size = wc.heap.size := by simp [World.setCell]
  have hL0 : (expV .empty (.slice none 0 0) .empty noB 0).set 0 (.string ⟨#[115, 101, 116]⟩) = expV ⟨#[115, 101, 116]⟩ (.slice none 0 0) .empty noB 0 := rfl
  have HRR := hide hres
  have HLf := hide hleaf
  have hX0 := ex_new (wc.setCell ⟨q, 1, none⟩ (.int .i64 ((k : Int) + 1))) ⟨#[115, 101, 116]⟩ (.slice none 0 0) .empty noB 0
  rw [hsz] at hX0
  have HX0 := hide hX0
  have HRa := hide ((unhide HRk).alloc (.cells (expV ⟨#[115, 101, 116]⟩ (.slice none 0 0) .empty noB 0).toArray 93))
  have HBa := hide ((unhide HBk).alloc (.cells (expV ⟨#[115, 101, 116]⟩ (.slice none 0 0) .empty noB 0).toArray 93))
  have hBl := (unhide HRc).tok.lt
  clear hk hres hleaf hX0
  go_wp2_with fail
  go_loopw [69] (fun v wx => ∃ x : Nat, v = .int .i64 x ∧ x ≤ 256 ∧ Hid (ExB wx wc.heap.size ⟨#[115, 101, 116]⟩ (.slice none 0 0) .empty (fun c => decide (c < x)) 0) ∧ Hid (RS wx q B cap s T ((k : Int) + 1) d 0 0) ∧ Hid (But q w wx)) (fun v _ => 256 - (intOf v).toNat)
  case atStart => exact ⟨0, rfl, by omega, HX0, HRa, HBa⟩
  case round =>
    obtain ⟨x, rfl, hx, HXx, HRx, HBx⟩ := hrel
    by_cases hx2 : x < 256
    · have hxI : (x : Int) < 256 := by omega
      have hbit := (unhide HXx).cbit x hx2
      have hfz := (unhide HXx).fz
      have hlX := (unhide HXx).lt
      have hXy := (unhide HXx).setBit x hx2 true
      have ef : upd (fun c => decide (c < x)) x true = fun c => decide (c < x + 1) := by
        funext c
        unfold upd
        by_cases h : c = x
        · rw [if_pos h]; simp; omega
        · rw [if_neg h]; exact decide_eq_decide.2 (by omega)
      rw [ef] at hXy
      have HXy := hide hXy
      have HRy := hide ((unhide HRx).set (p := ⟨wc.heap.size, 3 + x, none⟩) (show wc.heap.size ≠ q by omega) (show wc.heap.size ≠ B by omega) (.bool true))
      have HBy := hide ((unhide HBx).setCell (p := ⟨wc.heap.size, 3 + x, none⟩) (.inr hcz) (.bool true))
      clear hXy ef
      go_wp2_with fail
      go_roundw
      case rel => exact ⟨x + 1, by go_num, by omega, HXy, HRy, HBy⟩
      case measure => simp [intOf]; omega
    · have ex : x = 256 := by omega
      subst ex
      go_wp2
      go_ret
      refine ⟨wc.heap.size, rfl, ?_⟩
      have hrx := unhide HRx
      rw [show (k : Int) + 1 = ((k + 1 : Nat) : Int) by omega] at hrx
      refine ⟨unhide HBx, .inl ⟨by rw [unhide HRR], ⟨wc.heap.size, 1, .empty, fun c => decide (c < 256), 0, []⟩, rfl, ?_, ?_, ?_, k + 1, by rw [unhide HRR]; exact hnx2, hrx⟩⟩
      · rw [Tree_iff]
        exact ⟨hcz, ⟨_, unhide HXx, ⟨rfl, .inl ⟨rfl, rfl⟩⟩⟩, by simp⟩
      · rw [OkX_iff]
        exact ⟨by simp, by simp, fun _ => rfl, fun h => by simp at h, fun h => by simp at h, fun h => by simp at h, by simp⟩
      · rw [Ex.norm_else _ (by simp), unhide HRR]
        show (⟨1, 0, if (1 : Int) = 1 then ⟨(bytesOf (fun c => decide (c < 256)) true).toArray⟩ else .empty, normL []⟩ : Nd) = leafF s t
        have e9 : bytesOf (fun c => decide (c < 256)) true = bytesOf (fun _ => true) true := bytesOf_congr (fun x hx => by simp [hx])
        rw [unhide HLf, e9]
        rfl
end Go.Proofs.YtbojcemamhiodaaGreatDoor
namespace Go.Proofs.YtbojcemamhiodaaGreatDoor
open Go.RowKit
set_option linter.unusedSimpArgs false in
set_option maxRecDepth 10000 in
set_option maxHeartbeats 4000000 in
theorem single_paren (w : World) (q B cap : Nat) (s : ByteArray) (T : List Tk) (d : Int) (E : Tk → Int → Res) (t : Tk) (k : Nat) (hT : ChainT s T) (ht : T[k]? = some t) (hr : RS w q B cap s T k d 0 0) (h0 : 0 ≤ d) (hd : d < 12) (hF : FineE s E (d + 1)) (hC : SaidCh s q B cap T 37 E (d + 1)) (hk : t.k = 13) :
    Calls Tryz.prog 125 #[.pointer (some ⟨q, 0, none⟩)] w (OutX w q B cap s T d (singleF s E t d)) := by
  obtain ⟨str, f, cs, hF⟩ := tok_facts hr ht
  have hkl := hF.hl
  have hkm := hF.hm
  have HTR := hide hF.tr
  have HF := hide hF
  have hzt := zeroTok
  have hk0 : (0 : Int) ≤ (k : Int) := Int.natCast_nonneg _
  have hqw := hr.lt
  have hfew := hT.few
  obtain ⟨hok, h17, hnx⟩ := hT.ok k t ht
  clear hF hr
  go_enter Tryz.func125, Tryz.ntmps125
  go_upto_region 1 with fail
  go_cut [3] (fun v wc => v = .pointer (some ⟨w.heap.size, 0, none⟩) ∧ Hid (TokB wc w.heap.size (whatK t.k) str f t.from_) ∧ Hid (RS wc q B cap s T k d 0 0) ∧ Hid (Below w.heap.size w wc))
  case first =>
    refine wp_region_held_drew (S := fun w' => w'.cell? ⟨q, 0, none⟩ = some (.slice (some ⟨B, 0, none⟩) T.length cap) ∧ w'.cell? ⟨q, 1, none⟩ = some (.int .i64 k) ∧ w'.rangeAt B (k * 259) cs) (by kernel_rfl) (unhide HF).s1 (fun hHeld => ?_)
    refine wpAnyH_take (i := 0) (v := ?_) rfl (by kernel_rfl) (by kernel_rfl) (by kernel_rfl) (fun _ _ _ h => h) (Or.inl ⟨by rfl, ?_⟩) (by assumption) ?_
    rotate_left
    · intro w hSw
      obtain ⟨s0, s1, s2⟩ := hSw
      go_simp
      try with_reducible rfl
    try simp only [Act.put, List.setIfInBounds_toArray, List.set_cons_zero, List.set_cons_succ]
    refine wpAnyH_take (i := 1) (v := ?_) rfl (by kernel_rfl) (by kernel_rfl) (by kernel_rfl) (fun _ _ _ h => h) (Or.inl ⟨by rfl, ?_⟩) (by assumption) ?_
    rotate_left
    · intro w hSw
      obtain ⟨s0, s1, s2⟩ := hSw
      go_simp
      try with_reducible rfl
    try simp only [Act.put, List.setIfInBounds_toArray, List.set_cons_zero, List.set_cons_succ]
    refine wpAnyH_take (i := 2) (v := ?_) rfl (by kernel_rfl) (by kernel_rfl) (by kernel_rfl) (fun _ _ _ h => h) (Or.inl ⟨by rfl, ?_⟩) (by assumption) ?_
    rotate_left
    · intro w hSw
      obtain ⟨s0, s1, s2⟩ := hSw
      go_simp
      try with_reducible rfl
    try simp only [Act.put, List.setIfInBounds_toArray, List.set_cons_zero, List.set_cons_succ]
    refine wpAnyH_take (i := 3) (v := ?_) rfl (by kernel_rfl) (by kernel_rfl) (by kernel_rfl) (fun _ _ _ h => h) (Or.inl ⟨by rfl, ?_⟩) (by assumption) ?_
    rotate_left
    · intro w hSw
      obtain ⟨s0, s1, s2⟩ := hSw
      go_simp
      try with_reducible rfl
    try simp only [Act.put, List.setIfInBounds_toArray, List.set_cons_zero, List.set_cons_succ]
    refine wpAnyH_take (i := 4) (v := ?_) rfl (by kernel_rfl) (by kernel_rfl) (by kernel_rfl) (fun _ _ _ h => h) (Or.inl ⟨by rfl, ?_⟩) (by assumption) ?_
    rotate_left
    · intro w hSw
      obtain ⟨s0, s1, s2⟩ := hSw
      go_simp
      try with_reducible rfl
    try simp only [Act.put, List.setIfInBounds_toArray, List.set_cons_zero, List.set_cons_succ]
    refine wpAnyH_take (i := 5) (v := ?_) rfl (by kernel_rfl) (by kernel_rfl) (by kernel_rfl) (fun _ _ _ h => h) (Or.inl ⟨by rfl, ?_⟩) (by assumption) ?_
    rotate_left
    · intro w hSw
      obtain ⟨s0, s1, s2⟩ := hSw
      go_simp
      try with_reducible rfl
    try simp only [Act.put, List.setIfInBounds_toArray, List.set_cons_zero, List.set_cons_succ]
    refine wpAnyH_take (i := 6) (v := ?_) rfl (by kernel_rfl) (by kernel_rfl) (by kernel_rfl) (fun _ _ _ h => h) (Or.inl ⟨by rfl, ?_⟩) (by assumption) ?_
    rotate_left
    · intro w hSw
      obtain ⟨s0, s1, s2⟩ := hSw
      go_simp
      try with_reducible rfl
    try simp only [Act.put, List.setIfInBounds_toArray, List.set_cons_zero, List.set_cons_succ]
    refine wpAnyH_take (i := 7) (v := ?_) rfl (by kernel_rfl) (by kernel_rfl) (by kernel_rfl) (fun _ _ _ h => h) (Or.inl ⟨by rfl, ?_⟩) (by assumption) ?_
    rotate_left
    · intro w hSw
      obtain ⟨s0, s1, s2⟩ := hSw
      go_simp
      try with_reducible rfl
    try simp only [Act.put, List.setIfInBounds_toArray, List.set_cons_zero, List.set_cons_succ]
    refine wpAnyH_take (i := 8) (v := ?_) rfl (by kernel_rfl) (by kernel_rfl) (by kernel_rfl) (fun _ _ _ h => h) (Or.inl ⟨by rfl, ?_⟩) (by assumption) ?_
    rotate_left
    · intro w hSw
      obtain ⟨s0, s1, s2⟩ := hSw
      go_simp
      try with_reducible rfl
    try simp only [Act.put, List.setIfInBounds_toArray, List.set_cons_zero, List.set_cons_succ]
    refine wpAnyH_take (i := 9) (v := .agg cs.toArray) rfl (by kernel_rfl) (by kernel_rfl) (by kernel_rfl) (fun _ _ _ h => h) (yieldsIf_load_mid (by rfl) 83 (.tmp 15) (by rfl) B (k * 259) ?hx cs _ (fun w hSw => ?hs) Tryz.underlying83 (by simp [TypeDesc.isRow]) (unhide HF).hi) (by assumption) ?rst
    case hx => go_simp
    case hs => exact hSw.2.2
    case rst =>
    try simp only [Act.put, List.setIfInBounds_toArray, List.set_cons_zero, List.set_cons_succ]
    clear hHeld
    refine wpAnyH_ready (rs := [10]) (by kernel_rfl) (by simp) ?_
    refine AllReadyH.cons rfl (fun K hK => ?_) AllReadyH.nil
    go_simp
    refine hK.out _ _ (unhide HF).s2 (fun hHeld2 => ?_)
    clear hK K
    try simp only [Act.put, List.setIfInBounds_toArray, List.set_cons_zero, List.set_cons_succ]
    refine wpAnyH_ready (rs := [11]) (by kernel_rfl) (by simp) ?_
    refine AllReadyH.cons rfl (fun K hK => ?_) AllReadyH.nil
    rw [if_pos (by rfl)]
    refine wp_store_mid0 rfl _ _ _ rfl _ _ cs.toArray rfl rfl (unhide HF).th (by rw [List.size_toArray]; exact (unhide HF).hi) (all_oneCell_toArray (unhide HF).one) ?_
    refine hK.out _ _ (unhide HF).s3 (fun _ => ?_)
    clear hK K hHeld2
    refine wpAnyH_done (by kernel_rfl) ?_ _
    try simp only [Act.put, List.setIfInBounds_toArray, List.set_cons_zero, List.set_cons_succ]
    go_wp2_with fail
    go_meet
    case rel => exact ⟨rfl, (unhide HF).tok, (unhide HF).rs, (unhide HF).bel⟩
  case rest =>
  obtain ⟨rfl, HTc, HRc, HBc⟩ := hcut
  clear HF hzt
  have hcz := (unhide HBc).size
  obtain ⟨c0, c1, c2, c3, c4, cf, hqlt⟩ := five (unhide HRc).rd
  have t0 := (unhide HTc).c0
  have t1 := (unhide HTc).c1
  have tl := (unhide HTc).lt
  have hNq : w.heap.size ≠ q := by omega
  have hres : singleF s E t d = withinF s (E (nextT s t.to) (d + 1)) 14 := by
    unfold singleF bracketsF
    rw [if_pos hk, if_neg (by omega)]
  have e13 : ((whatK t.k).toList == [40]) = true := by rw [whatL 13 [40] (by decide +kernel) h17 (by omega)]; simp; omega
  have e15 : ((whatK t.k).toList == [123]) = false := by rw [whatL 15 [123] (by decide +kernel) h17 (by omega)]; simp; omega
  have e2 : ((whatK t.k).toList == [110, 97, 109, 101]) = false := by rw [whatL 2 [110, 97, 109, 101] (by decide +kernel) h17 (by omega)]; simp; omega
  have e4 : ((whatK t.k).toList == [119, 111, 114, 100]) = false := by rw [whatL 4 [119, 111, 114, 100] (by decide +kernel) h17 (by omega)]; simp; omega
  have e5 : ((whatK t.k).toList == [115, 101, 116]) = false := by rw [whatL 5 [115, 101, 116] (by decide +kernel) h17 (by omega)]; simp; omega
  have e12 : ((whatK t.k).toList == [46]) = false := by rw [whatL 12 [46] (by decide +kernel) h17 (by omega)]; simp; omega
  have hnx2 := hnx (by omega)
  have hlk := (List.getElem?_eq_some_iff.1 hnx2).1
  have hze := zeroExp
  have hlenE := expV_len
  have HRk := hide ((unhide HRc).setK ((k : Int) + 1))
  have HBk := hide ((But.of_below (unhide HBc) (Nat.le_refl _) : But q w wc).setCell (p := ⟨q, 1, none⟩) (.inl rfl) (.int .i64 ((k : Int) + 1)))
  have hsz : (wc.setCell ⟨q, 1, none⟩ (.int .i64 ((k : Int) + 1))).heap.size = wc.heap.size := by simp [World.setCell]
  have hd12 : (d == 12) = false := by simp; omega
  have HCl := hide (closed_any (wc.setCell ⟨q, 1, none⟩ (.int .i64 ((k : Int) + 1))) q B cap s T d 14 E _ (k + 1) hT hnx2 (by rw [show ((k + 1 : Nat) : Int) = (k : Int) + 1 by omega]; exact unhide HRk) h0 hd (by omega) hF hC)
  have HRR := hide hres
  clear hk hres hd hF hC h0
  go_wp2_with fail
  go_at_call 141
  refine (unhide HCl).mono ?_
  rintro e w3 ⟨b, rfl, ho⟩
  have HO := hide ho
  clear ho
  go_wp2
  go_ret
  exact ⟨b, rfl, by rw [unhide HRR]; exact (unhide HO).mono (unhide HBk)⟩
end Go.Proofs.YtbojcemamhiodaaGreatDoor
namespace Go.Proofs.YtbojcemamhiodaaGreatDoor
open Go.RowKit
set_option linter.unusedSimpArgs false in
set_option maxRecDepth 10000 in
set_option maxHeartbeats 4000000 in
theorem single_plc (w : World) (q B cap : Nat) (s : ByteArray) (T : List Tk) (d : Int) (E : Tk → Int → Res) (t : Tk) (k : Nat) (hT : ChainT s T) (ht : T[k]? = some t) (hr : RS w q B cap s T k d 0 0) (h0 : 0 ≤ d) (hd : d < 12) (hk : t.k = 15) (hk2 : (nextT s t.to).k = 16) :
    Calls Tryz.prog 125 #[.pointer (some ⟨q, 0, none⟩)] w (OutX w q B cap s T d (singleF s E t d)) := by
  obtain ⟨str, f, cs, hF⟩ := tok_facts hr ht
  have hkl := hF.hl
  have hkm := hF.hm
  have HTR := hide hF.tr
  have HF := hide hF
  have hzt := zeroTok
  have hk0 : (0 : Int) ≤ (k : Int) := Int.natCast_nonneg _
  have hqw := hr.lt
  have hfew := hT.few
  obtain ⟨hok, h17, hnx⟩ := hT.ok k t ht
  clear hF hr
  go_enter Tryz.func125, Tryz.ntmps125
  go_upto_region 1 with fail
  go_cut [3] (fun v wc => v = .pointer (some ⟨w.heap.size, 0, none⟩) ∧ Hid (TokB wc w.heap.size (whatK t.k) str f t.from_) ∧ Hid (RS wc q B cap s T k d 0 0) ∧ Hid (Below w.heap.size w wc))
  case first =>
    refine wp_region_held_drew (S := fun w' => w'.cell? ⟨q, 0, none⟩ = some (.slice (some ⟨B, 0, none⟩) T.length cap) ∧ w'.cell? ⟨q, 1, none⟩ = some (.int .i64 k) ∧ w'.rangeAt B (k * 259) cs) (by kernel_rfl) (unhide HF).s1 (fun hHeld => ?_)
    refine wpAnyH_take (i := 0) (v := ?_) rfl (by kernel_rfl) (by kernel_rfl) (by kernel_rfl) (fun _ _ _ h => h) (Or.inl ⟨by rfl, ?_⟩) (by assumption) ?_
    rotate_left
    · intro w hSw
      obtain ⟨s0, s1, s2⟩ := hSw
      go_simp
      try with_reducible rfl
    try simp only [Act.put, List.setIfInBounds_toArray, List.set_cons_zero, List.set_cons_succ]
    refine wpAnyH_take (i := 1) (v := ?_) rfl (by kernel_rfl) (by kernel_rfl) (by kernel_rfl) (fun _ _ _ h => h) (Or.inl ⟨by rfl, ?_⟩) (by assumption) ?_
    rotate_left
    · intro w hSw
      obtain ⟨s0, s1, s2⟩ := hSw
      go_simp
      try with_reducible rfl
    try simp only [Act.put, List.setIfInBounds_toArray, List.set_cons_zero, List.set_cons_succ]
    refine wpAnyH_take (i := 2) (v := ?_) rfl (by kernel_rfl) (by kernel_rfl) (by kernel_rfl) (fun _ _ _ h => h) (Or.inl ⟨by rfl, ?_⟩) (by assumption) ?_
    rotate_left
    · intro w hSw
      obtain ⟨s0, s1, s2⟩ := hSw
      go_simp
      try with_reducible rfl
    try simp only [Act.put, List.setIfInBounds_toArray, List.set_cons_zero, List.set_cons_succ]
    refine wpAnyH_take (i := 3) (v := ?_) rfl (by kernel_rfl) (by kernel_rfl) (by kernel_rfl) (fun _ _ _ h => h) (Or.inl ⟨by rfl, ?_⟩) (by assumption) ?_
    rotate_left
    · intro w hSw
      obtain ⟨s0, s1, s2⟩ := hSw
      go_simp
      try with_reducible rfl
    try simp only [Act.put, List.setIfInBounds_toArray, List.set_cons_zero, List.set_cons_succ]
    refine wpAnyH_take (i := 4) (v := ?_) rfl (by kernel_rfl) (by kernel_rfl) (by kernel_rfl) (fun _ _ _ h => h) (Or.inl ⟨by rfl, ?_⟩) (by assumption) ?_
    rotate_left
    · intro w hSw
      obtain ⟨s0, s1, s2⟩ := hSw
      go_simp
      try with_reducible rfl
    try simp only [Act.put, List.setIfInBounds_toArray, List.set_cons_zero, List.set_cons_succ]
    refine wpAnyH_take (i := 5) (v := ?_) rfl (by kernel_rfl) (by kernel_rfl) (by kernel_rfl) (fun _ _ _ h => h) (Or.inl ⟨by rfl, ?_⟩) (by assumption) ?_
    rotate_left
    · intro w hSw
      obtain ⟨s0, s1, s2⟩ := hSw
      go_simp
      try with_reducible rfl
    try simp only [Act.put, List.setIfInBounds_toArray, List.set_cons_zero, List.set_cons_succ]
    refine wpAnyH_take (i := 6) (v := ?_) rfl (by kernel_rfl) (by kernel_rfl) (by kernel_rfl) (fun _ _ _ h => h) (Or.inl ⟨by rfl, ?_⟩) (by assumption) ?_
    rotate_left
    · intro w hSw
      obtain ⟨s0, s1, s2⟩ := hSw
      go_simp
      try with_reducible rfl
    try simp only [Act.put, List.setIfInBounds_toArray, List.set_cons_zero, List.set_cons_succ]
    refine wpAnyH_take (i := 7) (v := ?_) rfl (by kernel_rfl) (by kernel_rfl) (by kernel_rfl) (fun _ _ _ h => h) (Or.inl ⟨by rfl, ?_⟩) (by assumption) ?_
    rotate_left
    · intro w hSw
      obtain ⟨s0, s1, s2⟩ := hSw
      go_simp
      try with_reducible rfl
    try simp only [Act.put, List.setIfInBounds_toArray, List.set_cons_zero, List.set_cons_succ]
    refine wpAnyH_take (i := 8) (v := ?_) rfl (by kernel_rfl) (by kernel_rfl) (by kernel_rfl) (fun _ _ _ h => h) (Or.inl ⟨by rfl, ?_⟩) (by assumption) ?_
    rotate_left
    · intro w hSw
      obtain ⟨s0, s1, s2⟩ := hSw
      go_simp
      try with_reducible rfl
    try simp only [Act.put, List.setIfInBounds_toArray, List.set_cons_zero, List.set_cons_succ]
    refine wpAnyH_take (i := 9) (v := .agg cs.toArray) rfl (by kernel_rfl) (by kernel_rfl) (by kernel_rfl) (fun _ _ _ h => h) (yieldsIf_load_mid (by rfl) 83 (.tmp 15) (by rfl) B (k * 259) ?hx cs _ (fun w hSw => ?hs) Tryz.underlying83 (by simp [TypeDesc.isRow]) (unhide HF).hi) (by assumption) ?rst
    case hx => go_simp
    case hs => exact hSw.2.2
    case rst =>
    try simp only [Act.put, List.setIfInBounds_toArray, List.set_cons_zero, List.set_cons_succ]
    clear hHeld
    refine wpAnyH_ready (rs := [10]) (by kernel_rfl) (by simp) ?_
    refine AllReadyH.cons rfl (fun K hK => ?_) AllReadyH.nil
    go_simp
    refine hK.out _ _ (unhide HF).s2 (fun hHeld2 => ?_)
    clear hK K
    try simp only [Act.put, List.setIfInBounds_toArray, List.set_cons_zero, List.set_cons_succ]
    refine wpAnyH_ready (rs := [11]) (by kernel_rfl) (by simp) ?_
    refine AllReadyH.cons rfl (fun K hK => ?_) AllReadyH.nil
    rw [if_pos (by rfl)]
    refine wp_store_mid0 rfl _ _ _ rfl _ _ cs.toArray rfl rfl (unhide HF).th (by rw [List.size_toArray]; exact (unhide HF).hi) (all_oneCell_toArray (unhide HF).one) ?_
    refine hK.out _ _ (unhide HF).s3 (fun _ => ?_)
    clear hK K hHeld2
    refine wpAnyH_done (by kernel_rfl) ?_ _
    try simp only [Act.put, List.setIfInBounds_toArray, List.set_cons_zero, List.set_cons_succ]
    go_wp2_with fail
    go_meet
    case rel => exact ⟨rfl, (unhide HF).tok, (unhide HF).rs, (unhide HF).bel⟩
  case rest =>
  obtain ⟨rfl, HTc, HRc, HBc⟩ := hcut
  clear HF hzt
  have hcz := (unhide HBc).size
  obtain ⟨c0, c1, c2, c3, c4, cf, hqlt⟩ := five (unhide HRc).rd
  have t0 := (unhide HTc).c0
  have t1 := (unhide HTc).c1
  have tl := (unhide HTc).lt
  have hNq : w.heap.size ≠ q := by omega
  have hres : singleF s E t d = ⟨0, nd0 3 [], nextT s (nextT s t.to).to, d⟩ := by
    unfold singleF catchF
    rw [if_neg (by omega), if_pos hk, if_neg (by omega), if_pos hk2]
  have e13 : ((whatK t.k).toList == [40]) = false := by rw [whatL 13 [40] (by decide +kernel) h17 (by omega)]; simp; omega
  have e15 : ((whatK t.k).toList == [123]) = true := by rw [whatL 15 [123] (by decide +kernel) h17 (by omega)]; simp; omega
  have e2 : ((whatK t.k).toList == [110, 97, 109, 101]) = false := by rw [whatL 2 [110, 97, 109, 101] (by decide +kernel) h17 (by omega)]; simp; omega
  have e4 : ((whatK t.k).toList == [119, 111, 114, 100]) = false := by rw [whatL 4 [119, 111, 114, 100] (by decide +kernel) h17 (by omega)]; simp; omega
  have e5 : ((whatK t.k).toList == [115, 101, 116]) = false := by rw [whatL 5 [115, 101, 116] (by decide +kernel) h17 (by omega)]; simp; omega
  have e12 : ((whatK t.k).toList == [46]) = false := by rw [whatL 12 [46] (by decide +kernel) h17 (by omega)]; simp; omega
  have hnx2 := hnx (by omega)
  have hlk := (List.getElem?_eq_some_iff.1 hnx2).1
  have hze := zeroExp
  have hlenE := expV_len
  have HRk := hide ((unhide HRc).setK ((k : Int) + 1))
  have HBk := hide ((But.of_below (unhide HBc) (Nat.le_refl _) : But q w wc).setCell (p := ⟨q, 1, none⟩) (.inl rfl) (.int .i64 ((k : Int) + 1)))
  have hsz : (wc.setCell ⟨q, 1, none⟩ (.int .i64 ((k : Int) + 1))).heap.size = wc.heap.size := by simp [World.setCell]
  have hd12 : (d == 12) = false := by simp; omega
  obtain ⟨hok2, h172, hnx3⟩ := hT.ok (k + 1) _ hnx2
  have hnx4 := hnx3 (by omega)
  have hlk2 := (List.getElem?_eq_some_iff.1 hnx4).1
  have hcast : ((k + 1 : Nat) : Int) = (k : Int) + 1 := by omega
  have hrk1 := unhide HRk
  rw [← hcast] at hrk1
  have HIs := hide (is_ok (whatK 16) hrk1 hnx2)
  rw [whatK_eq h172 (by omega), show ((nextT s t.to).k == 16) = true by simpa using hk2, hcast] at HIs
  have hL0 : (expV .empty (.slice none 0 0) .empty noB 0).set 0 (.string ⟨#[112, 108, 97, 99, 101]⟩) = expV ⟨#[112, 108, 97, 99, 101]⟩ (.slice none 0 0) .empty noB 0 := rfl
  have HRR := hide hres
  clear hk hk2 hres hd h0 hrk1 hcast
  go_wp2_with fail
  go_at_call 38
  refine (unhide HIs).mono ?_
  rintro e w3 ⟨rfl, m, rfl⟩
  obtain ⟨g0, g1, g2, g3, g4, gf, hql2⟩ := five ((unhide HRk).drewN m).rd
  have HR3 := hide (((unhide HRk).drewN m).setK ((k : Int) + 1 + 1))
  have HB3 := hide (((unhide HBk).trans (.of_below (below_drewN' (Below.refl _ _) m) (Nat.le_refl _))).setCell (p := ⟨q, 1, none⟩) (.inl rfl) (.int .i64 ((k : Int) + 1 + 1)))
  go_wp2
  go_ret
  have hr3 := unhide HR3
  have hcast : (k : Int) + 1 + 1 = ((k + 2 : Nat) : Int) := by omega
  have hsz3 : ((((wc.setCell ⟨q, 1, none⟩ (.int .i64 ((k : Int) + 1))).drewN m).setCell ⟨q, 1, none⟩ (.int .i64 ((k : Int) + 1 + 1)))).heap.size = wc.heap.size := by simp [World.setCell]
  rw [hcast] at hr3 HB3 hsz3 ⊢
  have hlo := leaf_out (o := 3) (str := .empty) (f := noB) (a := 0) (r := singleF s E t d) (k' := k + 2) (unhide HB3) (by omega) (by omega) hr3 ?_ ?_ ?_
  · rw [hsz3] at hlo
    exact ⟨wc.heap.size, rfl, hlo⟩
  · rw [unhide HRR]
  · rw [unhide HRR]
    rfl
  · rw [unhide HRR]
    exact hnx4
end Go.Proofs.YtbojcemamhiodaaGreatDoor
namespace Go.Proofs.YtbojcemamhiodaaGreatDoor
open Go.RowKit
set_option linter.unusedSimpArgs false in
set_option maxRecDepth 10000 in
set_option maxHeartbeats 4000000 in
theorem single_cat0 (w : World) (q B cap : Nat) (s : ByteArray) (T : List Tk) (d : Int) (E : Tk → Int → Res) (t : Tk) (k : Nat) (hT : ChainT s T) (ht : T[k]? = some t) (hr : RS w q B cap s T k d 0 0) (h0 : 0 ≤ d) (hd : d < 12) (hF : FineE s E (d + 1)) (hC : SaidCh s q B cap T 37 E (d + 1)) (hk : t.k = 15) (hk2 : (nextT s t.to).k ≠ 16) (hnb : nmBefore s (nextT s t.to) 17 = false) :
    Calls Tryz.prog 125 #[.pointer (some ⟨q, 0, none⟩)] w (OutX w q B cap s T d (singleF s E t d)) := by
  obtain ⟨str, f, cs, hF⟩ := tok_facts hr ht
  have hkl := hF.hl
  have hkm := hF.hm
  have HTR := hide hF.tr
  have HF := hide hF
  have hzt := zeroTok
  have hk0 : (0 : Int) ≤ (k : Int) := Int.natCast_nonneg _
  have hqw := hr.lt
  have hBw := hr.tok.lt
  have hfew := hT.few
  obtain ⟨hok, h17, hnx⟩ := hT.ok k t ht
  clear hF hr
  go_enter Tryz.func125, Tryz.ntmps125
  go_upto_region 1 with fail
  go_cut [3] (fun v wc => v = .pointer (some ⟨w.heap.size, 0, none⟩) ∧ Hid (TokB wc w.heap.size (whatK t.k) str f t.from_) ∧ Hid (RS wc q B cap s T k d 0 0) ∧ Hid (Below w.heap.size w wc))
  case first =>
    refine wp_region_held_drew (S := fun w' => w'.cell? ⟨q, 0, none⟩ = some (.slice (some ⟨B, 0, none⟩) T.length cap) ∧ w'.cell? ⟨q, 1, none⟩ = some (.int .i64 k) ∧ w'.rangeAt B (k * 259) cs) (by kernel_rfl) (unhide HF).s1 (fun hHeld => ?_)
    refine wpAnyH_take (i := 0) (v := ?_) rfl (by kernel_rfl) (by kernel_rfl) (by kernel_rfl) (fun _ _ _ h => h) (Or.inl ⟨by rfl, ?_⟩) (by assumption) ?_
    rotate_left
    · intro w hSw
      obtain ⟨s0, s1, s2⟩ := hSw
      go_simp
      try with_reducible rfl
    try simp only [Act.put, List.setIfInBounds_toArray, List.set_cons_zero, List.set_cons_succ]
    refine wpAnyH_take (i := 1) (v := ?_) rfl (by kernel_rfl) (by kernel_rfl) (by kernel_rfl) (fun _ _ _ h => h) (Or.inl ⟨by rfl, ?_⟩) (by assumption) ?_
    rotate_left
    · intro w hSw
      obtain ⟨s0, s1, s2⟩ := hSw
      go_simp
      try with_reducible rfl
    try simp only [Act.put, List.setIfInBounds_toArray, List.set_cons_zero, List.set_cons_succ]
    refine wpAnyH_take (i := 2) (v := ?_) rfl (by kernel_rfl) (by kernel_rfl) (by kernel_rfl) (fun _ _ _ h => h) (Or.inl ⟨by rfl, ?_⟩) (by assumption) ?_
    rotate_left
    · intro w hSw
      obtain ⟨s0, s1, s2⟩ := hSw
      go_simp
      try with_reducible rfl
    try simp only [Act.put, List.setIfInBounds_toArray, List.set_cons_zero, List.set_cons_succ]
    refine wpAnyH_take (i := 3) (v := ?_) rfl (by kernel_rfl) (by kernel_rfl) (by kernel_rfl) (fun _ _ _ h => h) (Or.inl ⟨by rfl, ?_⟩) (by assumption) ?_
    rotate_left
    · intro w hSw
      obtain ⟨s0, s1, s2⟩ := hSw
      go_simp
      try with_reducible rfl
    try simp only [Act.put, List.setIfInBounds_toArray, List.set_cons_zero, List.set_cons_succ]
    refine wpAnyH_take (i := 4) (v := ?_) rfl (by kernel_rfl) (by kernel_rfl) (by kernel_rfl) (fun _ _ _ h => h) (Or.inl ⟨by rfl, ?_⟩) (by assumption) ?_
    rotate_left
    · intro w hSw
      obtain ⟨s0, s1, s2⟩ := hSw
      go_simp
      try with_reducible rfl
    try simp only [Act.put, List.setIfInBounds_toArray, List.set_cons_zero, List.set_cons_succ]
    refine wpAnyH_take (i := 5) (v := ?_) rfl (by kernel_rfl) (by kernel_rfl) (by kernel_rfl) (fun _ _ _ h => h) (Or.inl ⟨by rfl, ?_⟩) (by assumption) ?_
    rotate_left
    · intro w hSw
      obtain ⟨s0, s1, s2⟩ := hSw
      go_simp
      try with_reducible rfl
    try simp only [Act.put, List.setIfInBounds_toArray, List.set_cons_zero, List.set_cons_succ]
    refine wpAnyH_take (i := 6) (v := ?_) rfl (by kernel_rfl) (by kernel_rfl) (by kernel_rfl) (fun _ _ _ h => h) (Or.inl ⟨by rfl, ?_⟩) (by assumption) ?_
    rotate_left
    · intro w hSw
      obtain ⟨s0, s1, s2⟩ := hSw
      go_simp
      try with_reducible rfl
    try simp only [Act.put, List.setIfInBounds_toArray, List.set_cons_zero, List.set_cons_succ]
    refine wpAnyH_take (i := 7) (v := ?_) rfl (by kernel_rfl) (by kernel_rfl) (by kernel_rfl) (fun _ _ _ h => h) (Or.inl ⟨by rfl, ?_⟩) (by assumption) ?_
    rotate_left
    · intro w hSw
      obtain ⟨s0, s1, s2⟩ := hSw
      go_simp
      try with_reducible rfl
    try simp only [Act.put, List.setIfInBounds_toArray, List.set_cons_zero, List.set_cons_succ]
    refine wpAnyH_take (i := 8) (v := ?_) rfl (by kernel_rfl) (by kernel_rfl) (by kernel_rfl) (fun _ _ _ h => h) (Or.inl ⟨by rfl, ?_⟩) (by assumption) ?_
    rotate_left
    · intro w hSw
      obtain ⟨s0, s1, s2⟩ := hSw
      go_simp
      try with_reducible rfl
    try simp only [Act.put, List.setIfInBounds_toArray, List.set_cons_zero, List.set_cons_succ]
    refine wpAnyH_take (i := 9) (v := .agg cs.toArray) rfl (by kernel_rfl) (by kernel_rfl) (by kernel_rfl) (fun _ _ _ h => h) (yieldsIf_load_mid (by rfl) 83 (.tmp 15) (by rfl) B (k * 259) ?hx cs _ (fun w hSw => ?hs) Tryz.underlying83 (by simp [TypeDesc.isRow]) (unhide HF).hi) (by assumption) ?rst
    case hx => go_simp
    case hs => exact hSw.2.2
    case rst =>
    try simp only [Act.put, List.setIfInBounds_toArray, List.set_cons_zero, List.set_cons_succ]
    clear hHeld
    refine wpAnyH_ready (rs := [10]) (by kernel_rfl) (by simp) ?_
    refine AllReadyH.cons rfl (fun K hK => ?_) AllReadyH.nil
    go_simp
    refine hK.out _ _ (unhide HF).s2 (fun hHeld2 => ?_)
    clear hK K
    try simp only [Act.put, List.setIfInBounds_toArray, List.set_cons_zero, List.set_cons_succ]
    refine wpAnyH_ready (rs := [11]) (by kernel_rfl) (by simp) ?_
    refine AllReadyH.cons rfl (fun K hK => ?_) AllReadyH.nil
    rw [if_pos (by rfl)]
    refine wp_store_mid0 rfl _ _ _ rfl _ _ cs.toArray rfl rfl (unhide HF).th (by rw [List.size_toArray]; exact (unhide HF).hi) (all_oneCell_toArray (unhide HF).one) ?_
    refine hK.out _ _ (unhide HF).s3 (fun _ => ?_)
    clear hK K hHeld2
    refine wpAnyH_done (by kernel_rfl) ?_ _
    try simp only [Act.put, List.setIfInBounds_toArray, List.set_cons_zero, List.set_cons_succ]
    go_wp2_with fail
    go_meet
    case rel => exact ⟨rfl, (unhide HF).tok, (unhide HF).rs, (unhide HF).bel⟩
  case rest =>
  obtain ⟨rfl, HTc, HRc, HBc⟩ := hcut
  clear HF hzt
  have hcz := (unhide HBc).size
  obtain ⟨c0, c1, c2, c3, c4, cf, hqlt⟩ := five (unhide HRc).rd
  have t0 := (unhide HTc).c0
  have t1 := (unhide HTc).c1
  have tl := (unhide HTc).lt
  have hNq : w.heap.size ≠ q := by omega
  have hres : singleF s E t d = partF (namedN s (nextT s t.to)) (withinF s (E (namedT s (nextT s t.to)) (d + 1)) 16) := by
    unfold singleF catchF
    rw [if_neg (by omega), if_pos hk, if_neg (by omega), if_neg hk2]
  have e13 : ((whatK t.k).toList == [40]) = false := by rw [whatL 13 [40] (by decide +kernel) h17 (by omega)]; simp; omega
  have e15 : ((whatK t.k).toList == [123]) = true := by rw [whatL 15 [123] (by decide +kernel) h17 (by omega)]; simp; omega
  have e2 : ((whatK t.k).toList == [110, 97, 109, 101]) = false := by rw [whatL 2 [110, 97, 109, 101] (by decide +kernel) h17 (by omega)]; simp; omega
  have e4 : ((whatK t.k).toList == [119, 111, 114, 100]) = false := by rw [whatL 4 [119, 111, 114, 100] (by decide +kernel) h17 (by omega)]; simp; omega
  have e5 : ((whatK t.k).toList == [115, 101, 116]) = false := by rw [whatL 5 [115, 101, 116] (by decide +kernel) h17 (by omega)]; simp; omega
  have e12 : ((whatK t.k).toList == [46]) = false := by rw [whatL 12 [46] (by decide +kernel) h17 (by omega)]; simp; omega
  have hnx2 := hnx (by omega)
  have hlk := (List.getElem?_eq_some_iff.1 hnx2).1
  have hze := zeroExp
  have hlenE := expV_len
  have HRk := hide ((unhide HRc).setK ((k : Int) + 1))
  have HBk := hide ((But.of_below (unhide HBc) (Nat.le_refl _) : But q w wc).setCell (p := ⟨q, 1, none⟩) (.inl rfl) (.int .i64 ((k : Int) + 1)))
  have hsz : (wc.setCell ⟨q, 1, none⟩ (.int .i64 ((k : Int) + 1))).heap.size = wc.heap.size := by simp [World.setCell]
  have hd12 : (d == 12) = false := by simp; omega
  obtain ⟨hok2, h172, hnx3⟩ := hT.ok (k + 1) _ hnx2
  have hcast : ((k + 1 : Nat) : Int) = (k : Int) + 1 := by omega
  have hrk1 := unhide HRk
  rw [← hcast] at hrk1
  have HIs := hide (is_ok (whatK 16) hrk1 hnx2)
  rw [whatK_eq h172 (by omega), show ((nextT s t.to).k == 16) = false by simpa using hk2, hcast] at HIs
  have hL0 : (expV .empty (.slice none 0 0) .empty noB 0).set 0 (.string ⟨#[99, 97, 116, 99, 104]⟩) = expV ⟨#[99, 97, 116, 99, 104]⟩ (.slice none 0 0) .empty noB 0 := rfl
  obtain ⟨i, hi, hz, hsz1, hby⟩ := info_parts infoPtr
  have HRR := hide hres
  clear hk hres hrk1
  go_wp2_with fail
  go_at_call 38
  refine (unhide HIs).mono ?_
  rintro e w3 ⟨rfl, m, rfl⟩
  have HR3 := hide (((unhide HRk).drewN m).alloc (.cells (expV ⟨#[99, 97, 116, 99, 104]⟩ (.slice none 0 0) .empty noB 0).toArray 93))
  have HB3 := hide (((unhide HBk).trans (.of_below (below_drewN' (Below.refl _ _) m) (Nat.le_refl _))).alloc (.cells (expV ⟨#[99, 97, 116, 99, 104]⟩ (.slice none 0 0) .empty noB 0).toArray 93))
  have hX3 := ex_new ((wc.setCell ⟨q, 1, none⟩ (.int .i64 ((k : Int) + 1))).drewN m) ⟨#[99, 97, 116, 99, 104]⟩ (.slice none 0 0) .empty noB 0
  have hsz3 : ((wc.setCell ⟨q, 1, none⟩ (.int .i64 ((k : Int) + 1))).drewN m).heap.size = wc.heap.size := by simp [World.setCell]
  rw [hsz3] at hX3
  have HX3 := hide hX3
  clear hX3
  go_wp2_with fail
  generalize hw4 : ((wc.setCell ⟨q, 1, none⟩ (.int .i64 ((k : Int) + 1))).drewN m).alloc (.cells (expV ⟨#[99, 97, 116, 99, 104]⟩ (.slice none 0 0) .empty noB 0).toArray 93) = w4 at HR3 HB3 HX3 ⊢
  clear hw4 c0 c1 c2 c3 c4 cf hqlt t0 t1 tl HRk HBk hsz
  have hrk4 := unhide HR3
  rw [← hcast] at hrk4
  obtain ⟨k1, hk1⟩ : ∃ k1, k + 1 = k1 := ⟨_, rfl⟩
  rw [hk1] at hrk4 hnx2 hnx3
  have hk1f : k1 ≤ 1000 := by omega
  have HR4 := hide hrk4
  clear HR3 hcast hk1 hlk
  obtain ⟨c0, c1, c2, c3, c4, cf, hqlt⟩ := five hrk4.rd
  have hX4 := (unhide HX3).lt
  have cX := (unhide HX3).c1
  have cXf := (unhide HX3).fz
  have HNM := hide (show namedN s (nextT s t.to) = .empty by unfold namedN; rw [if_neg (by simp [hnb])])
  have HNT := hide (show namedT s (nextT s t.to) = nextT s t.to by unfold namedT; rw [if_neg (by simp [hnb])])
  have HIn := hide (fun n => is_ok (w := w4.drewN n) (whatK 2) (hrk4.drewN n) hnx2)
  rw [whatK_eq h172 (by omega)] at HIn
  have HCl := hide (fun W (hW : RS W q B cap s T k1 d 0 0) => closed_any W q B cap s T d 16 E _ k1 hT hnx2 hW h0 hd (by omega) hF hC)
  by_cases hk2' : (nextT s t.to).k = 2
  · have hk17 : (nextT s (nextT s t.to).to).k ≠ 17 := by
      intro e
      unfold nmBefore at hnb
      simp [hk2', e] at hnb
    have hnx4 := hnx3 (by omega)
    obtain ⟨hok3, h173, hnx5⟩ := hT.ok (k1 + 1) _ hnx4
    obtain ⟨str2, f2, hTR2, b0, b1, b2, bf, hkb, hmb, hBb⟩ := hrk4.cells (k1 + 1) _ hnx4
    have e58 : ((whatK (nextT s (nextT s t.to).to).k).toList == [58]) = false := by rw [whatL 17 [58] (by decide +kernel) h173 (by omega)]; simpa using hk17
    rw [show ((nextT s t.to).k == 2) = true by simpa using hk2'] at HIn
    have hkI : (k1 : Int) + 1 < T.length := by omega
    have hkJ : (0 : Int) ≤ (k1 : Int) + 1 := by omega
    have hwr : IntKind.i64.wrap ((k1 : Int) + 1) = (k1 : Int) + 1 := by rw [IntKind.wrap_i64]; omega
    have htn : ((k1 : Int) + 1).toNat = k1 + 1 := by omega
    clear hk2 hnb hk2' hk17 hrk4
    refine wp_region_held_drew (S := fun w' => w'.cell? ⟨q, 0, none⟩ = some (.slice (some ⟨B, 0, none⟩) T.length cap) ∧ w'.cell? ⟨q, 1, none⟩ = some (.int .i64 k1) ∧ w'.cell? ⟨B, (k1 + 1) * 259, none⟩ = some (.string (whatK (nextT s (nextT s t.to).to).k))) (by kernel_rfl) ⟨c0, c1, b0⟩ (fun hHeld => ?_)
    refine take_dst (i := 0) 96 (v := ?_) rfl rfl (by kernel_rfl) (by kernel_rfl) (by kernel_rfl) (fun _ _ _ h => h) (Or.inl ⟨by kernel_rfl, ?_⟩) (by assumption) ?_
    rotate_left
    · intro w hSw
      obtain ⟨s0, s1, s2⟩ := hSw
      go_simp
      try with_reducible rfl
    try simp only [Act.put, List.setIfInBounds_toArray, List.set_cons_zero, List.set_cons_succ]
    refine wpAnyH_ready (rs := [1]) (by kernel_rfl) (by simp) ?_
    refine AllReadyH.cons rfl (fun K hK => ?_) AllReadyH.nil
    refine step_wp (by rfl) ?_
    go_simp
    go_at_call 38
    refine (unhide HIn 1).mono ?_
    rintro e w5 ⟨rfl, m5, rfl⟩
    refine hK.out _ _ ⟨c0, c1, b0⟩ (fun hHeld2 => ?_)
    clear hK K hHeld
    try simp only [Act.put, List.setIfInBounds_toArray, List.set_cons_zero, List.set_cons_succ]
    refine take_dst (i := 2) 98 (v := ?_) rfl rfl (by kernel_rfl) (by kernel_rfl) (by kernel_rfl) (fun _ _ _ h => h) (Or.inl ⟨by kernel_rfl, ?_⟩) (by assumption) ?_
    rotate_left
    · intro w hSw
      obtain ⟨s0, s1, s2⟩ := hSw
      go_simp
      try with_reducible rfl
    try simp only [Act.put, List.setIfInBounds_toArray, List.set_cons_zero, List.set_cons_succ]
    refine take_dst (i := 3) 99 (v := ?_) rfl rfl (by kernel_rfl) (by kernel_rfl) (by kernel_rfl) (fun _ _ _ h => h) (Or.inl ⟨by kernel_rfl, ?_⟩) (by assumption) ?_
    rotate_left
    · intro w hSw
      obtain ⟨s0, s1, s2⟩ := hSw
      go_simp
      try with_reducible rfl
    try simp only [Act.put, List.setIfInBounds_toArray, List.set_cons_zero, List.set_cons_succ]
    refine take_dst (i := 4) 100 (v := ?_) rfl rfl (by kernel_rfl) (by kernel_rfl) (by kernel_rfl) (fun _ _ _ h => h) (Or.inl ⟨by kernel_rfl, ?_⟩) (by assumption) ?_
    rotate_left
    · intro w hSw
      obtain ⟨s0, s1, s2⟩ := hSw
      go_simp
      try with_reducible rfl
    try simp only [Act.put, List.setIfInBounds_toArray, List.set_cons_zero, List.set_cons_succ]
    refine take_dst (i := 5) 101 (v := ?_) rfl rfl (by kernel_rfl) (by kernel_rfl) (by kernel_rfl) (fun _ _ _ h => h) (Or.inl ⟨by kernel_rfl, ?_⟩) (by assumption) ?_
    rotate_left
    · intro w hSw
      obtain ⟨s0, s1, s2⟩ := hSw
      go_simp
      try with_reducible rfl
    try simp only [Act.put, List.setIfInBounds_toArray, List.set_cons_zero, List.set_cons_succ]
    refine take_dst (i := 6) 102 (v := ?_) rfl rfl (by kernel_rfl) (by kernel_rfl) (by kernel_rfl) (fun _ _ _ h => h) (Or.inl ⟨by kernel_rfl, ?_⟩) (by assumption) ?_
    rotate_left
    · intro w hSw
      obtain ⟨s0, s1, s2⟩ := hSw
      go_simp
      try with_reducible rfl
    try simp only [Act.put, List.setIfInBounds_toArray, List.set_cons_zero, List.set_cons_succ]
    refine take_dst (i := 7) 103 (v := ?_) rfl rfl (by kernel_rfl) (by kernel_rfl) (by kernel_rfl) (fun _ _ _ h => h) (Or.inl ⟨by kernel_rfl, ?_⟩) (by assumption) ?_
    rotate_left
    · intro w hSw
      obtain ⟨s0, s1, s2⟩ := hSw
      go_simp
      try with_reducible rfl
    try simp only [Act.put, List.setIfInBounds_toArray, List.set_cons_zero, List.set_cons_succ]
    refine take_dst (i := 8) 104 (v := ?_) rfl rfl (by kernel_rfl) (by kernel_rfl) (by kernel_rfl) (fun _ _ _ h => h) (Or.inl ⟨by kernel_rfl, ?_⟩) (by assumption) ?_
    rotate_left
    · intro w hSw
      obtain ⟨s0, s1, s2⟩ := hSw
      go_simp
      try with_reducible rfl
    try simp only [Act.put, List.setIfInBounds_toArray, List.set_cons_zero, List.set_cons_succ]
    refine take_dst (i := 9) 105 (v := ?_) rfl rfl (by kernel_rfl) (by kernel_rfl) (by kernel_rfl) (fun _ _ _ h => h) (Or.inl ⟨by kernel_rfl, ?_⟩) (by assumption) ?_
    rotate_left
    · intro w hSw
      obtain ⟨s0, s1, s2⟩ := hSw
      go_simp
      try with_reducible rfl
    try simp only [Act.put, List.setIfInBounds_toArray, List.set_cons_zero, List.set_cons_succ]
    refine take_dst (i := 10) 106 (v := ?_) rfl rfl (by kernel_rfl) (by kernel_rfl) (by kernel_rfl) (fun _ _ _ h => h) (Or.inl ⟨by kernel_rfl, ?_⟩) (by assumption) ?_
    rotate_left
    · intro w hSw
      obtain ⟨s0, s1, s2⟩ := hSw
      go_simp
      try with_reducible rfl
    try simp only [Act.put, List.setIfInBounds_toArray, List.set_cons_zero, List.set_cons_succ]
    refine take_dst (i := 11) 107 (v := ?_) rfl rfl (by kernel_rfl) (by kernel_rfl) (by kernel_rfl) (fun _ _ _ h => h) (Or.inl ⟨by kernel_rfl, ?_⟩) (by assumption) ?_
    rotate_left
    · intro w hSw
      obtain ⟨s0, s1, s2⟩ := hSw
      go_simp
      try with_reducible rfl
    try simp only [Act.put, List.setIfInBounds_toArray, List.set_cons_zero, List.set_cons_succ]
    refine take_dst (i := 12) 108 (v := ?_) rfl rfl (by kernel_rfl) (by kernel_rfl) (by kernel_rfl) (fun _ _ _ h => h) (Or.inl ⟨by kernel_rfl, ?_⟩) (by assumption) ?_
    rotate_left
    · intro w hSw
      obtain ⟨s0, s1, s2⟩ := hSw
      go_simp
      try with_reducible rfl
    try simp only [Act.put, List.setIfInBounds_toArray, List.set_cons_zero, List.set_cons_succ]
    refine take_dst (i := 13) 109 (v := ?_) rfl rfl (by kernel_rfl) (by kernel_rfl) (by kernel_rfl) (fun _ _ _ h => h) (Or.inl ⟨by kernel_rfl, ?_⟩) (by assumption) ?_
    rotate_left
    · intro w hSw
      obtain ⟨s0, s1, s2⟩ := hSw
      go_simp
      try with_reducible rfl
    try simp only [Act.put, List.setIfInBounds_toArray, List.set_cons_zero, List.set_cons_succ]
    refine take_dst (i := 14) 110 (v := ?_) rfl rfl (by kernel_rfl) (by kernel_rfl) (by kernel_rfl) (fun _ _ _ h => h) (Or.inl ⟨by kernel_rfl, ?_⟩) (by assumption) ?_
    rotate_left
    · intro w hSw
      obtain ⟨s0, s1, s2⟩ := hSw
      go_simp
      try with_reducible rfl
    try simp only [Act.put, List.setIfInBounds_toArray, List.set_cons_zero, List.set_cons_succ]
    refine take_dst (i := 15) 111 (v := ?_) rfl rfl (by kernel_rfl) (by kernel_rfl) (by kernel_rfl) (fun _ _ _ h => h) (Or.inl ⟨by kernel_rfl, ?_⟩) (by assumption) ?_
    rotate_left
    · intro w hSw
      obtain ⟨s0, s1, s2⟩ := hSw
      go_simp
      try with_reducible rfl
    try simp only [Act.put, List.setIfInBounds_toArray, List.set_cons_zero, List.set_cons_succ]
    refine take_dst (i := 16) 112 (v := ?_) rfl rfl (by kernel_rfl) (by kernel_rfl) (by kernel_rfl) (fun _ _ _ h => h) (Or.inl ⟨by kernel_rfl, ?_⟩) (by assumption) ?_
    rotate_left
    · intro w hSw
      obtain ⟨s0, s1, s2⟩ := hSw
      go_simp
      try with_reducible rfl
    try simp only [Act.put, List.setIfInBounds_toArray, List.set_cons_zero, List.set_cons_succ]
    refine wpAnyH_done (by kernel_rfl) ?_ _
    try simp only [Act.put, List.setIfInBounds_toArray, List.set_cons_zero, List.set_cons_succ]
    go_wp2_with fail
    go_region_law
      (first
      | (refine step_wp (by rfl) ?_; go_simp; go_at_call 141; refine (unhide HCl _ (((unhide HR4).drewN (1 + m5)).below (Below.refl _ _).drew)).mono ?_; rintro e w2 ⟨b, rfl, ho⟩; have HO := hide ho; clear ho; have HB2 := hide (But.from_drew (unhide HO).bt); have hX2 := ((unhide HX3).below (below_drewN' (Below.refl _ _) (1 + m5)) (Nat.le_refl _)).but (unhide HB2) (by omega); have hS2 := hX2.c1; have hz2 := (unhide HB2).size; have hxl2 := hX2.lt; have hfz2 := hX2.fz)
      | (refine step_append_lies (w2.alloc (.cells #[.pointer (some ⟨b, 0, none⟩)] 61)) (by rfl) (.tmp 138) (.tmp 141) 30 (by rfl) w.heap.size 61 i _ 1 8 Tryz.underlying30 hi hz hsz1 hby rfl (by omega) (.slice none 0 0) 0 [] (by rfl) (World.ownsRow_nil _ _ _ _) ⟨w2.heap.size, 0, none⟩ 1 1 [.pointer (some ⟨b, 0, none⟩)] (by rfl) rfl ptr_new (by simp; rfl) (by omega) (by unfold maxLen; omega) (by omega) (by simp; omega) (w2.heap.size + 1) (by simp) ?_; intro g5 cap5 w5 hown5 hgr5 hat5 hlt5; have HG5 := hide hgr5; have HO5 := hide hown5; have HA5 := hide hat5; clear hgr5 hown5 hat5; have hX5 := ((unhide HG5).block wc.heap.size (by simp; omega) (by simp [Value.ownBlock])).trans (heap_old hX2); have hS3 := ExB.c1 hX5; have hxl5 := ExB.lt hX5; have hfz5 := ExB.fz hX5))
    all_goals
      have HOd := hide (show OkO w4 q B cap s T d (withinF s (E (nextT s t.to) (d + 1)) 16) b w2 from ⟨(But.of_below (below_drewN' (Below.refl _ _) (1 + m5)) (Nat.le_refl _) : But q w4 (w4.drewN (1 + m5))).trans (unhide HB2), (unhide HO).out⟩)
      have hWb := hide (show Below w2.heap.size w2 (w2.alloc (.cells #[.pointer (some ⟨b, 0, none⟩)] 61)) from (Below.refl _ _).alloc (Nat.le_refl _) _)
      have hg5 : g5 = (w2.alloc (.cells #[.pointer (some ⟨b, 0, none⟩)] 61)).heap.size := by
        rcases unhide HA5 with e | e
        · simp [Value.ownBlock] at e
        · rw [e]; simp
      have HFin := hide (catch_out (nm := .empty) (unhide HX3) (by omega) hqw hBw (unhide HB3) (unhide HOd) (unhide hWb) (unhide HG5) (unhide HO5) hg5)
      go_wp2
      go_ret
      refine ⟨wc.heap.size, rfl, ?_⟩
      rw [unhide HRR, unhide HNM, unhide HNT]
      exact unhide HFin
  · rw [show ((nextT s t.to).k == 2) = false by simpa using hk2'] at HIn
    clear hk2 hnb hk2' hrk4
    refine wp_region_held_drew (S := fun w' => w'.cell? ⟨q, 0, none⟩ = some (.slice (some ⟨B, 0, none⟩) T.length cap) ∧ w'.cell? ⟨q, 1, none⟩ = some (.int .i64 k1) ∧ True) (by kernel_rfl) ⟨c0, c1, trivial⟩ (fun hHeld => ?_)
    refine take_dst (i := 0) 96 (v := ?_) rfl rfl (by kernel_rfl) (by kernel_rfl) (by kernel_rfl) (fun _ _ _ h => h) (Or.inl ⟨by kernel_rfl, ?_⟩) (by assumption) ?_
    rotate_left
    · intro w hSw
      obtain ⟨s0, s1, s2⟩ := hSw
      go_simp
      try with_reducible rfl
    try simp only [Act.put, List.setIfInBounds_toArray, List.set_cons_zero, List.set_cons_succ]
    refine wpAnyH_ready (rs := [1]) (by kernel_rfl) (by simp) ?_
    refine AllReadyH.cons rfl (fun K hK => ?_) AllReadyH.nil
    refine step_wp (by rfl) ?_
    go_simp
    go_at_call 38
    refine (unhide HIn 1).mono ?_
    rintro e w5 ⟨rfl, m5, rfl⟩
    refine hK.out _ _ ⟨c0, c1, trivial⟩ (fun hHeld2 => ?_)
    clear hK K hHeld
    try simp only [Act.put, List.setIfInBounds_toArray, List.set_cons_zero, List.set_cons_succ]
    refine take_dst (i := 2) 98 (v := ?_) rfl rfl (by kernel_rfl) (by kernel_rfl) (by kernel_rfl) (fun _ _ _ h => h) (Or.inl ⟨by kernel_rfl, ?_⟩) (by assumption) ?_
    rotate_left
    · intro w hSw
      obtain ⟨s0, s1, s2⟩ := hSw
      go_simp
      try with_reducible rfl
    try simp only [Act.put, List.setIfInBounds_toArray, List.set_cons_zero, List.set_cons_succ]
    refine take_dst (i := 3) 99 (v := undef) rfl rfl (by kernel_rfl) (by kernel_rfl) (by kernel_rfl) (fun _ _ _ h => h) (Or.inr ⟨by kernel_rfl, rfl⟩) (by assumption) ?_
    try simp only [Act.put, List.setIfInBounds_toArray, List.set_cons_zero, List.set_cons_succ]
    refine take_dst (i := 4) 100 (v := undef) rfl rfl (by kernel_rfl) (by kernel_rfl) (by kernel_rfl) (fun _ _ _ h => h) (Or.inr ⟨by kernel_rfl, rfl⟩) (by assumption) ?_
    try simp only [Act.put, List.setIfInBounds_toArray, List.set_cons_zero, List.set_cons_succ]
    refine take_dst (i := 5) 101 (v := undef) rfl rfl (by kernel_rfl) (by kernel_rfl) (by kernel_rfl) (fun _ _ _ h => h) (Or.inr ⟨by kernel_rfl, rfl⟩) (by assumption) ?_
    try simp only [Act.put, List.setIfInBounds_toArray, List.set_cons_zero, List.set_cons_succ]
    refine take_dst (i := 6) 102 (v := undef) rfl rfl (by kernel_rfl) (by kernel_rfl) (by kernel_rfl) (fun _ _ _ h => h) (Or.inr ⟨by kernel_rfl, rfl⟩) (by assumption) ?_
    try simp only [Act.put, List.setIfInBounds_toArray, List.set_cons_zero, List.set_cons_succ]
    refine take_dst (i := 7) 103 (v := undef) rfl rfl (by kernel_rfl) (by kernel_rfl) (by kernel_rfl) (fun _ _ _ h => h) (Or.inr ⟨by kernel_rfl, rfl⟩) (by assumption) ?_
    try simp only [Act.put, List.setIfInBounds_toArray, List.set_cons_zero, List.set_cons_succ]
    refine take_dst (i := 8) 104 (v := undef) rfl rfl (by kernel_rfl) (by kernel_rfl) (by kernel_rfl) (fun _ _ _ h => h) (Or.inr ⟨by kernel_rfl, rfl⟩) (by assumption) ?_
    try simp only [Act.put, List.setIfInBounds_toArray, List.set_cons_zero, List.set_cons_succ]
    refine take_dst (i := 9) 105 (v := undef) rfl rfl (by kernel_rfl) (by kernel_rfl) (by kernel_rfl) (fun _ _ _ h => h) (Or.inr ⟨by kernel_rfl, rfl⟩) (by assumption) ?_
    try simp only [Act.put, List.setIfInBounds_toArray, List.set_cons_zero, List.set_cons_succ]
    refine take_dst (i := 10) 106 (v := undef) rfl rfl (by kernel_rfl) (by kernel_rfl) (by kernel_rfl) (fun _ _ _ h => h) (Or.inr ⟨by kernel_rfl, rfl⟩) (by assumption) ?_
    try simp only [Act.put, List.setIfInBounds_toArray, List.set_cons_zero, List.set_cons_succ]
    refine take_dst (i := 11) 107 (v := undef) rfl rfl (by kernel_rfl) (by kernel_rfl) (by kernel_rfl) (fun _ _ _ h => h) (Or.inr ⟨by kernel_rfl, rfl⟩) (by assumption) ?_
    try simp only [Act.put, List.setIfInBounds_toArray, List.set_cons_zero, List.set_cons_succ]
    refine take_dst (i := 12) 108 (v := undef) rfl rfl (by kernel_rfl) (by kernel_rfl) (by kernel_rfl) (fun _ _ _ h => h) (Or.inr ⟨by kernel_rfl, rfl⟩) (by assumption) ?_
    try simp only [Act.put, List.setIfInBounds_toArray, List.set_cons_zero, List.set_cons_succ]
    refine take_dst (i := 13) 109 (v := undef) rfl rfl (by kernel_rfl) (by kernel_rfl) (by kernel_rfl) (fun _ _ _ h => h) (Or.inr ⟨by kernel_rfl, rfl⟩) (by assumption) ?_
    try simp only [Act.put, List.setIfInBounds_toArray, List.set_cons_zero, List.set_cons_succ]
    refine take_dst (i := 14) 110 (v := undef) rfl rfl (by kernel_rfl) (by kernel_rfl) (by kernel_rfl) (fun _ _ _ h => h) (Or.inr ⟨by kernel_rfl, rfl⟩) (by assumption) ?_
    try simp only [Act.put, List.setIfInBounds_toArray, List.set_cons_zero, List.set_cons_succ]
    refine take_dst (i := 15) 111 (v := undef) rfl rfl (by kernel_rfl) (by kernel_rfl) (by kernel_rfl) (fun _ _ _ h => h) (Or.inr ⟨by kernel_rfl, rfl⟩) (by assumption) ?_
    try simp only [Act.put, List.setIfInBounds_toArray, List.set_cons_zero, List.set_cons_succ]
    refine take_dst (i := 16) 112 (v := ?_) rfl rfl (by kernel_rfl) (by kernel_rfl) (by kernel_rfl) (fun _ _ _ h => h) (Or.inl ⟨by kernel_rfl, ?_⟩) (by assumption) ?_
    rotate_left
    · intro w hSw
      obtain ⟨s0, s1, s2⟩ := hSw
      go_simp
      try with_reducible rfl
    try simp only [Act.put, List.setIfInBounds_toArray, List.set_cons_zero, List.set_cons_succ]
    refine wpAnyH_done (by kernel_rfl) ?_ _
    try simp only [Act.put, List.setIfInBounds_toArray, List.set_cons_zero, List.set_cons_succ]
    go_wp2_with fail
    go_region_law
      (first
      | (refine step_wp (by rfl) ?_; go_simp; go_at_call 141; refine (unhide HCl _ (((unhide HR4).drewN (1 + m5)).below (Below.refl _ _).drew)).mono ?_; rintro e w2 ⟨b, rfl, ho⟩; have HO := hide ho; clear ho; have HB2 := hide (But.from_drew (unhide HO).bt); have hX2 := ((unhide HX3).below (below_drewN' (Below.refl _ _) (1 + m5)) (Nat.le_refl _)).but (unhide HB2) (by omega); have hS2 := hX2.c1; have hz2 := (unhide HB2).size; have hxl2 := hX2.lt; have hfz2 := hX2.fz)
      | (refine step_append_lies (w2.alloc (.cells #[.pointer (some ⟨b, 0, none⟩)] 61)) (by rfl) (.tmp 138) (.tmp 141) 30 (by rfl) w.heap.size 61 i _ 1 8 Tryz.underlying30 hi hz hsz1 hby rfl (by omega) (.slice none 0 0) 0 [] (by rfl) (World.ownsRow_nil _ _ _ _) ⟨w2.heap.size, 0, none⟩ 1 1 [.pointer (some ⟨b, 0, none⟩)] (by rfl) rfl ptr_new (by simp; rfl) (by omega) (by unfold maxLen; omega) (by omega) (by simp; omega) (w2.heap.size + 1) (by simp) ?_; intro g5 cap5 w5 hown5 hgr5 hat5 hlt5; have HG5 := hide hgr5; have HO5 := hide hown5; have HA5 := hide hat5; clear hgr5 hown5 hat5; have hX5 := ((unhide HG5).block wc.heap.size (by simp; omega) (by simp [Value.ownBlock])).trans (heap_old hX2); have hS3 := ExB.c1 hX5; have hxl5 := ExB.lt hX5; have hfz5 := ExB.fz hX5))
    all_goals
      have HOd := hide (show OkO w4 q B cap s T d (withinF s (E (nextT s t.to) (d + 1)) 16) b w2 from ⟨(But.of_below (below_drewN' (Below.refl _ _) (1 + m5)) (Nat.le_refl _) : But q w4 (w4.drewN (1 + m5))).trans (unhide HB2), (unhide HO).out⟩)
      have hWb := hide (show Below w2.heap.size w2 (w2.alloc (.cells #[.pointer (some ⟨b, 0, none⟩)] 61)) from (Below.refl _ _).alloc (Nat.le_refl _) _)
      have hg5 : g5 = (w2.alloc (.cells #[.pointer (some ⟨b, 0, none⟩)] 61)).heap.size := by
        rcases unhide HA5 with e | e
        · simp [Value.ownBlock] at e
        · rw [e]; simp
      have HFin := hide (catch_out (nm := .empty) (unhide HX3) (by omega) hqw hBw (unhide HB3) (unhide HOd) (unhide hWb) (unhide HG5) (unhide HO5) hg5)
      go_wp2
      go_ret
      refine ⟨wc.heap.size, rfl, ?_⟩
      rw [unhide HRR, unhide HNM, unhide HNT]
      exact unhide HFin
end Go.Proofs.YtbojcemamhiodaaGreatDoor
namespace Go.Proofs.YtbojcemamhiodaaGreatDoor
open Go.RowKit
set_option linter.unusedSimpArgs false in
set_option maxRecDepth 10000 in
set_option maxHeartbeats 4000000 in
theorem single_cat1 (w : World) (q B cap : Nat) (s : ByteArray) (T : List Tk) (d : Int) (E : Tk → Int → Res) (t : Tk) (k : Nat) (hT : ChainT s T) (ht : T[k]? = some t) (hr : RS w q B cap s T k d 0 0) (h0 : 0 ≤ d) (hd : d < 12) (hF : FineE s E (d + 1)) (hC : SaidCh s q B cap T 37 E (d + 1)) (hk : t.k = 15) (hk2 : (nextT s t.to).k ≠ 16) (hnb : nmBefore s (nextT s t.to) 17 = true) :
    Calls Tryz.prog 125 #[.pointer (some ⟨q, 0, none⟩)] w (OutX w q B cap s T d (singleF s E t d)) := by
  obtain ⟨str, f, cs, hF⟩ := tok_facts hr ht
  have hkl := hF.hl
  have hkm := hF.hm
  have HTR := hide hF.tr
  have HF := hide hF
  have hzt := zeroTok
  have hk0 : (0 : Int) ≤ (k : Int) := Int.natCast_nonneg _
  have hqw := hr.lt
  have hBw := hr.tok.lt
  have hfew := hT.few
  obtain ⟨hok, h17, hnx⟩ := hT.ok k t ht
  clear hF hr
  go_enter Tryz.func125, Tryz.ntmps125
  go_upto_region 1 with fail
  go_cut [3] (fun v wc => v = .pointer (some ⟨w.heap.size, 0, none⟩) ∧ Hid (TokB wc w.heap.size (whatK t.k) str f t.from_) ∧ Hid (RS wc q B cap s T k d 0 0) ∧ Hid (Below w.heap.size w wc))
  case first =>
    refine wp_region_held_drew (S := fun w' => w'.cell? ⟨q, 0, none⟩ = some (.slice (some ⟨B, 0, none⟩) T.length cap) ∧ w'.cell? ⟨q, 1, none⟩ = some (.int .i64 k) ∧ w'.rangeAt B (k * 259) cs) (by kernel_rfl) (unhide HF).s1 (fun hHeld => ?_)
    refine wpAnyH_take (i := 0) (v := ?_) rfl (by kernel_rfl) (by kernel_rfl) (by kernel_rfl) (fun _ _ _ h => h) (Or.inl ⟨by rfl, ?_⟩) (by assumption) ?_
    rotate_left
    · intro w hSw
      obtain ⟨s0, s1, s2⟩ := hSw
      go_simp
      try with_reducible rfl
    try simp only [Act.put, List.setIfInBounds_toArray, List.set_cons_zero, List.set_cons_succ]
    refine wpAnyH_take (i := 1) (v := ?_) rfl (by kernel_rfl) (by kernel_rfl) (by kernel_rfl) (fun _ _ _ h => h) (Or.inl ⟨by rfl, ?_⟩) (by assumption) ?_
    rotate_left
    · intro w hSw
      obtain ⟨s0, s1, s2⟩ := hSw
      go_simp
      try with_reducible rfl
    try simp only [Act.put, List.setIfInBounds_toArray, List.set_cons_zero, List.set_cons_succ]
    refine wpAnyH_take (i := 2) (v := ?_) rfl (by kernel_rfl) (by kernel_rfl) (by kernel_rfl) (fun _ _ _ h => h) (Or.inl ⟨by rfl, ?_⟩) (by assumption) ?_
    rotate_left
    · intro w hSw
      obtain ⟨s0, s1, s2⟩ := hSw
      go_simp
      try with_reducible rfl
    try simp only [Act.put, List.setIfInBounds_toArray, List.set_cons_zero, List.set_cons_succ]
    refine wpAnyH_take (i := 3) (v := ?_) rfl (by kernel_rfl) (by kernel_rfl) (by kernel_rfl) (fun _ _ _ h => h) (Or.inl ⟨by rfl, ?_⟩) (by assumption) ?_
    rotate_left
    · intro w hSw
      obtain ⟨s0, s1, s2⟩ := hSw
      go_simp
      try with_reducible rfl
    try simp only [Act.put, List.setIfInBounds_toArray, List.set_cons_zero, List.set_cons_succ]
    refine wpAnyH_take (i := 4) (v := ?_) rfl (by kernel_rfl) (by kernel_rfl) (by kernel_rfl) (fun _ _ _ h => h) (Or.inl ⟨by rfl, ?_⟩) (by assumption) ?_
    rotate_left
    · intro w hSw
      obtain ⟨s0, s1, s2⟩ := hSw
      go_simp
      try with_reducible rfl
    try simp only [Act.put, List.setIfInBounds_toArray, List.set_cons_zero, List.set_cons_succ]
    refine wpAnyH_take (i := 5) (v := ?_) rfl (by kernel_rfl) (by kernel_rfl) (by kernel_rfl) (fun _ _ _ h => h) (Or.inl ⟨by rfl, ?_⟩) (by assumption) ?_
    rotate_left
    · intro w hSw
      obtain ⟨s0, s1, s2⟩ := hSw
      go_simp
      try with_reducible rfl
    try simp only [Act.put, List.setIfInBounds_toArray, List.set_cons_zero, List.set_cons_succ]
    refine wpAnyH_take (i := 6) (v := ?_) rfl (by kernel_rfl) (by kernel_rfl) (by kernel_rfl) (fun _ _ _ h => h) (Or.inl ⟨by rfl, ?_⟩) (by assumption) ?_
    rotate_left
    · intro w hSw
      obtain ⟨s0, s1, s2⟩ := hSw
      go_simp
      try with_reducible rfl
    try simp only [Act.put, List.setIfInBounds_toArray, List.set_cons_zero, List.set_cons_succ]
    refine wpAnyH_take (i := 7) (v := ?_) rfl (by kernel_rfl) (by kernel_rfl) (by kernel_rfl) (fun _ _ _ h => h) (Or.inl ⟨by rfl, ?_⟩) (by assumption) ?_
    rotate_left
    · intro w hSw
      obtain ⟨s0, s1, s2⟩ := hSw
      go_simp
      try with_reducible rfl
    try simp only [Act.put, List.setIfInBounds_toArray, List.set_cons_zero, List.set_cons_succ]
    refine wpAnyH_take (i := 8) (v := ?_) rfl (by kernel_rfl) (by kernel_rfl) (by kernel_rfl) (fun _ _ _ h => h) (Or.inl ⟨by rfl, ?_⟩) (by assumption) ?_
    rotate_left
    · intro w hSw
      obtain ⟨s0, s1, s2⟩ := hSw
      go_simp
      try with_reducible rfl
    try simp only [Act.put, List.setIfInBounds_toArray, List.set_cons_zero, List.set_cons_succ]
    refine wpAnyH_take (i := 9) (v := .agg cs.toArray) rfl (by kernel_rfl) (by kernel_rfl) (by kernel_rfl) (fun _ _ _ h => h) (yieldsIf_load_mid (by rfl) 83 (.tmp 15) (by rfl) B (k * 259) ?hx cs _ (fun w hSw => ?hs) Tryz.underlying83 (by simp [TypeDesc.isRow]) (unhide HF).hi) (by assumption) ?rst
    case hx => go_simp
    case hs => exact hSw.2.2
    case rst =>
    try simp only [Act.put, List.setIfInBounds_toArray, List.set_cons_zero, List.set_cons_succ]
    clear hHeld
    refine wpAnyH_ready (rs := [10]) (by kernel_rfl) (by simp) ?_
    refine AllReadyH.cons rfl (fun K hK => ?_) AllReadyH.nil
    go_simp
    refine hK.out _ _ (unhide HF).s2 (fun hHeld2 => ?_)
    clear hK K
    try simp only [Act.put, List.setIfInBounds_toArray, List.set_cons_zero, List.set_cons_succ]
    refine wpAnyH_ready (rs := [11]) (by kernel_rfl) (by simp) ?_
    refine AllReadyH.cons rfl (fun K hK => ?_) AllReadyH.nil
    rw [if_pos (by rfl)]
    refine wp_store_mid0 rfl _ _ _ rfl _ _ cs.toArray rfl rfl (unhide HF).th (by rw [List.size_toArray]; exact (unhide HF).hi) (all_oneCell_toArray (unhide HF).one) ?_
    refine hK.out _ _ (unhide HF).s3 (fun _ => ?_)
    clear hK K hHeld2
    refine wpAnyH_done (by kernel_rfl) ?_ _
    try simp only [Act.put, List.setIfInBounds_toArray, List.set_cons_zero, List.set_cons_succ]
    go_wp2_with fail
    go_meet
    case rel => exact ⟨rfl, (unhide HF).tok, (unhide HF).rs, (unhide HF).bel⟩
  case rest =>
  obtain ⟨rfl, HTc, HRc, HBc⟩ := hcut
  clear HF hzt
  have hcz := (unhide HBc).size
  obtain ⟨c0, c1, c2, c3, c4, cf, hqlt⟩ := five (unhide HRc).rd
  have t0 := (unhide HTc).c0
  have t1 := (unhide HTc).c1
  have tl := (unhide HTc).lt
  have hNq : w.heap.size ≠ q := by omega
  have hres : singleF s E t d = partF (namedN s (nextT s t.to)) (withinF s (E (namedT s (nextT s t.to)) (d + 1)) 16) := by
    unfold singleF catchF
    rw [if_neg (by omega), if_pos hk, if_neg (by omega), if_neg hk2]
  have e13 : ((whatK t.k).toList == [40]) = false := by rw [whatL 13 [40] (by decide +kernel) h17 (by omega)]; simp; omega
  have e15 : ((whatK t.k).toList == [123]) = true := by rw [whatL 15 [123] (by decide +kernel) h17 (by omega)]; simp; omega
  have e2 : ((whatK t.k).toList == [110, 97, 109, 101]) = false := by rw [whatL 2 [110, 97, 109, 101] (by decide +kernel) h17 (by omega)]; simp; omega
  have e4 : ((whatK t.k).toList == [119, 111, 114, 100]) = false := by rw [whatL 4 [119, 111, 114, 100] (by decide +kernel) h17 (by omega)]; simp; omega
  have e5 : ((whatK t.k).toList == [115, 101, 116]) = false := by rw [whatL 5 [115, 101, 116] (by decide +kernel) h17 (by omega)]; simp; omega
  have e12 : ((whatK t.k).toList == [46]) = false := by rw [whatL 12 [46] (by decide +kernel) h17 (by omega)]; simp; omega
  have hnx2 := hnx (by omega)
  have hlk := (List.getElem?_eq_some_iff.1 hnx2).1
  have hze := zeroExp
  have hlenE := expV_len
  have HRk := hide ((unhide HRc).setK ((k : Int) + 1))
  have HBk := hide ((But.of_below (unhide HBc) (Nat.le_refl _) : But q w wc).setCell (p := ⟨q, 1, none⟩) (.inl rfl) (.int .i64 ((k : Int) + 1)))
  have hsz : (wc.setCell ⟨q, 1, none⟩ (.int .i64 ((k : Int) + 1))).heap.size = wc.heap.size := by simp [World.setCell]
  have hd12 : (d == 12) = false := by simp; omega
  obtain ⟨hok2, h172, hnx3⟩ := hT.ok (k + 1) _ hnx2
  have hcast : ((k + 1 : Nat) : Int) = (k : Int) + 1 := by omega
  have hrk1 := unhide HRk
  rw [← hcast] at hrk1
  have HIs := hide (is_ok (whatK 16) hrk1 hnx2)
  rw [whatK_eq h172 (by omega), show ((nextT s t.to).k == 16) = false by simpa using hk2, hcast] at HIs
  have hL0 : (expV .empty (.slice none 0 0) .empty noB 0).set 0 (.string ⟨#[99, 97, 116, 99, 104]⟩) = expV ⟨#[99, 97, 116, 99, 104]⟩ (.slice none 0 0) .empty noB 0 := rfl
  obtain ⟨i, hi, hz, hsz1, hby⟩ := info_parts infoPtr
  have HRR := hide hres
  clear hk hres hrk1
  go_wp2_with fail
  go_at_call 38
  refine (unhide HIs).mono ?_
  rintro e w3 ⟨rfl, m, rfl⟩
  have HR3 := hide (((unhide HRk).drewN m).alloc (.cells (expV ⟨#[99, 97, 116, 99, 104]⟩ (.slice none 0 0) .empty noB 0).toArray 93))
  have HB3 := hide (((unhide HBk).trans (.of_below (below_drewN' (Below.refl _ _) m) (Nat.le_refl _))).alloc (.cells (expV ⟨#[99, 97, 116, 99, 104]⟩ (.slice none 0 0) .empty noB 0).toArray 93))
  have hX3 := ex_new ((wc.setCell ⟨q, 1, none⟩ (.int .i64 ((k : Int) + 1))).drewN m) ⟨#[99, 97, 116, 99, 104]⟩ (.slice none 0 0) .empty noB 0
  have hsz3 : ((wc.setCell ⟨q, 1, none⟩ (.int .i64 ((k : Int) + 1))).drewN m).heap.size = wc.heap.size := by simp [World.setCell]
  rw [hsz3] at hX3
  have HX3 := hide hX3
  clear hX3
  go_wp2_with fail
  generalize hw4 : ((wc.setCell ⟨q, 1, none⟩ (.int .i64 ((k : Int) + 1))).drewN m).alloc (.cells (expV ⟨#[99, 97, 116, 99, 104]⟩ (.slice none 0 0) .empty noB 0).toArray 93) = w4 at HR3 HB3 HX3 ⊢
  clear hw4 c0 c1 c2 c3 c4 cf hqlt t0 t1 tl HRk HBk hsz
  have hrk4 := unhide HR3
  rw [← hcast] at hrk4
  obtain ⟨k1, hk1⟩ : ∃ k1, k + 1 = k1 := ⟨_, rfl⟩
  rw [hk1] at hrk4 hnx2 hnx3
  have hk1f : k1 ≤ 1000 := by omega
  have HR4 := hide hrk4
  clear HR3 hcast hk1 hlk
  obtain ⟨c0, c1, c2, c3, c4, cf, hqlt⟩ := five hrk4.rd
  have hX4 := (unhide HX3).lt
  have cX := (unhide HX3).c1
  have cXf := (unhide HX3).fz
  have hk2' : (nextT s t.to).k = 2 := by
    unfold nmBefore at hnb
    rw [Bool.and_eq_true] at hnb
    simpa using hnb.1
  have hk17 : (nextT s (nextT s t.to).to).k = 17 := by
    unfold nmBefore at hnb
    rw [Bool.and_eq_true] at hnb
    simpa using hnb.2
  have hnx4 := hnx3 (by omega)
  obtain ⟨hok3, h173, hnx5⟩ := hT.ok (k1 + 1) _ hnx4
  have hnx6 := hnx5 (by omega)
  have hlk6 := (List.getElem?_eq_some_iff.1 hnx6).1
  obtain ⟨str1, f1, hTR1, a0, a1, a2, af, hka, hma, hBa⟩ := hrk4.cells k1 _ hnx2
  obtain ⟨str2, f2, hTR2, b0, b1, b2, bf, hkb, hmb, hBb⟩ := hrk4.cells (k1 + 1) _ hnx4
  have HIn := hide (fun n => is_ok (w := w4.drewN n) (whatK 2) (hrk4.drewN n) hnx2)
  rw [whatK_eq h172 (by omega), show ((nextT s t.to).k == 2) = true by simpa using hk2'] at HIn
  have e58 : ((whatK (nextT s (nextT s t.to).to).k).toList == [58]) = true := by rw [whatL 17 [58] (by decide +kernel) h173 (by omega)]; simpa using hk17
  have hkI : (k1 : Int) + 1 < T.length := by omega
  have hkJ : (0 : Int) ≤ (k1 : Int) + 1 := by omega
  have hwr : IntKind.i64.wrap ((k1 : Int) + 1) = (k1 : Int) + 1 := by rw [IntKind.wrap_i64]; omega
  have htn : ((k1 : Int) + 1).toNat = k1 + 1 := by omega
  have HNM := hide (show namedN s (nextT s t.to) = str1 by unfold namedN; rw [if_pos hnb, hTR1.name hk2'])
  have HNT := hide (show namedT s (nextT s t.to) = nextT s (nextT s (nextT s t.to).to).to by unfold namedT; rw [if_pos hnb])
  have HCl := hide (fun W (hW : RS W q B cap s T ((k1 : Int) + 2) d 0 0) => closed_any W q B cap s T d 16 E _ (k1 + 2) hT hnx6 (by rw [show ((k1 + 2 : Nat) : Int) = (k1 : Int) + 2 by omega]; exact hW) h0 hd (by omega) hF hC)
  clear hk2 hnb hk2' hk17 hrk4
  refine wp_region_held_drew (S := fun w' => w'.cell? ⟨q, 0, none⟩ = some (.slice (some ⟨B, 0, none⟩) T.length cap) ∧ w'.cell? ⟨q, 1, none⟩ = some (.int .i64 k1) ∧ w'.cell? ⟨B, (k1 + 1) * 259, none⟩ = some (.string (whatK (nextT s (nextT s t.to).to).k))) (by kernel_rfl) ⟨c0, c1, b0⟩ (fun hHeld => ?_)
  refine take_dst (i := 0) 96 (v := ?_) rfl rfl (by kernel_rfl) (by kernel_rfl) (by kernel_rfl) (fun _ _ _ h => h) (Or.inl ⟨by kernel_rfl, ?_⟩) (by assumption) ?_
  rotate_left
  · intro w hSw
    obtain ⟨s0, s1, s2⟩ := hSw
    go_simp
    try with_reducible rfl
  try simp only [Act.put, List.setIfInBounds_toArray, List.set_cons_zero, List.set_cons_succ]
  refine wpAnyH_ready (rs := [1]) (by kernel_rfl) (by simp) ?_
  refine AllReadyH.cons rfl (fun K hK => ?_) AllReadyH.nil
  refine step_wp (by rfl) ?_
  go_simp
  go_at_call 38
  refine (unhide HIn 1).mono ?_
  rintro e w5 ⟨rfl, m5, rfl⟩
  refine hK.out _ _ ⟨c0, c1, b0⟩ (fun hHeld2 => ?_)
  clear hK K hHeld
  try simp only [Act.put, List.setIfInBounds_toArray, List.set_cons_zero, List.set_cons_succ]
  refine take_dst (i := 2) 98 (v := ?_) rfl rfl (by kernel_rfl) (by kernel_rfl) (by kernel_rfl) (fun _ _ _ h => h) (Or.inl ⟨by kernel_rfl, ?_⟩) (by assumption) ?_
  rotate_left
  · intro w hSw
    obtain ⟨s0, s1, s2⟩ := hSw
    go_simp
    try with_reducible rfl
  try simp only [Act.put, List.setIfInBounds_toArray, List.set_cons_zero, List.set_cons_succ]
  refine take_dst (i := 3) 99 (v := ?_) rfl rfl (by kernel_rfl) (by kernel_rfl) (by kernel_rfl) (fun _ _ _ h => h) (Or.inl ⟨by kernel_rfl, ?_⟩) (by assumption) ?_
  rotate_left
  · intro w hSw
    obtain ⟨s0, s1, s2⟩ := hSw
    go_simp
    try with_reducible rfl
  try simp only [Act.put, List.setIfInBounds_toArray, List.set_cons_zero, List.set_cons_succ]
  refine take_dst (i := 4) 100 (v := ?_) rfl rfl (by kernel_rfl) (by kernel_rfl) (by kernel_rfl) (fun _ _ _ h => h) (Or.inl ⟨by kernel_rfl, ?_⟩) (by assumption) ?_
  rotate_left
  · intro w hSw
    obtain ⟨s0, s1, s2⟩ := hSw
    go_simp
    try with_reducible rfl
  try simp only [Act.put, List.setIfInBounds_toArray, List.set_cons_zero, List.set_cons_succ]
  refine take_dst (i := 5) 101 (v := ?_) rfl rfl (by kernel_rfl) (by kernel_rfl) (by kernel_rfl) (fun _ _ _ h => h) (Or.inl ⟨by kernel_rfl, ?_⟩) (by assumption) ?_
  rotate_left
  · intro w hSw
    obtain ⟨s0, s1, s2⟩ := hSw
    go_simp
    try with_reducible rfl
  try simp only [Act.put, List.setIfInBounds_toArray, List.set_cons_zero, List.set_cons_succ]
  refine take_dst (i := 6) 102 (v := ?_) rfl rfl (by kernel_rfl) (by kernel_rfl) (by kernel_rfl) (fun _ _ _ h => h) (Or.inl ⟨by kernel_rfl, ?_⟩) (by assumption) ?_
  rotate_left
  · intro w hSw
    obtain ⟨s0, s1, s2⟩ := hSw
    go_simp
    try with_reducible rfl
  try simp only [Act.put, List.setIfInBounds_toArray, List.set_cons_zero, List.set_cons_succ]
  refine take_dst (i := 7) 103 (v := ?_) rfl rfl (by kernel_rfl) (by kernel_rfl) (by kernel_rfl) (fun _ _ _ h => h) (Or.inl ⟨by kernel_rfl, ?_⟩) (by assumption) ?_
  rotate_left
  · intro w hSw
    obtain ⟨s0, s1, s2⟩ := hSw
    go_simp
    try with_reducible rfl
  try simp only [Act.put, List.setIfInBounds_toArray, List.set_cons_zero, List.set_cons_succ]
  refine take_dst (i := 8) 104 (v := ?_) rfl rfl (by kernel_rfl) (by kernel_rfl) (by kernel_rfl) (fun _ _ _ h => h) (Or.inl ⟨by kernel_rfl, ?_⟩) (by assumption) ?_
  rotate_left
  · intro w hSw
    obtain ⟨s0, s1, s2⟩ := hSw
    go_simp
    try with_reducible rfl
  try simp only [Act.put, List.setIfInBounds_toArray, List.set_cons_zero, List.set_cons_succ]
  refine take_dst (i := 9) 105 (v := ?_) rfl rfl (by kernel_rfl) (by kernel_rfl) (by kernel_rfl) (fun _ _ _ h => h) (Or.inl ⟨by kernel_rfl, ?_⟩) (by assumption) ?_
  rotate_left
  · intro w hSw
    obtain ⟨s0, s1, s2⟩ := hSw
    go_simp
    try with_reducible rfl
  try simp only [Act.put, List.setIfInBounds_toArray, List.set_cons_zero, List.set_cons_succ]
  refine take_dst (i := 10) 106 (v := ?_) rfl rfl (by kernel_rfl) (by kernel_rfl) (by kernel_rfl) (fun _ _ _ h => h) (Or.inl ⟨by kernel_rfl, ?_⟩) (by assumption) ?_
  rotate_left
  · intro w hSw
    obtain ⟨s0, s1, s2⟩ := hSw
    go_simp
    try with_reducible rfl
  try simp only [Act.put, List.setIfInBounds_toArray, List.set_cons_zero, List.set_cons_succ]
  refine take_dst (i := 11) 107 (v := ?_) rfl rfl (by kernel_rfl) (by kernel_rfl) (by kernel_rfl) (fun _ _ _ h => h) (Or.inl ⟨by kernel_rfl, ?_⟩) (by assumption) ?_
  rotate_left
  · intro w hSw
    obtain ⟨s0, s1, s2⟩ := hSw
    go_simp
    try with_reducible rfl
  try simp only [Act.put, List.setIfInBounds_toArray, List.set_cons_zero, List.set_cons_succ]
  refine take_dst (i := 12) 108 (v := ?_) rfl rfl (by kernel_rfl) (by kernel_rfl) (by kernel_rfl) (fun _ _ _ h => h) (Or.inl ⟨by kernel_rfl, ?_⟩) (by assumption) ?_
  rotate_left
  · intro w hSw
    obtain ⟨s0, s1, s2⟩ := hSw
    go_simp
    try with_reducible rfl
  try simp only [Act.put, List.setIfInBounds_toArray, List.set_cons_zero, List.set_cons_succ]
  refine take_dst (i := 13) 109 (v := ?_) rfl rfl (by kernel_rfl) (by kernel_rfl) (by kernel_rfl) (fun _ _ _ h => h) (Or.inl ⟨by kernel_rfl, ?_⟩) (by assumption) ?_
  rotate_left
  · intro w hSw
    obtain ⟨s0, s1, s2⟩ := hSw
    go_simp
    try with_reducible rfl
  try simp only [Act.put, List.setIfInBounds_toArray, List.set_cons_zero, List.set_cons_succ]
  refine take_dst (i := 14) 110 (v := ?_) rfl rfl (by kernel_rfl) (by kernel_rfl) (by kernel_rfl) (fun _ _ _ h => h) (Or.inl ⟨by kernel_rfl, ?_⟩) (by assumption) ?_
  rotate_left
  · intro w hSw
    obtain ⟨s0, s1, s2⟩ := hSw
    go_simp
    try with_reducible rfl
  try simp only [Act.put, List.setIfInBounds_toArray, List.set_cons_zero, List.set_cons_succ]
  refine take_dst (i := 15) 111 (v := ?_) rfl rfl (by kernel_rfl) (by kernel_rfl) (by kernel_rfl) (fun _ _ _ h => h) (Or.inl ⟨by kernel_rfl, ?_⟩) (by assumption) ?_
  rotate_left
  · intro w hSw
    obtain ⟨s0, s1, s2⟩ := hSw
    go_simp
    try with_reducible rfl
  try simp only [Act.put, List.setIfInBounds_toArray, List.set_cons_zero, List.set_cons_succ]
  refine take_dst (i := 16) 112 (v := ?_) rfl rfl (by kernel_rfl) (by kernel_rfl) (by kernel_rfl) (fun _ _ _ h => h) (Or.inl ⟨by kernel_rfl, ?_⟩) (by assumption) ?_
  rotate_left
  · intro w hSw
    obtain ⟨s0, s1, s2⟩ := hSw
    go_simp
    try with_reducible rfl
  try simp only [Act.put, List.setIfInBounds_toArray, List.set_cons_zero, List.set_cons_succ]
  refine wpAnyH_done (by kernel_rfl) ?_ _
  try simp only [Act.put, List.setIfInBounds_toArray, List.set_cons_zero, List.set_cons_succ]
  go_wp2_with fail
  have hr6 := ((unhide HR4).drewN (1 + m5)).below (Below.refl _ _).drew
  have hBn : wc.heap.size ≠ B := by omega
  have hr7 := hr6.set (p := ⟨wc.heap.size, 2, none⟩) (show wc.heap.size ≠ q by omega) hBn (.string str1)
  obtain ⟨p0, p1, _, _, _, _, _⟩ := five hr7.rd
  obtain ⟨str3, f3, hTR3, _, p3, _, _, _, _, _⟩ := hr7.cells k1 _ hnx2
  have e31 : str3 = str1 := by
    have h1 : ((w4.drewN (1 + m5)).drew.setCell ⟨wc.heap.size, 2, none⟩ (.string str1)).cell? ⟨B, k1 * 259 + 1, none⟩ = some (.string str1) := by
      have h2 := hr7.tok.keep (w' := w4) (by rw [Below.heap_setCell _ _ _ _ (fun e => hBn e.symm)]; rfl)
      have h3 : (w4.drewN (1 + m5)).drew.cell? ⟨B, k1 * 259 + 1, none⟩ = some (.string str1) := a1
      simp only [World.cell?] at h3 ⊢
      rw [Below.heap_setCell _ _ _ _ (fun e => hBn e.symm)]
      exact h3
    rw [p3] at h1
    simpa using h1
  rw [e31] at p3
  have HR7 := hide hr7
  have cX2 := (unhide HX3).c2
  clear hr6 hr7 hTR3 e31 str3 f3
  refine wp_region_held_drew (S := fun w' => w'.cell? ⟨q, 0, none⟩ = some (.slice (some ⟨B, 0, none⟩) T.length cap) ∧ w'.cell? ⟨q, 1, none⟩ = some (.int .i64 k1) ∧ w'.cell? ⟨B, k1 * 259 + 1, none⟩ = some (.string str1)) (by kernel_rfl) ⟨c0, c1, a1⟩ (fun hHeld => ?_)
  refine take_dst (i := 0) 113 (v := ?_) rfl rfl (by kernel_rfl) (by kernel_rfl) (by kernel_rfl) (fun _ _ _ h => h) (Or.inl ⟨by kernel_rfl, ?_⟩) (by assumption) ?_
  rotate_left
  · intro w hSw
    obtain ⟨s0, s1, s2⟩ := hSw
    go_simp
    try with_reducible rfl
  try simp only [Act.put, List.setIfInBounds_toArray, List.set_cons_zero, List.set_cons_succ]
  refine take_dst (i := 1) 114 (v := ?_) rfl rfl (by kernel_rfl) (by kernel_rfl) (by kernel_rfl) (fun _ _ _ h => h) (Or.inl ⟨by kernel_rfl, ?_⟩) (by assumption) ?_
  rotate_left
  · intro w hSw
    obtain ⟨s0, s1, s2⟩ := hSw
    go_simp
    try with_reducible rfl
  try simp only [Act.put, List.setIfInBounds_toArray, List.set_cons_zero, List.set_cons_succ]
  refine take_dst (i := 2) 115 (v := ?_) rfl rfl (by kernel_rfl) (by kernel_rfl) (by kernel_rfl) (fun _ _ _ h => h) (Or.inl ⟨by kernel_rfl, ?_⟩) (by assumption) ?_
  rotate_left
  · intro w hSw
    obtain ⟨s0, s1, s2⟩ := hSw
    go_simp
    try with_reducible rfl
  try simp only [Act.put, List.setIfInBounds_toArray, List.set_cons_zero, List.set_cons_succ]
  refine take_dst (i := 3) 116 (v := ?_) rfl rfl (by kernel_rfl) (by kernel_rfl) (by kernel_rfl) (fun _ _ _ h => h) (Or.inl ⟨by kernel_rfl, ?_⟩) (by assumption) ?_
  rotate_left
  · intro w hSw
    obtain ⟨s0, s1, s2⟩ := hSw
    go_simp
    try with_reducible rfl
  try simp only [Act.put, List.setIfInBounds_toArray, List.set_cons_zero, List.set_cons_succ]
  refine take_dst (i := 4) 117 (v := ?_) rfl rfl (by kernel_rfl) (by kernel_rfl) (by kernel_rfl) (fun _ _ _ h => h) (Or.inl ⟨by kernel_rfl, ?_⟩) (by assumption) ?_
  rotate_left
  · intro w hSw
    obtain ⟨s0, s1, s2⟩ := hSw
    go_simp
    try with_reducible rfl
  try simp only [Act.put, List.setIfInBounds_toArray, List.set_cons_zero, List.set_cons_succ]
  refine take_dst (i := 5) 118 (v := ?_) rfl rfl (by kernel_rfl) (by kernel_rfl) (by kernel_rfl) (fun _ _ _ h => h) (Or.inl ⟨by kernel_rfl, ?_⟩) (by assumption) ?_
  rotate_left
  · intro w hSw
    obtain ⟨s0, s1, s2⟩ := hSw
    go_simp
    try with_reducible rfl
  try simp only [Act.put, List.setIfInBounds_toArray, List.set_cons_zero, List.set_cons_succ]
  refine take_dst (i := 6) 119 (v := ?_) rfl rfl (by kernel_rfl) (by kernel_rfl) (by kernel_rfl) (fun _ _ _ h => h) (Or.inl ⟨by kernel_rfl, ?_⟩) (by assumption) ?_
  rotate_left
  · intro w hSw
    obtain ⟨s0, s1, s2⟩ := hSw
    go_simp
    try with_reducible rfl
  try simp only [Act.put, List.setIfInBounds_toArray, List.set_cons_zero, List.set_cons_succ]
  refine take_dst (i := 7) 120 (v := ?_) rfl rfl (by kernel_rfl) (by kernel_rfl) (by kernel_rfl) (fun _ _ _ h => h) (Or.inl ⟨by kernel_rfl, ?_⟩) (by assumption) ?_
  rotate_left
  · intro w hSw
    obtain ⟨s0, s1, s2⟩ := hSw
    go_simp
    try with_reducible rfl
  try simp only [Act.put, List.setIfInBounds_toArray, List.set_cons_zero, List.set_cons_succ]
  refine take_dst (i := 8) 121 (v := ?_) rfl rfl (by kernel_rfl) (by kernel_rfl) (by kernel_rfl) (fun _ _ _ h => h) (Or.inl ⟨by kernel_rfl, ?_⟩) (by assumption) ?_
  rotate_left
  · intro w hSw
    obtain ⟨s0, s1, s2⟩ := hSw
    go_simp
    try with_reducible rfl
  try simp only [Act.put, List.setIfInBounds_toArray, List.set_cons_zero, List.set_cons_succ]
  refine take_dst (i := 9) 122 (v := ?_) rfl rfl (by kernel_rfl) (by kernel_rfl) (by kernel_rfl) (fun _ _ _ h => h) (Or.inl ⟨by kernel_rfl, ?_⟩) (by assumption) ?_
  rotate_left
  · intro w hSw
    obtain ⟨s0, s1, s2⟩ := hSw
    go_simp
    try with_reducible rfl
  try simp only [Act.put, List.setIfInBounds_toArray, List.set_cons_zero, List.set_cons_succ]
  refine take_dst (i := 10) 123 (v := ?_) rfl rfl (by kernel_rfl) (by kernel_rfl) (by kernel_rfl) (fun _ _ _ h => h) (Or.inl ⟨by kernel_rfl, ?_⟩) (by assumption) ?_
  rotate_left
  · intro w hSw
    obtain ⟨s0, s1, s2⟩ := hSw
    go_simp
    try with_reducible rfl
  try simp only [Act.put, List.setIfInBounds_toArray, List.set_cons_zero, List.set_cons_succ]
  refine take_dst (i := 11) 124 (v := ?_) rfl rfl (by kernel_rfl) (by kernel_rfl) (by kernel_rfl) (fun _ _ _ h => h) (Or.inl ⟨by kernel_rfl, ?_⟩) (by assumption) ?_
  rotate_left
  · intro w hSw
    obtain ⟨s0, s1, s2⟩ := hSw
    go_simp
    try with_reducible rfl
  try simp only [Act.put, List.setIfInBounds_toArray, List.set_cons_zero, List.set_cons_succ]
  refine take_dst (i := 12) 125 (v := ?_) rfl rfl (by kernel_rfl) (by kernel_rfl) (by kernel_rfl) (fun _ _ _ h => h) (Or.inl ⟨by kernel_rfl, ?_⟩) (by assumption) ?_
  rotate_left
  · intro w hSw
    obtain ⟨s0, s1, s2⟩ := hSw
    go_simp
    try with_reducible rfl
  try simp only [Act.put, List.setIfInBounds_toArray, List.set_cons_zero, List.set_cons_succ]
  refine take_dst (i := 13) 126 (v := ?_) rfl rfl (by kernel_rfl) (by kernel_rfl) (by kernel_rfl) (fun _ _ _ h => h) (Or.inl ⟨by kernel_rfl, ?_⟩) (by assumption) ?_
  rotate_left
  · intro w hSw
    obtain ⟨s0, s1, s2⟩ := hSw
    go_simp
    try with_reducible rfl
  try simp only [Act.put, List.setIfInBounds_toArray, List.set_cons_zero, List.set_cons_succ]
  refine wpAnyH_ready (rs := [14]) (by kernel_rfl) (by simp) ?_
  refine AllReadyH.cons rfl (fun K hK => ?_) AllReadyH.nil
  go_simp
  refine hK.out _ _ ⟨p0, p1, p3⟩ (fun _ => ?_)
  clear hK K hHeld
  refine wpAnyH_done (by kernel_rfl) ?_ _
  try simp only [Act.put, List.setIfInBounds_toArray, List.set_cons_zero, List.set_cons_succ]
  obtain ⟨y0, y1, y2, y3, y4, yf, yl⟩ := five (unhide HR7).rd
  have HR8 := hide ((unhide HR7).setK ((k1 : Int) + 2))
  have HX8 := hide ((((unhide HX3).below (below_drewN' (Below.refl _ _) (1 + m5 + 1)) (Nat.le_refl _)).setS str1).other (p := ⟨q, 1, none⟩) (show q ≠ wc.heap.size by omega) (.int .i64 ((k1 : Int) + 2)))
  have HB8 := hide ((((unhide HB3).trans (.of_below (below_drewN' (Below.refl _ _) (1 + m5 + 1)) (Nat.le_refl _))).setCell (p := ⟨wc.heap.size, 2, none⟩) (.inr hcz) (.string str1)).setCell (p := ⟨q, 1, none⟩) (.inl rfl) (.int .i64 ((k1 : Int) + 2)))
  go_wp2_with fail
  generalize hw8 : ((w4.drewN (1 + m5 + 1)).setCell ⟨wc.heap.size, 2, none⟩ (.string str1)).setCell ⟨q, 1, none⟩ (.int .i64 ((k1 : Int) + 2)) = w8 at HX8 HB8 ⊢
  have HR9 : Hid (RS w8 q B cap s T ((k1 : Int) + 2) d 0 0) := by rw [← hw8]; exact HR8
  clear hw8 HR8 HR7 c0 c1 c2 c3 c4 cf hqlt p0 p1 p3 y0 y1 y2 y3 y4 yf yl cX cXf cX2 a0 a1 a2 af b0 b1 b2 bf hX4
  have hX4 := (unhide HX8).lt
  have cX := (unhide HX8).c1
  have cXf := (unhide HX8).fz
  go_wp2_with fail
  go_region_law
    (first
    | (refine step_wp (by rfl) ?_; go_simp; go_at_call 141; refine (unhide HCl _ ((unhide HR9).below (Below.refl _ _).drew)).mono ?_; rintro e w2 ⟨b, rfl, ho⟩; have HO := hide ho; clear ho; have HB2 := hide (But.from_drew (unhide HO).bt); have hX2 := (unhide HX8).but (unhide HB2) (by omega); have hS2 := hX2.c1; have hz2 := (unhide HB2).size; have hxl2 := hX2.lt; have hfz2 := hX2.fz)
    | (refine step_append_lies (w2.alloc (.cells #[.pointer (some ⟨b, 0, none⟩)] 61)) (by rfl) (.tmp 138) (.tmp 141) 30 (by rfl) w.heap.size 61 i _ 1 8 Tryz.underlying30 hi hz hsz1 hby rfl (by omega) (.slice none 0 0) 0 [] (by rfl) (World.ownsRow_nil _ _ _ _) ⟨w2.heap.size, 0, none⟩ 1 1 [.pointer (some ⟨b, 0, none⟩)] (by rfl) rfl ptr_new (by simp; rfl) (by omega) (by unfold maxLen; omega) (by omega) (by simp; omega) (w2.heap.size + 1) (by simp) ?_; intro g5 cap5 w5 hown5 hgr5 hat5 hlt5; have HG5 := hide hgr5; have HO5 := hide hown5; have HA5 := hide hat5; clear hgr5 hown5 hat5; have hX5 := ((unhide HG5).block wc.heap.size (by simp; omega) (by simp [Value.ownBlock])).trans (heap_old hX2); have hS3 := ExB.c1 hX5; have hxl5 := ExB.lt hX5; have hfz5 := ExB.fz hX5))
  all_goals
    have HOd := hide (show OkO w8 q B cap s T d (withinF s (E (nextT s (nextT s (nextT s t.to).to).to) (d + 1)) 16) b w2 from ⟨unhide HB2, (unhide HO).out⟩)
    have hWb := hide (show Below w2.heap.size w2 (w2.alloc (.cells #[.pointer (some ⟨b, 0, none⟩)] 61)) from (Below.refl _ _).alloc (Nat.le_refl _) _)
    have hg5 : g5 = (w2.alloc (.cells #[.pointer (some ⟨b, 0, none⟩)] 61)).heap.size := by
      rcases unhide HA5 with e | e
      · simp [Value.ownBlock] at e
      · rw [e]; simp
    have HFin := hide (catch_out (nm := str1) (unhide HX8) (by omega) hqw hBw (unhide HB8) (unhide HOd) (unhide hWb) (unhide HG5) (unhide HO5) hg5)
    go_wp2
    go_ret
    refine ⟨wc.heap.size, rfl, ?_⟩
    rw [unhide HRR, unhide HNM, unhide HNT]
    exact unhide HFin
end Go.Proofs.YtbojcemamhiodaaGreatDoor

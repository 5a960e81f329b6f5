import Derived.Test.YtbojcemamhiodaaGreatDoorSab
import Derived.Test.YtbojcemamhiodaaGreatDoorRyg
namespace Go.Proofs.YtbojcemamhiodaaGreatDoor
open Go.RowKit
/-- single, where an item without a sign ahead begins -/
theorem refSingle_any (w : World) (q B cap : Nat) (s : ByteArray) (T : List Tk) (d : Int) (E : Tk → Int → Res) (t : Tk) (k : Nat) (hT : ChainT s T) (ht : T[k]? = some t) (hr : RS w q B cap s T k d 0 0) (ha : atIt s t = true) (h7 : t.k ≠ 7) (h8 : t.k ≠ 8)
    (h0 : 0 ≤ d) (hd : d ≤ 12) (hF : d < 12 → FineE s E (d + 1)) (hC : d < 12 → SaidCh s q B cap T 37 E (d + 1)) :
    Calls Tryz.prog 125 #[.pointer (some ⟨q, 0, none⟩)] w (OutX w q B cap s T d (singleF s E t d)) := by
  have hk : t.k = 4 ∨ t.k = 5 ∨ t.k = 12 ∨ t.k = 13 ∨ t.k = 15 ∨ t.k = 2 := by
    rw [atIt_def] at ha
    simp at ha
    omega
  rcases hk with hk | hk | hk | hk | hk | hk
  · exact single_word w q B cap s T d E t k hT ht hr hk
  · exact single_set w q B cap s T d E t k hT ht hr hk
  · exact single_dot w q B cap s T d E t k hT ht hr hk
  · by_cases h12 : d = 12
    · exact single_deep13 w q B cap s T d E t k hT ht hr hk h12
    · exact single_paren w q B cap s T d E t k hT ht hr h0 (by omega) (hF (by omega)) (hC (by omega)) hk
  · by_cases h12 : d = 12
    · exact single_deep15 w q B cap s T d E t k hT ht hr hk h12
    · by_cases h16 : (nextT s t.to).k = 16
      · exact single_plc w q B cap s T d E t k hT ht hr h0 (by omega) hk h16
      · cases hn : nmBefore s (nextT s t.to) 17
        · exact single_cat0 w q B cap s T d E t k hT ht hr h0 (by omega) (hF (by omega)) (hC (by omega)) hk h16 hn
        · exact single_cat1 w q B cap s T d E t k hT ht hr h0 (by omega) (hF (by omega)) (hC (by omega)) hk h16 hn
  · exact single_name w q B cap s T d E t k hT ht hr hk
end Go.Proofs.YtbojcemamhiodaaGreatDoor
namespace Go.Proofs.YtbojcemamhiodaaGreatDoor
open Go.RowKit
/-- a node with one kid, its list in a block of its own -/
theorem wrap_out {w w1 w2 : World} {q B cap b : Nat} {s : ByteArray} {T : List Tk} {d : Int} {r R : Res} {o a : Int} (ho : 7 ≤ o ∧ o ≤ 11) (ha : 0 ≤ a) (hb0 : But q w w1) (h : OkO w1 q B cap s T d r b w2)
    (h1 : r.err = 0 → R.err = 0 ∧ R.nd = ⟨o, a, .empty, [r.nd]⟩ ∧ R.tk = r.tk) (h2 : r.err ≠ 0 → R.err = r.err ∧ R.tk = r.tk) :
    OkO w q B cap s T d R (w2.heap.size + 1) ((w2.alloc (.cells #[.pointer (some ⟨b, 0, none⟩)] 61)).alloc (.cells (expV (opW o) (.slice (some ⟨w2.heap.size, 0, none⟩) 1 1) .empty noB a).toArray 93)) := by
  have hz0 := hb0.size
  have hz := h.bt.size
  have hB2 : Below w2.heap.size w2 ((w2.alloc (.cells #[.pointer (some ⟨b, 0, none⟩)] 61)).alloc (.cells (expV (opW o) (.slice (some ⟨w2.heap.size, 0, none⟩) 1 1) .empty noB a).toArray 93)) := ((Below.refl _ _).alloc (Nat.le_refl _) _).alloc (by simp) _
  have hex := ex_new (w2.alloc (.cells #[.pointer (some ⟨b, 0, none⟩)] 61)) (opW o) (.slice (some ⟨w2.heap.size, 0, none⟩) 1 1) .empty noB a
  rw [show (w2.alloc (.cells #[.pointer (some ⟨b, 0, none⟩)] 61)).heap.size = w2.heap.size + 1 from by simp] at hex
  refine ⟨(hb0.trans h.bt).below hB2 (by omega), ?_⟩
  rcases h.out with ⟨he, x, hxb, hxt, hxo, hxn, k', hk', hr⟩ | ⟨he, kk, hr⟩
  · left
    obtain ⟨r1, r2, r3⟩ := h1 he
    refine ⟨r1, ⟨w2.heap.size + 1, o, .empty, noB, a, [x]⟩, rfl, ?_, ?_, ?_, k', by rw [r3]; exact hk', hr.below hB2⟩
    · rw [Tree_iff]
      refine ⟨by dsimp only; omega, ⟨_, hex, rfl, .inr ⟨w2.heap.size, 1, #[.pointer (some ⟨b, 0, none⟩)], rfl, by omega, heap_old (heap_alloc_new w2 _), Nat.le_refl _, by unfold maxLen; omega, rfl, ?_⟩⟩, fun y hy => ?_⟩
      · show [Value.pointer (some ⟨b, 0, none⟩)] = [ptrX x]
        unfold ptrX
        rw [hxb]
      · have hy' : y = x := by simpa using hy
        rw [hy']
        refine Tree.turn (fun j hS hl => ⟨?_, hB2.block j hl⟩) x hxt
        have hS' : w1.heap.size ≤ j := hS
        omega
    · rw [OkX_iff]
      refine ⟨by dsimp only; omega, ha, fun h => by dsimp only at h; omega, fun _ => rfl, fun h => by dsimp only at h; omega, fun h => by dsimp only at h; omega, fun y hy => ?_⟩
      have hy' : y = x := by simpa using hy
      rw [hy']
      exact hxo
    · rw [Ex.norm_else _ (by dsimp only; omega), r2, ← hxn]
      show (⟨o, a, if o = 1 then _ else _, normL [x]⟩ : Nd) = _
      rw [if_neg (by omega)]
      rfl
  · right
    obtain ⟨r1, r2⟩ := h2 he
    exact ⟨by rw [r1]; exact he, kk, by rw [r1, r2]; exact hr.below hB2⟩
end Go.Proofs.YtbojcemamhiodaaGreatDoor
namespace Go.Proofs.YtbojcemamhiodaaGreatDoor
open Go.RowKit
set_option linter.unusedSimpArgs false in
set_option maxRecDepth 10000 in
set_option maxHeartbeats 4000000 in
theorem signed_no7 (w : World) (q B cap : Nat) (s : ByteArray) (T : List Tk) (d : Int) (E : Tk → Int → Res) (t : Tk) (k : Nat) (hT : ChainT s T) (ht : T[k]? = some t) (hr : RS w q B cap s T k d 0 0) (n : Nat) (hk : t.k = 7) (ha : atIt s (nextT s t.to) = false) :
    Calls Tryz.prog 94 #[.pointer (some ⟨q, 0, none⟩)] w (OutX w q B cap s T d (itemF s E (n + 1) t d)) := by
  obtain ⟨str, f, cs, hF⟩ := tok_facts hr ht
  have hkl := hF.hl
  have hkm := hF.hm
  have HTR := hide hF.tr
  have HF := hide hF
  have hzt := zeroTok
  have hk0 : (0 : Int) ≤ (k : Int) := Int.natCast_nonneg _
  have hqw := hr.lt
  have hfew := hT.few
  obtain ⟨hok, h17, hnx⟩ := hT.ok k t ht
  clear hF hr
  go_enter Tryz.func94, Tryz.ntmps94
  go_upto_region 1 with fail
  go_cut [3] (fun v wc => v = .pointer (some ⟨w.heap.size, 0, none⟩) ∧ Hid (TokB wc w.heap.size (whatK t.k) str f t.from_) ∧ Hid (RS wc q B cap s T k d 0 0) ∧ Hid (Below w.heap.size w wc))
  case first =>
    refine wp_region_held_drew (S := fun w' => w'.cell? ⟨q, 0, none⟩ = some (.slice (some ⟨B, 0, none⟩) T.length cap) ∧ w'.cell? ⟨q, 1, none⟩ = some (.int .i64 k) ∧ w'.rangeAt B (k * 259) cs) (by kernel_rfl) (unhide HF).s1 (fun hHeld => ?_)
    refine wpAnyH_take (i := 0) (v := ?_) rfl (by kernel_rfl) (by kernel_rfl) (by kernel_rfl) (fun _ _ _ h => h) (Or.inl ⟨by rfl, ?_⟩) (by assumption) ?_
    rotate_left
    · intro w hSw
      obtain ⟨s0, s1, s2⟩ := hSw
      go_simp
      try with_reducible rfl
    try simp only [Act.put, List.setIfInBounds_toArray, List.set_cons_zero, List.set_cons_succ]
    refine wpAnyH_take (i := 1) (v := ?_) rfl (by kernel_rfl) (by kernel_rfl) (by kernel_rfl) (fun _ _ _ h => h) (Or.inl ⟨by rfl, ?_⟩) (by assumption) ?_
    rotate_left
    · intro w hSw
      obtain ⟨s0, s1, s2⟩ := hSw
      go_simp
      try with_reducible rfl
    try simp only [Act.put, List.setIfInBounds_toArray, List.set_cons_zero, List.set_cons_succ]
    refine wpAnyH_take (i := 2) (v := ?_) rfl (by kernel_rfl) (by kernel_rfl) (by kernel_rfl) (fun _ _ _ h => h) (Or.inl ⟨by rfl, ?_⟩) (by assumption) ?_
    rotate_left
    · intro w hSw
      obtain ⟨s0, s1, s2⟩ := hSw
      go_simp
      try with_reducible rfl
    try simp only [Act.put, List.setIfInBounds_toArray, List.set_cons_zero, List.set_cons_succ]
    refine wpAnyH_take (i := 3) (v := ?_) rfl (by kernel_rfl) (by kernel_rfl) (by kernel_rfl) (fun _ _ _ h => h) (Or.inl ⟨by rfl, ?_⟩) (by assumption) ?_
    rotate_left
    · intro w hSw
      obtain ⟨s0, s1, s2⟩ := hSw
      go_simp
      try with_reducible rfl
    try simp only [Act.put, List.setIfInBounds_toArray, List.set_cons_zero, List.set_cons_succ]
    refine wpAnyH_take (i := 4) (v := ?_) rfl (by kernel_rfl) (by kernel_rfl) (by kernel_rfl) (fun _ _ _ h => h) (Or.inl ⟨by rfl, ?_⟩) (by assumption) ?_
    rotate_left
    · intro w hSw
      obtain ⟨s0, s1, s2⟩ := hSw
      go_simp
      try with_reducible rfl
    try simp only [Act.put, List.setIfInBounds_toArray, List.set_cons_zero, List.set_cons_succ]
    refine wpAnyH_take (i := 5) (v := ?_) rfl (by kernel_rfl) (by kernel_rfl) (by kernel_rfl) (fun _ _ _ h => h) (Or.inl ⟨by rfl, ?_⟩) (by assumption) ?_
    rotate_left
    · intro w hSw
      obtain ⟨s0, s1, s2⟩ := hSw
      go_simp
      try with_reducible rfl
    try simp only [Act.put, List.setIfInBounds_toArray, List.set_cons_zero, List.set_cons_succ]
    refine wpAnyH_take (i := 6) (v := ?_) rfl (by kernel_rfl) (by kernel_rfl) (by kernel_rfl) (fun _ _ _ h => h) (Or.inl ⟨by rfl, ?_⟩) (by assumption) ?_
    rotate_left
    · intro w hSw
      obtain ⟨s0, s1, s2⟩ := hSw
      go_simp
      try with_reducible rfl
    try simp only [Act.put, List.setIfInBounds_toArray, List.set_cons_zero, List.set_cons_succ]
    refine wpAnyH_take (i := 7) (v := ?_) rfl (by kernel_rfl) (by kernel_rfl) (by kernel_rfl) (fun _ _ _ h => h) (Or.inl ⟨by rfl, ?_⟩) (by assumption) ?_
    rotate_left
    · intro w hSw
      obtain ⟨s0, s1, s2⟩ := hSw
      go_simp
      try with_reducible rfl
    try simp only [Act.put, List.setIfInBounds_toArray, List.set_cons_zero, List.set_cons_succ]
    refine wpAnyH_take (i := 8) (v := ?_) rfl (by kernel_rfl) (by kernel_rfl) (by kernel_rfl) (fun _ _ _ h => h) (Or.inl ⟨by rfl, ?_⟩) (by assumption) ?_
    rotate_left
    · intro w hSw
      obtain ⟨s0, s1, s2⟩ := hSw
      go_simp
      try with_reducible rfl
    try simp only [Act.put, List.setIfInBounds_toArray, List.set_cons_zero, List.set_cons_succ]
    refine wpAnyH_take (i := 9) (v := .agg cs.toArray) rfl (by kernel_rfl) (by kernel_rfl) (by kernel_rfl) (fun _ _ _ h => h) (yieldsIf_load_mid (by rfl) 83 (.tmp 13) (by rfl) B (k * 259) ?hx cs _ (fun w hSw => ?hs) Tryz.underlying83 (by simp [TypeDesc.isRow]) (unhide HF).hi) (by assumption) ?rst
    case hx => go_simp
    case hs => exact hSw.2.2
    case rst =>
    try simp only [Act.put, List.setIfInBounds_toArray, List.set_cons_zero, List.set_cons_succ]
    clear hHeld
    refine wpAnyH_ready (rs := [10]) (by kernel_rfl) (by simp) ?_
    refine AllReadyH.cons rfl (fun K hK => ?_) AllReadyH.nil
    go_simp
    refine hK.out _ _ (unhide HF).s2 (fun hHeld2 => ?_)
    clear hK K
    try simp only [Act.put, List.setIfInBounds_toArray, List.set_cons_zero, List.set_cons_succ]
    refine wpAnyH_ready (rs := [11]) (by kernel_rfl) (by simp) ?_
    refine AllReadyH.cons rfl (fun K hK => ?_) AllReadyH.nil
    rw [if_pos (by rfl)]
    refine wp_store_mid0 rfl _ _ _ rfl _ _ cs.toArray rfl rfl (unhide HF).th (by rw [List.size_toArray]; exact (unhide HF).hi) (all_oneCell_toArray (unhide HF).one) ?_
    refine hK.out _ _ (unhide HF).s3 (fun _ => ?_)
    clear hK K hHeld2
    refine wpAnyH_done (by kernel_rfl) ?_ _
    try simp only [Act.put, List.setIfInBounds_toArray, List.set_cons_zero, List.set_cons_succ]
    go_wp2_with fail
    go_meet
    case rel => exact ⟨rfl, (unhide HF).tok, (unhide HF).rs, (unhide HF).bel⟩
  case rest =>
  obtain ⟨rfl, HTc, HRc, HBc⟩ := hcut
  clear HF hzt
  have hcz := (unhide HBc).size
  obtain ⟨c0, c1, c2, c3, c4, cf, hqlt⟩ := five (unhide HRc).rd
  have t0 := (unhide HTc).c0
  have t1 := (unhide HTc).c1
  have tl := (unhide HTc).lt
  have hNq : w.heap.size ≠ q := by omega
  have hres : itemF s E (n + 1) t d = errR 2 (nextT s t.to) d := by
    rw [itemF_1 (by omega), if_neg (by simp [ha])]
  have e7 : ((whatK t.k).toList == [38]) = true := by rw [whatL 7 [38] (by decide +kernel) h17 (by omega)]; simp; omega
  have hnx2 := hnx (by omega)
  have hlk := (List.getElem?_eq_some_iff.1 hnx2).1
  have hze := zeroExp
  have hlenE := expV_len
  have hEne : ¬ expV .empty (.slice none 0 0) .empty noB 0 = [] := by unfold expV; simp
  have HRk := hide ((unhide HRc).setK ((k : Int) + 1))
  have HBk := hide ((But.of_below (unhide HBc) (Nat.le_refl _) : But q w wc).setCell (p := ⟨q, 1, none⟩) (.inl rfl) (.int .i64 ((k : Int) + 1)))
  have hcast : ((k + 1 : Nat) : Int) = (k : Int) + 1 := by omega
  have hrk1 := unhide HRk
  rw [← hcast] at hrk1
  have HIt := hide (item_ok hT hrk1 hnx2)
  rw [hcast] at HIt
  clear hrk1
  rw [ha] at HIt
  have hL0 : (expV .empty (.slice none 0 0) .empty noB 0).set 0 (.string ⟨#[114, 111, 119]⟩) = expV ⟨#[114, 111, 119]⟩ (.slice none 0 0) .empty noB 0 := rfl
  have HRR := hide hres
  clear hk ha hres
  go_wp2_with fail
  go_at_call 93
  refine (unhide HIt).mono ?_
  rintro e w3 ⟨rfl, hb3⟩
  have hr3 := (unhide HRk).below hb3
  have HB3 := hide ((unhide HBk).trans (.of_below hb3 (Nat.le_refl _)))
  rw [← hcast] at hr3
  have HWr := hide (wrong_ok 2 hr3 hnx2)
  clear hb3 hr3
  go_wp2_with fail
  go_at_call 39
  refine (unhide HWr).mono ?_
  rintro e w4 ⟨rfl, hrs4, hb4⟩
  have HR4 := hide hrs4
  have HB4 := hide ((unhide HB3).trans hb4)
  clear hrs4 hb4
  go_wp2
  go_ret
  refine ⟨_, rfl, err_out (k' := ((k + 1 : Nat) : Int)) (unhide HB4) ?_ ?_ _ _⟩
  · rw [unhide HRR]; show (2 : Int) ≠ 0; omega
  · rw [unhide HRR]; exact unhide HR4
set_option linter.unusedSimpArgs false in
set_option maxRecDepth 10000 in
set_option maxHeartbeats 4000000 in
theorem signed_no8 (w : World) (q B cap : Nat) (s : ByteArray) (T : List Tk) (d : Int) (E : Tk → Int → Res) (t : Tk) (k : Nat) (hT : ChainT s T) (ht : T[k]? = some t) (hr : RS w q B cap s T k d 0 0) (n : Nat) (hk : t.k = 8) (ha : atIt s (nextT s t.to) = false) :
    Calls Tryz.prog 94 #[.pointer (some ⟨q, 0, none⟩)] w (OutX w q B cap s T d (itemF s E (n + 1) t d)) := by
  obtain ⟨str, f, cs, hF⟩ := tok_facts hr ht
  have hkl := hF.hl
  have hkm := hF.hm
  have HTR := hide hF.tr
  have HF := hide hF
  have hzt := zeroTok
  have hk0 : (0 : Int) ≤ (k : Int) := Int.natCast_nonneg _
  have hqw := hr.lt
  have hfew := hT.few
  obtain ⟨hok, h17, hnx⟩ := hT.ok k t ht
  clear hF hr
  go_enter Tryz.func94, Tryz.ntmps94
  go_upto_region 1 with fail
  go_cut [3] (fun v wc => v = .pointer (some ⟨w.heap.size, 0, none⟩) ∧ Hid (TokB wc w.heap.size (whatK t.k) str f t.from_) ∧ Hid (RS wc q B cap s T k d 0 0) ∧ Hid (Below w.heap.size w wc))
  case first =>
    refine wp_region_held_drew (S := fun w' => w'.cell? ⟨q, 0, none⟩ = some (.slice (some ⟨B, 0, none⟩) T.length cap) ∧ w'.cell? ⟨q, 1, none⟩ = some (.int .i64 k) ∧ w'.rangeAt B (k * 259) cs) (by kernel_rfl) (unhide HF).s1 (fun hHeld => ?_)
    refine wpAnyH_take (i := 0) (v := ?_) rfl (by kernel_rfl) (by kernel_rfl) (by kernel_rfl) (fun _ _ _ h => h) (Or.inl ⟨by rfl, ?_⟩) (by assumption) ?_
    rotate_left
    · intro w hSw
      obtain ⟨s0, s1, s2⟩ := hSw
      go_simp
      try with_reducible rfl
    try simp only [Act.put, List.setIfInBounds_toArray, List.set_cons_zero, List.set_cons_succ]
    refine wpAnyH_take (i := 1) (v := ?_) rfl (by kernel_rfl) (by kernel_rfl) (by kernel_rfl) (fun _ _ _ h => h) (Or.inl ⟨by rfl, ?_⟩) (by assumption) ?_
    rotate_left
    · intro w hSw
      obtain ⟨s0, s1, s2⟩ := hSw
      go_simp
      try with_reducible rfl
    try simp only [Act.put, List.setIfInBounds_toArray, List.set_cons_zero, List.set_cons_succ]
    refine wpAnyH_take (i := 2) (v := ?_) rfl (by kernel_rfl) (by kernel_rfl) (by kernel_rfl) (fun _ _ _ h => h) (Or.inl ⟨by rfl, ?_⟩) (by assumption) ?_
    rotate_left
    · intro w hSw
      obtain ⟨s0, s1, s2⟩ := hSw
      go_simp
      try with_reducible rfl
    try simp only [Act.put, List.setIfInBounds_toArray, List.set_cons_zero, List.set_cons_succ]
    refine wpAnyH_take (i := 3) (v := ?_) rfl (by kernel_rfl) (by kernel_rfl) (by kernel_rfl) (fun _ _ _ h => h) (Or.inl ⟨by rfl, ?_⟩) (by assumption) ?_
    rotate_left
    · intro w hSw
      obtain ⟨s0, s1, s2⟩ := hSw
      go_simp
      try with_reducible rfl
    try simp only [Act.put, List.setIfInBounds_toArray, List.set_cons_zero, List.set_cons_succ]
    refine wpAnyH_take (i := 4) (v := ?_) rfl (by kernel_rfl) (by kernel_rfl) (by kernel_rfl) (fun _ _ _ h => h) (Or.inl ⟨by rfl, ?_⟩) (by assumption) ?_
    rotate_left
    · intro w hSw
      obtain ⟨s0, s1, s2⟩ := hSw
      go_simp
      try with_reducible rfl
    try simp only [Act.put, List.setIfInBounds_toArray, List.set_cons_zero, List.set_cons_succ]
    refine wpAnyH_take (i := 5) (v := ?_) rfl (by kernel_rfl) (by kernel_rfl) (by kernel_rfl) (fun _ _ _ h => h) (Or.inl ⟨by rfl, ?_⟩) (by assumption) ?_
    rotate_left
    · intro w hSw
      obtain ⟨s0, s1, s2⟩ := hSw
      go_simp
      try with_reducible rfl
    try simp only [Act.put, List.setIfInBounds_toArray, List.set_cons_zero, List.set_cons_succ]
    refine wpAnyH_take (i := 6) (v := ?_) rfl (by kernel_rfl) (by kernel_rfl) (by kernel_rfl) (fun _ _ _ h => h) (Or.inl ⟨by rfl, ?_⟩) (by assumption) ?_
    rotate_left
    · intro w hSw
      obtain ⟨s0, s1, s2⟩ := hSw
      go_simp
      try with_reducible rfl
    try simp only [Act.put, List.setIfInBounds_toArray, List.set_cons_zero, List.set_cons_succ]
    refine wpAnyH_take (i := 7) (v := ?_) rfl (by kernel_rfl) (by kernel_rfl) (by kernel_rfl) (fun _ _ _ h => h) (Or.inl ⟨by rfl, ?_⟩) (by assumption) ?_
    rotate_left
    · intro w hSw
      obtain ⟨s0, s1, s2⟩ := hSw
      go_simp
      try with_reducible rfl
    try simp only [Act.put, List.setIfInBounds_toArray, List.set_cons_zero, List.set_cons_succ]
    refine wpAnyH_take (i := 8) (v := ?_) rfl (by kernel_rfl) (by kernel_rfl) (by kernel_rfl) (fun _ _ _ h => h) (Or.inl ⟨by rfl, ?_⟩) (by assumption) ?_
    rotate_left
    · intro w hSw
      obtain ⟨s0, s1, s2⟩ := hSw
      go_simp
      try with_reducible rfl
    try simp only [Act.put, List.setIfInBounds_toArray, List.set_cons_zero, List.set_cons_succ]
    refine wpAnyH_take (i := 9) (v := .agg cs.toArray) rfl (by kernel_rfl) (by kernel_rfl) (by kernel_rfl) (fun _ _ _ h => h) (yieldsIf_load_mid (by rfl) 83 (.tmp 13) (by rfl) B (k * 259) ?hx cs _ (fun w hSw => ?hs) Tryz.underlying83 (by simp [TypeDesc.isRow]) (unhide HF).hi) (by assumption) ?rst
    case hx => go_simp
    case hs => exact hSw.2.2
    case rst =>
    try simp only [Act.put, List.setIfInBounds_toArray, List.set_cons_zero, List.set_cons_succ]
    clear hHeld
    refine wpAnyH_ready (rs := [10]) (by kernel_rfl) (by simp) ?_
    refine AllReadyH.cons rfl (fun K hK => ?_) AllReadyH.nil
    go_simp
    refine hK.out _ _ (unhide HF).s2 (fun hHeld2 => ?_)
    clear hK K
    try simp only [Act.put, List.setIfInBounds_toArray, List.set_cons_zero, List.set_cons_succ]
    refine wpAnyH_ready (rs := [11]) (by kernel_rfl) (by simp) ?_
    refine AllReadyH.cons rfl (fun K hK => ?_) AllReadyH.nil
    rw [if_pos (by rfl)]
    refine wp_store_mid0 rfl _ _ _ rfl _ _ cs.toArray rfl rfl (unhide HF).th (by rw [List.size_toArray]; exact (unhide HF).hi) (all_oneCell_toArray (unhide HF).one) ?_
    refine hK.out _ _ (unhide HF).s3 (fun _ => ?_)
    clear hK K hHeld2
    refine wpAnyH_done (by kernel_rfl) ?_ _
    try simp only [Act.put, List.setIfInBounds_toArray, List.set_cons_zero, List.set_cons_succ]
    go_wp2_with fail
    go_meet
    case rel => exact ⟨rfl, (unhide HF).tok, (unhide HF).rs, (unhide HF).bel⟩
  case rest =>
  obtain ⟨rfl, HTc, HRc, HBc⟩ := hcut
  clear HF hzt
  have hcz := (unhide HBc).size
  obtain ⟨c0, c1, c2, c3, c4, cf, hqlt⟩ := five (unhide HRc).rd
  have t0 := (unhide HTc).c0
  have t1 := (unhide HTc).c1
  have tl := (unhide HTc).lt
  have hNq : w.heap.size ≠ q := by omega
  have hres : itemF s E (n + 1) t d = errR 2 (nextT s t.to) d := by
    rw [itemF_1 (by omega), if_neg (by simp [ha])]
  have e7 : ((whatK t.k).toList == [38]) = false := by rw [whatL 7 [38] (by decide +kernel) h17 (by omega)]; simp; omega
  have e8 : ((whatK t.k).toList == [33]) = true := by rw [whatL 8 [33] (by decide +kernel) h17 (by omega)]; simp; omega
  have hnx2 := hnx (by omega)
  have hlk := (List.getElem?_eq_some_iff.1 hnx2).1
  have hze := zeroExp
  have hlenE := expV_len
  have hEne : ¬ expV .empty (.slice none 0 0) .empty noB 0 = [] := by unfold expV; simp
  have HRk := hide ((unhide HRc).setK ((k : Int) + 1))
  have HBk := hide ((But.of_below (unhide HBc) (Nat.le_refl _) : But q w wc).setCell (p := ⟨q, 1, none⟩) (.inl rfl) (.int .i64 ((k : Int) + 1)))
  have hcast : ((k + 1 : Nat) : Int) = (k : Int) + 1 := by omega
  have hrk1 := unhide HRk
  rw [← hcast] at hrk1
  have HIt := hide (item_ok hT hrk1 hnx2)
  rw [hcast] at HIt
  clear hrk1
  rw [ha] at HIt
  have hL0 : (expV .empty (.slice none 0 0) .empty noB 0).set 0 (.string ⟨#[114, 111, 119]⟩) = expV ⟨#[114, 111, 119]⟩ (.slice none 0 0) .empty noB 0 := rfl
  have HRR := hide hres
  clear hk ha hres
  go_wp2_with fail
  go_at_call 93
  refine (unhide HIt).mono ?_
  rintro e w3 ⟨rfl, hb3⟩
  have hr3 := (unhide HRk).below hb3
  have HB3 := hide ((unhide HBk).trans (.of_below hb3 (Nat.le_refl _)))
  rw [← hcast] at hr3
  have HWr := hide (wrong_ok 2 hr3 hnx2)
  clear hb3 hr3
  go_wp2_with fail
  go_at_call 39
  refine (unhide HWr).mono ?_
  rintro e w4 ⟨rfl, hrs4, hb4⟩
  have HR4 := hide hrs4
  have HB4 := hide ((unhide HB3).trans hb4)
  clear hrs4 hb4
  go_wp2
  go_ret
  refine ⟨_, rfl, err_out (k' := ((k + 1 : Nat) : Int)) (unhide HB4) ?_ ?_ _ _⟩
  · rw [unhide HRR]; show (2 : Int) ≠ 0; omega
  · rw [unhide HRR]; exact unhide HR4
end Go.Proofs.YtbojcemamhiodaaGreatDoor
namespace Go.Proofs.YtbojcemamhiodaaGreatDoor
open Go.RowKit
set_option linter.unusedSimpArgs false in
set_option maxRecDepth 10000 in
set_option maxHeartbeats 4000000 in
theorem signed_look7 (w : World) (q B cap : Nat) (s : ByteArray) (T : List Tk) (d : Int) (E : Tk → Int → Res) (t : Tk) (k : Nat) (hT : ChainT s T) (ht : T[k]? = some t) (hr : RS w q B cap s T k d 0 0) (n : Nat) (hk : t.k = 7) (ha : atIt s (nextT s t.to) = true) (hI : ∀ W, RS W q B cap s T ((k : Int) + 1) d 0 0 → Calls Tryz.prog 94 #[.pointer (some ⟨q, 0, none⟩)] W (OutX W q B cap s T d (itemF s E n (nextT s t.to) d))) :
    Calls Tryz.prog 94 #[.pointer (some ⟨q, 0, none⟩)] w (OutX w q B cap s T d (itemF s E (n + 1) t d)) := by
  obtain ⟨str, f, cs, hF⟩ := tok_facts hr ht
  have hkl := hF.hl
  have hkm := hF.hm
  have HTR := hide hF.tr
  have HF := hide hF
  have hzt := zeroTok
  have hk0 : (0 : Int) ≤ (k : Int) := Int.natCast_nonneg _
  have hqw := hr.lt
  have hfew := hT.few
  obtain ⟨hok, h17, hnx⟩ := hT.ok k t ht
  clear hF hr
  go_enter Tryz.func94, Tryz.ntmps94
  go_upto_region 1 with fail
  go_cut [3] (fun v wc => v = .pointer (some ⟨w.heap.size, 0, none⟩) ∧ Hid (TokB wc w.heap.size (whatK t.k) str f t.from_) ∧ Hid (RS wc q B cap s T k d 0 0) ∧ Hid (Below w.heap.size w wc))
  case first =>
    refine wp_region_held_drew (S := fun w' => w'.cell? ⟨q, 0, none⟩ = some (.slice (some ⟨B, 0, none⟩) T.length cap) ∧ w'.cell? ⟨q, 1, none⟩ = some (.int .i64 k) ∧ w'.rangeAt B (k * 259) cs) (by kernel_rfl) (unhide HF).s1 (fun hHeld => ?_)
    refine wpAnyH_take (i := 0) (v := ?_) rfl (by kernel_rfl) (by kernel_rfl) (by kernel_rfl) (fun _ _ _ h => h) (Or.inl ⟨by rfl, ?_⟩) (by assumption) ?_
    rotate_left
    · intro w hSw
      obtain ⟨s0, s1, s2⟩ := hSw
      go_simp
      try with_reducible rfl
    try simp only [Act.put, List.setIfInBounds_toArray, List.set_cons_zero, List.set_cons_succ]
    refine wpAnyH_take (i := 1) (v := ?_) rfl (by kernel_rfl) (by kernel_rfl) (by kernel_rfl) (fun _ _ _ h => h) (Or.inl ⟨by rfl, ?_⟩) (by assumption) ?_
    rotate_left
    · intro w hSw
      obtain ⟨s0, s1, s2⟩ := hSw
      go_simp
      try with_reducible rfl
    try simp only [Act.put, List.setIfInBounds_toArray, List.set_cons_zero, List.set_cons_succ]
    refine wpAnyH_take (i := 2) (v := ?_) rfl (by kernel_rfl) (by kernel_rfl) (by kernel_rfl) (fun _ _ _ h => h) (Or.inl ⟨by rfl, ?_⟩) (by assumption) ?_
    rotate_left
    · intro w hSw
      obtain ⟨s0, s1, s2⟩ := hSw
      go_simp
      try with_reducible rfl
    try simp only [Act.put, List.setIfInBounds_toArray, List.set_cons_zero, List.set_cons_succ]
    refine wpAnyH_take (i := 3) (v := ?_) rfl (by kernel_rfl) (by kernel_rfl) (by kernel_rfl) (fun _ _ _ h => h) (Or.inl ⟨by rfl, ?_⟩) (by assumption) ?_
    rotate_left
    · intro w hSw
      obtain ⟨s0, s1, s2⟩ := hSw
      go_simp
      try with_reducible rfl
    try simp only [Act.put, List.setIfInBounds_toArray, List.set_cons_zero, List.set_cons_succ]
    refine wpAnyH_take (i := 4) (v := ?_) rfl (by kernel_rfl) (by kernel_rfl) (by kernel_rfl) (fun _ _ _ h => h) (Or.inl ⟨by rfl, ?_⟩) (by assumption) ?_
    rotate_left
    · intro w hSw
      obtain ⟨s0, s1, s2⟩ := hSw
      go_simp
      try with_reducible rfl
    try simp only [Act.put, List.setIfInBounds_toArray, List.set_cons_zero, List.set_cons_succ]
    refine wpAnyH_take (i := 5) (v := ?_) rfl (by kernel_rfl) (by kernel_rfl) (by kernel_rfl) (fun _ _ _ h => h) (Or.inl ⟨by rfl, ?_⟩) (by assumption) ?_
    rotate_left
    · intro w hSw
      obtain ⟨s0, s1, s2⟩ := hSw
      go_simp
      try with_reducible rfl
    try simp only [Act.put, List.setIfInBounds_toArray, List.set_cons_zero, List.set_cons_succ]
    refine wpAnyH_take (i := 6) (v := ?_) rfl (by kernel_rfl) (by kernel_rfl) (by kernel_rfl) (fun _ _ _ h => h) (Or.inl ⟨by rfl, ?_⟩) (by assumption) ?_
    rotate_left
    · intro w hSw
      obtain ⟨s0, s1, s2⟩ := hSw
      go_simp
      try with_reducible rfl
    try simp only [Act.put, List.setIfInBounds_toArray, List.set_cons_zero, List.set_cons_succ]
    refine wpAnyH_take (i := 7) (v := ?_) rfl (by kernel_rfl) (by kernel_rfl) (by kernel_rfl) (fun _ _ _ h => h) (Or.inl ⟨by rfl, ?_⟩) (by assumption) ?_
    rotate_left
    · intro w hSw
      obtain ⟨s0, s1, s2⟩ := hSw
      go_simp
      try with_reducible rfl
    try simp only [Act.put, List.setIfInBounds_toArray, List.set_cons_zero, List.set_cons_succ]
    refine wpAnyH_take (i := 8) (v := ?_) rfl (by kernel_rfl) (by kernel_rfl) (by kernel_rfl) (fun _ _ _ h => h) (Or.inl ⟨by rfl, ?_⟩) (by assumption) ?_
    rotate_left
    · intro w hSw
      obtain ⟨s0, s1, s2⟩ := hSw
      go_simp
      try with_reducible rfl
    try simp only [Act.put, List.setIfInBounds_toArray, List.set_cons_zero, List.set_cons_succ]
    refine wpAnyH_take (i := 9) (v := .agg cs.toArray) rfl (by kernel_rfl) (by kernel_rfl) (by kernel_rfl) (fun _ _ _ h => h) (yieldsIf_load_mid (by rfl) 83 (.tmp 13) (by rfl) B (k * 259) ?hx cs _ (fun w hSw => ?hs) Tryz.underlying83 (by simp [TypeDesc.isRow]) (unhide HF).hi) (by assumption) ?rst
    case hx => go_simp
    case hs => exact hSw.2.2
    case rst =>
    try simp only [Act.put, List.setIfInBounds_toArray, List.set_cons_zero, List.set_cons_succ]
    clear hHeld
    refine wpAnyH_ready (rs := [10]) (by kernel_rfl) (by simp) ?_
    refine AllReadyH.cons rfl (fun K hK => ?_) AllReadyH.nil
    go_simp
    refine hK.out _ _ (unhide HF).s2 (fun hHeld2 => ?_)
    clear hK K
    try simp only [Act.put, List.setIfInBounds_toArray, List.set_cons_zero, List.set_cons_succ]
    refine wpAnyH_ready (rs := [11]) (by kernel_rfl) (by simp) ?_
    refine AllReadyH.cons rfl (fun K hK => ?_) AllReadyH.nil
    rw [if_pos (by rfl)]
    refine wp_store_mid0 rfl _ _ _ rfl _ _ cs.toArray rfl rfl (unhide HF).th (by rw [List.size_toArray]; exact (unhide HF).hi) (all_oneCell_toArray (unhide HF).one) ?_
    refine hK.out _ _ (unhide HF).s3 (fun _ => ?_)
    clear hK K hHeld2
    refine wpAnyH_done (by kernel_rfl) ?_ _
    try simp only [Act.put, List.setIfInBounds_toArray, List.set_cons_zero, List.set_cons_succ]
    go_wp2_with fail
    go_meet
    case rel => exact ⟨rfl, (unhide HF).tok, (unhide HF).rs, (unhide HF).bel⟩
  case rest =>
  obtain ⟨rfl, HTc, HRc, HBc⟩ := hcut
  clear HF hzt
  have hcz := (unhide HBc).size
  obtain ⟨c0, c1, c2, c3, c4, cf, hqlt⟩ := five (unhide HRc).rd
  have t0 := (unhide HTc).c0
  have t1 := (unhide HTc).c1
  have tl := (unhide HTc).lt
  have hNq : w.heap.size ≠ q := by omega
  have hres : itemF s E (n + 1) t d = lookF t.k (itemF s E n (nextT s t.to) d) := by
    rw [itemF_1 (by omega), if_pos ha]
  have e7 : ((whatK t.k).toList == [38]) = true := by rw [whatL 7 [38] (by decide +kernel) h17 (by omega)]; simp; omega
  have hnx2 := hnx (by omega)
  have hlk := (List.getElem?_eq_some_iff.1 hnx2).1
  have hze := zeroExp
  have hlenE := expV_len
  have hEne : ¬ expV .empty (.slice none 0 0) .empty noB 0 = [] := by unfold expV; simp
  have HRk := hide ((unhide HRc).setK ((k : Int) + 1))
  have HBk := hide ((But.of_below (unhide HBc) (Nat.le_refl _) : But q w wc).setCell (p := ⟨q, 1, none⟩) (.inl rfl) (.int .i64 ((k : Int) + 1)))
  have hcast : ((k + 1 : Nat) : Int) = (k : Int) + 1 := by omega
  have hrk1 := unhide HRk
  rw [← hcast] at hrk1
  have HIt := hide (item_ok hT hrk1 hnx2)
  rw [hcast] at HIt
  clear hrk1
  rw [ha] at HIt
  have hL0 : ∀ x v, ((expV .empty (.slice none 0 0) .empty noB 0).set 0 (.string x)).set 1 v = expV x v .empty noB 0 := fun _ _ => rfl
  have HRR := hide hres
  have HI := hide hI
  have Hk := hide hk
  generalize hrr : itemF s E n (nextT s t.to) d = r at HI HRR
  clear hk ha hres hI hrr
  go_wp2_with fail
  go_at_call 93
  refine (unhide HIt).mono ?_
  rintro e w3 ⟨rfl, hb3⟩
  have HR3 := hide ((unhide HRk).below hb3)
  have HB3 := hide ((unhide HBk).trans (.of_below hb3 (Nat.le_refl _)))
  have HT3 := hide (((unhide HTc).other (p := ⟨q, 1, none⟩) (show q ≠ w.heap.size by omega) (.int .i64 ((k : Int) + 1))).below hb3 (Nat.le_refl _))
  clear hb3 t0 t1 tl
  have t0 := (unhide HT3).c0
  have tl := (unhide HT3).lt
  go_wp2_with fail
  go_region_law
    (first | (refine step_wp (by rfl) ?_; go_simp; go_at_call 94; refine (unhide HI _ ((unhide HR3).below (Below.refl _ _).drew)).mono ?_; rintro e w2 ⟨b, rfl, ho⟩; have HO := hide ho; clear ho; have HB2 := hide (But.from_drew (unhide HO).bt); have hS2 := TokB.c0 (((unhide HB2).block w.heap.size tl hNq).trans (unhide HT3)); have hz2 := (unhide HB2).size; have hlt2 : w.heap.size < w2.heap.size := by omega))
  all_goals
    have HFin := hide (wrap_out (R := itemF s E (n + 1) t d) (o := 7) (a := 0) (by omega) (by omega) (unhide HB3) (show OkO w3 q B cap s T d r b w2 from ⟨unhide HB2, (unhide HO).out⟩) (fun he => by rw [unhide HRR]; unfold lookF; rw [if_neg (by omega), unhide Hk]; exact ⟨rfl, rfl, rfl⟩) (fun he => by rw [unhide HRR]; unfold lookF; rw [if_pos he]; exact ⟨rfl, rfl⟩))
    have hop : whatK t.k = opW 7 := by rw [unhide Hk]; rfl
    have HOp := hide hop
    clear hop
    go_wp2
    go_ret
    rw [unhide HOp]
    exact ⟨_, rfl, unhide HFin⟩
set_option linter.unusedSimpArgs false in
set_option maxRecDepth 10000 in
set_option maxHeartbeats 4000000 in
theorem signed_look8 (w : World) (q B cap : Nat) (s : ByteArray) (T : List Tk) (d : Int) (E : Tk → Int → Res) (t : Tk) (k : Nat) (hT : ChainT s T) (ht : T[k]? = some t) (hr : RS w q B cap s T k d 0 0) (n : Nat) (hk : t.k = 8) (ha : atIt s (nextT s t.to) = true) (hI : ∀ W, RS W q B cap s T ((k : Int) + 1) d 0 0 → Calls Tryz.prog 94 #[.pointer (some ⟨q, 0, none⟩)] W (OutX W q B cap s T d (itemF s E n (nextT s t.to) d))) :
    Calls Tryz.prog 94 #[.pointer (some ⟨q, 0, none⟩)] w (OutX w q B cap s T d (itemF s E (n + 1) t d)) := by
  obtain ⟨str, f, cs, hF⟩ := tok_facts hr ht
  have hkl := hF.hl
  have hkm := hF.hm
  have HTR := hide hF.tr
  have HF := hide hF
  have hzt := zeroTok
  have hk0 : (0 : Int) ≤ (k : Int) := Int.natCast_nonneg _
  have hqw := hr.lt
  have hfew := hT.few
  obtain ⟨hok, h17, hnx⟩ := hT.ok k t ht
  clear hF hr
  go_enter Tryz.func94, Tryz.ntmps94
  go_upto_region 1 with fail
  go_cut [3] (fun v wc => v = .pointer (some ⟨w.heap.size, 0, none⟩) ∧ Hid (TokB wc w.heap.size (whatK t.k) str f t.from_) ∧ Hid (RS wc q B cap s T k d 0 0) ∧ Hid (Below w.heap.size w wc))
  case first =>
    refine wp_region_held_drew (S := fun w' => w'.cell? ⟨q, 0, none⟩ = some (.slice (some ⟨B, 0, none⟩) T.length cap) ∧ w'.cell? ⟨q, 1, none⟩ = some (.int .i64 k) ∧ w'.rangeAt B (k * 259) cs) (by kernel_rfl) (unhide HF).s1 (fun hHeld => ?_)
    refine wpAnyH_take (i := 0) (v := ?_) rfl (by kernel_rfl) (by kernel_rfl) (by kernel_rfl) (fun _ _ _ h => h) (Or.inl ⟨by rfl, ?_⟩) (by assumption) ?_
    rotate_left
    · intro w hSw
      obtain ⟨s0, s1, s2⟩ := hSw
      go_simp
      try with_reducible rfl
    try simp only [Act.put, List.setIfInBounds_toArray, List.set_cons_zero, List.set_cons_succ]
    refine wpAnyH_take (i := 1) (v := ?_) rfl (by kernel_rfl) (by kernel_rfl) (by kernel_rfl) (fun _ _ _ h => h) (Or.inl ⟨by rfl, ?_⟩) (by assumption) ?_
    rotate_left
    · intro w hSw
      obtain ⟨s0, s1, s2⟩ := hSw
      go_simp
      try with_reducible rfl
    try simp only [Act.put, List.setIfInBounds_toArray, List.set_cons_zero, List.set_cons_succ]
    refine wpAnyH_take (i := 2) (v := ?_) rfl (by kernel_rfl) (by kernel_rfl) (by kernel_rfl) (fun _ _ _ h => h) (Or.inl ⟨by rfl, ?_⟩) (by assumption) ?_
    rotate_left
    · intro w hSw
      obtain ⟨s0, s1, s2⟩ := hSw
      go_simp
      try with_reducible rfl
    try simp only [Act.put, List.setIfInBounds_toArray, List.set_cons_zero, List.set_cons_succ]
    refine wpAnyH_take (i := 3) (v := ?_) rfl (by kernel_rfl) (by kernel_rfl) (by kernel_rfl) (fun _ _ _ h => h) (Or.inl ⟨by rfl, ?_⟩) (by assumption) ?_
    rotate_left
    · intro w hSw
      obtain ⟨s0, s1, s2⟩ := hSw
      go_simp
      try with_reducible rfl
    try simp only [Act.put, List.setIfInBounds_toArray, List.set_cons_zero, List.set_cons_succ]
    refine wpAnyH_take (i := 4) (v := ?_) rfl (by kernel_rfl) (by kernel_rfl) (by kernel_rfl) (fun _ _ _ h => h) (Or.inl ⟨by rfl, ?_⟩) (by assumption) ?_
    rotate_left
    · intro w hSw
      obtain ⟨s0, s1, s2⟩ := hSw
      go_simp
      try with_reducible rfl
    try simp only [Act.put, List.setIfInBounds_toArray, List.set_cons_zero, List.set_cons_succ]
    refine wpAnyH_take (i := 5) (v := ?_) rfl (by kernel_rfl) (by kernel_rfl) (by kernel_rfl) (fun _ _ _ h => h) (Or.inl ⟨by rfl, ?_⟩) (by assumption) ?_
    rotate_left
    · intro w hSw
      obtain ⟨s0, s1, s2⟩ := hSw
      go_simp
      try with_reducible rfl
    try simp only [Act.put, List.setIfInBounds_toArray, List.set_cons_zero, List.set_cons_succ]
    refine wpAnyH_take (i := 6) (v := ?_) rfl (by kernel_rfl) (by kernel_rfl) (by kernel_rfl) (fun _ _ _ h => h) (Or.inl ⟨by rfl, ?_⟩) (by assumption) ?_
    rotate_left
    · intro w hSw
      obtain ⟨s0, s1, s2⟩ := hSw
      go_simp
      try with_reducible rfl
    try simp only [Act.put, List.setIfInBounds_toArray, List.set_cons_zero, List.set_cons_succ]
    refine wpAnyH_take (i := 7) (v := ?_) rfl (by kernel_rfl) (by kernel_rfl) (by kernel_rfl) (fun _ _ _ h => h) (Or.inl ⟨by rfl, ?_⟩) (by assumption) ?_
    rotate_left
    · intro w hSw
      obtain ⟨s0, s1, s2⟩ := hSw
      go_simp
      try with_reducible rfl
    try simp only [Act.put, List.setIfInBounds_toArray, List.set_cons_zero, List.set_cons_succ]
    refine wpAnyH_take (i := 8) (v := ?_) rfl (by kernel_rfl) (by kernel_rfl) (by kernel_rfl) (fun _ _ _ h => h) (Or.inl ⟨by rfl, ?_⟩) (by assumption) ?_
    rotate_left
    · intro w hSw
      obtain ⟨s0, s1, s2⟩ := hSw
      go_simp
      try with_reducible rfl
    try simp only [Act.put, List.setIfInBounds_toArray, List.set_cons_zero, List.set_cons_succ]
    refine wpAnyH_take (i := 9) (v := .agg cs.toArray) rfl (by kernel_rfl) (by kernel_rfl) (by kernel_rfl) (fun _ _ _ h => h) (yieldsIf_load_mid (by rfl) 83 (.tmp 13) (by rfl) B (k * 259) ?hx cs _ (fun w hSw => ?hs) Tryz.underlying83 (by simp [TypeDesc.isRow]) (unhide HF).hi) (by assumption) ?rst
    case hx => go_simp
    case hs => exact hSw.2.2
    case rst =>
    try simp only [Act.put, List.setIfInBounds_toArray, List.set_cons_zero, List.set_cons_succ]
    clear hHeld
    refine wpAnyH_ready (rs := [10]) (by kernel_rfl) (by simp) ?_
    refine AllReadyH.cons rfl (fun K hK => ?_) AllReadyH.nil
    go_simp
    refine hK.out _ _ (unhide HF).s2 (fun hHeld2 => ?_)
    clear hK K
    try simp only [Act.put, List.setIfInBounds_toArray, List.set_cons_zero, List.set_cons_succ]
    refine wpAnyH_ready (rs := [11]) (by kernel_rfl) (by simp) ?_
    refine AllReadyH.cons rfl (fun K hK => ?_) AllReadyH.nil
    rw [if_pos (by rfl)]
    refine wp_store_mid0 rfl _ _ _ rfl _ _ cs.toArray rfl rfl (unhide HF).th (by rw [List.size_toArray]; exact (unhide HF).hi) (all_oneCell_toArray (unhide HF).one) ?_
    refine hK.out _ _ (unhide HF).s3 (fun _ => ?_)
    clear hK K hHeld2
    refine wpAnyH_done (by kernel_rfl) ?_ _
    try simp only [Act.put, List.setIfInBounds_toArray, List.set_cons_zero, List.set_cons_succ]
    go_wp2_with fail
    go_meet
    case rel => exact ⟨rfl, (unhide HF).tok, (unhide HF).rs, (unhide HF).bel⟩
  case rest =>
  obtain ⟨rfl, HTc, HRc, HBc⟩ := hcut
  clear HF hzt
  have hcz := (unhide HBc).size
  obtain ⟨c0, c1, c2, c3, c4, cf, hqlt⟩ := five (unhide HRc).rd
  have t0 := (unhide HTc).c0
  have t1 := (unhide HTc).c1
  have tl := (unhide HTc).lt
  have hNq : w.heap.size ≠ q := by omega
  have hres : itemF s E (n + 1) t d = lookF t.k (itemF s E n (nextT s t.to) d) := by
    rw [itemF_1 (by omega), if_pos ha]
  have e7 : ((whatK t.k).toList == [38]) = false := by rw [whatL 7 [38] (by decide +kernel) h17 (by omega)]; simp; omega
  have e8 : ((whatK t.k).toList == [33]) = true := by rw [whatL 8 [33] (by decide +kernel) h17 (by omega)]; simp; omega
  have hnx2 := hnx (by omega)
  have hlk := (List.getElem?_eq_some_iff.1 hnx2).1
  have hze := zeroExp
  have hlenE := expV_len
  have hEne : ¬ expV .empty (.slice none 0 0) .empty noB 0 = [] := by unfold expV; simp
  have HRk := hide ((unhide HRc).setK ((k : Int) + 1))
  have HBk := hide ((But.of_below (unhide HBc) (Nat.le_refl _) : But q w wc).setCell (p := ⟨q, 1, none⟩) (.inl rfl) (.int .i64 ((k : Int) + 1)))
  have hcast : ((k + 1 : Nat) : Int) = (k : Int) + 1 := by omega
  have hrk1 := unhide HRk
  rw [← hcast] at hrk1
  have HIt := hide (item_ok hT hrk1 hnx2)
  rw [hcast] at HIt
  clear hrk1
  rw [ha] at HIt
  have hL0 : ∀ x v, ((expV .empty (.slice none 0 0) .empty noB 0).set 0 (.string x)).set 1 v = expV x v .empty noB 0 := fun _ _ => rfl
  have HRR := hide hres
  have HI := hide hI
  have Hk := hide hk
  generalize hrr : itemF s E n (nextT s t.to) d = r at HI HRR
  clear hk ha hres hI hrr
  go_wp2_with fail
  go_at_call 93
  refine (unhide HIt).mono ?_
  rintro e w3 ⟨rfl, hb3⟩
  have HR3 := hide ((unhide HRk).below hb3)
  have HB3 := hide ((unhide HBk).trans (.of_below hb3 (Nat.le_refl _)))
  have HT3 := hide (((unhide HTc).other (p := ⟨q, 1, none⟩) (show q ≠ w.heap.size by omega) (.int .i64 ((k : Int) + 1))).below hb3 (Nat.le_refl _))
  clear hb3 t0 t1 tl
  have t0 := (unhide HT3).c0
  have tl := (unhide HT3).lt
  go_wp2_with fail
  go_region_law
    (first | (refine step_wp (by rfl) ?_; go_simp; go_at_call 94; refine (unhide HI _ ((unhide HR3).below (Below.refl _ _).drew)).mono ?_; rintro e w2 ⟨b, rfl, ho⟩; have HO := hide ho; clear ho; have HB2 := hide (But.from_drew (unhide HO).bt); have hS2 := TokB.c0 (((unhide HB2).block w.heap.size tl hNq).trans (unhide HT3)); have hz2 := (unhide HB2).size; have hlt2 : w.heap.size < w2.heap.size := by omega))
  all_goals
    have HFin := hide (wrap_out (R := itemF s E (n + 1) t d) (o := 8) (a := 0) (by omega) (by omega) (unhide HB3) (show OkO w3 q B cap s T d r b w2 from ⟨unhide HB2, (unhide HO).out⟩) (fun he => by rw [unhide HRR]; unfold lookF; rw [if_neg (by omega), unhide Hk]; exact ⟨rfl, rfl, rfl⟩) (fun he => by rw [unhide HRR]; unfold lookF; rw [if_pos he]; exact ⟨rfl, rfl⟩))
    have hop : whatK t.k = opW 8 := by rw [unhide Hk]; rfl
    have HOp := hide hop
    clear hop
    go_wp2
    go_ret
    rw [unhide HOp]
    exact ⟨_, rfl, unhide HFin⟩
end Go.Proofs.YtbojcemamhiodaaGreatDoor
namespace Go.Proofs.YtbojcemamhiodaaGreatDoor
open Go.RowKit
/-- where the loop over signs stands -/
def SgI (w : World) (q B cap : Nat) (s : ByteArray) (T : List Tk) (d : Int) (R : Res) (b : Nat) (wr : World) : Prop :=
  But q w wr ∧ ((∃ (kf k' : Nat) (t' : Tk) (x : Ex), x.b = b ∧ Tree wr (fun j => w.heap.size ≤ j) x ∧ OkX x ∧ R = ⟨0, (signsF s kf x.norm t').1, (signsF s kf x.norm t').2, d⟩ ∧ (s.size : Int) < kf + t'.from_ ∧ T[k']? = some t' ∧ RS wr q B cap s T k' d 0 0) ∨
    (∃ (r : Res) (kk : Int), R = errR r.err r.tk r.d ∧ r.err ≠ 0 ∧ RS wr q B cap s T kk d r.err r.tk.from_))
section
variable {w w1 wr : World} {q B cap b : Nat} {s : ByteArray} {T : List Tk} {d : Int} {r R : Res}
theorem SgI.start (h0 : r.err = 0 → r.d = d ∧ 0 ≤ r.tk.from_) (ho : OkO w q B cap s T d r b wr) : SgI w q B cap s T d (signedF s r) b wr := by
  refine ⟨ho.bt, ?_⟩
  rcases ho.out with ⟨he, x, hxb, hxt, hxo, hxn, k', hk', hr⟩ | ⟨he, kk, hr⟩
  · left
    obtain ⟨h1, h2⟩ := h0 he
    refine ⟨s.size + 1, k', r.tk, x, hxb, hxt, hxo, ?_, by omega, hk', hr⟩
    unfold signedF
    rw [if_neg (by omega), hxn, h1]
  · right
    refine ⟨r, kk, ?_, he, hr⟩
    unfold signedF
    rw [if_pos he]
theorem SgI.below (h : SgI w q B cap s T d R b w1) (hb : Below w1.heap.size w1 wr) : SgI w q B cap s T d R b wr := by
  refine ⟨h.1.below hb h.1.size, ?_⟩
  rcases h.2 with ⟨kf, k', t', x, h1, h2, h3, h4, h5, h6, h7⟩ | ⟨r, kk, h1, h2, h3⟩
  · exact .inl ⟨kf, k', t', x, h1, h2.below hb, h3, h4, h5, h6, h7.below hb⟩
  · exact .inr ⟨r, kk, h1, h2, h3.below hb⟩
theorem RS.four {k' : Nat} {t' : Tk} {e a : Int} (h : RS w q B cap s T k' d e a) (ht : T[k']? = some t') : w.cell? ⟨q, 0, none⟩ = some (.slice (some ⟨B, 0, none⟩) T.length cap) ∧ w.cell? ⟨q, 1, none⟩ = some (.int .i64 k') ∧ w.cell? ⟨B, k' * 259, none⟩ = some (.string (whatK t'.k)) ∧ w.cell? ⟨B, k' * 259 + 258, none⟩ = some (.int .i64 t'.from_) := by
  obtain ⟨c0, c1, c2, c3, c4, cf, hlt⟩ := five h.rd
  obtain ⟨str, f, _, d0, d1, d2, df, hk, hm, hB⟩ := h.cells k' t' ht
  exact ⟨c0, c1, d0, d2⟩
theorem SgI.next {kf k' : Nat} {t' : Tk} {x : Ex} (hT : ChainT s T) (hq : q < w.heap.size) (hbt : But q w w1) (hxb : x.b = b) (hxt : Tree w1 (fun j => w.heap.size ≤ j) x) (hxo : OkX x) (hR : R = ⟨0, (signsF s (kf + 1) x.norm t').1, (signsF s (kf + 1) x.norm t').2, d⟩) (hfu : (s.size : Int) < (kf + 1 : Nat) + t'.from_) (ht' : T[k']? = some t') (hrs : RS w1 q B cap s T k' d 0 0) (o : Int) (ho : 9 ≤ o ∧ o ≤ 11) (hk : t'.k = o) (hb : Below w1.heap.size w1 wr) :
    SgI w q B cap s T d R (wr.heap.size + 1) (((wr.alloc (.cells #[.pointer (some ⟨b, 0, none⟩)] 61)).alloc (.cells (expV (opW o) (.slice (some ⟨wr.heap.size, 0, none⟩) 1 1) .empty noB t'.from_).toArray 93)).setCell ⟨q, 1, none⟩ (.int .i64 ((k' : Int) + 1))) ∧
    mR q B s (((wr.alloc (.cells #[.pointer (some ⟨b, 0, none⟩)] 61)).alloc (.cells (expV (opW o) (.slice (some ⟨wr.heap.size, 0, none⟩) 1 1) .empty noB t'.from_).toArray 93)).setCell ⟨q, 1, none⟩ (.int .i64 ((k' : Int) + 1))) < mR q B s w1 := by
  obtain ⟨hok', h17', hnx'⟩ := hT.ok k' t' ht'
  have hle := hok'.lt (by omega)
  have hsz' := hok'.size
  have hn := hok'.next
  have hn1 := hn.1.size
  have hn2 := hn.1.le
  have hnx2 := hnx' (by omega)
  have hrs2 := hrs.below hb
  have hOk : OkO w q B cap s T d ⟨0, x.norm, t', d⟩ b wr := ⟨hbt.trans (.of_below hb (Nat.le_refl _)), .inl ⟨rfl, x, hxb, hxt.below hb, hxo, rfl, k', ht', hrs2⟩⟩
  have hW := wrap_out (R := ⟨0, ⟨o, t'.from_, .empty, [x.norm]⟩, t', d⟩) (o := o) (a := t'.from_) (by omega) hok'.from0 (But.refl q w) hOk (fun _ => ⟨rfl, rfl, rfl⟩) (fun h => absurd rfl h)
  have hB2 : Below wr.heap.size wr ((wr.alloc (.cells #[.pointer (some ⟨b, 0, none⟩)] 61)).alloc (.cells (expV (opW o) (.slice (some ⟨wr.heap.size, 0, none⟩) 1 1) .empty noB t'.from_).toArray 93)) := ((Below.refl _ _).alloc (Nat.le_refl _) _).alloc (by simp) _
  have hr3 := hrs2.below hB2
  generalize ((wr.alloc (.cells #[.pointer (some ⟨b, 0, none⟩)] 61)).alloc (.cells (expV (opW o) (.slice (some ⟨wr.heap.size, 0, none⟩) 1 1) .empty noB t'.from_).toArray 93)) = W at hW hB2 hr3 ⊢
  have hr4 := hr3.setK ((k' : Int) + 1)
  rw [show (k' : Int) + 1 = ((k' + 1 : Nat) : Int) by omega] at hr4 ⊢
  obtain ⟨y, hyb, hyt, hyo, hyn, _⟩ := hW.ok rfl
  refine ⟨⟨hW.bt.setCell (.inl rfl) _, .inl ⟨kf, k' + 1, nextT s t'.to, y, hyb, ?_, hyo, ?_, by omega, hnx2, hr4⟩⟩, ?_⟩
  · refine Tree.turn (fun j hS hl => ⟨hS, Below.heap_setCell _ _ _ _ ?_⟩) y hyt
    have hS' : w.heap.size ≤ j := hS
    show j ≠ q
    omega
  · rw [hR, signsF_yes (by simp; omega), show repK t'.k = o by unfold repK; simp only [beq_iff_eq]; repeat' split <;> omega, hyn]
  · rw [hr4.mR_ok hnx2, hrs.mR_ok ht']
    omega
end
set_option linter.unusedSimpArgs false in
set_option maxRecDepth 10000 in
set_option maxHeartbeats 4000000 in
theorem signed_rep (w : World) (q B cap : Nat) (s : ByteArray) (T : List Tk) (d : Int) (E : Tk → Int → Res) (t : Tk) (k : Nat) (hT : ChainT s T) (ht : T[k]? = some t) (hr : RS w q B cap s T k d 0 0) (n : Nat) (h7 : t.k ≠ 7) (h8 : t.k ≠ 8) (h2 : 2 ≤ t.k) (hF : d < 12 → FineE s E (d + 1)) (hS : ∀ W, RS W q B cap s T k d 0 0 → Calls Tryz.prog 125 #[.pointer (some ⟨q, 0, none⟩)] W (OutX W q B cap s T d (singleF s E t d))) :
    Calls Tryz.prog 94 #[.pointer (some ⟨q, 0, none⟩)] w (OutX w q B cap s T d (itemF s E (n + 1) t d)) := by
  obtain ⟨str, f, cs, hF⟩ := tok_facts hr ht
  have hkl := hF.hl
  have hkm := hF.hm
  have HTR := hide hF.tr
  have HF := hide hF
  have hzt := zeroTok
  have hk0 : (0 : Int) ≤ (k : Int) := Int.natCast_nonneg _
  have hqw := hr.lt
  have hfew := hT.few
  obtain ⟨hok, h17, hnx⟩ := hT.ok k t ht
  clear hF hr
  go_enter Tryz.func94, Tryz.ntmps94
  go_upto_region 1 with fail
  go_cut [3] (fun v wc => v = .pointer (some ⟨w.heap.size, 0, none⟩) ∧ Hid (TokB wc w.heap.size (whatK t.k) str f t.from_) ∧ Hid (RS wc q B cap s T k d 0 0) ∧ Hid (Below w.heap.size w wc))
  case first =>
    refine wp_region_held_drew (S := fun w' => w'.cell? ⟨q, 0, none⟩ = some (.slice (some ⟨B, 0, none⟩) T.length cap) ∧ w'.cell? ⟨q, 1, none⟩ = some (.int .i64 k) ∧ w'.rangeAt B (k * 259) cs) (by kernel_rfl) (unhide HF).s1 (fun hHeld => ?_)
    refine wpAnyH_take (i := 0) (v := ?_) rfl (by kernel_rfl) (by kernel_rfl) (by kernel_rfl) (fun _ _ _ h => h) (Or.inl ⟨by rfl, ?_⟩) (by assumption) ?_
    rotate_left
    · intro w hSw
      obtain ⟨s0, s1, s2⟩ := hSw
      go_simp
      try with_reducible rfl
    try simp only [Act.put, List.setIfInBounds_toArray, List.set_cons_zero, List.set_cons_succ]
    refine wpAnyH_take (i := 1) (v := ?_) rfl (by kernel_rfl) (by kernel_rfl) (by kernel_rfl) (fun _ _ _ h => h) (Or.inl ⟨by rfl, ?_⟩) (by assumption) ?_
    rotate_left
    · intro w hSw
      obtain ⟨s0, s1, s2⟩ := hSw
      go_simp
      try with_reducible rfl
    try simp only [Act.put, List.setIfInBounds_toArray, List.set_cons_zero, List.set_cons_succ]
    refine wpAnyH_take (i := 2) (v := ?_) rfl (by kernel_rfl) (by kernel_rfl) (by kernel_rfl) (fun _ _ _ h => h) (Or.inl ⟨by rfl, ?_⟩) (by assumption) ?_
    rotate_left
    · intro w hSw
      obtain ⟨s0, s1, s2⟩ := hSw
      go_simp
      try with_reducible rfl
    try simp only [Act.put, List.setIfInBounds_toArray, List.set_cons_zero, List.set_cons_succ]
    refine wpAnyH_take (i := 3) (v := ?_) rfl (by kernel_rfl) (by kernel_rfl) (by kernel_rfl) (fun _ _ _ h => h) (Or.inl ⟨by rfl, ?_⟩) (by assumption) ?_
    rotate_left
    · intro w hSw
      obtain ⟨s0, s1, s2⟩ := hSw
      go_simp
      try with_reducible rfl
    try simp only [Act.put, List.setIfInBounds_toArray, List.set_cons_zero, List.set_cons_succ]
    refine wpAnyH_take (i := 4) (v := ?_) rfl (by kernel_rfl) (by kernel_rfl) (by kernel_rfl) (fun _ _ _ h => h) (Or.inl ⟨by rfl, ?_⟩) (by assumption) ?_
    rotate_left
    · intro w hSw
      obtain ⟨s0, s1, s2⟩ := hSw
      go_simp
      try with_reducible rfl
    try simp only [Act.put, List.setIfInBounds_toArray, List.set_cons_zero, List.set_cons_succ]
    refine wpAnyH_take (i := 5) (v := ?_) rfl (by kernel_rfl) (by kernel_rfl) (by kernel_rfl) (fun _ _ _ h => h) (Or.inl ⟨by rfl, ?_⟩) (by assumption) ?_
    rotate_left
    · intro w hSw
      obtain ⟨s0, s1, s2⟩ := hSw
      go_simp
      try with_reducible rfl
    try simp only [Act.put, List.setIfInBounds_toArray, List.set_cons_zero, List.set_cons_succ]
    refine wpAnyH_take (i := 6) (v := ?_) rfl (by kernel_rfl) (by kernel_rfl) (by kernel_rfl) (fun _ _ _ h => h) (Or.inl ⟨by rfl, ?_⟩) (by assumption) ?_
    rotate_left
    · intro w hSw
      obtain ⟨s0, s1, s2⟩ := hSw
      go_simp
      try with_reducible rfl
    try simp only [Act.put, List.setIfInBounds_toArray, List.set_cons_zero, List.set_cons_succ]
    refine wpAnyH_take (i := 7) (v := ?_) rfl (by kernel_rfl) (by kernel_rfl) (by kernel_rfl) (fun _ _ _ h => h) (Or.inl ⟨by rfl, ?_⟩) (by assumption) ?_
    rotate_left
    · intro w hSw
      obtain ⟨s0, s1, s2⟩ := hSw
      go_simp
      try with_reducible rfl
    try simp only [Act.put, List.setIfInBounds_toArray, List.set_cons_zero, List.set_cons_succ]
    refine wpAnyH_take (i := 8) (v := ?_) rfl (by kernel_rfl) (by kernel_rfl) (by kernel_rfl) (fun _ _ _ h => h) (Or.inl ⟨by rfl, ?_⟩) (by assumption) ?_
    rotate_left
    · intro w hSw
      obtain ⟨s0, s1, s2⟩ := hSw
      go_simp
      try with_reducible rfl
    try simp only [Act.put, List.setIfInBounds_toArray, List.set_cons_zero, List.set_cons_succ]
    refine wpAnyH_take (i := 9) (v := .agg cs.toArray) rfl (by kernel_rfl) (by kernel_rfl) (by kernel_rfl) (fun _ _ _ h => h) (yieldsIf_load_mid (by rfl) 83 (.tmp 13) (by rfl) B (k * 259) ?hx cs _ (fun w hSw => ?hs) Tryz.underlying83 (by simp [TypeDesc.isRow]) (unhide HF).hi) (by assumption) ?rst
    case hx => go_simp
    case hs => exact hSw.2.2
    case rst =>
    try simp only [Act.put, List.setIfInBounds_toArray, List.set_cons_zero, List.set_cons_succ]
    clear hHeld
    refine wpAnyH_ready (rs := [10]) (by kernel_rfl) (by simp) ?_
    refine AllReadyH.cons rfl (fun K hK => ?_) AllReadyH.nil
    go_simp
    refine hK.out _ _ (unhide HF).s2 (fun hHeld2 => ?_)
    clear hK K
    try simp only [Act.put, List.setIfInBounds_toArray, List.set_cons_zero, List.set_cons_succ]
    refine wpAnyH_ready (rs := [11]) (by kernel_rfl) (by simp) ?_
    refine AllReadyH.cons rfl (fun K hK => ?_) AllReadyH.nil
    rw [if_pos (by rfl)]
    refine wp_store_mid0 rfl _ _ _ rfl _ _ cs.toArray rfl rfl (unhide HF).th (by rw [List.size_toArray]; exact (unhide HF).hi) (all_oneCell_toArray (unhide HF).one) ?_
    refine hK.out _ _ (unhide HF).s3 (fun _ => ?_)
    clear hK K hHeld2
    refine wpAnyH_done (by kernel_rfl) ?_ _
    try simp only [Act.put, List.setIfInBounds_toArray, List.set_cons_zero, List.set_cons_succ]
    go_wp2_with fail
    go_meet
    case rel => exact ⟨rfl, (unhide HF).tok, (unhide HF).rs, (unhide HF).bel⟩
  case rest =>
  obtain ⟨rfl, HTc, HRc, HBc⟩ := hcut
  clear HF hzt
  have hcz := (unhide HBc).size
  obtain ⟨c0, c1, c2, c3, c4, cf, hqlt⟩ := five (unhide HRc).rd
  have t0 := (unhide HTc).c0
  have t1 := (unhide HTc).c1
  have tl := (unhide HTc).lt
  have hNq : w.heap.size ≠ q := by omega
  have hres : itemF s E (n + 1) t d = signedF s (singleF s E t d) := by
    rw [itemF_2 (by omega)]
    rfl
  have hfi := singleF_fine hF hok h2
  have e7 : ((whatK t.k).toList == [38]) = false := by rw [whatL 7 [38] (by decide +kernel) h17 (by omega)]; simp; omega
  have e8 : ((whatK t.k).toList == [33]) = false := by rw [whatL 8 [33] (by decide +kernel) h17 (by omega)]; simp; omega
  have hze := zeroExp
  have hlenE := expV_len
  have hEne : ¬ expV .empty (.slice none 0 0) .empty noB 0 = [] := by unfold expV; simp
  have HSt := hide (fun b wr (ho : OkO w q B cap s T d (singleF s E t d) b wr) => SgI.start (fun he => ⟨hfi.fine.dep he, hfi.fine.tk.from0⟩) ho)
  have HSg := hide (hS wc (unhide HRc))
  rw [← hres] at HSt
  clear hS hfi hF hres h7 h8 h2
  go_wp2_with fail
  go_at_call 125
  refine (unhide HSg).mono ?_
  rintro e w2 ⟨b0, rfl, ho⟩
  have HI0 := hide (unhide HSt b0 w2 (ho.mono (.of_below (unhide HBc) (Nat.le_refl _))))
  clear ho HSg HSt c0 c1 c2 c3 c4 cf hqlt t0 t1 tl HTc HRc
  go_wp2_with fail
  go_loopw [4] (fun v wr => ∃ b : Nat, v = .pointer (some ⟨b, 0, none⟩) ∧ Hid (SgI w q B cap s T d (itemF s E (n + 1) t d) b wr)) (fun _ wr => mR q B s wr)
  case atStart => exact ⟨b0, rfl, HI0⟩
  case round =>
    obtain ⟨b, rfl, HIr⟩ := hrel
    clear HI0
    rcases (unhide HIr).2 with ⟨kf, k', t', x, hxb, hxt, hxo, hR, hfu, ht', hrs⟩ | ⟨r, kk, hR, he, hrs⟩
    · obtain ⟨hok', h17', hnx'⟩ := hT.ok k' t' ht'
      have hle := hok'.le
      have hsz' := hok'.size
      obtain ⟨kf, rfl⟩ : ∃ m, kf = m + 1 := ⟨kf - 1, by omega⟩
      have HIs := hide (fun (o : Int) (ho : 0 ≤ o ∧ o ≤ 17) (w' : World) (hb : Below wr.heap.size wr w') => (show Calls Tryz.prog 38 #[.pointer (some ⟨q, 0, none⟩), .string (whatK o)] w' (fun e w2 => e = .returned (.bool (t'.k == o)) ∧ Below wr.heap.size wr w2) from (is_ok (w := w') (whatK o) (hrs.below hb) ht').mono (by
        rintro e w2 ⟨rfl, m, rfl⟩
        exact ⟨by rw [whatK_eq h17' ho], below_drewN' hb m⟩)))
      have H1 := hide (unhide HIs 9 (by omega))
      have H2 := hide (unhide HIs 10 (by omega))
      have H3 := hide (unhide HIs 11 (by omega))
      clear HIs
      by_cases hsg : t'.k = 9 ∨ t'.k = 10 ∨ t'.k = 11
      · rcases hsg with hsg | hsg | hsg
        · rw [show (t'.k == 9) = true by simp [hsg]] at H1
          have HN := hide (fun W hb => SgI.next (wr := W) hT hqw (unhide HIr).1 hxb hxt hxo hR hfu ht' hrs 9 (by omega) hsg hb)
          have hwk : whatK t'.k = opW 9 := by rw [hsg]; rfl
          have HRs := hide hrs
          clear hR hrs hsg hxt hxo hxb hfu HIr
          go_wp2_with fail
          go_at_call 38
          refine (unhide H1 _ (Below.refl _ _)).mono ?_
          rintro e w3 ⟨rfl, hb1⟩
          have HR5 := hide ((unhide HRs).below hb1)
          obtain ⟨c0, c1, c2, c3, c4, cf, hqlt⟩ := five (unhide HR5).rd
          obtain ⟨str', f', hTR', d0, d1, d2, df, hkl', hkm', hBl'⟩ := (unhide HR5).cells k' t' ht'
          have hk0' : (0 : Int) ≤ (k' : Int) := Int.natCast_nonneg _
          have hL0 : ∀ (x : ByteArray) (a : Int) (v : Value), (((expV .empty (.slice none 0 0) .empty noB 0).set 0 (.string x)).set 259 (.int .i64 a)).set 1 v = expV x v .empty noB a := fun x a v => by rw [expV_op, expV_at, expV_l]
          clear hTR' d1
          go_wp2_with fail
          refine wp_region_held_drew (S := fun w' => w'.cell? ⟨q, 0, none⟩ = some (.slice (some ⟨B, 0, none⟩) T.length cap) ∧ w'.cell? ⟨q, 1, none⟩ = some (.int .i64 k') ∧ w'.cell? ⟨B, k' * 259, none⟩ = some (.string (whatK t'.k)) ∧ w'.cell? ⟨B, k' * 259 + 258, none⟩ = some (.int .i64 t'.from_)) (by kernel_rfl) ((unhide HR5).four ht') (fun hHeld => ?_)
          refine take_dst (i := 0) 56 (v := ?_) rfl rfl (by kernel_rfl) (by kernel_rfl) (by kernel_rfl) (fun _ _ _ h => h) (Or.inl ⟨by kernel_rfl, ?_⟩) (by assumption) ?_
          rotate_left
          · intro w hSw
            obtain ⟨s0, s1, s2, s3⟩ := hSw
            go_simp
            try with_reducible rfl
          try simp only [Act.put, List.setIfInBounds_toArray, List.set_cons_zero, List.set_cons_succ]
          refine take_dst (i := 1) 57 (v := ?_) rfl rfl (by kernel_rfl) (by kernel_rfl) (by kernel_rfl) (fun _ _ _ h => h) (Or.inl ⟨by kernel_rfl, ?_⟩) (by assumption) ?_
          rotate_left
          · intro w hSw
            obtain ⟨s0, s1, s2, s3⟩ := hSw
            go_simp
            try with_reducible rfl
          try simp only [Act.put, List.setIfInBounds_toArray, List.set_cons_zero, List.set_cons_succ]
          refine take_dst (i := 2) 58 (v := ?_) rfl rfl (by kernel_rfl) (by kernel_rfl) (by kernel_rfl) (fun _ _ _ h => h) (Or.inl ⟨by kernel_rfl, ?_⟩) (by assumption) ?_
          rotate_left
          · intro w hSw
            obtain ⟨s0, s1, s2, s3⟩ := hSw
            go_simp
            try with_reducible rfl
          try simp only [Act.put, List.setIfInBounds_toArray, List.set_cons_zero, List.set_cons_succ]
          refine take_dst (i := 3) 59 (v := ?_) rfl rfl (by kernel_rfl) (by kernel_rfl) (by kernel_rfl) (fun _ _ _ h => h) (Or.inl ⟨by kernel_rfl, ?_⟩) (by assumption) ?_
          rotate_left
          · intro w hSw
            obtain ⟨s0, s1, s2, s3⟩ := hSw
            go_simp
            try with_reducible rfl
          try simp only [Act.put, List.setIfInBounds_toArray, List.set_cons_zero, List.set_cons_succ]
          refine take_dst (i := 4) 60 (v := ?_) rfl rfl (by kernel_rfl) (by kernel_rfl) (by kernel_rfl) (fun _ _ _ h => h) (Or.inl ⟨by kernel_rfl, ?_⟩) (by assumption) ?_
          rotate_left
          · intro w hSw
            obtain ⟨s0, s1, s2, s3⟩ := hSw
            go_simp
            try with_reducible rfl
          try simp only [Act.put, List.setIfInBounds_toArray, List.set_cons_zero, List.set_cons_succ]
          refine take_dst (i := 5) 61 (v := ?_) rfl rfl (by kernel_rfl) (by kernel_rfl) (by kernel_rfl) (fun _ _ _ h => h) (Or.inl ⟨by kernel_rfl, ?_⟩) (by assumption) ?_
          rotate_left
          · intro w hSw
            obtain ⟨s0, s1, s2, s3⟩ := hSw
            go_simp
            try with_reducible rfl
          try simp only [Act.put, List.setIfInBounds_toArray, List.set_cons_zero, List.set_cons_succ]
          refine take_dst (i := 6) 62 (v := ?_) rfl rfl (by kernel_rfl) (by kernel_rfl) (by kernel_rfl) (fun _ _ _ h => h) (Or.inl ⟨by kernel_rfl, ?_⟩) (by assumption) ?_
          rotate_left
          · intro w hSw
            obtain ⟨s0, s1, s2, s3⟩ := hSw
            go_simp
            try with_reducible rfl
          try simp only [Act.put, List.setIfInBounds_toArray, List.set_cons_zero, List.set_cons_succ]
          refine take_dst (i := 7) 63 (v := ?_) rfl rfl (by kernel_rfl) (by kernel_rfl) (by kernel_rfl) (fun _ _ _ h => h) (Or.inl ⟨by kernel_rfl, ?_⟩) (by assumption) ?_
          rotate_left
          · intro w hSw
            obtain ⟨s0, s1, s2, s3⟩ := hSw
            go_simp
            try with_reducible rfl
          try simp only [Act.put, List.setIfInBounds_toArray, List.set_cons_zero, List.set_cons_succ]
          refine take_dst (i := 8) 64 (v := ?_) rfl rfl (by kernel_rfl) (by kernel_rfl) (by kernel_rfl) (fun _ _ _ h => h) (Or.inl ⟨by kernel_rfl, ?_⟩) (by assumption) ?_
          rotate_left
          · intro w hSw
            obtain ⟨s0, s1, s2, s3⟩ := hSw
            go_simp
            try with_reducible rfl
          try simp only [Act.put, List.setIfInBounds_toArray, List.set_cons_zero, List.set_cons_succ]
          refine take_dst (i := 9) 65 (v := ?_) rfl rfl (by kernel_rfl) (by kernel_rfl) (by kernel_rfl) (fun _ _ _ h => h) (Or.inl ⟨by kernel_rfl, ?_⟩) (by assumption) ?_
          rotate_left
          · intro w hSw
            obtain ⟨s0, s1, s2, s3⟩ := hSw
            go_simp
            try with_reducible rfl
          try simp only [Act.put, List.setIfInBounds_toArray, List.set_cons_zero, List.set_cons_succ]
          refine take_dst (i := 10) 66 (v := ?_) rfl rfl (by kernel_rfl) (by kernel_rfl) (by kernel_rfl) (fun _ _ _ h => h) (Or.inl ⟨by kernel_rfl, ?_⟩) (by assumption) ?_
          rotate_left
          · intro w hSw
            obtain ⟨s0, s1, s2, s3⟩ := hSw
            go_simp
            try with_reducible rfl
          try simp only [Act.put, List.setIfInBounds_toArray, List.set_cons_zero, List.set_cons_succ]
          refine take_dst (i := 11) 67 (v := ?_) rfl rfl (by kernel_rfl) (by kernel_rfl) (by kernel_rfl) (fun _ _ _ h => h) (Or.inl ⟨by kernel_rfl, ?_⟩) (by assumption) ?_
          rotate_left
          · intro w hSw
            obtain ⟨s0, s1, s2, s3⟩ := hSw
            go_simp
            try with_reducible rfl
          try simp only [Act.put, List.setIfInBounds_toArray, List.set_cons_zero, List.set_cons_succ]
          refine take_dst (i := 12) 68 (v := ?_) rfl rfl (by kernel_rfl) (by kernel_rfl) (by kernel_rfl) (fun _ _ _ h => h) (Or.inl ⟨by kernel_rfl, ?_⟩) (by assumption) ?_
          rotate_left
          · intro w hSw
            obtain ⟨s0, s1, s2, s3⟩ := hSw
            go_simp
            try with_reducible rfl
          try simp only [Act.put, List.setIfInBounds_toArray, List.set_cons_zero, List.set_cons_succ]
          refine take_dst (i := 13) 69 (v := ?_) rfl rfl (by kernel_rfl) (by kernel_rfl) (by kernel_rfl) (fun _ _ _ h => h) (Or.inl ⟨by kernel_rfl, ?_⟩) (by assumption) ?_
          rotate_left
          · intro w hSw
            obtain ⟨s0, s1, s2, s3⟩ := hSw
            go_simp
            try with_reducible rfl
          try simp only [Act.put, List.setIfInBounds_toArray, List.set_cons_zero, List.set_cons_succ]
          refine take_dst (i := 14) 70 (v := ?_) rfl rfl (by kernel_rfl) (by kernel_rfl) (by kernel_rfl) (fun _ _ _ h => h) (Or.inl ⟨by kernel_rfl, ?_⟩) (by assumption) ?_
          rotate_left
          · intro w hSw
            obtain ⟨s0, s1, s2, s3⟩ := hSw
            go_simp
            try with_reducible rfl
          try simp only [Act.put, List.setIfInBounds_toArray, List.set_cons_zero, List.set_cons_succ]
          refine take_dst (i := 15) 71 (v := ?_) rfl rfl (by kernel_rfl) (by kernel_rfl) (by kernel_rfl) (fun _ _ _ h => h) (Or.inl ⟨by kernel_rfl, ?_⟩) (by assumption) ?_
          rotate_left
          · intro w hSw
            obtain ⟨s0, s1, s2, s3⟩ := hSw
            go_simp
            try with_reducible rfl
          try simp only [Act.put, List.setIfInBounds_toArray, List.set_cons_zero, List.set_cons_succ]
          refine take_dst (i := 16) 72 (v := ?_) rfl rfl (by kernel_rfl) (by kernel_rfl) (by kernel_rfl) (fun _ _ _ h => h) (Or.inl ⟨by kernel_rfl, ?_⟩) (by assumption) ?_
          rotate_left
          · intro w hSw
            obtain ⟨s0, s1, s2, s3⟩ := hSw
            go_simp
            try with_reducible rfl
          try simp only [Act.put, List.setIfInBounds_toArray, List.set_cons_zero, List.set_cons_succ]
          refine take_dst (i := 17) 73 (v := ?_) rfl rfl (by kernel_rfl) (by kernel_rfl) (by kernel_rfl) (fun _ _ _ h => h) (Or.inl ⟨by kernel_rfl, ?_⟩) (by assumption) ?_
          rotate_left
          · intro w hSw
            obtain ⟨s0, s1, s2, s3⟩ := hSw
            go_simp
            try with_reducible rfl
          try simp only [Act.put, List.setIfInBounds_toArray, List.set_cons_zero, List.set_cons_succ]
          refine take_dst (i := 18) 74 (v := ?_) rfl rfl (by kernel_rfl) (by kernel_rfl) (by kernel_rfl) (fun _ _ _ h => h) (Or.inl ⟨by kernel_rfl, ?_⟩) (by assumption) ?_
          rotate_left
          · intro w hSw
            obtain ⟨s0, s1, s2, s3⟩ := hSw
            go_simp
            try with_reducible rfl
          try simp only [Act.put, List.setIfInBounds_toArray, List.set_cons_zero, List.set_cons_succ]
          refine take_dst (i := 19) 75 (v := ?_) rfl rfl (by kernel_rfl) (by kernel_rfl) (by kernel_rfl) (fun _ _ _ h => h) (Or.inl ⟨by kernel_rfl, ?_⟩) (by assumption) ?_
          rotate_left
          · intro w hSw
            obtain ⟨s0, s1, s2, s3⟩ := hSw
            go_simp
            try with_reducible rfl
          try simp only [Act.put, List.setIfInBounds_toArray, List.set_cons_zero, List.set_cons_succ]
          refine take_dst (i := 20) 76 (v := ?_) rfl rfl (by kernel_rfl) (by kernel_rfl) (by kernel_rfl) (fun _ _ _ h => h) (Or.inl ⟨by kernel_rfl, ?_⟩) (by assumption) ?_
          rotate_left
          · intro w hSw
            obtain ⟨s0, s1, s2, s3⟩ := hSw
            go_simp
            try with_reducible rfl
          try simp only [Act.put, List.setIfInBounds_toArray, List.set_cons_zero, List.set_cons_succ]
          refine take_dst (i := 21) 77 (v := ?_) rfl rfl (by kernel_rfl) (by kernel_rfl) (by kernel_rfl) (fun _ _ _ h => h) (Or.inl ⟨by kernel_rfl, ?_⟩) (by assumption) ?_
          rotate_left
          · intro w hSw
            obtain ⟨s0, s1, s2, s3⟩ := hSw
            go_simp
            try with_reducible rfl
          try simp only [Act.put, List.setIfInBounds_toArray, List.set_cons_zero, List.set_cons_succ]
          refine take_dst (i := 22) 78 (v := ?_) rfl rfl (by kernel_rfl) (by kernel_rfl) (by kernel_rfl) (fun _ _ _ h => h) (Or.inl ⟨by kernel_rfl, ?_⟩) (by assumption) ?_
          rotate_left
          · intro w hSw
            obtain ⟨s0, s1, s2, s3⟩ := hSw
            go_simp
            try with_reducible rfl
          try simp only [Act.put, List.setIfInBounds_toArray, List.set_cons_zero, List.set_cons_succ]
          refine wpAnyH_ready (rs := [23]) (by kernel_rfl) (by simp) ?_
          refine AllReadyH.cons rfl (fun K hK => ?_) AllReadyH.nil
          go_simp
          refine hK.out _ _ ?_ (fun hHeld2 => ?_)
          · exact (((unhide HR5).below (Below.refl _ _).drew).alloc _).four ht'
          clear hK K hHeld
          try simp only [Act.put, List.setIfInBounds_toArray, List.set_cons_zero, List.set_cons_succ]
          refine take_dst (i := 24) 80 (v := ?_) rfl rfl (by kernel_rfl) (by kernel_rfl) (by kernel_rfl) (fun _ _ _ h => h) (Or.inl ⟨by kernel_rfl, ?_⟩) (by assumption) ?_
          rotate_left
          · intro w hSw
            obtain ⟨s0, s1, s2, s3⟩ := hSw
            go_simp
            try with_reducible rfl
          try simp only [Act.put, List.setIfInBounds_toArray, List.set_cons_zero, List.set_cons_succ]
          refine wpAnyH_ready (rs := [25]) (by kernel_rfl) (by simp) ?_
          refine AllReadyH.cons rfl (fun K hK => ?_) AllReadyH.nil
          go_simp
          refine hK.out _ _ ?_ (fun hHeld3 => ?_)
          · exact ((((unhide HR5).below (Below.refl _ _).drew).alloc _).alloc _).four ht'
          clear hK K hHeld2
          try simp only [Act.put, List.setIfInBounds_toArray, List.set_cons_zero, List.set_cons_succ]
          refine take_dst (i := 26) 4 (v := ?_) rfl rfl (by kernel_rfl) (by kernel_rfl) (by kernel_rfl) (fun _ _ _ h => h) (Or.inl ⟨by kernel_rfl, ?_⟩) (by assumption) ?_
          rotate_left
          · intro w hSw
            go_simp
            try with_reducible rfl
          try simp only [Act.put, List.setIfInBounds_toArray, List.set_cons_zero, List.set_cons_succ]
          refine wpAnyH_done (by kernel_rfl) ?_ _
          try simp only [Act.put, List.setIfInBounds_toArray, List.set_cons_zero, List.set_cons_succ]
          clear c0 c1 c2 c3 c4 cf hqlt d0 d2 df hHeld3
          have hr7 := ((unhide HR5).alloc (.cells #[.pointer (some ⟨b, 0, none⟩)] 61)).alloc (.cells (expV (opW 9) (.slice (some ⟨w3.heap.size, 0, none⟩) 1 1) .empty noB t'.from_).toArray 93)
          obtain ⟨c0, c1, c2, c3, c4, cf, hqlt⟩ := five hr7.rd
          have hkw : IntKind.i64.wrap ((k' : Int) + 1) = (k' : Int) + 1 := by rw [IntKind.wrap_i64]; omega
          clear hr7
          go_wp2_with fail
          go_roundw
          case rel => exact ⟨_, rfl, SgI.below (unhide HN _ hb1).1 (Below.refl _ _).drew⟩
          case measure => exact (unhide HN _ hb1).2
        · rw [show (t'.k == 9) = false by simp [hsg]] at H1
          rw [show (t'.k == 10) = true by simp [hsg]] at H2
          have HN := hide (fun W hb => SgI.next (wr := W) hT hqw (unhide HIr).1 hxb hxt hxo hR hfu ht' hrs 10 (by omega) hsg hb)
          have hwk : whatK t'.k = opW 10 := by rw [hsg]; rfl
          have HRs := hide hrs
          clear hR hrs hsg hxt hxo hxb hfu HIr
          go_wp2_with fail
          go_at_call 38
          refine (unhide H1 _ (Below.refl _ _)).mono ?_
          rintro e w3 ⟨rfl, hb1⟩
          go_wp2_with fail
          go_at_call 38
          refine (unhide H2 _ hb1).mono ?_
          rintro e w4 ⟨rfl, hb2⟩
          have HR5 := hide ((unhide HRs).below hb2)
          obtain ⟨c0, c1, c2, c3, c4, cf, hqlt⟩ := five (unhide HR5).rd
          obtain ⟨str', f', hTR', d0, d1, d2, df, hkl', hkm', hBl'⟩ := (unhide HR5).cells k' t' ht'
          have hk0' : (0 : Int) ≤ (k' : Int) := Int.natCast_nonneg _
          have hL0 : ∀ (x : ByteArray) (a : Int) (v : Value), (((expV .empty (.slice none 0 0) .empty noB 0).set 0 (.string x)).set 259 (.int .i64 a)).set 1 v = expV x v .empty noB a := fun x a v => by rw [expV_op, expV_at, expV_l]
          clear hTR' d1
          go_wp2_with fail
          refine wp_region_held_drew (S := fun w' => w'.cell? ⟨q, 0, none⟩ = some (.slice (some ⟨B, 0, none⟩) T.length cap) ∧ w'.cell? ⟨q, 1, none⟩ = some (.int .i64 k') ∧ w'.cell? ⟨B, k' * 259, none⟩ = some (.string (whatK t'.k)) ∧ w'.cell? ⟨B, k' * 259 + 258, none⟩ = some (.int .i64 t'.from_)) (by kernel_rfl) ((unhide HR5).four ht') (fun hHeld => ?_)
          refine take_dst (i := 0) 56 (v := ?_) rfl rfl (by kernel_rfl) (by kernel_rfl) (by kernel_rfl) (fun _ _ _ h => h) (Or.inl ⟨by kernel_rfl, ?_⟩) (by assumption) ?_
          rotate_left
          · intro w hSw
            obtain ⟨s0, s1, s2, s3⟩ := hSw
            go_simp
            try with_reducible rfl
          try simp only [Act.put, List.setIfInBounds_toArray, List.set_cons_zero, List.set_cons_succ]
          refine take_dst (i := 1) 57 (v := ?_) rfl rfl (by kernel_rfl) (by kernel_rfl) (by kernel_rfl) (fun _ _ _ h => h) (Or.inl ⟨by kernel_rfl, ?_⟩) (by assumption) ?_
          rotate_left
          · intro w hSw
            obtain ⟨s0, s1, s2, s3⟩ := hSw
            go_simp
            try with_reducible rfl
          try simp only [Act.put, List.setIfInBounds_toArray, List.set_cons_zero, List.set_cons_succ]
          refine take_dst (i := 2) 58 (v := ?_) rfl rfl (by kernel_rfl) (by kernel_rfl) (by kernel_rfl) (fun _ _ _ h => h) (Or.inl ⟨by kernel_rfl, ?_⟩) (by assumption) ?_
          rotate_left
          · intro w hSw
            obtain ⟨s0, s1, s2, s3⟩ := hSw
            go_simp
            try with_reducible rfl
          try simp only [Act.put, List.setIfInBounds_toArray, List.set_cons_zero, List.set_cons_succ]
          refine take_dst (i := 3) 59 (v := ?_) rfl rfl (by kernel_rfl) (by kernel_rfl) (by kernel_rfl) (fun _ _ _ h => h) (Or.inl ⟨by kernel_rfl, ?_⟩) (by assumption) ?_
          rotate_left
          · intro w hSw
            obtain ⟨s0, s1, s2, s3⟩ := hSw
            go_simp
            try with_reducible rfl
          try simp only [Act.put, List.setIfInBounds_toArray, List.set_cons_zero, List.set_cons_succ]
          refine take_dst (i := 4) 60 (v := ?_) rfl rfl (by kernel_rfl) (by kernel_rfl) (by kernel_rfl) (fun _ _ _ h => h) (Or.inl ⟨by kernel_rfl, ?_⟩) (by assumption) ?_
          rotate_left
          · intro w hSw
            obtain ⟨s0, s1, s2, s3⟩ := hSw
            go_simp
            try with_reducible rfl
          try simp only [Act.put, List.setIfInBounds_toArray, List.set_cons_zero, List.set_cons_succ]
          refine take_dst (i := 5) 61 (v := ?_) rfl rfl (by kernel_rfl) (by kernel_rfl) (by kernel_rfl) (fun _ _ _ h => h) (Or.inl ⟨by kernel_rfl, ?_⟩) (by assumption) ?_
          rotate_left
          · intro w hSw
            obtain ⟨s0, s1, s2, s3⟩ := hSw
            go_simp
            try with_reducible rfl
          try simp only [Act.put, List.setIfInBounds_toArray, List.set_cons_zero, List.set_cons_succ]
          refine take_dst (i := 6) 62 (v := ?_) rfl rfl (by kernel_rfl) (by kernel_rfl) (by kernel_rfl) (fun _ _ _ h => h) (Or.inl ⟨by kernel_rfl, ?_⟩) (by assumption) ?_
          rotate_left
          · intro w hSw
            obtain ⟨s0, s1, s2, s3⟩ := hSw
            go_simp
            try with_reducible rfl
          try simp only [Act.put, List.setIfInBounds_toArray, List.set_cons_zero, List.set_cons_succ]
          refine take_dst (i := 7) 63 (v := ?_) rfl rfl (by kernel_rfl) (by kernel_rfl) (by kernel_rfl) (fun _ _ _ h => h) (Or.inl ⟨by kernel_rfl, ?_⟩) (by assumption) ?_
          rotate_left
          · intro w hSw
            obtain ⟨s0, s1, s2, s3⟩ := hSw
            go_simp
            try with_reducible rfl
          try simp only [Act.put, List.setIfInBounds_toArray, List.set_cons_zero, List.set_cons_succ]
          refine take_dst (i := 8) 64 (v := ?_) rfl rfl (by kernel_rfl) (by kernel_rfl) (by kernel_rfl) (fun _ _ _ h => h) (Or.inl ⟨by kernel_rfl, ?_⟩) (by assumption) ?_
          rotate_left
          · intro w hSw
            obtain ⟨s0, s1, s2, s3⟩ := hSw
            go_simp
            try with_reducible rfl
          try simp only [Act.put, List.setIfInBounds_toArray, List.set_cons_zero, List.set_cons_succ]
          refine take_dst (i := 9) 65 (v := ?_) rfl rfl (by kernel_rfl) (by kernel_rfl) (by kernel_rfl) (fun _ _ _ h => h) (Or.inl ⟨by kernel_rfl, ?_⟩) (by assumption) ?_
          rotate_left
          · intro w hSw
            obtain ⟨s0, s1, s2, s3⟩ := hSw
            go_simp
            try with_reducible rfl
          try simp only [Act.put, List.setIfInBounds_toArray, List.set_cons_zero, List.set_cons_succ]
          refine take_dst (i := 10) 66 (v := ?_) rfl rfl (by kernel_rfl) (by kernel_rfl) (by kernel_rfl) (fun _ _ _ h => h) (Or.inl ⟨by kernel_rfl, ?_⟩) (by assumption) ?_
          rotate_left
          · intro w hSw
            obtain ⟨s0, s1, s2, s3⟩ := hSw
            go_simp
            try with_reducible rfl
          try simp only [Act.put, List.setIfInBounds_toArray, List.set_cons_zero, List.set_cons_succ]
          refine take_dst (i := 11) 67 (v := ?_) rfl rfl (by kernel_rfl) (by kernel_rfl) (by kernel_rfl) (fun _ _ _ h => h) (Or.inl ⟨by kernel_rfl, ?_⟩) (by assumption) ?_
          rotate_left
          · intro w hSw
            obtain ⟨s0, s1, s2, s3⟩ := hSw
            go_simp
            try with_reducible rfl
          try simp only [Act.put, List.setIfInBounds_toArray, List.set_cons_zero, List.set_cons_succ]
          refine take_dst (i := 12) 68 (v := ?_) rfl rfl (by kernel_rfl) (by kernel_rfl) (by kernel_rfl) (fun _ _ _ h => h) (Or.inl ⟨by kernel_rfl, ?_⟩) (by assumption) ?_
          rotate_left
          · intro w hSw
            obtain ⟨s0, s1, s2, s3⟩ := hSw
            go_simp
            try with_reducible rfl
          try simp only [Act.put, List.setIfInBounds_toArray, List.set_cons_zero, List.set_cons_succ]
          refine take_dst (i := 13) 69 (v := ?_) rfl rfl (by kernel_rfl) (by kernel_rfl) (by kernel_rfl) (fun _ _ _ h => h) (Or.inl ⟨by kernel_rfl, ?_⟩) (by assumption) ?_
          rotate_left
          · intro w hSw
            obtain ⟨s0, s1, s2, s3⟩ := hSw
            go_simp
            try with_reducible rfl
          try simp only [Act.put, List.setIfInBounds_toArray, List.set_cons_zero, List.set_cons_succ]
          refine take_dst (i := 14) 70 (v := ?_) rfl rfl (by kernel_rfl) (by kernel_rfl) (by kernel_rfl) (fun _ _ _ h => h) (Or.inl ⟨by kernel_rfl, ?_⟩) (by assumption) ?_
          rotate_left
          · intro w hSw
            obtain ⟨s0, s1, s2, s3⟩ := hSw
            go_simp
            try with_reducible rfl
          try simp only [Act.put, List.setIfInBounds_toArray, List.set_cons_zero, List.set_cons_succ]
          refine take_dst (i := 15) 71 (v := ?_) rfl rfl (by kernel_rfl) (by kernel_rfl) (by kernel_rfl) (fun _ _ _ h => h) (Or.inl ⟨by kernel_rfl, ?_⟩) (by assumption) ?_
          rotate_left
          · intro w hSw
            obtain ⟨s0, s1, s2, s3⟩ := hSw
            go_simp
            try with_reducible rfl
          try simp only [Act.put, List.setIfInBounds_toArray, List.set_cons_zero, List.set_cons_succ]
          refine take_dst (i := 16) 72 (v := ?_) rfl rfl (by kernel_rfl) (by kernel_rfl) (by kernel_rfl) (fun _ _ _ h => h) (Or.inl ⟨by kernel_rfl, ?_⟩) (by assumption) ?_
          rotate_left
          · intro w hSw
            obtain ⟨s0, s1, s2, s3⟩ := hSw
            go_simp
            try with_reducible rfl
          try simp only [Act.put, List.setIfInBounds_toArray, List.set_cons_zero, List.set_cons_succ]
          refine take_dst (i := 17) 73 (v := ?_) rfl rfl (by kernel_rfl) (by kernel_rfl) (by kernel_rfl) (fun _ _ _ h => h) (Or.inl ⟨by kernel_rfl, ?_⟩) (by assumption) ?_
          rotate_left
          · intro w hSw
            obtain ⟨s0, s1, s2, s3⟩ := hSw
            go_simp
            try with_reducible rfl
          try simp only [Act.put, List.setIfInBounds_toArray, List.set_cons_zero, List.set_cons_succ]
          refine take_dst (i := 18) 74 (v := ?_) rfl rfl (by kernel_rfl) (by kernel_rfl) (by kernel_rfl) (fun _ _ _ h => h) (Or.inl ⟨by kernel_rfl, ?_⟩) (by assumption) ?_
          rotate_left
          · intro w hSw
            obtain ⟨s0, s1, s2, s3⟩ := hSw
            go_simp
            try with_reducible rfl
          try simp only [Act.put, List.setIfInBounds_toArray, List.set_cons_zero, List.set_cons_succ]
          refine take_dst (i := 19) 75 (v := ?_) rfl rfl (by kernel_rfl) (by kernel_rfl) (by kernel_rfl) (fun _ _ _ h => h) (Or.inl ⟨by kernel_rfl, ?_⟩) (by assumption) ?_
          rotate_left
          · intro w hSw
            obtain ⟨s0, s1, s2, s3⟩ := hSw
            go_simp
            try with_reducible rfl
          try simp only [Act.put, List.setIfInBounds_toArray, List.set_cons_zero, List.set_cons_succ]
          refine take_dst (i := 20) 76 (v := ?_) rfl rfl (by kernel_rfl) (by kernel_rfl) (by kernel_rfl) (fun _ _ _ h => h) (Or.inl ⟨by kernel_rfl, ?_⟩) (by assumption) ?_
          rotate_left
          · intro w hSw
            obtain ⟨s0, s1, s2, s3⟩ := hSw
            go_simp
            try with_reducible rfl
          try simp only [Act.put, List.setIfInBounds_toArray, List.set_cons_zero, List.set_cons_succ]
          refine take_dst (i := 21) 77 (v := ?_) rfl rfl (by kernel_rfl) (by kernel_rfl) (by kernel_rfl) (fun _ _ _ h => h) (Or.inl ⟨by kernel_rfl, ?_⟩) (by assumption) ?_
          rotate_left
          · intro w hSw
            obtain ⟨s0, s1, s2, s3⟩ := hSw
            go_simp
            try with_reducible rfl
          try simp only [Act.put, List.setIfInBounds_toArray, List.set_cons_zero, List.set_cons_succ]
          refine take_dst (i := 22) 78 (v := ?_) rfl rfl (by kernel_rfl) (by kernel_rfl) (by kernel_rfl) (fun _ _ _ h => h) (Or.inl ⟨by kernel_rfl, ?_⟩) (by assumption) ?_
          rotate_left
          · intro w hSw
            obtain ⟨s0, s1, s2, s3⟩ := hSw
            go_simp
            try with_reducible rfl
          try simp only [Act.put, List.setIfInBounds_toArray, List.set_cons_zero, List.set_cons_succ]
          refine wpAnyH_ready (rs := [23]) (by kernel_rfl) (by simp) ?_
          refine AllReadyH.cons rfl (fun K hK => ?_) AllReadyH.nil
          go_simp
          refine hK.out _ _ ?_ (fun hHeld2 => ?_)
          · exact (((unhide HR5).below (Below.refl _ _).drew).alloc _).four ht'
          clear hK K hHeld
          try simp only [Act.put, List.setIfInBounds_toArray, List.set_cons_zero, List.set_cons_succ]
          refine take_dst (i := 24) 80 (v := ?_) rfl rfl (by kernel_rfl) (by kernel_rfl) (by kernel_rfl) (fun _ _ _ h => h) (Or.inl ⟨by kernel_rfl, ?_⟩) (by assumption) ?_
          rotate_left
          · intro w hSw
            obtain ⟨s0, s1, s2, s3⟩ := hSw
            go_simp
            try with_reducible rfl
          try simp only [Act.put, List.setIfInBounds_toArray, List.set_cons_zero, List.set_cons_succ]
          refine wpAnyH_ready (rs := [25]) (by kernel_rfl) (by simp) ?_
          refine AllReadyH.cons rfl (fun K hK => ?_) AllReadyH.nil
          go_simp
          refine hK.out _ _ ?_ (fun hHeld3 => ?_)
          · exact ((((unhide HR5).below (Below.refl _ _).drew).alloc _).alloc _).four ht'
          clear hK K hHeld2
          try simp only [Act.put, List.setIfInBounds_toArray, List.set_cons_zero, List.set_cons_succ]
          refine take_dst (i := 26) 4 (v := ?_) rfl rfl (by kernel_rfl) (by kernel_rfl) (by kernel_rfl) (fun _ _ _ h => h) (Or.inl ⟨by kernel_rfl, ?_⟩) (by assumption) ?_
          rotate_left
          · intro w hSw
            go_simp
            try with_reducible rfl
          try simp only [Act.put, List.setIfInBounds_toArray, List.set_cons_zero, List.set_cons_succ]
          refine wpAnyH_done (by kernel_rfl) ?_ _
          try simp only [Act.put, List.setIfInBounds_toArray, List.set_cons_zero, List.set_cons_succ]
          clear c0 c1 c2 c3 c4 cf hqlt d0 d2 df hHeld3
          have hr7 := ((unhide HR5).alloc (.cells #[.pointer (some ⟨b, 0, none⟩)] 61)).alloc (.cells (expV (opW 10) (.slice (some ⟨w4.heap.size, 0, none⟩) 1 1) .empty noB t'.from_).toArray 93)
          obtain ⟨c0, c1, c2, c3, c4, cf, hqlt⟩ := five hr7.rd
          have hkw : IntKind.i64.wrap ((k' : Int) + 1) = (k' : Int) + 1 := by rw [IntKind.wrap_i64]; omega
          clear hr7
          go_wp2_with fail
          go_roundw
          case rel => exact ⟨_, rfl, SgI.below (unhide HN _ hb2).1 (Below.refl _ _).drew⟩
          case measure => exact (unhide HN _ hb2).2
        · rw [show (t'.k == 9) = false by simp [hsg]] at H1
          rw [show (t'.k == 10) = false by simp [hsg]] at H2
          rw [show (t'.k == 11) = true by simp [hsg]] at H3
          have HN := hide (fun W hb => SgI.next (wr := W) hT hqw (unhide HIr).1 hxb hxt hxo hR hfu ht' hrs 11 (by omega) hsg hb)
          have hwk : whatK t'.k = opW 11 := by rw [hsg]; rfl
          have HRs := hide hrs
          clear hR hrs hsg hxt hxo hxb hfu HIr
          go_wp2_with fail
          go_at_call 38
          refine (unhide H1 _ (Below.refl _ _)).mono ?_
          rintro e w3 ⟨rfl, hb1⟩
          go_wp2_with fail
          go_at_call 38
          refine (unhide H2 _ hb1).mono ?_
          rintro e w4 ⟨rfl, hb2⟩
          go_wp2_with fail
          go_at_call 38
          refine (unhide H3 _ hb2).mono ?_
          rintro e w5 ⟨rfl, hb3⟩
          have HR5 := hide ((unhide HRs).below hb3)
          obtain ⟨c0, c1, c2, c3, c4, cf, hqlt⟩ := five (unhide HR5).rd
          obtain ⟨str', f', hTR', d0, d1, d2, df, hkl', hkm', hBl'⟩ := (unhide HR5).cells k' t' ht'
          have hk0' : (0 : Int) ≤ (k' : Int) := Int.natCast_nonneg _
          have hL0 : ∀ (x : ByteArray) (a : Int) (v : Value), (((expV .empty (.slice none 0 0) .empty noB 0).set 0 (.string x)).set 259 (.int .i64 a)).set 1 v = expV x v .empty noB a := fun x a v => by rw [expV_op, expV_at, expV_l]
          clear hTR' d1
          go_wp2_with fail
          refine wp_region_held_drew (S := fun w' => w'.cell? ⟨q, 0, none⟩ = some (.slice (some ⟨B, 0, none⟩) T.length cap) ∧ w'.cell? ⟨q, 1, none⟩ = some (.int .i64 k') ∧ w'.cell? ⟨B, k' * 259, none⟩ = some (.string (whatK t'.k)) ∧ w'.cell? ⟨B, k' * 259 + 258, none⟩ = some (.int .i64 t'.from_)) (by kernel_rfl) ((unhide HR5).four ht') (fun hHeld => ?_)
          refine take_dst (i := 0) 56 (v := ?_) rfl rfl (by kernel_rfl) (by kernel_rfl) (by kernel_rfl) (fun _ _ _ h => h) (Or.inl ⟨by kernel_rfl, ?_⟩) (by assumption) ?_
          rotate_left
          · intro w hSw
            obtain ⟨s0, s1, s2, s3⟩ := hSw
            go_simp
            try with_reducible rfl
          try simp only [Act.put, List.setIfInBounds_toArray, List.set_cons_zero, List.set_cons_succ]
          refine take_dst (i := 1) 57 (v := ?_) rfl rfl (by kernel_rfl) (by kernel_rfl) (by kernel_rfl) (fun _ _ _ h => h) (Or.inl ⟨by kernel_rfl, ?_⟩) (by assumption) ?_
          rotate_left
          · intro w hSw
            obtain ⟨s0, s1, s2, s3⟩ := hSw
            go_simp
            try with_reducible rfl
          try simp only [Act.put, List.setIfInBounds_toArray, List.set_cons_zero, List.set_cons_succ]
          refine take_dst (i := 2) 58 (v := ?_) rfl rfl (by kernel_rfl) (by kernel_rfl) (by kernel_rfl) (fun _ _ _ h => h) (Or.inl ⟨by kernel_rfl, ?_⟩) (by assumption) ?_
          rotate_left
          · intro w hSw
            obtain ⟨s0, s1, s2, s3⟩ := hSw
            go_simp
            try with_reducible rfl
          try simp only [Act.put, List.setIfInBounds_toArray, List.set_cons_zero, List.set_cons_succ]
          refine take_dst (i := 3) 59 (v := ?_) rfl rfl (by kernel_rfl) (by kernel_rfl) (by kernel_rfl) (fun _ _ _ h => h) (Or.inl ⟨by kernel_rfl, ?_⟩) (by assumption) ?_
          rotate_left
          · intro w hSw
            obtain ⟨s0, s1, s2, s3⟩ := hSw
            go_simp
            try with_reducible rfl
          try simp only [Act.put, List.setIfInBounds_toArray, List.set_cons_zero, List.set_cons_succ]
          refine take_dst (i := 4) 60 (v := ?_) rfl rfl (by kernel_rfl) (by kernel_rfl) (by kernel_rfl) (fun _ _ _ h => h) (Or.inl ⟨by kernel_rfl, ?_⟩) (by assumption) ?_
          rotate_left
          · intro w hSw
            obtain ⟨s0, s1, s2, s3⟩ := hSw
            go_simp
            try with_reducible rfl
          try simp only [Act.put, List.setIfInBounds_toArray, List.set_cons_zero, List.set_cons_succ]
          refine take_dst (i := 5) 61 (v := ?_) rfl rfl (by kernel_rfl) (by kernel_rfl) (by kernel_rfl) (fun _ _ _ h => h) (Or.inl ⟨by kernel_rfl, ?_⟩) (by assumption) ?_
          rotate_left
          · intro w hSw
            obtain ⟨s0, s1, s2, s3⟩ := hSw
            go_simp
            try with_reducible rfl
          try simp only [Act.put, List.setIfInBounds_toArray, List.set_cons_zero, List.set_cons_succ]
          refine take_dst (i := 6) 62 (v := ?_) rfl rfl (by kernel_rfl) (by kernel_rfl) (by kernel_rfl) (fun _ _ _ h => h) (Or.inl ⟨by kernel_rfl, ?_⟩) (by assumption) ?_
          rotate_left
          · intro w hSw
            obtain ⟨s0, s1, s2, s3⟩ := hSw
            go_simp
            try with_reducible rfl
          try simp only [Act.put, List.setIfInBounds_toArray, List.set_cons_zero, List.set_cons_succ]
          refine take_dst (i := 7) 63 (v := ?_) rfl rfl (by kernel_rfl) (by kernel_rfl) (by kernel_rfl) (fun _ _ _ h => h) (Or.inl ⟨by kernel_rfl, ?_⟩) (by assumption) ?_
          rotate_left
          · intro w hSw
            obtain ⟨s0, s1, s2, s3⟩ := hSw
            go_simp
            try with_reducible rfl
          try simp only [Act.put, List.setIfInBounds_toArray, List.set_cons_zero, List.set_cons_succ]
          refine take_dst (i := 8) 64 (v := ?_) rfl rfl (by kernel_rfl) (by kernel_rfl) (by kernel_rfl) (fun _ _ _ h => h) (Or.inl ⟨by kernel_rfl, ?_⟩) (by assumption) ?_
          rotate_left
          · intro w hSw
            obtain ⟨s0, s1, s2, s3⟩ := hSw
            go_simp
            try with_reducible rfl
          try simp only [Act.put, List.setIfInBounds_toArray, List.set_cons_zero, List.set_cons_succ]
          refine take_dst (i := 9) 65 (v := ?_) rfl rfl (by kernel_rfl) (by kernel_rfl) (by kernel_rfl) (fun _ _ _ h => h) (Or.inl ⟨by kernel_rfl, ?_⟩) (by assumption) ?_
          rotate_left
          · intro w hSw
            obtain ⟨s0, s1, s2, s3⟩ := hSw
            go_simp
            try with_reducible rfl
          try simp only [Act.put, List.setIfInBounds_toArray, List.set_cons_zero, List.set_cons_succ]
          refine take_dst (i := 10) 66 (v := ?_) rfl rfl (by kernel_rfl) (by kernel_rfl) (by kernel_rfl) (fun _ _ _ h => h) (Or.inl ⟨by kernel_rfl, ?_⟩) (by assumption) ?_
          rotate_left
          · intro w hSw
            obtain ⟨s0, s1, s2, s3⟩ := hSw
            go_simp
            try with_reducible rfl
          try simp only [Act.put, List.setIfInBounds_toArray, List.set_cons_zero, List.set_cons_succ]
          refine take_dst (i := 11) 67 (v := ?_) rfl rfl (by kernel_rfl) (by kernel_rfl) (by kernel_rfl) (fun _ _ _ h => h) (Or.inl ⟨by kernel_rfl, ?_⟩) (by assumption) ?_
          rotate_left
          · intro w hSw
            obtain ⟨s0, s1, s2, s3⟩ := hSw
            go_simp
            try with_reducible rfl
          try simp only [Act.put, List.setIfInBounds_toArray, List.set_cons_zero, List.set_cons_succ]
          refine take_dst (i := 12) 68 (v := ?_) rfl rfl (by kernel_rfl) (by kernel_rfl) (by kernel_rfl) (fun _ _ _ h => h) (Or.inl ⟨by kernel_rfl, ?_⟩) (by assumption) ?_
          rotate_left
          · intro w hSw
            obtain ⟨s0, s1, s2, s3⟩ := hSw
            go_simp
            try with_reducible rfl
          try simp only [Act.put, List.setIfInBounds_toArray, List.set_cons_zero, List.set_cons_succ]
          refine take_dst (i := 13) 69 (v := ?_) rfl rfl (by kernel_rfl) (by kernel_rfl) (by kernel_rfl) (fun _ _ _ h => h) (Or.inl ⟨by kernel_rfl, ?_⟩) (by assumption) ?_
          rotate_left
          · intro w hSw
            obtain ⟨s0, s1, s2, s3⟩ := hSw
            go_simp
            try with_reducible rfl
          try simp only [Act.put, List.setIfInBounds_toArray, List.set_cons_zero, List.set_cons_succ]
          refine take_dst (i := 14) 70 (v := ?_) rfl rfl (by kernel_rfl) (by kernel_rfl) (by kernel_rfl) (fun _ _ _ h => h) (Or.inl ⟨by kernel_rfl, ?_⟩) (by assumption) ?_
          rotate_left
          · intro w hSw
            obtain ⟨s0, s1, s2, s3⟩ := hSw
            go_simp
            try with_reducible rfl
          try simp only [Act.put, List.setIfInBounds_toArray, List.set_cons_zero, List.set_cons_succ]
          refine take_dst (i := 15) 71 (v := ?_) rfl rfl (by kernel_rfl) (by kernel_rfl) (by kernel_rfl) (fun _ _ _ h => h) (Or.inl ⟨by kernel_rfl, ?_⟩) (by assumption) ?_
          rotate_left
          · intro w hSw
            obtain ⟨s0, s1, s2, s3⟩ := hSw
            go_simp
            try with_reducible rfl
          try simp only [Act.put, List.setIfInBounds_toArray, List.set_cons_zero, List.set_cons_succ]
          refine take_dst (i := 16) 72 (v := ?_) rfl rfl (by kernel_rfl) (by kernel_rfl) (by kernel_rfl) (fun _ _ _ h => h) (Or.inl ⟨by kernel_rfl, ?_⟩) (by assumption) ?_
          rotate_left
          · intro w hSw
            obtain ⟨s0, s1, s2, s3⟩ := hSw
            go_simp
            try with_reducible rfl
          try simp only [Act.put, List.setIfInBounds_toArray, List.set_cons_zero, List.set_cons_succ]
          refine take_dst (i := 17) 73 (v := ?_) rfl rfl (by kernel_rfl) (by kernel_rfl) (by kernel_rfl) (fun _ _ _ h => h) (Or.inl ⟨by kernel_rfl, ?_⟩) (by assumption) ?_
          rotate_left
          · intro w hSw
            obtain ⟨s0, s1, s2, s3⟩ := hSw
            go_simp
            try with_reducible rfl
          try simp only [Act.put, List.setIfInBounds_toArray, List.set_cons_zero, List.set_cons_succ]
          refine take_dst (i := 18) 74 (v := ?_) rfl rfl (by kernel_rfl) (by kernel_rfl) (by kernel_rfl) (fun _ _ _ h => h) (Or.inl ⟨by kernel_rfl, ?_⟩) (by assumption) ?_
          rotate_left
          · intro w hSw
            obtain ⟨s0, s1, s2, s3⟩ := hSw
            go_simp
            try with_reducible rfl
          try simp only [Act.put, List.setIfInBounds_toArray, List.set_cons_zero, List.set_cons_succ]
          refine take_dst (i := 19) 75 (v := ?_) rfl rfl (by kernel_rfl) (by kernel_rfl) (by kernel_rfl) (fun _ _ _ h => h) (Or.inl ⟨by kernel_rfl, ?_⟩) (by assumption) ?_
          rotate_left
          · intro w hSw
            obtain ⟨s0, s1, s2, s3⟩ := hSw
            go_simp
            try with_reducible rfl
          try simp only [Act.put, List.setIfInBounds_toArray, List.set_cons_zero, List.set_cons_succ]
          refine take_dst (i := 20) 76 (v := ?_) rfl rfl (by kernel_rfl) (by kernel_rfl) (by kernel_rfl) (fun _ _ _ h => h) (Or.inl ⟨by kernel_rfl, ?_⟩) (by assumption) ?_
          rotate_left
          · intro w hSw
            obtain ⟨s0, s1, s2, s3⟩ := hSw
            go_simp
            try with_reducible rfl
          try simp only [Act.put, List.setIfInBounds_toArray, List.set_cons_zero, List.set_cons_succ]
          refine take_dst (i := 21) 77 (v := ?_) rfl rfl (by kernel_rfl) (by kernel_rfl) (by kernel_rfl) (fun _ _ _ h => h) (Or.inl ⟨by kernel_rfl, ?_⟩) (by assumption) ?_
          rotate_left
          · intro w hSw
            obtain ⟨s0, s1, s2, s3⟩ := hSw
            go_simp
            try with_reducible rfl
          try simp only [Act.put, List.setIfInBounds_toArray, List.set_cons_zero, List.set_cons_succ]
          refine take_dst (i := 22) 78 (v := ?_) rfl rfl (by kernel_rfl) (by kernel_rfl) (by kernel_rfl) (fun _ _ _ h => h) (Or.inl ⟨by kernel_rfl, ?_⟩) (by assumption) ?_
          rotate_left
          · intro w hSw
            obtain ⟨s0, s1, s2, s3⟩ := hSw
            go_simp
            try with_reducible rfl
          try simp only [Act.put, List.setIfInBounds_toArray, List.set_cons_zero, List.set_cons_succ]
          refine wpAnyH_ready (rs := [23]) (by kernel_rfl) (by simp) ?_
          refine AllReadyH.cons rfl (fun K hK => ?_) AllReadyH.nil
          go_simp
          refine hK.out _ _ ?_ (fun hHeld2 => ?_)
          · exact (((unhide HR5).below (Below.refl _ _).drew).alloc _).four ht'
          clear hK K hHeld
          try simp only [Act.put, List.setIfInBounds_toArray, List.set_cons_zero, List.set_cons_succ]
          refine take_dst (i := 24) 80 (v := ?_) rfl rfl (by kernel_rfl) (by kernel_rfl) (by kernel_rfl) (fun _ _ _ h => h) (Or.inl ⟨by kernel_rfl, ?_⟩) (by assumption) ?_
          rotate_left
          · intro w hSw
            obtain ⟨s0, s1, s2, s3⟩ := hSw
            go_simp
            try with_reducible rfl
          try simp only [Act.put, List.setIfInBounds_toArray, List.set_cons_zero, List.set_cons_succ]
          refine wpAnyH_ready (rs := [25]) (by kernel_rfl) (by simp) ?_
          refine AllReadyH.cons rfl (fun K hK => ?_) AllReadyH.nil
          go_simp
          refine hK.out _ _ ?_ (fun hHeld3 => ?_)
          · exact ((((unhide HR5).below (Below.refl _ _).drew).alloc _).alloc _).four ht'
          clear hK K hHeld2
          try simp only [Act.put, List.setIfInBounds_toArray, List.set_cons_zero, List.set_cons_succ]
          refine take_dst (i := 26) 4 (v := ?_) rfl rfl (by kernel_rfl) (by kernel_rfl) (by kernel_rfl) (fun _ _ _ h => h) (Or.inl ⟨by kernel_rfl, ?_⟩) (by assumption) ?_
          rotate_left
          · intro w hSw
            go_simp
            try with_reducible rfl
          try simp only [Act.put, List.setIfInBounds_toArray, List.set_cons_zero, List.set_cons_succ]
          refine wpAnyH_done (by kernel_rfl) ?_ _
          try simp only [Act.put, List.setIfInBounds_toArray, List.set_cons_zero, List.set_cons_succ]
          clear c0 c1 c2 c3 c4 cf hqlt d0 d2 df hHeld3
          have hr7 := ((unhide HR5).alloc (.cells #[.pointer (some ⟨b, 0, none⟩)] 61)).alloc (.cells (expV (opW 11) (.slice (some ⟨w5.heap.size, 0, none⟩) 1 1) .empty noB t'.from_).toArray 93)
          obtain ⟨c0, c1, c2, c3, c4, cf, hqlt⟩ := five hr7.rd
          have hkw : IntKind.i64.wrap ((k' : Int) + 1) = (k' : Int) + 1 := by rw [IntKind.wrap_i64]; omega
          clear hr7
          go_wp2_with fail
          go_roundw
          case rel => exact ⟨_, rfl, SgI.below (unhide HN _ hb3).1 (Below.refl _ _).drew⟩
          case measure => exact (unhide HN _ hb3).2
      · rw [show (t'.k == 9) = false by simp; omega] at H1
        rw [show (t'.k == 10) = false by simp; omega] at H2
        rw [show (t'.k == 11) = false by simp; omega] at H3
        have hsf : signsF s (kf + 1) x.norm t' = (x.norm, t') := by
          unfold signsF
          rw [if_neg (by simp; omega)]
        rw [hsf] at hR
        have HE := hide (fun W (hb : Below wr.heap.size wr W) => (show OkO w q B cap s T d (itemF s E (n + 1) t d) b W from ⟨(unhide HIr).1.trans (.of_below hb (Nat.le_refl _)), .inl ⟨by rw [hR], x, hxb, hxt.below hb, hxo, by rw [hR], k', by rw [hR]; exact ht', hrs.below hb⟩⟩))
        clear hR hrs hsf hsg
        go_wp2_with fail
        go_at_call 38
        refine (unhide H1 _ (Below.refl _ _)).mono ?_
        rintro e w3 ⟨rfl, hb1⟩
        go_wp2_with fail
        go_at_call 38
        refine (unhide H2 _ hb1).mono ?_
        rintro e w4 ⟨rfl, hb2⟩
        go_wp2_with fail
        go_at_call 38
        refine (unhide H3 _ hb2).mono ?_
        rintro e w5 ⟨rfl, hb3⟩
        go_wp2
        go_ret
        exact ⟨b, rfl, unhide HE _ hb3⟩
    · have H1 := hide (fun m => is_err (w := wr.drewN m) (whatK 9) (hrs.drewN m) he)
      have H2 := hide (fun m => is_err (w := wr.drewN m) (whatK 10) (hrs.drewN m) he)
      have H3 := hide (fun m => is_err (w := wr.drewN m) (whatK 11) (hrs.drewN m) he)
      have HE := hide (fun m => (show OkO w q B cap s T d (itemF s E (n + 1) t d) b (wr.drewN m) from ⟨(unhide HIr).1.trans (.of_below (below_drewN' (Below.refl _ _) m) (Nat.le_refl _)), .inr ⟨by rw [hR]; exact he, kk, by rw [hR]; exact hrs.drewN m⟩⟩))
      clear hR he hrs
      go_wp2_with fail
      go_at_call 38
      refine (unhide H1 0).mono ?_
      rintro e w3 ⟨rfl, m1, rfl⟩
      go_wp2_with fail
      go_at_call 38
      refine (unhide H2 _).mono ?_
      rintro e w3 ⟨rfl, m2, rfl⟩
      go_wp2_with fail
      go_at_call 38
      refine (unhide H3 _).mono ?_
      rintro e w3 ⟨rfl, m3, rfl⟩
      go_wp2
      go_ret
      exact ⟨b, rfl, unhide HE _⟩
end Go.Proofs.YtbojcemamhiodaaGreatDoor
namespace Go.Proofs.YtbojcemamhiodaaGreatDoor
open Go.RowKit
theorem signed_any (q B cap : Nat) (s : ByteArray) (T : List Tk) (d : Int) (E : Tk → Int → Res) (hs : s.size ≤ 400) (hT : ChainT s T) (h0 : 0 ≤ d) (hd : d ≤ 12) (hF : d < 12 → FineE s E (d + 1)) (hC : d < 12 → SaidCh s q B cap T 37 E (d + 1)) :
    ∀ (n : Nat) (w : World) (k : Nat) (t : Tk), T[k]? = some t → atIt s t = true → (s.size : Int) < n + t.from_ → RS w q B cap s T k d 0 0 → Calls Tryz.prog 94 #[.pointer (some ⟨q, 0, none⟩)] w (OutX w q B cap s T d (itemF s E n t d))
  | 0, w, k, t, ht, ha, hn, hr => by
    obtain ⟨hok, _, _⟩ := hT.ok k t ht
    have h1 := hok.le
    have h2 := hok.size
    omega
  | n + 1, w, k, t, ht, ha, hn, hr => by
    obtain ⟨hok, h17, hnx⟩ := hT.ok k t ht
    have h2 := atIt_ge ha
    have hnx2 := hnx h2
    have hN := hok.next
    have hlt := hok.lt h2
    have hI : atIt s (nextT s t.to) = true → ∀ W, RS W q B cap s T ((k : Int) + 1) d 0 0 → Calls Tryz.prog 94 #[.pointer (some ⟨q, 0, none⟩)] W (OutX W q B cap s T d (itemF s E n (nextT s t.to) d)) :=
      fun ha' W hW => signed_any q B cap s T d E hs hT h0 hd hF hC n W (k + 1) _ hnx2 ha' (by omega) (by rw [show ((k + 1 : Nat) : Int) = (k : Int) + 1 by omega]; exact hW)
    by_cases h7 : t.k = 7
    · cases ha' : atIt s (nextT s t.to) with
      | false => exact signed_no7 w q B cap s T d E t k hT ht hr n h7 ha'
      | true => exact signed_look7 w q B cap s T d E t k hT ht hr n h7 ha' (hI ha')
    · by_cases h8 : t.k = 8
      · cases ha' : atIt s (nextT s t.to) with
        | false => exact signed_no8 w q B cap s T d E t k hT ht hr n h8 ha'
        | true => exact signed_look8 w q B cap s T d E t k hT ht hr n h8 ha' (hI ha')
      · exact signed_rep w q B cap s T d E t k hT ht hr n h7 h8 h2 hF (fun W hW => refSingle_any W q B cap s T d E t k hT ht hW ha h7 h8 h0 hd hF hC)
/-- the contract of choice, at every depth -/
theorem ref_expr_all (q B cap : Nat) (s : ByteArray) (T : List Tk) (hs : s.size ≤ 400) (hT : ChainT s T) : ∀ (n : Nat) (d : Int), 13 ≤ n + d → 0 ≤ d → d ≤ 12 → SaidCh s q B cap T 37 (exprN s n) d
  | 0, d, h, _, h2 => by omega
  | n + 1, d, h, h1, h2 => by
    have hF : d < 12 → FineE s (exprN s n) (d + 1) := fun hd => exprN_fine n (d + 1) (by omega) (by omega)
    have hC : d < 12 → SaidCh s q B cap T 37 (exprN s n) (d + 1) := fun hd => ref_expr_all q B cap s T hs hT n (d + 1) (by omega) (by omega) (by omega)
    have hI : SaidIt s q B cap T 94 (itemF s (exprN s n) (s.size + 1)) d := fun w k t ht ha hr => signed_any q B cap s T d _ hs hT h1 h2 hF hC (s.size + 1) w k t ht ha (by have := (hT.ok k t ht).1.from0; omega) hr
    have hW : SaidCh s q B cap T 62 (rowF s (exprN s n) (s.size + 1) []) d := fun w k t ht hr => refRow_any w q B cap s T d _ t k hs hT ht hr hF hI
    exact fun w k t ht hr => refChoice_any w q B cap s T d _ t k hs hT ht hr hF hW
end Go.Proofs.YtbojcemamhiodaaGreatDoor

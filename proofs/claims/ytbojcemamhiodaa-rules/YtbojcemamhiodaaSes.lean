import Derived.Test.YtbojcemamhiodaaSas
import Derived.Test.YtbojcemamhiodaaSbs
import Derived.Test.YtbojcemamhiodaaSbt
import Derived.Test.YtbojcemamhiodaaRgs
namespace Go.Proofs.Ytbojcemamhiodaa
open Go.RowKit
/-- single, where an item without a sign ahead begins -/
theorem refSingle_any (w : World) (q B cap : Nat) (s : ByteArray) (T : List Tk) (d : Int) (E : Tk → Int → Res) (t : Tk) (k : Nat) (hT : ChainT s T) (ht : T[k]? = some t) (hr : RS w q B cap s T k d 0 0) (ha : atIt s t = true) (h7 : t.k ≠ 7) (h8 : t.k ≠ 8)
    (h0 : 0 ≤ d) (hd : d ≤ 12) (hF : d < 12 → FineE s E (d + 1)) (hC : d < 12 → SaidCh s q B cap T 15 E (d + 1)) :
    Calls Try.prog 66 #[.pointer (some ⟨q, 0, none⟩)] w (OutX w q B cap s T d (singleF s E t d)) := by
  have hk : t.k = 4 ∨ t.k = 5 ∨ t.k = 12 ∨ t.k = 13 ∨ t.k = 15 ∨ t.k = 2 := by
    rw [atIt_def] at ha
    simp at ha
    omega
  rcases hk with hk | hk | hk | hk | hk | hk
  · exact single_word w q B cap s T d E t k hT ht hr hk
  · exact single_set w q B cap s T d E t k hT ht hr hk
  · exact single_dot w q B cap s T d E t k hT ht hr hk
  · by_cases h12 : d = 12
    · exact single_deep13 w q B cap s T d E t k hT ht hr hk h12
    · exact single_paren w q B cap s T d E t k hT ht hr h0 (by omega) (hF (by omega)) (hC (by omega)) hk
  · by_cases h12 : d = 12
    · exact single_deep15 w q B cap s T d E t k hT ht hr hk h12
    · by_cases h16 : (nextT s t.to).k = 16
      · exact single_plc w q B cap s T d E t k hT ht hr h0 (by omega) hk h16
      · cases hn : nmBefore s (nextT s t.to) 17
        · exact single_cat0 w q B cap s T d E t k hT ht hr h0 (by omega) (hF (by omega)) (hC (by omega)) hk h16 hn
        · exact single_cat1 w q B cap s T d E t k hT ht hr h0 (by omega) (hF (by omega)) (hC (by omega)) hk h16 hn
  · exact single_name w q B cap s T d E t k hT ht hr hk
end Go.Proofs.Ytbojcemamhiodaa
namespace Go.Proofs.Ytbojcemamhiodaa
open Go.RowKit
/-- a node with one kid, its list in a block of its own -/
theorem wrap_out {w w1 w2 : World} {q B cap b : Nat} {s : ByteArray} {T : List Tk} {d : Int} {r R : Res} {o a : Int} (ho : 7 ≤ o ∧ o ≤ 11) (ha : 0 ≤ a) (hb0 : But q w w1) (h : OkO w1 q B cap s T d r b w2)
    (h1 : r.err = 0 → R.err = 0 ∧ R.nd = ⟨o, a, .empty, [r.nd]⟩ ∧ R.tk = r.tk) (h2 : r.err ≠ 0 → R.err = r.err ∧ R.tk = r.tk) :
    OkO w q B cap s T d R (w2.heap.size + 1) ((w2.alloc (.cells #[.pointer (some ⟨b, 0, none⟩)] 57)).alloc (.cells (expV (opW o) (.slice (some ⟨w2.heap.size, 0, none⟩) 1 1) .empty noB a).toArray 86)) := by
  have hz0 := hb0.size
  have hz := h.bt.size
  have hB2 : Below w2.heap.size w2 ((w2.alloc (.cells #[.pointer (some ⟨b, 0, none⟩)] 57)).alloc (.cells (expV (opW o) (.slice (some ⟨w2.heap.size, 0, none⟩) 1 1) .empty noB a).toArray 86)) := ((Below.refl _ _).alloc (Nat.le_refl _) _).alloc (by simp) _
  have hex := ex_new (w2.alloc (.cells #[.pointer (some ⟨b, 0, none⟩)] 57)) (opW o) (.slice (some ⟨w2.heap.size, 0, none⟩) 1 1) .empty noB a
  rw [show (w2.alloc (.cells #[.pointer (some ⟨b, 0, none⟩)] 57)).heap.size = w2.heap.size + 1 from by simp] at hex
  refine ⟨(hb0.trans h.bt).below hB2 (by omega), ?_⟩
  rcases h.out with ⟨he, x, hxb, hxt, hxo, hxn, k', hk', hr⟩ | ⟨he, kk, hr⟩
  · left
    obtain ⟨r1, r2, r3⟩ := h1 he
    refine ⟨r1, ⟨w2.heap.size + 1, o, .empty, noB, a, [x]⟩, rfl, ?_, ?_, ?_, k', by rw [r3]; exact hk', hr.below hB2⟩
    · rw [Tree_iff]
      refine ⟨by dsimp only; omega, ⟨_, hex, rfl, .inr ⟨w2.heap.size, 1, #[.pointer (some ⟨b, 0, none⟩)], rfl, by omega, heap_old (heap_alloc_new w2 _), Nat.le_refl _, by unfold maxLen; omega, rfl, ?_⟩⟩, fun y hy => ?_⟩
      · show [Value.pointer (some ⟨b, 0, none⟩)] = [ptrX x]
        unfold ptrX
        rw [hxb]
      · have hy' : y = x := by simpa using hy
        rw [hy']
        refine Tree.turn (fun j hS hl => ⟨?_, hB2.block j hl⟩) x hxt
        have hS' : w1.heap.size ≤ j := hS
        omega
    · rw [OkX_iff]
      refine ⟨by dsimp only; omega, ha, fun h => by dsimp only at h; omega, fun _ => rfl, fun h => by dsimp only at h; omega, fun h => by dsimp only at h; omega, fun y hy => ?_⟩
      have hy' : y = x := by simpa using hy
      rw [hy']
      exact hxo
    · rw [Ex.norm_else _ (by dsimp only; omega), r2, ← hxn]
      show (⟨o, a, if o = 1 then _ else _, normL [x]⟩ : Nd) = _
      rw [if_neg (by omega)]
      rfl
  · right
    obtain ⟨r1, r2⟩ := h2 he
    exact ⟨by rw [r1]; exact he, kk, by rw [r1, r2]; exact hr.below hB2⟩
end Go.Proofs.Ytbojcemamhiodaa
namespace Go.Proofs.Ytbojcemamhiodaa
open Go.RowKit
set_option linter.unusedSimpArgs false in
set_option maxRecDepth 10000 in
set_option maxHeartbeats 4000000 in
theorem signed_no7 (w : World) (q B cap : Nat) (s : ByteArray) (T : List Tk) (d : Int) (E : Tk → Int → Res) (t : Tk) (k : Nat) (hT : ChainT s T) (ht : T[k]? = some t) (hr : RS w q B cap s T k d 0 0) (n : Nat) (hk : t.k = 7) (ha : atIt s (nextT s t.to) = false) :
    Calls Try.prog 51 #[.pointer (some ⟨q, 0, none⟩)] w (OutX w q B cap s T d (itemF s E (n + 1) t d)) := by
  obtain ⟨str, f, cs, hF⟩ := tok_facts hr ht
  have hkl := hF.hl
  have hkm := hF.hm
  have HTR := hide hF.tr
  have HF := hide hF
  have hzt := zeroTok
  have hk0 : (0 : Int) ≤ (k : Int) := Int.natCast_nonneg _
  have hqw := hr.lt
  have hfew := hT.few
  obtain ⟨hok, h17, hnx⟩ := hT.ok k t ht
  clear hF hr
  go_enter Try.func51, Try.ntmps51
  go_upto_region 1 with fail
  go_cut [3] (fun v wc => v = .pointer (some ⟨w.heap.size, 0, none⟩) ∧ Hid (TokB wc w.heap.size (whatK t.k) str f t.from_) ∧ Hid (RS wc q B cap s T k d 0 0) ∧ Hid (Below w.heap.size w wc))
  case first =>
    refine wp_region_held_drew (S := fun w' => w'.cell? ⟨q, 0, none⟩ = some (.slice (some ⟨B, 0, none⟩) T.length cap) ∧ w'.cell? ⟨q, 1, none⟩ = some (.int .i64 k) ∧ w'.rangeAt B (k * 259) cs) (by kernel_rfl) (unhide HF).s1 (fun hHeld => ?_)
    refine wpAnyH_take (i := 0) (v := ?_) rfl (by kernel_rfl) (by kernel_rfl) (by kernel_rfl) (fun _ _ _ h => h) (Or.inl ⟨by rfl, ?_⟩) (by assumption) ?_
    rotate_left
    · intro w hSw
      obtain ⟨s0, s1, s2⟩ := hSw
      go_simp
      try with_reducible rfl
    try simp only [Act.put, List.setIfInBounds_toArray, List.set_cons_zero, List.set_cons_succ]
    refine wpAnyH_take (i := 1) (v := ?_) rfl (by kernel_rfl) (by kernel_rfl) (by kernel_rfl) (fun _ _ _ h => h) (Or.inl ⟨by rfl, ?_⟩) (by assumption) ?_
    rotate_left
    · intro w hSw
      obtain ⟨s0, s1, s2⟩ := hSw
      go_simp
      try with_reducible rfl
    try simp only [Act.put, List.setIfInBounds_toArray, List.set_cons_zero, List.set_cons_succ]
    refine wpAnyH_take (i := 2) (v := ?_) rfl (by kernel_rfl) (by kernel_rfl) (by kernel_rfl) (fun _ _ _ h => h) (Or.inl ⟨by rfl, ?_⟩) (by assumption) ?_
    rotate_left
    · intro w hSw
      obtain ⟨s0, s1, s2⟩ := hSw
      go_simp
      try with_reducible rfl
    try simp only [Act.put, List.setIfInBounds_toArray, List.set_cons_zero, List.set_cons_succ]
    refine wpAnyH_take (i := 3) (v := ?_) rfl (by kernel_rfl) (by kernel_rfl) (by kernel_rfl) (fun _ _ _ h => h) (Or.inl ⟨by rfl, ?_⟩) (by assumption) ?_
    rotate_left
    · intro w hSw
      obtain ⟨s0, s1, s2⟩ := hSw
      go_simp
      try with_reducible rfl
    try simp only [Act.put, List.setIfInBounds_toArray, List.set_cons_zero, List.set_cons_succ]
    refine wpAnyH_take (i := 4) (v := ?_) rfl (by kernel_rfl) (by kernel_rfl) (by kernel_rfl) (fun _ _ _ h => h) (Or.inl ⟨by rfl, ?_⟩) (by assumption) ?_
    rotate_left
    · intro w hSw
      obtain ⟨s0, s1, s2⟩ := hSw
      go_simp
      try with_reducible rfl
    try simp only [Act.put, List.setIfInBounds_toArray, List.set_cons_zero, List.set_cons_succ]
    refine wpAnyH_take (i := 5) (v := ?_) rfl (by kernel_rfl) (by kernel_rfl) (by kernel_rfl) (fun _ _ _ h => h) (Or.inl ⟨by rfl, ?_⟩) (by assumption) ?_
    rotate_left
    · intro w hSw
      obtain ⟨s0, s1, s2⟩ := hSw
      go_simp
      try with_reducible rfl
    try simp only [Act.put, List.setIfInBounds_toArray, List.set_cons_zero, List.set_cons_succ]
    refine wpAnyH_take (i := 6) (v := ?_) rfl (by kernel_rfl) (by kernel_rfl) (by kernel_rfl) (fun _ _ _ h => h) (Or.inl ⟨by rfl, ?_⟩) (by assumption) ?_
    rotate_left
    · intro w hSw
      obtain ⟨s0, s1, s2⟩ := hSw
      go_simp
      try with_reducible rfl
    try simp only [Act.put, List.setIfInBounds_toArray, List.set_cons_zero, List.set_cons_succ]
    refine wpAnyH_take (i := 7) (v := ?_) rfl (by kernel_rfl) (by kernel_rfl) (by kernel_rfl) (fun _ _ _ h => h) (Or.inl ⟨by rfl, ?_⟩) (by assumption) ?_
    rotate_left
    · intro w hSw
      obtain ⟨s0, s1, s2⟩ := hSw
      go_simp
      try with_reducible rfl
    try simp only [Act.put, List.setIfInBounds_toArray, List.set_cons_zero, List.set_cons_succ]
    refine wpAnyH_take (i := 8) (v := ?_) rfl (by kernel_rfl) (by kernel_rfl) (by kernel_rfl) (fun _ _ _ h => h) (Or.inl ⟨by rfl, ?_⟩) (by assumption) ?_
    rotate_left
    · intro w hSw
      obtain ⟨s0, s1, s2⟩ := hSw
      go_simp
      try with_reducible rfl
    try simp only [Act.put, List.setIfInBounds_toArray, List.set_cons_zero, List.set_cons_succ]
    refine wpAnyH_take (i := 9) (v := .agg cs.toArray) rfl (by kernel_rfl) (by kernel_rfl) (by kernel_rfl) (fun _ _ _ h => h) (yieldsIf_load_mid (by rfl) 56 (.tmp 13) (by rfl) B (k * 259) ?hx cs _ (fun w hSw => ?hs) Try.underlying56 (by simp [TypeDesc.isRow]) (unhide HF).hi) (by assumption) ?rst
    case hx => go_simp
    case hs => exact hSw.2.2
    case rst =>
    try simp only [Act.put, List.setIfInBounds_toArray, List.set_cons_zero, List.set_cons_succ]
    clear hHeld
    refine wpAnyH_ready (rs := [10]) (by kernel_rfl) (by simp) ?_
    refine AllReadyH.cons rfl (fun K hK => ?_) AllReadyH.nil
    go_simp
    refine hK.out _ _ (unhide HF).s2 (fun hHeld2 => ?_)
    clear hK K
    try simp only [Act.put, List.setIfInBounds_toArray, List.set_cons_zero, List.set_cons_succ]
    refine wpAnyH_ready (rs := [11]) (by kernel_rfl) (by simp) ?_
    refine AllReadyH.cons rfl (fun K hK => ?_) AllReadyH.nil
    rw [if_pos (by rfl)]
    refine wp_store_mid0 rfl _ _ _ rfl _ _ cs.toArray rfl rfl (unhide HF).th (by rw [List.size_toArray]; exact (unhide HF).hi) (all_oneCell_toArray (unhide HF).one) ?_
    refine hK.out _ _ (unhide HF).s3 (fun _ => ?_)
    clear hK K hHeld2
    refine wpAnyH_done (by kernel_rfl) ?_ _
    try simp only [Act.put, List.setIfInBounds_toArray, List.set_cons_zero, List.set_cons_succ]
    go_wp2_with fail
    go_meet
    case rel => exact ⟨rfl, (unhide HF).tok, (unhide HF).rs, (unhide HF).bel⟩
  case rest =>
  obtain ⟨rfl, HTc, HRc, HBc⟩ := hcut
  clear HF hzt
  have hcz := (unhide HBc).size
  obtain ⟨c0, c1, c2, c3, c4, cf, hqlt⟩ := five (unhide HRc).rd
  have t0 := (unhide HTc).c0
  have t1 := (unhide HTc).c1
  have tl := (unhide HTc).lt
  have hNq : w.heap.size ≠ q := by omega
  have hres : itemF s E (n + 1) t d = errR 2 (nextT s t.to) d := by
    rw [itemF_1 (by omega), if_neg (by simp [ha])]
  have e7 : ((whatK t.k).toList == [38]) = true := by rw [whatL 7 [38] (by decide +kernel) h17 (by omega)]; simp; omega
  have hnx2 := hnx (by omega)
  have hlk := (List.getElem?_eq_some_iff.1 hnx2).1
  have hze := zeroExp
  have hlenE := expV_len
  have hEne : ¬ expV .empty (.slice none 0 0) .empty noB 0 = [] := by unfold expV; simp
  have HRk := hide ((unhide HRc).setK ((k : Int) + 1))
  have HBk := hide ((But.of_below (unhide HBc) (Nat.le_refl _) : But q w wc).setCell (p := ⟨q, 1, none⟩) (.inl rfl) (.int .i64 ((k : Int) + 1)))
  have hcast : ((k + 1 : Nat) : Int) = (k : Int) + 1 := by omega
  have hrk1 := unhide HRk
  rw [← hcast] at hrk1
  have HIt := hide (item_ok hT hrk1 hnx2)
  rw [hcast] at HIt
  clear hrk1
  rw [ha] at HIt
  have hL0 : (expV .empty (.slice none 0 0) .empty noB 0).set 0 (.string ⟨#[114, 111, 119]⟩) = expV ⟨#[114, 111, 119]⟩ (.slice none 0 0) .empty noB 0 := rfl
  have HRR := hide hres
  clear hk ha hres
  go_wp2_with fail
  go_at_call 50
  refine (unhide HIt).mono ?_
  rintro e w3 ⟨rfl, hb3⟩
  have hr3 := (unhide HRk).below hb3
  have HB3 := hide ((unhide HBk).trans (.of_below hb3 (Nat.le_refl _)))
  rw [← hcast] at hr3
  have HWr := hide (wrong_ok 2 hr3 hnx2)
  clear hb3 hr3
  go_wp2_with fail
  go_at_call 17
  refine (unhide HWr).mono ?_
  rintro e w4 ⟨rfl, hrs4, hb4⟩
  have HR4 := hide hrs4
  have HB4 := hide ((unhide HB3).trans hb4)
  clear hrs4 hb4
  go_wp2
  go_ret
  refine ⟨_, rfl, err_out (k' := ((k + 1 : Nat) : Int)) (unhide HB4) ?_ ?_ _ _⟩
  · rw [unhide HRR]; show (2 : Int) ≠ 0; omega
  · rw [unhide HRR]; exact unhide HR4
set_option linter.unusedSimpArgs false in
set_option maxRecDepth 10000 in
set_option maxHeartbeats 4000000 in
theorem signed_no8 (w : World) (q B cap : Nat) (s : ByteArray) (T : List Tk) (d : Int) (E : Tk → Int → Res) (t : Tk) (k : Nat) (hT : ChainT s T) (ht : T[k]? = some t) (hr : RS w q B cap s T k d 0 0) (n : Nat) (hk : t.k = 8) (ha : atIt s (nextT s t.to) = false) :
    Calls Try.prog 51 #[.pointer (some ⟨q, 0, none⟩)] w (OutX w q B cap s T d (itemF s E (n + 1) t d)) := by
  obtain ⟨str, f, cs, hF⟩ := tok_facts hr ht
  have hkl := hF.hl
  have hkm := hF.hm
  have HTR := hide hF.tr
  have HF := hide hF
  have hzt := zeroTok
  have hk0 : (0 : Int) ≤ (k : Int) := Int.natCast_nonneg _
  have hqw := hr.lt
  have hfew := hT.few
  obtain ⟨hok, h17, hnx⟩ := hT.ok k t ht
  clear hF hr
  go_enter Try.func51, Try.ntmps51
  go_upto_region 1 with fail
  go_cut [3] (fun v wc => v = .pointer (some ⟨w.heap.size, 0, none⟩) ∧ Hid (TokB wc w.heap.size (whatK t.k) str f t.from_) ∧ Hid (RS wc q B cap s T k d 0 0) ∧ Hid (Below w.heap.size w wc))
  case first =>
    refine wp_region_held_drew (S := fun w' => w'.cell? ⟨q, 0, none⟩ = some (.slice (some ⟨B, 0, none⟩) T.length cap) ∧ w'.cell? ⟨q, 1, none⟩ = some (.int .i64 k) ∧ w'.rangeAt B (k * 259) cs) (by kernel_rfl) (unhide HF).s1 (fun hHeld => ?_)
    refine wpAnyH_take (i := 0) (v := ?_) rfl (by kernel_rfl) (by kernel_rfl) (by kernel_rfl) (fun _ _ _ h => h) (Or.inl ⟨by rfl, ?_⟩) (by assumption) ?_
    rotate_left
    · intro w hSw
      obtain ⟨s0, s1, s2⟩ := hSw
      go_simp
      try with_reducible rfl
    try simp only [Act.put, List.setIfInBounds_toArray, List.set_cons_zero, List.set_cons_succ]
    refine wpAnyH_take (i := 1) (v := ?_) rfl (by kernel_rfl) (by kernel_rfl) (by kernel_rfl) (fun _ _ _ h => h) (Or.inl ⟨by rfl, ?_⟩) (by assumption) ?_
    rotate_left
    · intro w hSw
      obtain ⟨s0, s1, s2⟩ := hSw
      go_simp
      try with_reducible rfl
    try simp only [Act.put, List.setIfInBounds_toArray, List.set_cons_zero, List.set_cons_succ]
    refine wpAnyH_take (i := 2) (v := ?_) rfl (by kernel_rfl) (by kernel_rfl) (by kernel_rfl) (fun _ _ _ h => h) (Or.inl ⟨by rfl, ?_⟩) (by assumption) ?_
    rotate_left
    · intro w hSw
      obtain ⟨s0, s1, s2⟩ := hSw
      go_simp
      try with_reducible rfl
    try simp only [Act.put, List.setIfInBounds_toArray, List.set_cons_zero, List.set_cons_succ]
    refine wpAnyH_take (i := 3) (v := ?_) rfl (by kernel_rfl) (by kernel_rfl) (by kernel_rfl) (fun _ _ _ h => h) (Or.inl ⟨by rfl, ?_⟩) (by assumption) ?_
    rotate_left
    · intro w hSw
      obtain ⟨s0, s1, s2⟩ := hSw
      go_simp
      try with_reducible rfl
    try simp only [Act.put, List.setIfInBounds_toArray, List.set_cons_zero, List.set_cons_succ]
    refine wpAnyH_take (i := 4) (v := ?_) rfl (by kernel_rfl) (by kernel_rfl) (by kernel_rfl) (fun _ _ _ h => h) (Or.inl ⟨by rfl, ?_⟩) (by assumption) ?_
    rotate_left
    · intro w hSw
      obtain ⟨s0, s1, s2⟩ := hSw
      go_simp
      try with_reducible rfl
    try simp only [Act.put, List.setIfInBounds_toArray, List.set_cons_zero, List.set_cons_succ]
    refine wpAnyH_take (i := 5) (v := ?_) rfl (by kernel_rfl) (by kernel_rfl) (by kernel_rfl) (fun _ _ _ h => h) (Or.inl ⟨by rfl, ?_⟩) (by assumption) ?_
    rotate_left
    · intro w hSw
      obtain ⟨s0, s1, s2⟩ := hSw
      go_simp
      try with_reducible rfl
    try simp only [Act.put, List.setIfInBounds_toArray, List.set_cons_zero, List.set_cons_succ]
    refine wpAnyH_take (i := 6) (v := ?_) rfl (by kernel_rfl) (by kernel_rfl) (by kernel_rfl) (fun _ _ _ h => h) (Or.inl ⟨by rfl, ?_⟩) (by assumption) ?_
    rotate_left
    · intro w hSw
      obtain ⟨s0, s1, s2⟩ := hSw
      go_simp
      try with_reducible rfl
    try simp only [Act.put, List.setIfInBounds_toArray, List.set_cons_zero, List.set_cons_succ]
    refine wpAnyH_take (i := 7) (v := ?_) rfl (by kernel_rfl) (by kernel_rfl) (by kernel_rfl) (fun _ _ _ h => h) (Or.inl ⟨by rfl, ?_⟩) (by assumption) ?_
    rotate_left
    · intro w hSw
      obtain ⟨s0, s1, s2⟩ := hSw
      go_simp
      try with_reducible rfl
    try simp only [Act.put, List.setIfInBounds_toArray, List.set_cons_zero, List.set_cons_succ]
    refine wpAnyH_take (i := 8) (v := ?_) rfl (by kernel_rfl) (by kernel_rfl) (by kernel_rfl) (fun _ _ _ h => h) (Or.inl ⟨by rfl, ?_⟩) (by assumption) ?_
    rotate_left
    · intro w hSw
      obtain ⟨s0, s1, s2⟩ := hSw
      go_simp
      try with_reducible rfl
    try simp only [Act.put, List.setIfInBounds_toArray, List.set_cons_zero, List.set_cons_succ]
    refine wpAnyH_take (i := 9) (v := .agg cs.toArray) rfl (by kernel_rfl) (by kernel_rfl) (by kernel_rfl) (fun _ _ _ h => h) (yieldsIf_load_mid (by rfl) 56 (.tmp 13) (by rfl) B (k * 259) ?hx cs _ (fun w hSw => ?hs) Try.underlying56 (by simp [TypeDesc.isRow]) (unhide HF).hi) (by assumption) ?rst
    case hx => go_simp
    case hs => exact hSw.2.2
    case rst =>
    try simp only [Act.put, List.setIfInBounds_toArray, List.set_cons_zero, List.set_cons_succ]
    clear hHeld
    refine wpAnyH_ready (rs := [10]) (by kernel_rfl) (by simp) ?_
    refine AllReadyH.cons rfl (fun K hK => ?_) AllReadyH.nil
    go_simp
    refine hK.out _ _ (unhide HF).s2 (fun hHeld2 => ?_)
    clear hK K
    try simp only [Act.put, List.setIfInBounds_toArray, List.set_cons_zero, List.set_cons_succ]
    refine wpAnyH_ready (rs := [11]) (by kernel_rfl) (by simp) ?_
    refine AllReadyH.cons rfl (fun K hK => ?_) AllReadyH.nil
    rw [if_pos (by rfl)]
    refine wp_store_mid0 rfl _ _ _ rfl _ _ cs.toArray rfl rfl (unhide HF).th (by rw [List.size_toArray]; exact (unhide HF).hi) (all_oneCell_toArray (unhide HF).one) ?_
    refine hK.out _ _ (unhide HF).s3 (fun _ => ?_)
    clear hK K hHeld2
    refine wpAnyH_done (by kernel_rfl) ?_ _
    try simp only [Act.put, List.setIfInBounds_toArray, List.set_cons_zero, List.set_cons_succ]
    go_wp2_with fail
    go_meet
    case rel => exact ⟨rfl, (unhide HF).tok, (unhide HF).rs, (unhide HF).bel⟩
  case rest =>
  obtain ⟨rfl, HTc, HRc, HBc⟩ := hcut
  clear HF hzt
  have hcz := (unhide HBc).size
  obtain ⟨c0, c1, c2, c3, c4, cf, hqlt⟩ := five (unhide HRc).rd
  have t0 := (unhide HTc).c0
  have t1 := (unhide HTc).c1
  have tl := (unhide HTc).lt
  have hNq : w.heap.size ≠ q := by omega
  have hres : itemF s E (n + 1) t d = errR 2 (nextT s t.to) d := by
    rw [itemF_1 (by omega), if_neg (by simp [ha])]
  have e7 : ((whatK t.k).toList == [38]) = false := by rw [whatL 7 [38] (by decide +kernel) h17 (by omega)]; simp; omega
  have e8 : ((whatK t.k).toList == [33]) = true := by rw [whatL 8 [33] (by decide +kernel) h17 (by omega)]; simp; omega
  have hnx2 := hnx (by omega)
  have hlk := (List.getElem?_eq_some_iff.1 hnx2).1
  have hze := zeroExp
  have hlenE := expV_len
  have hEne : ¬ expV .empty (.slice none 0 0) .empty noB 0 = [] := by unfold expV; simp
  have HRk := hide ((unhide HRc).setK ((k : Int) + 1))
  have HBk := hide ((But.of_below (unhide HBc) (Nat.le_refl _) : But q w wc).setCell (p := ⟨q, 1, none⟩) (.inl rfl) (.int .i64 ((k : Int) + 1)))
  have hcast : ((k + 1 : Nat) : Int) = (k : Int) + 1 := by omega
  have hrk1 := unhide HRk
  rw [← hcast] at hrk1
  have HIt := hide (item_ok hT hrk1 hnx2)
  rw [hcast] at HIt
  clear hrk1
  rw [ha] at HIt
  have hL0 : (expV .empty (.slice none 0 0) .empty noB 0).set 0 (.string ⟨#[114, 111, 119]⟩) = expV ⟨#[114, 111, 119]⟩ (.slice none 0 0) .empty noB 0 := rfl
  have HRR := hide hres
  clear hk ha hres
  go_wp2_with fail
  go_at_call 50
  refine (unhide HIt).mono ?_
  rintro e w3 ⟨rfl, hb3⟩
  have hr3 := (unhide HRk).below hb3
  have HB3 := hide ((unhide HBk).trans (.of_below hb3 (Nat.le_refl _)))
  rw [← hcast] at hr3
  have HWr := hide (wrong_ok 2 hr3 hnx2)
  clear hb3 hr3
  go_wp2_with fail
  go_at_call 17
  refine (unhide HWr).mono ?_
  rintro e w4 ⟨rfl, hrs4, hb4⟩
  have HR4 := hide hrs4
  have HB4 := hide ((unhide HB3).trans hb4)
  clear hrs4 hb4
  go_wp2
  go_ret
  refine ⟨_, rfl, err_out (k' := ((k + 1 : Nat) : Int)) (unhide HB4) ?_ ?_ _ _⟩
  · rw [unhide HRR]; show (2 : Int) ≠ 0; omega
  · rw [unhide HRR]; exact unhide HR4
end Go.Proofs.Ytbojcemamhiodaa
namespace Go.Proofs.Ytbojcemamhiodaa
open Go.RowKit
set_option linter.unusedSimpArgs false in
set_option maxRecDepth 10000 in
set_option maxHeartbeats 4000000 in
theorem signed_look7 (w : World) (q B cap : Nat) (s : ByteArray) (T : List Tk) (d : Int) (E : Tk → Int → Res) (t : Tk) (k : Nat) (hT : ChainT s T) (ht : T[k]? = some t) (hr : RS w q B cap s T k d 0 0) (n : Nat) (hk : t.k = 7) (ha : atIt s (nextT s t.to) = true) (hI : ∀ W, RS W q B cap s T ((k : Int) + 1) d 0 0 → Calls Try.prog 51 #[.pointer (some ⟨q, 0, none⟩)] W (OutX W q B cap s T d (itemF s E n (nextT s t.to) d))) :
    Calls Try.prog 51 #[.pointer (some ⟨q, 0, none⟩)] w (OutX w q B cap s T d (itemF s E (n + 1) t d)) := by
  obtain ⟨str, f, cs, hF⟩ := tok_facts hr ht
  have hkl := hF.hl
  have hkm := hF.hm
  have HTR := hide hF.tr
  have HF := hide hF
  have hzt := zeroTok
  have hk0 : (0 : Int) ≤ (k : Int) := Int.natCast_nonneg _
  have hqw := hr.lt
  have hfew := hT.few
  obtain ⟨hok, h17, hnx⟩ := hT.ok k t ht
  clear hF hr
  go_enter Try.func51, Try.ntmps51
  go_upto_region 1 with fail
  go_cut [3] (fun v wc => v = .pointer (some ⟨w.heap.size, 0, none⟩) ∧ Hid (TokB wc w.heap.size (whatK t.k) str f t.from_) ∧ Hid (RS wc q B cap s T k d 0 0) ∧ Hid (Below w.heap.size w wc))
  case first =>
    refine wp_region_held_drew (S := fun w' => w'.cell? ⟨q, 0, none⟩ = some (.slice (some ⟨B, 0, none⟩) T.length cap) ∧ w'.cell? ⟨q, 1, none⟩ = some (.int .i64 k) ∧ w'.rangeAt B (k * 259) cs) (by kernel_rfl) (unhide HF).s1 (fun hHeld => ?_)
    refine wpAnyH_take (i := 0) (v := ?_) rfl (by kernel_rfl) (by kernel_rfl) (by kernel_rfl) (fun _ _ _ h => h) (Or.inl ⟨by rfl, ?_⟩) (by assumption) ?_
    rotate_left
    · intro w hSw
      obtain ⟨s0, s1, s2⟩ := hSw
      go_simp
      try with_reducible rfl
    try simp only [Act.put, List.setIfInBounds_toArray, List.set_cons_zero, List.set_cons_succ]
    refine wpAnyH_take (i := 1) (v := ?_) rfl (by kernel_rfl) (by kernel_rfl) (by kernel_rfl) (fun _ _ _ h => h) (Or.inl ⟨by rfl, ?_⟩) (by assumption) ?_
    rotate_left
    · intro w hSw
      obtain ⟨s0, s1, s2⟩ := hSw
      go_simp
      try with_reducible rfl
    try simp only [Act.put, List.setIfInBounds_toArray, List.set_cons_zero, List.set_cons_succ]
    refine wpAnyH_take (i := 2) (v := ?_) rfl (by kernel_rfl) (by kernel_rfl) (by kernel_rfl) (fun _ _ _ h => h) (Or.inl ⟨by rfl, ?_⟩) (by assumption) ?_
    rotate_left
    · intro w hSw
      obtain ⟨s0, s1, s2⟩ := hSw
      go_simp
      try with_reducible rfl
    try simp only [Act.put, List.setIfInBounds_toArray, List.set_cons_zero, List.set_cons_succ]
    refine wpAnyH_take (i := 3) (v := ?_) rfl (by kernel_rfl) (by kernel_rfl) (by kernel_rfl) (fun _ _ _ h => h) (Or.inl ⟨by rfl, ?_⟩) (by assumption) ?_
    rotate_left
    · intro w hSw
      obtain ⟨s0, s1, s2⟩ := hSw
      go_simp
      try with_reducible rfl
    try simp only [Act.put, List.setIfInBounds_toArray, List.set_cons_zero, List.set_cons_succ]
    refine wpAnyH_take (i := 4) (v := ?_) rfl (by kernel_rfl) (by kernel_rfl) (by kernel_rfl) (fun _ _ _ h => h) (Or.inl ⟨by rfl, ?_⟩) (by assumption) ?_
    rotate_left
    · intro w hSw
      obtain ⟨s0, s1, s2⟩ := hSw
      go_simp
      try with_reducible rfl
    try simp only [Act.put, List.setIfInBounds_toArray, List.set_cons_zero, List.set_cons_succ]
    refine wpAnyH_take (i := 5) (v := ?_) rfl (by kernel_rfl) (by kernel_rfl) (by kernel_rfl) (fun _ _ _ h => h) (Or.inl ⟨by rfl, ?_⟩) (by assumption) ?_
    rotate_left
    · intro w hSw
      obtain ⟨s0, s1, s2⟩ := hSw
      go_simp
      try with_reducible rfl
    try simp only [Act.put, List.setIfInBounds_toArray, List.set_cons_zero, List.set_cons_succ]
    refine wpAnyH_take (i := 6) (v := ?_) rfl (by kernel_rfl) (by kernel_rfl) (by kernel_rfl) (fun _ _ _ h => h) (Or.inl ⟨by rfl, ?_⟩) (by assumption) ?_
    rotate_left
    · intro w hSw
      obtain ⟨s0, s1, s2⟩ := hSw
      go_simp
      try with_reducible rfl
    try simp only [Act.put, List.setIfInBounds_toArray, List.set_cons_zero, List.set_cons_succ]
    refine wpAnyH_take (i := 7) (v := ?_) rfl (by kernel_rfl) (by kernel_rfl) (by kernel_rfl) (fun _ _ _ h => h) (Or.inl ⟨by rfl, ?_⟩) (by assumption) ?_
    rotate_left
    · intro w hSw
      obtain ⟨s0, s1, s2⟩ := hSw
      go_simp
      try with_reducible rfl
    try simp only [Act.put, List.setIfInBounds_toArray, List.set_cons_zero, List.set_cons_succ]
    refine wpAnyH_take (i := 8) (v := ?_) rfl (by kernel_rfl) (by kernel_rfl) (by kernel_rfl) (fun _ _ _ h => h) (Or.inl ⟨by rfl, ?_⟩) (by assumption) ?_
    rotate_left
    · intro w hSw
      obtain ⟨s0, s1, s2⟩ := hSw
      go_simp
      try with_reducible rfl
    try simp only [Act.put, List.setIfInBounds_toArray, List.set_cons_zero, List.set_cons_succ]
    refine wpAnyH_take (i := 9) (v := .agg cs.toArray) rfl (by kernel_rfl) (by kernel_rfl) (by kernel_rfl) (fun _ _ _ h => h) (yieldsIf_load_mid (by rfl) 56 (.tmp 13) (by rfl) B (k * 259) ?hx cs _ (fun w hSw => ?hs) Try.underlying56 (by simp [TypeDesc.isRow]) (unhide HF).hi) (by assumption) ?rst
    case hx => go_simp
    case hs => exact hSw.2.2
    case rst =>
    try simp only [Act.put, List.setIfInBounds_toArray, List.set_cons_zero, List.set_cons_succ]
    clear hHeld
    refine wpAnyH_ready (rs := [10]) (by kernel_rfl) (by simp) ?_
    refine AllReadyH.cons rfl (fun K hK => ?_) AllReadyH.nil
    go_simp
    refine hK.out _ _ (unhide HF).s2 (fun hHeld2 => ?_)
    clear hK K
    try simp only [Act.put, List.setIfInBounds_toArray, List.set_cons_zero, List.set_cons_succ]
    refine wpAnyH_ready (rs := [11]) (by kernel_rfl) (by simp) ?_
    refine AllReadyH.cons rfl (fun K hK => ?_) AllReadyH.nil
    rw [if_pos (by rfl)]
    refine wp_store_mid0 rfl _ _ _ rfl _ _ cs.toArray rfl rfl (unhide HF).th (by rw [List.size_toArray]; exact (unhide HF).hi) (all_oneCell_toArray (unhide HF).one) ?_
    refine hK.out _ _ (unhide HF).s3 (fun _ => ?_)
    clear hK K hHeld2
    refine wpAnyH_done (by kernel_rfl) ?_ _
    try simp only [Act.put, List.setIfInBounds_toArray, List.set_cons_zero, List.set_cons_succ]
    go_wp2_with fail
    go_meet
    case rel => exact ⟨rfl, (unhide HF).tok, (unhide HF).rs, (unhide HF).bel⟩
  case rest =>
  obtain ⟨rfl, HTc, HRc, HBc⟩ := hcut
  clear HF hzt
  have hcz := (unhide HBc).size
  obtain ⟨c0, c1, c2, c3, c4, cf, hqlt⟩ := five (unhide HRc).rd
  have t0 := (unhide HTc).c0
  have t1 := (unhide HTc).c1
  have tl := (unhide HTc).lt
  have hNq : w.heap.size ≠ q := by omega
  have hres : itemF s E (n + 1) t d = lookF t.k (itemF s E n (nextT s t.to) d) := by
    rw [itemF_1 (by omega), if_pos ha]
  have e7 : ((whatK t.k).toList == [38]) = true := by rw [whatL 7 [38] (by decide +kernel) h17 (by omega)]; simp; omega
  have hnx2 := hnx (by omega)
  have hlk := (List.getElem?_eq_some_iff.1 hnx2).1
  have hze := zeroExp
  have hlenE := expV_len
  have hEne : ¬ expV .empty (.slice none 0 0) .empty noB 0 = [] := by unfold expV; simp
  have HRk := hide ((unhide HRc).setK ((k : Int) + 1))
  have HBk := hide ((But.of_below (unhide HBc) (Nat.le_refl _) : But q w wc).setCell (p := ⟨q, 1, none⟩) (.inl rfl) (.int .i64 ((k : Int) + 1)))
  have hcast : ((k + 1 : Nat) : Int) = (k : Int) + 1 := by omega
  have hrk1 := unhide HRk
  rw [← hcast] at hrk1
  have HIt := hide (item_ok hT hrk1 hnx2)
  rw [hcast] at HIt
  clear hrk1
  rw [ha] at HIt
  have hL0 : ∀ x v, ((expV .empty (.slice none 0 0) .empty noB 0).set 0 (.string x)).set 1 v = expV x v .empty noB 0 := fun _ _ => rfl
  have HRR := hide hres
  have HI := hide hI
  have Hk := hide hk
  generalize hrr : itemF s E n (nextT s t.to) d = r at HI HRR
  clear hk ha hres hI hrr
  go_wp2_with fail
  go_at_call 50
  refine (unhide HIt).mono ?_
  rintro e w3 ⟨rfl, hb3⟩
  have HR3 := hide ((unhide HRk).below hb3)
  have HB3 := hide ((unhide HBk).trans (.of_below hb3 (Nat.le_refl _)))
  have HT3 := hide (((unhide HTc).other (p := ⟨q, 1, none⟩) (show q ≠ w.heap.size by omega) (.int .i64 ((k : Int) + 1))).below hb3 (Nat.le_refl _))
  clear hb3 t0 t1 tl
  have t0 := (unhide HT3).c0
  have tl := (unhide HT3).lt
  go_wp2_with fail
  go_region_law
    (first | (refine step_wp (by rfl) ?_; go_simp; go_at_call 51; refine (unhide HI _ ((unhide HR3).below (Below.refl _ _).drew)).mono ?_; rintro e w2 ⟨b, rfl, ho⟩; have HO := hide ho; clear ho; have HB2 := hide (But.from_drew (unhide HO).bt); have hS2 := TokB.c0 (((unhide HB2).block w.heap.size tl hNq).trans (unhide HT3)); have hz2 := (unhide HB2).size; have hlt2 : w.heap.size < w2.heap.size := by omega))
  all_goals
    have HFin := hide (wrap_out (R := itemF s E (n + 1) t d) (o := 7) (a := 0) (by omega) (by omega) (unhide HB3) (show OkO w3 q B cap s T d r b w2 from ⟨unhide HB2, (unhide HO).out⟩) (fun he => by rw [unhide HRR]; unfold lookF; rw [if_neg (by omega), unhide Hk]; exact ⟨rfl, rfl, rfl⟩) (fun he => by rw [unhide HRR]; unfold lookF; rw [if_pos he]; exact ⟨rfl, rfl⟩))
    have hop : whatK t.k = opW 7 := by rw [unhide Hk]; rfl
    have HOp := hide hop
    clear hop
    go_wp2
    go_ret
    rw [unhide HOp]
    exact ⟨_, rfl, unhide HFin⟩
set_option linter.unusedSimpArgs false in
set_option maxRecDepth 10000 in
set_option maxHeartbeats 4000000 in
theorem signed_look8 (w : World) (q B cap : Nat) (s : ByteArray) (T : List Tk) (d : Int) (E : Tk → Int → Res) (t : Tk) (k : Nat) (hT : ChainT s T) (ht : T[k]? = some t) (hr : RS w q B cap s T k d 0 0) (n : Nat) (hk : t.k = 8) (ha : atIt s (nextT s t.to) = true) (hI : ∀ W, RS W q B cap s T ((k : Int) + 1) d 0 0 → Calls Try.prog 51 #[.pointer (some ⟨q, 0, none⟩)] W (OutX W q B cap s T d (itemF s E n (nextT s t.to) d))) :
    Calls Try.prog 51 #[.pointer (some ⟨q, 0, none⟩)] w (OutX w q B cap s T d (itemF s E (n + 1) t d)) := by
  obtain ⟨str, f, cs, hF⟩ := tok_facts hr ht
  have hkl := hF.hl
  have hkm := hF.hm
  have HTR := hide hF.tr
  have HF := hide hF
  have hzt := zeroTok
  have hk0 : (0 : Int) ≤ (k : Int) := Int.natCast_nonneg _
  have hqw := hr.lt
  have hfew := hT.few
  obtain ⟨hok, h17, hnx⟩ := hT.ok k t ht
  clear hF hr
  go_enter Try.func51, Try.ntmps51
  go_upto_region 1 with fail
  go_cut [3] (fun v wc => v = .pointer (some ⟨w.heap.size, 0, none⟩) ∧ Hid (TokB wc w.heap.size (whatK t.k) str f t.from_) ∧ Hid (RS wc q B cap s T k d 0 0) ∧ Hid (Below w.heap.size w wc))
  case first =>
    refine wp_region_held_drew (S := fun w' => w'.cell? ⟨q, 0, none⟩ = some (.slice (some ⟨B, 0, none⟩) T.length cap) ∧ w'.cell? ⟨q, 1, none⟩ = some (.int .i64 k) ∧ w'.rangeAt B (k * 259) cs) (by kernel_rfl) (unhide HF).s1 (fun hHeld => ?_)
    refine wpAnyH_take (i := 0) (v := ?_) rfl (by kernel_rfl) (by kernel_rfl) (by kernel_rfl) (fun _ _ _ h => h) (Or.inl ⟨by rfl, ?_⟩) (by assumption) ?_
    rotate_left
    · intro w hSw
      obtain ⟨s0, s1, s2⟩ := hSw
      go_simp
      try with_reducible rfl
    try simp only [Act.put, List.setIfInBounds_toArray, List.set_cons_zero, List.set_cons_succ]
    refine wpAnyH_take (i := 1) (v := ?_) rfl (by kernel_rfl) (by kernel_rfl) (by kernel_rfl) (fun _ _ _ h => h) (Or.inl ⟨by rfl, ?_⟩) (by assumption) ?_
    rotate_left
    · intro w hSw
      obtain ⟨s0, s1, s2⟩ := hSw
      go_simp
      try with_reducible rfl
    try simp only [Act.put, List.setIfInBounds_toArray, List.set_cons_zero, List.set_cons_succ]
    refine wpAnyH_take (i := 2) (v := ?_) rfl (by kernel_rfl) (by kernel_rfl) (by kernel_rfl) (fun _ _ _ h => h) (Or.inl ⟨by rfl, ?_⟩) (by assumption) ?_
    rotate_left
    · intro w hSw
      obtain ⟨s0, s1, s2⟩ := hSw
      go_simp
      try with_reducible rfl
    try simp only [Act.put, List.setIfInBounds_toArray, List.set_cons_zero, List.set_cons_succ]
    refine wpAnyH_take (i := 3) (v := ?_) rfl (by kernel_rfl) (by kernel_rfl) (by kernel_rfl) (fun _ _ _ h => h) (Or.inl ⟨by rfl, ?_⟩) (by assumption) ?_
    rotate_left
    · intro w hSw
      obtain ⟨s0, s1, s2⟩ := hSw
      go_simp
      try with_reducible rfl
    try simp only [Act.put, List.setIfInBounds_toArray, List.set_cons_zero, List.set_cons_succ]
    refine wpAnyH_take (i := 4) (v := ?_) rfl (by kernel_rfl) (by kernel_rfl) (by kernel_rfl) (fun _ _ _ h => h) (Or.inl ⟨by rfl, ?_⟩) (by assumption) ?_
    rotate_left
    · intro w hSw
      obtain ⟨s0, s1, s2⟩ := hSw
      go_simp
      try with_reducible rfl
    try simp only [Act.put, List.setIfInBounds_toArray, List.set_cons_zero, List.set_cons_succ]
    refine wpAnyH_take (i := 5) (v := ?_) rfl (by kernel_rfl) (by kernel_rfl) (by kernel_rfl) (fun _ _ _ h => h) (Or.inl ⟨by rfl, ?_⟩) (by assumption) ?_
    rotate_left
    · intro w hSw
      obtain ⟨s0, s1, s2⟩ := hSw
      go_simp
      try with_reducible rfl
    try simp only [Act.put, List.setIfInBounds_toArray, List.set_cons_zero, List.set_cons_succ]
    refine wpAnyH_take (i := 6) (v := ?_) rfl (by kernel_rfl) (by kernel_rfl) (by kernel_rfl) (fun _ _ _ h => h) (Or.inl ⟨by rfl, ?_⟩) (by assumption) ?_
    rotate_left
    · intro w hSw
      obtain ⟨s0, s1, s2⟩ := hSw
      go_simp
      try with_reducible rfl
    try simp only [Act.put, List.setIfInBounds_toArray, List.set_cons_zero, List.set_cons_succ]
    refine wpAnyH_take (i := 7) (v := ?_) rfl (by kernel_rfl) (by kernel_rfl) (by kernel_rfl) (fun _ _ _ h => h) (Or.inl ⟨by rfl, ?_⟩) (by assumption) ?_
    rotate_left
    · intro w hSw
      obtain ⟨s0, s1, s2⟩ := hSw
      go_simp
      try with_reducible rfl
    try simp only [Act.put, List.setIfInBounds_toArray, List.set_cons_zero, List.set_cons_succ]
    refine wpAnyH_take (i := 8) (v := ?_) rfl (by kernel_rfl) (by kernel_rfl) (by kernel_rfl) (fun _ _ _ h => h) (Or.inl ⟨by rfl, ?_⟩) (by assumption) ?_
    rotate_left
    · intro w hSw
      obtain ⟨s0, s1, s2⟩ := hSw
      go_simp
      try with_reducible rfl
    try simp only [Act.put, List.setIfInBounds_toArray, List.set_cons_zero, List.set_cons_succ]
    refine wpAnyH_take (i := 9) (v := .agg cs.toArray) rfl (by kernel_rfl) (by kernel_rfl) (by kernel_rfl) (fun _ _ _ h => h) (yieldsIf_load_mid (by rfl) 56 (.tmp 13) (by rfl) B (k * 259) ?hx cs _ (fun w hSw => ?hs) Try.underlying56 (by simp [TypeDesc.isRow]) (unhide HF).hi) (by assumption) ?rst
    case hx => go_simp
    case hs => exact hSw.2.2
    case rst =>
    try simp only [Act.put, List.setIfInBounds_toArray, List.set_cons_zero, List.set_cons_succ]
    clear hHeld
    refine wpAnyH_ready (rs := [10]) (by kernel_rfl) (by simp) ?_
    refine AllReadyH.cons rfl (fun K hK => ?_) AllReadyH.nil
    go_simp
    refine hK.out _ _ (unhide HF).s2 (fun hHeld2 => ?_)
    clear hK K
    try simp only [Act.put, List.setIfInBounds_toArray, List.set_cons_zero, List.set_cons_succ]
    refine wpAnyH_ready (rs := [11]) (by kernel_rfl) (by simp) ?_
    refine AllReadyH.cons rfl (fun K hK => ?_) AllReadyH.nil
    rw [if_pos (by rfl)]
    refine wp_store_mid0 rfl _ _ _ rfl _ _ cs.toArray rfl rfl (unhide HF).th (by rw [List.size_toArray]; exact (unhide HF).hi) (all_oneCell_toArray (unhide HF).one) ?_
    refine hK.out _ _ (unhide HF).s3 (fun _ => ?_)
    clear hK K hHeld2
    refine wpAnyH_done (by kernel_rfl) ?_ _
    try simp only [Act.put, List.setIfInBounds_toArray, List.set_cons_zero, List.set_cons_succ]
    go_wp2_with fail
    go_meet
    case rel => exact ⟨rfl, (unhide HF).tok, (unhide HF).rs, (unhide HF).bel⟩
  case rest =>
  obtain ⟨rfl, HTc, HRc, HBc⟩ := hcut
  clear HF hzt
  have hcz := (unhide HBc).size
  obtain ⟨c0, c1, c2, c3, c4, cf, hqlt⟩ := five (unhide HRc).rd
  have t0 := (unhide HTc).c0
  have t1 := (unhide HTc).c1
  have tl := (unhide HTc).lt
  have hNq : w.heap.size ≠ q := by omega
  have hres : itemF s E (n + 1) t d = lookF t.k (itemF s E n (nextT s t.to) d) := by
    rw [itemF_1 (by omega), if_pos ha]
  have e7 : ((whatK t.k).toList == [38]) = false := by rw [whatL 7 [38] (by decide +kernel) h17 (by omega)]; simp; omega
  have e8 : ((whatK t.k).toList == [33]) = true := by rw [whatL 8 [33] (by decide +kernel) h17 (by omega)]; simp; omega
  have hnx2 := hnx (by omega)
  have hlk := (List.getElem?_eq_some_iff.1 hnx2).1
  have hze := zeroExp
  have hlenE := expV_len
  have hEne : ¬ expV .empty (.slice none 0 0) .empty noB 0 = [] := by unfold expV; simp
  have HRk := hide ((unhide HRc).setK ((k : Int) + 1))
  have HBk := hide ((But.of_below (unhide HBc) (Nat.le_refl _) : But q w wc).setCell (p := ⟨q, 1, none⟩) (.inl rfl) (.int .i64 ((k : Int) + 1)))
  have hcast : ((k + 1 : Nat) : Int) = (k : Int) + 1 := by omega
  have hrk1 := unhide HRk
  rw [← hcast] at hrk1
  have HIt := hide (item_ok hT hrk1 hnx2)
  rw [hcast] at HIt
  clear hrk1
  rw [ha] at HIt
  have hL0 : ∀ x v, ((expV .empty (.slice none 0 0) .empty noB 0).set 0 (.string x)).set 1 v = expV x v .empty noB 0 := fun _ _ => rfl
  have HRR := hide hres
  have HI := hide hI
  have Hk := hide hk
  generalize hrr : itemF s E n (nextT s t.to) d = r at HI HRR
  clear hk ha hres hI hrr
  go_wp2_with fail
  go_at_call 50
  refine (unhide HIt).mono ?_
  rintro e w3 ⟨rfl, hb3⟩
  have HR3 := hide ((unhide HRk).below hb3)
  have HB3 := hide ((unhide HBk).trans (.of_below hb3 (Nat.le_refl _)))
  have HT3 := hide (((unhide HTc).other (p := ⟨q, 1, none⟩) (show q ≠ w.heap.size by omega) (.int .i64 ((k : Int) + 1))).below hb3 (Nat.le_refl _))
  clear hb3 t0 t1 tl
  have t0 := (unhide HT3).c0
  have tl := (unhide HT3).lt
  go_wp2_with fail
  go_region_law
    (first | (refine step_wp (by rfl) ?_; go_simp; go_at_call 51; refine (unhide HI _ ((unhide HR3).below (Below.refl _ _).drew)).mono ?_; rintro e w2 ⟨b, rfl, ho⟩; have HO := hide ho; clear ho; have HB2 := hide (But.from_drew (unhide HO).bt); have hS2 := TokB.c0 (((unhide HB2).block w.heap.size tl hNq).trans (unhide HT3)); have hz2 := (unhide HB2).size; have hlt2 : w.heap.size < w2.heap.size := by omega))
  all_goals
    have HFin := hide (wrap_out (R := itemF s E (n + 1) t d) (o := 8) (a := 0) (by omega) (by omega) (unhide HB3) (show OkO w3 q B cap s T d r b w2 from ⟨unhide HB2, (unhide HO).out⟩) (fun he => by rw [unhide HRR]; unfold lookF; rw [if_neg (by omega), unhide Hk]; exact ⟨rfl, rfl, rfl⟩) (fun he => by rw [unhide HRR]; unfold lookF; rw [if_pos he]; exact ⟨rfl, rfl⟩))
    have hop : whatK t.k = opW 8 := by rw [unhide Hk]; rfl
    have HOp := hide hop
    clear hop
    go_wp2
    go_ret
    rw [unhide HOp]
    exact ⟨_, rfl, unhide HFin⟩
end Go.Proofs.Ytbojcemamhiodaa

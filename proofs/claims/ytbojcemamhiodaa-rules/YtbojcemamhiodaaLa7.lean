import Derived.Test.YtbojcemamhiodaaLat
namespace Go.Proofs.Ytbojcemamhiodaa
open Go.RowKit
theorem all_tree {w : World} (e : Ex) : Tree w AnyB e → ∀ k ∈ allX e, Tree w AnyB k := by
  refine Ex.ind (P := fun e => Tree w AnyB e → ∀ k ∈ allX e, Tree w AnyB k) (fun e ih h k hk => ?_) e
  rw [allX_def, List.mem_append] at hk
  rcases hk with hk | hk
  · rw [List.mem_flatten] at hk
    obtain ⟨l, hl, hk⟩ := hk
    rw [List.mem_map] at hl
    obtain ⟨y, hy, rfl⟩ := hl
    have h' := h
    rw [Tree_iff] at h'
    exact ih y hy (h'.2.2 y hy) k hk
  · have e1 : k = e := by simpa using hk
    rw [e1]
    exact h
theorem all_unk {un : ByteArray → Bool} (e : Ex) : OkX e → unkX un e = -1 → ∀ k ∈ allX e, unkX un k = -1 := by
  refine Ex.ind (P := fun e => OkX e → unkX un e = -1 → ∀ k ∈ allX e, unkX un k = -1) (fun e ih ho h k hk => ?_) e
  rw [allX_def, List.mem_append] at hk
  rcases hk with hk | hk
  · rw [List.mem_flatten] at hk
    obtain ⟨l, hl, hk⟩ := hk
    rw [List.mem_map] at hl
    obtain ⟨y, hy, rfl⟩ := hl
    exact ih y hy (((OkX_iff e).1 ho).kids y hy) ((unkX_kids h ho).1 y hy) k hk
  · have e1 : k = e := by simpa using hk
    rw [e1]
    exact h
theorem fstP_yes {p : Ex → Bool} {l : List Ex} {j : Nat} (hj : j < l.length) (h : p l[j] = true) : fstP p (l.drop j) = l[j].at_ := by
  rw [List.drop_eq_getElem_cons hj, fstP, if_pos h]
theorem fstP_no {p : Ex → Bool} {l : List Ex} {j : Nat} (hj : j < l.length) (h : p l[j] = false) : fstP p (l.drop j) = fstP p (l.drop (j + 1)) := by
  rw [List.drop_eq_getElem_cons hj, fstP, if_neg (by simp [h])]
theorem firstG_yes {f : Ex → Int} {gs : List RX} {k : Nat} (hk : k < gs.length) (h : f gs[k].ex ≠ -1) : firstG f (gs.drop k) = f gs[k].ex := by
  rw [List.drop_eq_getElem_cons hk, firstG, if_pos (by simpa using h)]
theorem firstG_no {f : Ex → Int} {gs : List RX} {k : Nat} (hk : k < gs.length) (h : f gs[k].ex = -1) : firstG f (gs.drop k) = firstG f (gs.drop (k + 1)) := by
  rw [List.drop_eq_getElem_cons hk, firstG, if_neg (by simp [h])]
theorem twiceL_yes {gs : List RX} {k : Nat} (hk : k < gs.length) (h : findF (rlX gs) gs[k].name < k) : twiceL (rlX gs) ((rlX gs).drop k) k = gs[k].at_ := by
  have hd : (rlX gs).drop k = gs[k].rl :: (rlX gs).drop (k + 1) := by
    rw [List.drop_eq_getElem_cons (by rw [rlX_len]; exact hk)]
    simp [rlX]
  rw [hd, twiceL, if_pos (show findF (rlX gs) gs[k].rl.name < k from h)]
  rfl
theorem twiceL_no {gs : List RX} {k : Nat} (hk : k < gs.length) (h : ¬ findF (rlX gs) gs[k].name < k) : twiceL (rlX gs) ((rlX gs).drop k) k = twiceL (rlX gs) ((rlX gs).drop (k + 1)) ((k + 1 : Nat) : Int) := by
  have hd : (rlX gs).drop k = gs[k].rl :: (rlX gs).drop (k + 1) := by
    rw [List.drop_eq_getElem_cons (by rw [rlX_len]; exact hk)]
    simp [rlX]
  rw [hd, twiceL, if_neg (show ¬ findF (rlX gs) gs[k].rl.name < k from h)]
  rfl
theorem leftG_yes {gs : List RX} {kn : ByteArray → Bool} {k : Nat} (hk : k < gs.length) (h : reachR (fsG gs kn) gs.length k k = true) : leftG gs kn (gs.drop k) k = gs[k].at_ := by
  rw [List.drop_eq_getElem_cons hk, leftG, if_pos h]
theorem leftG_no {gs : List RX} {kn : ByteArray → Bool} {k : Nat} (hk : k < gs.length) (h : reachR (fsG gs kn) gs.length k k = false) : leftG gs kn (gs.drop k) k = leftG gs kn (gs.drop (k + 1)) (k + 1) := by
  rw [List.drop_eq_getElem_cons hk, leftG, if_neg (by simp [h])]
theorem rowAt {w : World} {S : Nat → Prop} {e : TypeId} {ao : Option Addr} {cp n : Nat} {xs : List Value} (h : RowIn w S e 1 (.slice ao n cp) n xs) {i : Nat} {u : Value} (hi : xs[i]? = some u) :
    ∃ B, ao = some ⟨B, 0, none⟩ ∧ w.cell? ⟨B, i, none⟩ = some u ∧ (∀ o, w.frozen? ⟨B, o, none⟩ = false) ∧ B < w.heap.size := by
  obtain ⟨B, cap, hv, _, hc, hf, _, _, _, hB⟩ := h.at hi
  injection hv with hv1 _ hv2
  exact ⟨B, hv1, hc, hf, hB⟩
/-- what lawful answers -/
def OutL (w : World) (g : Nat) (gs : List RX) (x : Ending) (w' : World) : Prop :=
  ∃ p, x = .returned (.tuple #[.pointer p, .int .i64 (lawX gs).1, .int .i64 (lawX gs).2]) ∧ ((lawX gs).1 = 0 → p = some ⟨g, 0, none⟩) ∧ ((lawX gs).1 ≠ 0 → p = none) ∧ Below w.heap.size w w'
/-- rules that have been read -/
structure ReadG (gs : List RX) : Prop where
  ok : ∀ x ∈ gs, OkX x.ex
  size : ∀ x ∈ gs, szX x.ex ≤ 1000000
  at0 : ∀ x ∈ gs, 0 ≤ x.at_
theorem OutL.no {w : World} {g : Nat} {gs : List RX} {w' : World} {e a : Int} (h : lawX gs = (e, a)) (he : e ≠ 0) (hb : Below w.heap.size w w') : OutL w g gs (.returned (.tuple #[.pointer none, .int .i64 e, .int .i64 a])) w' := by
  refine ⟨none, by rw [h], fun h0 => ?_, fun _ => rfl, hb⟩
  rw [h] at h0
  exact absurd h0 he
set_option maxRecDepth 10000 in
set_option maxHeartbeats 16000000 in
theorem lawful_any (w : World) (g : Nat) (nv av ev : Value) (gs : List RX) (hG : GR w g nv av ev gs) (hR : ReadG gs) : Calls Try.prog 18 #[.pointer (some ⟨g, 0, none⟩)] w (OutL w g gs) := by
  obtain ⟨g0, g1, g2, hgl⟩ := hG.cells
  obtain ⟨na, nc, rfl⟩ := hG.names.shape
  obtain ⟨aa, ac, rfl⟩ := hG.ats.shape
  obtain ⟨ea, ec, rfl⟩ := hG.exps.shape
  have hfew := hG.names.few
  unfold maxLen at hfew
  have HG := hide hG
  have HRd := hide hR
  obtain ⟨law, hlaw⟩ : ∃ r, lawX gs = r := ⟨_, rfl⟩
  have HLaw := hide hlaw
  clear hG hR hlaw
  by_cases hn0 : gs.length = 0
  · have HL : Hid (lawX gs = (4, 0)) := by unfold lawX Hid; rw [if_pos (.inl hn0)]
    have h1 : (gs.length : Int) < 1 := by omega
    go_enter Try.func18, Try.ntmps18
    go_wp2
    go_ret3
    exact OutL.no (unhide HL) (by omega) (Below.refl _ _)
  have h1 : ¬ (gs.length : Int) < 1 := by omega
  by_cases hn12 : 12 < gs.length
  · have HL : Hid (lawX gs = (4, 0)) := by unfold lawX Hid; rw [if_pos (.inr hn12)]
    have h2 : (12 : Int) < gs.length := by omega
    go_enter Try.func18, Try.ntmps18
    go_wp2
    go_ret3
    exact OutL.no (unhide HL) (by omega) (Below.refl _ _)
  have h2 : ¬ (12 : Int) < gs.length := by omega
  have HL1 : Hid (lawX gs = if (twiceL (rlX gs) (rlX gs) 0 != -1) = true then (5, twiceL (rlX gs) (rlX gs) 0) else
      if (firstG (unkX (unR (rlX gs))) gs != -1) = true then (6, firstG (unkX (unR (rlX gs))) gs) else
      if (leftG gs (knF (rlX gs) (knownG gs)) gs 0 != -1) = true then (7, leftG gs (knF (rlX gs) (knownG gs)) gs 0) else
      if (firstG (loopX (knF (rlX gs) (knownG gs))) gs != -1) = true then (8, firstG (loopX (knF (rlX gs) (knownG gs))) gs) else (0, 0)) := by
    unfold lawX Hid
    rw [if_neg (by omega)]
  go_enter Try.func18, Try.ntmps18
  go_wp2_with fail
  go_loopw [36] (fun i wr => ∃ k : Nat, k ≤ gs.length ∧ i = .int .i64 k ∧ Hid (twiceL (rlX gs) (rlX gs) 0 = twiceL (rlX gs) ((rlX gs).drop k) k) ∧ Hid (Below w.heap.size w wr)) (fun i _ => gs.length - (intOf i).toNat)
  case atStart => exact ⟨0, Nat.zero_le _, rfl, rfl, Below.refl _ _⟩
  case round =>
    obtain ⟨k, hk, rfl, HT, HB⟩ := hrel
    have hG1 := (unhide HG).below (unhide HB)
    obtain ⟨b0, b1, b2, hbl⟩ := hG1.cells
    clear g0 g1 g2
    by_cases hk2 : k < gs.length
    · have hki : (k : Int) < gs.length := by omega
      have hk0 : (0 : Int) ≤ (k : Int) := by omega
      obtain ⟨NB, hNB, nc0, nf0, nl0⟩ := rowAt hG1.names (i := k) (u := .string gs[k].name) (by rw [List.getElem?_map, List.getElem?_eq_getElem hk2]; rfl)
      obtain ⟨AB, hAB, ac0, af0, al0⟩ := rowAt hG1.ats (i := k) (u := .int .i64 gs[k].at_) (by rw [List.getElem?_map, List.getElem?_eq_getElem hk2]; rfl)
      subst hNB
      subst hAB
      have HRu := hide (Rule_any wr g _ _ _ gs gs[k].name hG1)
      have hat0 := (unhide HRd).at0 gs[k] (List.getElem_mem hk2)
      by_cases hx : findF (rlX gs) gs[k].name < k
      · have HL : Hid (lawX gs = (5, gs[k].at_)) := by
          have e1 : twiceL (rlX gs) (rlX gs) 0 = gs[k].at_ := (unhide HT).trans (twiceL_yes hk2 hx)
          unfold Hid
          rw [unhide HL1, e1, if_pos (by simp; omega)]
        generalize hfv : findF (rlX gs) gs[k].name = fv at HRu hx
        clear hG1 hfv
        go_wp2_with fail
        go_at_call 30
        refine (unhide HRu).mono ?_
        rintro x w2 ⟨rfl, hw2⟩
        replace hw2 := hw2.symm
        subst hw2
        go_wp2_with fail
        go_region
        go_wp2
        go_ret3
        exact OutL.no (unhide HL) (by omega) (unhide HB).drew
      · have HT2 : Hid (twiceL (rlX gs) (rlX gs) 0 = twiceL (rlX gs) ((rlX gs).drop (k + 1)) ((k + 1 : Nat) : Int)) := (unhide HT).trans (twiceL_no hk2 hx)
        generalize hfv : findF (rlX gs) gs[k].name = fv at HRu hx
        clear hG1 hfv
        go_wp2_with fail
        go_at_call 30
        refine (unhide HRu).mono ?_
        rintro x w2 ⟨rfl, hw2⟩
        replace hw2 := hw2.symm
        subst hw2
        go_wp2_with fail
        go_roundw
        case rel => exact ⟨k + 1, by omega, by go_num, HT2, HB⟩
        case measure => simp [intOf]; omega
    · have hki : ¬ (k : Int) < gs.length := by omega
      have HL2 : Hid (lawX gs = if (firstG (unkX (unR (rlX gs))) gs != -1) = true then (6, firstG (unkX (unR (rlX gs))) gs) else
          if (leftG gs (knF (rlX gs) (knownG gs)) gs 0 != -1) = true then (7, leftG gs (knF (rlX gs) (knownG gs)) gs 0) else
          if (firstG (loopX (knF (rlX gs) (knownG gs))) gs != -1) = true then (8, firstG (loopX (knF (rlX gs) (knownG gs))) gs) else (0, 0)) := by
        have e1 : twiceL (rlX gs) (rlX gs) 0 = -1 := by
          rw [unhide HT, List.drop_eq_nil_of_le (by rw [rlX_len]; omega)]
          rfl
        unfold Hid
        rw [unhide HL1, e1, if_neg (by simp)]
      clear HL1 HT hG1 hk
      go_wp2_with fail
      go_loopw [59] (fun i wr => ∃ k : Nat, k ≤ gs.length ∧ i = .int .i64 k ∧ Hid (firstG (unkX (unR (rlX gs))) gs = firstG (unkX (unR (rlX gs))) (gs.drop k)) ∧ Hid (Below w.heap.size w wr)) (fun i _ => gs.length - (intOf i).toNat)
      case atStart => exact ⟨0, Nat.zero_le _, rfl, rfl, HB⟩
      case round =>
        obtain ⟨k, hk, rfl, HF, HB3⟩ := hrel
        have hG1 := (unhide HG).below (unhide HB3)
        clear b0 b1 b2 hbl HB
        by_cases hk2 : k < gs.length
        · have hki : (k : Int) < gs.length := by omega
          have hmem : gs[k] ∈ gs := List.getElem_mem hk2
          obtain ⟨EB, hEB, ec0, ef0, el0⟩ := rowAt hG1.exps (i := k) (u := ptrX gs[k].ex) (by rw [List.getElem?_map, List.getElem?_eq_getElem hk2]; rfl)
          subst hEB
          have HC := hide (all_any gs[k].ex wr (hG1.trees _ hmem) ((unhide HRd).size _ hmem))
          have HTr := hide (all_tree gs[k].ex (hG1.trees _ hmem))
          have HOx := hide (allX_ok gs[k].ex ((unhide HRd).ok _ hmem))
          have HUk := hide (unk_all (unR (rlX gs)) gs[k].ex ((unhide HRd).ok _ hmem))
          have hzb := (unhide HB3).size
          have hlen := allX_len gs[k].ex
          have hsz := (unhide HRd).size _ hmem
          unfold ptrX at ec0 HC
          clear hG1
          go_wp2_with fail
          go_at_call 31
          refine (unhide HC).mono ?_
          rintro x w2 ⟨v2, rfl, hown2, hb2⟩
          obtain ⟨L, hL⟩ : ∃ L, allX gs[k].ex = L := ⟨_, rfl⟩
          have hE : allE gs[k].ex = L.map ptrX := by unfold allE; rw [hL]
          rw [hE, hL] at hown2
          rw [hL] at hlen HTr HOx HUk
          have hLl : L.length ≤ 1000000 := by omega
          obtain ⟨la, lc, rfl⟩ := own_shape hown2
          have HLr := hide ((RowIn.of_owns hown2).any)
          have HT2 := hide (fun y (hy : y ∈ L) => (unhide HTr y hy).below hb2)
          have HB2 := hide ((unhide HB3).trans (hb2.mono hzb))
          clear hown2 hb2 hE hlen hsz HTr HC
          go_wp2_with fail
          go_loopw [66] (fun i wr => ∃ j : Nat, j ≤ L.length ∧ i = .int .i64 j ∧ Hid (fstP (fun x => x.op == 2 && unR (rlX gs) x.str) L = fstP (fun x => x.op == 2 && unR (rlX gs) x.str) (L.drop j)) ∧ Hid (Below w2.heap.size w2 wr)) (fun i _ => L.length - (intOf i).toNat)
          case atStart => exact ⟨0, Nat.zero_le _, rfl, rfl, Below.refl _ _⟩
          case round =>
            obtain ⟨j, hj, rfl, HP, HBj⟩ := hrel
            have HBw := hide ((unhide HB2).trans ((unhide HBj).mono (unhide HB2).size))
            by_cases hj2 : j < L.length
            · have hji : (j : Int) < L.length := by omega
              have hjm : L[j] ∈ L := List.getElem_mem hj2
              obtain ⟨LB, hLB, lc0, lf0, ll0⟩ := rowAt ((unhide HLr).below (unhide HBj)) (i := j) (u := ptrX L[j]) (by rw [List.getElem?_map, List.getElem?_eq_getElem hj2]; rfl)
              subst hLB
              have hty := (unhide HT2 _ hjm).below (unhide HBj)
              rw [Tree_iff] at hty
              obtain ⟨_, ⟨lv, hxb, hxr⟩, _⟩ := hty
              have y0 := hxb.c0
              have y2 := hxb.c2
              have ya := hxb.cat
              have yl := hxb.lt
              have hyo := (OkX_iff _).1 (unhide HOx _ hjm)
              have hya := hyo.at0
              have e2 : ((opW L[j].op).toList == [114, 117, 108, 101]) = (L[j].op == 2) := opL 2 _ (by decide +kernel) hyo.op (by omega)
              have HYes := hide (fun (h : (fun x : Ex => x.op == 2 && unR (rlX gs) x.str) L[j] = true) => (show lawX gs = (6, L[j].at_) by
                have e1 : unkX (unR (rlX gs)) gs[k].ex = L[j].at_ := by rw [unhide HUk, unhide HP, fstP_yes hj2 h]
                have e3 : firstG (unkX (unR (rlX gs))) gs = L[j].at_ := by rw [unhide HF, firstG_yes hk2 (by omega), e1]
                rw [unhide HL2, e3, if_pos (by simp; omega)]))
              have HNo := hide (fun (h : (fun x : Ex => x.op == 2 && unR (rlX gs) x.str) L[j] = false) => (unhide HP).trans (fstP_no hj2 h))
              unfold ptrX at lc0
              generalize L[j] = y at lc0 y0 y2 ya yl hya e2 HYes HNo
              clear hxb hxr hyo HP HT2 HOx
              by_cases hy2 : y.op = 2
              · rw [show (y.op == 2) = true by simpa using hy2] at e2
                have HRu := hide (Rule_any wr g _ _ _ gs y.str ((unhide HG).below (unhide HBw)))
                by_cases hun : findF (rlX gs) y.str < 0
                · have HL := hide (unhide HYes (by simp [hy2, unR, hun]))
                  generalize findF (rlX gs) y.str = fv at HRu hun
                  clear HYes HNo hy2
                  go_wp2_with fail
                  go_at_call 30
                  refine (unhide HRu).mono ?_
                  rintro x w3 ⟨rfl, hw3⟩
                  replace hw3 := hw3.symm
                  subst hw3
                  go_wp2_with fail
                  go_region
                  go_wp2
                  go_ret3
                  exact OutL.no (unhide HL) (by omega) (unhide HBw).drew
                · have HP2 := hide (unhide HNo (by simp [hy2, unR]; omega))
                  generalize findF (rlX gs) y.str = fv at HRu hun
                  clear HYes HNo hy2
                  go_wp2_with fail
                  go_at_call 30
                  refine (unhide HRu).mono ?_
                  rintro x w3 ⟨rfl, hw3⟩
                  replace hw3 := hw3.symm
                  subst hw3
                  go_wp2_with fail
                  go_roundw
                  case rel => exact ⟨j + 1, by omega, by go_num, HP2, HBj⟩
                  case measure => simp [intOf]; omega
              · rw [show (y.op == 2) = false by simpa using hy2] at e2
                have HP2 := hide (unhide HNo (by simp [hy2]))
                clear HYes HNo hy2
                go_wp2_with fail
                go_roundw
                case rel => exact ⟨j + 1, by omega, by go_num, HP2, HBj⟩
                case measure => simp [intOf]; omega
            · have hji : ¬ (j : Int) < L.length := by omega
              have HF2 : Hid (firstG (unkX (unR (rlX gs))) gs = firstG (unkX (unR (rlX gs))) (gs.drop (k + 1))) := by
                have e1 : unkX (unR (rlX gs)) gs[k].ex = -1 := by
                  rw [unhide HUk, unhide HP, List.drop_eq_nil_of_le (by omega)]
                  rfl
                exact (unhide HF).trans (firstG_no hk2 e1)
              go_wp2_with fail
              go_roundw
              case rel => exact ⟨k + 1, by omega, by go_num, HF2, HBw⟩
              case measure => simp [intOf]; omega
        · have hki : ¬ (k : Int) < gs.length := by omega
          have hfn : firstG (unkX (unR (rlX gs))) gs = -1 := by
            rw [unhide HF, List.drop_eq_nil_of_le (by omega)]
            rfl
          have HL3 : Hid (lawX gs = if (leftG gs (knF (rlX gs) (knownG gs)) gs 0 != -1) = true then (7, leftG gs (knF (rlX gs) (knownG gs)) gs 0) else
              if (firstG (loopX (knF (rlX gs) (knownG gs))) gs != -1) = true then (8, firstG (loopX (knF (rlX gs) (knownG gs))) gs) else (0, 0)) := by
            unfold Hid
            rw [unhide HL2, hfn, if_neg (by simp)]
          have HOk : Hid (OkG gs) := ⟨by omega, (unhide HRd).ok, firstG_none hfn, (unhide HRd).size⟩
          have HC := hide (empties_any wr g _ _ _ gs hG1 (unhide HOk))
          have hzb := (unhide HB3).size
          clear HL2 HF hfn hG1 hk
          go_wp2_with fail
          go_at_call 32
          refine (unhide HC).mono ?_
          rintro x w2 ⟨B, rfl, hown2, hb2⟩
          have HB2 := hide ((unhide HB3).trans (hb2.mono hzb))
          have HKn := hide hown2.rowB
          obtain ⟨b0, b1, b2, hbl⟩ := ((unhide HG).below (unhide HB2)).cells
          obtain ⟨kn, hkn⟩ : ∃ kn, knF (rlX gs) (knownG gs) = kn := ⟨_, rfl⟩
          have HKe := hide hkn
          rw [hkn] at HL3
          clear hown2 hb2 hkn HC HB3
          go_wp2_with fail
          go_loopw [97] (fun i wr => ∃ k : Nat, k ≤ gs.length ∧ i = .int .i64 k ∧ Hid (leftG gs kn gs 0 = leftG gs kn (gs.drop k) k) ∧ Hid (Below w2.heap.size w2 wr)) (fun i _ => gs.length - (intOf i).toNat)
          case atStart => exact ⟨0, Nat.zero_le _, rfl, rfl, Below.refl _ _⟩
          case round =>
            obtain ⟨k, hk, rfl, HF, HB4⟩ := hrel
            have HBw := hide ((unhide HB2).trans ((unhide HB4).mono (unhide HB2).size))
            have hG1 := (unhide HG).below (unhide HBw)
            clear b0 b1 b2 hbl
            by_cases hk2 : k < gs.length
            · have hki : (k : Int) < gs.length := by omega
              have hk0 : (0 : Int) ≤ (k : Int) := by omega
              have HC := hide (reached_any wr g _ _ _ (.slice (some ⟨B, 0, none⟩) gs.length gs.length) gs (knownG gs) hG1 (unhide HOk) ((unhide HKn).below (unhide HB4)) k hk2)
              rw [unhide HKe] at HC
              have hat0 := (unhide HRd).at0 gs[k] (List.getElem_mem hk2)
              have hzb := (unhide HBw).size
              clear hG1
              go_wp2_with fail
              go_at_call 33
              refine (unhide HC).mono ?_
              rintro x w4 ⟨B2, rfl, hown4, hb4⟩
              have hcc := hown4.cell hk2
              have hcf := hown4.fz
              have hcl := hown4.lt
              have HB5 := hide ((unhide HBw).trans (hb4.mono hzb))
              have HB6 := hide ((unhide HB4).trans (hb4.mono (unhide HB4).size))
              have hG2 := (unhide HG).below (unhide HB5)
              obtain ⟨b0, b1, b2, hbl⟩ := hG2.cells
              obtain ⟨AB, hAB, ac0, af0, al0⟩ := rowAt hG2.ats (i := k) (u := .int .i64 gs[k].at_) (by rw [List.getElem?_map, List.getElem?_eq_getElem hk2]; rfl)
              subst hAB
              cases hr : reachR (fsG gs kn) gs.length k k
              · rw [hr] at hcc
                have HF2 := hide ((unhide HF).trans (leftG_no hk2 hr))
                clear hown4 hb4 hG2 hr
                go_wp2_with fail
                go_roundw
                case rel => exact ⟨k + 1, by omega, by go_num, HF2, HB6⟩
                case measure => simp [intOf]; omega
              · rw [hr] at hcc
                have HL : Hid (lawX gs = (7, gs[k].at_)) := by
                  have e3 : leftG gs kn gs 0 = gs[k].at_ := (unhide HF).trans (leftG_yes hk2 hr)
                  unfold Hid
                  rw [unhide HL3, e3, if_pos (by simp; omega)]
                clear hown4 hb4 hG2 hr
                go_wp2_with fail
                go_region
                go_wp2
                go_ret3
                exact OutL.no (unhide HL) (by omega) (unhide HB5).drew
            · have hki : ¬ (k : Int) < gs.length := by omega
              have HL4 : Hid (lawX gs = if (firstG (loopX kn) gs != -1) = true then (8, firstG (loopX kn) gs) else (0, 0)) := by
                have e1 : leftG gs kn gs 0 = -1 := by
                  rw [unhide HF, List.drop_eq_nil_of_le (by omega)]
                  rfl
                unfold Hid
                rw [unhide HL3, e1, if_neg (by simp)]
              obtain ⟨b0, b1, b2, hbl⟩ := hG1.cells
              clear HL3 HF hG1 hk
              go_wp2_with fail
              go_loopw [120] (fun i wr => ∃ k : Nat, k ≤ gs.length ∧ i = .int .i64 k ∧ Hid (firstG (loopX kn) gs = firstG (loopX kn) (gs.drop k)) ∧ Hid (Below w2.heap.size w2 wr)) (fun i _ => gs.length - (intOf i).toNat)
              case atStart => exact ⟨0, Nat.zero_le _, rfl, rfl, HB4⟩
              case round =>
                obtain ⟨k, hk, rfl, HF, HB7⟩ := hrel
                clear HBw HB4 b0 b1 b2 hbl
                have HBw := hide ((unhide HB2).trans ((unhide HB7).mono (unhide HB2).size))
                have hG1 := (unhide HG).below (unhide HBw)
                by_cases hk2 : k < gs.length
                · have hki : (k : Int) < gs.length := by omega
                  have hmem : gs[k] ∈ gs := List.getElem_mem hk2
                  obtain ⟨EB, hEB, ec0, ef0, el0⟩ := rowAt hG1.exps (i := k) (u := ptrX gs[k].ex) (by rw [List.getElem?_map, List.getElem?_eq_getElem hk2]; rfl)
                  subst hEB
                  have HC := hide (all_any gs[k].ex wr (hG1.trees _ hmem) ((unhide HRd).size _ hmem))
                  have HTr := hide (all_tree gs[k].ex (hG1.trees _ hmem))
                  have HOx := hide (allX_ok gs[k].ex ((unhide HRd).ok _ hmem))
                  have HUx := hide (all_unk gs[k].ex ((unhide HRd).ok _ hmem) ((unhide HOk).unk _ hmem))
                  have HUk := hide (loop_all kn gs[k].ex ((unhide HRd).ok _ hmem))
                  have hlen := allX_len gs[k].ex
                  have hsz := (unhide HRd).size _ hmem
                  unfold ptrX at ec0 HC
                  clear hG1
                  go_wp2_with fail
                  go_at_call 31
                  refine (unhide HC).mono ?_
                  rintro x w5 ⟨v5, rfl, hown5, hb5⟩
                  obtain ⟨L, hL⟩ : ∃ L, allX gs[k].ex = L := ⟨_, rfl⟩
                  have hE : allE gs[k].ex = L.map ptrX := by unfold allE; rw [hL]
                  rw [hE, hL] at hown5
                  rw [hL] at hlen HTr HOx HUk HUx
                  have hLl : L.length ≤ 1000000 := by omega
                  obtain ⟨la, lc, rfl⟩ := own_shape hown5
                  have HLr := hide ((RowIn.of_owns hown5).any)
                  have HT5 := hide (fun y (hy : y ∈ L) => (unhide HTr y hy).below hb5)
                  have HB5 := hide ((unhide HB7).trans (hb5.mono (unhide HB7).size))
                  clear hown5 hb5 hE hlen hsz HTr HC
                  go_wp2_with fail
                  go_loopw [127] (fun i wr => ∃ j : Nat, j ≤ L.length ∧ i = .int .i64 j ∧ Hid (fstP (fun x => (x.op == 9 || x.op == 10) && x.kids.all (bareX kn)) L = fstP (fun x => (x.op == 9 || x.op == 10) && x.kids.all (bareX kn)) (L.drop j)) ∧ Hid (Below w5.heap.size w5 wr)) (fun i _ => L.length - (intOf i).toNat)
                  case atStart => exact ⟨0, Nat.zero_le _, rfl, rfl, Below.refl _ _⟩
                  case round =>
                    obtain ⟨j, hj, rfl, HP, HBj⟩ := hrel
                    have HBk := hide ((unhide HB5).trans ((unhide HBj).mono (unhide HB5).size))
                    have HBv := hide ((unhide HB2).trans ((unhide HBk).mono (unhide HB2).size))
                    by_cases hj2 : j < L.length
                    · have hji : (j : Int) < L.length := by omega
                      have hjm : L[j] ∈ L := List.getElem_mem hj2
                      obtain ⟨LB, hLB, lc0, lf0, ll0⟩ := rowAt ((unhide HLr).below (unhide HBj)) (i := j) (u := ptrX L[j]) (by rw [List.getElem?_map, List.getElem?_eq_getElem hj2]; rfl)
                      subst hLB
                      have hty := (unhide HT5 _ hjm).below (unhide HBj)
                      rw [Tree_iff] at hty
                      obtain ⟨_, ⟨lv, hxb, hxr⟩, hxk⟩ := hty
                      obtain ⟨ka, kc, rfl⟩ := hxr.shape
                      have y0 := hxb.c0
                      have y1 := hxb.c1
                      have ya := hxb.cat
                      have yl := hxb.lt
                      have hyo := (OkX_iff _).1 (unhide HOx _ hjm)
                      have hya := hyo.at0
                      have e9 : ((opW L[j].op).toList == [42]) = (L[j].op == 9) := opL 9 _ (by decide +kernel) hyo.op (by omega)
                      have e10 : ((opW L[j].op).toList == [43]) = (L[j].op == 10) := opL 10 _ (by decide +kernel) hyo.op (by omega)
                      have HYes := hide (fun (h : (fun x : Ex => (x.op == 9 || x.op == 10) && x.kids.all (bareX kn)) L[j] = true) => (show lawX gs = (8, L[j].at_) by
                        have e1 : loopX kn gs[k].ex = L[j].at_ := by rw [unhide HUk, unhide HP, fstP_yes hj2 h]
                        have e3 : firstG (loopX kn) gs = L[j].at_ := by rw [unhide HF, firstG_yes hk2 (by omega), e1]
                        rw [unhide HL4, e3, if_pos (by simp; omega)]))
                      have HNo := hide (fun (h : (fun x : Ex => (x.op == 9 || x.op == 10) && x.kids.all (bareX kn)) L[j] = false) => (unhide HP).trans (fstP_no hj2 h))
                      have HUy := hide (unkX_kids (unhide HUx _ hjm) (unhide HOx _ hjm)).1
                      have HXr := hide hxr
                      have HXk := hide hxk
                      have HYo := hide hyo
                      unfold ptrX at lc0
                      generalize L[j] = y at lc0 y0 y1 ya yl hya e9 e10 HYes HNo HUy HXr HXk HYo
                      clear hxb hxr hyo HP HT5 HOx HUx hxk
                      by_cases hy2 : y.op = 9 ∨ y.op = 10
                      · have hk1 := (unhide HYo).one (by omega)
                        obtain ⟨z, hz⟩ : ∃ z, y.kids = [z] := List.length_eq_one_iff.1 hk1
                        have hzm : z ∈ y.kids := by rw [hz]; simp
                        have hxr1 := unhide HXr
                        rw [hz] at hxr1
                        obtain ⟨ZB, hZB, zc0, zf0, zl0⟩ := rowAt hxr1 (i := 0) (u := ptrX z) rfl
                        subst hZB
                        have HBa := hide (refBare_any wr g _ _ _ (.slice (some ⟨B, 0, none⟩) gs.length gs.length) gs (knownG gs) ((unhide HG).below (unhide HBv)) ((unhide HKn).below (unhide HBk)) z (unhide HXk z hzm) ((unhide HYo).kids z hzm) (unhide HUy z hzm))
                        rw [unhide HKe] at HBa
                        unfold ptrX at zc0 HBa
                        rw [hz] at y1
                        have HA : Hid (y.kids.all (bareX kn) = bareX kn z) := by unfold Hid; rw [hz]; simp
                        cases hbz : bareX kn z
                        · rw [hbz] at HBa HA
                          have HP2 := hide (unhide HNo (by simp [unhide HA]))
                          clear HYes HNo hxr1 hk1 hz
                          rcases hy2 with hy9 | hy10
                          · rw [show (y.op == 9) = true by simpa using hy9] at e9
                            clear hy9 e10 hbz
                            go_wp2_with fail
                            go_at_call 34
                            refine (unhide HBa).mono ?_
                            rintro x w6 ⟨rfl, hw6⟩
                            replace hw6 := hw6.symm
                            subst hw6
                            go_wp2_with fail
                            go_roundw
                            case rel => exact ⟨j + 1, by omega, by go_num, HP2, HBj⟩
                            case measure => simp [intOf]; omega
                          · rw [show (y.op == 9) = false by simp; omega] at e9
                            rw [show (y.op == 10) = true by simpa using hy10] at e10
                            clear hy10 hbz
                            go_wp2_with fail
                            go_at_call 34
                            refine (unhide HBa).mono ?_
                            rintro x w6 ⟨rfl, hw6⟩
                            replace hw6 := hw6.symm
                            subst hw6
                            go_wp2_with fail
                            go_roundw
                            case rel => exact ⟨j + 1, by omega, by go_num, HP2, HBj⟩
                            case measure => simp [intOf]; omega
                        · rw [hbz] at HBa HA
                          have HL := hide (unhide HYes (by simp [unhide HA]; exact hy2))
                          clear HYes HNo hxr1 hk1 hz
                          rcases hy2 with hy9 | hy10
                          · rw [show (y.op == 9) = true by simpa using hy9] at e9
                            clear hy9 e10 hbz
                            go_wp2_with fail
                            go_at_call 34
                            refine (unhide HBa).mono ?_
                            rintro x w6 ⟨rfl, hw6⟩
                            replace hw6 := hw6.symm
                            subst hw6
                            go_wp2_with fail
                            go_region
                            go_wp2
                            go_ret3
                            exact OutL.no (unhide HL) (by omega) (unhide HBv).drew
                          · rw [show (y.op == 9) = false by simp; omega] at e9
                            rw [show (y.op == 10) = true by simpa using hy10] at e10
                            clear hy10 hbz
                            go_wp2_with fail
                            go_at_call 34
                            refine (unhide HBa).mono ?_
                            rintro x w6 ⟨rfl, hw6⟩
                            replace hw6 := hw6.symm
                            subst hw6
                            go_wp2_with fail
                            go_region
                            go_wp2
                            go_ret3
                            exact OutL.no (unhide HL) (by omega) (unhide HBv).drew
                      · rw [show (y.op == 9) = false by simp; omega] at e9
                        rw [show (y.op == 10) = false by simp; omega] at e10
                        have HP2 := hide (unhide HNo (by simp; omega))
                        clear HYes HNo hy2
                        go_wp2_with fail
                        go_roundw
                        case rel => exact ⟨j + 1, by omega, by go_num, HP2, HBj⟩
                        case measure => simp [intOf]; omega
                    · have hji : ¬ (j : Int) < L.length := by omega
                      have HF2 : Hid (firstG (loopX kn) gs = firstG (loopX kn) (gs.drop (k + 1))) := by
                        have e1 : loopX kn gs[k].ex = -1 := by
                          rw [unhide HUk, unhide HP, List.drop_eq_nil_of_le (by omega)]
                          rfl
                        exact (unhide HF).trans (firstG_no hk2 e1)
                      go_wp2_with fail
                      go_roundw
                      case rel => exact ⟨k + 1, by omega, by go_num, HF2, HBk⟩
                      case measure => simp [intOf]; omega
                · have hki : ¬ (k : Int) < gs.length := by omega
                  have HL : Hid (lawX gs = (0, 0)) := by
                    have e1 : firstG (loopX kn) gs = -1 := by
                      rw [unhide HF, List.drop_eq_nil_of_le (by omega)]
                      rfl
                    unfold Hid
                    rw [unhide HL4, e1, if_neg (by simp)]
                  go_wp2
                  go_ret3
                  have hl := unhide HL
                  exact ⟨some ⟨g, 0, none⟩, by rw [hl]; rfl, fun _ => rfl, fun h => absurd (by rw [hl]) h, unhide HBw⟩
end Go.Proofs.Ytbojcemamhiodaa

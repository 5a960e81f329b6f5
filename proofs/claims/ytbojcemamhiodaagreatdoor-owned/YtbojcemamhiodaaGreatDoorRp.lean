import Derived.Test.YtbojcemamhiodaaGreatDoorRo
import Derived.Test.YtbojcemamhiodaaGreatDoorRk
namespace Go.Proofs.YtbojcemamhiodaaGreatDoor
open Go.RowKit
theorem quoted_out (s : ByteArray) (i : Nat) (hi : i < s.size) (h39 : bAt s i = 39) (e : Ending) (h : OutQ s i e) : OutO s i e := by
  obtain ⟨what, str, p, rfl, h⟩ := h
  have hrd : readT s i = readWd s i := by
    unfold readT
    rw [if_neg (by omega), if_neg (by omega), if_pos h39]
  rcases h with ⟨h1, rfl⟩ | ⟨j, h1, rfl, rfl, rfl⟩
  · refine OutO.of (k := 0) (z := i) ?_ rfl (.none (by simp) (by simp) (by simp)) (fun h => by omega)
    rw [tkAt_in hi, hrd]
    unfold readWd
    rw [Int.toNat_natCast, h1]
  · have hj := wordEnd_range s _ _ _ (by omega) h1
    obtain ⟨jn, rfl⟩ : ∃ jn : Nat, j = (jn : Int) := ⟨j.toNat, by omega⟩
    refine OutO.of (k := 4) (z := jn + 1) ?_ rfl ⟨fun h => by simp at h, fun _ => ?_, fun h => by simp at h⟩ (fun _ => rfl)
    · rw [tkAt_in hi, hrd]
      unfold readWd
      rw [Int.toNat_natCast, h1]
    · exact (word_bytes_of s i jn _ (by omega) h1).symm
theorem class_out (s : ByteArray) (i : Nat) (hi : i < s.size) (h91 : bAt s i = 91) (e : Ending) (h : OutK s i e) : OutO s i e := by
  obtain ⟨what, f, p, rfl, h⟩ := h
  have hrd : readT s i = readSt s i := by
    unfold readT
    rw [if_neg (by omega), if_neg (by omega), if_neg (by omega), if_pos h91]
  rcases h with ⟨h1, rfl⟩ | ⟨j, h1, rfl, hf, rfl⟩
  · refine OutO.of (k := 0) (z := i) ?_ rfl (.none (by simp) (by simp) (by simp)) (fun h => by omega)
    rw [tkAt_in hi, hrd]
    unfold readSt
    rw [Int.toNat_natCast, h1]
  · have hfr : (i : Int) + 1 ≤ setFrom s i := by unfold setFrom; split <;> omega
    have hj := setEnd_range s _ _ _ _ (by omega) h1
    obtain ⟨jn, rfl⟩ : ∃ jn : Nat, j = (jn : Int) := ⟨j.toNat, by omega⟩
    refine OutO.of (k := 5) (z := jn + 1) ?_ rfl ⟨fun h => by simp at h, fun h => by simp at h, fun _ => ?_⟩ (fun _ => rfl)
    · rw [tkAt_in hi, hrd]
      unfold readSt
      rw [Int.toNat_natCast, h1]
    · exact set_bytes_of s i jn _ f (by omega) h1 hf
theorem name_out (s : ByteArray) (i j : Nat) (hi : i < s.size) (hl : 97 ≤ bAt s i ∧ bAt s i ≤ 122) (he : nameEnd s (s.size + 1 - i) i = j) (hj : j ≤ i + 8) (f : Nat → Bool) : OutO s i (.returned (.tuple #[.agg (tokV ⟨#[110, 97, 109, 101]⟩ (s.extract i j) f i).toArray, .int .i64 j])) := by
  refine OutO.of (k := 2) (z := j) ?_ rfl ⟨fun _ => ?_, fun h => by simp at h, fun h => by simp at h⟩ (fun _ => rfl)
  · rw [tkAt_in hi]
    unfold readT
    rw [if_pos hl]
    unfold readNm
    rw [Int.toNat_natCast, he, if_neg (by omega)]
  · unfold Tk.of
    simp
theorem noname_out (s : ByteArray) (i j : Nat) (hi : i < s.size) (hl : 97 ≤ bAt s i ∧ bAt s i ≤ 122) (he : nameEnd s (s.size + 1 - i) i = j) (hj : i + 8 < j) (str : ByteArray) (f : Nat → Bool) (p : Int) : OutO s i (.returned (.tuple #[.agg (tokV noneW str f i).toArray, .int .i64 p])) := by
  refine OutO.of (k := 0) (z := i) ?_ rfl (.none (by simp) (by simp) (by simp)) (fun h => by omega)
  rw [tkAt_in hi]
  unfold readT
  rw [if_pos hl]
  unfold readNm
  rw [Int.toNat_natCast, he, if_pos (by omega)]
section
variable (w : World) (s : ByteArray) (i : Nat)
set_option maxRecDepth 4000 in
set_option maxHeartbeats 8000000 in
theorem one_word (hs : s.size ≤ 400) (hi : i < s.size) (h39 : bAt s i = 39) : Calls Tryz.prog 61 #[.string s, .int .i64 i] w fun e w' => OutO s i e ∧ Below w.heap.size w w' := by
  have hzt := zeroTok
  have hL : ((tokV .empty .empty noB 0).set 258 (.int .i64 i)).set 0 (.string ⟨#[110, 111, 110, 101]⟩) = tokV noneW .empty noB i := by rw [tokV_at]; rfl
  have hlen := tokV_len
  have hst := fun o => storeTok2 w o .empty .empty noneW .empty noB noB 0 i
  have H2 := hide (Two.start w i)
  have e1 := bAt_nat s i hi
  obtain ⟨b, hb⟩ : ∃ b : UInt8, s[i]'hi = b := ⟨_, rfl⟩
  rw [hb] at e1
  have hiI : (i : Int) < s.size := by omega
  have hieq : ((i : Int) == s.size) = false := by simp; omega
  have HLow := hide (fun W => lower_any W b)
  have hlow : lowB b = false := by unfold lowB; simp; omega
  rw [hlow] at HLow
  clear hlow
  have f1 : ((b.toNat : Int) == 39) = true := by simp; omega
  have HQ := hide (fun W => quoted_any W s i hs hi)
  have HX := hide (quoted_out s i hi h39)
  clear e1 h39
  go_enter Tryz.func61, Tryz.ntmps61
  go_upto_region 1 with fail
  go_cut [6] (fun v wc => v = .pointer (some ⟨w.heap.size + 1, 0, none⟩) ∧ Hid (Two w i noneW .empty wc))
  case first =>
    go_wp2_with fail
    go_meet
    case rel => exact ⟨rfl, H2⟩
  case rest =>
  obtain ⟨rfl, H2c⟩ := hcut
  clear H2 hL hst hzt
  go_wp2_with fail
  go_at_call 90
  refine (unhide HLow _).mono ?_
  rintro e w1 ⟨rfl, hw1⟩
  replace hw1 := hw1.symm
  subst hw1
  go_wp2_with fail
  refine (unhide HQ _).mono ?_
  rintro e w2 ⟨ho, hw2⟩
  have HOut := hide (unhide HX _ ho)
  obtain ⟨what, str, p, rfl, _⟩ := ho
  have H2d := hide ((unhide H2c).below hw2)
  clear hw2 H2c
  go_wp2_with fail
  rw [(unhide H2d).r.store]
  have HR3 := hide ((unhide H2d).r.row what str noB i)
  go_wp2_with fail
  exact ret_tok rfl rfl rfl (unhide HR3) rfl ⟨unhide HOut, below_setRow (unhide H2d).b (Nat.le_refl _) _⟩
set_option maxRecDepth 4000 in
set_option maxHeartbeats 8000000 in
theorem one_set (hs : s.size ≤ 400) (hi : i < s.size) (h91 : bAt s i = 91) : Calls Tryz.prog 61 #[.string s, .int .i64 i] w fun e w' => OutO s i e ∧ Below w.heap.size w w' := by
  have hzt := zeroTok
  have hL : ((tokV .empty .empty noB 0).set 258 (.int .i64 i)).set 0 (.string ⟨#[110, 111, 110, 101]⟩) = tokV noneW .empty noB i := by rw [tokV_at]; rfl
  have hlen := tokV_len
  have hst := fun o => storeTok2 w o .empty .empty noneW .empty noB noB 0 i
  have H2 := hide (Two.start w i)
  have e1 := bAt_nat s i hi
  obtain ⟨b, hb⟩ : ∃ b : UInt8, s[i]'hi = b := ⟨_, rfl⟩
  rw [hb] at e1
  have hiI : (i : Int) < s.size := by omega
  have hieq : ((i : Int) == s.size) = false := by simp; omega
  have HLow := hide (fun W => lower_any W b)
  have hlow : lowB b = false := by unfold lowB; simp; omega
  rw [hlow] at HLow
  clear hlow
  have f1 : ((b.toNat : Int) == 39) = false := by simp; omega
  have f2 : ((b.toNat : Int) == 91) = true := by simp; omega
  have HQ := hide (fun W => class_any W s i hs hi)
  have HX := hide (class_out s i hi h91)
  clear e1 h91
  go_enter Tryz.func61, Tryz.ntmps61
  go_upto_region 1 with fail
  go_cut [6] (fun v wc => v = .pointer (some ⟨w.heap.size + 1, 0, none⟩) ∧ Hid (Two w i noneW .empty wc))
  case first =>
    go_wp2_with fail
    go_meet
    case rel => exact ⟨rfl, H2⟩
  case rest =>
  obtain ⟨rfl, H2c⟩ := hcut
  clear H2 hL hst hzt
  go_wp2_with fail
  go_at_call 90
  refine (unhide HLow _).mono ?_
  rintro e w1 ⟨rfl, hw1⟩
  replace hw1 := hw1.symm
  subst hw1
  go_wp2_with fail
  refine (unhide HQ _).mono ?_
  rintro e w2 ⟨ho, hw2⟩
  have HOut := hide (unhide HX _ ho)
  obtain ⟨what, f, p, rfl, _⟩ := ho
  have H2d := hide ((unhide H2c).below hw2)
  clear hw2 H2c
  go_wp2_with fail
  rw [(unhide H2d).r.store]
  have HR3 := hide ((unhide H2d).r.row what .empty f i)
  go_wp2_with fail
  exact ret_tok rfl rfl rfl (unhide HR3) rfl ⟨unhide HOut, below_setRow (unhide H2d).b (Nat.le_refl _) _⟩
set_option maxRecDepth 4000 in
set_option maxHeartbeats 8000000 in
theorem one_name (hs : s.size ≤ 400) (hi : i < s.size) (hl : 97 ≤ bAt s i ∧ bAt s i ≤ 122) : Calls Tryz.prog 61 #[.string s, .int .i64 i] w fun e w' => OutO s i e ∧ Below w.heap.size w w' := by
  have hzt := zeroTok
  have hL : ((tokV .empty .empty noB 0).set 258 (.int .i64 i)).set 0 (.string ⟨#[110, 111, 110, 101]⟩) = tokV noneW .empty noB i := by rw [tokV_at]; rfl
  have hlen := tokV_len
  have hst := fun o => storeTok2 w o .empty .empty noneW .empty noB noB 0 i
  have H2 := hide (Two.start w i)
  have e1 := bAt_nat s i hi
  obtain ⟨b, hb⟩ : ∃ b : UInt8, s[i]'hi = b := ⟨_, rfl⟩
  rw [hb] at e1
  have hiI : (i : Int) < s.size := by omega
  have hieq : ((i : Int) == s.size) = false := by simp; omega
  have HLow := hide (fun W => lower_any W b)
  have hlow : lowB b = true := by unfold lowB; simp; omega
  rw [hlow] at HLow
  clear hlow
  clear e1
  go_enter Tryz.func61, Tryz.ntmps61
  go_upto_region 1 with fail
  go_cut [6] (fun v wc => v = .pointer (some ⟨w.heap.size + 1, 0, none⟩) ∧ Hid (Two w i noneW .empty wc))
  case first =>
    go_wp2_with fail
    go_meet
    case rel => exact ⟨rfl, H2⟩
  case rest =>
  obtain ⟨rfl, H2c⟩ := hcut
  clear H2 hL hst hzt
  go_wp2_with fail
  go_at_call 90
  refine (unhide HLow _).mono ?_
  rintro e w1 ⟨rfl, hw1⟩
  replace hw1 := hw1.symm
  subst hw1
  go_wp2_with fail
  go_loopw [8] (fun v wr => ∃ (j n : Nat), v = .int .i64 j ∧ j ≤ s.size ∧ Hid (i ≤ j ∧ s.size < n + j) ∧ Hid (nameEnd s (s.size + 1 - i) i = nameEnd s n j) ∧ Hid (Two w i noneW .empty wr)) (fun v _ => s.size - (intOf v).toNat)
  case atStart => exact ⟨i, s.size + 1 - i, rfl, by omega, ⟨by omega, by omega⟩, rfl, H2c⟩
  case round =>
    obtain ⟨j, n, rfl, hjs, HJ, HE, HTw⟩ := hrel
    clear H2c
    by_cases hjl : j < s.size
    · have e2 := bAt_nat s j hjl
      obtain ⟨b2, hb2⟩ : ∃ b : UInt8, s[j]'hjl = b := ⟨_, rfl⟩
      rw [hb2] at e2
      have hjI : (j : Int) < s.size := by omega
      have hj0 : (0 : Int) ≤ (j : Int) := by omega
      have HLj := hide (fun W => lower_any W b2)
      have HX1 : isNameC (bAt s j) = true → Hid (nameEnd s (s.size + 1 - i) i = nameEnd s (n - 1) ((j + 1 : Nat) : Int)) := fun h => by
        have h1 := unhide HE
        have h2 := unhide HJ
        rw [show n = (n - 1) + 1 by omega, name_1 h] at h1
        exact h1
      by_cases hlo : 97 ≤ b2.toNat ∧ b2.toNat ≤ 122
      · have hlow : lowB b2 = true := by unfold lowB; simp; omega
        have HE2 := HX1 (by unfold isNameC; simp; omega)
        rw [hlow] at HLj
        clear hlow HX1 hlo e2
        go_wp2_with fail
        go_at_call 90
        refine (unhide HLj _).mono ?_
        rintro e w1 ⟨rfl, hw1⟩
        replace hw1 := hw1.symm
        subst hw1
        go_wp2_with fail
        go_roundw
        case rel => exact ⟨j + 1, n - 1, by go_num, by omega, by have := unhide HJ; exact ⟨by omega, by omega⟩, HE2, HTw⟩
        case measure => simp [intOf]; omega
      · have hlow : lowB b2 = false := by unfold lowB; simp; omega
        rw [hlow] at HLj
        clear hlow
        by_cases hd1 : 48 ≤ b2.toNat
        · by_cases hd2 : b2.toNat ≤ 57
          · have HE2 := HX1 (by unfold isNameC; simp; omega)
            clear HX1 hlo e2
            go_wp2_with fail
            go_at_call 90
            refine (unhide HLj _).mono ?_
            rintro e w1 ⟨rfl, hw1⟩
            replace hw1 := hw1.symm
            subst hw1
            go_wp2_with fail
            go_roundw
            case rel => exact ⟨j + 1, n - 1, by go_num, by omega, by have := unhide HJ; exact ⟨by omega, by omega⟩, HE2, HTw⟩
            case measure => simp [intOf]; omega
          · have HNC : isNameC (bAt s j) = false := by unfold isNameC; simp; omega
            clear HX1 hlo e2
            have HEnd : Hid (nameEnd s (s.size + 1 - i) i = (j : Int)) := (unhide HE).trans (name_2 HNC)
            have hjr := (unhide HJ).1
            by_cases h8 : j ≤ i + 8
            · have h8I : (j : Int) ≤ (i : Int) + 8 := by omega
              have HFin := hide (name_out s i j hi hl (unhide HEnd) h8 noB)
              have H2b := hide (((unhide HTw).setW ⟨#[110, 97, 109, 101]⟩).setS (s.extract i j))
              obtain ⟨c0, c1, cf, cl⟩ := And.intro (unhide HTw).n.c0 (And.intro (unhide HTw).n.c1 (And.intro (unhide HTw).n.fz (unhide HTw).n.lt))
              obtain ⟨g1, gf, gl⟩ := And.intro ((unhide HTw).setW ⟨#[110, 97, 109, 101]⟩).n.c1 (And.intro ((unhide HTw).setW ⟨#[110, 97, 109, 101]⟩).n.fz ((unhide HTw).setW ⟨#[110, 97, 109, 101]⟩).n.lt)
              have hijI : (i : Int) ≤ j := by omega
              have hjsI : (j : Int) ≤ s.size := by omega
              go_wp2_with fail
              go_at_call 90
              refine (unhide HLj _).mono ?_
              rintro e w1 ⟨rfl, hw1⟩
              replace hw1 := hw1.symm
              subst hw1
              go_wp2_with fail
              refine wp_load rfl (unhide H2b).n.loadAt ?_
              go_wp2_with fail
              rw [(unhide H2b).r.store]
              have HR3 := hide ((unhide H2b).r.row ⟨#[110, 97, 109, 101]⟩ (s.extract i j) noB i)
              go_wp2_with fail
              exact ret_tok rfl rfl rfl (unhide HR3) rfl ⟨unhide HFin, below_setRow (unhide H2b).b (Nat.le_refl _) _⟩
            · have h8I : ¬ (j : Int) ≤ (i : Int) + 8 := by omega
              have HFin := hide (noname_out s i j hi hl (unhide HEnd) (by omega) .empty noB (j : Int))
              go_wp2_with fail
              go_at_call 90
              refine (unhide HLj _).mono ?_
              rintro e w1 ⟨rfl, hw1⟩
              replace hw1 := hw1.symm
              subst hw1
              go_wp2_with fail
              refine wp_load rfl (unhide HTw).n.loadAt ?_
              go_wp2_with fail
              rw [(unhide HTw).r.store]
              have HR3 := hide ((unhide HTw).r.row noneW .empty noB i)
              go_wp2_with fail
              exact ret_tok rfl rfl rfl (unhide HR3) rfl ⟨unhide HFin, below_setRow (unhide HTw).b (Nat.le_refl _) _⟩
        · have HNC : isNameC (bAt s j) = false := by unfold isNameC; simp; omega
          clear HX1 hlo e2
          have HEnd : Hid (nameEnd s (s.size + 1 - i) i = (j : Int)) := (unhide HE).trans (name_2 HNC)
          have hjr := (unhide HJ).1
          by_cases h8 : j ≤ i + 8
          · have h8I : (j : Int) ≤ (i : Int) + 8 := by omega
            have HFin := hide (name_out s i j hi hl (unhide HEnd) h8 noB)
            have H2b := hide (((unhide HTw).setW ⟨#[110, 97, 109, 101]⟩).setS (s.extract i j))
            obtain ⟨c0, c1, cf, cl⟩ := And.intro (unhide HTw).n.c0 (And.intro (unhide HTw).n.c1 (And.intro (unhide HTw).n.fz (unhide HTw).n.lt))
            obtain ⟨g1, gf, gl⟩ := And.intro ((unhide HTw).setW ⟨#[110, 97, 109, 101]⟩).n.c1 (And.intro ((unhide HTw).setW ⟨#[110, 97, 109, 101]⟩).n.fz ((unhide HTw).setW ⟨#[110, 97, 109, 101]⟩).n.lt)
            have hijI : (i : Int) ≤ j := by omega
            have hjsI : (j : Int) ≤ s.size := by omega
            go_wp2_with fail
            go_at_call 90
            refine (unhide HLj _).mono ?_
            rintro e w1 ⟨rfl, hw1⟩
            replace hw1 := hw1.symm
            subst hw1
            go_wp2_with fail
            refine wp_load rfl (unhide H2b).n.loadAt ?_
            go_wp2_with fail
            rw [(unhide H2b).r.store]
            have HR3 := hide ((unhide H2b).r.row ⟨#[110, 97, 109, 101]⟩ (s.extract i j) noB i)
            go_wp2_with fail
            exact ret_tok rfl rfl rfl (unhide HR3) rfl ⟨unhide HFin, below_setRow (unhide H2b).b (Nat.le_refl _) _⟩
          · have h8I : ¬ (j : Int) ≤ (i : Int) + 8 := by omega
            have HFin := hide (noname_out s i j hi hl (unhide HEnd) (by omega) .empty noB (j : Int))
            go_wp2_with fail
            go_at_call 90
            refine (unhide HLj _).mono ?_
            rintro e w1 ⟨rfl, hw1⟩
            replace hw1 := hw1.symm
            subst hw1
            go_wp2_with fail
            refine wp_load rfl (unhide HTw).n.loadAt ?_
            go_wp2_with fail
            rw [(unhide HTw).r.store]
            have HR3 := hide ((unhide HTw).r.row noneW .empty noB i)
            go_wp2_with fail
            exact ret_tok rfl rfl rfl (unhide HR3) rfl ⟨unhide HFin, below_setRow (unhide HTw).b (Nat.le_refl _) _⟩
    · have hjI : ¬ (j : Int) < s.size := by omega
      have HNC : isNameC (bAt s j) = false := by rw [bAt_out s j (by omega)]; rfl
      have HEnd : Hid (nameEnd s (s.size + 1 - i) i = (j : Int)) := (unhide HE).trans (name_2 HNC)
      have hjr := (unhide HJ).1
      by_cases h8 : j ≤ i + 8
      · have h8I : (j : Int) ≤ (i : Int) + 8 := by omega
        have HFin := hide (name_out s i j hi hl (unhide HEnd) h8 noB)
        have H2b := hide (((unhide HTw).setW ⟨#[110, 97, 109, 101]⟩).setS (s.extract i j))
        obtain ⟨c0, c1, cf, cl⟩ := And.intro (unhide HTw).n.c0 (And.intro (unhide HTw).n.c1 (And.intro (unhide HTw).n.fz (unhide HTw).n.lt))
        obtain ⟨g1, gf, gl⟩ := And.intro ((unhide HTw).setW ⟨#[110, 97, 109, 101]⟩).n.c1 (And.intro ((unhide HTw).setW ⟨#[110, 97, 109, 101]⟩).n.fz ((unhide HTw).setW ⟨#[110, 97, 109, 101]⟩).n.lt)
        have hijI : (i : Int) ≤ j := by omega
        have hjsI : (j : Int) ≤ s.size := by omega
        go_wp2_with fail
        refine wp_load rfl (unhide H2b).n.loadAt ?_
        go_wp2_with fail
        rw [(unhide H2b).r.store]
        have HR3 := hide ((unhide H2b).r.row ⟨#[110, 97, 109, 101]⟩ (s.extract i j) noB i)
        go_wp2_with fail
        exact ret_tok rfl rfl rfl (unhide HR3) rfl ⟨unhide HFin, below_setRow (unhide H2b).b (Nat.le_refl _) _⟩
      · have h8I : ¬ (j : Int) ≤ (i : Int) + 8 := by omega
        have HFin := hide (noname_out s i j hi hl (unhide HEnd) (by omega) .empty noB (j : Int))
        go_wp2_with fail
        refine wp_load rfl (unhide HTw).n.loadAt ?_
        go_wp2_with fail
        rw [(unhide HTw).r.store]
        have HR3 := hide ((unhide HTw).r.row noneW .empty noB i)
        go_wp2_with fail
        exact ret_tok rfl rfl rfl (unhide HR3) rfl ⟨unhide HFin, below_setRow (unhide HTw).b (Nat.le_refl _) _⟩
/-- one: the token right at a place -/
theorem one_any (hs : s.size ≤ 400) (hi : i ≤ s.size) : Calls Tryz.prog 61 #[.string s, .int .i64 i] w fun e w' => OutO s i e ∧ Below w.heap.size w w' := by
  by_cases h : i = s.size
  · exact one_end w s i h
  have hi' : i < s.size := by omega
  by_cases hl : 97 ≤ bAt s i ∧ bAt s i ≤ 122
  · exact one_name w s i hs hi' hl
  by_cases h39 : bAt s i = 39
  · exact one_word w s i hs hi' h39
  by_cases h91 : bAt s i = 91
  · exact one_set w s i hs hi' h91
  by_cases h60 : bAt s i = 60
  · by_cases h45 : bAt s (i + 1) = 45
    · exact one_arrow w s i hs hi' h60 h45
    · exact one_none w s i hs hi' hl (fun _ => h45) h39 h91 (by rw [h60]; rfl)
  by_cases hk : signK (bAt s i) = 0
  · exact one_none w s i hs hi' hl (fun h => absurd h h60) h39 h91 hk
  · exact one_sign w s i hs hi' hl h60 h39 h91 hk
end
end Go.Proofs.YtbojcemamhiodaaGreatDoor

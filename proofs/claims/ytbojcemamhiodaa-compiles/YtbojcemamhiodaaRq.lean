import Derived.Test.YtbojcemamhiodaaRft
namespace Go.Proofs.Ytbojcemamhiodaa
open Go.RowKit

theorem conv_one (b : Int) (c : UInt8) (hb : (c.toNat : Int) = b) (W : World) (B : Nat) (h : W.cell? ⟨B, 0, none⟩ = some (.int .u8 b)) : (convert 112 9 (.slice (some ⟨B, 0, none⟩) 1 1)).run Try.prog W = .ok (.string ⟨#[c]⟩) W := by
  refine run_convert_bytes_back (P := Try.prog) W 112 9 5 ⟨B, 0, none⟩ 1 [c] Try.underlying112 Try.underlying5 Try.underlying9 ?_
  intro j hj
  simp at hj
  subst hj
  have hadd : (⟨B, 0, none⟩ : Addr).add 0 = ⟨B, 0, none⟩ := by unfold Addr.add; split <;> simp_all
  rw [hadd, h]
  show _ = some (Value.int .u8 (c.toNat : Int))
  rw [hb]
def noneW : ByteArray := ⟨#[110, 111, 110, 101]⟩
def wordW : ByteArray := ⟨#[119, 111, 114, 100]⟩
def OutQ (s : ByteArray) (i : Nat) (e : Ending) : Prop := ∃ (what str : ByteArray) (p : Int), e = .returned (.tuple #[.agg (tokV what str noB i).toArray, .int .i64 p]) ∧
  ((wordEnd s (s.size + 1 - i) (i + 1) = none ∧ what = noneW) ∨ (∃ j, wordEnd s (s.size + 1 - i) (i + 1) = some j ∧ what = wordW ∧ str = ⟨(wordBs s (s.size + 1) (i + 1)).toArray⟩ ∧ p = j + 1))
theorem wordC_zero {s : ByteArray} {j : Nat} (h : (wordC s j).1 < 0) (hq : bAt s j ≠ 39) : letR s j [39, 92] = (0, 0) := by rw [ref_wordC s j hq, if_pos h]
theorem wordC_some {s : ByteArray} {j : Nat} (h : 0 ≤ (wordC s j).1) (hq : bAt s j ≠ 39) : letR s j [39, 92] = wordC s j := by rw [ref_wordC s j hq, if_neg (by omega)]
theorem wordC_quote {s : ByteArray} {j : Int} (h : bAt s j = 39) : (wordC s j).1 < 0 := by
  unfold wordC
  rw [if_neg (by omega)]
  unfold plainC
  rw [h, if_pos (by right; right; rfl)]
  show (-1 : Int) < 0
  omega
theorem wordC_out {s : ByteArray} {j : Int} (h : (s.size : Int) ≤ j) : (wordC s j).1 < 0 := by
  unfold wordC
  rw [bAt_out s j h, if_neg (by omega)]
  unfold plainC
  rw [if_pos (by omega)]
  show (-1 : Int) < 0
  omega
theorem wordEnd_out {s : ByteArray} {n : Nat} {j : Int} (h : (s.size : Int) ≤ j) : wordEnd s n j = none := by
  cases n with
  | zero => rfl
  | succ n => exact wordEnd_2 (by rw [bAt_out s j h]; omega) (wordC_out h)
theorem append_bl (acc : List UInt8) (c : UInt8) : (⟨acc.toArray⟩ : ByteArray) ++ ⟨#[c]⟩ = ⟨(acc ++ [c]).toArray⟩ := by
  apply ByteArray.ext
  simp
theorem storeTok2 (w : World) (o : Obj) (a b a' b' : ByteArray) (f f' : Nat → Bool) (i i' : Int) : (storeCells ⟨w.heap.size + 1, 0, none⟩ (tokV a' b' f' i')).run Try.prog ((w.alloc o).alloc (.cells (tokV a b f i).toArray 56)) = .ok () ((w.alloc o).alloc (.cells (tokV a' b' f' i').toArray 56)) := by
  have h := (tok_new (w.alloc o) a b f i).store a' b' f' i'
  rw [show (w.alloc o).heap.size = w.heap.size + 1 from by simp] at h
  rw [h, ← show (w.alloc o).heap.size = w.heap.size + 1 from by simp, World.setRow_alloc_new]
set_option maxRecDepth 4000 in
set_option maxHeartbeats 1000000 in
theorem quoted_any (w : World) (s : ByteArray) (i : Nat) (hs : s.size ≤ 400) (hi : i < s.size) :
    Calls Try.prog 47 #[.string s, .int .i64 i] w fun e w' => OutQ s i e ∧ Below w.heap.size w w' := by
  have hzt := zeroTok
  have hL : ((tokV .empty .empty noB 0).set 258 (.int .i64 i)).set 0 (.string ⟨#[110, 111, 110, 101]⟩) = tokV noneW .empty noB i := by rw [tokV_at]; rfl
  have hlen := tokV_len
  have hst := fun o => storeTok2 w o .empty .empty noneW .empty noB noB 0 i
  go_enter Try.func47, Try.ntmps47
  go_wp2_with fail
  go_loopw [7] (fun k wr => ∃ (j n m : Nat) (acc : List UInt8), k = .int .i64 j ∧ j ≤ s.size ∧ Hid (i < j ∧ s.size < n + j ∧ s.size < m + j ∧ acc.length ≤ j) ∧ Hid (wordEnd s (s.size + 1 - i) (i + 1) = wordEnd s n j) ∧ Hid (wordBs s (s.size + 1) (i + 1) = acc ++ wordBs s m j) ∧
      Hid (TokB wr (w.heap.size + 1) noneW ⟨acc.toArray⟩ noB i) ∧ Hid (TokB wr w.heap.size .empty .empty noB 0) ∧ Hid (Below w.heap.size w wr)) (fun k _ => s.size - (intOf k).toNat)
  case atStart =>
    refine ⟨i + 1, s.size + 1 - i, s.size + 1, [], rfl, by omega, ⟨by omega, by omega, by omega, by simp⟩, rfl, rfl, ?_, ?_, ?_⟩
    · have h := tok_new (w.alloc (.cells (tokV .empty .empty noB 0).toArray 56)) noneW .empty noB i
      rw [show (w.alloc (.cells (tokV .empty .empty noB 0).toArray 56)).heap.size = w.heap.size + 1 from by simp] at h
      exact h
    · exact (tok_new w .empty .empty noB 0).alloc _
    · exact ((Below.refl _ _).alloc (Nat.le_refl _) _).alloc (by simp) _
  case round =>
    obtain ⟨j, n, m, acc, rfl, hj, HJ, HE, HB, HT, HR, HW⟩ := hrel
    clear hL hst
    by_cases hlt : j < s.size
    · have e1 := bAt_nat s j hlt
      obtain ⟨b, hb⟩ : ∃ b : UInt8, s[j]'hlt = b := ⟨_, rfl⟩
      rw [hb] at e1
      by_cases h39 : b.toNat = 39
      · have HX := hide (show bAt s j = 39 by omega)
        clear e1
        obtain ⟨c0, c1, cf, cl⟩ := And.intro (unhide HT).c0 (And.intro (unhide HT).c1 (And.intro (unhide HT).fz (unhide HT).lt))
        go_wp2_with fail
        refine wp_load rfl ((unhide HT).setW ⟨#[119, 111, 114, 100]⟩).loadAt ?_
        go_wp2_with fail
        have hR2 := (unhide HR).other (p := ⟨w.heap.size + 1, 0, none⟩) (show w.heap.size + 1 ≠ w.heap.size by omega) (.string ⟨#[119, 111, 114, 100]⟩)
        rw [hR2.store]
        have HR3 := hide (hR2.row ⟨#[119, 111, 114, 100]⟩ ⟨acc.toArray⟩ noB i)
        clear hR2
        have HF := hide (show wordBs s (s.size + 1) (i + 1) = acc by rw [unhide HB, wordBs_no (wordC_quote (unhide HX)), List.append_nil])
        have HF2 : Hid (wordEnd s (s.size + 1 - i) (i + 1) = some (j : Int)) := by
          have h1 := unhide HE
          have h2 := unhide HJ
          rw [show n = (n - 1) + 1 by omega, wordEnd_1 (unhide HX)] at h1
          exact h1
        go_wp2_with fail
        refine ret_tok rfl rfl rfl (unhide HR3) rfl ⟨⟨_, _, _, rfl, .inr ⟨j, unhide HF2, rfl, ?_, rfl⟩⟩, below_setRow ((unhide HW).setCell (by simp) _) (Nat.le_refl _) _⟩
        rw [unhide HF]
      · have hne : bAt s j ≠ 39 := by omega
        by_cases hc : (wordC s j).1 < 0
        · have HF2 : Hid (wordEnd s (s.size + 1 - i) (i + 1) = none) := by
            have h1 := unhide HE
            have h2 := unhide HJ
            rw [show n = (n - 1) + 1 by omega, wordEnd_2 hne hc] at h1
            exact h1
          have hle := wordC_zero hc hne
          have HLt := hide (fun W => letter_any W s j [39, 92] hs (by omega) (by decide) (by decide))
          rw [hle] at HLt
          clear e1 hne hc hle
          go_wp2_with fail
          refine (unhide HLt _).mono ?_
          rintro e w1 ⟨rfl, hw1⟩
          have HT1 := hide ((unhide HT).below hw1 (Nat.le_refl _))
          have HR1 := hide ((unhide HR).below hw1 (Nat.le_refl _))
          have HW1 := hide ((unhide HW).trans (hw1.mono (unhide HW).size))
          clear hw1
          go_wp2_with fail
          refine wp_load rfl (unhide HT1).loadAt ?_
          go_wp2_with fail
          rw [(unhide HR1).store]
          have HR3 := hide ((unhide HR1).row noneW ⟨acc.toArray⟩ noB i)
          go_wp2_with fail
          exact ret_tok rfl rfl rfl (unhide HR3) rfl ⟨⟨_, _, _, rfl, .inl ⟨unhide HF2, rfl⟩⟩, below_setRow (unhide HW1) (Nat.le_refl _) _⟩
        · have g1 : 0 ≤ (wordC s j).1 := by omega
          have hg := wordC_good s j
          unfold GoodC at hg
          have g2 : (wordC s j).1 ≤ 255 := by omega
          have g3 : (j : Int) < (wordC s j).2 := by omega
          have g4 : (wordC s j).2 ≤ s.size := by omega
          have hle := wordC_some g1 hne
          have HLt := hide (fun W => letter_any W s j [39, 92] hs (by omega) (by decide) (by decide))
          rw [hle] at HLt
          have hu := u8_of g1 g2
          have HE2 : Hid (wordEnd s (s.size + 1 - i) (i + 1) = wordEnd s (n - 1) (wordC s j).2) := by
            have h1 := unhide HE
            have h2 := unhide HJ
            rw [show n = (n - 1) + 1 by omega, wordEnd_3 hne g1] at h1
            exact h1
          have HB2 : Hid (wordBs s (s.size + 1) (i + 1) = (acc ++ [UInt8.ofNat (wordC s j).1.toNat]) ++ wordBs s (m - 1) (wordC s j).2) := by
            have h1 := unhide HB
            have h2 := unhide HJ
            rw [show m = (m - 1) + 1 by omega, wordBs_yes g1] at h1
            rw [Hid, h1]
            simp
          obtain ⟨jj, hjj⟩ : ∃ jj : Nat, (wordC s j).2 = jj := ⟨(wordC s j).2.toNat, by omega⟩
          rw [hjj] at HE2 HB2 HLt g3 g4
          generalize (wordC s j).1 = cc at *
          generalize hcb : UInt8.ofNat cc.toNat = cb at *
          have hnz : (((jj : Nat) : Int) == 0) = false := by simp; omega
          have HJ2 : Hid (i < jj ∧ s.size < n - 1 + jj ∧ s.size < m - 1 + jj ∧ (acc ++ [cb]).length ≤ jj) := by
            have h2 := unhide HJ
            exact ⟨by omega, by omega, by omega, by simp; omega⟩
          have hal : acc.length ≤ 1000 := by have h2 := unhide HJ; omega
          have hap := append_bl acc cb
          have hcv := fun W : World => conv_one cc cb hu.symm (W.alloc (.cells #[.int .u8 cc] 5)) W.heap.size (by simp only [World.cell?, heap_alloc_last]; rfl)
          have g5 : jj ≤ s.size := by omega
          have g6 : j < jj := by omega
          clear e1 hne hc hle hg g3 g4 hjj hcb hu g1 g2
          go_wp2_with fail
          refine (unhide HLt _).mono ?_
          rintro e w1 ⟨rfl, hw1⟩
          have hT1 := (unhide HT).below hw1 (Nat.le_refl _)
          have HT1 := hide hT1
          have HR1 := hide ((unhide HR).below hw1 (Nat.le_refl _))
          have HW1 := hide ((unhide HW).trans (hw1.mono (unhide HW).size))
          obtain ⟨c0, c1, cf, cl⟩ := And.intro hT1.c0 (And.intro hT1.c1 (And.intro hT1.fz hT1.lt))
          clear hw1 hT1
          go_wp2_with fail
          go_roundw
          case rel =>
            refine ⟨jj, n - 1, m - 1, acc ++ [cb], rfl, g5, HJ2, HE2, HB2, ?_, ?_, ?_⟩
            · exact hide (((unhide HT1).setS _).alloc _)
            · exact hide (((unhide HR1).other (show w.heap.size + 1 ≠ w.heap.size by omega) _).alloc _)
            · exact hide ((((unhide HW1).setCell (by simp) _)).alloc (by simp; exact (unhide HW1).size) _)
          case measure => simp [intOf]; omega
    · have hjs : j = s.size := by omega
      have HF2 : Hid (wordEnd s (s.size + 1 - i) (i + 1) = none) := by
        rw [Hid, unhide HE, wordEnd_out (by omega)]
      go_wp2_with fail
      refine wp_load rfl (unhide HT).loadAt ?_
      go_wp2_with fail
      rw [(unhide HR).store]
      have HR3 := hide ((unhide HR).row noneW ⟨acc.toArray⟩ noB i)
      go_wp2_with fail
      exact ret_tok rfl rfl rfl (unhide HR3) rfl ⟨⟨_, _, _, rfl, .inl ⟨unhide HF2, rfl⟩⟩, below_setRow (unhide HW) (Nat.le_refl _) _⟩
end Go.Proofs.Ytbojcemamhiodaa

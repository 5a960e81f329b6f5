import Derived.Test.YtbojcemamhiodaaGreatDoorXps
import Derived.Test.YtbojcemamhiodaaGreatDoorExs
namespace Go.Proofs.YtbojcemamhiodaaGreatDoor
open Go.RowKit

/-- what stands right at a place -/
def tkAt (s : ByteArray) (i : Nat) : Tk := if (s.size : Int) ≤ i then ⟨1, s.size, s.size⟩ else ⟨(readT s i).1, i, (readT s i).2⟩
def OutO (s : ByteArray) (i : Nat) (e : Ending) : Prop := ∃ (str : ByteArray) (f : Nat → Bool) (p : Int), e = .returned (.tuple #[.agg (tokV (whatK (tkAt s i).k) str f i).toArray, .int .i64 p]) ∧ TokR s (tkAt s i) str f ∧ (2 ≤ (tkAt s i).k → p = (tkAt s i).to)
theorem TokR.none {s : ByteArray} {t : Tk} {str : ByteArray} {f : Nat → Bool} (h2 : t.k ≠ 2) (h4 : t.k ≠ 4) (h5 : t.k ≠ 5) : TokR s t str f := ⟨fun h => absurd h h2, fun h => absurd h h4, fun h => absurd h h5⟩
theorem tkAt_in {s : ByteArray} {i : Nat} (hi : i < s.size) : tkAt s i = ⟨(readT s i).1, i, (readT s i).2⟩ := by
  unfold tkAt
  rw [if_neg (by omega)]
theorem OutO.of {s : ByteArray} {i : Nat} {k z : Int} {str : ByteArray} {f : Nat → Bool} {p : Int} {what : ByteArray} (ht : tkAt s i = ⟨k, i, z⟩) (hw : what = whatK k) (hr : TokR s ⟨k, i, z⟩ str f) (hp : 2 ≤ k → p = z) :
    OutO s i (.returned (.tuple #[.agg (tokV what str f i).toArray, .int .i64 p])) := by
  refine ⟨str, f, p, ?_, ?_, ?_⟩
  · rw [ht, hw]
  · rw [ht]; exact hr
  · rw [ht]; exact hp
def sgnL : List UInt8 := [47, 38, 33, 42, 43, 63, 46, 40, 41, 123, 125, 58]
theorem sgn_has (b : UInt8) : hasB sgnL b = decide (signK b.toNat ≠ 0) := by
  have key : ∀ n : Nat, n < 256 → hasB sgnL (UInt8.ofNat n) = decide (signK n ≠ 0) := by decide +kernel
  have := key b.toNat b.toNat_lt
  rwa [UInt8.ofNat_toNat] at this
theorem sgn_what (b : UInt8) (h : signK b.toNat ≠ 0) : (⟨#[b]⟩ : ByteArray) = whatK (signK b.toNat) := by
  have key : ∀ n : Nat, n < 256 → signK n ≠ 0 → (⟨#[UInt8.ofNat n]⟩ : ByteArray) = whatK (signK n) := by decide +kernel
  have := key b.toNat b.toNat_lt h
  rwa [UInt8.ofNat_toNat] at this
theorem signK_ge (b : UInt8) (h : signK b.toNat ≠ 0) : 6 ≤ signK b.toNat := by
  have key : ∀ n : Nat, n < 256 → signK n ≠ 0 → 6 ≤ signK n := by decide +kernel
  exact key b.toNat b.toNat_lt h
/-- the two tokens of one -/
structure Two (w : World) (i : Nat) (what str : ByteArray) (wr : World) : Prop where
  n : TokB wr (w.heap.size + 1) what str noB i
  r : TokB wr w.heap.size .empty .empty noB 0
  b : Below w.heap.size w wr
theorem Two.below {w : World} {i : Nat} {what str : ByteArray} {wr w1 : World} (h : Two w i what str wr) (hb : Below wr.heap.size wr w1) : Two w i what str w1 :=
  ⟨h.n.below hb (Nat.le_refl _), h.r.below hb (Nat.le_refl _), h.b.trans (hb.mono h.b.size)⟩
theorem Two.start (w : World) (i : Nat) : Two w i noneW .empty ((w.alloc (.cells (tokV .empty .empty noB 0).toArray 83)).alloc (.cells (tokV noneW .empty noB i).toArray 83)) := by
  have h1 := tok_new (w.alloc (.cells (tokV .empty .empty noB 0).toArray 83)) noneW .empty noB i
  rw [show (w.alloc (.cells (tokV .empty .empty noB 0).toArray 83)).heap.size = w.heap.size + 1 from by simp] at h1
  exact ⟨h1, (tok_new w .empty .empty noB 0).alloc _, ((Below.refl _ _).alloc (Nat.le_refl _) _).alloc (by simp) _⟩
theorem Two.setW {w : World} {i : Nat} {what str : ByteArray} {wr : World} (h : Two w i what str wr) (what' : ByteArray) : Two w i what' str (wr.setCell ⟨w.heap.size + 1, 0, none⟩ (.string what')) :=
  ⟨h.n.setW what', h.r.other (show w.heap.size + 1 ≠ w.heap.size by omega) _, h.b.setCell (show w.heap.size ≤ w.heap.size + 1 by omega) _⟩
theorem Two.setS {w : World} {i : Nat} {what str : ByteArray} {wr : World} (h : Two w i what str wr) (str' : ByteArray) : Two w i what str' (wr.setCell ⟨w.heap.size + 1, 1, none⟩ (.string str')) :=
  ⟨h.n.setS str', h.r.other (show w.heap.size + 1 ≠ w.heap.size by omega) _, h.b.setCell (show w.heap.size ≤ w.heap.size + 1 by omega) _⟩
theorem name_1 {s : ByteArray} {n : Nat} {j : Int} (h : isNameC (bAt s j) = true) : nameEnd s (n + 1) j = nameEnd s n (j + 1) := by rw [nameEnd, if_pos h]
theorem name_2 {s : ByteArray} {n : Nat} {j : Int} (h : isNameC (bAt s j) = false) : nameEnd s n j = j := by
  cases n with
  | zero => rfl
  | succ n => rw [nameEnd, if_neg (by simp [h])]
section
variable (w : World) (s : ByteArray) (i : Nat)
set_option maxRecDepth 4000 in
set_option maxHeartbeats 2000000 in
theorem one_end (hi : i = s.size) : Calls Tryz.prog 61 #[.string s, .int .i64 i] w fun e w' => OutO s i e ∧ Below w.heap.size w w' := by
  have hzt := zeroTok
  have hL : ((tokV .empty .empty noB 0).set 258 (.int .i64 i)).set 0 (.string ⟨#[110, 111, 110, 101]⟩) = tokV noneW .empty noB i := by rw [tokV_at]; rfl
  have hlen := tokV_len
  have hst := fun o => storeTok2 w o .empty .empty noneW .empty noB noB 0 i
  have H2 := hide (Two.start w i)
  have HO : Hid (tkAt s i = ⟨1, i, s.size⟩) := by unfold tkAt Hid; rw [if_pos (by omega), hi]
  have hieq : ((i : Int) == s.size) = true := by simp; omega
  clear hi
  go_enter Tryz.func61, Tryz.ntmps61
  go_upto_region 1 with fail
  go_cut [6] (fun v wc => v = .pointer (some ⟨w.heap.size + 1, 0, none⟩) ∧ Hid (Two w i noneW .empty wc))
  case first =>
    go_wp2_with fail
    go_meet
    case rel => exact ⟨rfl, H2⟩
  case rest =>
  obtain ⟨rfl, H2c⟩ := hcut
  clear H2 hL hst hzt
  obtain ⟨c0, c1, cf, cl⟩ := And.intro (unhide H2c).n.c0 (And.intro (unhide H2c).n.c1 (And.intro (unhide H2c).n.fz (unhide H2c).n.lt))
  have H2b := hide ((unhide H2c).setW ⟨#[101, 110, 100]⟩)
  go_wp2_with fail
  refine wp_load rfl (unhide H2b).n.loadAt ?_
  go_wp2_with fail
  rw [(unhide H2b).r.store]
  have HR3 := hide ((unhide H2b).r.row ⟨#[101, 110, 100]⟩ .empty noB i)
  go_wp2_with fail
  exact ret_tok rfl rfl rfl (unhide HR3) rfl ⟨OutO.of (unhide HO) rfl (.none (by simp) (by simp) (by simp)) (fun h => by omega), below_setRow (unhide H2b).b (Nat.le_refl _) _⟩
set_option maxRecDepth 4000 in
set_option maxHeartbeats 2000000 in
theorem one_arrow (hs : s.size ≤ 400) (hi : i < s.size) (h60 : bAt s i = 60) (h45 : bAt s (i + 1) = 45) : Calls Tryz.prog 61 #[.string s, .int .i64 i] w fun e w' => OutO s i e ∧ Below w.heap.size w w' := by
  have hzt := zeroTok
  have hL : ((tokV .empty .empty noB 0).set 258 (.int .i64 i)).set 0 (.string ⟨#[110, 111, 110, 101]⟩) = tokV noneW .empty noB i := by rw [tokV_at]; rfl
  have hlen := tokV_len
  have hst := fun o => storeTok2 w o .empty .empty noneW .empty noB noB 0 i
  have H2 := hide (Two.start w i)
  have e1 := bAt_nat s i hi
  obtain ⟨b, hb⟩ : ∃ b : UInt8, s[i]'hi = b := ⟨_, rfl⟩
  rw [hb] at e1
  have hiI : (i : Int) < s.size := by omega
  have hieq : ((i : Int) == s.size) = false := by simp; omega
  have HLow := hide (fun W => lower_any W b)
  have hlow : lowB b = false := by unfold lowB; simp; omega
  rw [hlow] at HLow
  clear hlow
  have h1 : i + 1 < s.size := by have := bAt_in (s := s) (i := (i : Int) + 1) (by omega); omega
  have h1I : (i : Int) + 1 < s.size := by omega
  have e2 : bAt s ((i : Int) + 1) = _ := (congrArg (bAt s) (show (i : Int) + 1 = ((i + 1 : Nat) : Int) by omega)).trans (bAt_nat s (i + 1) h1)
  obtain ⟨b2, hb2⟩ : ∃ b : UInt8, s[i + 1]'h1 = b := ⟨_, rfl⟩
  rw [hb2] at e2
  have f1 : ((b.toNat : Int) == 39) = false := by simp; omega
  have f2 : ((b.toNat : Int) == 91) = false := by simp; omega
  have f3 : ((b.toNat : Int) == 60) = true := by simp; omega
  have f4 : ((b2.toNat : Int) == 45) = true := by simp; omega
  have HO : Hid (tkAt s i = ⟨3, i, i + 2⟩) := by
    unfold Hid
    rw [tkAt_in hi]
    unfold readT
    rw [if_neg (by omega), if_pos h60]
    unfold readAr
    rw [if_pos h45]
  clear e1 e2 h60 h45
  go_enter Tryz.func61, Tryz.ntmps61
  go_upto_region 1 with fail
  go_cut [6] (fun v wc => v = .pointer (some ⟨w.heap.size + 1, 0, none⟩) ∧ Hid (Two w i noneW .empty wc))
  case first =>
    go_wp2_with fail
    go_meet
    case rel => exact ⟨rfl, H2⟩
  case rest =>
  obtain ⟨rfl, H2c⟩ := hcut
  clear H2 hL hst hzt
  obtain ⟨c0, c1, cf, cl⟩ := And.intro (unhide H2c).n.c0 (And.intro (unhide H2c).n.c1 (And.intro (unhide H2c).n.fz (unhide H2c).n.lt))
  go_wp2_with fail
  go_at_call 90
  refine (unhide HLow _).mono ?_
  rintro e w1 ⟨rfl, hw1⟩
  replace hw1 := hw1.symm
  subst hw1
  have H2b := hide ((unhide H2c).setW ⟨#[60, 45]⟩)
  go_wp2_with fail
  refine wp_load rfl (unhide H2b).n.loadAt ?_
  go_wp2_with fail
  rw [(unhide H2b).r.store]
  have HR3 := hide ((unhide H2b).r.row ⟨#[60, 45]⟩ .empty noB i)
  go_wp2_with fail
  exact ret_tok rfl rfl rfl (unhide HR3) rfl ⟨OutO.of (unhide HO) rfl (.none (by simp) (by simp) (by simp)) (fun _ => rfl), below_setRow (unhide H2b).b (Nat.le_refl _) _⟩
set_option maxRecDepth 4000 in
set_option maxHeartbeats 2000000 in
theorem one_sign (hs : s.size ≤ 400) (hi : i < s.size) (hl : ¬ (97 ≤ bAt s i ∧ bAt s i ≤ 122)) (h60 : bAt s i ≠ 60) (h39 : bAt s i ≠ 39) (h91 : bAt s i ≠ 91) (hk : signK (bAt s i) ≠ 0) : Calls Tryz.prog 61 #[.string s, .int .i64 i] w fun e w' => OutO s i e ∧ Below w.heap.size w w' := by
  have hzt := zeroTok
  have hL : ((tokV .empty .empty noB 0).set 258 (.int .i64 i)).set 0 (.string ⟨#[110, 111, 110, 101]⟩) = tokV noneW .empty noB i := by rw [tokV_at]; rfl
  have hlen := tokV_len
  have hst := fun o => storeTok2 w o .empty .empty noneW .empty noB noB 0 i
  have H2 := hide (Two.start w i)
  have e1 := bAt_nat s i hi
  obtain ⟨b, hb⟩ : ∃ b : UInt8, s[i]'hi = b := ⟨_, rfl⟩
  rw [hb] at e1
  have hiI : (i : Int) < s.size := by omega
  have hieq : ((i : Int) == s.size) = false := by simp; omega
  have HLow := hide (fun W => lower_any W b)
  have hlow : lowB b = false := by unfold lowB; simp; omega
  rw [hlow] at HLow
  clear hlow
  have f1 : ((b.toNat : Int) == 39) = false := by simp; omega
  have f2 : ((b.toNat : Int) == 91) = false := by simp; omega
  have f3 : ((b.toNat : Int) == 60) = false := by simp; omega
  rw [e1] at hk
  have hk6 := signK_ge b hk
  have HA := hide (fun W => among_any W b sgnL (by decide) (by decide))
  rw [sgn_has, decide_eq_true hk] at HA
  have HO : Hid (tkAt s i = ⟨signK b.toNat, i, i + 1⟩) := by
    unfold Hid
    rw [tkAt_in hi]
    unfold readT
    rw [if_neg hl, if_neg h60, if_neg h39, if_neg h91, e1, if_neg hk]
  have HS := hide (sgn_what b hk)
  have hx : s.extract i (i + 1) = ⟨#[b]⟩ := by
    apply ByteArray.ext
    rw [ByteArray.data_extract]
    apply Array.ext
    · simp
      omega
    · intro j h1 h2
      have hj0 : j = 0 := by simp at h2; omega
      subst hj0
      simp [← hb]
      rfl
  have h1I : (i : Int) + 1 ≤ s.size := by omega
  clear e1 h60 h39 h91 hl
  go_enter Tryz.func61, Tryz.ntmps61
  go_upto_region 1 with fail
  go_cut [6] (fun v wc => v = .pointer (some ⟨w.heap.size + 1, 0, none⟩) ∧ Hid (Two w i noneW .empty wc))
  case first =>
    go_wp2_with fail
    go_meet
    case rel => exact ⟨rfl, H2⟩
  case rest =>
  obtain ⟨rfl, H2c⟩ := hcut
  clear H2 hL hst hzt
  obtain ⟨c0, c1, cf, cl⟩ := And.intro (unhide H2c).n.c0 (And.intro (unhide H2c).n.c1 (And.intro (unhide H2c).n.fz (unhide H2c).n.lt))
  go_wp2_with fail
  go_at_call 90
  refine (unhide HLow _).mono ?_
  rintro e w1 ⟨rfl, hw1⟩
  replace hw1 := hw1.symm
  subst hw1
  go_wp2_with fail
  refine (unhide HA _).mono ?_
  rintro e w2 ⟨rfl, hw2⟩
  have H2d := hide ((unhide H2c).below hw2)
  clear hw2 H2c c0 c1 cf cl
  obtain ⟨c0, c1, cf, cl⟩ := And.intro (unhide H2d).n.c0 (And.intro (unhide H2d).n.c1 (And.intro (unhide H2d).n.fz (unhide H2d).n.lt))
  have H2b := hide ((unhide H2d).setW ⟨#[b]⟩)
  go_wp2_with fail
  refine wp_load rfl (unhide H2b).n.loadAt ?_
  go_wp2_with fail
  rw [(unhide H2b).r.store]
  have HR3 := hide ((unhide H2b).r.row ⟨#[b]⟩ .empty noB i)
  go_wp2_with fail
  exact ret_tok rfl rfl rfl (unhide HR3) rfl ⟨OutO.of (unhide HO) (unhide HS) (.none (by simp; omega) (by simp; omega) (by simp; omega)) (fun _ => rfl), below_setRow (unhide H2b).b (Nat.le_refl _) _⟩
set_option maxRecDepth 4000 in
set_option maxHeartbeats 2000000 in
theorem one_none (hs : s.size ≤ 400) (hi : i < s.size) (hl : ¬ (97 ≤ bAt s i ∧ bAt s i ≤ 122)) (h60 : bAt s i = 60 → bAt s (i + 1) ≠ 45) (h39 : bAt s i ≠ 39) (h91 : bAt s i ≠ 91) (hk : signK (bAt s i) = 0) : Calls Tryz.prog 61 #[.string s, .int .i64 i] w fun e w' => OutO s i e ∧ Below w.heap.size w w' := by
  have hzt := zeroTok
  have hL : ((tokV .empty .empty noB 0).set 258 (.int .i64 i)).set 0 (.string ⟨#[110, 111, 110, 101]⟩) = tokV noneW .empty noB i := by rw [tokV_at]; rfl
  have hlen := tokV_len
  have hst := fun o => storeTok2 w o .empty .empty noneW .empty noB noB 0 i
  have H2 := hide (Two.start w i)
  have e1 := bAt_nat s i hi
  obtain ⟨b, hb⟩ : ∃ b : UInt8, s[i]'hi = b := ⟨_, rfl⟩
  rw [hb] at e1
  have hiI : (i : Int) < s.size := by omega
  have hieq : ((i : Int) == s.size) = false := by simp; omega
  have HLow := hide (fun W => lower_any W b)
  have hlow : lowB b = false := by unfold lowB; simp; omega
  rw [hlow] at HLow
  clear hlow
  have f1 : ((b.toNat : Int) == 39) = false := by simp; omega
  have f2 : ((b.toNat : Int) == 91) = false := by simp; omega
  have HO : Hid (tkAt s i = ⟨0, i, i⟩) := by
    unfold Hid
    rw [tkAt_in hi]
    unfold readT
    rw [if_neg hl]
    by_cases h : bAt s i = 60
    · rw [if_pos h]
      unfold readAr
      rw [if_neg (h60 h)]
    · rw [if_neg h, if_neg h39, if_neg h91, if_pos hk]
  rw [e1] at hk
  have HA := hide (fun W => among_any W b sgnL (by decide) (by decide))
  rw [sgn_has, decide_eq_false (by simpa using hk)] at HA
  have hcut1 : ((b.toNat : Int) == 60) = false ∨ (((b.toNat : Int) == 60) = true ∧ ((i : Int) + 1 < s.size → ∃ b2 : UInt8, ∃ h : i + 1 < s.size, s[i + 1]'h = b2 ∧ ((b2.toNat : Int) == 45) = false)) := by
    by_cases h : bAt s i = 60
    · right
      refine ⟨by simp; omega, fun h1 => ?_⟩
      have h1' : i + 1 < s.size := by omega
      have e2 : bAt s ((i : Int) + 1) = _ := (congrArg (bAt s) (show (i : Int) + 1 = ((i + 1 : Nat) : Int) by omega)).trans (bAt_nat s (i + 1) h1')
      have := h60 h
      refine ⟨_, h1', rfl, ?_⟩
      simp
      omega
    · left; simp; omega
  clear e1 h60 h39 h91 hl
  rcases hcut1 with f3 | ⟨f3, h2⟩
  · go_enter Tryz.func61, Tryz.ntmps61
    go_upto_region 1 with fail
    go_cut [6] (fun v wc => v = .pointer (some ⟨w.heap.size + 1, 0, none⟩) ∧ Hid (Two w i noneW .empty wc))
    case first =>
      go_wp2_with fail
      go_meet
      case rel => exact ⟨rfl, H2⟩
    case rest =>
    obtain ⟨rfl, H2c⟩ := hcut
    clear H2 hL hst hzt
    obtain ⟨c0, c1, cf, cl⟩ := And.intro (unhide H2c).n.c0 (And.intro (unhide H2c).n.c1 (And.intro (unhide H2c).n.fz (unhide H2c).n.lt))
    go_wp2_with fail
    go_at_call 90
    refine (unhide HLow _).mono ?_
    rintro e w1 ⟨rfl, hw1⟩
    replace hw1 := hw1.symm
    subst hw1
    go_wp2_with fail
    refine (unhide HA _).mono ?_
    rintro e w2 ⟨rfl, hw2⟩
    have H2d := hide ((unhide H2c).below hw2)
    clear hw2 H2c c0 c1 cf cl
    go_wp2_with fail
    refine wp_load rfl (unhide H2d).n.loadAt ?_
    go_wp2_with fail
    rw [(unhide H2d).r.store]
    have HR3 := hide ((unhide H2d).r.row noneW .empty noB i)
    go_wp2_with fail
    exact ret_tok rfl rfl rfl (unhide HR3) rfl ⟨OutO.of (unhide HO) rfl (.none (by simp) (by simp) (by simp)) (fun h => by omega), below_setRow (unhide H2d).b (Nat.le_refl _) _⟩
  · by_cases h1 : i + 1 < s.size
    · have h1I : (i : Int) + 1 < s.size := by omega
      obtain ⟨b2, h1', hb2, f4⟩ := h2 h1I
      clear h2
      go_enter Tryz.func61, Tryz.ntmps61
      go_upto_region 1 with fail
      go_cut [6] (fun v wc => v = .pointer (some ⟨w.heap.size + 1, 0, none⟩) ∧ Hid (Two w i noneW .empty wc))
      case first =>
        go_wp2_with fail
        go_meet
        case rel => exact ⟨rfl, H2⟩
      case rest =>
      obtain ⟨rfl, H2c⟩ := hcut
      clear H2 hL hst hzt
      obtain ⟨c0, c1, cf, cl⟩ := And.intro (unhide H2c).n.c0 (And.intro (unhide H2c).n.c1 (And.intro (unhide H2c).n.fz (unhide H2c).n.lt))
      go_wp2_with fail
      go_at_call 90
      refine (unhide HLow _).mono ?_
      rintro e w1 ⟨rfl, hw1⟩
      replace hw1 := hw1.symm
      subst hw1
      go_wp2_with fail
      refine (unhide HA _).mono ?_
      rintro e w2 ⟨rfl, hw2⟩
      have H2d := hide ((unhide H2c).below hw2)
      clear hw2 H2c c0 c1 cf cl
      go_wp2_with fail
      refine wp_load rfl (unhide H2d).n.loadAt ?_
      go_wp2_with fail
      rw [(unhide H2d).r.store]
      have HR3 := hide ((unhide H2d).r.row noneW .empty noB i)
      go_wp2_with fail
      exact ret_tok rfl rfl rfl (unhide HR3) rfl ⟨OutO.of (unhide HO) rfl (.none (by simp) (by simp) (by simp)) (fun h => by omega), below_setRow (unhide H2d).b (Nat.le_refl _) _⟩
    · have h1I : ¬ (i : Int) + 1 < s.size := by omega
      clear h2
      go_enter Tryz.func61, Tryz.ntmps61
      go_upto_region 1 with fail
      go_cut [6] (fun v wc => v = .pointer (some ⟨w.heap.size + 1, 0, none⟩) ∧ Hid (Two w i noneW .empty wc))
      case first =>
        go_wp2_with fail
        go_meet
        case rel => exact ⟨rfl, H2⟩
      case rest =>
      obtain ⟨rfl, H2c⟩ := hcut
      clear H2 hL hst hzt
      obtain ⟨c0, c1, cf, cl⟩ := And.intro (unhide H2c).n.c0 (And.intro (unhide H2c).n.c1 (And.intro (unhide H2c).n.fz (unhide H2c).n.lt))
      go_wp2_with fail
      go_at_call 90
      refine (unhide HLow _).mono ?_
      rintro e w1 ⟨rfl, hw1⟩
      replace hw1 := hw1.symm
      subst hw1
      go_wp2_with fail
      refine (unhide HA _).mono ?_
      rintro e w2 ⟨rfl, hw2⟩
      have H2d := hide ((unhide H2c).below hw2)
      clear hw2 H2c c0 c1 cf cl
      go_wp2_with fail
      refine wp_load rfl (unhide H2d).n.loadAt ?_
      go_wp2_with fail
      rw [(unhide H2d).r.store]
      have HR3 := hide ((unhide H2d).r.row noneW .empty noB i)
      go_wp2_with fail
      exact ret_tok rfl rfl rfl (unhide HR3) rfl ⟨OutO.of (unhide HO) rfl (.none (by simp) (by simp) (by simp)) (fun h => by omega), below_setRow (unhide H2d).b (Nat.le_refl _) _⟩
end
end Go.Proofs.YtbojcemamhiodaaGreatDoor

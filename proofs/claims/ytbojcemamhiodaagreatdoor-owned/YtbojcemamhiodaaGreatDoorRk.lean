import Derived.Test.YtbojcemamhiodaaGreatDoorRfq
import Derived.Test.YtbojcemamhiodaaGreatDoorExs
namespace Go.Proofs.YtbojcemamhiodaaGreatDoor
open Go.RowKit

def setW : ByteArray := ⟨#[115, 101, 116]⟩
section
variable {w w' : World} {b n : Nat} {what str : ByteArray} {f : Nat → Bool} {a : Int}
theorem tokV_bit (f : Nat → Bool) (c : Nat) (hc : c < 256) : (tokV what str f a)[2 + c]? = some (.bool (f c)) := by
  unfold tokV
  rw [show 2 + c = c + 1 + 1 by omega, List.getElem?_cons_succ, List.getElem?_cons_succ, List.getElem?_append_left (by simpa using hc)]
  simp [hc]
theorem tokV_setbit (f : Nat → Bool) (c : Nat) (hc : c < 256) (v : Bool) : (tokV what str f a).set (2 + c) (.bool v) = tokV what str (upd f c v) a := by
  apply List.ext_getElem?
  intro j
  rw [List.getElem?_set]
  by_cases hj : 2 + c = j
  · subst hj
    rw [if_pos rfl, if_pos (by rw [tokV_len]; omega), tokV_bit _ c hc]
    simp [upd]
  · rw [if_neg hj]
    unfold tokV
    match j, hj with
    | 0, _ => rfl
    | 1, _ => rfl
    | j + 2, hj =>
      rw [List.getElem?_cons_succ, List.getElem?_cons_succ, List.getElem?_cons_succ, List.getElem?_cons_succ]
      by_cases hj2 : j < 256
      · rw [List.getElem?_append_left (by simpa using hj2), List.getElem?_append_left (by simpa using hj2)]
        simp [hj2, upd]
        intro e
        omega
      · rw [List.getElem?_append_right (by simpa using hj2), List.getElem?_append_right (by simpa using hj2)]
        simp
theorem TokB.cbit (h : TokB w b what str f a) (c : Nat) (hc : c < 256) : w.cell? ⟨b, 2 + c, none⟩ = some (.bool (f c)) := by
  simp only [World.cell?, TokB] at *
  rw [h]
  simpa using tokV_bit (what := what) (str := str) (a := a) f c hc
theorem TokB.setBit (h : TokB w b what str f a) (c : Nat) (hc : c < 256) (v : Bool) : TokB (w.setCell ⟨b, 2 + c, none⟩ (.bool v)) b what str (upd f c v) a := by
  unfold TokB at *
  rw [set_block h, List.setIfInBounds_toArray, tokV_setbit _ c hc]
theorem TokB.congr {g : Nat → Bool} (h : TokB w b what str f a) (hg : ∀ c, c < 256 → g c = f c) : TokB w b what str g a := by
  unfold TokB at *
  rw [h]
  have : tokV what str f a = tokV what str g a := by
    unfold tokV
    congr 3
    exact List.map_congr_left fun c hc => by rw [hg c (List.mem_range.1 hc)]
  rw [this]
end
theorem setEndq_1 {s : ByteArray} {f : Int} {n : Nat} {i : Int} (h1 : i ≠ f) (h2 : bAt s i = 93) : setEnd s f (n + 1) i = some i := by rw [setEnd, if_pos ⟨h1, h2⟩]
theorem setEndq_2 {s : ByteArray} {f : Int} {n : Nat} {i : Int} (h1 : ¬ (i ≠ f ∧ bAt s i = 93)) (h2 : (member s i).1 < 0) : setEnd s f (n + 1) i = none := by rw [setEnd, if_neg h1, if_pos h2]
theorem setEndq_3 {s : ByteArray} {f : Int} {n : Nat} {i : Int} (h1 : bAt s i ≠ 93) (h2 : 0 ≤ (member s i).1) : setEnd s f (n + 1) i = setEnd s f n (member s i).2.2 := by rw [setEnd, if_neg (fun h => h1 h.2), if_neg (by omega)]
theorem memberq_1 {s : ByteArray} {i : Int} (h : (setC s i).1 < 0) : (member s i).1 < 0 := by
  unfold member
  rw [if_pos (.inl h)]
  exact h
theorem memberq_2 {s : ByteArray} {i : Int} (h2 : bAt s (setC s i).2 ≠ 45) : member s i = ((setC s i).1, (setC s i).1, (setC s i).2) := by
  unfold member
  rw [if_pos (.inr h2)]
theorem memberq_3 {s : ByteArray} {i : Int} (h1 : 0 ≤ (setC s i).1) (h2 : bAt s (setC s i).2 = 45) (h3 : (setC s ((setC s i).2 + 1)).1 < (setC s i).1) : (member s i).1 < 0 := by
  unfold member
  rw [if_neg (by omega), if_pos h3]
  show (-1 : Int) < 0
  omega
theorem memberq_4 {s : ByteArray} {i : Int} (h1 : 0 ≤ (setC s i).1) (h2 : bAt s (setC s i).2 = 45) (h3 : (setC s i).1 ≤ (setC s ((setC s i).2 + 1)).1) : member s i = ((setC s i).1, (setC s ((setC s i).2 + 1)).1, (setC s ((setC s i).2 + 1)).2) := by
  unfold member
  rw [if_neg (by omega), if_neg (by omega)]
theorem setC_93 {s : ByteArray} {i : Int} (h : bAt s i = 93) : (setC s i).1 < 0 := by
  unfold setC
  rw [if_neg (by omega), h]
  unfold plainC
  rw [if_pos (by right; right; rfl)]
  show (-1 : Int) < 0
  omega
theorem setC_out {s : ByteArray} {i : Int} (h : (s.size : Int) ≤ i) : (setC s i).1 < 0 := by
  unfold setC
  rw [bAt_out s i h, if_neg (by omega)]
  unfold plainC
  rw [if_pos (by omega)]
  show (-1 : Int) < 0
  omega
theorem isIn_snoc (l : List (Int × Int)) (p : Int × Int) (c : Nat) : isIn (l ++ [p]) c = (isIn l c || (decide (p.1 ≤ c) && decide ((c : Int) ≤ p.2))) := by
  unfold isIn
  rw [List.any_append]
  simp
/-- x bytes of a member are in -/
def isTo (done : List (Int × Int)) (lo x : Int) (c : Nat) : Bool := isIn done c || (decide (lo ≤ c) && decide ((c : Int) < x))
theorem isTo_zero (done : List (Int × Int)) (lo : Int) : isTo done lo lo = isIn done := by
  funext c
  unfold isTo
  have : (decide (lo ≤ (c : Int)) && decide ((c : Int) < lo)) = false := by
    rw [Bool.and_eq_false_iff]
    by_cases h : lo ≤ (c : Int)
    · right; simp; omega
    · left; simp; omega
  rw [this, Bool.or_false]
theorem isTo_next (done : List (Int × Int)) (lo : Int) (x : Nat) (h : lo ≤ x) : upd (isTo done lo x) x true = isTo done lo (x + 1) := by
  funext c
  unfold upd isTo
  by_cases hc : c = x
  · subst hc
    rw [if_pos rfl]
    have : (decide (lo ≤ (c : Int)) && decide ((c : Int) < (c : Int) + 1)) = true := by simp; omega
    rw [this, Bool.or_true]
  · rw [if_neg hc]
    have : decide ((c : Int) < (x : Int)) = decide ((c : Int) < (x : Int) + 1) := decide_eq_decide.2 (by omega)
    rw [this]
theorem isTo_end (done : List (Int × Int)) (lo hi : Int) (x : Int) (h : x = hi + 1) : isTo done lo x = isIn (done ++ [(lo, hi)]) := by
  funext c
  rw [isIn_snoc]
  unfold isTo
  have : decide ((c : Int) < x) = decide ((c : Int) ≤ hi) := decide_eq_decide.2 (by omega)
  rw [this]
/-- the first k turned -/
def turned (f : Nat → Bool) (k : Nat) (c : Nat) : Bool := if c < k then !f c else f c
theorem turned_next (f : Nat → Bool) (k : Nat) : upd (turned f k) k (!f k) = turned f (k + 1) := by
  funext c
  unfold upd turned
  by_cases hc : c = k
  · subst hc
    simp
  · rw [if_neg hc]
    by_cases h : c < k
    · rw [if_pos h, if_pos (by omega)]
    · rw [if_neg h, if_neg (by omega)]
def OutK (s : ByteArray) (i : Nat) (e : Ending) : Prop := ∃ (what : ByteArray) (f : Nat → Bool) (p : Int), e = .returned (.tuple #[.agg (tokV what .empty f i).toArray, .int .i64 p]) ∧
  ((setEnd s (setFrom s i) (s.size + 2 - i) (setFrom s i) = none ∧ what = noneW) ∨ (∃ j, setEnd s (setFrom s i) (s.size + 2 - i) (setFrom s i) = some j ∧ what = setW ∧ (∀ c, c < 256 → f c = SetF s i c) ∧ p = j + 1))
theorem storeTok3 (w : World) (o p : Obj) (a b a' b' : ByteArray) (f f' : Nat → Bool) (i i' : Int) : (storeCells ⟨w.heap.size + 2, 0, none⟩ (tokV a' b' f' i')).run Tryz.prog (((w.alloc o).alloc p).alloc (.cells (tokV a b f i).toArray 83)) = .ok () (((w.alloc o).alloc p).alloc (.cells (tokV a' b' f' i').toArray 83)) := by
  have h := storeTok2 (w.alloc o) p a b a' b' f f' i i'
  rw [show (w.alloc o).heap.size + 1 = w.heap.size + 2 from by simp] at h
  exact h

/-- the three tokens of class -/
structure Three (w : World) (i : Nat) (f : Nat → Bool) (wr : World) : Prop where
  t : TokB wr (w.heap.size + 2) setW .empty f i
  n : TokB wr (w.heap.size + 1) noneW .empty noB i
  r : TokB wr w.heap.size .empty .empty noB 0
  b : Below w.heap.size w wr
theorem Three.below {w : World} {i : Nat} {f : Nat → Bool} {wr w1 : World} (h : Three w i f wr) (hb : Below wr.heap.size wr w1) : Three w i f w1 :=
  ⟨h.t.below hb (Nat.le_refl _), h.n.below hb (Nat.le_refl _), h.r.below hb (Nat.le_refl _), h.b.trans (hb.mono h.b.size)⟩
theorem Three.start (w : World) (i : Nat) : Three w i noB (((w.alloc (.cells (tokV .empty .empty noB 0).toArray 83)).alloc (.cells (tokV noneW .empty noB i).toArray 83)).alloc (.cells (tokV setW .empty noB i).toArray 83)) := by
  have h1 := tok_new (w.alloc (.cells (tokV .empty .empty noB 0).toArray 83)) noneW .empty noB i
  rw [show (w.alloc (.cells (tokV .empty .empty noB 0).toArray 83)).heap.size = w.heap.size + 1 from by simp] at h1
  have h2 := tok_new ((w.alloc (.cells (tokV .empty .empty noB 0).toArray 83)).alloc (.cells (tokV noneW .empty noB i).toArray 83)) setW .empty noB i
  rw [show ((w.alloc (.cells (tokV .empty .empty noB 0).toArray 83)).alloc (.cells (tokV noneW .empty noB i).toArray 83)).heap.size = w.heap.size + 2 from by simp] at h2
  exact ⟨h2, h1.alloc _, ((tok_new w .empty .empty noB 0).alloc _).alloc _, (((Below.refl _ _).alloc (Nat.le_refl _) _).alloc (by simp) _).alloc (by simp; omega) _⟩
theorem Three.setBit {w : World} {i : Nat} {f : Nat → Bool} {wr : World} (h : Three w i f wr) (x : Nat) (hx : x < 256) (v : Bool) : Three w i (upd f x v) (wr.setCell ⟨w.heap.size + 2, 2 + x, none⟩ (.bool v)) :=
  ⟨h.t.setBit x hx v, h.n.other (show w.heap.size + 2 ≠ w.heap.size + 1 by omega) _, h.r.other (show w.heap.size + 2 ≠ w.heap.size by omega) _, h.b.setCell (show w.heap.size ≤ w.heap.size + 2 by omega) _⟩
/-- where class's loop stands: the members of done are in -/
structure KI (s : ByteArray) (i fi j n m : Nat) (done : List (Int × Int)) : Prop where
  lo : fi ≤ j
  hi : j ≤ s.size
  fn : s.size < n + j
  fm : s.size < m + j
  ee : setEnd s fi (s.size + 2 - i) fi = setEnd s fi n j
  bb : membs s (s.size + 1) fi = done ++ membs s m j
theorem KI.none1 {s : ByteArray} {i fi j n m : Nat} {done : List (Int × Int)} (h : KI s i fi j n m done) (h1 : ¬ ((j : Int) ≠ fi ∧ bAt s j = 93)) (h2 : (member s j).1 < 0) : setEnd s fi (s.size + 2 - i) fi = none := by
  have h3 := h.fn
  have h4 := h.hi
  rw [h.ee, show n = (n - 1) + 1 by omega, setEndq_2 h1 h2]
theorem KI.some1 {s : ByteArray} {i fi j n m : Nat} {done : List (Int × Int)} (h : KI s i fi j n m done) (h1 : (j : Int) ≠ fi) (h2 : bAt s j = 93) : setEnd s fi (s.size + 2 - i) fi = some (j : Int) ∧ membs s (s.size + 1) fi = done := by
  have h3 := h.fn
  have h4 := h.hi
  refine ⟨by rw [h.ee, show n = (n - 1) + 1 by omega, setEndq_1 h1 h2], ?_⟩
  rw [h.bb, membs_no (memberq_1 (setC_93 h2)), List.append_nil]
theorem KI.next {s : ByteArray} {i fi j n m jj : Nat} {done : List (Int × Int)} {lo hi : Int} (h : KI s i fi j n m done) (h1 : bAt s j ≠ 93) (hm : member s j = (lo, hi, (jj : Int))) (h0 : 0 ≤ lo) (hj : j < jj) (hz : jj ≤ s.size) : KI s i fi jj (n - 1) (m - 1) (done ++ [(lo, hi)]) := by
  have h3 := h.fn
  have h4 := h.hi
  have h5 := h.fm
  have h6 := h.lo
  have hp : 0 ≤ (member s j).1 := by rw [hm]; exact h0
  refine ⟨by omega, hz, by omega, by omega, ?_, ?_⟩
  · rw [h.ee, show n = (n - 1) + 1 by omega, setEndq_3 h1 hp, hm]
    rfl
  · rw [h.bb, show m = (m - 1) + 1 by omega, membs_yes hp, hm]
    simp
set_option maxRecDepth 4000 in
set_option maxHeartbeats 4000000 in
theorem class_any (w : World) (s : ByteArray) (i : Nat) (hs : s.size ≤ 400) (hi : i < s.size) :
    Calls Tryz.prog 92 #[.string s, .int .i64 i] w fun e w' => OutK s i e ∧ Below w.heap.size w w' := by
  have hzt := zeroTok
  have hL : ((tokV .empty .empty noB 0).set 258 (.int .i64 i)).set 0 (.string ⟨#[110, 111, 110, 101]⟩) = tokV noneW .empty noB i := by rw [tokV_at]; rfl
  have hL2 : ((tokV .empty .empty noB 0).set 258 (.int .i64 i)).set 0 (.string ⟨#[115, 101, 116]⟩) = tokV setW .empty noB i := by rw [tokV_at]; rfl
  have hlen := tokV_len
  have hst := fun o => storeTok2 w o .empty .empty noneW .empty noB noB 0 i
  have hst2 := fun o p => storeTok3 w o p .empty .empty setW .empty noB noB 0 i
  obtain ⟨fi, hfi⟩ : ∃ fi : Nat, setFrom s i = fi := ⟨(setFrom s i).toNat, by unfold setFrom; split <;> omega⟩
  have hfi1 : i + 1 ≤ fi ∧ (fi : Int) ≤ i + 2 := by unfold setFrom at hfi; split at hfi <;> omega
  have hfi2 : fi ≤ s.size := by
    unfold setFrom at hfi
    split at hfi
    · rename_i h
      have := bAt_in (s := s) (i := (i : Int) + 1) (by omega)
      omega
    · omega
  have HFI := hide hfi
  have H3 := hide (Three.start w i)
  obtain ⟨tb, htb⟩ : ∃ tb, decide (bAt s (i + 1) = 94) = tb := ⟨_, rfl⟩
  have HTB := hide htb
  clear hfi
  go_enter Tryz.func92, Tryz.ntmps92
  go_upto_region 4 with fail
  go_cut [9] (fun v wc => v = .bool tb ∧ Hid (Three w i noB wc))
  case first =>
    by_cases h1 : i + 1 < s.size
    · have e1 := bAt_nat s (i + 1) h1
      obtain ⟨b, hb⟩ : ∃ b : UInt8, s[i + 1]'h1 = b := ⟨_, rfl⟩
      rw [hb] at e1
      have h1I : (i : Int) + 1 < s.size := by omega
      have hbb : ((b.toNat : Int) == 94) = tb := by
        rw [← htb, show ((i : Int) + 1) = ((i + 1 : Nat) : Int) by omega, e1]
        rfl
      clear e1 htb
      go_wp2_with fail
      go_meet
      case rel => exact ⟨by rw [← hbb], H3⟩
    · have h1I : ¬ (i : Int) + 1 < s.size := by omega
      have hbb : tb = false := by
        rw [← htb, bAt_out s (i + 1) (by omega)]
        rfl
      clear htb
      go_wp2_with fail
      go_meet
      case rel => exact ⟨by rw [hbb], H3⟩
  case rest =>
    obtain ⟨rfl, H3c⟩ := hcut
    clear H3 hL hL2 hst hst2 hzt
    go_upto_if 32 with fail
    go_cut [8] (fun v wd => v = .int .i64 fi ∧ Hid (Three w i noB wd))
    case first =>
      cases tb
      · have hf : fi = i + 1 := by
          have h1 := unhide HFI
          have h2 := unhide HTB
          unfold setFrom at h1
          rw [if_neg (by simpa using h2)] at h1
          omega
        go_wp2_with fail
        go_meet
        case rel => exact ⟨by rw [hf]; go_num, H3c⟩
      · have hf : fi = i + 2 := by
          have h1 := unhide HFI
          have h2 := unhide HTB
          unfold setFrom at h1
          rw [if_pos (by simpa using h2)] at h1
          omega
        go_wp2_with fail
        go_meet
        case rel => exact ⟨by rw [hf]; go_num, H3c⟩
    case rest =>
      obtain ⟨rfl, H3d⟩ := hcut
      clear H3c htb
      go_wp2_with fail
      go_loopw [8] (fun v wr => ∃ (j n m : Nat) (done : List (Int × Int)), v = .int .i64 j ∧ j ≤ s.size ∧ Hid (KI s i fi j n m done) ∧ Hid (Three w i (isIn done) wr)) (fun v _ => s.size - (intOf v).toNat)
      case atStart =>
        refine ⟨fi, s.size + 2 - i, s.size + 1, [], rfl, hfi2, ⟨Nat.le_refl _, hfi2, by omega, by omega, rfl, rfl⟩, ?_⟩
        rw [show isIn [] = noB from rfl]
        exact H3d
      case round =>
        obtain ⟨j, n, m, done, rfl, hj, HK, H3r⟩ := hrel
        clear H3d
        by_cases hlt : j < s.size
        · have e1 := bAt_nat s j hlt
          obtain ⟨b, hb⟩ : ∃ b : UInt8, s[j]'hlt = b := ⟨_, rfl⟩
          rw [hb] at e1
          have hltI : (j : Int) < s.size := by omega
          by_cases h93 : b.toNat = 93
          · have HX := hide (show bAt s j = 93 by omega)
            have hbb : ((b.toNat : Int) != 93) = false := by simp; omega
            clear e1 h93
            by_cases hjf : j = fi
            · have HF2 : Hid (setEnd s (setFrom s i) (s.size + 2 - i) (setFrom s i) = none) := by
                rw [Hid, unhide HFI]
                exact (unhide HK).none1 (fun x => x.1 (by omega)) (memberq_1 (setC_93 (unhide HX)))
              have hjb : ((j : Int) == fi) = true := by simp; omega
              clear hjf
              go_wp2_with fail
              refine wp_load rfl (unhide H3r).n.loadAt ?_
              go_wp2_with fail
              rw [(unhide H3r).r.store]
              have HR3 := hide ((unhide H3r).r.row noneW .empty noB i)
              go_wp2_with fail
              exact ret_tok rfl rfl rfl (unhide HR3) rfl ⟨⟨_, _, _, rfl, .inl ⟨unhide HF2, rfl⟩⟩, below_setRow (unhide H3r).b (Nat.le_refl _) _⟩
            · have hjb : ((j : Int) == fi) = false := by simp; omega
              have hgb : decide ((s.size : Int) ≤ j) = false := by simp; omega
              have HS := hide ((unhide HK).some1 (by omega) (unhide HX))
              cases tb
              · have HF3 : Hid (∀ c, c < 256 → isIn done c = SetF s i c) := by
                  intro c _
                  have h2 := unhide HTB
                  unfold SetF
                  rw [if_neg (by simpa using h2), unhide HFI, (unhide HS).2]
                clear hjf
                go_wp2_with fail
                refine wp_load rfl (unhide H3r).t.loadAt ?_
                go_wp2_with fail
                rw [(unhide H3r).r.store]
                have HR3 := hide ((unhide H3r).r.row setW .empty (isIn done) i)
                go_wp2_with fail
                refine ret_tok rfl rfl rfl (unhide HR3) rfl ⟨⟨_, _, _, rfl, .inr ⟨j, ?_, rfl, unhide HF3, rfl⟩⟩, below_setRow (unhide H3r).b (Nat.le_refl _) _⟩
                rw [unhide HFI]
                exact (unhide HS).1
              · have HF3 : Hid (∀ c, c < 256 → turned (isIn done) 256 c = SetF s i c) := by
                  intro c hc
                  have h2 := unhide HTB
                  unfold SetF turned
                  rw [if_pos hc, if_pos (by simpa using h2), unhide HFI, (unhide HS).2]
                clear hjf
                go_wp2_with fail
                go_loopw [107] (fun v wx => ∃ x : Nat, v = .int .i64 x ∧ x ≤ 256 ∧ Hid (Three w i (turned (isIn done) x) wx)) (fun v _ => 256 - (intOf v).toNat)
                case atStart =>
                  refine ⟨0, rfl, by omega, ?_⟩
                  have e0 : turned (isIn done) 0 = isIn done := by funext c; unfold turned; rw [if_neg (by omega)]
                  rw [e0]
                  exact H3r
                case round =>
                  obtain ⟨x, rfl, hx, H3x⟩ := hrel
                  clear H3r
                  by_cases hx2 : x < 256
                  · have hxI : (x : Int) < 256 := by omega
                    have hbit := (unhide H3x).t.cbit x hx2
                    have hval : turned (isIn done) x x = isIn done x := by unfold turned; rw [if_neg (by omega)]
                    rw [hval] at hbit
                    have hfz := (unhide H3x).t.fz
                    have hltT := (unhide H3x).t.lt
                    have H3y := (unhide H3x).setBit x hx2 (!isIn done x)
                    rw [turned_next] at H3y
                    have HY := hide H3y
                    clear H3y hval
                    go_wp2_with fail
                    go_roundw
                    case rel => exact ⟨x + 1, by go_num, by omega, HY⟩
                    case measure => simp [intOf]; omega
                  · have ex : x = 256 := by omega
                    subst ex
                    go_wp2_with fail
                    refine wp_load rfl (unhide H3x).t.loadAt ?_
                    go_wp2_with fail
                    rw [(unhide H3x).r.store]
                    have HR3 := hide ((unhide H3x).r.row setW .empty (turned (isIn done) 256) i)
                    go_wp2_with fail
                    refine ret_tok rfl rfl rfl (unhide HR3) rfl ⟨⟨_, _, _, rfl, .inr ⟨j, ?_, rfl, unhide HF3, rfl⟩⟩, below_setRow (unhide H3x).b (Nat.le_refl _) _⟩
                    rw [unhide HFI]
                    exact (unhide HS).1
          · have hbb : ((b.toNat : Int) != 93) = true := by simp; omega
            have HX := hide (show bAt s j ≠ 93 by omega)
            clear e1 h93
            have hM := refMember_any
            by_cases hc0 : (setC s j).1 < 0
            · have HF2 : Hid (setEnd s (setFrom s i) (s.size + 2 - i) (setFrom s i) = none) := by
                rw [Hid, unhide HFI]
                exact (unhide HK).none1 (fun x => unhide HX x.2) (memberq_1 hc0)
              have HLt := hide (fun W => refMember_any W s j hs (by omega))
              rw [ref_setC, if_pos hc0] at HLt
              clear hc0 hM
              go_wp2_with fail
              refine (unhide HLt _).mono ?_
              rintro e w1 ⟨rfl, hw1⟩
              have H3e := hide ((unhide H3r).below hw1)
              clear hw1 H3r
              go_wp2_with fail
              refine wp_load rfl (unhide H3e).n.loadAt ?_
              go_wp2_with fail
              rw [(unhide H3e).r.store]
              have HR3 := hide ((unhide H3e).r.row noneW .empty noB i)
              go_wp2_with fail
              exact ret_tok rfl rfl rfl (unhide HR3) rfl ⟨⟨_, _, _, rfl, .inl ⟨unhide HF2, rfl⟩⟩, below_setRow (unhide H3e).b (Nat.le_refl _) _⟩
            · have HLt := hide (fun W => refMember_any W s j hs (by omega))
              rw [ref_setC, if_neg hc0] at HLt
              have hg := setC_good s j
              unfold GoodC at hg
              have g1 : 0 ≤ (setC s j).1 := by omega
              have g2 : (setC s j).1 ≤ 255 := by omega
              obtain ⟨jj, hjj⟩ : ∃ jj : Nat, (setC s j).2 = jj := ⟨(setC s j).2.toNat, by omega⟩
              have g3 : j < jj := by omega
              have g4 : jj ≤ s.size := by omega
              have hnz : ((jj : Int) == 0) = false := by simp; omega
              rw [hjj] at HLt
              obtain ⟨cc, hcc⟩ : ∃ cc : Nat, (setC s j).1 = cc := ⟨(setC s j).1.toNat, by omega⟩
              rw [hcc] at HLt g1 g2
              have HCC := hide hcc
              have HJJ := hide hjj
              clear hg hc0 hM hcc hjj
              by_cases hto : bAt s jj = 45
              · have hjs : jj < s.size := by have := bAt_in (s := s) (i := (jj : Int)) (by omega); omega
                have hjsI : (jj : Int) < s.size := by omega
                have e2 := bAt_nat s jj hjs
                obtain ⟨b2, hb2⟩ : ∃ b : UInt8, s[jj]'hjs = b := ⟨_, rfl⟩
                rw [hb2] at e2
                have hb45 : ((b2.toNat : Int) == 45) = true := by simp; omega
                have HTO := hide hto
                clear e2 hto
                have HL2 := hide (fun W => refMember_any W s (jj + 1) hs (by omega))
                by_cases hd0 : (setC s ((jj : Int) + 1)).1 < 0
                · rw [ref_setC, if_pos (by rw [show ((jj + 1 : Nat) : Int) = (jj : Int) + 1 by omega]; exact hd0)] at HL2
                  have HF2 : Hid (setEnd s (setFrom s i) (s.size + 2 - i) (setFrom s i) = none) := by
                    rw [Hid, unhide HFI]
                    refine (unhide HK).none1 (fun x => unhide HX x.2) (memberq_3 (by rw [unhide HCC]; omega) (by rw [unhide HJJ]; exact unhide HTO) ?_)
                    rw [unhide HJJ, unhide HCC]
                    omega
                  clear hd0
                  go_wp2_with fail
                  refine (unhide HLt _).mono ?_
                  rintro e w1 ⟨rfl, hw1⟩
                  have H3e := hide ((unhide H3r).below hw1)
                  clear hw1 H3r
                  go_wp2_with fail
                  refine (unhide HL2 _).mono ?_
                  rintro e w2 ⟨rfl, hw2⟩
                  have H3f := hide ((unhide H3e).below hw2)
                  clear hw2
                  go_wp2_with fail
                  refine wp_load rfl (unhide H3f).n.loadAt ?_
                  go_wp2_with fail
                  rw [(unhide H3f).r.store]
                  have HR3 := hide ((unhide H3f).r.row noneW .empty noB i)
                  go_wp2_with fail
                  exact ret_tok rfl rfl rfl (unhide HR3) rfl ⟨⟨_, _, _, rfl, .inl ⟨unhide HF2, rfl⟩⟩, below_setRow (unhide H3f).b (Nat.le_refl _) _⟩
                · have hg := setC_good s ((jj : Int) + 1)
                  unfold GoodC at hg
                  rw [ref_setC, if_neg (by rw [show ((jj + 1 : Nat) : Int) = (jj : Int) + 1 by omega]; exact hd0), show ((jj + 1 : Nat) : Int) = (jj : Int) + 1 by omega] at HL2
                  obtain ⟨kk, hkk⟩ : ∃ kk : Nat, (setC s ((jj : Int) + 1)).2 = kk := ⟨(setC s ((jj : Int) + 1)).2.toNat, by omega⟩
                  obtain ⟨dd, hdd⟩ : ∃ dd : Nat, (setC s ((jj : Int) + 1)).1 = dd := ⟨(setC s ((jj : Int) + 1)).1.toNat, by omega⟩
                  have k3 : jj < kk := by omega
                  have k4 : kk ≤ s.size := by omega
                  have k2 : (dd : Int) ≤ 255 := by omega
                  have hkz : ((kk : Int) == 0) = false := by simp; omega
                  rw [hkk, hdd] at HL2
                  have HKK := hide hkk
                  have HDD := hide hdd
                  clear hg hd0 hkk hdd
                  by_cases hdc : dd < cc
                  · have hdcI : (dd : Int) < cc := by omega
                    have HF2 : Hid (setEnd s (setFrom s i) (s.size + 2 - i) (setFrom s i) = none) := by
                      rw [Hid, unhide HFI]
                      refine (unhide HK).none1 (fun x => unhide HX x.2) (memberq_3 (by rw [unhide HCC]; omega) (by rw [unhide HJJ]; exact unhide HTO) ?_)
                      rw [unhide HJJ, unhide HCC, unhide HDD]
                      omega
                    go_wp2_with fail
                    refine (unhide HLt _).mono ?_
                    rintro e w1 ⟨rfl, hw1⟩
                    have H3e := hide ((unhide H3r).below hw1)
                    clear hw1 H3r
                    go_wp2_with fail
                    refine (unhide HL2 _).mono ?_
                    rintro e w2 ⟨rfl, hw2⟩
                    have H3f := hide ((unhide H3e).below hw2)
                    clear hw2
                    go_wp2_with fail
                    refine wp_load rfl (unhide H3f).n.loadAt ?_
                    go_wp2_with fail
                    rw [(unhide H3f).r.store]
                    have HR3 := hide ((unhide H3f).r.row noneW .empty noB i)
                    go_wp2_with fail
                    exact ret_tok rfl rfl rfl (unhide HR3) rfl ⟨⟨_, _, _, rfl, .inl ⟨unhide HF2, rfl⟩⟩, below_setRow (unhide H3f).b (Nat.le_refl _) _⟩
                  · have hdcI : ¬ (dd : Int) < cc := by omega
                    have HKn := hide ((unhide HK).next (jj := kk) (lo := cc) (hi := dd) (unhide HX) (by rw [memberq_4 (by rw [unhide HCC]; omega) (by rw [unhide HJJ]; exact unhide HTO) (by rw [unhide HJJ, unhide HCC, unhide HDD]; omega), unhide HJJ, unhide HCC, unhide HDD, unhide HKK]) (by omega) (by omega) k4)
                    go_wp2_with fail
                    refine (unhide HLt _).mono ?_
                    rintro e w1 ⟨rfl, hw1⟩
                    have H3e := hide ((unhide H3r).below hw1)
                    clear hw1 H3r
                    go_wp2_with fail
                    refine (unhide HL2 _).mono ?_
                    rintro e w2 ⟨rfl, hw2⟩
                    have H3f := hide ((unhide H3e).below hw2)
                    clear hw2
                    have H3e := H3f
                    clear H3f
                    go_wp2_with fail
                    go_loopw [14] (fun v wx => ∃ x : Nat, v = .int .i64 x ∧ cc ≤ x ∧ x ≤ dd + 1 ∧ Hid (Three w i (isTo done cc x) wx)) (fun v _ => dd + 1 - (intOf v).toNat)
                    case atStart =>
                      refine ⟨cc, by go_num, by omega, by omega, ?_⟩
                      rw [isTo_zero]
                      exact H3e
                    case round =>
                      obtain ⟨x, rfl, hx1, hx2, H3x⟩ := hrel
                      clear H3e
                      by_cases hxd : x ≤ dd
                      · have hxI : (x : Int) ≤ dd := by omega
                        have hx256 : x < 256 := by omega
                        have hx256I : (x : Int) < 256 := by omega
                        have hbit := (unhide H3x).t.cbit x hx256
                        have hfz := (unhide H3x).t.fz
                        have hltT := (unhide H3x).t.lt
                        have H3y := (unhide H3x).setBit x hx256 true
                        rw [isTo_next _ _ _ (by omega)] at H3y
                        have HY := hide H3y
                        clear H3y
                        go_wp2_with fail
                        go_roundw
                        case rel => exact ⟨x + 1, by go_num, by omega, by omega, HY⟩
                        case measure => simp [intOf]; omega
                      · have hxI : ¬ (x : Int) ≤ dd := by omega
                        have H3y := unhide H3x
                        rw [isTo_end done cc dd x (by omega)] at H3y
                        have HY := hide H3y
                        clear H3y
                        go_wp2_with fail
                        go_roundw
                        case rel => exact ⟨kk, n - 1, m - 1, done ++ [((cc : Int), (dd : Int))], rfl, (unhide HKn).hi, HKn, HY⟩
                        case measure => simp [intOf]; omega
              · have HKn := hide ((unhide HK).next (jj := jj) (lo := cc) (hi := cc) (unhide HX) (by rw [memberq_2 (by rw [unhide HJJ]; exact hto), unhide HJJ, unhide HCC]) (by omega) (by omega) g4)
                by_cases hjs : jj < s.size
                · have hjsI : (jj : Int) < s.size := by omega
                  have e2 := bAt_nat s jj hjs
                  obtain ⟨b2, hb2⟩ : ∃ b : UInt8, s[jj]'hjs = b := ⟨_, rfl⟩
                  rw [hb2] at e2
                  have hb45 : ((b2.toNat : Int) == 45) = false := by simp; omega
                  clear e2 hto
                  go_wp2_with fail
                  refine (unhide HLt _).mono ?_
                  rintro e w1 ⟨rfl, hw1⟩
                  have H3e := hide ((unhide H3r).below hw1)
                  clear hw1 H3r
                  go_wp2_with fail
                  go_loopw [14] (fun v wx => ∃ x : Nat, v = .int .i64 x ∧ cc ≤ x ∧ x ≤ cc + 1 ∧ Hid (Three w i (isTo done cc x) wx)) (fun v _ => cc + 1 - (intOf v).toNat)
                  case atStart =>
                    refine ⟨cc, by go_num, by omega, by omega, ?_⟩
                    rw [isTo_zero]
                    exact H3e
                  case round =>
                    obtain ⟨x, rfl, hx1, hx2, H3x⟩ := hrel
                    clear H3e
                    by_cases hxd : x ≤ cc
                    · have hxI : (x : Int) ≤ cc := by omega
                      have hx256 : x < 256 := by omega
                      have hx256I : (x : Int) < 256 := by omega
                      have hbit := (unhide H3x).t.cbit x hx256
                      have hfz := (unhide H3x).t.fz
                      have hltT := (unhide H3x).t.lt
                      have H3y := (unhide H3x).setBit x hx256 true
                      rw [isTo_next _ _ _ (by omega)] at H3y
                      have HY := hide H3y
                      clear H3y
                      go_wp2_with fail
                      go_roundw
                      case rel => exact ⟨x + 1, by go_num, by omega, by omega, HY⟩
                      case measure => simp [intOf]; omega
                    · have hxI : ¬ (x : Int) ≤ cc := by omega
                      have H3y := unhide H3x
                      rw [isTo_end done cc cc x (by omega)] at H3y
                      have HY := hide H3y
                      clear H3y
                      go_wp2_with fail
                      go_roundw
                      case rel => exact ⟨jj, n - 1, m - 1, done ++ [((cc : Int), (cc : Int))], rfl, (unhide HKn).hi, HKn, HY⟩
                      case measure => simp [intOf]; omega
                · have hjsI : ¬ (jj : Int) < s.size := by omega
                  clear hto
                  go_wp2_with fail
                  refine (unhide HLt _).mono ?_
                  rintro e w1 ⟨rfl, hw1⟩
                  have H3e := hide ((unhide H3r).below hw1)
                  clear hw1 H3r
                  go_wp2_with fail
                  go_loopw [14] (fun v wx => ∃ x : Nat, v = .int .i64 x ∧ cc ≤ x ∧ x ≤ cc + 1 ∧ Hid (Three w i (isTo done cc x) wx)) (fun v _ => cc + 1 - (intOf v).toNat)
                  case atStart =>
                    refine ⟨cc, by go_num, by omega, by omega, ?_⟩
                    rw [isTo_zero]
                    exact H3e
                  case round =>
                    obtain ⟨x, rfl, hx1, hx2, H3x⟩ := hrel
                    clear H3e
                    by_cases hxd : x ≤ cc
                    · have hxI : (x : Int) ≤ cc := by omega
                      have hx256 : x < 256 := by omega
                      have hx256I : (x : Int) < 256 := by omega
                      have hbit := (unhide H3x).t.cbit x hx256
                      have hfz := (unhide H3x).t.fz
                      have hltT := (unhide H3x).t.lt
                      have H3y := (unhide H3x).setBit x hx256 true
                      rw [isTo_next _ _ _ (by omega)] at H3y
                      have HY := hide H3y
                      clear H3y
                      go_wp2_with fail
                      go_roundw
                      case rel => exact ⟨x + 1, by go_num, by omega, by omega, HY⟩
                      case measure => simp [intOf]; omega
                    · have hxI : ¬ (x : Int) ≤ cc := by omega
                      have H3y := unhide H3x
                      rw [isTo_end done cc cc x (by omega)] at H3y
                      have HY := hide H3y
                      clear H3y
                      go_wp2_with fail
                      go_roundw
                      case rel => exact ⟨jj, n - 1, m - 1, done ++ [((cc : Int), (cc : Int))], rfl, (unhide HKn).hi, HKn, HY⟩
                      case measure => simp [intOf]; omega
        · obtain rfl : j = s.size := by omega
          have HF2 : Hid (setEnd s (setFrom s i) (s.size + 2 - i) (setFrom s i) = none) := by
            rw [Hid, unhide HFI]
            exact (unhide HK).none1 (fun x => by have := bAt_out s s.size (by omega); have := x.2; omega) (memberq_1 (setC_out (by omega)))
          by_cases hjf : s.size = fi
          · have hjb : ((s.size : Int) == fi) = true := by simp; omega
            clear hjf
            go_wp2_with fail
            refine wp_load rfl (unhide H3r).n.loadAt ?_
            go_wp2_with fail
            rw [(unhide H3r).r.store]
            have HR3 := hide ((unhide H3r).r.row noneW .empty noB i)
            go_wp2_with fail
            exact ret_tok rfl rfl rfl (unhide HR3) rfl ⟨⟨_, _, _, rfl, .inl ⟨unhide HF2, rfl⟩⟩, below_setRow (unhide H3r).b (Nat.le_refl _) _⟩
          · have hjb : ((s.size : Int) == fi) = false := by simp; omega
            clear hjf
            go_wp2_with fail
            refine wp_load rfl (unhide H3r).n.loadAt ?_
            go_wp2_with fail
            rw [(unhide H3r).r.store]
            have HR3 := hide ((unhide H3r).r.row noneW .empty noB i)
            go_wp2_with fail
            exact ret_tok rfl rfl rfl (unhide HR3) rfl ⟨⟨_, _, _, rfl, .inl ⟨unhide HF2, rfl⟩⟩, below_setRow (unhide H3r).b (Nat.le_refl _) _⟩
end Go.Proofs.YtbojcemamhiodaaGreatDoor

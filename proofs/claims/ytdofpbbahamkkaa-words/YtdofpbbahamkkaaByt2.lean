import Derived.Test.YtdofpbbahamkkaaByt
import Derived.Deep.WholeRow
namespace Go.Proofs.Ytdofpbbahamkkaa
open Go.RowKit

/-- the 256 cells of a set -/
def setCells (f : Nat → Bool) : Array Value := ((List.range 256).map fun c => Value.bool (f c)).toArray
theorem setCells_size (f : Nat → Bool) : (setCells f).size = 256 := by simp [setCells]
theorem setCells_at (f : Nat → Bool) (c : Nat) (h : c < 256) : (setCells f)[c]? = some (.bool (f c)) := by simp [setCells, h]

theorem bytesOf_def (f : Nat → Bool) (b : Bool) : bytesOf f b = ((List.range 256).filter fun c => f c == b).map UInt8.ofNat := rfl
/-- the bytes up to k -/
def bytesUp (f : Nat → Bool) (b : Bool) (k : Nat) : List UInt8 := ((List.range k).filter fun c => f c == b).map UInt8.ofNat
theorem bytesUp_yes {f : Nat → Bool} {b : Bool} {k : Nat} (h : f k = b) : bytesUp f b (k + 1) = bytesUp f b k ++ [UInt8.ofNat k] := by
  simp [bytesUp, List.range_succ, List.filter_append, h]
theorem bytesUp_no {f : Nat → Bool} {b : Bool} {k : Nat} (h : f k ≠ b) : bytesUp f b (k + 1) = bytesUp f b k := by
  simp [bytesUp, List.range_succ, List.filter_append, h]
theorem bytesUp_len (f : Nat → Bool) (b : Bool) (k : Nat) : (bytesUp f b k).length ≤ k := by
  have := List.length_filter_le (fun c => f c == b) (List.range k)
  simpa [bytesUp] using this

theorem info256 : (Try.prog.info? 62).map (fun i => (i.zero, i.size)) = some (some (.agg (setCells fun _ => false)), 256) := by kernel_rfl

theorem wp_load {P : Program} {o : Oper} {a : Act} {w w' : World} {next : Act → World → Prop} {Q : Exit → Act → World → Prop} {t : TypeId} {p : Operand} {v : Value} (ho : o.op = .load t p)
    (h : (Instr.loadAt t (a.eval p)).run P w = .ok v w') (hn : next (a.put o.dst v) w') : Oper.wp P o a w next Q := by
  unfold Oper.wp execOp
  simp only [ho, Sem.run_bind, h, Result.andThen_ok, Sem.run_pure]
  exact hn

theorem size256 : (Try.prog.info? 62).map (·.size) = some 256 := (zero_of_info info256).2

theorem index256 (C : Array Value) (k : Nat) (v : Bool) (hk : k < 256) (h : C[k]? = some (.bool v)) (w : World) : (Instr.index 62 (.agg C) (.int .i64 k)).run Try.prog w = .ok (.bool v) w := by
  simp [Instr.index, run_underlying Try.underlying62, asIntOf, part, h, go_sem]
  intro h2
  omega

set_option maxRecDepth 4000 in
set_option maxHeartbeats 2000000 in
theorem bytesThat_any (f : Nat → Bool) (b : Bool) (w : World) :
    Calls Try.prog 109 #[.agg (setCells f), .bool b] w fun e w' => e = .returned (.string ⟨(bytesOf f b).toArray⟩) ∧ Below w.heap.size w w' := by
  have hsz := setCells_size f
  have hat := setCells_at f
  generalize setCells f = C at hsz hat ⊢
  have HS := hide hsz
  have HA := hide hat
  clear hsz hat
  go_enter Try.func109, Try.ntmps109
  go_wp2_with fail
  refine wp_load rfl (run_loadAt_new w 62 C 256 4 Try.underlying62 (by rw [unhide HS]; exact size256)) ?_
  go_wp2_with fail
  go_loopw [5, 9] (fun v i wr => ∃ (k : Nat) (ao : Option Addr) (cp : Nat), k ≤ 256 ∧ i = .int .i64 k ∧ v = .slice ao (bytesUp f b k).length cp ∧
      Hid (wr.ownsRow w.heap.size 5 1 (.slice ao (bytesUp f b k).length cp) (bytesUp f b k).length (bvals (bytesUp f b k))) ∧ Hid (Below w.heap.size w wr)) (fun _ i _ => 256 - (intOf i).toNat)
  case atStart => exact ⟨0, none, 0, by omega, rfl, rfl, World.ownsRow_nil _ _ _ _, (Below.refl _ _).alloc (Nat.le_refl _) _⟩
  case round =>
    obtain ⟨k, ao, cp, hk, rfl, rfl, HO, HB⟩ := hrel
    by_cases hlt : k < 256
    · have hci := index256 C k (f k) hlt (unhide HA k hlt)
      by_cases hfk : f k = b
      · have hbl : (f k == b) = true := by simp [hfk]
        have HU := hide (bytesUp_yes hfk)
        have hu : Hid ((k : Int) = ((UInt8.ofNat k).toNat : Int)) := by rw [Hid, UInt8.toNat_ofNat']; omega
        have hal := bytesUp_len f b k
        have hal2 : (bytesUp f b k).length ≤ 1000 := by omega
        clear hfk hal
        generalize bytesUp f b k = acc at *
        go_wp2_with (first | (at_builtin; refine wpList_append_byte (w := w) (UInt8.ofNat k) _ (unhide hu) rfl (.tmp 16) (.tmp 19) rfl _ acc rfl (unhide HO) (unhide HB) hal2 rfl ?_) | go_in)
        intro v' w' ho' hb'
        rw [← unhide HU] at ho'
        obtain ⟨ao2, cp2, rfl⟩ := own_shape ho'
        have HO' := hide ho'
        have HB' := hide hb'
        clear ho' hb'
        go_wp2_with fail
        go_roundw
        case rel => exact ⟨k + 1, ao2, cp2, by omega, by go_num, by rw [unhide HU]; simp, by have h := HO'; rw [unhide HU] at h ⊢; simpa using h, HB'⟩
        case measure => simp [intOf]; omega
      · have hbl : (f k == b) = false := by simp [hfk]
        have HU := hide (bytesUp_no hfk)
        clear hfk
        go_wp2_with fail
        go_roundw
        case rel => exact ⟨k + 1, ao, cp, by omega, by go_num, by rw [unhide HU], by rw [unhide HU]; exact HO, HB⟩
        case measure => simp [intOf]; omega
    · have hkk : k = 256 := by omega
      subst hkk
      have hcv := conv_own (unhide HO)
      go_wp2
      go_ret
      exact ⟨rfl, unhide HB⟩

theorem membs_yes {s : ByteArray} {n : Nat} {i : Int} (h : 0 ≤ (member s i).1) : membs s (n + 1) i = ((member s i).1, (member s i).2.1) :: membs s n (member s i).2.2 := by rw [membs, if_neg (by omega)]
theorem membs_no {s : ByteArray} {n : Nat} {i : Int} (h : (member s i).1 < 0) : membs s n i = [] := by
  cases n with
  | zero => rfl
  | succ n => rw [membs, if_pos h]
/-- the set with the bytes of a range up to k -/
def isUp (done : List (Int × Int)) (p : Int × Int) (k : Nat) (c : Nat) : Bool := isIn done c || (decide (c < k) && (decide (p.1 ≤ c) && decide ((c : Int) ≤ p.2)))
theorem isUp_zero (done : List (Int × Int)) (p : Int × Int) : isUp done p 0 = isIn done := by funext c; simp [isUp]
theorem isUp_no {done : List (Int × Int)} {p : Int × Int} {k : Nat} (h : p.1 ≤ k → p.2 < k) : isUp done p (k + 1) = isUp done p k := by
  funext c
  unfold isUp
  by_cases hc : c = k
  · subst hc
    simp
    intro h1 h2
    have := h h1
    omega
  · have : decide (c < k + 1) = decide (c < k) := by simp; omega
    rw [this]
theorem isUp_yes {done : List (Int × Int)} {p : Int × Int} {k : Nat} (h1 : p.1 ≤ k) (h2 : (k : Int) ≤ p.2) (c : Nat) : isUp done p (k + 1) c = if c = k then true else isUp done p k c := by
  unfold isUp
  split
  · rename_i hc
    subst hc
    simp [h1, h2]
  · have : decide (c < k + 1) = decide (c < k) := by simp; omega
    rw [this]
theorem setCells_ext {f g : Nat → Bool} (h : ∀ c, c < 256 → f c = g c) : setCells f = setCells g := by
  unfold setCells
  congr 1
  apply List.map_congr_left
  intro c hc
  rw [h c (by simpa using hc)]
theorem setCells_up (done : List (Int × Int)) (p : Int × Int) : setCells (isUp done p 256) = setCells (isIn (done ++ [p])) := by
  refine setCells_ext fun c hc => ?_
  simp [isUp, isIn, hc]
theorem set_cells (w : World) (f g : Nat → Bool) (k : Nat) (hk : k < 256) (h : ∀ c, g c = if c = k then true else f c) :
    w.alloc (.cells ((setCells f).setIfInBounds k (.bool true)) 62) = w.alloc (.cells (setCells g) 62) := by
  congr 2
  apply Array.ext_getElem?
  intro c
  by_cases hc : c < 256
  · rw [setCells_at g c hc, h c]
    by_cases hck : c = k
    · subst hck
      simp [setCells_size, hk]
    · rw [if_neg hck, Array.getElem?_setIfInBounds_ne (fun e => hck e.symm), setCells_at f c hc]
  · rw [Array.getElem?_eq_none (by simp [setCells_size]; omega), Array.getElem?_eq_none (by simp [setCells_size]; omega)]
theorem new_cells (w : World) (f : Nat → Bool) (k : Nat) (hk : k < 256) : (w.alloc (.cells (setCells f) 62)).cell? ⟨w.heap.size, k, none⟩ = some (.bool (f k)) ∧ (w.alloc (.cells (setCells f) 62)).frozen? ⟨w.heap.size, k, none⟩ = false := by
  constructor
  · simp only [World.cell?, heap_alloc_new]
    exact setCells_at f k hk
  · simp only [World.frozen?, heap_alloc_new]
    simp
theorem below_alloc {w w' : World} {o : Obj} (h : Below (w.alloc o).heap.size (w.alloc o) w') : Below w.heap.size w w' :=
  ((Below.refl _ w).alloc (Nat.le_refl _) o).trans ⟨h.os, h.tape, h.output, h.size, fun k hk => h.block k (by simp; omega)⟩

set_option maxRecDepth 4000 in
set_option maxHeartbeats 4000000 in
theorem setBytes_any (s : ByteArray) (w : World) (hs : s.size ≤ 400) :
    Calls Try.prog 108 #[.string s] w fun e w' => e = .returned (.string ⟨(setBs s).toArray⟩) ∧ Below w.heap.size w w' := by
  have hz := (zero_of_info info256).1
  by_cases hx : bAt s 1 = 94
  · have bx : (bAt s 1 == 94) = true := by simp [hx]
    have HX := hide hx
    clear hx
    go_enter Try.func108, Try.ntmps108
    go_wp2_with (first | (go_at_call 70; refine (byteAt_any _ _ _).mono ?_; rintro e w' ⟨rfl, hw⟩; replace hw := hw.symm; subst hw) | (go_at_call 85; refine (readMember_any _ _ _ hs (by omega) (by omega)).mono ?_; rintro e w' ⟨rfl, hw⟩; replace hw := hw.symm; subst hw))
    go_loopw [6, 7, 8] (fun a b t wr => ∃ (done : List (Int × Int)) (j : Int) (n : Nat), a = .int .i64 (member s j).1 ∧ b = .int .i64 (member s j).2.1 ∧ t = .int .i64 (member s j).2.2 ∧ Hid (1 ≤ j ∧ j ≤ s.size + 2 ∧ (s.size : Int) < n + j) ∧
        Hid (membs s (s.size + 1) 2 = done ++ membs s n j) ∧ wr = w.alloc (.cells (setCells (isIn done)) 62)) (fun a _ t _ => (2 * (s.size - intOf t)).toNat + (min 1 (intOf a + 1)).toNat)
    case atStart => exact ⟨[], 2, s.size + 1, rfl, rfl, rfl, ⟨by omega, by omega, by omega⟩, rfl, rfl⟩
    case round =>
      obtain ⟨done, j, n, rfl, rfl, rfl, HJ, HE, rfl⟩ := hrel
      have hg := member_good s j
      unfold GoodM at hg
      obtain ⟨h1, h2, h3⟩ := unhide HJ
      by_cases hm : (member s j).1 < 0
      · have HF := hide ((unhide HE).trans (by rw [membs_no hm, List.append_nil] : _ = done))
        clear hg h1 h2 h3
        go_wp2_with fail
        refine wp_load rfl (run_loadAt_new w 62 _ 256 4 Try.underlying62 (by rw [setCells_size]; exact size256)) ?_
        go_wp2_with (first | (go_at_call 109; refine (bytesThat_any _ _ _).mono ?_; rintro e w' ⟨rfl, hb⟩))
        go_ret
        refine ⟨?_, below_alloc hb⟩
        rw [setBs, if_pos (unhide HX), unhide HF]
        rfl
      · have g1 : 0 ≤ (member s j).1 := by omega
        have g2 : (member s j).1 ≤ (member s j).2.1 := by omega
        have g3 : (member s j).2.1 ≤ 255 := by omega
        have g4 : j < (member s j).2.2 := by omega
        have g5 : (member s j).2.2 ≤ s.size := by omega
        obtain ⟨n, rfl⟩ : ∃ m, n = m + 1 := ⟨n - 1, by omega⟩
        have HE' := hide ((unhide HE).trans (by rw [membs_yes g1]))
        have HJ' : Hid (1 ≤ (member s j).2.2 ∧ (member s j).2.2 ≤ s.size + 2 ∧ (s.size : Int) < n + (member s j).2.2) := ⟨by omega, by omega, by omega⟩
        have hg2 := hide (member_good s (member s j).2.2)
        have G45 := hide (And.intro g4 g5)
        have g6 : 0 ≤ (member s j).2.2 := by omega
        have g7 : (member s j).2.2 ≤ 1000 := by omega
        clear hg h1 h2 h3 hm g4 g5
        go_wp2_with fail
        go_loopw [26] (fun i wr => ∃ k : Nat, k ≤ 256 ∧ i = .int .i64 k ∧ wr = w.alloc (.cells (setCells (isUp done ((member s j).1, (member s j).2.1) k)) 62)) (fun i _ => 256 - (intOf i).toNat)
        case atStart => exact ⟨0, by omega, rfl, by rw [isUp_zero]⟩
        case round =>
          obtain ⟨k, hk, rfl, rfl⟩ := hrel
          by_cases hlt : k < 256
          · by_cases hin : (member s j).1 ≤ k ∧ (k : Int) ≤ (member s j).2.1
            · obtain ⟨i1, i2⟩ := hin
              have hset := hide (set_cells w (isUp done ((member s j).1, (member s j).2.1) k) (isUp done ((member s j).1, (member s j).2.1) (k + 1)) k hlt (isUp_yes i1 i2))
              obtain ⟨hcl, hfz⟩ := new_cells w (isUp done ((member s j).1, (member s j).2.1) k) k hlt
              go_wp2_with fail
              go_roundw
              case rel => exact ⟨k + 1, by omega, by go_num, unhide hset⟩
              case measure => simp [intOf]; omega
            · have hset := hide (isUp_no (done := done) (p := ((member s j).1, (member s j).2.1)) (k := k) (by simpa using hin))
              have hin' : (decide ((member s j).1 ≤ k) && decide ((k : Int) ≤ (member s j).2.1)) = false := by simpa using hin
              have hor : (k : Int) < (member s j).1 ∨ (member s j).2.1 < k := by omega
              clear hin
              rcases hor with hor | hor
              all_goals
                go_wp2_with fail
                go_roundw
                case rel => exact ⟨k + 1, by omega, by go_num, by rw [unhide hset]⟩
                case measure => simp [intOf]; omega
          · have hkk : k = 256 := by omega
            subst hkk
            go_wp2_with (first | (go_at_call 85; refine (readMember_any _ _ _ hs g6 g7).mono ?_; rintro e w' ⟨rfl, rfl⟩))
            go_roundw
            case rel => exact ⟨done ++ [((member s j).1, (member s j).2.1)], (member s j).2.2, n, rfl, rfl, rfl, HJ', by rw [unhide HE']; simp [Hid], by rw [setCells_up]⟩
            case measure =>
              have hg2' := unhide hg2
              unfold GoodM at hg2'
              obtain ⟨g4, g5⟩ := unhide G45
              simp only [intOf]
              omega
  · have bx : (bAt s 1 == 94) = false := by simp [hx]
    have HX := hide hx
    clear hx
    go_enter Try.func108, Try.ntmps108
    go_wp2_with (first | (go_at_call 70; refine (byteAt_any _ _ _).mono ?_; rintro e w' ⟨rfl, hw⟩; replace hw := hw.symm; subst hw) | (go_at_call 85; refine (readMember_any _ _ _ hs (by omega) (by omega)).mono ?_; rintro e w' ⟨rfl, hw⟩; replace hw := hw.symm; subst hw))
    go_loopw [6, 7, 8] (fun a b t wr => ∃ (done : List (Int × Int)) (j : Int) (n : Nat), a = .int .i64 (member s j).1 ∧ b = .int .i64 (member s j).2.1 ∧ t = .int .i64 (member s j).2.2 ∧ Hid (1 ≤ j ∧ j ≤ s.size + 2 ∧ (s.size : Int) < n + j) ∧
        Hid (membs s (s.size + 1) 1 = done ++ membs s n j) ∧ wr = w.alloc (.cells (setCells (isIn done)) 62)) (fun a _ t _ => (2 * (s.size - intOf t)).toNat + (min 1 (intOf a + 1)).toNat)
    case atStart => exact ⟨[], 1, s.size + 1, rfl, rfl, rfl, ⟨by omega, by omega, by omega⟩, rfl, rfl⟩
    case round =>
      obtain ⟨done, j, n, rfl, rfl, rfl, HJ, HE, rfl⟩ := hrel
      have hg := member_good s j
      unfold GoodM at hg
      obtain ⟨h1, h2, h3⟩ := unhide HJ
      by_cases hm : (member s j).1 < 0
      · have HF := hide ((unhide HE).trans (by rw [membs_no hm, List.append_nil] : _ = done))
        clear hg h1 h2 h3
        go_wp2_with fail
        refine wp_load rfl (run_loadAt_new w 62 _ 256 4 Try.underlying62 (by rw [setCells_size]; exact size256)) ?_
        go_wp2_with (first | (go_at_call 109; refine (bytesThat_any _ _ _).mono ?_; rintro e w' ⟨rfl, hb⟩))
        go_ret
        refine ⟨?_, below_alloc hb⟩
        rw [setBs, if_neg (unhide HX), unhide HF]
        rfl
      · have g1 : 0 ≤ (member s j).1 := by omega
        have g2 : (member s j).1 ≤ (member s j).2.1 := by omega
        have g3 : (member s j).2.1 ≤ 255 := by omega
        have g4 : j < (member s j).2.2 := by omega
        have g5 : (member s j).2.2 ≤ s.size := by omega
        obtain ⟨n, rfl⟩ : ∃ m, n = m + 1 := ⟨n - 1, by omega⟩
        have HE' := hide ((unhide HE).trans (by rw [membs_yes g1]))
        have HJ' : Hid (1 ≤ (member s j).2.2 ∧ (member s j).2.2 ≤ s.size + 2 ∧ (s.size : Int) < n + (member s j).2.2) := ⟨by omega, by omega, by omega⟩
        have hg2 := hide (member_good s (member s j).2.2)
        have G45 := hide (And.intro g4 g5)
        have g6 : 0 ≤ (member s j).2.2 := by omega
        have g7 : (member s j).2.2 ≤ 1000 := by omega
        clear hg h1 h2 h3 hm g4 g5
        go_wp2_with fail
        go_loopw [26] (fun i wr => ∃ k : Nat, k ≤ 256 ∧ i = .int .i64 k ∧ wr = w.alloc (.cells (setCells (isUp done ((member s j).1, (member s j).2.1) k)) 62)) (fun i _ => 256 - (intOf i).toNat)
        case atStart => exact ⟨0, by omega, rfl, by rw [isUp_zero]⟩
        case round =>
          obtain ⟨k, hk, rfl, rfl⟩ := hrel
          by_cases hlt : k < 256
          · by_cases hin : (member s j).1 ≤ k ∧ (k : Int) ≤ (member s j).2.1
            · obtain ⟨i1, i2⟩ := hin
              have hset := hide (set_cells w (isUp done ((member s j).1, (member s j).2.1) k) (isUp done ((member s j).1, (member s j).2.1) (k + 1)) k hlt (isUp_yes i1 i2))
              obtain ⟨hcl, hfz⟩ := new_cells w (isUp done ((member s j).1, (member s j).2.1) k) k hlt
              go_wp2_with fail
              go_roundw
              case rel => exact ⟨k + 1, by omega, by go_num, unhide hset⟩
              case measure => simp [intOf]; omega
            · have hset := hide (isUp_no (done := done) (p := ((member s j).1, (member s j).2.1)) (k := k) (by simpa using hin))
              have hin' : (decide ((member s j).1 ≤ k) && decide ((k : Int) ≤ (member s j).2.1)) = false := by simpa using hin
              have hor : (k : Int) < (member s j).1 ∨ (member s j).2.1 < k := by omega
              clear hin
              rcases hor with hor | hor
              all_goals
                go_wp2_with fail
                go_roundw
                case rel => exact ⟨k + 1, by omega, by go_num, by rw [unhide hset]⟩
                case measure => simp [intOf]; omega
          · have hkk : k = 256 := by omega
            subst hkk
            go_wp2_with (first | (go_at_call 85; refine (readMember_any _ _ _ hs g6 g7).mono ?_; rintro e w' ⟨rfl, rfl⟩))
            go_roundw
            case rel => exact ⟨done ++ [((member s j).1, (member s j).2.1)], (member s j).2.2, n, rfl, rfl, rfl, HJ', by rw [unhide HE']; simp [Hid], by rw [setCells_up]⟩
            case measure =>
              have hg2' := unhide hg2
              unfold GoodM at hg2'
              obtain ⟨g4, g5⟩ := unhide G45
              simp only [intOf]
              omega
end Go.Proofs.Ytdofpbbahamkkaa

import Derived.Test.YtbojcemamhiodaaRfs
import Derived.Deep.WholeRow
import Derived.Deep.MidRow
import Derived.Laws.CopyRow
import Derived.Laws.CopyOwn
import Derived.Laws.ResultCell
namespace Go.Proofs.Ytbojcemamhiodaa
open Go.RowKit

set_option maxRecDepth 4000 in
set_option maxHeartbeats 1000000 in
theorem letter_esc (w : World) (s : ByteArray) (i : Nat) (esc : List UInt8) (hs : s.size ≤ 400) (h1 : i < s.size) (hl : esc.length ≤ 60) (ha : esc.all (fun b => decide (b.toNat < 128)) = true) (hb : s[i]'h1 = 92) :
    Calls Try.prog 64 #[.string s, .int .i64 i, .string (bl esc)] w fun e w' => e = .returned (.tuple #[.int .u8 (letR s i esc).1, .int .i64 (letR s i esc).2]) ∧ Below w.heap.size w w' := by
  have e1 : bAt s i = 92 := by rw [bAt_nat s i h1, hb]; rfl
  by_cases h5 : i + 1 < s.size
  · have e2 := bAt_nat s (i + 1) h5
    obtain ⟨c, hc⟩ : ∃ c : UInt8, s[i + 1]'h5 = c := ⟨_, rfl⟩
    rw [hc] at e2
    have HA := hide ha
    clear ha
    cases h6 : hasB esc c
    · by_cases h7 : i + 3 < s.size
      · by_cases h8 : c = 120
        · exact letter_x w s i esc hs hl (unhide HA) h7 hb (by rw [hc]; exact h8) (by rw [← h8]; exact h6)
        · have hne : ¬ c.toNat = 120 := fun x => h8 (UInt8.toNat_inj.1 x)
          have HR := hide (letR_5 (esc := esc) e1 e2 h6 (fun x => hne x.1))
          clear e1 e2 h8
          go_enter Try.func64, Try.ntmps64
          go_wp2_with fail
          refine (among_any _ c esc hl (unhide HA)).mono ?_
          rintro e w1 ⟨rfl, hb1⟩
          have HB1 := hide hb1
          clear hb1
          go_wp2
          go_ret2
          exact ⟨ret_pair (unhide HR), unhide HB1⟩
      · have HR := hide (letR_5 (esc := esc) e1 e2 h6 (fun x => by
          have := x.2.2
          rw [digit_eq, bAt_out s ((i : Int) + 3) (by omega)] at this
          exact absurd this (by decide)))
        clear e1 e2
        go_enter Try.func64, Try.ntmps64
        go_wp2_with fail
        refine (among_any _ c esc hl (unhide HA)).mono ?_
        rintro e w1 ⟨rfl, hb1⟩
        have HB1 := hide hb1
        clear hb1
        go_wp2
        go_ret2
        exact ⟨ret_pair (unhide HR), unhide HB1⟩
    · have HR := hide (letR_4 (esc := esc) e1 e2 h6)
      clear e1 e2
      go_enter Try.func64, Try.ntmps64
      go_wp2_with fail
      refine (among_any _ c esc hl (unhide HA)).mono ?_
      rintro e w1 ⟨rfl, hb1⟩
      have HB1 := hide hb1
      clear hb1
      go_wp2
      go_ret2
      exact ⟨ret_pair (unhide HR), unhide HB1⟩
  · have HR := hide (letR_3 (esc := esc) e1 (bAt_out s (i + 1) (by omega)))
    clear e1
    go_enter Try.func64, Try.ntmps64
    go_wp2
    go_ret2
    exact ⟨ret_pair (unhide HR), Below.refl _ _⟩
theorem letter_any (w : World) (s : ByteArray) (i : Nat) (esc : List UInt8) (hs : s.size ≤ 400) (hi : i ≤ 1000) (hl : esc.length ≤ 60) (ha : esc.all (fun b => decide (b.toNat < 128)) = true) :
    Calls Try.prog 64 #[.string s, .int .i64 i, .string (bl esc)] w fun e w' => e = .returned (.tuple #[.int .u8 (letR s i esc).1, .int .i64 (letR s i esc).2]) ∧ Below w.heap.size w w' := by
  by_cases h : bAt s i = 92
  · have h1 : i < s.size := by
      rcases Nat.lt_or_ge i s.size with h1 | h1
      · exact h1
      · rw [bAt_out s i (by omega)] at h
        omega
    refine letter_esc w s i esc hs h1 hl ha ?_
    rw [bAt_nat s i h1] at h
    exact UInt8.toNat_inj.1 (show (s[i]'h1).toNat = 92 by omega)
  · exact letter_plain w s i esc hi h
/-- a byte of a set -/
def memR (s : ByteArray) (i : Int) : Int × Int :=
  if bAt s i = 93 ∨ bAt s i = 45 ∨ bAt s i = 94 ∨ bAt s i = 91 then (0, 0) else letR s i [93, 92, 45, 94, 91]
theorem memR_no {s : ByteArray} {i : Int} (h : ¬ (bAt s i = 93 ∨ bAt s i = 45 ∨ bAt s i = 94 ∨ bAt s i = 91)) : memR s i = letR s i [93, 92, 45, 94, 91] := if_neg h
theorem memR_yes {s : ByteArray} {i : Int} (h : bAt s i = 93 ∨ bAt s i = 45 ∨ bAt s i = 94 ∨ bAt s i = 91) : memR s i = (0, 0) := if_pos h
theorem has_marks (b : UInt8) : hasB [93, 45, 94, 91] b = true ↔ ((b.toNat : Int) = 93 ∨ (b.toNat : Int) = 45 ∨ (b.toNat : Int) = 94 ∨ (b.toNat : Int) = 91) := by
  have key : ∀ n : Nat, n < 256 → (hasB [93, 45, 94, 91] (UInt8.ofNat n) = true ↔ ((n : Int) = 93 ∨ (n : Int) = 45 ∨ (n : Int) = 94 ∨ (n : Int) = 91)) := by decide +kernel
  have := key b.toNat b.toNat_lt
  rwa [UInt8.ofNat_toNat] at this
set_option maxRecDepth 4000 in
set_option maxHeartbeats 1000000 in
theorem refMember_any (w : World) (s : ByteArray) (i : Nat) (hs : s.size ≤ 400) (hi : i ≤ 1000) :
    Calls Try.prog 65 #[.string s, .int .i64 i] w fun e w' => e = .returned (.tuple #[.int .u8 (memR s i).1, .int .i64 (memR s i).2]) ∧ Below w.heap.size w w' := by
  have HL := hide (fun W : World => letter_any W s i [93, 92, 45, 94, 91] hs hi (by decide) (by decide))
  by_cases h1 : i < s.size
  · have e1 := bAt_nat s i h1
    obtain ⟨b, hb⟩ : ∃ b : UInt8, s[i]'h1 = b := ⟨_, rfl⟩
    rw [hb] at e1
    cases h2 : hasB [93, 45, 94, 91] b
    · have hno : ¬ (bAt s i = 93 ∨ bAt s i = 45 ∨ bAt s i = 94 ∨ bAt s i = 91) := by
        rw [e1]
        intro x
        rw [(has_marks b).2 x] at h2
        exact Bool.noConfusion h2
      have HR := hide (memR_no hno)
      clear e1 hno
      go_enter Try.func65, Try.ntmps65
      go_wp2_with fail
      refine (among_any _ b [93, 45, 94, 91] (by decide) (by decide)).mono ?_
      rintro e w1 ⟨rfl, hb1⟩
      have HB1 := hide hb1
      clear hb1
      go_wp2_with fail
      refine (unhide HL _).mono ?_
      rintro e w2 ⟨rfl, hb2⟩
      have HB2 := hide ((unhide HB1).trans (hb2.mono (unhide HB1).size))
      clear hb2
      go_wp2
      go_ret2
      exact ⟨ret_pair (unhide HR), unhide HB2⟩
    · have hyes : bAt s i = 93 ∨ bAt s i = 45 ∨ bAt s i = 94 ∨ bAt s i = 91 := by
        rw [e1]
        exact (has_marks b).1 h2
      have HR := hide (memR_yes hyes)
      clear e1 hyes
      go_enter Try.func65, Try.ntmps65
      go_wp2_with fail
      refine (among_any _ b [93, 45, 94, 91] (by decide) (by decide)).mono ?_
      rintro e w1 ⟨rfl, hb1⟩
      have HB1 := hide hb1
      clear hb1
      go_wp2
      go_ret2
      exact ⟨ret_pair (unhide HR), unhide HB1⟩
  · have HR := hide (memR_no (s := s) (i := i) (by rw [bAt_out s i (by omega)]; omega))
    go_enter Try.func65, Try.ntmps65
    go_wp2_with fail
    refine (unhide HL _).mono ?_
    rintro e w2 ⟨rfl, hb2⟩
    have HB2 := hide hb2
    clear hb2
    go_wp2
    go_ret2
    exact ⟨ret_pair (unhide HR), unhide HB2⟩
end Go.Proofs.Ytbojcemamhiodaa
namespace Go.Proofs.Ytbojcemamhiodaa
open Go.RowKit

/-- the cells of a token -/
def tokV (what str : ByteArray) (f : Nat → Bool) (a : Int) : List Value := .string what :: .string str :: ((List.range 256).map (fun c => Value.bool (f c)) ++ [.int .i64 a])
def noB (_ : Nat) : Bool := false
theorem tokV_len (what str : ByteArray) (f : Nat → Bool) (a : Int) : (tokV what str f a).length = 259 := by simp [tokV]
theorem zeroTok : Try.zeroCells56 = (tokV .empty .empty noB 0).toArray := by kernel_rfl
theorem infoTok : (Try.prog.info? 56).map (fun i => (i.zero, i.size)) = some (some (.agg (tokV .empty .empty noB 0).toArray), 259) := by kernel_rfl
theorem sizeTok : (Try.prog.info? 56).map (·.size) = some 259 := (zero_of_info infoTok).2
theorem tokV_what (a b a' : ByteArray) (f : Nat → Bool) (i : Int) : (tokV a b f i).set 0 (.string a') = tokV a' b f i := rfl
theorem tokV_str (a b b' : ByteArray) (f : Nat → Bool) (i : Int) : (tokV a b f i).set 1 (.string b') = tokV a b' f i := rfl
theorem tokV_at (a b : ByteArray) (f : Nat → Bool) (i i' : Int) : (tokV a b f i).set 258 (.int .i64 i') = tokV a b f i' := by
  unfold tokV
  rw [List.set_cons_succ, List.set_cons_succ, List.set_append, if_neg (by simp)]
  simp
theorem tokV_one (a b : ByteArray) (f : Nat → Bool) (i : Int) : ∀ v ∈ tokV a b f i, v.oneCell' = true := by
  intro v hv
  simp [tokV] at hv
  rcases hv with rfl | rfl | ⟨c, _, rfl⟩ | rfl <;> rfl
/-- a token in a block of its own -/
def TokB (w : World) (b : Nat) (what str : ByteArray) (f : Nat → Bool) (a : Int) : Prop := w.heap[b]? = some (.cells (tokV what str f a).toArray 56)

section
variable {w w' : World} {b n : Nat} {what str : ByteArray} {f : Nat → Bool} {a : Int}
theorem TokB.lt (h : TokB w b what str f a) : b < w.heap.size := (Array.getElem?_eq_some_iff.1 h).1
theorem TokB.below (h : TokB w b what str f a) (hb : Below n w w') (hn : w.heap.size ≤ n) : TokB w' b what str f a := (hb.block b (Nat.lt_of_lt_of_le h.lt hn)).trans h
theorem TokB.c0 (h : TokB w b what str f a) : w.cell? ⟨b, 0, none⟩ = some (.string what) := by simp only [World.cell?, TokB] at *; rw [h]; rfl
theorem TokB.c1 (h : TokB w b what str f a) : w.cell? ⟨b, 1, none⟩ = some (.string str) := by simp only [World.cell?, TokB] at *; rw [h]; rfl
theorem TokB.fz (h : TokB w b what str f a) (o : Nat) : w.frozen? ⟨b, o, none⟩ = false := by simp only [World.frozen?, TokB] at *; rw [h]; simp
theorem TokB.alloc (h : TokB w b what str f a) (o : Obj) : TokB (w.alloc o) b what str f a := (Below.heap_alloc _ _ _ h.lt).trans h
theorem TokB.other (h : TokB w b what str f a) {p : Addr} (hp : p.block ≠ b) (u : Value) : TokB (w.setCell p u) b what str f a := by
  unfold TokB at *
  rw [Below.heap_setCell _ _ _ _ (fun e => hp e.symm), h]
theorem set_block {w : World} {b o : Nat} {C : Array Value} {t : TypeId} {fr : Nat × Nat} (h : w.heap[b]? = some (.cells C t fr)) (v : Value) : (w.setCell ⟨b, o, none⟩ v).heap[b]? = some (.cells (C.setIfInBounds o v) t fr) := by
  unfold World.setCell
  simp only [Array.getElem?_modify, h]
  simp
theorem storeRow {P : Program} {w : World} {b : Nat} {t : TypeId} {C : Array Value} {L : List Value} (hb : w.heap[b]? = some (.cells C t (0, 0))) (hn : C.size = L.length) (h1 : ∀ v ∈ L, v.oneCell' = true) :
    (storeCells ⟨b, 0, none⟩ L).run P w = .ok () (w.setRow b L.toArray) := by
  have := run_storeCells_at (P := P) b 0 t L 0 C w hb (by omega) h1
  rw [this]
  congr 2
  apply Array.ext'
  simp
  omega
theorem TokB.store (h : TokB w b what str f a) (what' str' : ByteArray) (f' : Nat → Bool) (a' : Int) : (storeCells ⟨b, 0, none⟩ (tokV what' str' f' a')).run Try.prog w = .ok () (w.setRow b (tokV what' str' f' a').toArray) :=
  storeRow h (by simp [tokV_len]) (tokV_one _ _ _ _)
theorem TokB.row (h : TokB w b what str f a) (what' str' : ByteArray) (f' : Nat → Bool) (a' : Int) : TokB (w.setRow b (tokV what' str' f' a').toArray) b what' str' f' a' := setRow_heap w b _ _ _ _ h
theorem TokB.row_other (h : TokB w b what str f a) {c : Nat} (hc : b ≠ c) (C : Array Value) : TokB (w.setRow c C) b what str f a := (setRow_other w c b C hc).trans h
theorem TokB.load (h : TokB w b what str f a) : (loadVar 56 ⟨b, 0, none⟩).run Try.prog w = .ok (.agg (tokV what str f a).toArray) w :=
  run_loadVar_row w b _ 56 _ (0, 0) _ h Try.underlying56 rfl (by rw [sizeTok]; simp [tokV_len])
theorem TokB.loadAt (h : TokB w b what str f a) : (Instr.loadAt 56 (.pointer (some ⟨b, 0, none⟩))).run Try.prog w = .ok (.agg (tokV what str f a).toArray) w := by
  simp only [Instr.loadAt, Instr.sureAddr, Sem.run_bind, Sem.run_pure, Result.andThen]
  exact h.load
theorem TokB.setS (h : TokB w b what str f a) (str' : ByteArray) : TokB (w.setCell ⟨b, 1, none⟩ (.string str')) b what str' f a := by
  unfold TokB at *
  rw [set_block h, List.setIfInBounds_toArray, tokV_str]
theorem TokB.setW (h : TokB w b what str f a) (what' : ByteArray) : TokB (w.setCell ⟨b, 0, none⟩ (.string what')) b what' str f a := by
  unfold TokB at *
  rw [set_block h, List.setIfInBounds_toArray, tokV_what]
theorem ret_tok {fn : Func} {R : Ending → World → Prop} {c : Act} {p u : Tmp} {x : Value} (hres : fn.results = #[.cell p 56, .tmp u]) (hp : c.tmps.getD p undef = .pointer (some ⟨b, 0, none⟩)) (hu : c.tmps.getD u undef = x)
    (h : TokB w b what str f a) (hd : c.defers = []) (hR : R (.returned (.tuple #[.agg (tokV what str f a).toArray, x])) w) : bodyPost Try.prog fn R .ret c w := by
  refine bodyPost_ret (v := .tuple #[.agg (tokV what str f a).toArray, x]) ?_ hd hR
  rw [results_cell_tmp hres, hp, hu]
  simp [asAddr, Result.andThen, h.load]
theorem tok_new (w : World) (what str : ByteArray) (f : Nat → Bool) (a : Int) : TokB (w.alloc (.cells (tokV what str f a).toArray 56)) w.heap.size what str f a := heap_alloc_last w _
end
end Go.Proofs.Ytbojcemamhiodaa
namespace Go.Proofs.Ytbojcemamhiodaa

theorem any_WM (x : Int) : (([39, 92] : List UInt8).any fun b => (b.toNat : Int) == x) = isWM x := by
  unfold isWM
  rw [Bool.eq_iff_iff]
  simp
  omega
theorem any_SM (x : Int) : (([93, 92, 45, 94, 91] : List UInt8).any fun b => (b.toNat : Int) == x) = isSM x := by
  unfold isSM
  rw [Bool.eq_iff_iff]
  simp
  omega
/-- what an escape is, on both sides -/
theorem letR_escC (s : ByteArray) (i : Int) (esc : List UInt8) (m : Bool) (h : bAt s i = 92) (hm : (esc.any fun b => (b.toNat : Int) == bAt s (i + 1)) = m) (hx : m = true → 0 ≤ bAt s (i + 1)) : letR s i esc = if (escC s i m).1 < 0 then (0, 0) else escC s i m := by
  have r2 := digit_range s (i + 2)
  have r3 := digit_range s (i + 3)
  have hL : letR s i esc = if m = true then (bAt s (i + 1), i + 2) else if bAt s (i + 1) = 120 ∧ 0 ≤ digit s (i + 2) ∧ 0 ≤ digit s (i + 3) then (16 * digit s (i + 2) + digit s (i + 3), i + 4) else (0, 0) := by
    unfold letR
    rw [if_neg (by omega), if_neg (by omega), hm]
  rw [hL]
  cases m with
  | true =>
    have hE : escC s i true = (bAt s (i + 1), i + 2) := by unfold escC; rw [if_pos rfl]
    have := hx rfl
    rw [hE, if_pos rfl, if_neg (by show ¬ bAt s (i + 1) < 0; omega)]
  | false =>
    rw [if_neg (by exact Bool.false_ne_true)]
    by_cases h1 : bAt s (i + 1) = 120
    · by_cases h2 : digit s (i + 2) < 0 ∨ digit s (i + 3) < 0
      · have hE : escC s i false = (-1, i) := by unfold escC; rw [if_neg (by exact Bool.false_ne_true), if_neg (by omega), if_pos h2]
        rw [hE, if_neg (by omega), if_pos (by show (-1 : Int) < 0; omega)]
      · have hE : escC s i false = (digit s (i + 2) * 16 + digit s (i + 3), i + 4) := by unfold escC; rw [if_neg (by exact Bool.false_ne_true), if_neg (by omega), if_neg h2]
        rw [hE, if_pos (by omega), if_neg (by show ¬ digit s (i + 2) * 16 + digit s (i + 3) < 0; omega)]
        congr 1
        omega
    · have hE : escC s i false = (-1, i) := by unfold escC; rw [if_neg (by exact Bool.false_ne_true), if_pos h1]
      rw [hE, if_neg (by omega), if_pos (by show (-1 : Int) < 0; omega)]
theorem letR_plain (s : ByteArray) (i : Int) (esc : List UInt8) (h : bAt s i ≠ 92) : letR s i esc = if (plainC (bAt s i) i false).1 < 0 then (0, 0) else plainC (bAt s i) i false := by
  by_cases h1 : bAt s i < 32 ∨ 126 < bAt s i
  · have hL : letR s i esc = (0, 0) := by unfold letR; rw [if_pos h1]
    have hP : plainC (bAt s i) i false = (-1, i) := by unfold plainC; rw [if_pos (by omega)]
    rw [hL, hP, if_pos (by show (-1 : Int) < 0; omega)]
  · have hL : letR s i esc = (bAt s i, i + 1) := by unfold letR; rw [if_neg h1, if_pos h]
    have hP : plainC (bAt s i) i false = (bAt s i, i + 1) := by unfold plainC; rw [if_neg (by simp; omega)]
    rw [hL, hP, if_neg (by show ¬ bAt s i < 0; omega)]
/-- a letter of a word, on both sides -/
theorem ref_wordC (s : ByteArray) (i : Int) (h : bAt s i ≠ 39) : letR s i [39, 92] = if (wordC s i).1 < 0 then (0, 0) else wordC s i := by
  unfold wordC
  by_cases h1 : bAt s i = 92
  · rw [if_pos h1]
    refine letR_escC s i _ _ h1 (any_WM _) (fun x => ?_)
    unfold isWM at x
    simp at x
    omega
  · rw [if_neg h1]
    have hm : isWM (bAt s i) = false := by
      unfold isWM
      simp
      omega
    rw [hm]
    exact letR_plain s i _ h1
/-- a byte of a set, on both sides -/
theorem ref_setC (s : ByteArray) (i : Int) : memR s i = if (setC s i).1 < 0 then (0, 0) else setC s i := by
  unfold setC memR
  by_cases h1 : bAt s i = 92
  · rw [if_neg (by omega), if_pos h1]
    refine letR_escC s i _ _ h1 (any_SM _) (fun x => ?_)
    unfold isSM at x
    simp at x
    omega
  · rw [if_neg h1]
    by_cases h2 : bAt s i = 93 ∨ bAt s i = 45 ∨ bAt s i = 94 ∨ bAt s i = 91
    · have hm : isSM (bAt s i) = true := by
        unfold isSM
        simp
        omega
      rw [if_pos h2, hm]
      unfold plainC
      rw [if_pos (by simp)]
    · have hm : isSM (bAt s i) = false := by
        unfold isSM
        simp
        omega
      rw [if_neg h2, hm]
      exact letR_plain s i _ h1
end Go.Proofs.Ytbojcemamhiodaa

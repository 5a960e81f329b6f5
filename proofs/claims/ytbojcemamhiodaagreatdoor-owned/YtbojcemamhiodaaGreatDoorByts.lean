import Derived.Test.YtbojcemamhiodaaGreatDoorPar2
import Derived.OwnWalk
import Derived.Laws.BytesArg
import Derived.Deep.WholeRow
namespace Go.Proofs.YtbojcemamhiodaaGreatDoor
open Go.RowKit

theorem conv_to (s : ByteArray) (w : World) : (convert 9 74 (.string s)).run Tryz.prog w = .ok (.slice (some ⟨w.heap.size, 0, none⟩) s.size (grownCap w s.size 0 5))
      (w.drew.alloc (.cells (bytesRow s (grownCap w s.size 0 5)) 5 ((bytesRow s (grownCap w s.size 0 5)).size, (bytesRow s (grownCap w s.size 0 5)).size + 1))) :=
  run_bytes_of_string w 9 74 5 s Tryz.underlying9 Tryz.underlying74 Tryz.underlying5
theorem conv_back (s : ByteArray) (w : World) (cap : Nat) (fr : Nat × Nat) : (convert 74 9 (.slice (some ⟨w.heap.size, 0, none⟩) s.size cap)).run Tryz.prog ((w.alloc (.cells (bytesRow s cap) 5 fr)).drew) = .ok (.string s) ((w.alloc (.cells (bytesRow s cap) 5 fr)).drew) := by
  have h := run_convert_bytes_back (P := Tryz.prog) ((w.alloc (.cells (bytesRow s cap) 5 fr)).drew) 74 9 5 ⟨w.heap.size, 0, none⟩ cap s.data.toList Tryz.underlying74 Tryz.underlying5 Tryz.underlying9 ?_
  · simpa using h
  · intro j hj
    have hadd : (⟨w.heap.size, 0, none⟩ : Addr).add j = ⟨w.heap.size, j, none⟩ := by unfold Addr.add; split <;> simp_all
    rw [hadd]
    have := World.cell?_alloc_mark w (bytesRow s cap) 5 fr j
    have h2 : ((w.alloc (.cells (bytesRow s cap) 5 fr)).drew).cell? ⟨w.heap.size, j, none⟩ = (w.alloc (.cells (bytesRow s cap) 5 fr)).cell? ⟨w.heap.size, j, none⟩ := rfl
    rw [h2, this, bytesRow_at s cap j (by simpa using hj)]
    simp
theorem conv_back2 (s : ByteArray) (w : World) (o : Obj) (cap : Nat) (fr : Nat × Nat) : (convert 74 9 (.slice (some ⟨w.heap.size + 1, 0, none⟩) s.size cap)).run Tryz.prog (((w.alloc o).alloc (.cells (bytesRow s cap) 5 fr)).drew) = .ok (.string s) (((w.alloc o).alloc (.cells (bytesRow s cap) 5 fr)).drew) := by
  have h := conv_back s (w.alloc o) cap fr
  rw [show (w.alloc o).heap.size = w.heap.size + 1 from by simp] at h
  exact h

set_option maxHeartbeats 1000000 in
theorem of_any (w : World) (s : ByteArray) (t : Tk) (ht : TkOk s t) :
    Calls Tryz.prog 83 #[.agg #[.int .i64 t.k, .int .i64 t.from_, .int .i64 t.to], .string s] w fun e w' => e = .returned (.string (t.of s)) ∧ Below w.heap.size w w' := by
  have h1 := ht.from0
  have h2 := ht.le
  have h3 := ht.size
  obtain ⟨p, hp⟩ : ∃ p, s.extract t.from_.toNat t.to.toNat = p := ⟨_, rfl⟩
  have Hp : Hid (t.of s = p) := hp
  have hct := conv_to p
  have hcb := conv_back2 p w
  go_enter Tryz.func83, Tryz.ntmps83
  go_wp2
  go_ret
  exact ⟨by rw [unhide Hp]; rfl, ((((Below.refl _ _).alloc (Nat.le_refl _) _).alloc (by simp) _)).drew⟩

/-- the cells of bytes -/
def bvals (l : List UInt8) : List Value := l.map fun b => Value.int .u8 (b.toNat : Int)

theorem info5 : (Tryz.prog.info? 5).map (fun i => (i.zero, i.size, i.bytes)) = some (some (.int .u8 0), 1, 1) := by kernel_rfl
theorem own_below {w w' : World} {base : Nat} {e : TypeId} {size : Nat} {v : Value} {n : Nat} {xs : List Value} (h : w.ownsRow base e size v n xs) (hb : Below w.heap.size w w') : w'.ownsRow base e size v n xs := by
  refine ⟨h.1, ?_⟩
  rcases h.2 with h2 | ⟨g, cap, cur, hv, hg, hh, r⟩
  · exact .inl h2
  · exact .inr ⟨g, cap, cur, hv, hg, (hb.block g (Array.getElem?_eq_some_iff.1 hh).1).trans hh, r⟩

/-- a byte is appended -/
theorem wpList_append_byte {w wr : World} {ops : Array Oper} {rest : List Oper} {o : Oper} {a : Act} {Q : Exit → Act → World → Prop} (c : UInt8) (b : Int) (hb : b = c.toNat) (hgd : o.guard = none) (sl x : Operand)
    (ho : o.op = .call { callee := .builtin .append, args := #[sl, x], argTypes := #[74, 74] }) (v : Value) (l : List UInt8) (hs : a.eval sl = v)
    (HO : wr.ownsRow w.heap.size 5 1 v l.length (bvals l)) (HB : Below w.heap.size w wr) (hk : l.length ≤ 1000) (hx : a.eval x = .slice (some ⟨wr.heap.size, 0, none⟩) 1 1)
    (h : ∀ v' w', w'.ownsRow w.heap.size 5 1 v' (l ++ [c]).length (bvals (l ++ [c])) → Below w.heap.size w w' → wpList Tryz.prog ops Q rest (a.put o.dst v') w') :
    wpList Tryz.prog ops Q (o :: rest) a (wr.alloc (.cells #[.int .u8 b] 5)) := by
  subst hb
  obtain ⟨i, hi, hz, hsz, hby⟩ := info_parts info5
  have hzz := HB.size
  have hb1 : Below wr.heap.size wr (wr.alloc (.cells #[.int .u8 (c.toNat : Int)] 5)) := (Below.refl _ _).alloc (Nat.le_refl _) _
  have hb2 : Below w.heap.size w (wr.alloc (.cells #[.int .u8 (c.toNat : Int)] 5)) := HB.trans (hb1.mono hzz)
  have hsize : (wr.alloc (.cells #[.int .u8 (c.toNat : Int)] 5)).heap.size = wr.heap.size + 1 := by simp
  refine wpList_append_own _ hgd sl x 74 ho w.heap.size 5 i _ 1 1 Tryz.underlying74 hi hz hsz hby rfl (by omega) v l.length (bvals l) hs (own_below HO hb1) ⟨wr.heap.size, 0, none⟩ 1 1 [.int .u8 (c.toNat : Int)] hx rfl ?_ ?_ (by unfold maxLen; omega) (by omega) (by rw [hsize]; omega) ?_
  · intro j u hj
    have hn := heap_alloc_new wr (.cells #[.int .u8 (c.toNat : Int)] 5)
    cases j with
    | zero =>
      simp at hj; subst hj
      rw [show (⟨wr.heap.size, 0, none⟩ : Addr).add 0 = ⟨wr.heap.size, 0, none⟩ from by unfold Addr.add; split <;> simp_all]
      simp only [World.cell?, hn]
      rfl
    | succ j => simp at hj
  · intro u hu
    simp at hu; subst hu; rfl
  · intro v' w' h1 h2 _
    refine h v' w' ?_ (hb2.grown h2 (by rw [hsize]; omega) (fun k hk => (HO.lt k hk).1))
    simpa [bvals] using h1

theorem own_shape {w : World} {base : Nat} {e : TypeId} {size : Nat} {v : Value} {n : Nat} {xs : List Value} (h : w.ownsRow base e size v n xs) : ∃ ao cp, v = .slice ao n cp := by
  rcases h.2 with ⟨h2, h3⟩ | ⟨g, cap, cur, h2, _⟩
  · exact ⟨none, 0, by rw [h2, h3]⟩
  · exact ⟨_, cap, h2⟩

/-- bytes of a slice of the call's own, as a string -/
theorem conv_own {w : World} {base : Nat} {v : Value} {l : List UInt8} (h : w.ownsRow base 5 1 v l.length (bvals l)) : (convert 74 9 v).run Tryz.prog w = .ok (.string ⟨l.toArray⟩) w := by
  rcases h.2 with ⟨rfl, h0⟩ | ⟨g, cap, cur, rfl, _, hg, _, _, _, ht⟩
  · have hl : l = [] := List.eq_nil_of_length_eq_zero h0
    subst hl
    exact run_convert_bytes_nil w 74 5 Tryz.underlying74 Tryz.underlying5 0 0 9 Tryz.underlying9
  · refine run_convert_bytes_back (P := Tryz.prog) w 74 9 5 ⟨g, 0, none⟩ cap l Tryz.underlying74 Tryz.underlying5 Tryz.underlying9 ?_
    intro j hj
    refine h.cells (g := g) rfl j _ ?_
    simp [bvals, hj]

theorem wordBs_yes {s : ByteArray} {n : Nat} {i : Int} (h : 0 ≤ (wordC s i).1) : wordBs s (n + 1) i = UInt8.ofNat (wordC s i).1.toNat :: wordBs s n (wordC s i).2 := by rw [wordBs, if_neg (by omega)]
theorem wordBs_no {s : ByteArray} {n : Nat} {i : Int} (h : (wordC s i).1 < 0) : wordBs s n i = [] := by
  cases n with
  | zero => rfl
  | succ n => rw [wordBs, if_pos h]
theorem u8_of {c : Int} (h : 0 ≤ c) (h' : c ≤ 255) : c = ((UInt8.ofNat c.toNat).toNat : Int) := by
  rw [UInt8.toNat_ofNat']
  omega

set_option maxRecDepth 4000 in
set_option maxHeartbeats 2000000 in
theorem wordBytes_any (s : ByteArray) (w : World) (hs : s.size ≤ 400) :
    Calls Tryz.prog 166 #[.string s] w fun e w' => e = .returned (.string ⟨(wordBs s (s.size + 1) 1).toArray⟩) ∧ Below w.heap.size w w' := by
  go_enter Tryz.func166, Tryz.ntmps166
  go_wp2_with (first | (go_at_call 137; refine (wordChar_any _ _ _ (by omega) (by omega)).mono ?_; rintro e w' ⟨rfl, hw⟩; replace hw := hw.symm; subst hw))
  go_loopw [3, 4, 5] (fun v c t wr => ∃ (acc : List UInt8) (j : Int) (n : Nat) (ao : Option Addr) (cp : Nat), v = .slice ao acc.length cp ∧ c = .int .i64 (wordC s j).1 ∧ t = .int .i64 (wordC s j).2 ∧ Hid (1 ≤ j ∧ j ≤ s.size + 1 ∧ (s.size : Int) < n + j ∧ (acc.length : Int) ≤ j) ∧
      Hid (wordBs s (s.size + 1) 1 = acc ++ wordBs s n j) ∧ Hid (wr.ownsRow w.heap.size 5 1 (.slice ao acc.length cp) acc.length (bvals acc)) ∧ Hid (Below w.heap.size w wr)) (fun _ c t _ => (2 * (s.size - intOf t)).toNat + (min 1 (intOf c + 1)).toNat)
  case atStart => exact ⟨[], 1, s.size + 1, none, 0, rfl, rfl, rfl, ⟨by omega, by omega, by omega, by simp⟩, rfl, World.ownsRow_nil _ _ _ _, Below.refl _ _⟩
  case round =>
    obtain ⟨acc, j, n, ao, cp, rfl, rfl, rfl, HJ, HE, HO, HB⟩ := hrel
    have hg := wordC_good s j
    unfold GoodC at hg
    obtain ⟨h1, h2, h3, h4⟩ := unhide HJ
    by_cases hc : (wordC s j).1 < 0
    · have HF := hide ((unhide HE).trans (by rw [wordBs_no hc, List.append_nil] : _ = acc))
      have hcv := conv_own (unhide HO)
      clear hg h1 h2 h3 h4
      go_wp2
      go_ret
      exact ⟨by rw [unhide HF]; rfl, unhide HB⟩
    · have g1 : 0 ≤ (wordC s j).1 := by omega
      have g2 : (wordC s j).1 ≤ 255 := by omega
      have g3 : j < (wordC s j).2 := by omega
      have g4 : (wordC s j).2 ≤ s.size := by omega
      clear hg hc
      obtain ⟨n, rfl⟩ : ∃ m, n = m + 1 := ⟨n - 1, by omega⟩
      have HE' := hide ((unhide HE).trans (by rw [wordBs_yes g1]))
      have hu := hide (u8_of g1 g2)
      have hg2 := wordC_good s (wordC s j).2
      unfold GoodC at hg2
      have hg2' := hide hg2
      have hal : acc.length ≤ 1000 := by omega
      have HJ' : Hid (1 ≤ (wordC s j).2 ∧ (wordC s j).2 ≤ s.size + 1 ∧ (s.size : Int) < n + (wordC s j).2 ∧ ((acc ++ [UInt8.ofNat (wordC s j).1.toNat]).length : Int) ≤ (wordC s j).2) := ⟨by omega, by omega, by omega, by simp; omega⟩
      have g5 : 0 ≤ (wordC s j).2 := by omega
      have g6 : (wordC s j).2 ≤ 1000 := by omega
      have G34 := hide (And.intro g3 g4)
      clear hg2 h1 h2 h3 h4 g3 g4
      go_wp2_with (first | (at_builtin; refine wpList_append_byte (w := w) (UInt8.ofNat (wordC s j).1.toNat) _ (unhide hu) rfl (.tmp 13) (.tmp 16) rfl _ acc rfl (unhide HO) (unhide HB) hal rfl ?_) | go_in)
      intro v' w' ho' hb'
      obtain ⟨ao2, cp2, rfl⟩ := own_shape ho'
      have HO' := hide ho'
      have HB' := hide hb'
      clear ho' hb'
      go_wp2_with (first | (go_at_call 137; refine (wordChar_any _ _ _ g5 g6).mono ?_; rintro e w' ⟨rfl, rfl⟩))
      go_roundw
      case rel => exact ⟨acc ++ [UInt8.ofNat (wordC s j).1.toNat], (wordC s j).2, n, ao2, cp2, by simp, rfl, rfl, HJ', by rw [unhide HE']; simp [Hid], by simpa using HO', HB'⟩
      case measure =>
        have hg2 := unhide hg2'
        obtain ⟨g3, g4⟩ := unhide G34
        simp only [intOf]
        omega
end Go.Proofs.YtbojcemamhiodaaGreatDoor
namespace Go.Proofs.YtbojcemamhiodaaGreatDoor
open Go.RowKit

/-- the 256 cells of a set -/
def setCells (f : Nat → Bool) : Array Value := ((List.range 256).map fun c => Value.bool (f c)).toArray
theorem setCells_size (f : Nat → Bool) : (setCells f).size = 256 := by simp [setCells]
theorem setCells_at (f : Nat → Bool) (c : Nat) (h : c < 256) : (setCells f)[c]? = some (.bool (f c)) := by simp [setCells, h]

theorem bytesOf_def (f : Nat → Bool) (b : Bool) : bytesOf f b = ((List.range 256).filter fun c => f c == b).map UInt8.ofNat := rfl
/-- the bytes up to k -/
def bytesUp (f : Nat → Bool) (b : Bool) (k : Nat) : List UInt8 := ((List.range k).filter fun c => f c == b).map UInt8.ofNat
theorem bytesUp_yes {f : Nat → Bool} {b : Bool} {k : Nat} (h : f k = b) : bytesUp f b (k + 1) = bytesUp f b k ++ [UInt8.ofNat k] := by
  simp [bytesUp, List.range_succ, List.filter_append, h]
theorem bytesUp_no {f : Nat → Bool} {b : Bool} {k : Nat} (h : f k ≠ b) : bytesUp f b (k + 1) = bytesUp f b k := by
  simp [bytesUp, List.range_succ, List.filter_append, h]
theorem bytesUp_len (f : Nat → Bool) (b : Bool) (k : Nat) : (bytesUp f b k).length ≤ k := by
  have := List.length_filter_le (fun c => f c == b) (List.range k)
  simpa [bytesUp] using this

theorem info256 : (Tryz.prog.info? 81).map (fun i => (i.zero, i.size)) = some (some (.agg (setCells fun _ => false)), 256) := by kernel_rfl

theorem wp_load {P : Program} {o : Oper} {a : Act} {w w' : World} {next : Act → World → Prop} {Q : Exit → Act → World → Prop} {t : TypeId} {p : Operand} {v : Value} (ho : o.op = .load t p)
    (h : (Instr.loadAt t (a.eval p)).run P w = .ok v w') (hn : next (a.put o.dst v) w') : Oper.wp P o a w next Q := by
  unfold Oper.wp execOp
  simp only [ho, Sem.run_bind, h, Result.andThen_ok, Sem.run_pure]
  exact hn

theorem size256 : (Tryz.prog.info? 81).map (·.size) = some 256 := (zero_of_info info256).2

theorem index256 (C : Array Value) (k : Nat) (v : Bool) (hk : k < 256) (h : C[k]? = some (.bool v)) (w : World) : (Instr.index 81 (.agg C) (.int .i64 k)).run Tryz.prog w = .ok (.bool v) w := by
  simp [Instr.index, run_underlying Tryz.underlying81, asIntOf, part, h, go_sem]
  intro h2
  omega

set_option maxRecDepth 4000 in
set_option maxHeartbeats 2000000 in
theorem bytesThat_any (f : Nat → Bool) (b : Bool) (w : World) :
    Calls Tryz.prog 168 #[.agg (setCells f), .bool b] w fun e w' => e = .returned (.string ⟨(bytesOf f b).toArray⟩) ∧ Below w.heap.size w w' := by
  have hsz := setCells_size f
  have hat := setCells_at f
  generalize setCells f = C at hsz hat ⊢
  have HS := hide hsz
  have HA := hide hat
  clear hsz hat
  go_enter Tryz.func168, Tryz.ntmps168
  go_wp2_with fail
  refine wp_load rfl (run_loadAt_new w 81 C 256 4 Tryz.underlying81 (by rw [unhide HS]; exact size256)) ?_
  go_wp2_with fail
  go_loopw [5, 9] (fun v i wr => ∃ (k : Nat) (ao : Option Addr) (cp : Nat), k ≤ 256 ∧ i = .int .i64 k ∧ v = .slice ao (bytesUp f b k).length cp ∧
      Hid (wr.ownsRow w.heap.size 5 1 (.slice ao (bytesUp f b k).length cp) (bytesUp f b k).length (bvals (bytesUp f b k))) ∧ Hid (Below w.heap.size w wr)) (fun _ i _ => 256 - (intOf i).toNat)
  case atStart => exact ⟨0, none, 0, by omega, rfl, rfl, World.ownsRow_nil _ _ _ _, (Below.refl _ _).alloc (Nat.le_refl _) _⟩
  case round =>
    obtain ⟨k, ao, cp, hk, rfl, rfl, HO, HB⟩ := hrel
    by_cases hlt : k < 256
    · have hci := index256 C k (f k) hlt (unhide HA k hlt)
      by_cases hfk : f k = b
      · have hbl : (f k == b) = true := by simp [hfk]
        have HU := hide (bytesUp_yes hfk)
        have hu : Hid ((k : Int) = ((UInt8.ofNat k).toNat : Int)) := by rw [Hid, UInt8.toNat_ofNat']; omega
        have hal := bytesUp_len f b k
        have hal2 : (bytesUp f b k).length ≤ 1000 := by omega
        clear hfk hal
        generalize bytesUp f b k = acc at *
        go_wp2_with (first | (at_builtin; refine wpList_append_byte (w := w) (UInt8.ofNat k) _ (unhide hu) rfl (.tmp 16) (.tmp 19) rfl _ acc rfl (unhide HO) (unhide HB) hal2 rfl ?_) | go_in)
        intro v' w' ho' hb'
        rw [← unhide HU] at ho'
        obtain ⟨ao2, cp2, rfl⟩ := own_shape ho'
        have HO' := hide ho'
        have HB' := hide hb'
        clear ho' hb'
        go_wp2_with fail
        go_roundw
        case rel => exact ⟨k + 1, ao2, cp2, by omega, by go_num, by rw [unhide HU]; simp, by have h := HO'; rw [unhide HU] at h ⊢; simpa using h, HB'⟩
        case measure => simp [intOf]; omega
      · have hbl : (f k == b) = false := by simp [hfk]
        have HU := hide (bytesUp_no hfk)
        clear hfk
        go_wp2_with fail
        go_roundw
        case rel => exact ⟨k + 1, ao, cp, by omega, by go_num, by rw [unhide HU], by rw [unhide HU]; exact HO, HB⟩
        case measure => simp [intOf]; omega
    · have hkk : k = 256 := by omega
      subst hkk
      have hcv := conv_own (unhide HO)
      go_wp2
      go_ret
      exact ⟨rfl, unhide HB⟩

theorem membs_yes {s : ByteArray} {n : Nat} {i : Int} (h : 0 ≤ (member s i).1) : membs s (n + 1) i = ((member s i).1, (member s i).2.1) :: membs s n (member s i).2.2 := by rw [membs, if_neg (by omega)]
theorem membs_no {s : ByteArray} {n : Nat} {i : Int} (h : (member s i).1 < 0) : membs s n i = [] := by
  cases n with
  | zero => rfl
  | succ n => rw [membs, if_pos h]
/-- the set with the bytes of a range up to k -/
def isUp (done : List (Int × Int)) (p : Int × Int) (k : Nat) (c : Nat) : Bool := isIn done c || (decide (c < k) && (decide (p.1 ≤ c) && decide ((c : Int) ≤ p.2)))
theorem isUp_zero (done : List (Int × Int)) (p : Int × Int) : isUp done p 0 = isIn done := by funext c; simp [isUp]
theorem isUp_no {done : List (Int × Int)} {p : Int × Int} {k : Nat} (h : p.1 ≤ k → p.2 < k) : isUp done p (k + 1) = isUp done p k := by
  funext c
  unfold isUp
  by_cases hc : c = k
  · subst hc
    simp
    intro h1 h2
    have := h h1
    omega
  · have : decide (c < k + 1) = decide (c < k) := by simp; omega
    rw [this]
theorem isUp_yes {done : List (Int × Int)} {p : Int × Int} {k : Nat} (h1 : p.1 ≤ k) (h2 : (k : Int) ≤ p.2) (c : Nat) : isUp done p (k + 1) c = if c = k then true else isUp done p k c := by
  unfold isUp
  split
  · rename_i hc
    subst hc
    simp [h1, h2]
  · have : decide (c < k + 1) = decide (c < k) := by simp; omega
    rw [this]
theorem setCells_ext {f g : Nat → Bool} (h : ∀ c, c < 256 → f c = g c) : setCells f = setCells g := by
  unfold setCells
  congr 1
  apply List.map_congr_left
  intro c hc
  rw [h c (by simpa using hc)]
theorem setCells_up (done : List (Int × Int)) (p : Int × Int) : setCells (isUp done p 256) = setCells (isIn (done ++ [p])) := by
  refine setCells_ext fun c hc => ?_
  simp [isUp, isIn, hc]
theorem set_cells (w : World) (f g : Nat → Bool) (k : Nat) (hk : k < 256) (h : ∀ c, g c = if c = k then true else f c) :
    w.alloc (.cells ((setCells f).setIfInBounds k (.bool true)) 81) = w.alloc (.cells (setCells g) 81) := by
  congr 2
  apply Array.ext_getElem?
  intro c
  by_cases hc : c < 256
  · rw [setCells_at g c hc, h c]
    by_cases hck : c = k
    · subst hck
      simp [setCells_size, hk]
    · rw [if_neg hck, Array.getElem?_setIfInBounds_ne (fun e => hck e.symm), setCells_at f c hc]
  · rw [Array.getElem?_eq_none (by simp [setCells_size]; omega), Array.getElem?_eq_none (by simp [setCells_size]; omega)]
theorem new_cells (w : World) (f : Nat → Bool) (k : Nat) (hk : k < 256) : (w.alloc (.cells (setCells f) 81)).cell? ⟨w.heap.size, k, none⟩ = some (.bool (f k)) ∧ (w.alloc (.cells (setCells f) 81)).frozen? ⟨w.heap.size, k, none⟩ = false := by
  constructor
  · simp only [World.cell?, heap_alloc_new]
    exact setCells_at f k hk
  · simp only [World.frozen?, heap_alloc_new]
    simp
theorem below_alloc {w w' : World} {o : Obj} (h : Below (w.alloc o).heap.size (w.alloc o) w') : Below w.heap.size w w' :=
  ((Below.refl _ w).alloc (Nat.le_refl _) o).trans ⟨h.os, h.tape, h.output, h.size, fun k hk => h.block k (by simp; omega)⟩

set_option maxRecDepth 4000 in
set_option maxHeartbeats 4000000 in
theorem setBytes_any (s : ByteArray) (w : World) (hs : s.size ≤ 400) :
    Calls Tryz.prog 167 #[.string s] w fun e w' => e = .returned (.string ⟨(setBs s).toArray⟩) ∧ Below w.heap.size w w' := by
  have hz := (zero_of_info info256).1
  by_cases hx : bAt s 1 = 94
  · have bx : (bAt s 1 == 94) = true := by simp [hx]
    have HX := hide hx
    clear hx
    go_enter Tryz.func167, Tryz.ntmps167
    go_wp2_with (first | (go_at_call 112; refine (byteAt_any _ _ _).mono ?_; rintro e w' ⟨rfl, hw⟩; replace hw := hw.symm; subst hw) | (go_at_call 138; refine (readMember_any _ _ _ hs (by omega) (by omega)).mono ?_; rintro e w' ⟨rfl, hw⟩; replace hw := hw.symm; subst hw))
    go_loopw [6, 7, 8] (fun a b t wr => ∃ (done : List (Int × Int)) (j : Int) (n : Nat), a = .int .i64 (member s j).1 ∧ b = .int .i64 (member s j).2.1 ∧ t = .int .i64 (member s j).2.2 ∧ Hid (1 ≤ j ∧ j ≤ s.size + 2 ∧ (s.size : Int) < n + j) ∧
        Hid (membs s (s.size + 1) 2 = done ++ membs s n j) ∧ wr = w.alloc (.cells (setCells (isIn done)) 81)) (fun a _ t _ => (2 * (s.size - intOf t)).toNat + (min 1 (intOf a + 1)).toNat)
    case atStart => exact ⟨[], 2, s.size + 1, rfl, rfl, rfl, ⟨by omega, by omega, by omega⟩, rfl, rfl⟩
    case round =>
      obtain ⟨done, j, n, rfl, rfl, rfl, HJ, HE, rfl⟩ := hrel
      have hg := member_good s j
      unfold GoodM at hg
      obtain ⟨h1, h2, h3⟩ := unhide HJ
      by_cases hm : (member s j).1 < 0
      · have HF := hide ((unhide HE).trans (by rw [membs_no hm, List.append_nil] : _ = done))
        clear hg h1 h2 h3
        go_wp2_with fail
        refine wp_load rfl (run_loadAt_new w 81 _ 256 4 Tryz.underlying81 (by rw [setCells_size]; exact size256)) ?_
        go_wp2_with (first | (go_at_call 168; refine (bytesThat_any _ _ _).mono ?_; rintro e w' ⟨rfl, hb⟩))
        go_ret
        refine ⟨?_, below_alloc hb⟩
        rw [setBs, if_pos (unhide HX), unhide HF]
        rfl
      · have g1 : 0 ≤ (member s j).1 := by omega
        have g2 : (member s j).1 ≤ (member s j).2.1 := by omega
        have g3 : (member s j).2.1 ≤ 255 := by omega
        have g4 : j < (member s j).2.2 := by omega
        have g5 : (member s j).2.2 ≤ s.size := by omega
        obtain ⟨n, rfl⟩ : ∃ m, n = m + 1 := ⟨n - 1, by omega⟩
        have HE' := hide ((unhide HE).trans (by rw [membs_yes g1]))
        have HJ' : Hid (1 ≤ (member s j).2.2 ∧ (member s j).2.2 ≤ s.size + 2 ∧ (s.size : Int) < n + (member s j).2.2) := ⟨by omega, by omega, by omega⟩
        have hg2 := hide (member_good s (member s j).2.2)
        have G45 := hide (And.intro g4 g5)
        have g6 : 0 ≤ (member s j).2.2 := by omega
        have g7 : (member s j).2.2 ≤ 1000 := by omega
        clear hg h1 h2 h3 hm g4 g5
        go_wp2_with fail
        go_loopw [26] (fun i wr => ∃ k : Nat, k ≤ 256 ∧ i = .int .i64 k ∧ wr = w.alloc (.cells (setCells (isUp done ((member s j).1, (member s j).2.1) k)) 81)) (fun i _ => 256 - (intOf i).toNat)
        case atStart => exact ⟨0, by omega, rfl, by rw [isUp_zero]⟩
        case round =>
          obtain ⟨k, hk, rfl, rfl⟩ := hrel
          by_cases hlt : k < 256
          · by_cases hin : (member s j).1 ≤ k ∧ (k : Int) ≤ (member s j).2.1
            · obtain ⟨i1, i2⟩ := hin
              have hset := hide (set_cells w (isUp done ((member s j).1, (member s j).2.1) k) (isUp done ((member s j).1, (member s j).2.1) (k + 1)) k hlt (isUp_yes i1 i2))
              obtain ⟨hcl, hfz⟩ := new_cells w (isUp done ((member s j).1, (member s j).2.1) k) k hlt
              go_wp2_with fail
              go_roundw
              case rel => exact ⟨k + 1, by omega, by go_num, unhide hset⟩
              case measure => simp [intOf]; omega
            · have hset := hide (isUp_no (done := done) (p := ((member s j).1, (member s j).2.1)) (k := k) (by simpa using hin))
              have hin' : (decide ((member s j).1 ≤ k) && decide ((k : Int) ≤ (member s j).2.1)) = false := by simpa using hin
              have hor : (k : Int) < (member s j).1 ∨ (member s j).2.1 < k := by omega
              clear hin
              rcases hor with hor | hor
              all_goals
                go_wp2_with fail
                go_roundw
                case rel => exact ⟨k + 1, by omega, by go_num, by rw [unhide hset]⟩
                case measure => simp [intOf]; omega
          · have hkk : k = 256 := by omega
            subst hkk
            go_wp2_with (first | (go_at_call 138; refine (readMember_any _ _ _ hs g6 g7).mono ?_; rintro e w' ⟨rfl, rfl⟩))
            go_roundw
            case rel => exact ⟨done ++ [((member s j).1, (member s j).2.1)], (member s j).2.2, n, rfl, rfl, rfl, HJ', by rw [unhide HE']; simp [Hid], by rw [setCells_up]⟩
            case measure =>
              have hg2' := unhide hg2
              unfold GoodM at hg2'
              obtain ⟨g4, g5⟩ := unhide G45
              simp only [intOf]
              omega
  · have bx : (bAt s 1 == 94) = false := by simp [hx]
    have HX := hide hx
    clear hx
    go_enter Tryz.func167, Tryz.ntmps167
    go_wp2_with (first | (go_at_call 112; refine (byteAt_any _ _ _).mono ?_; rintro e w' ⟨rfl, hw⟩; replace hw := hw.symm; subst hw) | (go_at_call 138; refine (readMember_any _ _ _ hs (by omega) (by omega)).mono ?_; rintro e w' ⟨rfl, hw⟩; replace hw := hw.symm; subst hw))
    go_loopw [6, 7, 8] (fun a b t wr => ∃ (done : List (Int × Int)) (j : Int) (n : Nat), a = .int .i64 (member s j).1 ∧ b = .int .i64 (member s j).2.1 ∧ t = .int .i64 (member s j).2.2 ∧ Hid (1 ≤ j ∧ j ≤ s.size + 2 ∧ (s.size : Int) < n + j) ∧
        Hid (membs s (s.size + 1) 1 = done ++ membs s n j) ∧ wr = w.alloc (.cells (setCells (isIn done)) 81)) (fun a _ t _ => (2 * (s.size - intOf t)).toNat + (min 1 (intOf a + 1)).toNat)
    case atStart => exact ⟨[], 1, s.size + 1, rfl, rfl, rfl, ⟨by omega, by omega, by omega⟩, rfl, rfl⟩
    case round =>
      obtain ⟨done, j, n, rfl, rfl, rfl, HJ, HE, rfl⟩ := hrel
      have hg := member_good s j
      unfold GoodM at hg
      obtain ⟨h1, h2, h3⟩ := unhide HJ
      by_cases hm : (member s j).1 < 0
      · have HF := hide ((unhide HE).trans (by rw [membs_no hm, List.append_nil] : _ = done))
        clear hg h1 h2 h3
        go_wp2_with fail
        refine wp_load rfl (run_loadAt_new w 81 _ 256 4 Tryz.underlying81 (by rw [setCells_size]; exact size256)) ?_
        go_wp2_with (first | (go_at_call 168; refine (bytesThat_any _ _ _).mono ?_; rintro e w' ⟨rfl, hb⟩))
        go_ret
        refine ⟨?_, below_alloc hb⟩
        rw [setBs, if_neg (unhide HX), unhide HF]
        rfl
      · have g1 : 0 ≤ (member s j).1 := by omega
        have g2 : (member s j).1 ≤ (member s j).2.1 := by omega
        have g3 : (member s j).2.1 ≤ 255 := by omega
        have g4 : j < (member s j).2.2 := by omega
        have g5 : (member s j).2.2 ≤ s.size := by omega
        obtain ⟨n, rfl⟩ : ∃ m, n = m + 1 := ⟨n - 1, by omega⟩
        have HE' := hide ((unhide HE).trans (by rw [membs_yes g1]))
        have HJ' : Hid (1 ≤ (member s j).2.2 ∧ (member s j).2.2 ≤ s.size + 2 ∧ (s.size : Int) < n + (member s j).2.2) := ⟨by omega, by omega, by omega⟩
        have hg2 := hide (member_good s (member s j).2.2)
        have G45 := hide (And.intro g4 g5)
        have g6 : 0 ≤ (member s j).2.2 := by omega
        have g7 : (member s j).2.2 ≤ 1000 := by omega
        clear hg h1 h2 h3 hm g4 g5
        go_wp2_with fail
        go_loopw [26] (fun i wr => ∃ k : Nat, k ≤ 256 ∧ i = .int .i64 k ∧ wr = w.alloc (.cells (setCells (isUp done ((member s j).1, (member s j).2.1) k)) 81)) (fun i _ => 256 - (intOf i).toNat)
        case atStart => exact ⟨0, by omega, rfl, by rw [isUp_zero]⟩
        case round =>
          obtain ⟨k, hk, rfl, rfl⟩ := hrel
          by_cases hlt : k < 256
          · by_cases hin : (member s j).1 ≤ k ∧ (k : Int) ≤ (member s j).2.1
            · obtain ⟨i1, i2⟩ := hin
              have hset := hide (set_cells w (isUp done ((member s j).1, (member s j).2.1) k) (isUp done ((member s j).1, (member s j).2.1) (k + 1)) k hlt (isUp_yes i1 i2))
              obtain ⟨hcl, hfz⟩ := new_cells w (isUp done ((member s j).1, (member s j).2.1) k) k hlt
              go_wp2_with fail
              go_roundw
              case rel => exact ⟨k + 1, by omega, by go_num, unhide hset⟩
              case measure => simp [intOf]; omega
            · have hset := hide (isUp_no (done := done) (p := ((member s j).1, (member s j).2.1)) (k := k) (by simpa using hin))
              have hin' : (decide ((member s j).1 ≤ k) && decide ((k : Int) ≤ (member s j).2.1)) = false := by simpa using hin
              have hor : (k : Int) < (member s j).1 ∨ (member s j).2.1 < k := by omega
              clear hin
              rcases hor with hor | hor
              all_goals
                go_wp2_with fail
                go_roundw
                case rel => exact ⟨k + 1, by omega, by go_num, by rw [unhide hset]⟩
                case measure => simp [intOf]; omega
          · have hkk : k = 256 := by omega
            subst hkk
            go_wp2_with (first | (go_at_call 138; refine (readMember_any _ _ _ hs g6 g7).mono ?_; rintro e w' ⟨rfl, rfl⟩))
            go_roundw
            case rel => exact ⟨done ++ [((member s j).1, (member s j).2.1)], (member s j).2.2, n, rfl, rfl, rfl, HJ', by rw [unhide HE']; simp [Hid], by rw [setCells_up]⟩
            case measure =>
              have hg2' := unhide hg2
              unfold GoodM at hg2'
              obtain ⟨g4, g5⟩ := unhide G45
              simp only [intOf]
              omega
end Go.Proofs.YtbojcemamhiodaaGreatDoor
namespace Go.Proofs.YtbojcemamhiodaaGreatDoor
open Go.RowKit

theorem of_size (s : ByteArray) (t : Tk) (hs : s.size ≤ 400) : (t.of s).size ≤ 400 := by
  unfold Tk.of
  rw [ByteArray.size_extract]
  omega
theorem bytes_4 {s : ByteArray} {t : Tk} (h : t.k = 4) : t.bytes s = ⟨(wordBs (t.of s) ((t.of s).size + 1) 1).toArray⟩ := by unfold Tk.bytes; rw [if_pos h]
theorem bytes_5 {s : ByteArray} {t : Tk} (h : t.k = 5) : t.bytes s = ⟨(setBs (t.of s)).toArray⟩ := by unfold Tk.bytes; rw [if_neg (by omega), if_pos h]
theorem bytes_12 {s : ByteArray} {t : Tk} (h : t.k = 12) : t.bytes s = ⟨(bytesOf (fun _ => false) false).toArray⟩ := by unfold Tk.bytes; rw [if_neg (by omega), if_neg (by omega), if_pos h]
theorem bytes_no {s : ByteArray} {t : Tk} (h4 : t.k ≠ 4) (h5 : t.k ≠ 5) (h : t.k ≠ 12) : t.bytes s = ByteArray.empty := by unfold Tk.bytes; rw [if_neg h4, if_neg h5, if_neg h]
theorem tok_cells {w w' : World} {a b c : Value} (hb : Below (w.alloc (.cells #[a, b, c] 112)).heap.size (w.alloc (.cells #[a, b, c] 112)) w') : w'.cell? ⟨w.heap.size, 0, none⟩ = some a ∧ w.heap.size < w'.heap.size := by
  have h := (hb.block w.heap.size (by simp)).trans (heap_alloc_new w _)
  have hz := hb.size
  simp at hz
  exact ⟨by simp [World.cell?, h], by omega⟩

set_option maxRecDepth 4000 in
set_option maxHeartbeats 2000000 in
theorem bytes_any (w : World) (s : ByteArray) (t : Tk) (hs : s.size ≤ 400) (ht : TkOk s t) :
    Calls Tryz.prog 162 #[.agg #[.int .i64 t.k, .int .i64 t.from_, .int .i64 t.to], .string s] w fun e w' => e = .returned (.string (t.bytes s)) ∧ Below w.heap.size w w' := by
  have hz := (zero_of_info info256).1
  have hos := of_size s t hs
  by_cases h4 : t.k = 4
  · have b4 : (t.k == 4) = true := by simp [h4]
    have HR := hide (bytes_4 (s := s) h4)
    clear h4
    go_enter Tryz.func162, Tryz.ntmps162
    go_wp2_with fail
    go_at_call 83
    refine (of_any _ _ _ ht).mono ?_
    rintro e w1 ⟨rfl, hb1⟩
    obtain ⟨c0, hz1⟩ := tok_cells hb1
    generalize t.of s = p at *
    go_wp2_with (first | (go_at_call 166; refine (wordBytes_any _ _ hos).mono ?_; rintro e w2 ⟨rfl, hb2⟩))
    go_ret
    exact ⟨by rw [unhide HR]; rfl, (below_alloc hb1).trans (hb2.mono (below_alloc hb1).size)⟩
  · have b4 : (t.k == 4) = false := by simp [h4]
    by_cases h5 : t.k = 5
    · have b5 : (t.k == 5) = true := by simp [h5]
      have HR := hide (bytes_5 (s := s) h5)
      clear h4 h5
      go_enter Tryz.func162, Tryz.ntmps162
      go_wp2_with fail
      go_at_call 83
      refine (of_any _ _ _ ht).mono ?_
      rintro e w1 ⟨rfl, hb1⟩
      obtain ⟨c0, hz1⟩ := tok_cells hb1
      generalize t.of s = p at *
      go_wp2_with (first | (go_at_call 167; refine (setBytes_any _ _ hos).mono ?_; rintro e w2 ⟨rfl, hb2⟩))
      go_ret
      exact ⟨by rw [unhide HR]; rfl, (below_alloc hb1).trans (hb2.mono (below_alloc hb1).size)⟩
    · have b5 : (t.k == 5) = false := by simp [h5]
      by_cases h12 : t.k = 12
      · have b12 : (t.k == 12) = true := by simp [h12]
        have HR := hide (bytes_12 (s := s) h12)
        clear h4 h5 h12
        go_enter Tryz.func162, Tryz.ntmps162
        go_wp2_with fail
        go_at_call 83
        refine (of_any _ _ _ ht).mono ?_
        rintro e w1 ⟨rfl, hb1⟩
        obtain ⟨c0, hz1⟩ := tok_cells hb1
        generalize t.of s = p at *
        go_wp2_with fail
        refine wp_load rfl (run_loadAt_new w1 81 _ 256 4 Tryz.underlying81 (by rw [setCells_size]; exact size256)) ?_
        go_wp2_with (first | (go_at_call 168; refine (bytesThat_any _ _ _).mono ?_; rintro e w2 ⟨rfl, hb2⟩))
        go_ret
        exact ⟨by rw [unhide HR]; rfl, (below_alloc hb1).trans ((below_alloc hb2).mono (below_alloc hb1).size)⟩
      · have b12 : (t.k == 12) = false := by simp [h12]
        have HR := hide (bytes_no (s := s) h4 h5 h12)
        clear h4 h5 h12
        go_enter Tryz.func162, Tryz.ntmps162
        go_wp2_with fail
        go_at_call 83
        refine (of_any _ _ _ ht).mono ?_
        rintro e w1 ⟨rfl, hb1⟩
        obtain ⟨c0, hz1⟩ := tok_cells hb1
        generalize t.of s = p at *
        go_wp2
        go_ret
        exact ⟨by rw [unhide HR]; rfl, below_alloc hb1⟩
end Go.Proofs.YtbojcemamhiodaaGreatDoor

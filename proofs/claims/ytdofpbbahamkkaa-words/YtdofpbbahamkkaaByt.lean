import Derived.Test.YtdofpbbahamkkaaPar2
import Derived.OwnWalk
import Derived.Laws.BytesArg
namespace Go.Proofs.Ytdofpbbahamkkaa
open Go.RowKit

theorem conv_to (s : ByteArray) (w : World) : (convert 9 47 (.string s)).run Try.prog w = .ok (.slice (some ⟨w.heap.size, 0, none⟩) s.size (grownCap w s.size 0 5))
      (w.drew.alloc (.cells (bytesRow s (grownCap w s.size 0 5)) 5 ((bytesRow s (grownCap w s.size 0 5)).size, (bytesRow s (grownCap w s.size 0 5)).size + 1))) :=
  run_bytes_of_string w 9 47 5 s Try.underlying9 Try.underlying47 Try.underlying5
theorem conv_back (s : ByteArray) (w : World) (cap : Nat) (fr : Nat × Nat) : (convert 47 9 (.slice (some ⟨w.heap.size, 0, none⟩) s.size cap)).run Try.prog ((w.alloc (.cells (bytesRow s cap) 5 fr)).drew) = .ok (.string s) ((w.alloc (.cells (bytesRow s cap) 5 fr)).drew) := by
  have h := run_convert_bytes_back (P := Try.prog) ((w.alloc (.cells (bytesRow s cap) 5 fr)).drew) 47 9 5 ⟨w.heap.size, 0, none⟩ cap s.data.toList Try.underlying47 Try.underlying5 Try.underlying9 ?_
  · simpa using h
  · intro j hj
    have hadd : (⟨w.heap.size, 0, none⟩ : Addr).add j = ⟨w.heap.size, j, none⟩ := by unfold Addr.add; split <;> simp_all
    rw [hadd]
    have := World.cell?_alloc_mark w (bytesRow s cap) 5 fr j
    have h2 : ((w.alloc (.cells (bytesRow s cap) 5 fr)).drew).cell? ⟨w.heap.size, j, none⟩ = (w.alloc (.cells (bytesRow s cap) 5 fr)).cell? ⟨w.heap.size, j, none⟩ := rfl
    rw [h2, this, bytesRow_at s cap j (by simpa using hj)]
    simp
theorem conv_back2 (s : ByteArray) (w : World) (o : Obj) (cap : Nat) (fr : Nat × Nat) : (convert 47 9 (.slice (some ⟨w.heap.size + 1, 0, none⟩) s.size cap)).run Try.prog (((w.alloc o).alloc (.cells (bytesRow s cap) 5 fr)).drew) = .ok (.string s) (((w.alloc o).alloc (.cells (bytesRow s cap) 5 fr)).drew) := by
  have h := conv_back s (w.alloc o) cap fr
  rw [show (w.alloc o).heap.size = w.heap.size + 1 from by simp] at h
  exact h

set_option maxHeartbeats 1000000 in
theorem of_any (w : World) (s : ByteArray) (t : Tk) (ht : TkOk s t) :
    Calls Try.prog 47 #[.agg #[.int .i64 t.k, .int .i64 t.from_, .int .i64 t.to], .string s] w fun e w' => e = .returned (.string (t.of s)) ∧ Below w.heap.size w w' := by
  have h1 := ht.from0
  have h2 := ht.le
  have h3 := ht.size
  obtain ⟨p, hp⟩ : ∃ p, s.extract t.from_.toNat t.to.toNat = p := ⟨_, rfl⟩
  have Hp : Hid (t.of s = p) := hp
  have hct := conv_to p
  have hcb := conv_back2 p w
  go_enter Try.func47, Try.ntmps47
  go_wp2
  go_ret
  exact ⟨by rw [unhide Hp]; rfl, ((((Below.refl _ _).alloc (Nat.le_refl _) _).alloc (by simp) _)).drew⟩

/-- the cells of bytes -/
def bvals (l : List UInt8) : List Value := l.map fun b => Value.int .u8 (b.toNat : Int)

theorem info5 : (Try.prog.info? 5).map (fun i => (i.zero, i.size, i.bytes)) = some (some (.int .u8 0), 1, 1) := by kernel_rfl
theorem own_below {w w' : World} {base : Nat} {e : TypeId} {size : Nat} {v : Value} {n : Nat} {xs : List Value} (h : w.ownsRow base e size v n xs) (hb : Below w.heap.size w w') : w'.ownsRow base e size v n xs := by
  refine ⟨h.1, ?_⟩
  rcases h.2 with h2 | ⟨g, cap, cur, hv, hg, hh, r⟩
  · exact .inl h2
  · exact .inr ⟨g, cap, cur, hv, hg, (hb.block g (Array.getElem?_eq_some_iff.1 hh).1).trans hh, r⟩

/-- a byte is appended -/
theorem wpList_append_byte {w wr : World} {ops : Array Oper} {rest : List Oper} {o : Oper} {a : Act} {Q : Exit → Act → World → Prop} (c : UInt8) (b : Int) (hb : b = c.toNat) (hgd : o.guard = none) (sl x : Operand)
    (ho : o.op = .call { callee := .builtin .append, args := #[sl, x], argTypes := #[47, 47] }) (v : Value) (l : List UInt8) (hs : a.eval sl = v)
    (HO : wr.ownsRow w.heap.size 5 1 v l.length (bvals l)) (HB : Below w.heap.size w wr) (hk : l.length ≤ 1000) (hx : a.eval x = .slice (some ⟨wr.heap.size, 0, none⟩) 1 1)
    (h : ∀ v' w', w'.ownsRow w.heap.size 5 1 v' (l ++ [c]).length (bvals (l ++ [c])) → Below w.heap.size w w' → wpList Try.prog ops Q rest (a.put o.dst v') w') :
    wpList Try.prog ops Q (o :: rest) a (wr.alloc (.cells #[.int .u8 b] 5)) := by
  subst hb
  obtain ⟨i, hi, hz, hsz, hby⟩ := info_parts info5
  have hzz := HB.size
  have hb1 : Below wr.heap.size wr (wr.alloc (.cells #[.int .u8 (c.toNat : Int)] 5)) := (Below.refl _ _).alloc (Nat.le_refl _) _
  have hb2 : Below w.heap.size w (wr.alloc (.cells #[.int .u8 (c.toNat : Int)] 5)) := HB.trans (hb1.mono hzz)
  have hsize : (wr.alloc (.cells #[.int .u8 (c.toNat : Int)] 5)).heap.size = wr.heap.size + 1 := by simp
  refine wpList_append_own _ hgd sl x 47 ho w.heap.size 5 i _ 1 1 Try.underlying47 hi hz hsz hby rfl (by omega) v l.length (bvals l) hs (own_below HO hb1) ⟨wr.heap.size, 0, none⟩ 1 1 [.int .u8 (c.toNat : Int)] hx rfl ?_ ?_ (by unfold maxLen; omega) (by omega) (by rw [hsize]; omega) ?_
  · intro j u hj
    have hn := heap_alloc_new wr (.cells #[.int .u8 (c.toNat : Int)] 5)
    cases j with
    | zero =>
      simp at hj; subst hj
      rw [show (⟨wr.heap.size, 0, none⟩ : Addr).add 0 = ⟨wr.heap.size, 0, none⟩ from by unfold Addr.add; split <;> simp_all]
      simp only [World.cell?, hn]
      rfl
    | succ j => simp at hj
  · intro u hu
    simp at hu; subst hu; rfl
  · intro v' w' h1 h2 _
    refine h v' w' ?_ (hb2.grown h2 (by rw [hsize]; omega) (fun k hk => (HO.lt k hk).1))
    simpa [bvals] using h1

theorem own_shape {w : World} {base : Nat} {e : TypeId} {size : Nat} {v : Value} {n : Nat} {xs : List Value} (h : w.ownsRow base e size v n xs) : ∃ ao cp, v = .slice ao n cp := by
  rcases h.2 with ⟨h2, h3⟩ | ⟨g, cap, cur, h2, _⟩
  · exact ⟨none, 0, by rw [h2, h3]⟩
  · exact ⟨_, cap, h2⟩

/-- bytes of a slice of the call's own, as a string -/
theorem conv_own {w : World} {base : Nat} {v : Value} {l : List UInt8} (h : w.ownsRow base 5 1 v l.length (bvals l)) : (convert 47 9 v).run Try.prog w = .ok (.string ⟨l.toArray⟩) w := by
  rcases h.2 with ⟨rfl, h0⟩ | ⟨g, cap, cur, rfl, _, hg, _, _, _, ht⟩
  · have hl : l = [] := List.eq_nil_of_length_eq_zero h0
    subst hl
    exact run_convert_bytes_nil w 47 5 Try.underlying47 Try.underlying5 0 0 9 Try.underlying9
  · refine run_convert_bytes_back (P := Try.prog) w 47 9 5 ⟨g, 0, none⟩ cap l Try.underlying47 Try.underlying5 Try.underlying9 ?_
    intro j hj
    refine h.cells (g := g) rfl j _ ?_
    simp [bvals, hj]

theorem wordBs_yes {s : ByteArray} {n : Nat} {i : Int} (h : 0 ≤ (wordC s i).1) : wordBs s (n + 1) i = UInt8.ofNat (wordC s i).1.toNat :: wordBs s n (wordC s i).2 := by rw [wordBs, if_neg (by omega)]
theorem wordBs_no {s : ByteArray} {n : Nat} {i : Int} (h : (wordC s i).1 < 0) : wordBs s n i = [] := by
  cases n with
  | zero => rfl
  | succ n => rw [wordBs, if_pos h]
theorem u8_of {c : Int} (h : 0 ≤ c) (h' : c ≤ 255) : c = ((UInt8.ofNat c.toNat).toNat : Int) := by
  rw [UInt8.toNat_ofNat']
  omega

set_option maxRecDepth 4000 in
set_option maxHeartbeats 2000000 in
theorem wordBytes_any (s : ByteArray) (w : World) (hs : s.size ≤ 400) :
    Calls Try.prog 107 #[.string s] w fun e w' => e = .returned (.string ⟨(wordBs s (s.size + 1) 1).toArray⟩) ∧ Below w.heap.size w w' := by
  go_enter Try.func107, Try.ntmps107
  go_wp2_with (first | (go_at_call 84; refine (wordChar_any _ _ _ (by omega) (by omega)).mono ?_; rintro e w' ⟨rfl, hw⟩; replace hw := hw.symm; subst hw))
  go_loopw [3, 4, 5] (fun v c t wr => ∃ (acc : List UInt8) (j : Int) (n : Nat) (ao : Option Addr) (cp : Nat), v = .slice ao acc.length cp ∧ c = .int .i64 (wordC s j).1 ∧ t = .int .i64 (wordC s j).2 ∧ Hid (1 ≤ j ∧ j ≤ s.size + 1 ∧ (s.size : Int) < n + j ∧ (acc.length : Int) ≤ j) ∧
      Hid (wordBs s (s.size + 1) 1 = acc ++ wordBs s n j) ∧ Hid (wr.ownsRow w.heap.size 5 1 (.slice ao acc.length cp) acc.length (bvals acc)) ∧ Hid (Below w.heap.size w wr)) (fun _ c t _ => (2 * (s.size - intOf t)).toNat + (min 1 (intOf c + 1)).toNat)
  case atStart => exact ⟨[], 1, s.size + 1, none, 0, rfl, rfl, rfl, ⟨by omega, by omega, by omega, by simp⟩, rfl, World.ownsRow_nil _ _ _ _, Below.refl _ _⟩
  case round =>
    obtain ⟨acc, j, n, ao, cp, rfl, rfl, rfl, HJ, HE, HO, HB⟩ := hrel
    have hg := wordC_good s j
    unfold GoodC at hg
    obtain ⟨h1, h2, h3, h4⟩ := unhide HJ
    by_cases hc : (wordC s j).1 < 0
    · have HF := hide ((unhide HE).trans (by rw [wordBs_no hc, List.append_nil] : _ = acc))
      have hcv := conv_own (unhide HO)
      clear hg h1 h2 h3 h4
      go_wp2
      go_ret
      exact ⟨by rw [unhide HF]; rfl, unhide HB⟩
    · have g1 : 0 ≤ (wordC s j).1 := by omega
      have g2 : (wordC s j).1 ≤ 255 := by omega
      have g3 : j < (wordC s j).2 := by omega
      have g4 : (wordC s j).2 ≤ s.size := by omega
      clear hg hc
      obtain ⟨n, rfl⟩ : ∃ m, n = m + 1 := ⟨n - 1, by omega⟩
      have HE' := hide ((unhide HE).trans (by rw [wordBs_yes g1]))
      have hu := hide (u8_of g1 g2)
      have hg2 := wordC_good s (wordC s j).2
      unfold GoodC at hg2
      have hg2' := hide hg2
      have hal : acc.length ≤ 1000 := by omega
      have HJ' : Hid (1 ≤ (wordC s j).2 ∧ (wordC s j).2 ≤ s.size + 1 ∧ (s.size : Int) < n + (wordC s j).2 ∧ ((acc ++ [UInt8.ofNat (wordC s j).1.toNat]).length : Int) ≤ (wordC s j).2) := ⟨by omega, by omega, by omega, by simp; omega⟩
      have g5 : 0 ≤ (wordC s j).2 := by omega
      have g6 : (wordC s j).2 ≤ 1000 := by omega
      have G34 := hide (And.intro g3 g4)
      clear hg2 h1 h2 h3 h4 g3 g4
      go_wp2_with (first | (at_builtin; refine wpList_append_byte (w := w) (UInt8.ofNat (wordC s j).1.toNat) _ (unhide hu) rfl (.tmp 13) (.tmp 16) rfl _ acc rfl (unhide HO) (unhide HB) hal rfl ?_) | go_in)
      intro v' w' ho' hb'
      obtain ⟨ao2, cp2, rfl⟩ := own_shape ho'
      have HO' := hide ho'
      have HB' := hide hb'
      clear ho' hb'
      go_wp2_with (first | (go_at_call 84; refine (wordChar_any _ _ _ g5 g6).mono ?_; rintro e w' ⟨rfl, rfl⟩))
      go_roundw
      case rel => exact ⟨acc ++ [UInt8.ofNat (wordC s j).1.toNat], (wordC s j).2, n, ao2, cp2, by simp, rfl, rfl, HJ', by rw [unhide HE']; simp [Hid], by simpa using HO', HB'⟩
      case measure =>
        have hg2 := unhide hg2'
        obtain ⟨g3, g4⟩ := unhide G34
        simp only [intOf]
        omega
end Go.Proofs.Ytdofpbbahamkkaa

import Derived.Test.YtcgocmocceikdabChkC
namespace Go.Proofs.Ytcgocmocceikdab
open Go.RowKit

theorem info9 : (Try.prog.info? 9).map (fun i => (i.zero, i.size, i.bytes)) = some (some (.string ⟨#[]⟩), 1, 16) := by kernel_rfl

theorem conv_to (s : ByteArray) (w : World) : (convert 9 42 (.string s)).run Try.prog w = .ok (.slice (some ⟨w.heap.size, 0, none⟩) s.size (grownCap w s.size 0 5))
      (w.drew.alloc (.cells (bytesRow s (grownCap w s.size 0 5)) 5 ((bytesRow s (grownCap w s.size 0 5)).size, (bytesRow s (grownCap w s.size 0 5)).size + 1))) :=
  run_bytes_of_string w 9 42 5 s Try.underlying9 Try.underlying42 Try.underlying5
theorem conv_back (s : ByteArray) (w : World) (cap : Nat) (fr : Nat × Nat) : (convert 42 9 (.slice (some ⟨w.heap.size, 0, none⟩) s.size cap)).run Try.prog ((w.alloc (.cells (bytesRow s cap) 5 fr)).drew) = .ok (.string s) ((w.alloc (.cells (bytesRow s cap) 5 fr)).drew) := by
  have h := run_convert_bytes_back (P := Try.prog) ((w.alloc (.cells (bytesRow s cap) 5 fr)).drew) 42 9 5 ⟨w.heap.size, 0, none⟩ cap s.data.toList Try.underlying42 Try.underlying5 Try.underlying9 ?_
  · simpa using h
  · intro j hj
    have hadd : (⟨w.heap.size, 0, none⟩ : Addr).add j = ⟨w.heap.size, j, none⟩ := by unfold Addr.add; split <;> simp_all
    rw [hadd]
    have := World.cell?_alloc_mark w (bytesRow s cap) 5 fr j
    have h2 : ((w.alloc (.cells (bytesRow s cap) 5 fr)).drew).cell? ⟨w.heap.size, j, none⟩ = (w.alloc (.cells (bytesRow s cap) 5 fr)).cell? ⟨w.heap.size, j, none⟩ := rfl
    rw [h2, this, bytesRow_at s cap j (by simpa using hj)]
    simp

theorem conv_back2 (s : ByteArray) (w : World) (o : Obj) (cap : Nat) (fr : Nat × Nat) : (convert 42 9 (.slice (some ⟨w.heap.size + 1, 0, none⟩) s.size cap)).run Try.prog (((w.alloc o).alloc (.cells (bytesRow s cap) 5 fr)).drew) = .ok (.string s) (((w.alloc o).alloc (.cells (bytesRow s cap) 5 fr)).drew) := by
  have h := conv_back s (w.alloc o) cap fr
  rw [show (w.alloc o).heap.size = w.heap.size + 1 from by simp] at h
  exact h

theorem GrowR.rw {w : World} {lo n cp : Nat} {ao : Option Addr} {rs : List Rl} (h : GrowR w lo (.slice ao n cp) rs) (hn : 0 < rs.length) : ∃ g S, ao = some ⟨g, 0, none⟩ ∧ n = rs.length ∧ Rw w S g cp rs := by
  obtain ⟨hh, xs, h1, h2⟩ := h
  rcases h1.2 with ⟨_, hz⟩ | ⟨g, cap, cur, hv, _, hh0, hcap, hcm, hcs, htake⟩
  · omega
  · injection hv with e1 e2 e3
    subst e3
    exact ⟨g, _, e1, e2, cur, hh, xs, hh0, hcap, hcm, hcs, htake, h2⟩
theorem own_below {w w' : World} {base : Nat} {e : TypeId} {size : Nat} {v : Value} {n : Nat} {xs : List Value} (h : w.ownsRow base e size v n xs) (hb : Below w.heap.size w w') : w'.ownsRow base e size v n xs :=
  (RowIn.of_owns h).turn (S' := fun b => base ≤ b) fun b hS hz => ⟨hS, hb.block b hz⟩

theorem wpList_append_str {w wr : World} {ops : Array Oper} {rest : List Oper} {o : Oper} {a : Act} {Q : Exit → Act → World → Prop} (o1 o2 : Obj) (s : ByteArray) (hgd : o.guard = none) (sl x : Operand)
    (ho : o.op = .call { callee := .builtin .append, args := #[sl, x], argTypes := #[38, 38] }) (v : Value) (k : Nat) (xs : List Value) (hs : a.eval sl = v)
    (HO : wr.ownsRow w.heap.size 9 1 v k xs) (HB : Below w.heap.size w wr) (hk : k ≤ 1000) (hx : a.eval x = .slice (some ⟨wr.heap.size + 2, 0, none⟩) 1 1)
    (h : ∀ v' w', w'.ownsRow w.heap.size 9 1 v' (k + 1) (xs ++ [.string s]) → Below w.heap.size w w' → wpList Try.prog ops Q rest (a.put o.dst v') w') :
    wpList Try.prog ops Q (o :: rest) a ((((wr.alloc o1).alloc o2).alloc (.cells #[.string s] 9)).drew) := by
  obtain ⟨i, hi, hz, hsz, hby⟩ := info_parts info9
  have hzz := HB.size
  have hb1 : Below wr.heap.size wr ((((wr.alloc o1).alloc o2).alloc (.cells #[.string s] 9)).drew) := ((((Below.refl _ _).alloc (Nat.le_refl _) o1).alloc (by simp) o2).alloc (by simp; omega) _).drew
  have hb2 : Below w.heap.size w ((((wr.alloc o1).alloc o2).alloc (.cells #[.string s] 9)).drew) := HB.trans (hb1.mono hzz)
  have hsize : ((((wr.alloc o1).alloc o2).alloc (.cells #[.string s] 9)).drew).heap.size = wr.heap.size + 3 := by simp
  refine wpList_append_own _ hgd sl x 38 ho w.heap.size 9 i _ 1 16 Try.underlying38 hi hz hsz hby rfl (by omega) v k xs hs (own_below HO hb1) ⟨wr.heap.size + 2, 0, none⟩ 1 1 [.string s] hx rfl ?_ ?_ (by unfold maxLen; omega) (by omega) (by rw [hsize]; omega) ?_
  · intro j u hj
    have hn := heap_alloc_new ((wr.alloc o1).alloc o2) (.cells #[.string s] 9)
    rw [show ((wr.alloc o1).alloc o2).heap.size = wr.heap.size + 2 from by simp] at hn
    cases j with
    | zero =>
      simp at hj; subst hj
      show ((((wr.alloc o1).alloc o2).alloc (.cells #[.string s] 9))).cell? _ = _
      rw [show (⟨wr.heap.size + 2, 0, none⟩ : Addr).add 0 = ⟨wr.heap.size + 2, 0, none⟩ from by unfold Addr.add; split <;> simp_all]
      simp only [World.cell?, hn]
      rfl
    | succ j => simp at hj
  · intro u hu
    simp at hu; subst hu; rfl
  · intro v' w' h1 h2 _
    exact h v' w' h1 (hb2.grown h2 (by rw [hsize]; omega) (fun k hk => (HO.lt k hk).1))

set_option maxHeartbeats 2000000 in
theorem namesOf_any (w : World) (lo : Nat) (v : Value) (rs : List Rl) (hg : GrowR w lo v rs) (hn1 : rs.length ≤ 12) :
    Calls Try.prog 10 #[v] w fun e w' => ∃ v', e = .returned v' ∧ w'.ownsRow w.heap.size 9 1 v' rs.length (rs.map fun r => Value.string r.name) ∧ Below w.heap.size w w' := by
  obtain ⟨ao, cp, rfl⟩ := hg.shape
  obtain ⟨i, hi, hz, hsz, hby⟩ := info_parts info9
  have Hg := hide hg
  clear hg
  obtain ⟨wm, hmk, hom, hgm⟩ := run_make_own (P := Try.prog) w w.heap.size 38 9 i (.string ⟨#[]⟩) 1 Try.underlying38 hi hz hsz .i64 .i64 rs.length (by rw [hby]; omega) (by unfold maxLen; omega) (Nat.le_refl _)
  go_enter Try.func10, Try.ntmps10
  go_wp2_with fail
  clear hmk
  go_loopw [3, 12] (fun v i wr => ∃ k : Nat, k ≤ rs.length ∧ i = .int .i64 k ∧ Hid (wr.ownsRow w.heap.size 9 1 v k ((rs.take k).map fun r => Value.string r.name)) ∧ Hid (Below w.heap.size w wr)) (fun _ i _ => rs.length - (intOf i).toNat)
  case atStart => exact ⟨0, Nat.zero_le _, rfl, hom, (Below.refl _ _).grown hgm (Nat.le_refl _) (fun k hk => by cases hk)⟩
  case round =>
    rename_i vv _
    obtain ⟨k, hk, rfl, HO, HB⟩ := hrel
    have hzb := (unhide HB).size
    by_cases hlt2 : k < rs.length
    · have hi0 : rs[k]? = some rs[k] := List.getElem?_eq_getElem hlt2
      obtain ⟨g, S, rfl, _, hrw⟩ := (unhide Hg).rw (by omega)
      have hlt := hrw.lt
      obtain ⟨ao', n', cp', _, a0, a1, a2, a3, a4, a5, a6, a7, a8, _⟩ := (hrw.below (unhide HB)).at k _ hi0
      have hct := conv_to rs[k].name
      have hcb := conv_back2 rs[k].name wr
      go_wp2_with (first | (at_builtin; refine wpList_append_str _ _ rs[k].name rfl (.tmp 19) (.tmp 22) rfl _ k _ rfl (unhide HO) (unhide HB) (by omega) rfl ?_) | go_in)
      intro v' w' ho' hb'
      have HO' := hide ho'
      have HB' := hide hb'
      clear ho' hb' hct hcb
      go_wp2_with fail
      go_roundw
      case rel =>
        refine ⟨k + 1, by omega, by go_num, ?_, HB'⟩
        rw [List.take_succ_eq_append_getElem hlt2, List.map_append, List.map_take]
        exact HO'
      case measure => simp [intOf]; omega
    · have hkk : k = rs.length := by omega
      subst hkk
      go_wp2
      go_ret
      exact ⟨_, rfl, by have := unhide HO; rw [List.take_of_length_le (Nat.le_refl _)] at this; exact this, unhide HB⟩
end Go.Proofs.Ytcgocmocceikdab

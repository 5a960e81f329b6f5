import Derived.Test.YtdofpbbahamkkaaByt2
namespace Go.Proofs.Ytdofpbbahamkkaa
open Go.RowKit

theorem of_size (s : ByteArray) (t : Tk) (hs : s.size ≤ 400) : (t.of s).size ≤ 400 := by
  unfold Tk.of
  rw [ByteArray.size_extract]
  omega
theorem bytes_4 {s : ByteArray} {t : Tk} (h : t.k = 4) : t.bytes s = ⟨(wordBs (t.of s) ((t.of s).size + 1) 1).toArray⟩ := by unfold Tk.bytes; rw [if_pos h]
theorem bytes_5 {s : ByteArray} {t : Tk} (h : t.k = 5) : t.bytes s = ⟨(setBs (t.of s)).toArray⟩ := by unfold Tk.bytes; rw [if_neg (by omega), if_pos h]
theorem bytes_12 {s : ByteArray} {t : Tk} (h : t.k = 12) : t.bytes s = ⟨(bytesOf (fun _ => false) false).toArray⟩ := by unfold Tk.bytes; rw [if_neg (by omega), if_neg (by omega), if_pos h]
theorem bytes_no {s : ByteArray} {t : Tk} (h4 : t.k ≠ 4) (h5 : t.k ≠ 5) (h : t.k ≠ 12) : t.bytes s = ByteArray.empty := by unfold Tk.bytes; rw [if_neg h4, if_neg h5, if_neg h]
theorem tok_cells {w w' : World} {a b c : Value} (hb : Below (w.alloc (.cells #[a, b, c] 74)).heap.size (w.alloc (.cells #[a, b, c] 74)) w') : w'.cell? ⟨w.heap.size, 0, none⟩ = some a ∧ w.heap.size < w'.heap.size := by
  have h := (hb.block w.heap.size (by simp)).trans (heap_alloc_new w _)
  have hz := hb.size
  simp at hz
  exact ⟨by simp [World.cell?, h], by omega⟩

set_option maxRecDepth 4000 in
set_option maxHeartbeats 2000000 in
theorem bytes_any (w : World) (s : ByteArray) (t : Tk) (hs : s.size ≤ 400) (ht : TkOk s t) :
    Calls Try.prog 103 #[.agg #[.int .i64 t.k, .int .i64 t.from_, .int .i64 t.to], .string s] w fun e w' => e = .returned (.string (t.bytes s)) ∧ Below w.heap.size w w' := by
  have hz := (zero_of_info info256).1
  have hos := of_size s t hs
  by_cases h4 : t.k = 4
  · have b4 : (t.k == 4) = true := by simp [h4]
    have HR := hide (bytes_4 (s := s) h4)
    clear h4
    go_enter Try.func103, Try.ntmps103
    go_wp2_with fail
    go_at_call 47
    refine (of_any _ _ _ ht).mono ?_
    rintro e w1 ⟨rfl, hb1⟩
    obtain ⟨c0, hz1⟩ := tok_cells hb1
    generalize t.of s = p at *
    go_wp2_with (first | (go_at_call 107; refine (wordBytes_any _ _ hos).mono ?_; rintro e w2 ⟨rfl, hb2⟩))
    go_ret
    exact ⟨by rw [unhide HR]; rfl, (below_alloc hb1).trans (hb2.mono (below_alloc hb1).size)⟩
  · have b4 : (t.k == 4) = false := by simp [h4]
    by_cases h5 : t.k = 5
    · have b5 : (t.k == 5) = true := by simp [h5]
      have HR := hide (bytes_5 (s := s) h5)
      clear h4 h5
      go_enter Try.func103, Try.ntmps103
      go_wp2_with fail
      go_at_call 47
      refine (of_any _ _ _ ht).mono ?_
      rintro e w1 ⟨rfl, hb1⟩
      obtain ⟨c0, hz1⟩ := tok_cells hb1
      generalize t.of s = p at *
      go_wp2_with (first | (go_at_call 108; refine (setBytes_any _ _ hos).mono ?_; rintro e w2 ⟨rfl, hb2⟩))
      go_ret
      exact ⟨by rw [unhide HR]; rfl, (below_alloc hb1).trans (hb2.mono (below_alloc hb1).size)⟩
    · have b5 : (t.k == 5) = false := by simp [h5]
      by_cases h12 : t.k = 12
      · have b12 : (t.k == 12) = true := by simp [h12]
        have HR := hide (bytes_12 (s := s) h12)
        clear h4 h5 h12
        go_enter Try.func103, Try.ntmps103
        go_wp2_with fail
        go_at_call 47
        refine (of_any _ _ _ ht).mono ?_
        rintro e w1 ⟨rfl, hb1⟩
        obtain ⟨c0, hz1⟩ := tok_cells hb1
        generalize t.of s = p at *
        go_wp2_with fail
        refine wp_load rfl (run_loadAt_new w1 62 _ 256 4 Try.underlying62 (by rw [setCells_size]; exact size256)) ?_
        go_wp2_with (first | (go_at_call 109; refine (bytesThat_any _ _ _).mono ?_; rintro e w2 ⟨rfl, hb2⟩))
        go_ret
        exact ⟨by rw [unhide HR]; rfl, (below_alloc hb1).trans ((below_alloc hb2).mono (below_alloc hb1).size)⟩
      · have b12 : (t.k == 12) = false := by simp [h12]
        have HR := hide (bytes_no (s := s) h4 h5 h12)
        clear h4 h5 h12
        go_enter Try.func103, Try.ntmps103
        go_wp2_with fail
        go_at_call 47
        refine (of_any _ _ _ ht).mono ?_
        rintro e w1 ⟨rfl, hb1⟩
        obtain ⟨c0, hz1⟩ := tok_cells hb1
        generalize t.of s = p at *
        go_wp2
        go_ret
        exact ⟨by rw [unhide HR]; rfl, below_alloc hb1⟩
end Go.Proofs.Ytdofpbbahamkkaa

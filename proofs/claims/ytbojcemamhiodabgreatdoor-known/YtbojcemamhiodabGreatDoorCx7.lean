import Derived.Test.YtbojcemamhiodabGreatDoorCx6
import Derived.Test.YtbojcemamhiodabGreatDoorCats
import Derived.Deep.OwnRows
import Derived.Laws.BytesString
import Derived.Laws.IdiomStrings
namespace Go.Proofs.YtbojcemamhiodabGreatDoor
open Go.RowKit

theorem made_bools (q : Nat) : madeCells #[.bool false] q = (bls (List.replicate q false)).toArray := by
  apply Array.ext_getElem?
  intro i
  by_cases h : i < q
  · simp [madeCells, bls, h, Nat.mod_one]
  · simp [madeCells, bls, h]
theorem infoBool : (Tryz.prog.info? 4).map (fun i => (i.zero, i.size, i.bytes)) = some (some (.bool false), 1, 1) := by kernel_rfl

theorem conv_ownB {w : World} {lo : Nat} {v : Value} {l : List UInt8} (h : w.ownsRow lo 5 1 v l.length (u8s l)) : (convert 44 9 v).run Tryz.prog w = .ok (.string ⟨l.toArray⟩) w := by
  rcases h.2 with ⟨e, hz⟩ | ⟨g, cap, cur, e, _, hh, hle, _, _, ht⟩
  · have hl : l = [] := List.eq_nil_of_length_eq_zero hz
    subst hl
    subst e
    rw [run_convert_bytes_string w 44 9 5 none 0 0 Tryz.underlying44 Tryz.underlying5 Tryz.underlying9]
    simp [Conv.bytesToString]
    rfl
  · subst e
    refine run_convert_bytes_back w 44 9 5 ⟨g, 0, none⟩ cap l Tryz.underlying44 Tryz.underlying5 Tryz.underlying9 ?_
    intro j hj
    exact h.cells (g := g) rfl j _ (by simp [u8s, hj])

section
variable {S : Nat → Prop} {p nb : Nat} {tv : Value} {T : List Tm} {s : ByteArray} {N : List Int} {w : World}

theorem Cx.start (m : Int → Int → Option Int) (hM : Mt w S p nb tv T s N) (hS : ∀ b, S b → b < w.heap.size) (q : Nat) (hq : q = T.length * (s.size + 1)) :
    Cx ((w.alloc (.cells (madeCells #[.bool false] q) 4)).alloc (.cells #[.pointer (some ⟨p, 0, none⟩), .slice (some ⟨w.heap.size, 0, none⟩) q q, .slice none 0 0] 86)) S p nb (w.heap.size + 2) (w.heap.size + 1) w.heap.size tv T s m (.slice none 0 0) [] := by
  have hb : Below w.heap.size w ((w.alloc (.cells (madeCells #[.bool false] q) 4)).alloc (.cells #[.pointer (some ⟨p, 0, none⟩), .slice (some ⟨w.heap.size, 0, none⟩) q q, .slice none 0 0] 86)) := ((Below.refl _ _).alloc (Nat.le_refl _) _).alloc (by simp) _
  have hp := (Array.getElem?_eq_some_iff.1 hM.cell).1
  have hn := (Array.getElem?_eq_some_iff.1 hM.notes).1
  have hc := heap_alloc_new (w.alloc (.cells (madeCells #[.bool false] q) 4)) (.cells #[.pointer (some ⟨p, 0, none⟩), .slice (some ⟨w.heap.size, 0, none⟩) q q, .slice none 0 0] 86)
  rw [show (w.alloc (.cells (madeCells #[.bool false] q) 4)).heap.size = w.heap.size + 1 from by simp] at hc
  subst hq
  refine ⟨⟨N, hM.below hb⟩, ⟨by omega, by omega, by omega, by omega, by simp⟩, fun b h => ⟨by have := hS b h; omega, by have := hS b h; omega, by have := hS b h; omega⟩, ⟨by omega, by omega, by omega, by omega, by omega⟩, hc, ⟨List.replicate (T.length * (s.size + 1)) false, ?_, by simp, ?_⟩, World.ownsRow_nil _ _ _ _⟩
  · rw [← made_bools]
    exact heap_old (heap_alloc_new w _)
  · intro i a _ _ hx
    rw [List.getElem?_replicate] at hx
    split at hx
    · injection hx with hx; cases hx
    · cases hx

set_option maxRecDepth 4000 in
set_option maxHeartbeats 4000000 in
theorem caught_any (hM : Mt w S p nb tv T s N) (hS : ∀ b, S b → b < w.heap.size) (F0 F : Nat) (i a r : Int) (l : List Ct) (h0 : 0 ≤ a) (h1 : a ≤ s.size) (hr : matchN T s F0 i a = some r) (hne : r ≠ -1) (hl : catN T s (matchN T s F0) F i a = some l) (hb : (wrL l).length ≤ 70368744177664) :
    Calls Tryz.prog 21 #[.pointer (some ⟨p, 0, none⟩), .int .i64 i, .int .i64 a] w fun e w' => e = .returned (.string ⟨(wrL l).toArray⟩) ∧ But nb w w' := by
  have hsub := hM.sub
  have hfew := hM.few
  obtain ⟨c0, c1, c2, hlt⟩ := hM.cells
  obtain ⟨q, hq⟩ : ∃ q : Nat, q = T.length * (s.size + 1) := ⟨_, rfl⟩
  have hqb : q ≤ 6200000 := by
    rw [hq]
    have := Nat.mul_le_mul hfew (show s.size + 1 ≤ 61 by omega)
    omega
  rw [hM.len, ← hq] at c2
  have hok := catN_ok T hsub (matchN_ok T s F0) F i a l hl h0 h1
  have ho := outC_nil l hok
  have hst := Cx.start (matchN T s F0) hM hS q hq
  have HT := hide (cterm_all F0 F _ _ [] i a r l hst h0 h1 hr hne hl (fun _ => by rw [ho]; exact hb))
  have hmk := run_make_row' (P := Tryz.prog) 84 4 (.bool false) 1 Tryz.underlying84 infoBool rfl .i64 .i64 q (by omega) (by omega)
  have Ho := hide ho
  have HNL := hide hM.notes
  have hnb := (Array.getElem?_eq_some_iff.1 hM.notes).1
  clear hM hS hst hok ho hl hr hne hb hq
  go_enter Tryz.func21, Tryz.ntmps21
  go_wp2_with fail
  go_at_call 34
  refine (unhide HT).mono ?_
  rintro e w2 ⟨ov, rfl, hC2, hF2⟩
  rw [unhide Ho] at hC2
  obtain ⟨d0, d1, d2, df, hdb⟩ := hC2.cells
  have hcv := conv_ownB hC2.out
  obtain ⟨ao2, cp2, rfl, _, _⟩ := hC2.shape
  have HB : Hid (But nb w w2) := by
    have hz := hF2.size
    simp at hz
    refine ⟨hF2.os, hF2.tape, hF2.output, by omega, fun b hb1 hb2 => ?_⟩
    rw [hF2.block b (by simp; omega) hb2 (by omega) (by omega) (by simp [Value.ownBlock])]
    rw [Below.heap_alloc _ _ _ (by simp; omega), Below.heap_alloc _ _ _ hb1]
  clear hC2 hF2
  go_wp2
  go_ret
  exact ⟨rfl, unhide HB⟩
end
end Go.Proofs.YtbojcemamhiodabGreatDoor

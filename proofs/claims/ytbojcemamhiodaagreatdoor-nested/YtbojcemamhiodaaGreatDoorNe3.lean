import Derived.Test.YtbojcemamhiodaaGreatDoorNe
import Derived.Test.YtbojcemamhiodaaGreatDoorNm
import Derived.Test.YtbojcemamhiodaaGreatDoorMat
import Derived.Test.YtbojcemamhiodaaGreatDoorKps
namespace Go.Proofs.YtbojcemamhiodaaGreatDoor
open Go.RowKit

theorem nest_ask (W : World) (A B k : Nat) (r : Int) (cs : ByteArray) (hA : A ≤ 20) (hB : B ≤ 20) (h : (k = 0 ∧ A = 0 ∧ r = -1) ∨ (∃ j, j < A ∧ j < B ∧ k = A - 1 - j ∧ r = ((A + j + 1 : Nat) : Int) ∧ cs = bl (strN A (j + 1)))) :
    Calls Tryz.prog 24 #[.string textN, .string (bl (subN A B)), .int .i64 k, .int .i64 r, .string cs] W fun e w' => e = .returned (.bool true) ∧ Below W.heap.size W w' := by
  have hl := subN_len A B
  have hz := bl_size (subN A B)
  have htx : ∀ t ∈ TN, t.text.size ≤ 400 := by decide +kernel
  rcases h with ⟨rfl, rfl, rfl⟩ | ⟨j, hj1, hj2, rfl, rfl, rfl⟩
  · exact matches_any W _ _ _ 0 (-1) 5 3 TN [] (by decide) compile_nest build_nest (by decide) htx (by omega) (by omega) (by omega) (nest_end (A := 0)) (fun e => absurd rfl e)
  · have hm := nest_at (A := A) (B := B) j hj1 hj2
    have hsl := str_len A (j + 1)
    exact matches_any W _ _ _ _ _ 5 3 TN (ctN A (j + 1)) (by decide) compile_nest build_nest (by decide) htx (by omega) (by omega) (by omega) hm.1 (fun _ => ⟨hm.2, by rw [str_ct]; omega, by rw [str_ct]; rfl⟩)
end Go.Proofs.YtbojcemamhiodaaGreatDoor

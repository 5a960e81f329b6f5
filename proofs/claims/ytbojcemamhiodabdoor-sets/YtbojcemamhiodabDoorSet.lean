import Derived.Test.YtbojcemamhiodabDoorMat
import Derived.Test.YtbojcemamhiodabDoorFam8
namespace Go.Proofs.YtbojcemamhiodabDoor
open Go.RowKit

theorem mem_bytesOf (c : UInt8) (f : Nat → Bool) (b : Bool) : c ∈ bytesOf f b ↔ f c.toNat = b := by
  unfold bytesOf
  rw [List.mem_map]
  constructor
  · rintro ⟨k, hk, rfl⟩
    rw [List.mem_filter, List.mem_range] at hk
    rw [UInt8.toNat_ofNat', Nat.mod_eq_of_lt (by omega)]
    simpa using hk.2
  · intro h
    exact ⟨c.toNat, List.mem_filter.2 ⟨List.mem_range.2 c.toNat_lt, by simpa using h⟩, UInt8.ofNat_toNat⟩
theorem oneM_bl (c : UInt8) (l : List UInt8) : oneM (bl [c]) (bl l) 0 = if c ∈ l then 1 else -1 := by
  have hc : bAt (bl [c]) 0 = c.toNat := bAt_cons c []
  have key : ((List.range (bl l).size).any fun j => bAt (bl [c]) 0 == bAt (bl l) j) = true ↔ c ∈ l := by
    rw [List.any_eq_true, bl_size, hc]
    constructor
    · rintro ⟨j, hj, he⟩
      rw [List.mem_range] at hj
      rw [bAt_bl, List.getElem?_eq_getElem hj] at he
      simp only [beq_iff_eq] at he
      have : c = l[j] := UInt8.toNat_inj.1 (by omega)
      rw [this]
      exact List.getElem_mem hj
    · intro h
      obtain ⟨j, hj, he⟩ := List.getElem_of_mem h
      refine ⟨j, List.mem_range.2 hj, ?_⟩
      rw [bAt_bl, List.getElem?_eq_getElem hj, he]
      simp
  unfold oneM
  by_cases h : c ∈ l
  · rw [if_pos ⟨by rw [bl_size]; simp, key.2 h⟩, if_pos h]; rfl
  · rw [if_neg (fun x => h (key.1 x.2)), if_neg h]
theorem match_one (s u : ByteArray) : matchN [⟨1, u, []⟩] s 1 0 0 = some (oneM s u 0) := by
  rw [matchN, if_neg (by simp)]
  rfl
theorem match_inS (c : UInt8) (f : Nat → Bool) (b : Bool) (r : Int) (h : r = if f c.toNat = b then 1 else -1) : matchN [⟨1, ⟨(bytesOf f b).toArray⟩, []⟩] (bl [c]) 1 0 0 = some r := by
  rw [match_one, show (⟨(bytesOf f b).toArray⟩ : ByteArray) = bl (bytesOf f b) from rfl, oneM_bl, h]
  by_cases hh : f c.toNat = b
  · rw [if_pos ((mem_bytesOf c f b).2 hh), if_pos hh]
  · rw [if_neg (fun x => hh ((mem_bytesOf c f b).1 x)), if_neg hh]
theorem match_dots (c : UInt8) : matchN [⟨5, ByteArray.empty, [1, 3]⟩, ⟨1, allB, []⟩, ⟨1, allB, []⟩, ⟨8, ByteArray.empty, [2]⟩] (bl [c]) 4 0 0 = some 1 := by
  have h1 : oneM (bl [c]) allB 0 = 1 := by
    rw [show allB = bl (bytesOf (fun _ => false) false) from rfl, oneM_bl, if_pos ((mem_bytesOf c _ _).2 rfl)]
  have h2 : oneM (bl [c]) allB 1 = -1 := by
    unfold oneM
    rw [if_neg (by rw [bl_size]; simp)]
  simp [matchN, runN, rowM, notM, bl_size, h1, h2]
theorem catch_one (s u : ByteArray) : Cr [⟨1, u, []⟩] s 0 0 [] := Cr.one (i := 0) (by omega) (by omega) rfl
theorem catch_dots (c : UInt8) : Cr [⟨5, ByteArray.empty, [1, 3]⟩, ⟨1, allB, []⟩, ⟨1, allB, []⟩, ⟨8, ByteArray.empty, [2]⟩] (bl [c]) 0 0 [] := by
  have h1 : oneM (bl [c]) allB 0 = 1 := by
    rw [show allB = bl (bytesOf (fun _ => false) false) from rfl, oneM_bl, if_pos ((mem_bytesOf c _ _).2 rfl)]
  have h2 : oneM (bl [c]) allB 1 = -1 := by
    unfold oneM
    rw [if_neg (by rw [bl_size]; simp)]
  exact ⟨4, 4, by simp [catN, walkC, rowC, matchN, runN, rowM, notM, bl_size, h1, h2]⟩
theorem terms_S1 (v1 v2 v3 v4 : Nat) (h1 : v1 < 16) (h2 : v2 < 16) (h3 : v3 < 16) (h4 : v4 < 16) (hab : 16 * v1 + v2 ≤ 16 * v3 + v4) : buildF 4 (parseF (bl (textS1 v1 v2 v3 v4))).rules = [⟨1, ⟨(bytesOf (isIn [(((16 * v1 + v2 : Nat) : Int), ((16 * v3 + v4 : Nat) : Int))]) true).toArray⟩, []⟩] := by
  rw [parse_S1 v1 v2 v3 v4 h1 h2 h3 h4 hab]
  exact build_set _
theorem terms_S2 (v1 v2 v3 v4 : Nat) (h1 : v1 < 16) (h2 : v2 < 16) (h3 : v3 < 16) (h4 : v4 < 16) (hab : 16 * v1 + v2 ≤ 16 * v3 + v4) : buildF 4 (parseF (bl (textS2 v1 v2 v3 v4))).rules = [⟨1, ⟨(bytesOf (isIn [(((16 * v1 + v2 : Nat) : Int), ((16 * v3 + v4 : Nat) : Int))]) false).toArray⟩, []⟩] := by
  rw [parse_S2 v1 v2 v3 v4 h1 h2 h3 h4 hab]
  exact build_set _
theorem terms_D : buildF 4 (parseF (bl textD)).rules = [⟨5, ByteArray.empty, [1, 3]⟩, ⟨1, allB, []⟩, ⟨1, allB, []⟩, ⟨8, ByteArray.empty, [2]⟩] := by
  rw [parse_dots]
  exact build_dots _ _
theorem bytesOf_size (f : Nat → Bool) (b : Bool) : (⟨(bytesOf f b).toArray⟩ : ByteArray).size ≤ 400 := by
  show (bytesOf f b).toArray.size ≤ 400
  rw [List.size_toArray]
  unfold bytesOf
  rw [List.length_map]
  have := List.length_filter_le (fun c => f c == b) (List.range 256)
  rw [List.length_range] at this
  omega
/-- the three asks -/
theorem set_in (w : World) (v1 v2 v3 v4 : Nat) (h1 : v1 < 16) (h2 : v2 < 16) (h3 : v3 < 16) (h4 : v4 < 16) (hab : 16 * v1 + v2 ≤ 16 * v3 + v4) (c : UInt8) (r : Int) (hr : r = if 16 * v1 + v2 ≤ c.toNat ∧ c.toNat ≤ 16 * v3 + v4 then 1 else -1) :
    Calls Tryd.prog 4 #[.string (bl (textS1 v1 v2 v3 v4)), .string (bl [c]), .int .i64 0, .int .i64 r, .string ⟨#[]⟩] w fun e w' => e = .returned (.bool true) ∧ Below w.heap.size w w' := by
  refine matches_any w _ _ _ 0 r 3 3 _ [] (by rw [bl_size]; show 16 ≤ 400; omega) (compile_S1 v1 v2 v3 v4 h1 h2 h3 h4 hab) (terms_S1 v1 v2 v3 v4 h1 h2 h3 h4 hab) (by simp) ?_ (by rw [bl_size]; simp) (by omega) (by rw [bl_size]; simp) ⟨1, match_inS c _ true r ?_⟩ (fun _ => ⟨catch_one _ _, by simp [wrL], rfl⟩)
  · intro t ht
    rw [List.mem_singleton] at ht
    subst ht
    exact bytesOf_size _ _
  · rw [hr]
    congr 1
    simp [isIn]
    omega
theorem set_out (w : World) (v1 v2 v3 v4 : Nat) (h1 : v1 < 16) (h2 : v2 < 16) (h3 : v3 < 16) (h4 : v4 < 16) (hab : 16 * v1 + v2 ≤ 16 * v3 + v4) (c : UInt8) (r : Int) (hr : r = if 16 * v1 + v2 ≤ c.toNat ∧ c.toNat ≤ 16 * v3 + v4 then -1 else 1) :
    Calls Tryd.prog 4 #[.string (bl (textS2 v1 v2 v3 v4)), .string (bl [c]), .int .i64 0, .int .i64 r, .string ⟨#[]⟩] w fun e w' => e = .returned (.bool true) ∧ Below w.heap.size w w' := by
  refine matches_any w _ _ _ 0 r 3 3 _ [] (by rw [bl_size]; show 17 ≤ 400; omega) (compile_S2 v1 v2 v3 v4 h1 h2 h3 h4 hab) (terms_S2 v1 v2 v3 v4 h1 h2 h3 h4 hab) (by simp) ?_ (by rw [bl_size]; simp) (by omega) (by rw [bl_size]; simp) ⟨1, match_inS c _ false r ?_⟩ (fun _ => ⟨catch_one _ _, by simp [wrL], rfl⟩)
  · intro t ht
    rw [List.mem_singleton] at ht
    subst ht
    exact bytesOf_size _ _
  · rw [hr]
    by_cases h : 16 * v1 + v2 ≤ c.toNat ∧ c.toNat ≤ 16 * v3 + v4
    · rw [if_pos h, if_neg]
      simp [isIn]
      omega
    · rw [if_neg h, if_pos]
      simp [isIn]
      omega
theorem set_dots (w : World) (c : UInt8) :
    Calls Tryd.prog 4 #[.string (bl textD), .string (bl [c]), .int .i64 0, .int .i64 1, .string ⟨#[]⟩] w fun e w' => e = .returned (.bool true) ∧ Below w.heap.size w w' := by
  refine matches_any w _ _ _ 0 1 3 3 _ [] (by rw [bl_size]; show 9 ≤ 400; omega) compile_dots terms_D (by simp) ?_ (by rw [bl_size]; simp) (by omega) (by rw [bl_size]; simp) ⟨4, match_dots c⟩ (fun _ => ⟨catch_dots c, by simp [wrL], rfl⟩)
  intro t ht
  have ha : allB.size ≤ 400 := bytesOf_size _ _
  simp only [List.mem_cons, List.not_mem_nil, or_false] at ht
  rcases ht with rfl | rfl | rfl | rfl
  · simp
  · exact ha
  · exact ha
  · simp
end Go.Proofs.YtbojcemamhiodabDoor

import Derived.Test.YtdofpbbahamkkaaChk6
import Derived.Deep.LoopGhost
namespace Go.Proofs.Ytdofpbbahamkkaa
open Go.RowKit

def setE (rs : List Rl) (i : Nat) : List Rl := rs.modify i fun r => { r with empty := true }
def setB (rs : List Rl) (i : Nat) (b : Int) : List Rl := rs.modify i fun r => { r with begins := b }

theorem Cells8.setE {K : Value → List Nd → Prop} : ∀ {xs : List Value} {rs : List Rl}, Cells8 K xs rs → ∀ (i : Nat), i < rs.length → Cells8 K (xs.set (i * 8 + 6) (.bool true)) (setE rs i)
  | _, [], _, i, h => by simp at h
  | _, t :: ts, ⟨kv, rest, h1, h2, h3⟩, 0, _ => by
    refine ⟨kv, rest, ?_, h2, h3⟩
    rw [h1]; rfl
  | _, t :: ts, ⟨kv, rest, h1, h2, h3⟩, i + 1, h => by
    have := Cells8.setE h3 i (by simpa using h)
    refine ⟨kv, rest.set (i * 8 + 6) (.bool true), ?_, h2, this⟩
    rw [h1, List.set_append_right _ _ (by simp [Rl.cs]; omega)]
    congr 2
    simp [Rl.cs]; omega
theorem Cells8.setB {K : Value → List Nd → Prop} (b : Int) : ∀ {xs : List Value} {rs : List Rl}, Cells8 K xs rs → ∀ (i : Nat), i < rs.length → Cells8 K (xs.set (i * 8 + 7) (.int .i64 b)) (setB rs i b)
  | _, [], _, i, h => by simp at h
  | _, t :: ts, ⟨kv, rest, h1, h2, h3⟩, 0, _ => by
    refine ⟨kv, rest, ?_, h2, h3⟩
    rw [h1]; rfl
  | _, t :: ts, ⟨kv, rest, h1, h2, h3⟩, i + 1, h => by
    have := Cells8.setB b h3 i (by simpa using h)
    refine ⟨kv, rest.set (i * 8 + 7) (.int .i64 b), ?_, h2, this⟩
    rw [h1, List.set_append_right _ _ (by simp [Rl.cs]; omega)]
    congr 2
    simp [Rl.cs]; omega

theorem Ck.store {w : World} {S : Nat → Prop} {c g cap : Nat} {rs rs' : List Rl} (h : Ck w S c g cap rs) (hS : ∀ b, S b → b ≠ g) (hcg : c ≠ g) (o : Nat) (v : Value) (hl : rs'.length = rs.length)
    (hc : ∀ K xs, Cells8 K xs rs → Cells8 K (xs.set o v) rs') : Ck (w.setCell ⟨g, o, none⟩ v) S c g cap rs' := by
  obtain ⟨h1, ⟨cur, n, xs, k1, k2, k3, k4, k5, k6⟩, h3⟩ := h
  refine ⟨?_, ⟨cur.setIfInBounds o v, n, xs.set o v, ?_, by omega, k3, by simpa using k4, ?_, ?_⟩, by omega⟩
  · rw [Below.heap_setCell _ _ _ _ hcg, h1, hl]
  · simp [World.setCell, Array.getElem?_modify, k1]
  · rw [hl]
    simp only [Array.toList_setIfInBounds]
    rw [List.take_set, k5]
  · exact Cells8.imp (fun _ _ k => k.turn fun b hb _ => ⟨hb, Below.heap_setCell _ _ _ _ (hS b hb)⟩) (hc _ _ k6)

theorem setE_length (rs : List Rl) (i : Nat) : (setE rs i).length = rs.length := by simp [setE]
theorem setB_length (rs : List Rl) (i : Nat) (b : Int) : (setB rs i b).length = rs.length := by simp [setB]
theorem Ck.setE {w : World} {S : Nat → Prop} {c g cap : Nat} {rs : List Rl} (h : Ck w S c g cap rs) (hS : ∀ b, S b → b ≠ g) (hcg : c ≠ g) (i : Nat) (hi : i < rs.length) : Ck (w.setCell ⟨g, i * 8 + 6, none⟩ (.bool true)) S c g cap (setE rs i) :=
  h.store hS hcg _ _ (setE_length _ _) fun _ _ k => k.setE i hi
theorem Ck.setB {w : World} {S : Nat → Prop} {c g cap : Nat} {rs : List Rl} (h : Ck w S c g cap rs) (hS : ∀ b, S b → b ≠ g) (hcg : c ≠ g) (i : Nat) (b : Int) (hi : i < rs.length) : Ck (w.setCell ⟨g, i * 8 + 7, none⟩ (.int .i64 b)) S c g cap (setB rs i b) :=
  h.store hS hcg _ _ (setB_length _ _ _) fun _ _ k => k.setB b i hi

theorem DeepF.setE {F : Nat} : ∀ {rs : List Rl}, DeepF F rs → ∀ i, DeepF F (setE rs i)
  | [], _, i => by simp [DeepF, Go.Proofs.Ytdofpbbahamkkaa.setE]
  | r :: rs, h, 0 => by
    intro x hx
    simp [Go.Proofs.Ytdofpbbahamkkaa.setE] at hx
    rcases hx with rfl | hx
    · exact h r (by simp)
    · exact h x (by simp [hx])
  | r :: rs, h, i + 1 => by
    intro x hx
    simp [Go.Proofs.Ytdofpbbahamkkaa.setE] at hx
    rcases hx with rfl | hx
    · exact h x (by simp)
    · exact DeepF.setE (fun y hy => h y (by simp [hy])) i x hx
theorem DeepF.setB {F : Nat} (b : Int) : ∀ {rs : List Rl}, DeepF F rs → ∀ i, DeepF F (setB rs i b)
  | [], _, i => by simp [DeepF, Go.Proofs.Ytdofpbbahamkkaa.setB]
  | r :: rs, h, 0 => by
    intro x hx
    simp [Go.Proofs.Ytdofpbbahamkkaa.setB] at hx
    rcases hx with rfl | hx
    · exact h r (by simp)
    · exact h x (by simp [hx])
  | r :: rs, h, i + 1 => by
    intro x hx
    simp [Go.Proofs.Ytdofpbbahamkkaa.setB] at hx
    rcases hx with rfl | hx
    · exact h x (by simp)
    · exact DeepF.setB b (fun y hy => h y (by simp [hy])) i x hx

/-- one round of findEmpty: n rules more, from rule i on -/
def roundE (F : Nat) : Nat → Nat → List Rl → Bool → List Rl × Bool
  | 0, _, rs, m => (rs, m)
  | n + 1, i, rs, m =>
    match rs[i]? with
    | some r => if (mayE rs (F + 1) r.body && !r.empty) = true then roundE F n (i + 1) (setE rs i) true else roundE F n (i + 1) rs m
    | none => roundE F n (i + 1) rs m
def fixE (F : Nat) : Nat → List Rl → List Rl
  | 0, rs => rs
  | k + 1, rs => if (roundE F rs.length 0 rs false).2 = true then fixE F k (roundE F rs.length 0 rs false).1 else (roundE F rs.length 0 rs false).1

/-- how many rules are not yet said to match nothing -/
def open_ : List Rl → Nat
  | [] => 0
  | r :: rs => (if r.empty then 0 else 1) + open_ rs
theorem open_set : ∀ (rs : List Rl) (i : Nat) (r : Rl), rs[i]? = some r → r.empty = false → open_ (setE rs i) + 1 = open_ rs
  | [], i, r, h, _ => by simp at h
  | t :: ts, 0, r, h, he => by simp at h; subst h; simp [setE, open_, he]; omega
  | t :: ts, i + 1, r, h, he => by
    have := open_set ts i r (by simpa using h) he
    simp only [setE] at this
    simp [setE, open_]; omega
theorem roundE_open (F : Nat) : ∀ (n i : Nat) (rs : List Rl) (m : Bool), open_ (roundE F n i rs m).1 ≤ open_ rs ∧ ((roundE F n i rs m).2 = true → m = true ∨ open_ (roundE F n i rs m).1 < open_ rs)
  | 0, i, rs, m => ⟨Nat.le_refl _, fun h => .inl h⟩
  | n + 1, i, rs, m => by
    unfold roundE
    split
    · rename_i r hr
      split
      · rename_i hm
        simp at hm
        have h1 := roundE_open F n (i + 1) (setE rs i) true
        have h2 := open_set rs i r hr (by simp [hm.2])
        exact ⟨by omega, fun _ => .inr (by omega)⟩
      · exact roundE_open F n (i + 1) rs m
    · exact roundE_open F n (i + 1) rs m
theorem open_le (rs : List Rl) : open_ rs ≤ rs.length := by
  induction rs with
  | nil => simp [open_]
  | cons r rs ih => simp [open_]; split <;> omega
end Go.Proofs.Ytdofpbbahamkkaa

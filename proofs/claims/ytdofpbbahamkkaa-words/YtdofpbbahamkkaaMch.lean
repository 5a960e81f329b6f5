import Derived.Test.YtdofpbbahamkkaaTrm
namespace Go.Proofs.Ytdofpbbahamkkaa

def wordM (s u : ByteArray) (i : Int) : Int := if ((List.range u.size).all fun j => bAt s (i + j) == bAt u j) = true then i + u.size else -1
def oneM (s u : ByteArray) (i : Int) : Int := if i < s.size ∧ ((List.range u.size).any fun j => bAt s i == bAt u j) = true then i + 1 else -1

section
variable (m : Int → Int → Option Int)
def rowM : List Int → Int → Option Int
  | [], a => some a
  | i :: l, a => (m i a).bind fun r => if r = -1 then some (-1) else rowM l r
def choiceM : List Int → Int → Option Int
  | [], _ => some (-1)
  | i :: l, a => (m i a).bind fun r => if r = -1 then choiceM l a else some r
def andM (l : List Int) (a : Int) : Option Int := (rowM m l a).bind fun r => if r = -1 then some (-1) else some a
def notM (l : List Int) (a : Int) : Option Int := (rowM m l a).bind fun r => if r = -1 then some a else some (-1)
def starM (l : List Int) : Nat → Int → Option Int
  | 0, _ => none
  | n + 1, a => (rowM m l a).bind fun r => if a < r then starM l n r else some a
def plusM (l : List Int) (n : Nat) (a : Int) : Option Int := (rowM m l a).bind fun r => if r = -1 then some (-1) else starM m l n r
def queryM (l : List Int) (a : Int) : Option Int := (rowM m l a).bind fun r => if r = -1 then some a else some r
def runN (s : ByteArray) (n : Nat) (t : Tm) (a : Int) : Option Int :=
  if t.kind = 0 then some (wordM s t.text a) else
  if t.kind = 1 then some (oneM s t.text a) else
  if t.kind = 3 then some a else
  if t.kind = 2 ∨ t.kind = 4 ∨ t.kind = 5 then rowM m t.kids a else
  if t.kind = 6 then choiceM m t.kids a else
  if t.kind = 7 then andM m t.kids a else
  if t.kind = 8 then notM m t.kids a else
  if t.kind = 9 then starM m t.kids n a else
  if t.kind = 10 then plusM m t.kids n a else
  if t.kind = 11 then queryM m t.kids a else some (-1)
end
/-- what term i does at place a: up to where, -1: it fails; none: F is too small -/
def matchN (T : List Tm) (s : ByteArray) : Nat → Int → Int → Option Int
  | 0, _, _ => none
  | F + 1, i, a => if i < 0 ∨ (T.length : Int) ≤ i ∨ a < 0 ∨ (s.size : Int) < a then some (-1) else
    match T[i.toNat]? with
    | none => some (-1)
    | some t => runN (matchN T s F) s (s.size + 2) t a

section
variable {m m' : Int → Int → Option Int}
theorem bind_le {o o' : Option Int} {f f' : Int → Option Int} {r : Int} (ho : ∀ x, o = some x → o' = some x) (hf : ∀ x, f x = some r → f' x = some r) (h : o.bind f = some r) : o'.bind f' = some r := by
  cases ho1 : o with
  | none => rw [ho1] at h; cases h
  | some x =>
    rw [ho1] at h
    rw [ho x ho1]
    exact hf x h
theorem rowM_le (hm : ∀ i a r, m i a = some r → m' i a = some r) : ∀ (l : List Int) (a r : Int), rowM m l a = some r → rowM m' l a = some r
  | [], a, r, h => h
  | i :: l, a, r, h => by
    refine bind_le (fun x => hm i a x) (fun x hx => ?_) h
    split at hx
    · rename_i he; rw [if_pos he]; exact hx
    · rename_i he; rw [if_neg he]; exact rowM_le hm l x r hx
theorem choiceM_le (hm : ∀ i a r, m i a = some r → m' i a = some r) : ∀ (l : List Int) (a r : Int), choiceM m l a = some r → choiceM m' l a = some r
  | [], a, r, h => h
  | i :: l, a, r, h => by
    refine bind_le (fun x => hm i a x) (fun x hx => ?_) h
    split at hx
    · rename_i he; rw [if_pos he]; exact choiceM_le hm l a r hx
    · rename_i he; rw [if_neg he]; exact hx
theorem starM_le (hm : ∀ i a r, m i a = some r → m' i a = some r) (l : List Int) : ∀ (n : Nat) (a r : Int), starM m l n a = some r → starM m' l n a = some r
  | 0, a, r, h => by cases h
  | n + 1, a, r, h => by
    refine bind_le (fun x => rowM_le hm l a x) (fun x hx => ?_) h
    split at hx
    · rename_i he; rw [if_pos he]; exact starM_le hm l n x r hx
    · rename_i he; rw [if_neg he]; exact hx
theorem runN_le (hm : ∀ i a r, m i a = some r → m' i a = some r) (s : ByteArray) (n : Nat) (t : Tm) (a r : Int) (h : runN m s n t a = some r) : runN m' s n t a = some r := by
  unfold runN at *
  repeat' (split at h <;> rename_i hc <;> first | rw [if_pos hc] | rw [if_neg hc])
  all_goals first
    | exact h
    | exact rowM_le hm _ _ _ h
    | exact choiceM_le hm _ _ _ h
    | exact starM_le hm _ _ _ _ h
    | exact bind_le (fun x => rowM_le hm _ _ x) (fun x hx => hx) h
    | (refine bind_le (fun x => rowM_le hm _ _ x) (fun x hx => ?_) h
       split at hx
       · rename_i he; rw [if_pos he]; exact hx
       · rename_i he; rw [if_neg he]; exact starM_le hm _ _ _ _ hx)
end
theorem matchN_succ (T : List Tm) (s : ByteArray) : ∀ (F : Nat) (i a r : Int), matchN T s F i a = some r → matchN T s (F + 1) i a = some r
  | 0, i, a, r, h => by cases h
  | F + 1, i, a, r, h => by
    rw [matchN] at h ⊢
    split at h
    · rename_i hc; rw [if_pos hc]; exact h
    · rename_i hc
      rw [if_neg hc]
      cases ht : T[i.toNat]? with
      | none => rw [ht] at h; exact h
      | some t => rw [ht] at h; exact runN_le (matchN_succ T s F) s _ t a r h
theorem matchN_mono (T : List Tm) (s : ByteArray) {F F' : Nat} (hF : F ≤ F') {i a r : Int} (h : matchN T s F i a = some r) : matchN T s F' i a = some r := by
  induction hF with
  | refl => exact h
  | step _ ih => exact matchN_succ T s _ i a r ih
theorem matchN_det (T : List Tm) (s : ByteArray) {F F' : Nat} {i a r r' : Int} (h : matchN T s F i a = some r) (h' : matchN T s F' i a = some r') : r = r' := by
  have h1 := matchN_mono T s (Nat.le_max_left F F') h
  have h2 := matchN_mono T s (Nat.le_max_right F F') h'
  rw [h1] at h2
  injection h2

/-- an answer: it fails, or goes up to a place no less -/
def Ok (s : ByteArray) (a r : Int) : Prop := r = -1 ∨ (a ≤ r ∧ r ≤ s.size)
theorem wordM_ok (s u : ByteArray) (a : Int) (h : a ≤ s.size) : Ok s a (wordM s u a) := by
  unfold wordM Ok
  split
  · rename_i hall
    by_cases hu : u.size = 0
    · exact .inr ⟨by omega, by omega⟩
    · have h1 := List.all_eq_true.1 hall (u.size - 1) (by simp; omega)
      simp only [beq_iff_eq] at h1
      have h2 : 0 ≤ bAt u ((u.size - 1 : Nat) : Int) := by
        unfold bAt
        rw [dif_pos (by omega)]
        omega
      rw [← h1] at h2
      have h3 := bAt_in h2
      exact .inr ⟨by omega, by omega⟩
  · exact .inl rfl
theorem oneM_ok (s u : ByteArray) (a : Int) : Ok s a (oneM s u a) := by
  unfold oneM Ok
  split
  · rename_i h; exact .inr ⟨by omega, by omega⟩
  · exact .inl rfl
section
variable {s : ByteArray} {m : Int → Int → Option Int} (hm : ∀ i a r, m i a = some r → 0 ≤ a → a ≤ s.size → Ok s a r)
include hm
theorem rowM_ok : ∀ (l : List Int) (a r : Int), rowM m l a = some r → 0 ≤ a → a ≤ s.size → Ok s a r
  | [], a, r, h, _, h1 => by injection h with h; exact .inr ⟨by omega, by omega⟩
  | i :: l, a, r, h, h0, h1 => by
    unfold rowM at h
    cases hx : m i a with
    | none => rw [hx] at h; cases h
    | some x =>
      rw [hx] at h
      have hx' := hm i a x hx h0 h1
      simp only [Option.bind_some] at h
      split at h
      · injection h with h; exact .inl h.symm
      · rename_i he
        rcases hx' with e | e
        · exact absurd e he
        · have := rowM_ok l x r h (by omega) e.2
          unfold Ok at *
          omega
theorem choiceM_ok : ∀ (l : List Int) (a r : Int), choiceM m l a = some r → 0 ≤ a → a ≤ s.size → Ok s a r
  | [], a, r, h, _, h1 => by injection h with h; exact .inl h.symm
  | i :: l, a, r, h, h0, h1 => by
    unfold choiceM at h
    cases hx : m i a with
    | none => rw [hx] at h; cases h
    | some x =>
      rw [hx] at h
      simp only [Option.bind_some] at h
      split at h
      · exact choiceM_ok l a r h h0 h1
      · injection h with h
        subst h
        exact hm i a x hx h0 h1
theorem starM_ok (l : List Int) : ∀ (n : Nat) (a r : Int), starM m l n a = some r → 0 ≤ a → a ≤ s.size → Ok s a r
  | 0, a, r, h, _, _ => by cases h
  | n + 1, a, r, h, h0, h1 => by
    unfold starM at h
    cases hx : rowM m l a with
    | none => rw [hx] at h; cases h
    | some x =>
      rw [hx] at h
      have hx' := rowM_ok hm l a x hx h0 h1
      simp only [Option.bind_some] at h
      split at h
      · rename_i he
        rcases hx' with e | e
        · omega
        · have := starM_ok l n x r h (by omega) e.2
          unfold Ok at *
          omega
      · injection h with h
        exact .inr ⟨by omega, by omega⟩
end
theorem matchN_ok (T : List Tm) (s : ByteArray) : ∀ (F : Nat) (i a r : Int), matchN T s F i a = some r → 0 ≤ a → a ≤ s.size → Ok s a r
  | 0, i, a, r, h, _, _ => by cases h
  | F + 1, i, a, r, h, h0, h1 => by
    have ih := matchN_ok T s F
    rw [matchN] at h
    split at h
    · injection h with h; exact .inl h.symm
    · cases ht : T[i.toNat]? with
      | none => rw [ht] at h; injection h with h; exact .inl h.symm
      | some t =>
        rw [ht] at h
        dsimp only at h
        unfold runN at h
        repeat' (split at h)
        · injection h with h; subst h; exact wordM_ok s t.text a h1
        · injection h with h; subst h; exact oneM_ok s t.text a
        · injection h with h; exact .inr ⟨by omega, by omega⟩
        · exact rowM_ok ih _ _ _ h h0 h1
        · exact choiceM_ok ih _ _ _ h h0 h1
        · unfold andM at h
          cases hx : rowM (matchN T s F) t.kids a with
          | none => rw [hx] at h; cases h
          | some x =>
            rw [hx] at h
            simp only [Option.bind_some] at h
            split at h <;> injection h with h
            · exact .inl h.symm
            · exact .inr ⟨by omega, by omega⟩
        · unfold notM at h
          cases hx : rowM (matchN T s F) t.kids a with
          | none => rw [hx] at h; cases h
          | some x =>
            rw [hx] at h
            simp only [Option.bind_some] at h
            split at h <;> injection h with h
            · exact .inr ⟨by omega, by omega⟩
            · exact .inl h.symm
        · exact starM_ok ih _ _ _ _ h h0 h1
        · unfold plusM at h
          cases hx : rowM (matchN T s F) t.kids a with
          | none => rw [hx] at h; cases h
          | some x =>
            rw [hx] at h
            have hx' := rowM_ok ih _ _ _ hx h0 h1
            simp only [Option.bind_some] at h
            split at h
            · injection h with h; exact .inl h.symm
            · rename_i he
              rcases hx' with e | e
              · exact absurd e he
              · have := starM_ok ih _ _ x r h (by omega) e.2
                unfold Ok at *
                omega
        · unfold queryM at h
          cases hx : rowM (matchN T s F) t.kids a with
          | none => rw [hx] at h; cases h
          | some x =>
            rw [hx] at h
            have hx' := rowM_ok ih _ _ _ hx h0 h1
            simp only [Option.bind_some] at h
            split at h
            · injection h with h; exact .inr ⟨by omega, by omega⟩
            · injection h with h; subst h; exact hx'
        · injection h with h; exact .inl h.symm
end Go.Proofs.Ytdofpbbahamkkaa

import Derived.Test.YtbojcemamhiodabDoorTrm
namespace Go.Proofs.YtbojcemamhiodabDoor

def wordM (s u : ByteArray) (i : Int) : Int := if ((List.range u.size).all fun j => bAt s (i + j) == bAt u j) = true then i + u.size else -1
def oneM (s u : ByteArray) (i : Int) : Int := if i < s.size ∧ ((List.range u.size).any fun j => bAt s i == bAt u j) = true then i + 1 else -1

section
variable (m : Int → Int → Option Int)
def rowM : List Int → Int → Option Int
  | [], a => some a
  | i :: l, a => (m i a).bind fun r => if r = -1 then some (-1) else rowM l r
def choiceM : List Int → Int → Option Int
  | [], _ => some (-1)
  | i :: l, a => (m i a).bind fun r => if r = -1 then choiceM l a else some r
def andM (l : List Int) (a : Int) : Option Int := (rowM m l a).bind fun r => if r = -1 then some (-1) else some a
def notM (l : List Int) (a : Int) : Option Int := (rowM m l a).bind fun r => if r = -1 then some a else some (-1)
def starM (l : List Int) : Nat → Int → Option Int
  | 0, _ => none
  | n + 1, a => (rowM m l a).bind fun r => if a < r then starM l n r else some a
def plusM (l : List Int) (n : Nat) (a : Int) : Option Int := (rowM m l a).bind fun r => if r = -1 then some (-1) else starM m l n r
def queryM (l : List Int) (a : Int) : Option Int := (rowM m l a).bind fun r => if r = -1 then some a else some r
def runN (s : ByteArray) (n : Nat) (t : Tm) (a : Int) : Option Int :=
  if t.kind = 0 then some (wordM s t.text a) else
  if t.kind = 1 then some (oneM s t.text a) else
  if t.kind = 3 then some a else
  if t.kind = 2 ∨ t.kind = 4 ∨ t.kind = 5 then rowM m t.kids a else
  if t.kind = 6 then choiceM m t.kids a else
  if t.kind = 7 then andM m t.kids a else
  if t.kind = 8 then notM m t.kids a else
  if t.kind = 9 then starM m t.kids n a else
  if t.kind = 10 then plusM m t.kids n a else
  if t.kind = 11 then queryM m t.kids a else some (-1)
end
/-- what term i does at place a: up to where, -1: it fails; none: F is too small -/
def matchN (T : List Tm) (s : ByteArray) : Nat → Int → Int → Option Int
  | 0, _, _ => none
  | F + 1, i, a => if i < 0 ∨ (T.length : Int) ≤ i ∨ a < 0 ∨ (s.size : Int) < a then some (-1) else
    match T[i.toNat]? with
    | none => some (-1)
    | some t => runN (matchN T s F) s (s.size + 2) t a

section
variable {m m' : Int → Int → Option Int}
theorem bind_le {o o' : Option Int} {f f' : Int → Option Int} {r : Int} (ho : ∀ x, o = some x → o' = some x) (hf : ∀ x, f x = some r → f' x = some r) (h : o.bind f = some r) : o'.bind f' = some r := by
  cases ho1 : o with
  | none => rw [ho1] at h; cases h
  | some x =>
    rw [ho1] at h
    rw [ho x ho1]
    exact hf x h
theorem rowM_le (hm : ∀ i a r, m i a = some r → m' i a = some r) : ∀ (l : List Int) (a r : Int), rowM m l a = some r → rowM m' l a = some r
  | [], a, r, h => h
  | i :: l, a, r, h => by
    refine bind_le (fun x => hm i a x) (fun x hx => ?_) h
    split at hx
    · rename_i he; rw [if_pos he]; exact hx
    · rename_i he; rw [if_neg he]; exact rowM_le hm l x r hx
theorem choiceM_le (hm : ∀ i a r, m i a = some r → m' i a = some r) : ∀ (l : List Int) (a r : Int), choiceM m l a = some r → choiceM m' l a = some r
  | [], a, r, h => h
  | i :: l, a, r, h => by
    refine bind_le (fun x => hm i a x) (fun x hx => ?_) h
    split at hx
    · rename_i he; rw [if_pos he]; exact choiceM_le hm l a r hx
    · rename_i he; rw [if_neg he]; exact hx
theorem starM_le (hm : ∀ i a r, m i a = some r → m' i a = some r) (l : List Int) : ∀ (n : Nat) (a r : Int), starM m l n a = some r → starM m' l n a = some r
  | 0, a, r, h => by cases h
  | n + 1, a, r, h => by
    refine bind_le (fun x => rowM_le hm l a x) (fun x hx => ?_) h
    split at hx
    · rename_i he; rw [if_pos he]; exact starM_le hm l n x r hx
    · rename_i he; rw [if_neg he]; exact hx
theorem runN_le (hm : ∀ i a r, m i a = some r → m' i a = some r) (s : ByteArray) (n : Nat) (t : Tm) (a r : Int) (h : runN m s n t a = some r) : runN m' s n t a = some r := by
  unfold runN at *
  repeat' (split at h <;> rename_i hc <;> first | rw [if_pos hc] | rw [if_neg hc])
  all_goals first
    | exact h
    | exact rowM_le hm _ _ _ h
    | exact choiceM_le hm _ _ _ h
    | exact starM_le hm _ _ _ _ h
    | exact bind_le (fun x => rowM_le hm _ _ x) (fun x hx => hx) h
    | (refine bind_le (fun x => rowM_le hm _ _ x) (fun x hx => ?_) h
       split at hx
       · rename_i he; rw [if_pos he]; exact hx
       · rename_i he; rw [if_neg he]; exact starM_le hm _ _ _ _ hx)
end
theorem matchN_succ (T : List Tm) (s : ByteArray) : ∀ (F : Nat) (i a r : Int), matchN T s F i a = some r → matchN T s (F + 1) i a = some r
  | 0, i, a, r, h => by cases h
  | F + 1, i, a, r, h => by
    rw [matchN] at h ⊢
    split at h
    · rename_i hc; rw [if_pos hc]; exact h
    · rename_i hc
      rw [if_neg hc]
      cases ht : T[i.toNat]? with
      | none => rw [ht] at h; exact h
      | some t => rw [ht] at h; exact runN_le (matchN_succ T s F) s _ t a r h
theorem matchN_mono (T : List Tm) (s : ByteArray) {F F' : Nat} (hF : F ≤ F') {i a r : Int} (h : matchN T s F i a = some r) : matchN T s F' i a = some r := by
  induction hF with
  | refl => exact h
  | step _ ih => exact matchN_succ T s _ i a r ih
theorem matchN_det (T : List Tm) (s : ByteArray) {F F' : Nat} {i a r r' : Int} (h : matchN T s F i a = some r) (h' : matchN T s F' i a = some r') : r = r' := by
  have h1 := matchN_mono T s (Nat.le_max_left F F') h
  have h2 := matchN_mono T s (Nat.le_max_right F F') h'
  rw [h1] at h2
  injection h2

/-- an answer: it fails, or goes up to a place no less -/
def Ok (s : ByteArray) (a r : Int) : Prop := r = -1 ∨ (a ≤ r ∧ r ≤ s.size)
theorem wordM_ok (s u : ByteArray) (a : Int) (h : a ≤ s.size) : Ok s a (wordM s u a) := by
  unfold wordM Ok
  split
  · rename_i hall
    by_cases hu : u.size = 0
    · exact .inr ⟨by omega, by omega⟩
    · have h1 := List.all_eq_true.1 hall (u.size - 1) (by simp; omega)
      simp only [beq_iff_eq] at h1
      have h2 : 0 ≤ bAt u ((u.size - 1 : Nat) : Int) := by
        unfold bAt
        rw [dif_pos (by omega)]
        omega
      rw [← h1] at h2
      have h3 := bAt_in h2
      exact .inr ⟨by omega, by omega⟩
  · exact .inl rfl
theorem oneM_ok (s u : ByteArray) (a : Int) : Ok s a (oneM s u a) := by
  unfold oneM Ok
  split
  · rename_i h; exact .inr ⟨by omega, by omega⟩
  · exact .inl rfl
section
variable {s : ByteArray} {m : Int → Int → Option Int} (hm : ∀ i a r, m i a = some r → 0 ≤ a → a ≤ s.size → Ok s a r)
include hm
theorem rowM_ok : ∀ (l : List Int) (a r : Int), rowM m l a = some r → 0 ≤ a → a ≤ s.size → Ok s a r
  | [], a, r, h, _, h1 => by injection h with h; exact .inr ⟨by omega, by omega⟩
  | i :: l, a, r, h, h0, h1 => by
    unfold rowM at h
    cases hx : m i a with
    | none => rw [hx] at h; cases h
    | some x =>
      rw [hx] at h
      have hx' := hm i a x hx h0 h1
      simp only [Option.bind_some] at h
      split at h
      · injection h with h; exact .inl h.symm
      · rename_i he
        rcases hx' with e | e
        · exact absurd e he
        · have := rowM_ok l x r h (by omega) e.2
          unfold Ok at *
          omega
theorem choiceM_ok : ∀ (l : List Int) (a r : Int), choiceM m l a = some r → 0 ≤ a → a ≤ s.size → Ok s a r
  | [], a, r, h, _, h1 => by injection h with h; exact .inl h.symm
  | i :: l, a, r, h, h0, h1 => by
    unfold choiceM at h
    cases hx : m i a with
    | none => rw [hx] at h; cases h
    | some x =>
      rw [hx] at h
      simp only [Option.bind_some] at h
      split at h
      · exact choiceM_ok l a r h h0 h1
      · injection h with h
        subst h
        exact hm i a x hx h0 h1
theorem starM_ok (l : List Int) : ∀ (n : Nat) (a r : Int), starM m l n a = some r → 0 ≤ a → a ≤ s.size → Ok s a r
  | 0, a, r, h, _, _ => by cases h
  | n + 1, a, r, h, h0, h1 => by
    unfold starM at h
    cases hx : rowM m l a with
    | none => rw [hx] at h; cases h
    | some x =>
      rw [hx] at h
      have hx' := rowM_ok hm l a x hx h0 h1
      simp only [Option.bind_some] at h
      split at h
      · rename_i he
        rcases hx' with e | e
        · omega
        · have := starM_ok l n x r h (by omega) e.2
          unfold Ok at *
          omega
      · injection h with h
        exact .inr ⟨by omega, by omega⟩
end
theorem matchN_ok (T : List Tm) (s : ByteArray) : ∀ (F : Nat) (i a r : Int), matchN T s F i a = some r → 0 ≤ a → a ≤ s.size → Ok s a r
  | 0, i, a, r, h, _, _ => by cases h
  | F + 1, i, a, r, h, h0, h1 => by
    have ih := matchN_ok T s F
    rw [matchN] at h
    split at h
    · injection h with h; exact .inl h.symm
    · cases ht : T[i.toNat]? with
      | none => rw [ht] at h; injection h with h; exact .inl h.symm
      | some t =>
        rw [ht] at h
        dsimp only at h
        unfold runN at h
        repeat' (split at h)
        · injection h with h; subst h; exact wordM_ok s t.text a h1
        · injection h with h; subst h; exact oneM_ok s t.text a
        · injection h with h; exact .inr ⟨by omega, by omega⟩
        · exact rowM_ok ih _ _ _ h h0 h1
        · exact choiceM_ok ih _ _ _ h h0 h1
        · unfold andM at h
          cases hx : rowM (matchN T s F) t.kids a with
          | none => rw [hx] at h; cases h
          | some x =>
            rw [hx] at h
            simp only [Option.bind_some] at h
            split at h <;> injection h with h
            · exact .inl h.symm
            · exact .inr ⟨by omega, by omega⟩
        · unfold notM at h
          cases hx : rowM (matchN T s F) t.kids a with
          | none => rw [hx] at h; cases h
          | some x =>
            rw [hx] at h
            simp only [Option.bind_some] at h
            split at h <;> injection h with h
            · exact .inr ⟨by omega, by omega⟩
            · exact .inl h.symm
        · exact starM_ok ih _ _ _ _ h h0 h1
        · unfold plusM at h
          cases hx : rowM (matchN T s F) t.kids a with
          | none => rw [hx] at h; cases h
          | some x =>
            rw [hx] at h
            have hx' := rowM_ok ih _ _ _ hx h0 h1
            simp only [Option.bind_some] at h
            split at h
            · injection h with h; exact .inl h.symm
            · rename_i he
              rcases hx' with e | e
              · exact absurd e he
              · have := starM_ok ih _ _ x r h (by omega) e.2
                unfold Ok at *
                omega
        · unfold queryM at h
          cases hx : rowM (matchN T s F) t.kids a with
          | none => rw [hx] at h; cases h
          | some x =>
            rw [hx] at h
            have hx' := rowM_ok ih _ _ _ hx h0 h1
            simp only [Option.bind_some] at h
            split at h
            · injection h with h; exact .inr ⟨by omega, by omega⟩
            · injection h with h; subst h; exact hx'
        · injection h with h; exact .inl h.symm
end Go.Proofs.YtbojcemamhiodabDoor
namespace Go.Proofs.YtbojcemamhiodabDoor

/-- something caught: a place (to = -1), or a part, its name, what is caught within -/
structure Ct where
  a : Int
  zz : Int
  name : List UInt8
  kids : List Ct

/-- a number below 100 -/
def decC (n : Int) : List UInt8 := if n < 10 then [UInt8.ofNat (48 + n.toNat)] else [UInt8.ofNat (48 + n.toNat / 10), UInt8.ofNat (48 + n.toNat % 10)]
/-- a blank, but at the beginning and behind a bracket that opens -/
def btwC (o : List UInt8) : List UInt8 := if o = [] ∨ o.getLast? = some 40 then o else o ++ [32]

def wrC : Ct → List UInt8
  | .mk a zz name kids => if zz = -1 then decC a else (if name = [] then [] else name ++ [61]) ++ decC a ++ [45] ++ decC zz ++ (match kids with | [] => [] | c :: l => 40 :: (wrC c ++ rest l) ++ [41])
  where rest : List Ct → List UInt8
  | [] => []
  | c :: l => 32 :: (wrC c ++ rest l)
/-- a list of what is caught, as it is written -/
def wrL : List Ct → List UInt8
  | [] => []
  | c :: l => wrC c ++ wrC.rest l

/-- what is caught, written behind what has been written -/
def outC : List UInt8 → List Ct → List UInt8
  | o, [] => o
  | o, c :: l => outC (btwC o ++ wrC c) l

theorem decC_ne (n : Int) : decC n ≠ [] := by unfold decC; split <;> simp
theorem wrC_ne (c : Ct) : wrC c ≠ [] := by
  cases c with
  | mk a zz name kids =>
    unfold wrC
    split
    · exact decC_ne a
    · simp
theorem btwC_len (o : List UInt8) : o.length ≤ (btwC o).length := by
  unfold btwC
  split
  · exact Nat.le_refl _
  · simp
theorem outC_len : ∀ (l : List Ct) (o : List UInt8), o.length ≤ (outC o l).length
  | [], o => Nat.le_refl _
  | c :: l, o => by
    have h1 := outC_len l (btwC o ++ wrC c)
    have h2 := btwC_len o
    rw [outC]
    simp at h1
    omega
theorem outC_more (c : Ct) (l : List Ct) (o : List UInt8) : o.length < (outC o (c :: l)).length := by
  have h1 := outC_len l (btwC o ++ wrC c)
  have h2 := btwC_len o
  have h3 : 0 < (wrC c).length := List.length_pos_iff.2 (wrC_ne c)
  rw [outC]
  simp at h1
  omega
theorem outC_same {l : List Ct} {o : List UInt8} (h : (outC o l).length = o.length) : l = [] := by
  cases l with
  | nil => rfl
  | cons c l => have := outC_more c l o; omega
theorem outC_app : ∀ (l l' : List Ct) (o : List UInt8), outC o (l ++ l') = outC (outC o l) l'
  | [], _, _ => rfl
  | c :: l, l', o => by
    rw [List.cons_append, outC, outC]
    exact outC_app l l' _
theorem decC_last (n : Int) (h0 : 0 ≤ n) (h1 : n < 100) : (decC n).getLast? ≠ some 40 := by
  have key : ∀ k : Nat, k < 10 → UInt8.ofNat (48 + k) ≠ 40 := by decide +kernel
  unfold decC
  split
  · simp only [List.getLast?_singleton]
    intro h
    injection h with h
    exact key _ (by omega) h
  · simp only [List.getLast?_cons_cons, List.getLast?_singleton]
    intro h
    injection h with h
    exact key _ (by omega) h

/-- all numbers lie in 0 .. 99 (a place's end is -1) -/
def CtOk : Ct → Prop
  | .mk a zz _ kids => 0 ≤ a ∧ a < 100 ∧ -1 ≤ zz ∧ zz < 100 ∧ ∀ c ∈ kids, CtOk c
theorem CtOk.mk {a zz : Int} {name : List UInt8} {kids : List Ct} (h0 : 0 ≤ a) (h1 : a < 100) (h2 : -1 ≤ zz) (h3 : zz < 100) (hk : ∀ c ∈ kids, CtOk c) : CtOk (.mk a zz name kids) := by
  rw [CtOk]
  exact ⟨h0, h1, h2, h3, hk⟩

theorem last_app (o o' : List UInt8) (h : o' ≠ []) : (o ++ o').getLast? = o'.getLast? := by
  rw [List.getLast?_append]
  cases h' : o'.getLast? with
  | none => rw [List.getLast?_eq_none_iff] at h'; exact absurd h' h
  | some x => simp
theorem wrC_last {c : Ct} (h : CtOk c) : (wrC c).getLast? ≠ some 40 := by
  obtain ⟨a, zz, name, kids⟩ := c
  rw [CtOk] at h
  obtain ⟨h0, h1, h2, h3, hk⟩ := h
  next =>
    unfold wrC
    split
    · exact decC_last a h0 h1
    · cases kids with
      | nil =>
        simp only [List.append_nil]
        rw [last_app _ _ (decC_ne zz)]
        exact decC_last zz (by omega) h3
      | cons c l =>
        dsimp only
        rw [last_app _ _ (by simp)]
        rw [last_app _ _ (by simp)]
        decide
/-- what is written behind what is not empty does not hang on what stands further ahead -/
theorem outC_shift (o : List UInt8) : ∀ (l : List Ct) (o' : List UInt8), o' ≠ [] → outC (o ++ o') l = o ++ outC o' l
  | [], _, _ => rfl
  | c :: l, o', h => by
    have hb : btwC (o ++ o') = o ++ btwC o' := by
      unfold btwC
      rw [last_app o o' h]
      by_cases h1 : o'.getLast? = some 40
      · rw [if_pos (.inr h1), if_pos (.inr h1)]
      · rw [if_neg (by simp [h, h1]), if_neg (by simp [h, h1])]
        simp
    rw [outC, outC, hb, List.append_assoc]
    exact outC_shift o l _ (by simp [wrC_ne])
theorem outC_rest : ∀ (l : List Ct) (o : List UInt8), o ≠ [] → o.getLast? ≠ some 40 → (∀ c ∈ l, CtOk c) → outC o l = o ++ wrC.rest l
  | [], o, _, _, _ => by simp [outC, wrC.rest]
  | c :: l, o, h, h', hl => by
    rw [outC, wrC.rest]
    have hb : btwC o = o ++ [32] := by
      unfold btwC
      rw [if_neg (by simp [h, h'])]
    rw [hb, outC_rest l _ (by simp) ?_ (fun c' hc' => hl c' (by simp [hc']))]
    · simp
    · rw [last_app _ _ (wrC_ne c)]
      exact wrC_last (hl c (by simp))
theorem outC_nil (l : List Ct) (hl : ∀ c ∈ l, CtOk c) : outC [] l = wrL l := by
  cases l with
  | nil => rfl
  | cons c l =>
    rw [outC, wrL]
    have : btwC [] = [] := by simp [btwC]
    rw [this, List.nil_append]
    exact outC_rest l _ (wrC_ne c) (wrC_last (hl c (by simp))) (fun c' hc' => hl c' (by simp [hc']))
theorem outC_open (o : List UInt8) (l : List Ct) (hl : ∀ c ∈ l, CtOk c) : outC (o ++ [40]) l = o ++ [40] ++ wrL l := by
  cases l with
  | nil => simp [outC, wrL]
  | cons c l =>
    rw [outC, wrL]
    have hb : btwC (o ++ [40]) = o ++ [40] := by
      unfold btwC
      rw [if_pos (.inr (by simp))]
    rw [hb, outC_rest l _ (by simp) ?_ (fun c' hc' => hl c' (by simp [hc']))]
    · simp
    · rw [last_app _ _ (wrC_ne c)]
      exact wrC_last (hl c (by simp))

section
variable (m : Int → Int → Option Int) (c : Int → Int → Option (List Ct))
def rowC : List Int → Int → Option (List Ct)
  | [], _ => some []
  | i :: l, a => (m i a).bind fun r => if r = -1 then some [] else (c i a).bind fun x => (rowC l r).bind fun y => some (x ++ y)
def choiceC : List Int → Int → Option (List Ct)
  | [], _ => some []
  | i :: l, a => (m i a).bind fun r => if r = -1 then choiceC l a else c i a
def roundsC (l : List Int) : Nat → Int → Option (List Ct)
  | 0, _ => none
  | n + 1, a => (rowM m l a).bind fun r => if a < r then (rowC m c l a).bind fun x => (roundsC l n r).bind fun y => some (x ++ y) else some []
def partC (t : Tm) (a : Int) : Option (List Ct) := (rowM m t.kids a).bind fun r => (rowC m c t.kids a).bind fun x => some [.mk a r t.text.data.toList x]
def walkC (n : Nat) (t : Tm) (a : Int) : Option (List Ct) :=
  if t.kind = 3 then some [.mk a (-1) [] []] else
  if t.kind = 4 then partC m c t a else
  if t.kind = 2 ∨ t.kind = 5 ∨ t.kind = 11 then rowC m c t.kids a else
  if t.kind = 6 then choiceC m c t.kids a else
  if t.kind = 9 ∨ t.kind = 10 then roundsC m c t.kids n a else some []
end
/-- what term i catches that matches at place a; none: F is too small -/
def catN (T : List Tm) (s : ByteArray) (m : Int → Int → Option Int) : Nat → Int → Int → Option (List Ct)
  | 0, _, _ => none
  | F + 1, i, a => if i < 0 ∨ (T.length : Int) ≤ i ∨ a < 0 ∨ (s.size : Int) < a then some [] else
    match T[i.toNat]? with
    | none => some []
    | some t => walkC m (catN T s m F) (s.size + 2) t a
end Go.Proofs.YtbojcemamhiodabDoor
namespace Go.Proofs.YtbojcemamhiodabDoor

theorem obind {α β : Type} {o : Option α} {f : α → Option β} {r : β} (h : o.bind f = some r) : ∃ x, o = some x ∧ f x = some r := by
  cases o with
  | none => cases h
  | some x => exact ⟨x, rfl, h⟩

section
variable {m m' : Int → Int → Option Int} {c c' : Int → Int → Option (List Ct)}

theorem rowC_cons {i : Int} {l : List Int} {a : Int} {r : List Ct} (h : rowC m c (i :: l) a = some r) : ∃ x, m i a = some x ∧ ((x = -1 ∧ r = []) ∨ (x ≠ -1 ∧ ∃ y z, c i a = some y ∧ rowC m c l x = some z ∧ r = y ++ z)) := by
  unfold rowC at h
  obtain ⟨x, hx, h⟩ := obind h
  refine ⟨x, hx, ?_⟩
  split at h
  · rename_i he
    injection h with h
    exact .inl ⟨he, h.symm⟩
  · rename_i he
    obtain ⟨y, hy, h⟩ := obind h
    obtain ⟨z, hz, h⟩ := obind h
    injection h with h
    exact .inr ⟨he, y, z, hy, hz, h.symm⟩
theorem choiceC_cons {i : Int} {l : List Int} {a : Int} {r : List Ct} (h : choiceC m c (i :: l) a = some r) : ∃ x, m i a = some x ∧ ((x = -1 ∧ choiceC m c l a = some r) ∨ (x ≠ -1 ∧ c i a = some r)) := by
  unfold choiceC at h
  obtain ⟨x, hx, h⟩ := obind h
  refine ⟨x, hx, ?_⟩
  split at h
  · rename_i he; exact .inl ⟨he, h⟩
  · rename_i he; exact .inr ⟨he, h⟩
theorem roundsC_succ {l : List Int} {n : Nat} {a : Int} {r : List Ct} (h : roundsC m c l (n + 1) a = some r) : ∃ x, rowM m l a = some x ∧ ((a < x ∧ ∃ y z, rowC m c l a = some y ∧ roundsC m c l n x = some z ∧ r = y ++ z) ∨ (¬ a < x ∧ r = [])) := by
  unfold roundsC at h
  obtain ⟨x, hx, h⟩ := obind h
  refine ⟨x, hx, ?_⟩
  split at h
  · rename_i he
    obtain ⟨y, hy, h⟩ := obind h
    obtain ⟨z, hz, h⟩ := obind h
    injection h with h
    exact .inl ⟨he, y, z, hy, hz, h.symm⟩
  · rename_i he
    injection h with h
    exact .inr ⟨he, h.symm⟩
theorem partC_some {t : Tm} {a : Int} {r : List Ct} (h : partC m c t a = some r) : ∃ x y, rowM m t.kids a = some x ∧ rowC m c t.kids a = some y ∧ r = [.mk a x t.text.data.toList y] := by
  unfold partC at h
  obtain ⟨x, hx, h⟩ := obind h
  obtain ⟨y, hy, h⟩ := obind h
  injection h with h
  exact ⟨x, y, hx, hy, h.symm⟩

theorem rowC_le (hm : ∀ i a r, m i a = some r → m' i a = some r) (hc : ∀ i a r, c i a = some r → c' i a = some r) : ∀ (l : List Int) (a : Int) (r : List Ct), rowC m c l a = some r → rowC m' c' l a = some r
  | [], a, r, h => h
  | i :: l, a, r, h => by
    obtain ⟨x, hx, h⟩ := rowC_cons h
    unfold rowC
    rw [hm i a x hx]
    rcases h with ⟨rfl, rfl⟩ | ⟨he, y, z, hy, hz, rfl⟩
    · rfl
    · simp only [Option.bind_some]
      rw [if_neg he, hc i a y hy, Option.bind_some, rowC_le hm hc l x z hz]
      rfl
theorem choiceC_le (hm : ∀ i a r, m i a = some r → m' i a = some r) (hc : ∀ i a r, c i a = some r → c' i a = some r) : ∀ (l : List Int) (a : Int) (r : List Ct), choiceC m c l a = some r → choiceC m' c' l a = some r
  | [], a, r, h => h
  | i :: l, a, r, h => by
    obtain ⟨x, hx, h⟩ := choiceC_cons h
    unfold choiceC
    rw [hm i a x hx]
    simp only [Option.bind_some]
    rcases h with ⟨rfl, h⟩ | ⟨he, h⟩
    · rw [if_pos rfl]; exact choiceC_le hm hc l a r h
    · rw [if_neg he]; exact hc i a r h
theorem roundsC_le (hm : ∀ i a r, m i a = some r → m' i a = some r) (hc : ∀ i a r, c i a = some r → c' i a = some r) (l : List Int) : ∀ (n : Nat) (a : Int) (r : List Ct), roundsC m c l n a = some r → roundsC m' c' l n a = some r
  | 0, a, r, h => by cases h
  | n + 1, a, r, h => by
    obtain ⟨x, hx, h⟩ := roundsC_succ h
    unfold roundsC
    rw [rowM_le hm l a x hx]
    simp only [Option.bind_some]
    rcases h with ⟨he, y, z, hy, hz, rfl⟩ | ⟨he, rfl⟩
    · rw [if_pos he, rowC_le hm hc l a y hy, Option.bind_some, roundsC_le hm hc l n x z hz]; rfl
    · rw [if_neg he]
theorem walkC_le (hm : ∀ i a r, m i a = some r → m' i a = some r) (hc : ∀ i a r, c i a = some r → c' i a = some r) (n : Nat) (t : Tm) (a : Int) (r : List Ct) (h : walkC m c n t a = some r) : walkC m' c' n t a = some r := by
  unfold walkC at *
  repeat' (split at h <;> rename_i hk <;> first | rw [if_pos hk] | rw [if_neg hk])
  · exact h
  · obtain ⟨x, y, hx, hy, rfl⟩ := partC_some h
    unfold partC
    rw [rowM_le hm _ _ _ hx, Option.bind_some, rowC_le hm hc _ _ _ hy]
    rfl
  · exact rowC_le hm hc _ _ _ h
  · exact choiceC_le hm hc _ _ _ h
  · exact roundsC_le hm hc _ _ _ _ h
  · exact h
end
theorem catN_le (T : List Tm) (s : ByteArray) {m m' : Int → Int → Option Int} (hm : ∀ i a r, m i a = some r → m' i a = some r) : ∀ (F : Nat) (i a : Int) (r : List Ct), catN T s m F i a = some r → catN T s m' F i a = some r
  | 0, i, a, r, h => by cases h
  | F + 1, i, a, r, h => by
    rw [catN] at h ⊢
    split at h
    · rename_i hc; rw [if_pos hc]; exact h
    · rename_i hc
      rw [if_neg hc]
      cases ht : T[i.toNat]? with
      | none => rw [ht] at h; exact h
      | some t => rw [ht] at h; exact walkC_le hm (catN_le T s hm F) _ t a r h

section
variable (T : List Tm) (s : ByteArray) (m : Int → Int → Option Int)
theorem catN_succ : ∀ (F : Nat) (i a : Int) (r : List Ct), catN T s m F i a = some r → catN T s m (F + 1) i a = some r
  | 0, i, a, r, h => by cases h
  | F + 1, i, a, r, h => by
    rw [catN] at h ⊢
    split at h
    · rename_i hc; rw [if_pos hc]; exact h
    · rename_i hc
      rw [if_neg hc]
      cases ht : T[i.toNat]? with
      | none => rw [ht] at h; exact h
      | some t => rw [ht] at h; exact walkC_le (fun _ _ _ h => h) (catN_succ F) _ t a r h
theorem catN_mono {F F' : Nat} (hF : F ≤ F') {i a : Int} {r : List Ct} (h : catN T s m F i a = some r) : catN T s m F' i a = some r := by
  induction hF with
  | refl => exact h
  | step _ ih => exact catN_succ T s m _ i a r ih
theorem catN_det {F F' : Nat} {i a : Int} {r r' : List Ct} (h : catN T s m F i a = some r) (h' : catN T s m F' i a = some r') : r = r' := by
  have h1 := catN_mono T s m (Nat.le_max_left F F') h
  have h2 := catN_mono T s m (Nat.le_max_right F F') h'
  rw [h1] at h2
  injection h2
end

section
variable {s : ByteArray} {m : Int → Int → Option Int} {c : Int → Int → Option (List Ct)} (hc : ∀ i a r, c i a = some r → 0 ≤ a → a ≤ s.size → ∀ x ∈ r, CtOk x)
include hc
theorem choiceC_ok : ∀ (l : List Int) (a : Int) (r : List Ct), choiceC m c l a = some r → 0 ≤ a → a ≤ s.size → ∀ x ∈ r, CtOk x
  | [], a, r, h, _, _ => by injection h with h; subst h; simp
  | i :: l, a, r, h, h0, h1 => by
    obtain ⟨x, hx, h⟩ := choiceC_cons h
    rcases h with ⟨_, h⟩ | ⟨_, h⟩
    · exact choiceC_ok l a r h h0 h1
    · exact hc i a r h h0 h1
end
section
variable {s : ByteArray} {m : Int → Int → Option Int} {c : Int → Int → Option (List Ct)} (hm : ∀ i a r, m i a = some r → 0 ≤ a → a ≤ s.size → Ok s a r) (hc : ∀ i a r, c i a = some r → 0 ≤ a → a ≤ s.size → ∀ x ∈ r, CtOk x)
include hm hc
theorem rowC_ok : ∀ (l : List Int) (a : Int) (r : List Ct), rowC m c l a = some r → 0 ≤ a → a ≤ s.size → ∀ x ∈ r, CtOk x
  | [], a, r, h, _, _ => by injection h with h; subst h; simp
  | i :: l, a, r, h, h0, h1 => by
    obtain ⟨x, hx, h⟩ := rowC_cons h
    have hox := hm i a x hx h0 h1
    rcases h with ⟨_, rfl⟩ | ⟨he, y, z, hy, hz, rfl⟩
    · simp
    · intro q hq
      rcases List.mem_append.1 hq with hq | hq
      · exact hc i a y hy h0 h1 q hq
      · refine rowC_ok l x z hz ?_ ?_ q hq
        all_goals unfold Ok at hox; omega
theorem roundsC_ok (l : List Int) : ∀ (n : Nat) (a : Int) (r : List Ct), roundsC m c l n a = some r → 0 ≤ a → a ≤ s.size → ∀ x ∈ r, CtOk x
  | 0, a, r, h, _, _ => by cases h
  | n + 1, a, r, h, h0, h1 => by
    obtain ⟨x, hx, h⟩ := roundsC_succ h
    have hox := rowM_ok hm l a x hx h0 h1
    rcases h with ⟨he, y, z, hy, hz, rfl⟩ | ⟨_, rfl⟩
    · intro q hq
      rcases List.mem_append.1 hq with hq | hq
      · exact rowC_ok hm hc l a y hy h0 h1 q hq
      · refine roundsC_ok l n x z hz (by omega) ?_ q hq
        unfold Ok at hox
        omega
    · simp
end
theorem catN_ok (T : List Tm) {s : ByteArray} {m : Int → Int → Option Int} (hs : s.size ≤ 60) (hm : ∀ i a r, m i a = some r → 0 ≤ a → a ≤ s.size → Ok s a r) : ∀ (F : Nat) (i a : Int) (r : List Ct), catN T s m F i a = some r → 0 ≤ a → a ≤ s.size → ∀ x ∈ r, CtOk x
  | 0, i, a, r, h, _, _ => by cases h
  | F + 1, i, a, r, h, h0, h1 => by
    have ih := catN_ok T hs hm F
    rw [catN] at h
    split at h
    · injection h with h; subst h; simp
    · cases ht : T[i.toNat]? with
      | none => rw [ht] at h; injection h with h; subst h; simp
      | some t =>
        rw [ht] at h
        dsimp only at h
        unfold walkC at h
        repeat' (split at h)
        · injection h with h; subst h
          intro x hx
          rw [List.mem_singleton] at hx
          subst hx
          exact .mk h0 (by omega) (by omega) (by omega) (by simp)
        · obtain ⟨x, y, hx, hy, rfl⟩ := partC_some h
          have hox := rowM_ok hm _ _ _ hx h0 h1
          intro q hq
          rw [List.mem_singleton] at hq
          subst hq
          refine .mk h0 (by omega) ?_ ?_ (rowC_ok hm ih _ _ _ hy h0 h1)
          all_goals unfold Ok at hox; omega
        · exact rowC_ok hm ih _ _ _ h h0 h1
        · exact choiceC_ok ih _ _ _ h h0 h1
        · exact roundsC_ok hm ih _ _ _ _ h h0 h1
        · injection h with h; subst h; simp
end Go.Proofs.YtbojcemamhiodabDoor
namespace Go.Proofs.YtbojcemamhiodabDoor

section
variable (T : List Tm) (s : ByteArray)
/-- term i at place a goes up to r -/
def Mr (i a r : Int) : Prop := ∃ F, matchN T s F i a = some r
def Rr (l : List Int) (a r : Int) : Prop := ∃ F, rowM (matchN T s F) l a = some r
def Hr (l : List Int) (a r : Int) : Prop := ∃ F, choiceM (matchN T s F) l a = some r
def Sr (l : List Int) (n : Nat) (a r : Int) : Prop := ∃ F, starM (matchN T s F) l n a = some r
/-- term i at place a catches x -/
def Cr (i a : Int) (x : List Ct) : Prop := ∃ F F', catN T s (matchN T s F) F' i a = some x
def CRr (l : List Int) (a : Int) (x : List Ct) : Prop := ∃ F F', rowC (matchN T s F) (catN T s (matchN T s F) F') l a = some x
def CHr (l : List Int) (a : Int) (x : List Ct) : Prop := ∃ F F', choiceC (matchN T s F) (catN T s (matchN T s F) F') l a = some x
def CSr (l : List Int) (n : Nat) (a : Int) (x : List Ct) : Prop := ∃ F F', roundsC (matchN T s F) (catN T s (matchN T s F) F') l n a = some x
end

section
variable {T : List Tm} {s : ByteArray}
theorem Mr.up {i a r : Int} (h : Mr T s i a r) : ∃ F0, ∀ F, F0 ≤ F → matchN T s F i a = some r := let ⟨F, h⟩ := h; ⟨F, fun _ hF => matchN_mono T s hF h⟩
theorem Rr.up {l : List Int} {a r : Int} (h : Rr T s l a r) : ∃ F0, ∀ F, F0 ≤ F → rowM (matchN T s F) l a = some r := let ⟨F, h⟩ := h; ⟨F, fun _ hF => rowM_le (fun _ _ _ k => matchN_mono T s hF k) _ _ _ h⟩
theorem Hr.up {l : List Int} {a r : Int} (h : Hr T s l a r) : ∃ F0, ∀ F, F0 ≤ F → choiceM (matchN T s F) l a = some r := let ⟨F, h⟩ := h; ⟨F, fun _ hF => choiceM_le (fun _ _ _ k => matchN_mono T s hF k) _ _ _ h⟩
theorem Sr.up {l : List Int} {n : Nat} {a r : Int} (h : Sr T s l n a r) : ∃ F0, ∀ F, F0 ≤ F → starM (matchN T s F) l n a = some r := let ⟨F, h⟩ := h; ⟨F, fun _ hF => starM_le (fun _ _ _ k => matchN_mono T s hF k) _ _ _ _ h⟩
theorem cat_up {F F' G G' : Nat} (h : F ≤ G) (h' : F' ≤ G') : ∀ i a r, catN T s (matchN T s F) F' i a = some r → catN T s (matchN T s G) G' i a = some r := fun _ _ _ k => catN_mono T s _ h' (catN_le T s (fun _ _ _ q => matchN_mono T s h q) _ _ _ _ k)
theorem Cr.up {i a : Int} {x : List Ct} (h : Cr T s i a x) : ∃ F0, ∀ F F', F0 ≤ F → F0 ≤ F' → catN T s (matchN T s F) F' i a = some x := let ⟨F, F', h⟩ := h; ⟨max F F', fun _ _ h1 h2 => cat_up (by omega) (by omega) _ _ _ h⟩
theorem CRr.up {l : List Int} {a : Int} {x : List Ct} (h : CRr T s l a x) : ∃ F0, ∀ F F', F0 ≤ F → F0 ≤ F' → rowC (matchN T s F) (catN T s (matchN T s F) F') l a = some x := let ⟨F, F', h⟩ := h; ⟨max F F', fun _ _ h1 h2 => rowC_le (fun _ _ _ k => matchN_mono T s (by omega) k) (cat_up (by omega) (by omega)) _ _ _ h⟩
theorem CHr.up {l : List Int} {a : Int} {x : List Ct} (h : CHr T s l a x) : ∃ F0, ∀ F F', F0 ≤ F → F0 ≤ F' → choiceC (matchN T s F) (catN T s (matchN T s F) F') l a = some x := let ⟨F, F', h⟩ := h; ⟨max F F', fun _ _ h1 h2 => choiceC_le (fun _ _ _ k => matchN_mono T s (by omega) k) (cat_up (by omega) (by omega)) _ _ _ h⟩
theorem CSr.up {l : List Int} {n : Nat} {a : Int} {x : List Ct} (h : CSr T s l n a x) : ∃ F0, ∀ F F', F0 ≤ F → F0 ≤ F' → roundsC (matchN T s F) (catN T s (matchN T s F) F') l n a = some x := let ⟨F, F', h⟩ := h; ⟨max F F', fun _ _ h1 h2 => roundsC_le (fun _ _ _ k => matchN_mono T s (by omega) k) (cat_up (by omega) (by omega)) _ _ _ _ h⟩

theorem Rr.nil (a : Int) : Rr T s [] a a := ⟨0, rfl⟩
theorem Rr.no {i a : Int} {l : List Int} (h : Mr T s i a (-1)) : Rr T s (i :: l) a (-1) := by
  obtain ⟨F, h⟩ := h
  exact ⟨F, by rw [rowM, h]; rfl⟩
theorem Rr.cons {i a x r : Int} {l : List Int} (h : Mr T s i a x) (hx : x ≠ -1) (k : Rr T s l x r) : Rr T s (i :: l) a r := by
  obtain ⟨F1, h⟩ := h.up
  obtain ⟨F2, k⟩ := k.up
  exact ⟨max F1 F2, by rw [rowM, h _ (by omega), Option.bind_some, if_neg hx, k _ (by omega)]⟩
theorem Hr.nil (a : Int) : Hr T s [] a (-1) := ⟨0, rfl⟩
theorem Hr.no {i a r : Int} {l : List Int} (h : Mr T s i a (-1)) (k : Hr T s l a r) : Hr T s (i :: l) a r := by
  obtain ⟨F1, h⟩ := h.up
  obtain ⟨F2, k⟩ := k.up
  exact ⟨max F1 F2, by rw [choiceM, h _ (by omega), Option.bind_some, if_pos rfl, k _ (by omega)]⟩
theorem Hr.yes {i a r : Int} {l : List Int} (h : Mr T s i a r) (hr : r ≠ -1) : Hr T s (i :: l) a r := by
  obtain ⟨F, h⟩ := h
  exact ⟨F, by rw [choiceM, h, Option.bind_some, if_neg hr]⟩
theorem Sr.stop {l : List Int} {n : Nat} {a x : Int} (h : Rr T s l a x) (hx : ¬ a < x) : Sr T s l (n + 1) a a := by
  obtain ⟨F, h⟩ := h
  exact ⟨F, by rw [starM, h, Option.bind_some, if_neg hx]⟩
theorem Sr.go {l : List Int} {n : Nat} {a x r : Int} (h : Rr T s l a x) (hx : a < x) (k : Sr T s l n x r) : Sr T s l (n + 1) a r := by
  obtain ⟨F1, h⟩ := h.up
  obtain ⟨F2, k⟩ := k.up
  exact ⟨max F1 F2, by rw [starM, h _ (by omega), Option.bind_some, if_pos hx, k _ (by omega)]⟩

theorem Mr.step {i : Nat} {a r : Int} {t : Tm} (ht : T[i]? = some t) (h0 : 0 ≤ a) (h1 : a ≤ s.size) (F : Nat) (h : runN (matchN T s F) s (s.size + 2) t a = some r) : Mr T s i a r := by
  have hi : i < T.length := by
    rcases Nat.lt_or_ge i T.length with h1 | h1
    · exact h1
    · rw [List.getElem?_eq_none h1] at ht; cases ht
  exact ⟨F + 1, by rw [matchN, if_neg (by omega), Int.toNat_natCast, ht]; exact h⟩
theorem Cr.step {i : Nat} {a : Int} {x : List Ct} {t : Tm} (ht : T[i]? = some t) (h0 : 0 ≤ a) (h1 : a ≤ s.size) (F F' : Nat) (h : walkC (matchN T s F) (catN T s (matchN T s F) F') (s.size + 2) t a = some x) : Cr T s i a x := by
  have hi : i < T.length := by
    rcases Nat.lt_or_ge i T.length with h1 | h1
    · exact h1
    · rw [List.getElem?_eq_none h1] at ht; cases ht
  exact ⟨F, F' + 1, by rw [catN, if_neg (by omega), Int.toNat_natCast, ht]; exact h⟩

section
variable {i : Nat} {a r : Int} {u : ByteArray} {l : List Int} (h0 : 0 ≤ a) (h1 : a ≤ s.size)
include h0 h1
theorem Mr.word (ht : T[i]? = some ⟨0, u, l⟩) : Mr T s i a (wordM s u a) := Mr.step ht h0 h1 0 rfl
theorem Mr.one (ht : T[i]? = some ⟨1, u, l⟩) : Mr T s i a (oneM s u a) := Mr.step ht h0 h1 0 rfl
theorem Mr.place (ht : T[i]? = some ⟨3, u, l⟩) : Mr T s i a a := Mr.step ht h0 h1 0 rfl
theorem Mr.name (ht : T[i]? = some ⟨2, u, l⟩) (h : Rr T s l a r) : Mr T s i a r := let ⟨F, h⟩ := h; Mr.step ht h0 h1 F h
theorem Mr.part (ht : T[i]? = some ⟨4, u, l⟩) (h : Rr T s l a r) : Mr T s i a r := let ⟨F, h⟩ := h; Mr.step ht h0 h1 F h
theorem Mr.row (ht : T[i]? = some ⟨5, u, l⟩) (h : Rr T s l a r) : Mr T s i a r := let ⟨F, h⟩ := h; Mr.step ht h0 h1 F h
theorem Mr.choice (ht : T[i]? = some ⟨6, u, l⟩) (h : Hr T s l a r) : Mr T s i a r := let ⟨F, h⟩ := h; Mr.step ht h0 h1 F h
theorem Mr.and_yes (ht : T[i]? = some ⟨7, u, l⟩) (h : Rr T s l a r) (hr : r ≠ -1) : Mr T s i a a := let ⟨F, h⟩ := h; Mr.step ht h0 h1 F (by show andM _ _ _ = _; rw [andM, h, Option.bind_some, if_neg hr])
theorem Mr.and_no (ht : T[i]? = some ⟨7, u, l⟩) (h : Rr T s l a (-1)) : Mr T s i a (-1) := let ⟨F, h⟩ := h; Mr.step ht h0 h1 F (by show andM _ _ _ = _; rw [andM, h, Option.bind_some, if_pos rfl])
theorem Mr.not_yes (ht : T[i]? = some ⟨8, u, l⟩) (h : Rr T s l a (-1)) : Mr T s i a a := let ⟨F, h⟩ := h; Mr.step ht h0 h1 F (by show notM _ _ _ = _; rw [notM, h, Option.bind_some, if_pos rfl])
theorem Mr.not_no (ht : T[i]? = some ⟨8, u, l⟩) (h : Rr T s l a r) (hr : r ≠ -1) : Mr T s i a (-1) := let ⟨F, h⟩ := h; Mr.step ht h0 h1 F (by show notM _ _ _ = _; rw [notM, h, Option.bind_some, if_neg hr])
theorem Mr.star (ht : T[i]? = some ⟨9, u, l⟩) (h : Sr T s l (s.size + 2) a r) : Mr T s i a r := let ⟨F, h⟩ := h; Mr.step ht h0 h1 F h
theorem Mr.plus_no (ht : T[i]? = some ⟨10, u, l⟩) (h : Rr T s l a (-1)) : Mr T s i a (-1) := let ⟨F, h⟩ := h; Mr.step ht h0 h1 F (by show plusM _ _ _ _ = _; rw [plusM, h, Option.bind_some, if_pos rfl])
theorem Mr.plus_yes {x : Int} (ht : T[i]? = some ⟨10, u, l⟩) (h : Rr T s l a x) (hx : x ≠ -1) (k : Sr T s l (s.size + 2) x r) : Mr T s i a r := by
  obtain ⟨F1, h⟩ := h.up
  obtain ⟨F2, k⟩ := k.up
  exact Mr.step ht h0 h1 (max F1 F2) (by show plusM _ _ _ _ = _; rw [plusM, h _ (by omega), Option.bind_some, if_neg hx, k _ (by omega)])
theorem Mr.query_no (ht : T[i]? = some ⟨11, u, l⟩) (h : Rr T s l a (-1)) : Mr T s i a a := let ⟨F, h⟩ := h; Mr.step ht h0 h1 F (by show queryM _ _ _ = _; rw [queryM, h, Option.bind_some, if_pos rfl])
theorem Mr.query_yes (ht : T[i]? = some ⟨11, u, l⟩) (h : Rr T s l a r) (hr : r ≠ -1) : Mr T s i a r := let ⟨F, h⟩ := h; Mr.step ht h0 h1 F (by show queryM _ _ _ = _; rw [queryM, h, Option.bind_some, if_neg hr])

theorem Cr.word (ht : T[i]? = some ⟨0, u, l⟩) : Cr T s i a [] := Cr.step ht h0 h1 0 0 rfl
theorem Cr.one (ht : T[i]? = some ⟨1, u, l⟩) : Cr T s i a [] := Cr.step ht h0 h1 0 0 rfl
theorem Cr.and (ht : T[i]? = some ⟨7, u, l⟩) : Cr T s i a [] := Cr.step ht h0 h1 0 0 rfl
theorem Cr.not (ht : T[i]? = some ⟨8, u, l⟩) : Cr T s i a [] := Cr.step ht h0 h1 0 0 rfl
theorem Cr.place (ht : T[i]? = some ⟨3, u, l⟩) : Cr T s i a [.mk a (-1) [] []] := Cr.step ht h0 h1 0 0 rfl
theorem Cr.name {x : List Ct} (ht : T[i]? = some ⟨2, u, l⟩) (h : CRr T s l a x) : Cr T s i a x := let ⟨F, F', h⟩ := h; Cr.step ht h0 h1 F F' h
theorem Cr.row {x : List Ct} (ht : T[i]? = some ⟨5, u, l⟩) (h : CRr T s l a x) : Cr T s i a x := let ⟨F, F', h⟩ := h; Cr.step ht h0 h1 F F' h
theorem Cr.query {x : List Ct} (ht : T[i]? = some ⟨11, u, l⟩) (h : CRr T s l a x) : Cr T s i a x := let ⟨F, F', h⟩ := h; Cr.step ht h0 h1 F F' h
theorem Cr.choice {x : List Ct} (ht : T[i]? = some ⟨6, u, l⟩) (h : CHr T s l a x) : Cr T s i a x := let ⟨F, F', h⟩ := h; Cr.step ht h0 h1 F F' h
theorem Cr.star {x : List Ct} (ht : T[i]? = some ⟨9, u, l⟩) (h : CSr T s l (s.size + 2) a x) : Cr T s i a x := let ⟨F, F', h⟩ := h; Cr.step ht h0 h1 F F' h
theorem Cr.plus {x : List Ct} (ht : T[i]? = some ⟨10, u, l⟩) (h : CSr T s l (s.size + 2) a x) : Cr T s i a x := let ⟨F, F', h⟩ := h; Cr.step ht h0 h1 F F' h
theorem Cr.part {x : List Ct} (ht : T[i]? = some ⟨4, u, l⟩) (h : Rr T s l a r) (k : CRr T s l a x) : Cr T s i a [.mk a r u.data.toList x] := by
  obtain ⟨F1, h⟩ := h.up
  obtain ⟨F2, k⟩ := k.up
  exact Cr.step ht h0 h1 (max F1 F2) (max F1 F2) (by show partC _ _ _ _ = _; rw [partC, h _ (by omega), Option.bind_some, k _ _ (by omega) (by omega)]; rfl)
end

theorem CRr.nil (a : Int) : CRr T s [] a [] := ⟨0, 0, rfl⟩
theorem CRr.no {i a : Int} {l : List Int} (h : Mr T s i a (-1)) : CRr T s (i :: l) a [] := by
  obtain ⟨F, h⟩ := h
  exact ⟨F, 0, by rw [rowC, h]; rfl⟩
theorem CRr.cons {i a x : Int} {l : List Int} {y z q : List Ct} (h : Mr T s i a x) (hx : x ≠ -1) (c : Cr T s i a y) (k : CRr T s l x z) (hq : q = y ++ z) : CRr T s (i :: l) a q := by
  subst hq
  obtain ⟨F1, h⟩ := h.up
  obtain ⟨F2, c⟩ := c.up
  obtain ⟨F3, k⟩ := k.up
  exact ⟨max F1 (max F2 F3), max F1 (max F2 F3), by rw [rowC, h _ (by omega), Option.bind_some, if_neg hx, c _ _ (by omega) (by omega), Option.bind_some, k _ _ (by omega) (by omega)]; rfl⟩
theorem CHr.no {i a : Int} {l : List Int} {x : List Ct} (h : Mr T s i a (-1)) (k : CHr T s l a x) : CHr T s (i :: l) a x := by
  obtain ⟨F1, h⟩ := h.up
  obtain ⟨F2, k⟩ := k.up
  exact ⟨max F1 F2, max F1 F2, by rw [choiceC, h _ (by omega), Option.bind_some, if_pos rfl, k _ _ (by omega) (by omega)]⟩
theorem CHr.yes {i a r : Int} {l : List Int} {x : List Ct} (h : Mr T s i a r) (hr : r ≠ -1) (k : Cr T s i a x) : CHr T s (i :: l) a x := by
  obtain ⟨F1, h⟩ := h.up
  obtain ⟨F2, k⟩ := k.up
  exact ⟨max F1 F2, max F1 F2, by rw [choiceC, h _ (by omega), Option.bind_some, if_neg hr, k _ _ (by omega) (by omega)]⟩
theorem CSr.stop {l : List Int} {n : Nat} {a x : Int} (h : Rr T s l a x) (hx : ¬ a < x) : CSr T s l (n + 1) a [] := by
  obtain ⟨F, h⟩ := h
  exact ⟨F, 0, by rw [roundsC, h, Option.bind_some, if_neg hx]⟩
theorem CSr.go {l : List Int} {n : Nat} {a x : Int} {y z q : List Ct} (h : Rr T s l a x) (hx : a < x) (c : CRr T s l a y) (k : CSr T s l n x z) (hq : q = y ++ z) : CSr T s l (n + 1) a q := by
  subst hq
  obtain ⟨F1, h⟩ := h.up
  obtain ⟨F2, c⟩ := c.up
  obtain ⟨F3, k⟩ := k.up
  exact ⟨max F1 (max F2 F3), max F1 (max F2 F3), by rw [roundsC, h _ (by omega), Option.bind_some, if_pos hx, c _ _ (by omega) (by omega), Option.bind_some, k _ _ (by omega) (by omega)]; rfl⟩
end
end Go.Proofs.YtbojcemamhiodabDoor

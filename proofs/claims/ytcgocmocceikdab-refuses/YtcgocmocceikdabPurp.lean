import Derived.Test.YtcgocmocceikdabTree
namespace Go.Proofs.Ytcgocmocceikdab
open Go.RowKit

/-- what a method of the parser comes to -/
structure Res where
  err : Int
  nd : Nd
  tk : Tk
  d : Int

def errR (e : Int) (t : Tk) (d : Int) : Res := ⟨e, Nd.zero, t, d⟩
def nd0 (k : Int) (l : List Nd) : Nd := ⟨k, 0, ByteArray.empty, false, l⟩

def Tk.of (t : Tk) (s : ByteArray) : ByteArray := s.extract t.from_.toNat t.to.toNat

section
variable (s : ByteArray)

def signsF : Nat → Nd → Tk → Nd × Tk
  | 0, n, t => (n, t)
  | k + 1, n, t => if (t.k == 9 || t.k == 10 || t.k == 11) = true then signsF k ⟨repK t.k, t.from_, ByteArray.empty, false, [n]⟩ (nextT s t.to) else (n, t)

def withinF (r : Res) (c : Int) : Res :=
  if r.err ≠ 0 then errR r.err r.tk r.d else if r.tk.k ≠ c then errR 2 r.tk r.d else ⟨0, r.nd, nextT s r.tk.to, r.d - 1⟩

def bracketsF (E : Tk → Int → Res) (t : Tk) (d : Int) : Res :=
  if 12 ≤ d then errR 3 t d else withinF s (E (nextT s t.to) (d + 1)) 14

def partF (r : Res) : Res := if r.err ≠ 0 then errR r.err r.tk r.d else ⟨0, nd0 4 [r.nd], r.tk, r.d⟩
def namedT (t : Tk) : Tk := if nmBefore s t 17 = true then nextT s (nextT s t.to).to else t
def catchF (E : Tk → Int → Res) (t : Tk) (d : Int) : Res :=
  if 12 ≤ d then errR 3 t d else
  if (nextT s t.to).k = 16 then ⟨0, nd0 3 [], nextT s (nextT s t.to).to, d⟩ else
  partF (withinF s (E (namedT s (nextT s t.to)) (d + 1)) 16)

def leafF (t : Tk) : Nd :=
  if t.k = 2 then ⟨2, t.from_, t.of s, false, []⟩ else if t.k = 4 then ⟨0, 0, ByteArray.empty, t.to - t.from_ == 2, []⟩ else nd0 1 []

def singleF (E : Tk → Int → Res) (t : Tk) (d : Int) : Res :=
  if t.k = 13 then bracketsF s E t d else if t.k = 15 then catchF s E t d else ⟨0, leafF s t, nextT s t.to, d⟩

def signedF (r : Res) : Res :=
  if r.err ≠ 0 then errR r.err r.tk r.d else ⟨0, (signsF s (s.size + 1) r.nd r.tk).1, (signsF s (s.size + 1) r.nd r.tk).2, r.d⟩
def repeatedF (E : Tk → Int → Res) (t : Tk) (d : Int) : Res := signedF s (singleF s E t d)

def lookF (k : Int) (r : Res) : Res := if r.err ≠ 0 then errR r.err r.tk r.d else ⟨0, nd0 k [r.nd], r.tk, r.d⟩
def itemF (E : Tk → Int → Res) : Nat → Tk → Int → Res
  | 0, t, d => errR 2 t d
  | k + 1, t, d =>
    if t.k = 7 ∨ t.k = 8 then
      if atIt s (nextT s t.to) = true then lookF t.k (itemF E k (nextT s t.to) d) else errR 2 (nextT s t.to) d
    else repeatedF s E t d

def rowF (E : Tk → Int → Res) : Nat → List Nd → Tk → Int → Res
  | 0, _, t, d => errR 2 t d
  | k + 1, acc, t, d =>
    if atIt s t = true then
      if (itemF s E (s.size + 1) t d).err ≠ 0 then errR (itemF s E (s.size + 1) t d).err (itemF s E (s.size + 1) t d).tk (itemF s E (s.size + 1) t d).d
      else rowF E k (acc ++ [(itemF s E (s.size + 1) t d).nd]) (itemF s E (s.size + 1) t d).tk (itemF s E (s.size + 1) t d).d
    else ⟨0, nd0 5 acc, t, d⟩

def rowsF (E : Tk → Int → Res) : Nat → List Nd → Tk → Int → Res
  | 0, _, t, d => errR 2 t d
  | k + 1, acc, t, d =>
    if t.k = 6 then
      if (rowF s E (s.size + 1) [] (nextT s t.to) d).err ≠ 0 then errR (rowF s E (s.size + 1) [] (nextT s t.to) d).err (rowF s E (s.size + 1) [] (nextT s t.to) d).tk (rowF s E (s.size + 1) [] (nextT s t.to) d).d
      else rowsF E k (acc ++ [(rowF s E (s.size + 1) [] (nextT s t.to) d).nd]) (rowF s E (s.size + 1) [] (nextT s t.to) d).tk (rowF s E (s.size + 1) [] (nextT s t.to) d).d
    else ⟨0, nd0 6 acc, t, d⟩

def exprF (E : Tk → Int → Res) (t : Tk) (d : Int) : Res :=
  if (rowF s E (s.size + 1) [] t d).err ≠ 0 then errR (rowF s E (s.size + 1) [] t d).err (rowF s E (s.size + 1) [] t d).tk (rowF s E (s.size + 1) [] t d).d
  else rowsF s E (s.size + 1) [(rowF s E (s.size + 1) [] t d).nd] (rowF s E (s.size + 1) [] t d).tk (rowF s E (s.size + 1) [] t d).d

def exprN : Nat → Tk → Int → Res
  | 0, t, d => errR 2 t d
  | n + 1, t, d => exprF s (exprN n) t d

/-- what is known of a result: its token stands at its place, no further left than a; the depth is as it was, if all went well -/
structure Fine (a d : Int) (r : Res) : Prop where
  tk : TkOk s r.tk
  ge : a ≤ r.tk.from_
  dep : r.err = 0 → r.d = d
end

section
variable {s : ByteArray}

theorem Fine.err {a d : Int} {t : Tk} {e : Int} {d' : Int} (h : TkOk s t) (ha : a ≤ t.from_) (he : e ≠ 0) : Fine s a d (errR e t d') := ⟨h, ha, fun h0 => absurd h0 he⟩
theorem Fine.lower {a a' d : Int} {r : Res} (h : Fine s a d r) (ha : a' ≤ a) : Fine s a' d r := ⟨h.tk, Int.le_trans ha h.ge, h.dep⟩

theorem TkOk.next {t : Tk} (h : TkOk s t) : TkOk s (nextT s t.to) ∧ t.to ≤ (nextT s t.to).from_ :=
  nextT_ok s t.to (by have := h.from0; have := h.le; omega) h.size

theorem signsF_fine : ∀ (k : Nat) (n : Nd) (t : Tk), TkOk s t → TkOk s (signsF s k n t).2 ∧ t.from_ ≤ (signsF s k n t).2.from_
  | 0, _, _, h => ⟨h, Int.le_refl _⟩
  | k + 1, n, t, h => by
    unfold signsF
    split
    · have hn := h.next
      have hi := signsF_fine k ⟨repK t.k, t.from_, ByteArray.empty, false, [n]⟩ _ hn.1
      have := h.le
      exact ⟨hi.1, by omega⟩
    · exact ⟨h, Int.le_refl _⟩

theorem withinF_fine {a d c : Int} {r : Res} (h : Fine s a (d + 1) r) : Fine s a d (withinF s r c) := by
  unfold withinF
  split
  · rename_i he
    exact .err h.tk h.ge he
  · split
    · exact .err h.tk h.ge (by omega)
    · rename_i he _
      have hn := h.tk.next
      have := h.tk.le
      have := h.ge
      have := h.dep (by omega)
      exact ⟨hn.1, by show a ≤ (nextT s r.tk.to).from_; omega, fun _ => by show r.d - 1 = d; omega⟩

/-- what is known of the parser of expressions, at depths beyond d -/
def FineE (s : ByteArray) (E : Tk → Int → Res) (d : Int) : Prop := ∀ t, TkOk s t → Fine s t.from_ d (E t d)

theorem namedT_fine {t : Tk} (h : TkOk s t) : TkOk s (namedT s t) ∧ t.from_ ≤ (namedT s t).from_ := by
  unfold namedT
  split
  · have h1 := h.next
    have h2 := h1.1.next
    have := h.le
    have := h1.1.le
    exact ⟨h2.1, by omega⟩
  · exact ⟨h, Int.le_refl _⟩

theorem singleF_fine {E : Tk → Int → Res} {d : Int} {t : Tk} (hE : d < 12 → FineE s E (d + 1)) (h : TkOk s t) (h2 : 2 ≤ t.k) :
    Fine s t.from_ d (singleF s E t d) ∧ ((singleF s E t d).err = 0 → t.from_ < (singleF s E t d).tk.from_) := by
  have hn := h.next
  have hlt := h.lt h2
  unfold singleF
  split
  · unfold bracketsF
    split
    · exact ⟨.err h (Int.le_refl _) (by omega), fun h0 => by simp [errR] at h0⟩
    · have hf := withinF_fine (c := 14) (hE (by omega) _ hn.1)
      exact ⟨hf.lower (by omega), fun _ => by have := hf.ge; omega⟩
  · split
    · unfold catchF
      split
      · exact ⟨.err h (Int.le_refl _) (by omega), fun h0 => by simp [errR] at h0⟩
      · split
        · have h3 := hn.1.next
          have := hn.1.le
          exact ⟨⟨h3.1, by show _ ≤ (nextT s (nextT s t.to).to).from_; omega, fun _ => rfl⟩, fun _ => by show _ < (nextT s (nextT s t.to).to).from_; omega⟩
        · have h3 := namedT_fine hn.1
          have hf := withinF_fine (c := 16) (hE (by omega) _ h3.1)
          have hg := hf.ge
          unfold partF
          split
          · rename_i he
            exact ⟨.err hf.tk (by omega) he, fun h0 => absurd h0 he⟩
          · rename_i he
            exact ⟨⟨hf.tk, by show _ ≤ (withinF s _ 16).tk.from_; omega, fun _ => hf.dep (by omega)⟩, fun _ => by show _ < (withinF s _ 16).tk.from_; omega⟩
    · exact ⟨⟨hn.1, by show _ ≤ (nextT s t.to).from_; omega, fun _ => rfl⟩, fun _ => by show _ < (nextT s t.to).from_; omega⟩

theorem repeatedF_fine {E : Tk → Int → Res} {d : Int} {t : Tk} (hE : d < 12 → FineE s E (d + 1)) (h : TkOk s t) (h2 : 2 ≤ t.k) :
    Fine s t.from_ d (repeatedF s E t d) ∧ ((repeatedF s E t d).err = 0 → t.from_ < (repeatedF s E t d).tk.from_) := by
  obtain ⟨hf, hl⟩ := singleF_fine hE h h2
  unfold repeatedF signedF
  split
  · rename_i he
    exact ⟨.err hf.tk hf.ge he, fun h0 => absurd h0 he⟩
  · rename_i he
    have he' : (singleF s E t d).err = 0 := by omega
    have hs := signsF_fine (s.size + 1) (singleF s E t d).nd _ hf.tk
    have := hl he'
    exact ⟨⟨hs.1, by show _ ≤ (signsF s _ _ _).2.from_; omega, fun _ => hf.dep he'⟩, fun _ => by show _ < (signsF s _ _ _).2.from_; omega⟩

theorem atIt_ge {t : Tk} (h : atIt s t = true) : 2 ≤ t.k := by
  unfold atIt at h
  simp at h
  omega

theorem itemF_fine {E : Tk → Int → Res} {d : Int} (hE : d < 12 → FineE s E (d + 1)) : ∀ (k : Nat) (t : Tk), TkOk s t → 2 ≤ t.k →
    Fine s t.from_ d (itemF s E k t d) ∧ ((itemF s E k t d).err = 0 → t.from_ < (itemF s E k t d).tk.from_)
  | 0, t, h, _ => ⟨.err h (Int.le_refl _) (by omega), fun h0 => by simp [itemF, errR] at h0⟩
  | k + 1, t, h, h2 => by
    have hn := h.next
    have hlt := h.lt h2
    unfold itemF
    split
    · split
      · rename_i ha
        obtain ⟨hf, hl⟩ := itemF_fine hE k _ hn.1 (atIt_ge ha)
        have hg := hf.ge
        unfold lookF
        split
        · rename_i he
          exact ⟨.err hf.tk (by omega) he, fun h0 => absurd h0 he⟩
        · rename_i he
          exact ⟨⟨hf.tk, by show _ ≤ (itemF s E k _ d).tk.from_; omega, fun _ => hf.dep (by omega)⟩, fun _ => by show _ < (itemF s E k _ d).tk.from_; omega⟩
      · exact ⟨.err hn.1 (by omega) (by omega), fun h0 => by simp [errR] at h0⟩
    · exact repeatedF_fine hE h h2

theorem rowF_fine {E : Tk → Int → Res} {d : Int} (hE : d < 12 → FineE s E (d + 1)) : ∀ (k : Nat) (acc : List Nd) (t : Tk), TkOk s t → Fine s t.from_ d (rowF s E k acc t d)
  | 0, _, t, h => .err h (Int.le_refl _) (by omega)
  | k + 1, acc, t, h => by
    unfold rowF
    split
    · rename_i ha
      obtain ⟨hf, hl⟩ := itemF_fine hE (s.size + 1) t h (atIt_ge ha)
      split
      · rename_i he
        exact .err hf.tk hf.ge he
      · rename_i he
        have hd := hf.dep (by omega)
        rw [hd]
        exact (rowF_fine hE k _ _ hf.tk).lower hf.ge
    · exact ⟨h, Int.le_refl _, fun _ => rfl⟩

theorem rowsF_fine {E : Tk → Int → Res} {d : Int} (hE : d < 12 → FineE s E (d + 1)) : ∀ (k : Nat) (acc : List Nd) (t : Tk), TkOk s t → Fine s t.from_ d (rowsF s E k acc t d)
  | 0, _, t, h => .err h (Int.le_refl _) (by omega)
  | k + 1, acc, t, h => by
    unfold rowsF
    split
    · have hn := h.next
      have := h.le
      have hf := (rowF_fine hE (s.size + 1) [] _ hn.1).lower (a' := t.from_) (by omega)
      split
      · rename_i he
        exact .err hf.tk hf.ge he
      · rename_i he
        have hd := hf.dep (by omega)
        rw [hd]
        exact (rowsF_fine hE k _ _ hf.tk).lower hf.ge
    · exact ⟨h, Int.le_refl _, fun _ => rfl⟩

theorem exprF_fine {E : Tk → Int → Res} {d : Int} (hE : d < 12 → FineE s E (d + 1)) : FineE s (exprF s E) d := by
  intro t h
  have hf := rowF_fine hE (s.size + 1) [] t h
  unfold exprF
  split
  · rename_i he
    exact .err hf.tk hf.ge he
  · rename_i he
    have hd := hf.dep (by omega)
    rw [hd]
    exact (rowsF_fine hE _ _ _ hf.tk).lower hf.ge

theorem exprN_fine : ∀ (n : Nat) (d : Int), 13 ≤ n + d → d ≤ 12 → FineE s (exprN s n) d
  | 0, d, h, h' => by omega
  | n + 1, d, h, h' => exprF_fine (E := exprN s n) fun hd => exprN_fine n (d + 1) (by omega) (by omega)
end
end Go.Proofs.Ytcgocmocceikdab

import Derived.Test.YtbojcemamhiodaaGreatDoorTree
namespace Go.Proofs.YtbojcemamhiodaaGreatDoor
open Go.RowKit

/-- what a method of the parser comes to -/
structure Res where
  err : Int
  nd : Nd
  tk : Tk
  d : Int

def errR (e : Int) (t : Tk) (d : Int) : Res := ⟨e, Nd.zero, t, d⟩
def nd0 (k : Int) (l : List Nd) : Nd := ⟨k, 0, ByteArray.empty, l⟩

/-- a row, or a choice, of what is in a list -/
def flatL (k : Int) : List Nd → List Nd
  | [] => []
  | n :: l => (if n.kind = k then n.kids else [n]) ++ flatL k l
def joinL (k : Int) : List Nd → Nd
  | [] => nd0 0 []
  | [n] => n
  | l => nd0 k l
def joinF (k : Int) (l : List Nd) : Nd := joinL k (flatL k l)

section
variable (s : ByteArray)

def signsF : Nat → Nd → Tk → Nd × Tk
  | 0, n, t => (n, t)
  | k + 1, n, t => if (t.k == 9 || t.k == 10 || t.k == 11) = true then signsF k ⟨repK t.k, t.from_, ByteArray.empty, [n]⟩ (nextT s t.to) else (n, t)

def withinF (r : Res) (c : Int) : Res :=
  if r.err ≠ 0 then errR r.err r.tk r.d else if r.tk.k ≠ c then errR 2 r.tk r.d else ⟨0, r.nd, nextT s r.tk.to, r.d - 1⟩

def bracketsF (E : Tk → Int → Res) (t : Tk) (d : Int) : Res :=
  if 12 ≤ d then errR 3 t d else withinF s (E (nextT s t.to) (d + 1)) 14

def partF (nm : ByteArray) (r : Res) : Res := if r.err ≠ 0 then errR r.err r.tk r.d else ⟨0, ⟨4, 0, nm, [r.nd]⟩, r.tk, r.d⟩
def namedN (t : Tk) : ByteArray := if nmBefore s t 17 = true then t.of s else ByteArray.empty
def namedT (t : Tk) : Tk := if nmBefore s t 17 = true then nextT s (nextT s t.to).to else t
def catchF (E : Tk → Int → Res) (t : Tk) (d : Int) : Res :=
  if 12 ≤ d then errR 3 t d else
  if (nextT s t.to).k = 16 then ⟨0, nd0 3 [], nextT s (nextT s t.to).to, d⟩ else
  partF (namedN s (nextT s t.to)) (withinF s (E (namedT s (nextT s t.to)) (d + 1)) 16)

def leafF (t : Tk) : Nd :=
  if t.k = 2 then ⟨2, t.from_, t.of s, []⟩ else if t.k = 4 then ⟨0, 0, t.bytes s, []⟩ else ⟨1, 0, t.bytes s, []⟩

def singleF (E : Tk → Int → Res) (t : Tk) (d : Int) : Res :=
  if t.k = 13 then bracketsF s E t d else if t.k = 15 then catchF s E t d else ⟨0, leafF s t, nextT s t.to, d⟩

def signedF (r : Res) : Res :=
  if r.err ≠ 0 then errR r.err r.tk r.d else ⟨0, (signsF s (s.size + 1) r.nd r.tk).1, (signsF s (s.size + 1) r.nd r.tk).2, r.d⟩
def repeatedF (E : Tk → Int → Res) (t : Tk) (d : Int) : Res := signedF s (singleF s E t d)

def lookF (k : Int) (r : Res) : Res := if r.err ≠ 0 then errR r.err r.tk r.d else ⟨0, nd0 k [r.nd], r.tk, r.d⟩
def itemF (E : Tk → Int → Res) : Nat → Tk → Int → Res
  | 0, t, d => errR 2 t d
  | k + 1, t, d =>
    if t.k = 7 ∨ t.k = 8 then
      if atIt s (nextT s t.to) = true then lookF t.k (itemF E k (nextT s t.to) d) else errR 2 (nextT s t.to) d
    else repeatedF s E t d

def rowF (E : Tk → Int → Res) : Nat → List Nd → Tk → Int → Res
  | 0, _, t, d => errR 2 t d
  | k + 1, acc, t, d =>
    if atIt s t = true then
      if (itemF s E (s.size + 1) t d).err ≠ 0 then errR (itemF s E (s.size + 1) t d).err (itemF s E (s.size + 1) t d).tk (itemF s E (s.size + 1) t d).d
      else rowF E k (acc ++ [(itemF s E (s.size + 1) t d).nd]) (itemF s E (s.size + 1) t d).tk (itemF s E (s.size + 1) t d).d
    else ⟨0, joinF 5 acc, t, d⟩

def rowsF (E : Tk → Int → Res) : Nat → List Nd → Tk → Int → Res
  | 0, _, t, d => errR 2 t d
  | k + 1, acc, t, d =>
    if t.k = 6 then
      if (rowF s E (s.size + 1) [] (nextT s t.to) d).err ≠ 0 then errR (rowF s E (s.size + 1) [] (nextT s t.to) d).err (rowF s E (s.size + 1) [] (nextT s t.to) d).tk (rowF s E (s.size + 1) [] (nextT s t.to) d).d
      else rowsF E k (acc ++ [(rowF s E (s.size + 1) [] (nextT s t.to) d).nd]) (rowF s E (s.size + 1) [] (nextT s t.to) d).tk (rowF s E (s.size + 1) [] (nextT s t.to) d).d
    else ⟨0, joinF 6 acc, t, d⟩

def exprF (E : Tk → Int → Res) (t : Tk) (d : Int) : Res :=
  if (rowF s E (s.size + 1) [] t d).err ≠ 0 then errR (rowF s E (s.size + 1) [] t d).err (rowF s E (s.size + 1) [] t d).tk (rowF s E (s.size + 1) [] t d).d
  else rowsF s E (s.size + 1) [(rowF s E (s.size + 1) [] t d).nd] (rowF s E (s.size + 1) [] t d).tk (rowF s E (s.size + 1) [] t d).d

def exprN : Nat → Tk → Int → Res
  | 0, t, d => errR 2 t d
  | n + 1, t, d => exprF s (exprN n) t d

/-- rows and choices are of two or more -/
def WideN (n : Nd) : Prop := (n.kind = 5 ∨ n.kind = 6) → 2 ≤ n.kids.length

/-- what is known of a result: its token stands at its place, no further left than a; the depth is as it was, if all went well; it is no wider than what was read -/
structure Fine (a d : Int) (r : Res) : Prop where
  tk : TkOk s r.tk
  ge : a ≤ r.tk.from_
  dep : r.err = 0 → r.d = d
  len : (r.nd.kids.length : Int) + a ≤ r.tk.from_ + 1
  wide : WideN r.nd
/-- of an item: it has taken something -/
structure FineI (a d : Int) (r : Res) : Prop where
  fine : Fine s a d r
  lt : r.err = 0 → a < r.tk.from_
  kid : (r.nd.kids.length : Int) + a ≤ r.tk.from_
end

theorem flatL_append (k : Int) : ∀ (l m : List Nd), flatL k (l ++ m) = flatL k l ++ flatL k m
  | [], m => rfl
  | n :: l, m => by simp only [List.cons_append, flatL, flatL_append k l m, List.append_assoc]
theorem flatL_one (k : Int) (n : Nd) (b : Int) (h1 : 1 ≤ b) (h2 : n.kids.length ≤ b) : ((flatL k [n]).length : Int) ≤ b := by
  simp only [flatL, List.append_nil]
  split
  · exact h2
  · simp; omega
theorem flatL_single {k : Int} (hk : k = 5 ∨ k = 6) : ∀ {acc : List Nd} {n : Nd}, (∀ m ∈ acc, WideN m) → flatL k acc = [n] → n ∈ acc
  | [], n, _, h => by simp [flatL] at h
  | m :: l, n, hw, h => by
    simp only [flatL] at h
    split at h
    · rename_i hm
      have hw' := hw m (by simp) (by omega)
      have := congrArg List.length h
      simp at this
      omega
    · simp at h
      simp [h.1]
theorem joinF_facts {k : Int} (hk : k = 5 ∨ k = 6) {acc : List Nd} {b : Int} (hw : ∀ n ∈ acc, WideN n) (h0 : 0 ≤ b) (hf : ((flatL k acc).length : Int) ≤ b) (hn : ∀ n ∈ acc, (n.kids.length : Int) ≤ b) :
    WideN (joinF k acc) ∧ ((joinF k acc).kids.length : Int) ≤ b := by
  unfold joinF
  generalize hl : flatL k acc = l at hf
  match l, hf with
  | [], _ => exact ⟨fun h => by simp [joinL, nd0] at h, by simpa [joinL, nd0] using h0⟩
  | [n], _ =>
    have hm := flatL_single hk hw hl
    exact ⟨hw n hm, hn n hm⟩
  | n :: m :: l, hf => exact ⟨fun _ => by simp [joinL, nd0], by simpa [joinL, nd0] using hf⟩

section
variable {s : ByteArray}

theorem WideN.zero : WideN Nd.zero := fun h => by simp [Nd.zero] at h
theorem Fine.err {a d : Int} {t : Tk} {e : Int} {d' : Int} (h : TkOk s t) (ha : a ≤ t.from_) (he : e ≠ 0) : Fine s a d (errR e t d') :=
  ⟨h, ha, fun h0 => absurd h0 he, by simp [errR, Nd.zero]; omega, WideN.zero⟩
theorem FineI.err {a d : Int} {t : Tk} {e : Int} {d' : Int} (h : TkOk s t) (ha : a ≤ t.from_) (he : e ≠ 0) : FineI s a d (errR e t d') :=
  ⟨.err h ha he, fun h0 => absurd h0 he, by simp [errR, Nd.zero]; omega⟩
theorem Fine.lower {a a' d : Int} {r : Res} (h : Fine s a d r) (ha : a' ≤ a) : Fine s a' d r := ⟨h.tk, Int.le_trans ha h.ge, h.dep, by have := h.len; omega, h.wide⟩

theorem TkOk.next {t : Tk} (h : TkOk s t) : TkOk s (nextT s t.to) ∧ t.to ≤ (nextT s t.to).from_ :=
  nextT_ok s t.to (by have := h.from0; have := h.le; omega) h.size

theorem repK_ge (k : Int) : 9 ≤ repK k := by unfold repK; repeat' split <;> omega
theorem signsF_fine : ∀ (k : Nat) (n : Nd) (t : Tk), TkOk s t → TkOk s (signsF s k n t).2 ∧ t.from_ ≤ (signsF s k n t).2.from_ ∧
    ((WideN n → WideN (signsF s k n t).1) ∧ ∀ b : Int, 1 ≤ b → n.kids.length ≤ b → ((signsF s k n t).1.kids.length : Int) ≤ b)
  | 0, _, _, h => ⟨h, Int.le_refl _, fun h => h, fun _ _ h => h⟩
  | k + 1, n, t, h => by
    unfold signsF
    split
    · have hn := h.next
      have hi := signsF_fine k ⟨repK t.k, t.from_, ByteArray.empty, [n]⟩ _ hn.1
      have := h.le
      refine ⟨hi.1, by omega, fun _ => hi.2.2.1 fun h => ?_, fun b h1 _ => hi.2.2.2 b h1 (by simpa using h1)⟩
      have := repK_ge t.k
      simp at h
      omega
    · exact ⟨h, Int.le_refl _, fun h => h, fun _ _ h => h⟩

theorem withinF_fine {a d c : Int} {r : Res} (h : Fine s a (d + 1) r) : Fine s a d (withinF s r c) ∧ ((withinF s r c).err = 0 → (withinF s r c).nd = r.nd ∧ r.tk.from_ ≤ (withinF s r c).tk.from_ ∧ (2 ≤ c → r.tk.from_ < (withinF s r c).tk.from_)) := by
  unfold withinF
  split
  · rename_i he
    exact ⟨.err h.tk h.ge he, fun h0 => absurd h0 he⟩
  · split
    · exact ⟨.err h.tk h.ge (by omega), fun h0 => by simp [errR] at h0⟩
    · rename_i he hc
      have hn := h.tk.next
      have := h.tk.le
      have := h.ge
      have := h.dep (by omega)
      have := h.len
      have hlt := h.tk.lt
      refine ⟨⟨hn.1, by show a ≤ (nextT s r.tk.to).from_; omega, fun _ => by show r.d - 1 = d; omega, by show (r.nd.kids.length : Int) + a ≤ (nextT s r.tk.to).from_ + 1; omega, h.wide⟩, fun _ => ⟨rfl, by show _ ≤ (nextT s r.tk.to).from_; omega, fun h2 => ?_⟩⟩
      have := hlt (by omega)
      show _ < (nextT s r.tk.to).from_
      omega

/-- what is known of the parser of expressions, at depths beyond d -/
def FineE (s : ByteArray) (E : Tk → Int → Res) (d : Int) : Prop := ∀ t, TkOk s t → Fine s t.from_ d (E t d)

theorem namedT_fine {t : Tk} (h : TkOk s t) : TkOk s (namedT s t) ∧ t.from_ ≤ (namedT s t).from_ := by
  unfold namedT
  split
  · have h1 := h.next
    have h2 := h1.1.next
    have := h.le
    have := h1.1.le
    exact ⟨h2.1, by omega⟩
  · exact ⟨h, Int.le_refl _⟩

theorem leafF_facts (s : ByteArray) (t : Tk) : (leafF s t).kids = [] ∧ WideN (leafF s t) := by
  unfold leafF WideN
  split
  · exact ⟨rfl, fun h => by simp at h⟩
  · split
    · exact ⟨rfl, fun h => by simp at h⟩
    · exact ⟨rfl, fun h => by simp at h⟩

theorem singleF_fine {E : Tk → Int → Res} {d : Int} {t : Tk} (hE : d < 12 → FineE s E (d + 1)) (h : TkOk s t) (h2 : 2 ≤ t.k) : FineI s t.from_ d (singleF s E t d) := by
  have hn := h.next
  have hlt := h.lt h2
  unfold singleF
  split
  · unfold bracketsF
    split
    · exact .err h (Int.le_refl _) (by omega)
    · obtain ⟨hf, hf2⟩ := withinF_fine (c := 14) (hE (by omega) _ hn.1)
      have hg := hf.ge
      have hl := hf.len
      exact ⟨hf.lower (by omega), fun _ => by omega, by omega⟩
  · split
    · unfold catchF
      split
      · exact .err h (Int.le_refl _) (by omega)
      · split
        · have h3 := hn.1.next
          have := hn.1.le
          refine ⟨⟨h3.1, ?_, fun _ => rfl, ?_, ?_⟩, fun _ => ?_, ?_⟩
          · show _ ≤ (nextT s (nextT s t.to).to).from_; omega
          · show (([] : List Nd).length : Int) + _ ≤ (nextT s (nextT s t.to).to).from_ + 1; simp; omega
          · intro h; simp [nd0] at h
          · show _ < (nextT s (nextT s t.to).to).from_; omega
          · show (([] : List Nd).length : Int) + _ ≤ (nextT s (nextT s t.to).to).from_; simp; omega
        · have h3 := namedT_fine hn.1
          obtain ⟨hf, hf2⟩ := withinF_fine (c := 16) (hE (by omega) _ h3.1)
          have hg := hf.ge
          unfold partF
          split
          · rename_i he
            exact .err hf.tk (by omega) he
          · rename_i he
            refine ⟨⟨hf.tk, ?_, fun _ => hf.dep (by omega), ?_, ?_⟩, fun _ => ?_, ?_⟩
            · show _ ≤ (withinF s _ 16).tk.from_; omega
            · show (1 : Int) + _ ≤ (withinF s _ 16).tk.from_ + 1; omega
            · intro h; simp at h
            · show _ < (withinF s _ 16).tk.from_; omega
            · show (1 : Int) + _ ≤ (withinF s _ 16).tk.from_; omega
    · obtain ⟨hl1, hl2⟩ := leafF_facts s t
      refine ⟨⟨hn.1, ?_, fun _ => rfl, ?_, hl2⟩, fun _ => ?_, ?_⟩
      · show _ ≤ (nextT s t.to).from_; omega
      · show ((leafF s t).kids.length : Int) + _ ≤ (nextT s t.to).from_ + 1; rw [hl1]; simp; omega
      · show _ < (nextT s t.to).from_; omega
      · show ((leafF s t).kids.length : Int) + _ ≤ (nextT s t.to).from_; rw [hl1]; simp; omega

theorem repeatedF_fine {E : Tk → Int → Res} {d : Int} {t : Tk} (hE : d < 12 → FineE s E (d + 1)) (h : TkOk s t) (h2 : 2 ≤ t.k) : FineI s t.from_ d (repeatedF s E t d) := by
  obtain ⟨hf, hl, hkd⟩ := singleF_fine hE h h2
  unfold repeatedF signedF
  split
  · rename_i he
    exact .err hf.tk hf.ge he
  · rename_i he
    have he' : (singleF s E t d).err = 0 := by omega
    have hs := signsF_fine (s.size + 1) (singleF s E t d).nd _ hf.tk
    have hb := hs.2.2.2 ((singleF s E t d).tk.from_ - t.from_) (by have := hl he'; omega) (by omega)
    have := hl he'
    refine ⟨⟨hs.1, ?_, fun _ => hf.dep he', ?_, hs.2.2.1 hf.wide⟩, fun _ => ?_, ?_⟩
    · show _ ≤ (signsF s _ _ _).2.from_; omega
    · show ((signsF s _ _ _).1.kids.length : Int) + _ ≤ (signsF s _ _ _).2.from_ + 1; omega
    · show _ < (signsF s _ _ _).2.from_; omega
    · show ((signsF s _ _ _).1.kids.length : Int) + _ ≤ (signsF s _ _ _).2.from_; omega

theorem atIt_ge {t : Tk} (h : atIt s t = true) : 2 ≤ t.k := by
  unfold atIt at h
  simp at h
  omega

theorem itemF_fine {E : Tk → Int → Res} {d : Int} (hE : d < 12 → FineE s E (d + 1)) : ∀ (k : Nat) (t : Tk), TkOk s t → 2 ≤ t.k → FineI s t.from_ d (itemF s E k t d)
  | 0, t, h, _ => .err h (Int.le_refl _) (by omega)
  | k + 1, t, h, h2 => by
    have hn := h.next
    have hlt := h.lt h2
    unfold itemF
    split
    · rename_i hlk
      split
      · rename_i ha
        obtain ⟨hf, hl, hkd⟩ := itemF_fine hE k _ hn.1 (atIt_ge ha)
        have hg := hf.ge
        unfold lookF
        split
        · rename_i he
          exact .err hf.tk (by omega) he
        · rename_i he
          refine ⟨⟨hf.tk, ?_, fun _ => hf.dep (by omega), ?_, ?_⟩, fun _ => ?_, ?_⟩
          · show _ ≤ (itemF s E k _ d).tk.from_; omega
          · show (1 : Int) + _ ≤ (itemF s E k _ d).tk.from_ + 1; omega
          · intro h; simp [nd0] at h; omega
          · show _ < (itemF s E k _ d).tk.from_; omega
          · show (1 : Int) + _ ≤ (itemF s E k _ d).tk.from_; omega
      · exact .err hn.1 (by omega) (by omega)
    · exact repeatedF_fine hE h h2

/-- what is known of the items, or rows, so far -/
structure AccOk (k a b : Int) (acc : List Nd) : Prop where
  wide : ∀ n ∈ acc, WideN n
  flat : ((flatL k acc).length : Int) + a ≤ b
  kids : ∀ n ∈ acc, (n.kids.length : Int) + a ≤ b
theorem AccOk.nil {k a b : Int} (h : a ≤ b) : AccOk k a b [] := ⟨by simp, by simpa [flatL] using h, by simp⟩
theorem AccOk.snoc {k a b c e : Int} {acc : List Nd} {n : Nd} (h : AccOk k a b acc) (hw : WideN n) (h1 : b + 1 ≤ c) (h2 : n.kids.length + e ≤ c) (he : b ≤ e) (ha : a ≤ e) : AccOk k a c (acc ++ [n]) := by
  refine ⟨fun m hm => ?_, ?_, fun m hm => ?_⟩
  · simp at hm
    rcases hm with hm | rfl
    · exact h.wide m hm
    · exact hw
  · rw [flatL_append, List.length_append]
    have h3 := flatL_one k n (c - b) (by omega) (by omega)
    have := h.flat
    omega
  · simp at hm
    rcases hm with hm | rfl
    · have := h.kids m hm; omega
    · omega
theorem AccOk.join {k a b : Int} {acc : List Nd} (h : AccOk k a b acc) (hk : k = 5 ∨ k = 6) (hab : a ≤ b) : WideN (joinF k acc) ∧ ((joinF k acc).kids.length : Int) + a ≤ b := by
  have := joinF_facts hk (b := b - a) h.wide (by omega) (by have := h.flat; omega) (fun n hn => by have := h.kids n hn; omega)
  exact ⟨this.1, by omega⟩

theorem rowF_fine {E : Tk → Int → Res} {d a : Int} (hE : d < 12 → FineE s E (d + 1)) : ∀ (k : Nat) (acc : List Nd) (t : Tk), TkOk s t → a ≤ t.from_ → AccOk 5 a t.from_ acc →
    Fine s a d (rowF s E k acc t d) ∧ ((rowF s E k acc t d).nd.kids.length : Int) + a ≤ (rowF s E k acc t d).tk.from_
  | 0, _, t, h, ha, _ => ⟨.err h ha (by omega), by simpa [rowF, errR, Nd.zero] using ha⟩
  | k + 1, acc, t, h, hat, hacc => by
    unfold rowF
    split
    · rename_i ha
      obtain ⟨hf, hl, hkd⟩ := itemF_fine hE (s.size + 1) t h (atIt_ge ha)
      have hg := hf.ge
      split
      · rename_i he
        exact ⟨.err hf.tk (by omega) he, by simp [errR, Nd.zero]; omega⟩
      · rename_i he
        have hd := hf.dep (by omega)
        have hl' := hl (by omega)
        rw [hd]
        exact rowF_fine hE k _ _ hf.tk (by omega) (hacc.snoc (e := t.from_) hf.wide (by omega) (by omega) (Int.le_refl _) hat)
    · have hj := hacc.join (.inl rfl) hat
      exact ⟨⟨h, hat, fun _ => rfl, by show ((joinF 5 acc).kids.length : Int) + a ≤ t.from_ + 1; omega, hj.1⟩, hj.2⟩

theorem rowsF_fine {E : Tk → Int → Res} {d a : Int} (hE : d < 12 → FineE s E (d + 1)) : ∀ (k : Nat) (acc : List Nd) (t : Tk), TkOk s t → a ≤ t.from_ → AccOk 6 a (t.from_ + 1) acc → Fine s a d (rowsF s E k acc t d)
  | 0, _, t, h, ha, _ => .err h ha (by omega)
  | k + 1, acc, t, h, hat, hacc => by
    unfold rowsF
    split
    · rename_i h6
      have hn := h.next
      have := h.lt (by omega)
      obtain ⟨hf, hk⟩ := rowF_fine hE (s.size + 1) [] _ hn.1 (Int.le_refl _) (.nil (Int.le_refl _))
      have hg := hf.ge
      split
      · rename_i he
        exact .err hf.tk (by omega) he
      · rename_i he
        have hd := hf.dep (by omega)
        rw [hd]
        exact rowsF_fine hE k _ _ hf.tk (by omega) (hacc.snoc (e := (nextT s t.to).from_) hf.wide (by omega) (by omega) (by omega) (by omega))
    · have hj := hacc.join (.inr rfl) (by omega)
      exact ⟨h, hat, fun _ => rfl, hj.2, hj.1⟩

theorem exprF_fine {E : Tk → Int → Res} {d : Int} (hE : d < 12 → FineE s E (d + 1)) : FineE s (exprF s E) d := by
  intro t h
  obtain ⟨hf, hk⟩ := rowF_fine hE (s.size + 1) [] t h (Int.le_refl _) (.nil (Int.le_refl _))
  have hg := hf.ge
  unfold exprF
  split
  · rename_i he
    exact .err hf.tk hf.ge he
  · rename_i he
    have hd := hf.dep (by omega)
    rw [hd]
    refine rowsF_fine hE _ _ _ hf.tk hg ?_
    have := (AccOk.nil (k := 6) (a := t.from_) (b := t.from_) (Int.le_refl _)).snoc (c := (rowF s E (s.size + 1) [] t d).tk.from_ + 1) (e := t.from_) hf.wide (by omega) (by omega) (Int.le_refl _) (Int.le_refl _)
    simpa using this

theorem exprN_fine : ∀ (n : Nat) (d : Int), 13 ≤ n + d → d ≤ 12 → FineE s (exprN s n) d
  | 0, d, h, h' => by omega
  | n + 1, d, h, h' => exprF_fine (E := exprN s n) fun hd => exprN_fine n (d + 1) (by omega) (by omega)
end
end Go.Proofs.YtbojcemamhiodaaGreatDoor

import Derived.Test.YtbojcemamhiodaaExa
import Derived.Test.YtbojcemamhiodaaComp
namespace Go.Proofs.Ytbojcemamhiodaa

theorem szN_pos (n : Nd) : 1 ≤ szN n := by rw [szN_def]; omega
theorem szNL_flat (k : Int) : ∀ l, szNL (flatL k l) ≤ szNL l
  | [] => Nat.le_refl _
  | n :: l => by
    have ih := szNL_flat k l
    rw [flatL, szNL_append, szNL_cons]
    split
    · rw [szN_def]; omega
    · rw [szNL_cons]
      show szN n + 0 + _ ≤ _
      omega
theorem szN_nd0 (k : Int) (l : List Nd) : szN (nd0 k l) = 1 + szNL l := szN_def _
theorem szN_joinL (k : Int) : ∀ l, szN (joinL k l) ≤ 1 + szNL l
  | [] => by rw [joinL, szN_nd0]; exact Nat.le_refl _
  | [n] => by
    rw [joinL, szNL_cons]
    omega
  | a :: b :: l => by
    show szN (nd0 k (a :: b :: l)) ≤ _
    rw [szN_nd0]
    exact Nat.le_refl _
theorem szN_join (k : Int) (l : List Nd) : szN (joinF k l) ≤ 1 + szNL l := by
  have h1 := szN_joinL k (flatL k l)
  have h2 := szNL_flat k l
  unfold joinF
  omega
theorem szN_join1 (k : Int) (n : Nd) : szN (joinF k [n]) ≤ szN n := by
  unfold joinF
  by_cases h : n.kind = k
  · rw [show flatL k [n] = n.kids by simp [flatL, h], szN_def n]
    exact szN_joinL k n.kids
  · rw [show flatL k [n] = [n] by simp [flatL, h]]
    exact Nat.le_refl _

/-- no more parts than twice what was read, and one -/
def SzE (a : Int) (r : Res) : Prop := r.err = 0 → (szN r.nd : Int) + 2 * a ≤ 2 * r.tk.from_ + 1
/-- of an item: one less -/
def SzI (a : Int) (r : Res) : Prop := r.err = 0 → (szN r.nd : Int) + 2 * a + 1 ≤ 2 * r.tk.from_
theorem SzE.err {a : Int} {e : Int} {t : Tk} {d : Int} (h : e ≠ 0) : SzE a (errR e t d) := fun h0 => absurd h0 h
theorem SzI.err {a : Int} {e : Int} {t : Tk} {d : Int} (h : e ≠ 0) : SzI a (errR e t d) := fun h0 => absurd h0 h
def SzEE (s : ByteArray) (E : Tk → Int → Res) (d : Int) : Prop := ∀ t, TkOk s t → SzE t.from_ (E t d)
section
variable {s : ByteArray}
theorem signsF_sz : ∀ (k : Nat) (n : Nd) (t : Tk), TkOk s t → (szN (signsF s k n t).1 : Int) + t.from_ ≤ szN n + (signsF s k n t).2.from_
  | 0, _, _, _ => Int.le_refl _
  | k + 1, n, t, h => by
    unfold signsF
    split
    · rename_i hk
      have hn := h.next
      have hlt := h.lt (by simp at hk; omega)
      have ih := signsF_sz k ⟨repK t.k, t.from_, ByteArray.empty, [n]⟩ _ hn.1
      have e : szN (⟨repK t.k, t.from_, ByteArray.empty, [n]⟩ : Nd) = 1 + szN n := by
        rw [szN_def]
        show 1 + szNL [n] = _
        rw [szNL_cons]
        show 1 + (szN n + 0) = _
        omega
      omega
    · exact Int.le_refl _
theorem withinF_sz {a d c : Int} {r : Res} (h : Fine s a (d + 1) r) (hz : SzE a r) (hc : 2 ≤ c) (h0 : (withinF s r c).err = 0) : (szN (withinF s r c).nd : Int) + 2 * a + 1 ≤ 2 * (withinF s r c).tk.from_ := by
  obtain ⟨h1, h2⟩ := withinF_fine (c := c) h
  obtain ⟨e1, e2, e3⟩ := h2 h0
  have e4 := e3 hc
  have he : r.err = 0 := by
    unfold withinF at h0
    split at h0
    · rename_i hx
      exact absurd h0 hx
    · omega
  have := hz he
  rw [e1]
  omega
theorem singleF_sz {E : Tk → Int → Res} {d : Int} {t : Tk} (hE : d < 12 → FineE s E (d + 1)) (hS : d < 12 → SzEE s E (d + 1)) (h : TkOk s t) (h2 : 2 ≤ t.k) : SzI t.from_ (singleF s E t d) := by
  have hn := h.next
  have hlt := h.lt h2
  unfold singleF
  split
  · unfold bracketsF
    split
    · exact SzI.err (by omega)
    · intro h0
      have := withinF_sz (c := 14) (hE (by omega) _ hn.1) (hS (by omega) _ hn.1) (by omega) h0
      omega
  · split
    · unfold catchF
      split
      · exact SzI.err (by omega)
      · split
        · intro _
          have h3 := hn.1.next
          have := hn.1.le
          have e : szN (nd0 3 []) = 1 := szN_nd0 3 []
          show (szN (nd0 3 []) : Int) + _ + 1 ≤ 2 * (nextT s (nextT s t.to).to).from_
          rw [e]
          omega
        · have h3 := namedT_fine hn.1
          have key := withinF_sz (c := 16) (hE (by omega) _ h3.1) (hS (by omega) _ h3.1) (by omega)
          unfold partF
          split
          · rename_i he
            exact SzI.err he
          · rename_i he
            intro _
            have key := key (by omega)
            have e : ∀ (nm : ByteArray) (x : Nd), szN (⟨4, 0, nm, [x]⟩ : Nd) = 1 + szN x := fun nm x => by
              rw [szN_def]
              show 1 + szNL [x] = _
              rw [szNL_cons]
              show 1 + (szN x + 0) = _
              omega
            show (szN (⟨4, 0, _, [_]⟩ : Nd) : Int) + _ + 1 ≤ 2 * (withinF s _ 16).tk.from_
            rw [e]
            omega
    · intro _
      obtain ⟨hl1, _⟩ := leafF_facts s t
      show (szN (leafF s t) : Int) + _ + 1 ≤ 2 * (nextT s t.to).from_
      rw [szN_def, hl1]
      show ((1 + 0 : Nat) : Int) + _ + 1 ≤ _
      omega
theorem repeatedF_sz {E : Tk → Int → Res} {d : Int} {t : Tk} (hE : d < 12 → FineE s E (d + 1)) (hS : d < 12 → SzEE s E (d + 1)) (h : TkOk s t) (h2 : 2 ≤ t.k) : SzI t.from_ (repeatedF s E t d) := by
  obtain ⟨hf, hl, hkd⟩ := singleF_fine hE h h2
  have hz := singleF_sz hE hS h h2
  unfold repeatedF signedF
  split
  · rename_i he
    exact SzI.err he
  · rename_i he
    intro _
    have h1 := hz (by omega)
    have h3 := signsF_sz (s.size + 1) (singleF s E t d).nd _ hf.tk
    have hs := signsF_fine (s.size + 1) (singleF s E t d).nd _ hf.tk
    show (szN (signsF s _ _ _).1 : Int) + _ + 1 ≤ 2 * (signsF s _ _ _).2.from_
    omega
theorem itemF_sz {E : Tk → Int → Res} {d : Int} (hE : d < 12 → FineE s E (d + 1)) (hS : d < 12 → SzEE s E (d + 1)) : ∀ (k : Nat) (t : Tk), TkOk s t → 2 ≤ t.k → SzI t.from_ (itemF s E k t d)
  | 0, t, h, _ => SzI.err (by omega)
  | k + 1, t, h, h2 => by
    have hn := h.next
    have hlt := h.lt h2
    unfold itemF
    split
    · split
      · rename_i ha
        have hz := itemF_sz hE hS k _ hn.1 (atIt_ge ha)
        unfold lookF
        split
        · rename_i he
          exact SzI.err he
        · rename_i he
          intro _
          have h1 := hz (by omega)
          show (szN (nd0 t.k [_]) : Int) + _ + 1 ≤ 2 * (itemF s E k _ d).tk.from_
          rw [szN_nd0, szNL_cons]
          show ((1 + (szN _ + 0) : Nat) : Int) + _ + 1 ≤ _
          omega
      · exact SzI.err (by omega)
    · exact repeatedF_sz hE hS h h2
theorem rowF_sz {E : Tk → Int → Res} {d a : Int} (hE : d < 12 → FineE s E (d + 1)) (hS : d < 12 → SzEE s E (d + 1)) : ∀ (k : Nat) (acc : List Nd) (t : Tk), TkOk s t → a ≤ t.from_ → (szNL acc : Int) + 2 * a ≤ 2 * t.from_ → SzE a (rowF s E k acc t d)
  | 0, _, t, h, ha, _ => SzE.err (by omega)
  | k + 1, acc, t, h, hat, hacc => by
    unfold rowF
    split
    · rename_i ha
      obtain ⟨hf, hl, hkd⟩ := itemF_fine hE (s.size + 1) t h (atIt_ge ha)
      have hz := itemF_sz hE hS (s.size + 1) t h (atIt_ge ha)
      have hg := hf.ge
      split
      · rename_i he
        exact SzE.err he
      · rename_i he
        have hd := hf.dep (by omega)
        have h1 := hz (by omega)
        rw [hd]
        refine rowF_sz hE hS k _ _ hf.tk (by omega) ?_
        rw [szNL_append, szNL_cons]
        show ((szNL acc + (szN _ + 0) : Nat) : Int) + _ ≤ _
        omega
    · intro _
      have := szN_join 5 acc
      show (szN (joinF 5 acc) : Int) + 2 * a ≤ 2 * t.from_ + 1
      omega
theorem rowsF_sz {E : Tk → Int → Res} {d a : Int} (hE : d < 12 → FineE s E (d + 1)) (hS : d < 12 → SzEE s E (d + 1)) : ∀ (k : Nat) (acc : List Nd) (t : Tk), TkOk s t → a ≤ t.from_ → (szNL acc : Int) + 2 * a ≤ 2 * t.from_ + 1 → (2 ≤ acc.length → (szNL acc : Int) + 2 * a ≤ 2 * t.from_) → 1 ≤ acc.length → SzE a (rowsF s E k acc t d)
  | 0, _, t, h, ha, _, _, _ => SzE.err (by omega)
  | k + 1, acc, t, h, hat, h1, h2, h3 => by
    unfold rowsF
    split
    · rename_i h6
      have hn := h.next
      have := h.lt (by omega)
      obtain ⟨hf, hk⟩ := rowF_fine hE (s.size + 1) [] _ hn.1 (Int.le_refl _) (.nil (Int.le_refl _))
      have hz := rowF_sz (a := (nextT s t.to).from_) hE hS (s.size + 1) [] _ hn.1 (Int.le_refl _) (by show ((0 : Nat) : Int) + _ ≤ _; omega)
      have hg := hf.ge
      split
      · rename_i he
        exact SzE.err he
      · rename_i he
        have hd := hf.dep (by omega)
        have h4 := hz (by omega)
        rw [hd]
        have key : (szNL (acc ++ [(rowF s E (s.size + 1) [] (nextT s t.to) d).nd]) : Int) + 2 * a ≤ 2 * (rowF s E (s.size + 1) [] (nextT s t.to) d).tk.from_ := by
          rw [szNL_append, szNL_cons]
          show ((szNL acc + (szN _ + 0) : Nat) : Int) + _ ≤ _
          omega
        exact rowsF_sz hE hS k _ _ hf.tk (by omega) (by omega) (fun _ => key) (by simp)
    · intro _
      show (szN (joinF 6 acc) : Int) + 2 * a ≤ 2 * t.from_ + 1
      by_cases hl : 2 ≤ acc.length
      · have := szN_join 6 acc
        have := h2 hl
        omega
      · match acc, h1, h3, hl with
        | [n], h1, _, _ =>
          have := szN_join1 6 n
          rw [szNL_cons] at h1
          have h1' : ((szN n + 0 : Nat) : Int) + 2 * a ≤ 2 * t.from_ + 1 := h1
          omega
        | [], _, h3, _ => simp at h3
        | _ :: _ :: _, _, _, hl => simp at hl
theorem exprF_sz {E : Tk → Int → Res} {d : Int} (hE : d < 12 → FineE s E (d + 1)) (hS : d < 12 → SzEE s E (d + 1)) : SzEE s (exprF s E) d := by
  intro t h
  obtain ⟨hf, hk⟩ := rowF_fine hE (s.size + 1) [] t h (Int.le_refl _) (.nil (Int.le_refl _))
  have hz := rowF_sz (a := t.from_) hE hS (s.size + 1) [] t h (Int.le_refl _) (by show ((0 : Nat) : Int) + _ ≤ _; omega)
  have hg := hf.ge
  unfold exprF
  split
  · rename_i he
    exact SzE.err he
  · rename_i he
    have hd := hf.dep (by omega)
    have h1 := hz (by omega)
    rw [hd]
    refine rowsF_sz hE hS _ _ _ hf.tk hg ?_ (fun h => by simp at h) (by simp)
    rw [szNL_cons]
    show ((szN _ + 0 : Nat) : Int) + _ ≤ _
    omega
theorem exprN_sz : ∀ (n : Nat) (d : Int), 13 ≤ n + d → d ≤ 12 → SzEE s (exprN s n) d
  | 0, d, h, h' => by omega
  | n + 1, d, h, h' => exprF_sz (E := exprN s n) (fun hd => exprN_fine n (d + 1) (by omega) (by omega)) (fun hd => exprN_sz n (d + 1) (by omega) (by omega))
end
/-- what is known of the rules of a text -/
structure RlOk (s : ByteArray) (r : Rl) : Prop where
  size : szN r.body ≤ 2 * s.size + 1
  empty : r.empty = false
  begins : r.begins = 0
theorem ruleF_ok {s : ByteArray} {t : Tk} (ht : TkOk s t) (h0 : (ruleF s t).err = 0) : RlOk s (ruleF s t).rl := by
  have hn := ht.next
  have hn2 := hn.1.next
  unfold ruleF at h0 ⊢
  split
  · rename_i h; rw [if_pos h] at h0; simp at h0
  · rename_i h
    rw [if_neg h] at h0
    split
    · rename_i h; rw [if_pos h] at h0; simp at h0
    · rename_i h
      rw [if_neg h] at h0
      have hf := exprN_fine (s := s) 13 0 (by omega) (by omega) _ hn2.1
      have hz := exprN_sz (s := s) 13 0 (by omega) (by omega) _ hn2.1
      unfold ruleEnd at h0 ⊢
      split
      · rename_i h; rw [if_pos h] at h0; exact absurd h0 h
      · rename_i h
        have h1 := hz (by omega)
        have h2 := hf.tk.size
        have h3 := hf.tk.le
        have h4 := hn2.1.from0
        exact ⟨by show szN (exprN s 13 _ 0).nd ≤ _; omega, rfl, rfl⟩
theorem parseL_ok2 {s : ByteArray} : ∀ (k : Nat) (acc : List Rl) (t : Tk), TkOk s t → (∀ r ∈ acc, RlOk s r) → ∀ r ∈ (parseL s k acc t).rules, RlOk s r
  | 0, _, _, _, _, r, hr => by simp [parseL] at hr
  | k + 1, acc, t, ht, ha, r, hr => by
    unfold parseL at hr
    split at hr
    · exact ha r hr
    · split at hr
      · simp at hr
      · rename_i he
        refine parseL_ok2 k _ _ (ruleF_fine ht).1 (fun q hq => ?_) r hr
        rw [List.mem_append, List.mem_singleton] at hq
        rcases hq with hq | rfl
        · exact ha q hq
        · exact ruleF_ok ht (by omega)
theorem parseF_ok (s : ByteArray) : ∀ r ∈ (parseF s).rules, RlOk s r := by
  unfold parseF
  split
  · intro r hr; simp at hr
  · exact parseL_ok2 _ _ _ (nextT_ok s 0 (by omega) (by omega)).1 (by simp)
theorem parseF_long (s : ByteArray) (h : (parseF s).err = 0) : s.size ≤ 400 := by
  unfold parseF at h
  split at h
  · simp at h
  · omega
theorem termsL_sz {f : Nd → List Tm → Tm × List Tm} : ∀ (l : List Nd) (ks : List Int) (T : List Tm), (∀ n ∈ l, ∀ T, (f n T).2.length + 1 ≤ T.length + szN n) → (termsL f l ks T).2.length ≤ T.length + szNL l
  | [], _, _, _ => Nat.le_refl _
  | n :: l, ks, T, h => by
    have h1 := termsL_sz l (ks ++ [((f n T).2.length : Int)]) ((f n T).2 ++ [(f n T).1]) (fun m hm => h m (by simp [hm]))
    have h2 := h n (by simp) T
    rw [szNL_cons, termsL]
    simp at h1
    omega
theorem termN_sz (rs : List Rl) : ∀ (F : Nat) (n : Nd) (T : List Tm), (termN rs F n T).2.length + 1 ≤ T.length + szN n
  | 0, n, T => by
    have := szN_pos n
    show T.length + 1 ≤ _
    omega
  | F + 1, n, T => by
    have := termsL_sz (f := termN rs F) n.kids (baseK rs n) T (fun m _ T => termN_sz rs F m T)
    rw [szN_def]
    show (termsL (termN rs F) n.kids (baseK rs n) T).2.length + 1 ≤ _
    omega
theorem buildL_sz (rs : List Rl) (F B : Nat) : ∀ (l : List Rl) (i : Nat) (T : List Tm), (∀ r ∈ l, szN r.body ≤ B) → (buildL rs F l i T).length ≤ T.length + l.length * B
  | [], _, _, _ => by simp [buildL]
  | r :: l, i, T, h => by
    have h1 := buildL_sz rs F B l (i + 1) ((termN rs F r.body T).2.set i (termN rs F r.body T).1) (fun q hq => h q (by simp [hq]))
    have h2 := termN_sz rs F r.body T
    have h3 := h r (by simp)
    rw [buildL, List.length_cons, Nat.add_mul]
    simp at h1
    omega
/-- Compile comes to an answer -/
theorem compile_ends (s : ByteArray) : ∃ F Z r, compileF F Z s = some r ∧ ((parseF s).err = 0 → DeepF F (parseF s).rules ∧ checkF F Z (parseF s).rules = some r) := by
  by_cases he : (parseF s).err ≠ 0
  · refine ⟨0, 0, ((parseF s).err, (parseF s).at_), ?_, fun h => absurd h he⟩
    unfold compileF
    rw [if_pos he]
  · obtain ⟨F, hF⟩ := fits_rules (parseF s).rules
    have hok := parseF_ok s
    have hl := parseF_long s (by omega)
    obtain ⟨Z, r, hr⟩ := checkF_ends F (parseF s).rules (fun r hr => (hok r hr).begins)
    refine ⟨F, Z, r, ?_, fun _ => ⟨List.all_eq_true.1 hF, hr⟩⟩
    unfold compileF
    rw [if_neg he, if_pos hF, hr]
    dsimp only
    rw [if_neg]
    rintro ⟨h0, hb⟩
    have h12 := checkF_ok hr h0
    have h1 := buildL_sz (parseF s).rules (F + 1) 801 (parseF s).rules 0 (List.replicate (parseF s).rules.length Tm.zero) (fun r hr => by have := (hok r hr).size; omega)
    have h2 : (buildF (F + 1) (parseF s).rules).length ≤ (List.replicate (parseF s).rules.length Tm.zero).length + (parseF s).rules.length * 801 := h1
    rw [List.length_replicate] at h2
    omega
end Go.Proofs.Ytbojcemamhiodaa

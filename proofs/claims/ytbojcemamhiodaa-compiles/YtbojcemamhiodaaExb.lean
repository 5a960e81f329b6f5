import Derived.Test.YtbojcemamhiodaaExa
namespace Go.Proofs.Ytbojcemamhiodaa

/-- how many below n -/
def cnt : Nat → (Nat → Bool) → Nat
  | 0, _ => 0
  | n + 1, f => cnt n f + (if f n = true then 1 else 0)
theorem cnt_le : ∀ n f, cnt n f ≤ n
  | 0, _ => Nat.le_refl _
  | n + 1, f => by
    have := cnt_le n f
    rw [cnt]
    split <;> omega
theorem cnt_mono : ∀ n {f g : Nat → Bool}, (∀ i, i < n → f i = true → g i = true) → cnt n f ≤ cnt n g
  | 0, _, _, _ => Nat.le_refl _
  | n + 1, f, g, h => by
    have h1 := cnt_mono n (f := f) (g := g) fun i hi => h i (by omega)
    have h2 := h n (by omega)
    rw [cnt, cnt]
    split
    · rename_i e; rw [if_pos (h2 e)]; omega
    · split <;> omega
theorem cnt_lt : ∀ n {f g : Nat → Bool}, (∀ i, i < n → f i = true → g i = true) → ∀ j, j < n → f j ≠ g j → cnt n f < cnt n g
  | 0, _, _, _, j, hj, _ => by omega
  | n + 1, f, g, h, j, hj, hne => by
    have h2 := h n (by omega)
    rw [cnt, cnt]
    by_cases hjn : j = n
    · subst hjn
      have h1 := cnt_mono j (f := f) (g := g) fun i hi => h i (by omega)
      cases hf : f j with
      | true => exact absurd (hf.trans (h2 hf).symm) hne
      | false =>
        cases hg : g j with
        | false => exact absurd (hf.trans hg.symm) hne
        | true => simp; omega
    · have h1 := cnt_lt n (f := f) (g := g) (fun i hi => h i (by omega)) j (by omega) hne
      split
      · rename_i e; rw [if_pos (h2 e)]; omega
      · split <;> omega
/-- a chain that only grows, and that stands still once it has stood still, stands still after n steps -/
theorem stable (n : Nat) (f : Nat → Nat → Bool) (h0 : ∀ k i, i < n → f k i = true → f (k + 1) i = true) (h1 : ∀ k, (∀ i, i < n → f (k + 1) i = f k i) → ∀ i, i < n → f (k + 2) i = f (k + 1) i) :
    ∀ i, i < n → f (n + 1) i = f n i := by
  have still : ∀ m d, (∀ i, i < n → f (m + 1) i = f m i) → ∀ i, i < n → f (m + d + 1) i = f (m + d) i := by
    intro m d hm
    induction d with
    | zero => exact hm
    | succ d ih => exact h1 (m + d) ih
  have key : ∀ k, (∃ m, m < k ∧ ∀ i, i < n → f (m + 1) i = f m i) ∨ k ≤ cnt n (f k) := by
    intro k
    induction k with
    | zero => exact .inr (Nat.zero_le _)
    | succ k ih =>
      rcases ih with ⟨m, hm, h⟩ | ih
      · exact .inl ⟨m, by omega, h⟩
      · by_cases hs : ∀ i, i < n → f (k + 1) i = f k i
        · exact .inl ⟨k, by omega, hs⟩
        · right
          have : ∃ j, j < n ∧ f k j ≠ f (k + 1) j := Classical.byContradiction fun hc => hs fun i hi => Classical.byContradiction fun hx => hc ⟨i, hi, fun e => hx e.symm⟩
          obtain ⟨j, hj, hne⟩ := this
          have := cnt_lt n (f := f k) (g := f (k + 1)) (h0 k) j hj hne
          omega
  rcases key (n + 1) with ⟨m, hm, h⟩ | h
  · have := still m (n - m) h
    rwa [show m + (n - m) = n by omega] at this
  · have := cnt_le n (f (n + 1))
    omega

/-- one thing leads to another in k + 1 steps -/
def Rch (E : Nat → Nat → Prop) : Nat → Nat → Nat → Prop
  | 0, i, j => E i j
  | k + 1, i, j => ∃ c, E i c ∧ Rch E k c j
def Reach (E : Nat → Nat → Prop) (i j : Nat) : Prop := ∃ k, Rch E k i j
theorem Rch.snoc {E : Nat → Nat → Prop} : ∀ {k i j l}, Rch E k i j → E j l → Rch E (k + 1) i l
  | 0, _, j, _, h, h2 => ⟨j, h, h2⟩
  | _ + 1, _, _, _, ⟨c, hc, h⟩, h2 => ⟨c, hc, h.snoc h2⟩
/-- a set that holds what a leads to at once and that is closed -/
theorem reach_in {E : Nat → Nat → Prop} {a : Nat} {P : Nat → Prop} (h0 : ∀ c, E a c → P c) (h1 : ∀ b c, P b → E b c → P c) : ∀ c, Reach E a c → P c := by
  have key : ∀ k b c, P b → Rch E k b c → P c := by
    intro k
    induction k with
    | zero => exact fun b c hb h => h1 b c hb h
    | succ k ih => exact fun b c hb ⟨d, hd, h⟩ => ih d c (h1 b d hb hd) h
  rintro c ⟨k, h⟩
  cases k with
  | zero => exact h0 c h
  | succ k =>
    obtain ⟨d, hd, h⟩ := h
    exact key k d c (h0 d hd) h

/-- a function turned at a place -/
def upd (f : Nat → Bool) (c : Nat) (v : Bool) (i : Nat) : Bool := if i = c then v else f i
/-- what is known after m rounds, by what rules are -/
def empK (bare : (Nat → Bool) → Nat → Bool) : Nat → Nat → Bool
  | 0 => fun _ => false
  | m + 1 => bare (empK bare m)
/-- where in has spread: from b on, along what b begins with -/
def stepR (b : Nat) : List Nat → (Nat → Bool) → Nat → Bool
  | [], f => f
  | c :: l, f => stepR b l (upd f c (f c || f b))
def roundR (fs : Nat → List Nat) : List Nat → (Nat → Bool) → Nat → Bool
  | [], f => f
  | b :: l, f => roundR fs l (stepR b (fs b) f)
def startR : List Nat → (Nat → Bool) → Nat → Bool
  | [], f => f
  | c :: l, f => startR l (upd f c true)
def roundsR (fs : Nat → List Nat) (n : Nat) : Nat → (Nat → Bool) → Nat → Bool
  | 0, f => f
  | k + 1, f => roundsR fs n k (roundR fs (List.range n) f)
/-- with what rule a may begin -/
def reachR (fs : Nat → List Nat) (n a : Nat) : Nat → Bool := roundsR fs n n (startR (fs a) fun _ => false)

theorem upd_le {f : Nat → Bool} {c : Nat} {v : Bool} (hv : f c = true → v = true) (i : Nat) (h : f i = true) : upd f c v i = true := by
  unfold upd
  split
  · rename_i e; subst e; exact hv h
  · exact h
theorem stepR_le (b : Nat) : ∀ (l : List Nat) (f : Nat → Bool) (i : Nat), f i = true → stepR b l f i = true
  | [], _, _, h => h
  | c :: l, f, i, h => stepR_le b l _ i (upd_le (fun h => by rw [h]; rfl) i h)
theorem roundR_le (fs : Nat → List Nat) : ∀ (l : List Nat) (f : Nat → Bool) (i : Nat), f i = true → roundR fs l f i = true
  | [], _, _, h => h
  | b :: l, f, i, h => roundR_le fs l _ i (stepR_le b _ f i h)
theorem stepR_has (b : Nat) : ∀ (l : List Nat) (f : Nat → Bool) (c : Nat), c ∈ l → f b = true → stepR b l f c = true
  | [], _, _, h, _ => by simp at h
  | d :: l, f, c, h, hb => by
    rw [stepR]
    rw [List.mem_cons] at h
    rcases h with rfl | h
    · refine stepR_le b l _ c ?_
      unfold upd
      rw [if_pos rfl, hb, Bool.or_true]
    · exact stepR_has b l _ c h (upd_le (fun h => by rw [h]; rfl) b hb)
theorem roundR_has (fs : Nat → List Nat) : ∀ (l : List Nat) (f : Nat → Bool) (b c : Nat), b ∈ l → c ∈ fs b → f b = true → roundR fs l f c = true
  | [], _, _, _, h, _, _ => by simp at h
  | d :: l, f, b, c, h, hc, hb => by
    rw [roundR]
    rw [List.mem_cons] at h
    rcases h with rfl | h
    · exact roundR_le fs l _ c (stepR_has b _ f c hc hb)
    · exact roundR_has fs l _ b c h hc (stepR_le d _ f b hb)
theorem startR_has : ∀ (l : List Nat) (f : Nat → Bool) (c : Nat), c ∈ l ∨ f c = true → startR l f c = true
  | [], f, c, h => by
    rcases h with h | h
    · simp at h
    · exact h
  | d :: l, f, c, h => by
    rw [startR]
    refine startR_has l _ c ?_
    rcases h with h | h
    · rw [List.mem_cons] at h
      rcases h with rfl | h
      · right; unfold upd; rw [if_pos rfl]
      · exact .inl h
    · exact .inr (upd_le (fun _ => rfl) c h)
theorem startR_only {P : Nat → Prop} : ∀ (l : List Nat) (f : Nat → Bool), (∀ c ∈ l, P c) → (∀ c, f c = true → P c) → ∀ c, startR l f c = true → P c
  | [], _, _, h, c, hc => h c hc
  | d :: l, f, hl, h, c, hc => by
    rw [startR] at hc
    refine startR_only l _ (fun c hc => hl c (by simp [hc])) (fun i hi => ?_) c hc
    unfold upd at hi
    split at hi
    · rename_i e; rw [e]; exact hl d (by simp)
    · exact h i hi
theorem stepR_only {P : Nat → Prop} (b : Nat) : ∀ (l : List Nat) (f : Nat → Bool), (∀ c ∈ l, P b → P c) → (∀ c, f c = true → P c) → ∀ c, stepR b l f c = true → P c
  | [], _, _, h, c, hc => h c hc
  | d :: l, f, hl, h, c, hc => by
    rw [stepR] at hc
    refine stepR_only b l _ (fun c hc => hl c (by simp [hc])) (fun i hi => ?_) c hc
    unfold upd at hi
    split at hi
    · rename_i e
      rw [e]
      rw [Bool.or_eq_true] at hi
      rcases hi with hi | hi
      · exact h d hi
      · exact hl d (by simp) (h b hi)
    · exact h i hi
theorem roundR_only {P : Nat → Prop} (fs : Nat → List Nat) (hE : ∀ b c, P b → c ∈ fs b → P c) : ∀ (l : List Nat) (f : Nat → Bool), (∀ c, f c = true → P c) → ∀ c, roundR fs l f c = true → P c
  | [], _, h, c, hc => h c hc
  | b :: l, f, h, c, hc => by
    rw [roundR] at hc
    exact roundR_only fs hE l _ (stepR_only b _ f (fun c hc hb => hE b c hb hc) h) c hc
theorem roundsR_only {P : Nat → Prop} (fs : Nat → List Nat) (n : Nat) (hE : ∀ b c, P b → c ∈ fs b → P c) : ∀ (k : Nat) (f : Nat → Bool), (∀ c, f c = true → P c) → ∀ c, roundsR fs n k f c = true → P c
  | 0, _, h, c, hc => h c hc
  | k + 1, f, h, c, hc => roundsR_only fs n hE k _ (roundR_only fs hE _ f h) c hc
theorem roundsR_succ (fs : Nat → List Nat) (n : Nat) : ∀ (k : Nat) (f : Nat → Bool), roundsR fs n (k + 1) f = roundR fs (List.range n) (roundsR fs n k f)
  | 0, _ => rfl
  | k + 1, f => by rw [roundsR, roundsR_succ fs n k, roundsR]
/-- beyond n nothing turns -/
theorem stepR_out {n b : Nat} : ∀ (l : List Nat) (f : Nat → Bool), (∀ c ∈ l, c < n) → ∀ i, n ≤ i → stepR b l f i = f i
  | [], _, _, _, _ => rfl
  | c :: l, f, h, i, hi => by
    rw [stepR, stepR_out l _ (fun d hd => h d (by simp [hd])) i hi]
    have := h c (by simp)
    unfold upd
    rw [if_neg (by omega)]
theorem roundR_out {n : Nat} {fs : Nat → List Nat} (hfs : ∀ b c, c ∈ fs b → c < n) : ∀ (l : List Nat) (f : Nat → Bool) (i : Nat), n ≤ i → roundR fs l f i = f i
  | [], _, _, _ => rfl
  | b :: l, f, i, hi => by rw [roundR, roundR_out hfs l _ i hi, stepR_out _ _ (hfs b) i hi]
/-- just what can be reached -/
theorem reachR_iff (fs : Nat → List Nat) (n a : Nat) (hfs : ∀ b c, c ∈ fs b → c < n) (c : Nat) : reachR fs n a c = true ↔ Reach (fun i j => j ∈ fs i) a c := by
  constructor
  · intro h
    refine roundsR_only (P := Reach (fun i j => j ∈ fs i) a) fs n (fun b c ⟨k, hk⟩ hc => ⟨k + 1, hk.snoc hc⟩) n _ (startR_only _ _ (fun c hc => ⟨0, hc⟩) (fun c hc => by cases hc)) c h
  · intro h
    have hge : ∀ k i, roundsR fs n k (startR (fs a) fun _ => false) i = true → roundsR fs n (k + 1) (startR (fs a) fun _ => false) i = true := by
      intro k i hi
      rw [roundsR_succ]
      exact roundR_le fs _ _ i hi
    have hst := stable n (fun k => roundsR fs n k (startR (fs a) fun _ => false)) (fun k i _ hi => hge k i hi) (fun k hk => by
      have e : roundsR fs n (k + 1) (startR (fs a) fun _ => false) = roundsR fs n k (startR (fs a) fun _ => false) := by
        funext i
        by_cases hi : i < n
        · exact hk i hi
        · rw [roundsR_succ, roundR_out hfs _ _ i (by omega)]
      intro i _
      show roundsR fs n (k + 2) _ i = roundsR fs n (k + 1) _ i
      rw [roundsR_succ, e, ← roundsR_succ, e])
    have h0 : ∀ k c, startR (fs a) (fun _ => false) c = true → roundsR fs n k (startR (fs a) fun _ => false) c = true := by
      intro k c hc
      induction k with
      | zero => exact hc
      | succ k ih => exact hge k c ih
    refine reach_in (P := fun c => reachR fs n a c = true) (fun c hc => h0 n c (startR_has _ _ c (.inl hc))) (fun b c hb hc => ?_) c h
    have hcn := hfs b c hc
    have hbn : b < n := Classical.byContradiction fun hx => by
      have : ∀ k, roundsR fs n k (startR (fs a) fun _ => false) b = true → b < n := by
        intro k
        exact roundsR_only (P := fun c => c < n) fs n (fun b c _ hc => hfs b c hc) k _ (startR_only _ _ (fun c hc => hfs a c hc) (fun c hc => by cases hc)) b
      exact hx (this n hb)
    have := roundR_has fs (List.range n) _ b c (List.mem_range.2 hbn) hc hb
    unfold reachR at this ⊢
    rw [← roundsR_succ] at this
    rw [← hst c hcn]
    exact this
end Go.Proofs.Ytbojcemamhiodaa
namespace Go.Proofs.Ytbojcemamhiodaa

section
variable {rs rs' : List Rl}
/-- the same rules, but for what is found out of them -/
structure SameR (rs rs' : List Rl) : Prop where
  len : rs'.length = rs.length
  at_ : ∀ (i : Nat) (r : Rl), rs[i]? = some r → ∃ r', rs'[i]? = some r' ∧ r'.name = r.name ∧ r'.at_ = r.at_ ∧ r'.body = r.body
theorem SameR.refl (rs : List Rl) : SameR rs rs := ⟨rfl, fun _ r h => ⟨r, h, rfl, rfl, rfl⟩⟩
theorem SameR.trans {a b c : List Rl} (h : SameR a b) (k : SameR b c) : SameR a c :=
  ⟨k.len.trans h.len, fun i r hr => by
    obtain ⟨r1, h1, e1, e2, e3⟩ := h.at_ i r hr
    obtain ⟨r2, h2, f1, f2, f3⟩ := k.at_ i r1 h1
    exact ⟨r2, h2, f1.trans e1, f2.trans e2, f3.trans e3⟩⟩
theorem SameR.mod (f : Rl → Rl) (hf : ∀ r, (f r).name = r.name ∧ (f r).at_ = r.at_ ∧ (f r).body = r.body) (rs : List Rl) (i : Nat) : SameR rs (rs.modify i f) := by
  refine ⟨by simp, fun j r hr => ?_⟩
  rw [mod_at, hr]
  by_cases h : i = j
  · exact ⟨f r, by rw [if_pos h]; rfl, hf r⟩
  · exact ⟨r, by rw [if_neg h], rfl, rfl, rfl⟩
theorem findFrom_same : ∀ (rs rs' : List Rl) (k : Int) (nm : ByteArray), SameR rs rs' → findFrom rs' k nm = findFrom rs k nm
  | [], [], _, _, _ => rfl
  | [], _ :: _, _, _, h => by have := h.len; simp at this
  | _ :: _, [], _, _, h => by have := h.len; simp at this
  | r :: rs, r' :: rs', k, nm, h => by
    obtain ⟨q, hq, e1, _, _⟩ := h.at_ 0 r rfl
    have : r' = q := by simpa using hq
    subst this
    rw [findFrom, findFrom, e1, findFrom_same rs rs' (k + 1) nm ⟨by have := h.len; simpa using this, fun i r hr => h.at_ (i + 1) r (by simpa using hr)⟩]
theorem SameR.find (h : SameR rs rs') (nm : ByteArray) : findF rs' nm = findF rs nm := findFrom_same rs rs' 0 nm h
end

/-- what is known of a name, by what is known of rules -/
def knF (rs : List Rl) (f : Nat → Bool) (nm : ByteArray) : Bool := decide (0 ≤ findF rs nm) && f (findF rs nm).toNat
def empF (rs : List Rl) (i : Nat) : Bool := emptyAt rs i
theorem knR_F (rs : List Rl) : knR rs = knF rs (empF rs) := by
  funext nm
  unfold knR knF empF emptyAt
  by_cases h : 0 ≤ findF rs nm
  · simp only [h, decide_true, Bool.true_and, Int.toNat_natCast]
  · simp [h]

/-- more is known, more may be empty -/
theorem mayW_mono {kn kn' : ByteArray → Bool} (h : ∀ nm, kn nm = true → kn' nm = true) (n : Nd) : mayW kn n = true → mayW kn' n = true := by
  refine Nd.ind (P := fun n => mayW kn n = true → mayW kn' n = true) (fun n ih hn => ?_) n
  rw [mayW_def] at hn ⊢
  split
  · rename_i e; rw [if_pos e] at hn; exact hn
  · rename_i e; rw [if_neg e] at hn
    split
    · rename_i e; rw [if_pos e] at hn; exact h _ hn
    · rename_i e; rw [if_neg e] at hn
      split
      · rfl
      · rename_i e; rw [if_neg e] at hn
        split
        · rename_i e; rw [if_pos e] at hn
          rw [List.all_eq_true] at hn ⊢
          exact fun k hk => ih k hk (hn k hk)
        · rename_i e; rw [if_neg e] at hn
          split
          · rename_i e; rw [if_pos e] at hn
            rw [List.any_eq_true] at hn ⊢
            obtain ⟨k, hk, hx⟩ := hn
            exact ⟨k, hk, ih k hk hx⟩
          · rename_i e; rw [if_neg e] at hn; exact hn
theorem mayW_congr {kn kn' : ByteArray → Bool} (h : ∀ nm, kn nm = kn' nm) (n : Nd) : mayW kn n = mayW kn' n := by rw [funext h]

/-- round by round: the rules stay, what is empty stays so, and what is added is so for a reason -/
theorem roundE_good (F : Nat) (P : Nat → Bool) : ∀ (n i : Nat) (rs : List Rl) (m : Bool), DeepF F rs → (∀ (j : Nat) (r : Rl), rs[j]? = some r → mayW (knF rs P) r.body = true → P j = true) → (∀ j, empF rs j = true → P j = true) →
    SameR rs (roundE F n i rs m).1 ∧ DeepF F (roundE F n i rs m).1 ∧ (∀ j, empF (roundE F n i rs m).1 j = true → P j = true) ∧
    ((roundE F n i rs m).2 = false → m = false ∧ (roundE F n i rs m).1 = rs ∧ ∀ (j : Nat) (r : Rl), i ≤ j → j < i + n → rs[j]? = some r → mayE rs (F + 1) r.body = true → r.empty = true)
  | 0, i, rs, m, hd, hp, he => ⟨SameR.refl _, hd, he, fun h => ⟨h, rfl, fun j r h1 h2 => by omega⟩⟩
  | n + 1, i, rs, m, hd, hp, he => by
    unfold roundE
    cases hr : rs[i]? with
    | none =>
      obtain ⟨h1, h2, h3, h4⟩ := roundE_good F P n (i + 1) rs m hd hp he
      refine ⟨h1, h2, h3, fun h => ⟨(h4 h).1, (h4 h).2.1, fun j r hj1 hj2 hjr => ?_⟩⟩
      by_cases hji : j = i
      · subst hji; rw [hr] at hjr; cases hjr
      · exact (h4 h).2.2 j r (by omega) (by omega) hjr
    | some r =>
      dsimp only
      split
      · rename_i hx
        rw [Bool.and_eq_true] at hx
        have hS : SameR rs (setE rs i) := SameR.mod (fun r => { r with empty := true }) (fun _ => ⟨rfl, rfl, rfl⟩) rs i
        have hPi : P i = true := by
          refine hp i r hr ?_
          have hm := hx.1
          rw [mayE_W rs r.body F (hd r (List.mem_of_getElem? hr)), knR_F] at hm
          refine mayW_mono (fun nm hn => ?_) _ hm
          unfold knF at hn ⊢
          rw [Bool.and_eq_true] at hn ⊢
          exact ⟨hn.1, he _ hn.2⟩
        obtain ⟨h1, h2, h3, h4⟩ := roundE_good F P n (i + 1) (setE rs i) true (fun q hq => by
            obtain ⟨j, hj⟩ := List.mem_iff_getElem?.1 hq
            unfold setE at hj
            rw [mod_at] at hj
            split at hj
            · cases hq2 : rs[j]? with
              | none => rw [hq2] at hj; cases hj
              | some q2 =>
                rw [hq2] at hj
                have e : { q2 with empty := true } = q := by simpa using hj
                rw [← e]
                exact hd q2 (List.mem_of_getElem? hq2)
            · exact hd q (List.mem_of_getElem? hj))
          (fun j q hj hm => by
            have e : knF (setE rs i) P = knF rs P := by funext nm; unfold knF; rw [hS.find]
            rw [e] at hm
            unfold setE at hj
            rw [mod_at] at hj
            split at hj
            · cases hq2 : rs[j]? with
              | none => rw [hq2] at hj; cases hj
              | some q2 =>
                rw [hq2] at hj
                have e : { q2 with empty := true } = q := by simpa using hj
                rw [← e] at hm
                exact hp j q2 hq2 hm
            · exact hp j q hj hm)
          (fun j hj => by
            unfold empF emptyAt setE at hj
            rw [mod_at, Int.toNat_natCast] at hj
            by_cases e : i = j
            · rw [← e]; exact hPi
            · rw [if_neg e] at hj
              exact he j (by unfold empF emptyAt; rw [Int.toNat_natCast]; exact hj))
        exact ⟨hS.trans h1, h2, h3, fun h => absurd (h4 h).1 (by simp)⟩
      · rename_i hx
        obtain ⟨h1, h2, h3, h4⟩ := roundE_good F P n (i + 1) rs m hd hp he
        refine ⟨h1, h2, h3, fun h => ⟨(h4 h).1, (h4 h).2.1, fun j q hj1 hj2 hjr hm => ?_⟩⟩
        by_cases hji : j = i
        · subst hji
          rw [hr] at hjr
          injection hjr with hjr
          subst hjr
          rw [hm] at hx
          simpa using hx
        · exact (h4 h).2.2 j q (by omega) (by omega) hjr hm
theorem fixE_good (F : Nat) (P : Nat → Bool) : ∀ (k : Nat) (rs : List Rl), open_ rs < k → DeepF F rs → (∀ (j : Nat) (r : Rl), rs[j]? = some r → mayW (knF rs P) r.body = true → P j = true) → (∀ j, empF rs j = true → P j = true) →
    SameR rs (fixE F k rs) ∧ DeepF F (fixE F k rs) ∧ (∀ j, empF (fixE F k rs) j = true → P j = true) ∧ ∀ (j : Nat) (r : Rl), (fixE F k rs)[j]? = some r → mayE (fixE F k rs) (F + 1) r.body = true → r.empty = true
  | 0, rs, h, _, _, _ => by omega
  | k + 1, rs, h, hd, hp, he => by
    obtain ⟨h1, h2, h3, h4⟩ := roundE_good F P rs.length 0 rs false hd hp he
    have ho := roundE_open F rs.length 0 rs false
    unfold fixE
    split
    · rename_i hx
      have hlt : open_ (roundE F rs.length 0 rs false).1 < k := by
        rcases ho.2 hx with e | e
        · cases e
        · omega
      obtain ⟨g1, g2, g3, g4⟩ := fixE_good F P k _ hlt h2 (fun j r hj hm => by
        have hl : j < rs.length := by
          have := (List.getElem?_eq_some_iff.1 hj).1
          have := h1.len
          omega
        obtain ⟨r', hr', e1, e2, e3⟩ := h1.at_ j rs[j] (List.getElem?_eq_getElem hl)
        rw [hj] at hr'
        injection hr' with hr'
        rw [hr', e3] at hm
        have e : knF (roundE F rs.length 0 rs false).1 P = knF rs P := by funext nm; unfold knF; rw [h1.find]
        rw [e] at hm
        exact hp j _ (List.getElem?_eq_getElem hl) hm) h3
      exact ⟨h1.trans g1, g2, g3, g4⟩
    · rename_i hx
      have h5 := h4 (by simpa using hx)
      rw [h5.2.1]
      refine ⟨SameR.refl _, hd, he, fun j r hj hm => h5.2.2 j r (by omega) ?_ hj hm⟩
      have := (List.getElem?_eq_some_iff.1 hj).1
      omega
/-- what rules may be empty, level by level -/
def bareF (rs : List Rl) (f : Nat → Bool) (i : Nat) : Bool := match rs[i]? with | some r => mayW (knF rs f) r.body | none => false
theorem knF_mono {rs : List Rl} {f g : Nat → Bool} (h : ∀ i, i < rs.length → f i = true → g i = true) (nm : ByteArray) : knF rs f nm = true → knF rs g nm = true := by
  unfold knF
  rw [Bool.and_eq_true, Bool.and_eq_true]
  rintro ⟨h1, h2⟩
  have := findF_range rs nm
  have h1' : 0 ≤ findF rs nm := by simpa using h1
  exact ⟨h1, h _ (by omega) h2⟩
theorem bareF_mono {rs : List Rl} {f g : Nat → Bool} (h : ∀ i, i < rs.length → f i = true → g i = true) (i : Nat) : bareF rs f i = true → bareF rs g i = true := by
  unfold bareF
  cases rs[i]? with
  | none => exact fun h => h
  | some r => exact mayW_mono (knF_mono h) r.body
theorem empK_up (rs : List Rl) : ∀ (k i : Nat), empK (bareF rs) k i = true → empK (bareF rs) (k + 1) i = true
  | 0, _, h => by cases h
  | k + 1, i, h => bareF_mono (fun j _ hj => empK_up rs k j hj) i h
theorem empK_still (rs : List Rl) (i : Nat) (hi : i < rs.length) : empK (bareF rs) (rs.length + 1) i = empK (bareF rs) rs.length i := by
  refine stable rs.length (empK (bareF rs)) (fun k i _ h => empK_up rs k i h) (fun k hk i _ => ?_) i hi
  cases hx : empK (bareF rs) (k + 2) i with
  | true => exact (bareF_mono (fun j hj h => by rw [← hk j hj]; exact h) i hx).symm
  | false =>
    cases hy : empK (bareF rs) (k + 1) i with
    | false => rfl
    | true => rw [empK_up rs (k + 1) i hy] at hx; cases hx
/-- both ways come to the same -/
theorem fixE_emp (F : Nat) (rs : List Rl) (hn : rs.length ≤ 12) (hd : DeepF F rs) (h0 : ∀ r ∈ rs, r.empty = false) :
    SameR rs (fixE F 13 rs) ∧ DeepF F (fixE F 13 rs) ∧ ∀ i, i < rs.length → empF (fixE F 13 rs) i = empK (bareF rs) rs.length i := by
  have ho := open_le rs
  have hP0 : ∀ (P : Nat → Bool) (j : Nat), empF rs j = true → P j = true := fun P j hj => by
    unfold empF emptyAt at hj
    rw [Int.toNat_natCast] at hj
    cases hr : rs[j]? with
    | none => rw [hr] at hj; cases hj
    | some r =>
      rw [hr] at hj
      dsimp only at hj
      rw [h0 r (List.mem_of_getElem? hr)] at hj
      cases hj
  obtain ⟨h1, h2, h3, h4⟩ := fixE_good F (fun i => empK (bareF rs) rs.length i) 13 rs (by omega) hd (fun j r hj hm => by
    have hl := (List.getElem?_eq_some_iff.1 hj).1
    show empK (bareF rs) rs.length j = true
    rw [← empK_still rs j hl]
    show bareF rs (empK (bareF rs) rs.length) j = true
    unfold bareF
    rw [hj]
    exact hm) (hP0 _)
  refine ⟨h1, h2, fun i hi => ?_⟩
  have hup : ∀ k i, i < rs.length → empK (bareF rs) k i = true → empF (fixE F 13 rs) i = true := by
    intro k
    induction k with
    | zero => intro i _ h; cases h
    | succ k ih =>
      intro i hi h
      have h' : bareF rs (empK (bareF rs) k) i = true := h
      have h5 := bareF_mono (g := empF (fixE F 13 rs)) (fun j hj hx => ih j hj hx) i h'
      unfold bareF at h5
      rw [List.getElem?_eq_getElem hi] at h5
      obtain ⟨r', hr', e1, e2, e3⟩ := h1.at_ i rs[i] (List.getElem?_eq_getElem hi)
      have h6 := h4 i r' hr' (by
        rw [mayE_W _ r'.body F (h2 r' (List.mem_of_getElem? hr')), knR_F, e3]
        have e : knF (fixE F 13 rs) (empF (fixE F 13 rs)) = knF rs (empF (fixE F 13 rs)) := by funext nm; unfold knF; rw [h1.find]
        rw [e]
        exact h5)
      unfold empF emptyAt
      rw [Int.toNat_natCast, hr']
      exact h6
  cases hx : empK (bareF rs) rs.length i with
  | true => exact hup _ i hi hx
  | false =>
    cases hy : empF (fixE F 13 rs) i with
    | false => rfl
    | true =>
      have h7 : empK (bareF rs) rs.length i = true := h3 i hy
      rw [hx] at h7; cases h7
end Go.Proofs.Ytbojcemamhiodaa
namespace Go.Proofs.Ytbojcemamhiodaa

theorem DeepF.same {F : Nat} {rs rs' : List Rl} (h : DeepF F rs) (hs : SameR rs rs') : DeepF F rs' := by
  intro q hq
  obtain ⟨j, hj⟩ := List.mem_iff_getElem?.1 hq
  have hl : j < rs.length := by
    have := (List.getElem?_eq_some_iff.1 hj).1
    have := hs.len
    omega
  obtain ⟨r', hr', e1, e2, e3⟩ := hs.at_ j rs[j] (List.getElem?_eq_getElem hl)
  rw [hj] at hr'
  injection hr' with hr'
  rw [hr', e3]
  exact h _ (List.getElem_mem hl)
theorem knR_same {rs rs' : List Rl} (hs : SameR rs rs') (he : ∀ i, emptyAt rs' i = emptyAt rs i) : knR rs' = knR rs := by
  funext nm
  unfold knR
  rw [hs.find, he]
/-- what P owes: it holds what a rule leads to at once, and what that leads to -/
def ClosedB (rs : List Rl) (P : Nat → Nat → Prop) : Prop := ∀ (j : Nat) (r : Rl), rs[j]? = some r → ∀ nm ∈ begW (knR rs) r.body, 0 ≤ findF rs nm → ∀ l : Nat, (findF rs nm = l ∨ P (findF rs nm).toNat l) → P j l
def HoldsB (rs : List Rl) (P : Nat → Nat → Prop) : Prop := ∀ (j : Nat) (r : Rl), rs[j]? = some r → ∀ l, hb r.begins l = true → P j l
theorem roundB_good (F : Nat) (P : Nat → Nat → Prop) : ∀ (n i : Nat) (rs : List Rl) (m : Bool), rs.length ≤ 12 → DeepF F rs → ClosedB rs P → HoldsB rs P →
    SameR rs (roundB F n i rs m).1 ∧ (∀ q : Int, emptyAt (roundB F n i rs m).1 q = emptyAt rs q) ∧ HoldsB (roundB F n i rs m).1 P ∧
    ((roundB F n i rs m).2 = false → m = false ∧ (roundB F n i rs m).1 = rs ∧ ∀ (j : Nat) (r : Rl), i ≤ j → j < i + n → rs[j]? = some r → begN rs (F + 1) r.body = r.begins)
  | 0, i, rs, m, hl, hd, hp, he => ⟨SameR.refl _, fun _ => rfl, he, fun h => ⟨h, rfl, fun j r h1 h2 => by omega⟩⟩
  | n + 1, i, rs, m, hl, hd, hp, he => by
    unfold roundB
    cases hr : rs[i]? with
    | none =>
      obtain ⟨h1, h2, h3, h4⟩ := roundB_good F P n (i + 1) rs m hl hd hp he
      refine ⟨h1, h2, h3, fun h => ⟨(h4 h).1, (h4 h).2.1, fun j r hj1 hj2 hjr => ?_⟩⟩
      by_cases hji : j = i
      · subst hji; rw [hr] at hjr; cases hjr
      · exact (h4 h).2.2 j r (by omega) (by omega) hjr
    | some r =>
      dsimp only
      split
      · rename_i hx
        have hS : SameR rs (setB rs i (begN rs (F + 1) r.body)) := SameR.mod (fun r' => { r' with begins := begN rs (F + 1) r.body }) (fun _ => ⟨rfl, rfl, rfl⟩) rs i
        have hE : ∀ k, emptyAt (setB rs i (begN rs (F + 1) r.body)) k = emptyAt rs k := by
          intro k
          unfold emptyAt setB
          rw [mod_at]
          by_cases e : i = k.toNat
          · rw [if_pos e]; cases rs[k.toNat]? <;> rfl
          · rw [if_neg e]
        have hk := knR_same hS hE
        obtain ⟨h1, h2, h3, h4⟩ := roundB_good F P n (i + 1) (setB rs i (begN rs (F + 1) r.body)) true (by rw [hS.len]; exact hl) (hd.same hS)
          (fun j q hj nm hnm h0 l hor => by
            rw [hS.find] at h0 hor
            rw [hk] at hnm
            unfold setB at hj
            rw [mod_at] at hj
            by_cases e : i = j
            · rw [if_pos e] at hj
              cases hq2 : rs[j]? with
              | none => rw [hq2] at hj; cases hj
              | some q2 =>
                rw [hq2] at hj
                have e2 : { q2 with begins := begN rs (F + 1) r.body } = q := by simpa using hj
                rw [← e2] at hnm
                exact hp j q2 hq2 nm hnm h0 l hor
            · rw [if_neg e] at hj
              exact hp j q hj nm hnm h0 l hor)
          (fun j q hj l hbl => by
            unfold setB at hj
            rw [mod_at] at hj
            by_cases e : i = j
            · rw [if_pos e] at hj
              subst e
              rw [hr] at hj
              have e2 : { r with begins := begN rs (F + 1) r.body } = q := by simpa using hj
              rw [← e2] at hbl
              have hbl' : hb (begN rs (F + 1) r.body) l = true := hbl
              rw [begN_W rs hl l r.body F (hd r (List.mem_of_getElem? hr)), List.any_eq_true] at hbl'
              obtain ⟨nm, hnm, hg⟩ := hbl'
              unfold gb at hg
              rw [Bool.and_eq_true, Bool.or_eq_true] at hg
              have h0 : 0 ≤ findF rs nm := by simpa using hg.1
              refine hp i r hr nm hnm h0 l ?_
              rcases hg.2 with hg | hg
              · left; simpa using hg
              · right
                have hrg := findF_range rs nm
                have hlt : (findF rs nm).toNat < rs.length := by omega
                have hgt := List.getElem?_eq_getElem hlt
                refine he (findF rs nm).toNat _ hgt l ?_
                unfold beginsAt at hg
                rw [hgt] at hg
                exact hg
            · rw [if_neg e] at hj
              exact he j q hj l hbl)
        exact ⟨hS.trans h1, fun k => (h2 k).trans (hE k), h3, fun h => absurd (h4 h).1 (by simp)⟩
      · rename_i hx
        obtain ⟨h1, h2, h3, h4⟩ := roundB_good F P n (i + 1) rs m hl hd hp he
        refine ⟨h1, h2, h3, fun h => ⟨(h4 h).1, (h4 h).2.1, fun j q hj1 hj2 hjr => ?_⟩⟩
        by_cases hji : j = i
        · subst hji
          rw [hr] at hjr
          injection hjr with hjr
          subst hjr
          simpa using hx
        · exact (h4 h).2.2 j q (by omega) (by omega) hjr
theorem ClosedB.same {rs rs' : List Rl} {P : Nat → Nat → Prop} (h : ClosedB rs P) (hs : SameR rs rs') (he : ∀ i, emptyAt rs' i = emptyAt rs i) : ClosedB rs' P := by
  intro j q hj nm hnm h0 l hor
  rw [knR_same hs he] at hnm
  rw [hs.find] at h0 hor
  have hl : j < rs.length := by
    have := (List.getElem?_eq_some_iff.1 hj).1
    have := hs.len
    omega
  obtain ⟨r', hr', e1, e2, e3⟩ := hs.at_ j rs[j] (List.getElem?_eq_getElem hl)
  rw [hj] at hr'
  injection hr' with hr'
  rw [hr', e3] at hnm
  exact h j _ (List.getElem?_eq_getElem hl) nm hnm h0 l hor
theorem fixB_good (F : Nat) (P : Nat → Nat → Prop) : ∀ (Z : Nat) (rs rz : List Rl), fixB F Z rs = some rz → rs.length ≤ 12 → DeepF F rs → ClosedB rs P → HoldsB rs P →
    SameR rs rz ∧ (∀ i, emptyAt rz i = emptyAt rs i) ∧ HoldsB rz P ∧ ∀ (j : Nat) (r : Rl), rz[j]? = some r → begN rz (F + 1) r.body = r.begins
  | 0, rs, rz, h, _, _, _, _ => by cases h
  | Z + 1, rs, rz, h, hl, hd, hp, he => by
    obtain ⟨h1, h2, h3, h4⟩ := roundB_good F P rs.length 0 rs false hl hd hp he
    unfold fixB at h
    split at h
    · obtain ⟨g1, g2, g3, g4⟩ := fixB_good F P Z _ rz h (by rw [h1.len]; exact hl) (hd.same h1) (hp.same h1 h2) h3
      exact ⟨h1.trans g1, fun i => (g2 i).trans (h2 i), g3, g4⟩
    · rename_i hx
      injection h with h
      have h5 := h4 (by simpa using hx)
      rw [h5.2.1] at h
      subst h
      refine ⟨SameR.refl _, fun _ => rfl, he, fun j r hj => h5.2.2 j r (by omega) ?_ hj⟩
      have := (List.getElem?_eq_some_iff.1 hj).1
      omega
/-- with what rules begin, by number -/
def fsR (rs : List Rl) (kn : ByteArray → Bool) (i : Nat) : List Nat := match rs[i]? with | some r => (begW kn r.body).map fun nm => (findF rs nm).toNat | none => []
theorem mem_fsR {rs : List Rl} {kn : ByteArray → Bool} {i c : Nat} : c ∈ fsR rs kn i ↔ ∃ r, rs[i]? = some r ∧ ∃ nm ∈ begW kn r.body, (findF rs nm).toNat = c := by
  unfold fsR
  cases rs[i]? with
  | none => simp
  | some r => simp
theorem fixB_reach (F Z : Nat) (rs rz : List Rl) (h : fixB F Z rs = some rz) (hl : rs.length ≤ 12) (hd : DeepF F rs) (h0 : ∀ r ∈ rs, r.begins = 0) (hk : ∀ r ∈ rs, ∀ nm ∈ begW (knR rs) r.body, 0 ≤ findF rs nm) :
    SameR rs rz ∧ (∀ i, emptyAt rz i = emptyAt rs i) ∧ ∀ (i : Nat) (r : Rl), rz[i]? = some r → ∀ j, hb r.begins j = reachR (fsR rs (knR rs)) rs.length i j := by
  have hlt : ∀ b c, c ∈ fsR rs (knR rs) b → c < rs.length := by
    intro b c hc
    obtain ⟨r, hr, nm, hnm, rfl⟩ := mem_fsR.1 hc
    have h1 := hk r (List.mem_of_getElem? hr) nm hnm
    have := findF_range rs nm
    omega
  obtain ⟨h1, h2, h3, h4⟩ := fixB_good F (Reach fun i j => j ∈ fsR rs (knR rs) i) Z rs rz h hl hd (fun j r hr nm hnm hf l hor => by
    have hm : (findF rs nm).toNat ∈ fsR rs (knR rs) j := mem_fsR.2 ⟨r, hr, nm, hnm, rfl⟩
    rcases hor with e | ⟨k, hkk⟩
    · refine ⟨0, ?_⟩
      show l ∈ fsR rs (knR rs) j
      rw [e] at hm
      simpa using hm
    · exact ⟨k + 1, _, hm, hkk⟩) (fun j r hr l hbl => by
    rw [h0 r (List.mem_of_getElem? hr), hb_zero] at hbl
    cases hbl)
  refine ⟨h1, h2, fun i r hr j => ?_⟩
  have key : ∀ k i j, Rch (fun i j => j ∈ fsR rs (knR rs) i) k i j → ∀ r, rz[i]? = some r → hb r.begins j = true := by
    have one : ∀ i r c, rz[i]? = some r → c ∈ fsR rs (knR rs) i → ∀ j : Nat, (c = j ∨ hb (beginsAt rz c) j = true) → hb r.begins j = true := by
      intro i r c hr hc j hor
      obtain ⟨q, hq, nm, hnm, hcn⟩ := mem_fsR.1 hc
      obtain ⟨r', hr', e1, e2, e3⟩ := h1.at_ i q hq
      rw [hr] at hr'
      injection hr' with hr'
      have hge := hk q (List.mem_of_getElem? hq) nm hnm
      rw [← h4 i r hr, begN_W rz (by rw [h1.len]; exact hl) j r.body F ((hd.same h1) r (List.mem_of_getElem? hr)), List.any_eq_true]
      refine ⟨nm, by rw [knR_same h1 h2, hr', e3]; exact hnm, ?_⟩
      unfold gb
      have hcc : findF rs nm = (c : Int) := by omega
      rw [h1.find, hcc, Bool.and_eq_true, Bool.or_eq_true]
      refine ⟨by simp, ?_⟩
      rcases hor with e | e
      · left; simp [e]
      · exact .inr e
    intro k
    induction k with
    | zero => exact fun i j hE r hr => one i r j hr hE j (.inl rfl)
    | succ k ih =>
      rintro i j ⟨c, hc, hR⟩ r hr
      refine one i r c hr hc j (.inr ?_)
      have hcl : c < rz.length := by rw [h1.len]; exact hlt i c hc
      have hg := List.getElem?_eq_getElem hcl
      unfold beginsAt
      rw [Int.toNat_natCast, hg]
      exact ih c j hR _ hg
  have hi := reachR_iff (fsR rs (knR rs)) rs.length i hlt j
  cases hx : reachR (fsR rs (knR rs)) rs.length i j with
  | true =>
    obtain ⟨k, hkk⟩ := hi.1 hx
    exact key k i j hkk r hr
  | false =>
    cases hy : hb r.begins j with
    | false => rfl
    | true =>
      have := hi.2 (h3 i r hr j hy)
      rw [hx] at this; cases this

/-- a rule of the document's answer -/
structure RX where
  name : ByteArray
  at_ : Int
  ex : Ex
def RX.rl (g : RX) : Rl := ⟨g.name, g.at_, g.ex.norm, false, 0⟩
def rlX (gs : List RX) : List Rl := gs.map RX.rl
def firstG (f : Ex → Int) : List RX → Int
  | [] => -1
  | g :: gs => if (f g.ex != -1) = true then f g.ex else firstG f gs
/-- what may be empty, level by level -/
def bareG (gs : List RX) (f : Nat → Bool) (i : Nat) : Bool := match gs[i]? with | some g => bareX (knF (rlX gs) f) g.ex | none => false
def knownG (gs : List RX) : Nat → Bool := empK (bareG gs) gs.length
def fsG (gs : List RX) (kn : ByteArray → Bool) (i : Nat) : List Nat := match gs[i]? with | some g => (begX kn g.ex).map fun nm => (findF (rlX gs) nm).toNat | none => []
def leftG (gs : List RX) (kn : ByteArray → Bool) : List RX → Nat → Int
  | [], _ => -1
  | g :: l, k => if reachR (fsG gs kn) gs.length k k = true then g.at_ else leftG gs kn l (k + 1)
/-- what is wrong with rules, and where -/
def lawX (gs : List RX) : Int × Int :=
  if gs.length = 0 ∨ 12 < gs.length then (4, 0) else
  if (twiceL (rlX gs) (rlX gs) 0 != -1) = true then (5, twiceL (rlX gs) (rlX gs) 0) else
  if (firstG (unkX (unR (rlX gs))) gs != -1) = true then (6, firstG (unkX (unR (rlX gs))) gs) else
  if (leftG gs (knF (rlX gs) (knownG gs)) gs 0 != -1) = true then (7, leftG gs (knF (rlX gs) (knownG gs)) gs 0) else
  if (firstG (loopX (knF (rlX gs) (knownG gs))) gs != -1) = true then (8, firstG (loopX (knF (rlX gs) (knownG gs))) gs) else (0, 0)
theorem rlX_at (gs : List RX) (i : Nat) : (rlX gs)[i]? = (gs[i]?).map RX.rl := by simp [rlX]
theorem firstG_R {f : Nd → Int} {g : Ex → Int} : ∀ {gs : List RX}, (∀ x ∈ gs, f x.ex.norm = g x.ex) → firstR f (rlX gs) = firstG g gs
  | [], _ => rfl
  | x :: gs, h => by
    show firstR f (x.rl :: rlX gs) = _
    rw [firstR, firstG, firstG_R fun y hy => h y (by simp [hy])]
    show (if (f x.ex.norm != -1) = true then f x.ex.norm else _) = _
    rw [h x (by simp)]
theorem firstR_same {f : Nd → Int} : ∀ {rs rs' : List Rl}, SameR rs rs' → firstR f rs' = firstR f rs
  | [], [], _ => rfl
  | [], _ :: _, h => by have := h.len; simp at this
  | _ :: _, [], h => by have := h.len; simp at this
  | r :: rs, r' :: rs', h => by
    obtain ⟨q, hq, _, _, e1⟩ := h.at_ 0 r rfl
    have : r' = q := by simpa using hq
    subst this
    rw [firstR, firstR, e1, firstR_same (rs := rs) (rs' := rs') ⟨by have := h.len; simpa using this, fun i r hr => h.at_ (i + 1) r (by simpa using hr)⟩]
theorem firstR_congr {f g : Nd → Int} : ∀ {rs : List Rl}, (∀ r ∈ rs, f r.body = g r.body) → firstR f rs = firstR g rs
  | [], _ => rfl
  | r :: rs, h => by rw [firstR, firstR, h r (by simp), firstR_congr fun q hq => h q (by simp [hq])]
theorem bareF_G (gs : List RX) (ho : ∀ g ∈ gs, OkX g.ex) (f : Nat → Bool) (i : Nat) : bareF (rlX gs) f i = bareG gs f i := by
  unfold bareF bareG
  rw [rlX_at]
  cases hg : gs[i]? with
  | none => rfl
  | some g => exact may_norm _ g.ex (ho g (List.mem_of_getElem? hg))
theorem fsR_G (gs : List RX) (ho : ∀ g ∈ gs, OkX g.ex) (kn : ByteArray → Bool) (i : Nat) : fsR (rlX gs) kn i = fsG gs kn i := by
  unfold fsR fsG
  rw [rlX_at]
  cases hg : gs[i]? with
  | none => rfl
  | some g =>
    show (begW kn g.ex.norm).map _ = _
    rw [beg_norm kn g.ex (ho g (List.mem_of_getElem? hg))]
theorem firstG_none {f : Ex → Int} : ∀ {gs : List RX}, firstG f gs = -1 → ∀ g ∈ gs, f g.ex = -1
  | [], _, g, hg => by simp at hg
  | x :: gs, h, g, hg => by
    rw [firstG] at h
    split at h
    · rename_i hx; rw [h] at hx; simp at hx
    · rename_i hx
      rw [List.mem_cons] at hg
      rcases hg with rfl | hg
      · simpa using hx
      · exact firstG_none h g hg
theorem leftL_G {gs : List RX} {kn : ByteArray → Bool} (hl : gs.length ≤ 12) {rz : List Rl} (hs : SameR (rlX gs) rz) (hb' : ∀ (i : Nat) (r : Rl), rz[i]? = some r → hb r.begins i = reachR (fsG gs kn) gs.length i i) :
    ∀ (m k : Nat), k + m = gs.length → leftL (rz.drop k) k = leftG gs kn (gs.drop k) k
  | 0, k, hk => by
    have := hs.len
    have e1 : (rlX gs).length = gs.length := by simp [rlX]
    rw [List.drop_eq_nil_of_le (by omega), List.drop_eq_nil_of_le (by omega)]
    rfl
  | m + 1, k, hk => by
    have h1 := hs.len
    have e1 : (rlX gs).length = gs.length := by simp [rlX]
    have hkg : k < gs.length := by omega
    have hkz : k < rz.length := by omega
    rw [List.drop_eq_getElem_cons hkg, List.drop_eq_getElem_cons hkz, leftL, leftG, hb_and (by omega), hb' k _ (List.getElem?_eq_getElem hkz), leftL_G hl hs hb' m (k + 1) (by omega)]
    obtain ⟨r', hr', _, e2, _⟩ := hs.at_ k gs[k].rl (by rw [rlX_at, List.getElem?_eq_getElem hkg]; rfl)
    rw [List.getElem?_eq_getElem hkz] at hr'
    injection hr' with hr'
    rw [hr', e2]
    rfl
/-- the program's answer is the document's -/
theorem law_check (gs : List RX) (F Z : Nat) (r : Int × Int) (h : checkF F Z (rlX gs) = some r) (hd : DeepF F (rlX gs)) (ho : ∀ g ∈ gs, OkX g.ex) : lawX gs = r := by
  have hlen : (rlX gs).length = gs.length := by simp [rlX]
  unfold checkF at h
  unfold lawX
  rw [hlen] at h
  by_cases hn : gs.length = 0 ∨ 12 < gs.length
  · rw [if_pos hn] at h ⊢
    injection h
  · rw [if_neg hn] at h ⊢
    unfold check2 at h
    by_cases ht : (twiceL (rlX gs) (rlX gs) 0 != -1) = true
    · rw [if_pos ht] at h ⊢
      injection h
    · rw [if_neg ht] at h ⊢
      have hu : firstR (unkN (rlX gs) (F + 1)) (rlX gs) = firstG (unkX (unR (rlX gs))) gs := firstG_R fun x hx => by
        rw [unkN_W (rlX gs) x.ex.norm F (hd x.rl (List.mem_map.2 ⟨x, hx, rfl⟩)), unk_norm _ _ (ho x hx)]
      rw [hu] at h
      by_cases hun : (firstG (unkX (unR (rlX gs))) gs != -1) = true
      · rw [if_pos hun] at h ⊢
        injection h
      · rw [if_neg hun] at h ⊢
        have hnone := firstG_none (f := unkX (unR (rlX gs))) (gs := gs) (by simpa using hun)
        have hkn : ∀ kn : ByteArray → Bool, ∀ x ∈ gs, ∀ nm ∈ begX kn x.ex, 0 ≤ findF (rlX gs) nm := by
          intro kn x hx nm hnm
          have := beg_known kn (unR (rlX gs)) x.ex (ho x hx) (hnone x hx) nm hnm
          unfold unR at this
          simpa using this
        obtain ⟨h1, h2, h3⟩ := fixE_emp F (rlX gs) (by omega) hd (fun q hq => by
          obtain ⟨x, hx, rfl⟩ := List.mem_map.1 hq
          rfl)
        have hkk : ∀ i, i < gs.length → empF (fixE F 13 (rlX gs)) i = knownG gs i := by
          intro i hi
          rw [h3 i (by omega), hlen]
          unfold knownG
          have e : bareF (rlX gs) = bareG gs := by funext f i; exact bareF_G gs ho f i
          rw [e]
        have hkR : knR (fixE F 13 (rlX gs)) = knF (rlX gs) (knownG gs) := by
          rw [knR_F]
          funext nm
          unfold knF
          rw [h1.find]
          have hr := findF_range (rlX gs) nm
          by_cases h0 : 0 ≤ findF (rlX gs) nm
          · rw [hkk _ (by omega)]
          · simp [h0]
        cases hfb : fixB F Z (fixE F 13 (rlX gs)) with
        | none => rw [hfb] at h; cases h
        | some rz =>
          rw [hfb] at h
          have h' : check3 F rz = r := by simpa using h
          have hzero : ∀ q ∈ fixE F 13 (rlX gs), q.begins = 0 := fixE_zero F 13 (rlX gs) (fun q hq => by
            obtain ⟨x, hx, rfl⟩ := List.mem_map.1 hq
            rfl)
          obtain ⟨g1, g2, g3⟩ := fixB_reach F Z _ rz hfb (by rw [h1.len, hlen]; omega) h2 hzero (fun q hq nm hnm => by
            rw [h1.find]
            rw [hkR] at hnm
            obtain ⟨j, hj⟩ := List.mem_iff_getElem?.1 hq
            have hjl := (List.getElem?_eq_some_iff.1 hj).1
            rw [h1.len, hlen] at hjl
            obtain ⟨r', hr', _, _, e3⟩ := h1.at_ j gs[j].rl (by rw [rlX_at, List.getElem?_eq_getElem hjl]; rfl)
            rw [hj] at hr'
            injection hr' with hr'
            rw [hr', e3] at hnm
            have hnm' : nm ∈ begW (knF (rlX gs) (knownG gs)) gs[j].ex.norm := hnm
            rw [beg_norm _ _ (ho _ (List.getElem_mem hjl))] at hnm'
            exact hkn _ gs[j] (List.getElem_mem hjl) nm hnm')
          have hsz : SameR (rlX gs) rz := h1.trans g1
          have efs : fsR (fixE F 13 (rlX gs)) (knR (fixE F 13 (rlX gs))) = fsG gs (knF (rlX gs) (knownG gs)) := by
            funext i
            rw [hkR, ← fsR_G gs ho]
            unfold fsR
            cases hi : (rlX gs)[i]? with
            | none =>
              have : (fixE F 13 (rlX gs))[i]? = none := by
                rw [List.getElem?_eq_none_iff] at hi ⊢
                rw [h1.len]; exact hi
              rw [this]
            | some q =>
              obtain ⟨r', hr', _, _, e3⟩ := h1.at_ i q hi
              rw [hr']
              dsimp only
              rw [e3]
              exact List.map_congr_left fun nm _ => by rw [h1.find]
          have hleft : leftL rz 0 = leftG gs (knF (rlX gs) (knownG gs)) gs 0 := by
            have := leftL_G (kn := knF (rlX gs) (knownG gs)) (by omega) hsz (fun i q hq => by
              rw [g3 i q hq i, efs, h1.len, hlen]) gs.length 0 (by omega)
            simpa using this
          have hloop : firstR (loopN rz (F + 1)) rz = firstG (loopX (knF (rlX gs) (knownG gs))) gs := by
            have hdz := hd.same hsz
            have e1 : knR rz = knF (rlX gs) (knownG gs) := by rw [knR_same g1 g2, hkR]
            rw [firstR_congr (g := loopW (knF (rlX gs) (knownG gs))) (fun q hq => by rw [loopN_W rz q.body F (hdz q hq), e1]), firstR_same hsz]
            exact firstG_R fun x hx => loop_norm _ _ (ho x hx)
          unfold check3 at h'
          rw [hleft, hloop] at h'
          exact h'
end Go.Proofs.Ytbojcemamhiodaa

import Derived.Test.YtbojcemamhiodaaGreatDoorLks
namespace Go.Proofs.YtbojcemamhiodaaGreatDoor

def TG1 (c : UInt8) (w : List UInt8) : List Tm := [⟨5, ByteArray.empty, [3, 4]⟩, ⟨0, bl [c], []⟩, ⟨9, ByteArray.empty, [1]⟩, ⟨4, ByteArray.empty, [2]⟩, ⟨0, bl w, []⟩]
def TG2 (c : UInt8) (w : List UInt8) : List Tm := [⟨5, ByteArray.empty, [2, 3]⟩, ⟨4, bl [120], [5]⟩, ⟨2, bl [110], [1]⟩, ⟨0, bl w, []⟩, ⟨1, bl [c], []⟩, ⟨10, ByteArray.empty, [4]⟩]
/-- how far a run of c goes from k on, n steps at the most -/
def runTo (s : List UInt8) (c : UInt8) : Nat → Nat → Nat
  | 0, k => k
  | n + 1, k => if s[k]? = some c then runTo s c n (k + 1) else k
theorem runTo_ge (s : List UInt8) (c : UInt8) : ∀ n k, k ≤ runTo s c n k ∧ runTo s c n k ≤ k + n
  | 0, k => by simp [runTo]
  | n + 1, k => by
    have := runTo_ge s c n (k + 1)
    unfold runTo
    split <;> omega
theorem stands1 (s : List UInt8) (c : UInt8) (k : Nat) : standsB s k [c] = decide (s[k]? = some c) := by
  unfold standsB
  rw [decide_eq_decide]
  constructor
  · intro h
    have := List.prefix_iff_getElem?.1 h 0 (by simp)
    rw [List.getElem?_drop] at this
    simpa using this
  · intro h
    rw [List.prefix_iff_getElem?]
    intro i hi
    have hi0 : i = 0 := by simp at hi; omega
    subst hi0
    rw [List.getElem?_drop]
    simpa using h
theorem oneM_c (s : List UInt8) (c : UInt8) (k : Nat) : oneM (bl s) (bl [c]) k = if s[k]? = some c then ((k + 1 : Nat) : Int) else -1 := by
  unfold oneM
  have key : ((k : Int) < (bl s).size ∧ ((List.range (bl [c]).size).any fun j => bAt (bl s) k == bAt (bl [c]) j) = true) ↔ s[k]? = some c := by
    rw [List.any_eq_true]
    constructor
    · rintro ⟨h1, j, hj, h2⟩
      rw [List.mem_range, bl_size] at hj
      have hj0 : j = 0 := by simp at hj; omega
      subst hj0
      rw [bl_size] at h1
      have hk' : k < s.length := by omega
      rw [beq_iff_eq, bAt_bl, bAt_bl, List.getElem?_eq_getElem hk'] at h2
      rw [List.getElem?_eq_getElem hk']
      congr 1
      have h3 : (((s[k]'hk').toNat : Nat) : Int) = ((c.toNat : Nat) : Int) := by simpa using h2
      exact UInt8.toNat_inj.1 (by omega)
    · intro h
      have hk' : k < s.length := by
        rcases Nat.lt_or_ge k s.length with h1 | h1
        · exact h1
        · rw [List.getElem?_eq_none h1] at h; cases h
      refine ⟨by rw [bl_size]; omega, 0, by rw [List.mem_range, bl_size]; simp, ?_⟩
      rw [beq_iff_eq, bAt_bl, bAt_bl, h]
      rfl
  by_cases h : s[k]? = some c
  · rw [if_pos (key.2 h), if_pos h]
    omega
  · rw [if_neg (fun x => h (key.1 x)), if_neg h]

/-- a run, of a term that takes c or fails, and catches nothing -/
theorem star_run {T : List Tm} {s : List UInt8} {c : UInt8} {i : Int} (hy : ∀ k : Nat, k ≤ s.length → s[k]? = some c → Mr T (bl s) i k ((k + 1 : Nat) : Int)) (hn : ∀ k : Nat, k ≤ s.length → ¬ s[k]? = some c → Mr T (bl s) i k (-1)) (hc : ∀ k : Nat, k ≤ s.length → Cr T (bl s) i k []) :
    ∀ (n k z : Nat), k + n = s.length → n < z → Sr T (bl s) [i] z k ((runTo s c n k : Nat) : Int) ∧ CSr T (bl s) [i] z k []
  | 0, k, z, hk, hz => by
    obtain ⟨z, rfl⟩ : ∃ z', z = z' + 1 := ⟨z - 1, by omega⟩
    have h : ¬ s[k]? = some c := by rw [List.getElem?_eq_none (by omega)]; simp
    have hr : Rr T (bl s) [i] k (-1) := Rr.no (hn k (by omega) h)
    exact ⟨Sr.stop hr (by omega), CSr.stop hr (by omega)⟩
  | n + 1, k, z, hk, hz => by
    obtain ⟨z, rfl⟩ : ∃ z', z = z' + 1 := ⟨z - 1, by omega⟩
    unfold runTo
    by_cases h : s[k]? = some c
    · rw [if_pos h]
      have hm := hy k (by omega) h
      have hr : Rr T (bl s) [i] k ((k + 1 : Nat) : Int) := Rr.cons hm (by omega) (Rr.nil _)
      have ih := star_run hy hn hc n (k + 1) z (by omega) (by omega)
      exact ⟨Sr.go hr (by omega) ih.1, CSr.go hr (by omega) (CRr.cons hm (by omega) (hc k (by omega)) (CRr.nil _) rfl) ih.2 rfl⟩
    · rw [if_neg h]
      have hr : Rr T (bl s) [i] k (-1) := Rr.no (hn k (by omega) h)
      exact ⟨Sr.stop hr (by omega), CSr.stop hr (by omega)⟩

section
variable (s w : List UInt8) (c : UInt8)
theorem greedy1 : ∃ k : Nat, k = runTo s c s.length 0 ∧ k ≤ s.length ∧ (standsB s k w = true → Mr (TG1 c w) (bl s) 0 0 ((k + w.length : Nat) : Int) ∧ Cr (TG1 c w) (bl s) 0 0 [.mk 0 k [] []]) ∧ (standsB s k w = false → Mr (TG1 c w) (bl s) 0 0 (-1)) := by
  have hz := bl_size s
  have hge := runTo_ge s c s.length 0
  obtain ⟨k, hk⟩ : ∃ k, k = runTo s c s.length 0 := ⟨_, rfl⟩
  have hr := star_run (T := TG1 c w) (s := s) (c := c) (i := ((1 : Nat) : Int))
    (fun k hk h => by have := word_yes (T := TG1 c w) (s := s) (u := [c]) (i := 1) (k := k) rfl hk (by rw [stands1]; simpa using h); simpa using this)
    (fun k hk h => word_no (T := TG1 c w) (s := s) (u := [c]) (i := 1) (k := k) rfl hk (by rw [stands1]; simpa using h))
    (fun k hk => Cr.word (i := 1) (by omega) (by omega) rfl) s.length 0 ((bl s).size + 2) (by omega) (by omega)
  rw [← hk] at hr hge
  have hkl : k ≤ s.length := by omega
  have m2 : Mr (TG1 c w) (bl s) 2 0 k := Mr.star (i := 2) (by omega) (by omega) rfl hr.1
  have r2 : Rr (TG1 c w) (bl s) [2] 0 k := Rr.cons m2 (by omega) (Rr.nil _)
  have c2 : Cr (TG1 c w) (bl s) 2 0 [] := Cr.star (i := 2) (by omega) (by omega) rfl hr.2
  have m3 : Mr (TG1 c w) (bl s) 3 0 k := Mr.part (i := 3) (by omega) (by omega) rfl r2
  have c3 : Cr (TG1 c w) (bl s) 3 0 [.mk 0 k [] []] := Cr.part (i := 3) (u := ByteArray.empty) (by omega) (by omega) rfl r2 (CRr.cons m2 (by omega) c2 (CRr.nil _) rfl)
  refine ⟨k, hk, hkl, fun h => ?_, fun h => ?_⟩
  · have hl := stands_len hkl h
    have m4 : Mr (TG1 c w) (bl s) 4 k ((k + w.length : Nat) : Int) := word_yes (T := TG1 c w) (i := 4) rfl hkl h
    exact ⟨Mr.row (i := 0) (by omega) (by omega) rfl (Rr.cons m3 (by omega) (Rr.cons m4 (by omega) (Rr.nil _))), Cr.row (i := 0) (by omega) (by omega) rfl (CRr.cons m3 (by omega) c3 (CRr.cons m4 (by omega) (Cr.word (i := 4) (by omega) (by omega) rfl) (CRr.nil _) rfl) rfl)⟩
  · have m4 : Mr (TG1 c w) (bl s) 4 k (-1) := word_no (T := TG1 c w) (i := 4) rfl hkl h
    exact Mr.row (i := 0) (by omega) (by omega) rfl (Rr.cons m3 (by omega) (Rr.no m4))
theorem greedy2 : ∃ k : Nat, k = runTo s c s.length 0 ∧ k ≤ s.length ∧ (0 < k → standsB s k w = true → Mr (TG2 c w) (bl s) 0 0 ((k + w.length : Nat) : Int) ∧ Cr (TG2 c w) (bl s) 0 0 [.mk 0 k [120] []]) ∧ (k = 0 ∨ standsB s k w = false → Mr (TG2 c w) (bl s) 0 0 (-1)) := by
  have hz := bl_size s
  have hge := runTo_ge s c s.length 0
  obtain ⟨k, hk⟩ : ∃ k, k = runTo s c s.length 0 := ⟨_, rfl⟩
  have hy : ∀ k : Nat, k ≤ s.length → s[k]? = some c → Mr (TG2 c w) (bl s) ((4 : Nat) : Int) k ((k + 1 : Nat) : Int) := fun k hk h => by
    have := Mr.one (T := TG2 c w) (s := bl s) (i := 4) (a := k) (by omega) (by omega) rfl
    rw [oneM_c s c k, if_pos h] at this
    exact this
  have hn : ∀ k : Nat, k ≤ s.length → ¬ s[k]? = some c → Mr (TG2 c w) (bl s) ((4 : Nat) : Int) k (-1) := fun k hk h => by
    have := Mr.one (T := TG2 c w) (s := bl s) (i := 4) (a := k) (by omega) (by omega) rfl
    rw [oneM_c s c k, if_neg h] at this
    exact this
  have hr := star_run (T := TG2 c w) (s := s) (c := c) (i := ((4 : Nat) : Int)) hy hn (fun k hk => Cr.one (i := 4) (by omega) (by omega) rfl)
  refine ⟨k, hk, by omega, fun h0 h => ?_, fun h => ?_⟩
  · have hkl : k ≤ s.length := by omega
    have hs0 : s[0]? = some c := by
      rcases Nat.eq_zero_or_pos s.length with e | e
      · omega
      · obtain ⟨n, hn⟩ : ∃ n, s.length = n + 1 := ⟨s.length - 1, by omega⟩
        rw [hn] at hk
        unfold runTo at hk
        split at hk
        · assumption
        · omega
    have hlen : 0 < s.length := by
      rcases Nat.eq_zero_or_pos s.length with e | e
      · rw [List.getElem?_eq_none (by omega)] at hs0; cases hs0
      · exact e
    obtain ⟨n, hln⟩ : ∃ n, s.length = n + 1 := ⟨s.length - 1, by omega⟩
    have hk1 : k = runTo s c n 1 := by
      rw [hk, hln]
      show (if s[0]? = some c then runTo s c n (0 + 1) else 0) = _
      rw [if_pos hs0]
    have h1 := hr n 1 ((bl s).size + 2) (by omega) (by omega)
    have h00 := hr s.length 0 ((bl s).size + 2) (by omega) (by omega)
    rw [← hk1] at h1
    have r4 : Rr (TG2 c w) (bl s) [4] 0 1 := Rr.cons (hy 0 (by omega) hs0) (by omega) (Rr.nil _)
    have m5 : Mr (TG2 c w) (bl s) 5 0 k := Mr.plus_yes (i := 5) (by omega) (by omega) rfl r4 (by omega) h1.1
    have c5 : Cr (TG2 c w) (bl s) 5 0 [] := Cr.plus (i := 5) (by omega) (by omega) rfl h00.2
    have r5 : Rr (TG2 c w) (bl s) [5] 0 k := Rr.cons m5 (by omega) (Rr.nil _)
    have m1 : Mr (TG2 c w) (bl s) 1 0 k := Mr.part (i := 1) (by omega) (by omega) rfl r5
    have c1 : Cr (TG2 c w) (bl s) 1 0 [.mk 0 k [120] []] := Cr.part (i := 1) (u := bl [120]) (by omega) (by omega) rfl r5 (CRr.cons m5 (by omega) c5 (CRr.nil _) rfl)
    have m2 : Mr (TG2 c w) (bl s) 2 0 k := Mr.name (i := 2) (by omega) (by omega) rfl (Rr.cons m1 (by omega) (Rr.nil _))
    have c2 : Cr (TG2 c w) (bl s) 2 0 [.mk 0 k [120] []] := Cr.name (i := 2) (by omega) (by omega) rfl (CRr.cons m1 (by omega) c1 (CRr.nil _) rfl)
    have hl := stands_len hkl h
    have m3 : Mr (TG2 c w) (bl s) 3 k ((k + w.length : Nat) : Int) := word_yes (T := TG2 c w) (i := 3) rfl hkl h
    exact ⟨Mr.row (i := 0) (by omega) (by omega) rfl (Rr.cons m2 (by omega) (Rr.cons m3 (by omega) (Rr.nil _))), Cr.row (i := 0) (by omega) (by omega) rfl (CRr.cons m2 (by omega) c2 (CRr.cons m3 (by omega) (Cr.word (i := 3) (by omega) (by omega) rfl) (CRr.nil _) rfl) rfl)⟩
  · by_cases hs0 : s[0]? = some c
    · have hlen : 0 < s.length := by
        rcases Nat.eq_zero_or_pos s.length with e | e
        · rw [List.getElem?_eq_none (by omega)] at hs0; cases hs0
        · exact e
      obtain ⟨n, hln⟩ : ∃ n, s.length = n + 1 := ⟨s.length - 1, by omega⟩
      have hk1 : k = runTo s c n 1 := by
        rw [hk, hln]
        show (if s[0]? = some c then runTo s c n (0 + 1) else 0) = _
        rw [if_pos hs0]
      have hge1 := runTo_ge s c n 1
      have hkl : k ≤ s.length := by omega
      have h' : standsB s k w = false := by
        rcases h with h | h
        · omega
        · exact h
      have h1 := hr n 1 ((bl s).size + 2) (by omega) (by omega)
      rw [← hk1] at h1
      have r4 : Rr (TG2 c w) (bl s) [4] 0 1 := Rr.cons (hy 0 (by omega) hs0) (by omega) (Rr.nil _)
      have m5 : Mr (TG2 c w) (bl s) 5 0 k := Mr.plus_yes (i := 5) (by omega) (by omega) rfl r4 (by omega) h1.1
      have m1 : Mr (TG2 c w) (bl s) 1 0 k := Mr.part (i := 1) (by omega) (by omega) rfl (Rr.cons m5 (by omega) (Rr.nil _))
      have m2 : Mr (TG2 c w) (bl s) 2 0 k := Mr.name (i := 2) (by omega) (by omega) rfl (Rr.cons m1 (by omega) (Rr.nil _))
      have m3 : Mr (TG2 c w) (bl s) 3 k (-1) := word_no (T := TG2 c w) (i := 3) rfl hkl h'
      exact Mr.row (i := 0) (by omega) (by omega) rfl (Rr.cons m2 (by omega) (Rr.no m3))
    · have m5 : Mr (TG2 c w) (bl s) 5 0 (-1) := Mr.plus_no (i := 5) (by omega) (by omega) rfl (Rr.no (hn 0 (by omega) hs0))
      have m1 : Mr (TG2 c w) (bl s) 1 0 (-1) := Mr.part (i := 1) (by omega) (by omega) rfl (Rr.no m5)
      have m2 : Mr (TG2 c w) (bl s) 2 0 (-1) := Mr.name (i := 2) (by omega) (by omega) rfl (Rr.no m1)
      exact Mr.row (i := 0) (by omega) (by omega) rfl (Rr.no m2)
end
end Go.Proofs.YtbojcemamhiodaaGreatDoor

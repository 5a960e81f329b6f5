import Derived.Test.YtbojcemamhiodaaGreatDoorRecC
import Derived.Test.YtbojcemamhiodaaGreatDoorApp
namespace Go.Proofs.YtbojcemamhiodaaGreatDoor
open Go.RowKit

set_option maxHeartbeats 2000000 in
theorem look_any (w : World) (q : Nat) (s : ByteArray) (t : Tk) (d kk : Int) (r : Res) (hs : s.size ≤ 400) (ht : TkOk s t) (hp : Ps w q s t d)
    (hI : atIt s (nextT s t.to) = true → ∀ w', Ps w' q s (nextT s t.to) d → Calls Tryz.prog 140 #[.pointer (some ⟨q, 0, none⟩)] w' (Out s q w' r)) :
    Calls Tryz.prog 152 #[.pointer (some ⟨q, 0, none⟩), .int .i64 kk] w (Out s q w (if atIt s (nextT s t.to) = true then lookF kk r else errR 2 (nextT s t.to) d)) := by
  have hlt := hp.lt
  have hne : w.heap.size ≠ q := by omega
  have hn := ht.next
  cases hb : atIt s (nextT s t.to)
  · have Hb := hide hb
    clear hI hb
    rw [if_neg (by simp)]
    go_enter Tryz.func152, Tryz.ntmps152
    go_wp2_with fail
    go_at_call 118
    refine (step_any _ _ _ _ _ hs (by have := ht.from0; have := ht.le; omega) ht.size (hp.alloc _)).mono ?_
    rintro e w1 ⟨rfl, hp1, hb1⟩
    have hN1 := hide (hb1.keep (heap_alloc_new w _) hne)
    go_wp2_with fail
    go_at_call 139
    refine (atItem_any _ _ _ _ _ hs hn.1 hp1).mono ?_
    rintro e w2 ⟨rfl, hb2⟩
    rw [unhide Hb]
    have hB2 : But q w1 w2 := .of_below hb2 (Nat.le_refl _)
    have hN2 := hide (hB2.keep (unhide hN1) hne)
    obtain ⟨r0, r1, r2, r3, rf, hz1⟩ := four (unhide hN2)
    go_wp2
    refine bodyPost_ret (v := .tuple #[.agg #[.int .i64 0, .int .i64 0, .string ByteArray.empty, .slice none 0 0], .int .i64 2]) (by simp [results, Tryz.results152, go_sem, r0, r1, r2, r3]; rfl) rfl ?_
    exact ⟨none, 0, 0, rfl, Kids.nil _ _, (hp1.but hb2).set4 hne, (hb1.from_alloc.trans hB2).set4 (Nat.le_refl _)⟩
  · have HI := hide (hI hb)
    have Hb := hide hb
    clear hI hb
    rw [if_pos rfl]
    go_enter Tryz.func152, Tryz.ntmps152
    go_wp2_with fail
    go_at_call 118
    refine (step_any _ _ _ _ _ hs (by have := ht.from0; have := ht.le; omega) ht.size (hp.alloc _)).mono ?_
    rintro e w1 ⟨rfl, hp1, hb1⟩
    have hN1 := hide (hb1.keep (heap_alloc_new w _) hne)
    go_wp2_with fail
    go_at_call 139
    refine (atItem_any _ _ _ _ _ hs hn.1 hp1).mono ?_
    rintro e w2 ⟨rfl, hb2⟩
    rw [unhide Hb]
    have hB2 : But q w1 w2 := .of_below hb2 (Nat.le_refl _)
    go_wp2_with fail
    go_at_call 140
    refine (unhide HI _ (hp1.but hb2)).mono ?_
    rintro e w3 ⟨ao, nk, cp, rfl, hk3, hp3, hb3⟩
    have hB3 : But q w w3 := (hb1.from_alloc.trans hB2).trans hb3
    have hN3 := hide (hb3.keep (hB2.keep (unhide hN1) hne) hne)
    have hz1 := hb1.size
    have hz2 := hb2.size
    have hz3 := hb3.size
    obtain ⟨r0, r1, r2, r3, rf, hz4⟩ := four (unhide hN3)
    simp at hz1
    by_cases he : r.err ≠ 0
    · have b1 : (r.err != 0) = true := by simpa using he
      have HR' : Hid (lookF kk r = errR r.err r.tk r.d) := if_pos he
      clear he
      go_wp2
      refine bodyPost_ret (v := .tuple #[.agg #[.int .i64 0, .int .i64 0, .string ByteArray.empty, .slice none 0 0], .int .i64 r.err]) (by simp [results, Tryz.results152, go_sem, r0, r1, r2, r3, hz4]; rfl) rfl ?_
      rw [unhide HR']
      exact ⟨none, 0, 0, rfl, Kids.nil _ _, (hp3.set4 hne).alloc _, (hB3.set4 (Nat.le_refl _)).alloc _⟩
    · have b1 : (r.err != 0) = false := by simpa using he
      have HR' : Hid (lookF kk r = ⟨0, nd0 kk [r.nd], r.tk, r.d⟩) := if_neg he
      clear he
      go_wp2
      refine bodyPost_ret (v := .tuple #[.agg #[.int .i64 kk, .int .i64 0, .string ByteArray.empty, .slice (some ⟨w3.heap.size + 1, 0, none⟩) 1 1], .int .i64 0]) (by simp [results, Tryz.results152, go_sem, r0, r1, r2, r3, hz4, Nat.lt_succ_of_lt hz4]; rfl) rfl ?_
      rw [unhide HR']
      exact ⟨_, 1, 1, rfl, kids_wrap hk3 (by omega) (by omega) hz3 _, ((hp3.set4 hne).alloc _).alloc _, ((hB3.set4 (Nat.le_refl _)).alloc _).alloc _⟩

/-- a method whose answer is handed on: item, at a call of look or repeated -/
theorem item_step (w : World) (q : Nat) (s : ByteArray) (t : Tk) (d : Int) (r : Res) (hp : Ps w q s t d)
    (h7 : t.k = 7 → ∀ w', Ps w' q s t d → Calls Tryz.prog 152 #[.pointer (some ⟨q, 0, none⟩), .int .i64 7] w' (Out s q w' r))
    (h8 : t.k = 8 → ∀ w', Ps w' q s t d → Calls Tryz.prog 152 #[.pointer (some ⟨q, 0, none⟩), .int .i64 8] w' (Out s q w' r))
    (h9 : t.k ≠ 7 → t.k ≠ 8 → ∀ w', Ps w' q s t d → Calls Tryz.prog 153 #[.pointer (some ⟨q, 0, none⟩)] w' (Out s q w' r)) :
    Calls Tryz.prog 140 #[.pointer (some ⟨q, 0, none⟩)] w (Out s q w r) := by
  have hlt := hp.lt
  have hne : w.heap.size ≠ q := by omega
  obtain ⟨c0, c1, c2, c3, c4⟩ := hp.cells
  by_cases e7 : t.k = 7
  · have b7 : (t.k == 7) = true := by simp [e7]
    have H := hide (h7 e7)
    clear h7 h8 h9 e7
    go_enter Tryz.func140, Tryz.ntmps140
    go_wp2_with fail
    go_at_call 152
    refine (unhide H _ (hp.alloc _)).mono ?_
    rintro e w1 ⟨ao, nk, cp, rfl, hk1, hp1, hb1⟩
    have hN1 := hide (hb1.keep (heap_alloc_new w _) hne)
    obtain ⟨r0, r1, r2, r3, rf, hz1⟩ := four (unhide hN1)
    go_wp2
    refine bodyPost_ret (v := .tuple #[.agg #[.int .i64 r.nd.kind, .int .i64 r.nd.at_, .string r.nd.text, .slice ao nk cp], .int .i64 r.err]) (by simp [results, Tryz.results140, go_sem, r0, r1, r2, r3]) rfl ?_
    exact ⟨ao, nk, cp, rfl, hk1.keeps ((Keeps.refl _ _).set4 (by simp)) (by simp), hp1.set4 hne, hb1.from_alloc.set4 (Nat.le_refl _)⟩
  · have b7 : (t.k == 7) = false := by simp [e7]
    by_cases e8 : t.k = 8
    · have b8 : (t.k == 8) = true := by simp [e8]
      have H := hide (h8 e8)
      clear h7 h8 h9 e7 e8
      go_enter Tryz.func140, Tryz.ntmps140
      go_wp2_with fail
      go_at_call 152
      refine (unhide H _ (hp.alloc _)).mono ?_
      rintro e w1 ⟨ao, nk, cp, rfl, hk1, hp1, hb1⟩
      have hN1 := hide (hb1.keep (heap_alloc_new w _) hne)
      obtain ⟨r0, r1, r2, r3, rf, hz1⟩ := four (unhide hN1)
      go_wp2
      refine bodyPost_ret (v := .tuple #[.agg #[.int .i64 r.nd.kind, .int .i64 r.nd.at_, .string r.nd.text, .slice ao nk cp], .int .i64 r.err]) (by simp [results, Tryz.results140, go_sem, r0, r1, r2, r3]) rfl ?_
      exact ⟨ao, nk, cp, rfl, hk1.keeps ((Keeps.refl _ _).set4 (by simp)) (by simp), hp1.set4 hne, hb1.from_alloc.set4 (Nat.le_refl _)⟩
    · have b8 : (t.k == 8) = false := by simp [e8]
      have H := hide (h9 e7 e8)
      clear h7 h8 h9 e7 e8
      go_enter Tryz.func140, Tryz.ntmps140
      go_wp2_with fail
      go_at_call 153
      refine (unhide H _ (hp.alloc _)).mono ?_
      rintro e w1 ⟨ao, nk, cp, rfl, hk1, hp1, hb1⟩
      have hN1 := hide (hb1.keep (heap_alloc_new w _) hne)
      obtain ⟨r0, r1, r2, r3, rf, hz1⟩ := four (unhide hN1)
      go_wp2
      refine bodyPost_ret (v := .tuple #[.agg #[.int .i64 r.nd.kind, .int .i64 r.nd.at_, .string r.nd.text, .slice ao nk cp], .int .i64 r.err]) (by simp [results, Tryz.results140, go_sem, r0, r1, r2, r3]) rfl ?_
      exact ⟨ao, nk, cp, rfl, hk1.keeps ((Keeps.refl _ _).set4 (by simp)) (by simp), hp1.set4 hne, hb1.from_alloc.set4 (Nat.le_refl _)⟩

/-- the contract of repeated at depth d -/
def SaidR (s : ByteArray) (q : Nat) (E : Tk → Int → Res) (d : Int) : Prop :=
  ∀ w t, TkOk s t → 2 ≤ t.k → Ps w q s t d → Calls Tryz.prog 153 #[.pointer (some ⟨q, 0, none⟩)] w (Out s q w (repeatedF s E t d))

theorem itemF_1 {s : ByteArray} {E : Tk → Int → Res} {k : Nat} {t : Tk} {d : Int} (h : t.k = 7 ∨ t.k = 8) :
    itemF s E (k + 1) t d = if atIt s (nextT s t.to) = true then lookF t.k (itemF s E k (nextT s t.to) d) else errR 2 (nextT s t.to) d := by rw [itemF, if_pos h]
theorem itemF_2 {s : ByteArray} {E : Tk → Int → Res} {k : Nat} {t : Tk} {d : Int} (h : ¬ (t.k = 7 ∨ t.k = 8)) : itemF s E (k + 1) t d = repeatedF s E t d := by rw [itemF, if_neg h]

theorem item_any (q : Nat) (s : ByteArray) (d : Int) (E : Tk → Int → Res) (hs : s.size ≤ 400) (hR : SaidR s q E d) :
    ∀ (k : Nat) (t : Tk) (w : World), TkOk s t → 2 ≤ t.k → (s.size : Int) < k + t.from_ → Ps w q s t d → Calls Tryz.prog 140 #[.pointer (some ⟨q, 0, none⟩)] w (Out s q w (itemF s E k t d))
  | 0, t, w, ht, h2, hk, hp => by have := ht.le; have := ht.size; omega
  | k + 1, t, w, ht, h2, hk, hp => by
    have hn := ht.next
    have hlt := ht.lt h2
    have hlook : ∀ kk, (t.k = 7 ∨ t.k = 8) → t.k = kk → ∀ w', Ps w' q s t d → Calls Tryz.prog 152 #[.pointer (some ⟨q, 0, none⟩), .int .i64 kk] w' (Out s q w' (itemF s E (k + 1) t d)) := by
      intro kk h hkk w' hp'
      rw [itemF_1 h, hkk]
      exact look_any w' q s t d kk _ hs ht hp' fun ha w'' hp'' => item_any q s d E hs hR k _ w'' hn.1 (atIt_ge ha) (by omega) hp''
    refine item_step w q s t d _ hp (fun e => hlook 7 (.inl e) e) (fun e => hlook 8 (.inr e) e) fun e7 e8 w' hp' => ?_
    rw [itemF_2 (by omega)]
    exact hR w' t ht h2 hp'
end Go.Proofs.YtbojcemamhiodaaGreatDoor

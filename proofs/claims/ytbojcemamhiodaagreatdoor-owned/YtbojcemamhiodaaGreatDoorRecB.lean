import Derived.Test.YtbojcemamhiodaaGreatDoorRecA
import Derived.Deep.RegionHeld3
namespace Go.Proofs.YtbojcemamhiodaaGreatDoor
open Go.RowKit

/-- the contract of expression at depth d -/
def SaidE (s : ByteArray) (q : Nat) (E : Tk → Int → Res) (d : Int) : Prop :=
  ∀ w t, TkOk s t → Ps w q s t d → Calls Tryz.prog 82 #[.pointer (some ⟨q, 0, none⟩)] w (Out s q w (E t d))

theorem kids_wrap {w3 : World} {N lo lo2 : Nat} {t : Nd} {a b c e : Value} {ao : Option Addr} {n cp : Nat} (hk : Kids w3 lo2 (.slice ao n cp) t.kids) (hN : N < lo2) (hlo : lo ≤ lo2) (hz : lo2 ≤ w3.heap.size) (o : Obj) :
    Kids ((((((w3.setCell ⟨N, 0, none⟩ a).setCell ⟨N, 1, none⟩ b).setCell ⟨N, 2, none⟩ c).setCell ⟨N, 3, none⟩ e).alloc o).alloc
      (.cells #[.int .i64 t.kind, .int .i64 t.at_, .string t.text, .slice ao n cp] 118)) lo (.slice (some ⟨w3.heap.size + 1, 0, none⟩) 1 1) [t] := by
  have h4 : ((((((w3.setCell ⟨N, 0, none⟩ a).setCell ⟨N, 1, none⟩ b).setCell ⟨N, 2, none⟩ c).setCell ⟨N, 3, none⟩ e).alloc o)).heap.size = w3.heap.size + 1 := by simp [World.setCell]
  have hk4 := hk.keeps (lo' := lo2) (((Keeps.refl lo2 w3).set4 (a := a) (b := b) (c := c) (e := e) hN).alloc (by rw [size_set4]; omega) o) (Nat.le_refl _)
  have h5 := Kids.one (t := t) (hk4.keeps (Keeps.refl _ _) hlo) (by rw [h4]; omega)
  rw [h4] at h5
  exact h5

theorem namedN_yes {s : ByteArray} {t : Tk} (h : nmBefore s t 17 = true) : namedN s t = t.of s := if_pos h
theorem namedN_no {s : ByteArray} {t : Tk} (h : nmBefore s t 17 = false) : namedN s t = ByteArray.empty := if_neg (by simp [h])
theorem namedT_yes {s : ByteArray} {t : Tk} (h : nmBefore s t 17 = true) : namedT s t = nextT s (nextT s t.to).to := if_pos h
theorem namedT_no {s : ByteArray} {t : Tk} (h : nmBefore s t 17 = false) : namedT s t = t := if_neg (by simp [h])

set_option maxHeartbeats 2000000 in
theorem catchName_any (w : World) (q : Nat) (s : ByteArray) (t : Tk) (d : Int) (hs : s.size ≤ 400) (ht : TkOk s t) (hp : Ps w q s t d) :
    Calls Tryz.prog 165 #[.pointer (some ⟨q, 0, none⟩)] w fun e w' => e = .returned (.string (namedN s t)) ∧ Ps w' q s (namedT s t) d ∧ But q w w' := by
  have h0 : 0 ≤ t.to := by have := ht.from0; have := ht.le; omega
  have ht2 := (nextT_ok s t.to h0 ht.size).1
  cases hn : nmBefore s t 17
  · have HN := hide (namedN_no hn)
    have HT := hide (namedT_no hn)
    have Hn := hide hn
    clear hn
    go_enter Tryz.func165, Tryz.ntmps165
    go_wp2_with (go_at_call 151; refine (nameBefore_any _ _ _ _ _ _ hs h0 ht.size hp).mono ?_; rintro e w' ⟨rfl, hb⟩; rw [unhide Hn])
    go_ret
    rw [unhide HN, unhide HT]
    exact ⟨rfl, hp.but hb, .of_below hb (Nat.le_refl _)⟩
  · have HN := hide (namedN_yes hn)
    have HT := hide (namedT_yes hn)
    have Hn := hide hn
    clear hn
    go_enter Tryz.func165, Tryz.ntmps165
    go_wp2_with fail
    go_at_call 151
    refine (nameBefore_any _ _ _ _ _ _ hs h0 ht.size hp).mono ?_
    rintro e w1 ⟨rfl, hb⟩
    rw [unhide Hn]
    have hp1 := hp.but hb
    have hlt := hp1.lt
    have hne : w1.heap.size ≠ q := by omega
    obtain ⟨c0, c1, c2, c3, c4⟩ := hp1.cells
    go_wp2_with fail
    go_at_call 118
    refine (step_any _ _ _ _ _ hs h0 ht.size (hp1.alloc _)).mono ?_
    rintro e w2 ⟨rfl, hp2, hb2⟩
    have hN2 := hide (hb2.keep (heap_alloc_new w1 _) hne)
    clear c0 c1 c2 c3 c4
    go_wp2_with fail
    go_at_call 118
    refine (step_any _ _ _ _ _ hs (by have := ht2.from0; have := ht2.le; omega) ht2.size hp2).mono ?_
    rintro e w3 ⟨rfl, hp3, hb3⟩
    have hN3 := hide (hb3.keep (unhide hN2) hne)
    have HB := hide (((But.of_below (q := q) hb (Nat.le_refl _)).trans hb2.from_alloc).trans hb3)
    obtain ⟨x0, x1, x2, hx⟩ := three (unhide hN3)
    obtain ⟨d0, d1, d2, d3, d4⟩ := hp3.cells
    have hlt3 := hp3.lt
    go_wp2_with fail
    go_region_held3 (fun w' => w'.cell? ⟨w1.heap.size, 0, none⟩ = some (.int .i64 t.k) ∧ w'.cell? ⟨w1.heap.size, 1, none⟩ = some (.int .i64 t.from_) ∧ w'.cell? ⟨w1.heap.size, 2, none⟩ = some (.int .i64 t.to) ∧ w'.cell? ⟨q, 0, none⟩ = some (.string s))
      (go_keep)
      (first | (go_at_call 83; refine (of_any _ _ _ ht).mono ?_; rintro e w4 ⟨rfl, hb4⟩; have hb5 := hide (below_drew hb4); clear hb4; obtain ⟨y0, y1, y2, hy⟩ := three (below_keep (unhide hb5) (unhide hN3) (Nat.le_refl _)); obtain ⟨z0, z1, z2, z3, z4⟩ := (hp3.but (unhide hb5)).cells))
    go_wp2
    go_ret
    rw [unhide HN, unhide HT]
    exact ⟨rfl, hp3.but (unhide hb5), (unhide HB).below (unhide hb5) (unhide HB).size⟩

set_option maxHeartbeats 1000000 in
theorem brackets_any (w : World) (q : Nat) (s : ByteArray) (t : Tk) (d : Int) (E : Tk → Int → Res) (hs : s.size ≤ 400) (ht : TkOk s t) (hp : Ps w q s t d) (hd : 0 ≤ d) (hd' : d ≤ 12)
    (hF : d < 12 → FineE s E (d + 1)) (hE : d < 12 → SaidE s q E (d + 1)) :
    Calls Tryz.prog 160 #[.pointer (some ⟨q, 0, none⟩)] w (Out s q w (bracketsF s E t d)) := by
  have hlt := hp.lt
  have hne : w.heap.size ≠ q := by omega
  have hn := ht.next
  by_cases h12 : 12 ≤ d
  · have HR : Hid (bracketsF s E t d = errR 3 t d) := if_pos h12
    clear hF hE
    go_enter Tryz.func160, Tryz.ntmps160
    go_wp2_with fail
    go_at_call 163
    refine (open_deep _ _ _ _ _ (hp.alloc _) h12).mono ?_
    rintro e w1 ⟨rfl, rfl⟩
    go_wp2
    refine bodyPost_ret (v := .tuple #[.agg #[.int .i64 0, .int .i64 0, .string ByteArray.empty, .slice none 0 0], .int .i64 3]) (by simp [results, Tryz.results160, go_sem]; rfl) rfl ?_
    rw [unhide HR]
    exact ⟨none, 0, 0, rfl, Kids.nil _ _, hp.alloc _, (But.refl q w).alloc _⟩
  · have HR : Hid (bracketsF s E t d = withinF s (E (nextT s t.to) (d + 1)) 14) := if_neg h12
    have HF := hide (hF (by omega) _ hn.1)
    have HE := hide (hE (by omega))
    clear hF hE
    go_enter Tryz.func160, Tryz.ntmps160
    go_wp2_with fail
    go_at_call 163
    refine (open_ok _ _ _ _ _ hs ht (hp.alloc _) hd (by omega)).mono ?_
    rintro e w1 ⟨rfl, hp1, hb1⟩
    have hN1 := hide (hb1.keep (heap_alloc_new w _) hne)
    go_wp2_with fail
    go_at_call 164
    refine (within_any _ _ _ _ _ _ _ hs hp1 (by omega) (by omega) (unhide HF) (fun w' hp' => unhide HE w' _ hn.1 hp')).mono ?_
    rintro e w2 ⟨ao, nk, cp, rfl, hk2, hp2, hb2⟩
    have hN2 := hide (hb2.keep (unhide hN1) hne)
    obtain ⟨r0, r1, r2, r3, rf, hz2⟩ := four (unhide hN2)
    have hz := hb1.size
    go_wp2
    refine bodyPost_ret (v := .tuple #[.agg #[.int .i64 (withinF s (E (nextT s t.to) (d + 1)) 14).nd.kind, .int .i64 (withinF s (E (nextT s t.to) (d + 1)) 14).nd.at_, .string (withinF s (E (nextT s t.to) (d + 1)) 14).nd.text, .slice ao nk cp], .int .i64 (withinF s (E (nextT s t.to) (d + 1)) 14).err]) (by simp [results, Tryz.results160, go_sem, r0, r1, r2, r3]) rfl ?_
    rw [unhide HR]
    simp at hz
    exact ⟨ao, nk, cp, rfl, hk2.keeps ((Keeps.refl _ _).set4 (by omega)) (by omega), hp2.set4 hne, (hb1.from_alloc.trans hb2).set4 (Nat.le_refl _)⟩

set_option maxHeartbeats 2000000 in
theorem catch_any (w : World) (q : Nat) (s : ByteArray) (t : Tk) (d : Int) (E : Tk → Int → Res) (hs : s.size ≤ 400) (ht : TkOk s t) (hp : Ps w q s t d) (hd : 0 ≤ d) (hd' : d ≤ 12)
    (hF : d < 12 → FineE s E (d + 1)) (hE : d < 12 → SaidE s q E (d + 1)) :
    Calls Tryz.prog 161 #[.pointer (some ⟨q, 0, none⟩)] w (Out s q w (catchF s E t d)) := by
  have hlt := hp.lt
  have hne : w.heap.size ≠ q := by omega
  have hn := ht.next
  by_cases h12 : 12 ≤ d
  · have HR : Hid (catchF s E t d = errR 3 t d) := if_pos h12
    clear hF hE
    go_enter Tryz.func161, Tryz.ntmps161
    go_wp2_with fail
    go_at_call 163
    refine (open_deep _ _ _ _ _ (hp.alloc _) h12).mono ?_
    rintro e w1 ⟨rfl, rfl⟩
    go_wp2
    refine bodyPost_ret (v := .tuple #[.agg #[.int .i64 0, .int .i64 0, .string ByteArray.empty, .slice none 0 0], .int .i64 3]) (by simp [results, Tryz.results161, go_sem]; rfl) rfl ?_
    rw [unhide HR]
    exact ⟨none, 0, 0, rfl, Kids.nil _ _, hp.alloc _, (But.refl q w).alloc _⟩
  · by_cases h16 : (nextT s t.to).k = 16
    · have HR : Hid (catchF s E t d = ⟨0, nd0 3 [], nextT s (nextT s t.to).to, d⟩) := by
        unfold catchF; rw [if_neg h12, if_pos h16]; rfl
      have b16 : ((nextT s t.to).k == 16) = true := by simp [h16]
      clear hF hE h16
      go_enter Tryz.func161, Tryz.ntmps161
      go_wp2_with fail
      go_at_call 163
      refine (open_ok _ _ _ _ _ hs ht (hp.alloc _) hd (by omega)).mono ?_
      rintro e w1 ⟨rfl, hp1, hb1⟩
      have hN1 := hide (hb1.keep (heap_alloc_new w _) hne)
      obtain ⟨c0, c1, c2, c3, c4⟩ := hp1.cells
      have cf := hp1.frozen
      go_wp2_with fail
      go_at_call 118
      refine (step_any _ _ _ _ _ hs (by have := hn.1.from0; have := hn.1.le; omega) hn.1.size (hp1.putD _)).mono ?_
      rintro e w2 ⟨rfl, hp2, hb2⟩
      have hB2 : But q w1 w2 := ((But.refl q w1).setCell (.inl rfl) _).trans hb2
      have hN2 := hide (hB2.keep (unhide hN1) hne)
      obtain ⟨r0, r1, r2, r3, rf, hz2⟩ := four (unhide hN2)
      go_wp2
      refine bodyPost_ret (v := .tuple #[.agg #[.int .i64 3, .int .i64 0, .string ByteArray.empty, .slice none 0 0], .int .i64 0]) (by simp [results, Tryz.results161, go_sem, r0, r1, r2, r3]; rfl) rfl ?_
      rw [unhide HR]
      exact ⟨none, 0, 0, rfl, Kids.nil _ _, hp2.set4 hne, (hb1.from_alloc.trans hB2).set4 (Nat.le_refl _)⟩
    · have b16 : ((nextT s t.to).k == 16) = false := by simp [h16]
      have HR : Hid (catchF s E t d = partF (namedN s (nextT s t.to)) (withinF s (E (namedT s (nextT s t.to)) (d + 1)) 16)) := by
        unfold catchF; rw [if_neg h12, if_neg h16]; rfl
      have hnt := namedT_fine hn.1
      have HF := hide (hF (by omega) _ hnt.1)
      have HE := hide (hE (by omega))
      clear hF hE h16
      go_enter Tryz.func161, Tryz.ntmps161
      go_wp2_with fail
      go_at_call 163
      refine (open_ok _ _ _ _ _ hs ht (hp.alloc _) hd (by omega)).mono ?_
      rintro e w1 ⟨rfl, hp1, hb1⟩
      have hN1 := hide (hb1.keep (heap_alloc_new w _) hne)
      obtain ⟨c0, c1, c2, c3, c4⟩ := hp1.cells
      go_wp2_with fail
      go_at_call 165
      refine (catchName_any _ _ _ _ _ hs hn.1 hp1).mono ?_
      rintro e w2 ⟨rfl, hp2, hb2⟩
      go_wp2_with fail
      go_at_call 164
      refine (within_any _ _ _ _ _ _ _ hs hp2 (by omega) (by omega) (unhide HF) (fun w' hp' => unhide HE w' _ hnt.1 hp')).mono ?_
      generalize withinF s (E (namedT s (nextT s t.to)) (d + 1)) 16 = r at HR ⊢
      rintro e w3 ⟨ao, nk, cp, rfl, hk3, hp3, hb3⟩
      have hB3 : But q w w3 := (hb1.from_alloc.trans hb2).trans hb3
      have hN3 := hide (hb3.keep (hb2.keep (unhide hN1) hne) hne)
      have hz1 := hb1.size
      have hz2 := hb2.size
      have hz3 := hb3.size
      obtain ⟨r0, r1, r2, r3, rf, hz4⟩ := four (unhide hN3)
      simp at hz1
      clear c0 c1 c2 c3 c4
      by_cases he : r.err ≠ 0
      · have b1 : (r.err != 0) = true := by simpa using he
        have HR' : Hid (catchF s E t d = errR r.err r.tk r.d) := (unhide HR).trans (if_pos he)
        clear he
        go_wp2
        refine bodyPost_ret (v := .tuple #[.agg #[.int .i64 0, .int .i64 0, .string ByteArray.empty, .slice none 0 0], .int .i64 r.err]) (by simp [results, Tryz.results161, go_sem, r0, r1, r2, r3, hz4]; rfl) rfl ?_
        rw [unhide HR']
        exact ⟨none, 0, 0, rfl, Kids.nil _ _, (hp3.set4 hne).alloc _, (hB3.set4 (Nat.le_refl _)).alloc _⟩
      · have b1 : (r.err != 0) = false := by simpa using he
        have HR' : Hid (catchF s E t d = ⟨0, ⟨4, 0, namedN s (nextT s t.to), [r.nd]⟩, r.tk, r.d⟩) := (unhide HR).trans (if_neg he)
        clear he
        go_wp2
        refine bodyPost_ret (v := .tuple #[.agg #[.int .i64 4, .int .i64 0, .string (namedN s (nextT s t.to)), .slice (some ⟨w3.heap.size + 1, 0, none⟩) 1 1], .int .i64 0]) (by simp [results, Tryz.results161, go_sem, r0, r1, r2, r3, hz4, Nat.lt_succ_of_lt hz4]) rfl ?_
        rw [unhide HR']
        exact ⟨_, 1, 1, rfl, kids_wrap hk3 (by omega) (by omega) hz3 _, ((hp3.set4 hne).alloc _).alloc _, ((hB3.set4 (Nat.le_refl _)).alloc _).alloc _⟩
end Go.Proofs.YtbojcemamhiodaaGreatDoor

import Derived.Test.YtcgocmocceikdabRecA
namespace Go.Proofs.Ytcgocmocceikdab
open Go.RowKit

/-- the contract of expression at depth d -/
def SaidE (s : ByteArray) (q : Nat) (E : Tk → Int → Res) (d : Int) : Prop :=
  ∀ w t, TkOk s t → Ps w q s t d → Calls Try.prog 22 #[.pointer (some ⟨q, 0, none⟩)] w (Out s q w (E t d))

theorem kids_wrap {w3 : World} {N lo lo2 : Nat} {t : Nd} {a b c d e : Value} {ao : Option Addr} {n cp : Nat} (hk : Kids w3 lo2 (.slice ao n cp) t.kids) (hN : N < lo2) (hlo : lo ≤ lo2) (hz : lo2 ≤ w3.heap.size) (o : Obj) :
    Kids (((((((w3.setCell ⟨N, 0, none⟩ a).setCell ⟨N, 1, none⟩ b).setCell ⟨N, 2, none⟩ c).setCell ⟨N, 3, none⟩ d).setCell ⟨N, 4, none⟩ e).alloc o).alloc
      (.cells #[.int .i64 t.kind, .int .i64 t.at_, .string t.name, .bool t.empty, .slice ao n cp] 52)) lo (.slice (some ⟨w3.heap.size + 1, 0, none⟩) 1 1) [t] := by
  have h4 : (((((((w3.setCell ⟨N, 0, none⟩ a).setCell ⟨N, 1, none⟩ b).setCell ⟨N, 2, none⟩ c).setCell ⟨N, 3, none⟩ d).setCell ⟨N, 4, none⟩ e).alloc o)).heap.size = w3.heap.size + 1 := by simp [World.setCell]
  have hk4 := hk.keeps (lo' := lo2) (((Keeps.refl lo2 w3).set5 (a := a) (b := b) (c := c) (d := d) (e := e) hN).alloc (by rw [size_set5]; omega) o) (Nat.le_refl _)
  have h5 := Kids.one (t := t) (hk4.keeps (Keeps.refl _ _) hlo) (by rw [h4]; omega)
  rw [h4] at h5
  exact h5

set_option maxHeartbeats 1000000 in
theorem brackets_any (w : World) (q : Nat) (s : ByteArray) (t : Tk) (d : Int) (E : Tk → Int → Res) (hs : s.size ≤ 400) (ht : TkOk s t) (hp : Ps w q s t d) (hd : 0 ≤ d) (hd' : d ≤ 12)
    (hF : d < 12 → FineE s E (d + 1)) (hE : d < 12 → SaidE s q E (d + 1)) :
    Calls Try.prog 56 #[.pointer (some ⟨q, 0, none⟩)] w (Out s q w (bracketsF s E t d)) := by
  have hlt := hp.lt
  have hne : w.heap.size ≠ q := by omega
  have hn := ht.next
  by_cases h12 : 12 ≤ d
  · have HR : Hid (bracketsF s E t d = errR 3 t d) := if_pos h12
    clear hF hE
    go_enter Try.func56, Try.ntmps56
    go_wp2_with fail
    go_at_call 58
    refine (open_deep _ _ _ _ _ (hp.alloc _) h12).mono ?_
    rintro e w1 ⟨rfl, rfl⟩
    go_wp2
    refine bodyPost_ret (v := .tuple #[.agg #[.int .i64 0, .int .i64 0, .string ByteArray.empty, .bool false, .slice none 0 0], .int .i64 3]) (by simp [results, Try.results56, go_sem]; rfl) rfl ?_
    rw [unhide HR]
    exact ⟨none, 0, 0, rfl, Kids.nil _ _, hp.alloc _, (But.refl q w).alloc _⟩
  · have HR : Hid (bracketsF s E t d = withinF s (E (nextT s t.to) (d + 1)) 14) := if_neg h12
    have HF := hide (hF (by omega) _ hn.1)
    have HE := hide (hE (by omega))
    clear hF hE
    go_enter Try.func56, Try.ntmps56
    go_wp2_with fail
    go_at_call 58
    refine (open_ok _ _ _ _ _ hs ht (hp.alloc _) hd (by omega)).mono ?_
    rintro e w1 ⟨rfl, hp1, hb1⟩
    have hN1 := hide (hb1.keep (heap_alloc_new w _) hne)
    go_wp2_with fail
    go_at_call 59
    refine (within_any _ _ _ _ _ _ _ hs hp1 (by omega) (by omega) (unhide HF) (fun w' hp' => unhide HE w' _ hn.1 hp')).mono ?_
    rintro e w2 ⟨ao, nk, cp, rfl, hk2, hp2, hb2⟩
    have hN2 := hide (hb2.keep (unhide hN1) hne)
    obtain ⟨r0, r1, r2, r3, r4, rf, hz2⟩ := five (unhide hN2)
    have hz := hb1.size
    go_wp2
    refine bodyPost_ret (v := .tuple #[.agg #[.int .i64 (withinF s (E (nextT s t.to) (d + 1)) 14).nd.kind, .int .i64 (withinF s (E (nextT s t.to) (d + 1)) 14).nd.at_, .string (withinF s (E (nextT s t.to) (d + 1)) 14).nd.name, .bool (withinF s (E (nextT s t.to) (d + 1)) 14).nd.empty, .slice ao nk cp], .int .i64 (withinF s (E (nextT s t.to) (d + 1)) 14).err]) (by simp [results, Try.results56, go_sem, r0, r1, r2, r3, r4]) rfl ?_
    rw [unhide HR]
    simp at hz
    exact ⟨ao, nk, cp, rfl, hk2.keeps ((Keeps.refl _ _).set5 (by omega)) (by omega), hp2.set5 hne, (hb1.from_alloc.trans hb2).set5 (Nat.le_refl _)⟩

set_option maxHeartbeats 2000000 in
theorem catch_any (w : World) (q : Nat) (s : ByteArray) (t : Tk) (d : Int) (E : Tk → Int → Res) (hs : s.size ≤ 400) (ht : TkOk s t) (hp : Ps w q s t d) (hd : 0 ≤ d) (hd' : d ≤ 12)
    (hF : d < 12 → FineE s E (d + 1)) (hE : d < 12 → SaidE s q E (d + 1)) :
    Calls Try.prog 57 #[.pointer (some ⟨q, 0, none⟩)] w (Out s q w (catchF s E t d)) := by
  have hlt := hp.lt
  have hne : w.heap.size ≠ q := by omega
  have hn := ht.next
  by_cases h12 : 12 ≤ d
  · have HR : Hid (catchF s E t d = errR 3 t d) := if_pos h12
    clear hF hE
    go_enter Try.func57, Try.ntmps57
    go_wp2_with fail
    go_at_call 58
    refine (open_deep _ _ _ _ _ (hp.alloc _) h12).mono ?_
    rintro e w1 ⟨rfl, rfl⟩
    go_wp2
    refine bodyPost_ret (v := .tuple #[.agg #[.int .i64 0, .int .i64 0, .string ByteArray.empty, .bool false, .slice none 0 0], .int .i64 3]) (by simp [results, Try.results57, go_sem]; rfl) rfl ?_
    rw [unhide HR]
    exact ⟨none, 0, 0, rfl, Kids.nil _ _, hp.alloc _, (But.refl q w).alloc _⟩
  · by_cases h16 : (nextT s t.to).k = 16
    · have HR : Hid (catchF s E t d = ⟨0, nd0 3 [], nextT s (nextT s t.to).to, d⟩) := by
        unfold catchF; rw [if_neg h12, if_pos h16]; rfl
      have b16 : ((nextT s t.to).k == 16) = true := by simp [h16]
      clear hF hE h16
      go_enter Try.func57, Try.ntmps57
      go_wp2_with fail
      go_at_call 58
      refine (open_ok _ _ _ _ _ hs ht (hp.alloc _) hd (by omega)).mono ?_
      rintro e w1 ⟨rfl, hp1, hb1⟩
      have hN1 := hide (hb1.keep (heap_alloc_new w _) hne)
      obtain ⟨c0, c1, c2, c3, c4⟩ := hp1.cells
      have cf := hp1.frozen
      go_wp2_with fail
      go_at_call 36
      refine (step_any _ _ _ _ _ hs (by have := hn.1.from0; have := hn.1.le; omega) hn.1.size (hp1.putD _)).mono ?_
      rintro e w2 ⟨rfl, hp2, hb2⟩
      have hB2 : But q w1 w2 := ((But.refl q w1).setCell (.inl rfl) _).trans hb2
      have hN2 := hide (hB2.keep (unhide hN1) hne)
      obtain ⟨r0, r1, r2, r3, r4, rf, hz2⟩ := five (unhide hN2)
      go_wp2
      refine bodyPost_ret (v := .tuple #[.agg #[.int .i64 3, .int .i64 0, .string ByteArray.empty, .bool false, .slice none 0 0], .int .i64 0]) (by simp [results, Try.results57, go_sem, r0, r1, r2, r3, r4]; rfl) rfl ?_
      rw [unhide HR]
      exact ⟨none, 0, 0, rfl, Kids.nil _ _, hp2.set5 hne, (hb1.from_alloc.trans hB2).set5 (Nat.le_refl _)⟩
    · have b16 : ((nextT s t.to).k == 16) = false := by simp [h16]
      have HR : Hid (catchF s E t d = partF (withinF s (E (namedT s (nextT s t.to)) (d + 1)) 16)) := by
        unfold catchF; rw [if_neg h12, if_neg h16]; rfl
      have hnt := namedT_fine hn.1
      have HF := hide (hF (by omega) _ hnt.1)
      have HE := hide (hE (by omega))
      clear hF hE h16
      go_enter Try.func57, Try.ntmps57
      go_wp2_with fail
      go_at_call 58
      refine (open_ok _ _ _ _ _ hs ht (hp.alloc _) hd (by omega)).mono ?_
      rintro e w1 ⟨rfl, hp1, hb1⟩
      have hN1 := hide (hb1.keep (heap_alloc_new w _) hne)
      obtain ⟨c0, c1, c2, c3, c4⟩ := hp1.cells
      go_wp2_with fail
      go_at_call 60
      have hname : Calls Try.prog 60 #[.pointer (some ⟨q, 0, none⟩)] w1 fun e w' => e = .returned (.tuple #[]) ∧ Ps w' q s (namedT s (nextT s t.to)) (d + 1) ∧ But q w1 w' := by
        unfold namedT
        by_cases hx : nmBefore s (nextT s t.to) 17 = true
        · rw [if_pos hx]; exact catchName_yes _ _ _ _ _ hs hn.1 hp1 hx
        · rw [if_neg hx]; exact catchName_no _ _ _ _ _ hs hn.1 hp1 (by simpa using hx)
      refine hname.mono ?_
      clear hname
      rintro e w2 ⟨rfl, hp2, hb2⟩
      go_wp2_with fail
      go_at_call 59
      refine (within_any _ _ _ _ _ _ _ hs hp2 (by omega) (by omega) (unhide HF) (fun w' hp' => unhide HE w' _ hnt.1 hp')).mono ?_
      generalize withinF s (E (namedT s (nextT s t.to)) (d + 1)) 16 = r at HR ⊢
      rintro e w3 ⟨ao, nk, cp, rfl, hk3, hp3, hb3⟩
      have hB3 : But q w w3 := (hb1.from_alloc.trans hb2).trans hb3
      have hN3 := hide (hb3.keep (hb2.keep (unhide hN1) hne) hne)
      have hz1 := hb1.size
      have hz2 := hb2.size
      have hz3 := hb3.size
      obtain ⟨r0, r1, r2, r3, r4, rf, hz4⟩ := five (unhide hN3)
      simp at hz1
      clear c0 c1 c2 c3 c4
      by_cases he : r.err ≠ 0
      · have b1 : (r.err != 0) = true := by simpa using he
        have HR' : Hid (catchF s E t d = errR r.err r.tk r.d) := (unhide HR).trans (if_pos he)
        clear he
        go_wp2
        refine bodyPost_ret (v := .tuple #[.agg #[.int .i64 0, .int .i64 0, .string ByteArray.empty, .bool false, .slice none 0 0], .int .i64 r.err]) (by simp [results, Try.results57, go_sem, r0, r1, r2, r3, r4, hz4]; rfl) rfl ?_
        rw [unhide HR']
        exact ⟨none, 0, 0, rfl, Kids.nil _ _, (hp3.set5 hne).alloc _, (hB3.set5 (Nat.le_refl _)).alloc _⟩
      · have b1 : (r.err != 0) = false := by simpa using he
        have HR' : Hid (catchF s E t d = ⟨0, nd0 4 [r.nd], r.tk, r.d⟩) := (unhide HR).trans (if_neg he)
        clear he
        go_wp2
        refine bodyPost_ret (v := .tuple #[.agg #[.int .i64 4, .int .i64 0, .string ByteArray.empty, .bool false, .slice (some ⟨w3.heap.size + 1, 0, none⟩) 1 1], .int .i64 0]) (by simp [results, Try.results57, go_sem, r0, r1, r2, r3, r4, hz4, Nat.lt_succ_of_lt hz4]; rfl) rfl ?_
        rw [unhide HR']
        exact ⟨_, 1, 1, rfl, kids_wrap hk3 (by omega) (by omega) hz3 _, ((hp3.set5 hne).alloc _).alloc _, ((hB3.set5 (Nat.le_refl _)).alloc _).alloc _⟩
end Go.Proofs.Ytcgocmocceikdab

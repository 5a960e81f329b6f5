import Derived.Test.YtbojcemamhiodabGreatDoorCx
import Derived.Lib.ItoaNum
import Derived.Lib.ItoaWalk
import Derived.Lib.Strings
import Derived.BigQuiet
namespace Go.Proofs.YtbojcemamhiodabGreatDoor
open Go.RowKit

theorem dec_dec (n : Nat) (h : n < 100) : Lib.decDigits n = decC n := by
  unfold decC
  by_cases h1 : n < 10
  · rw [Lib.decDigits_one h1, if_pos (by omega), Int.toNat_natCast]
  · rw [Lib.decDigits_two h1 h, if_neg (by omega), Int.toNat_natCast]
theorem ba_of (x : ByteArray) (l : List UInt8) (h : x.data.toList = l) : x = ⟨l.toArray⟩ := by
  apply ByteArray.ext
  rw [← h]

set_option maxRecDepth 100000 in
set_option maxHeartbeats 2000000 in
theorem small_any (n : Nat) (h : n < 100) (w : World) :
    Calls Tryz.prog 102 #[.int .i64 n] w fun e w' => e = .returned (.string ⟨(decC n).toArray⟩) ∧ w' = w := by
  rw [← dec_dec n h]
  go_enter Tryz.func102, Tryz.ntmps102
  go_name_bytes_deep 45 SM hSM
  have eSM : SM = Lib.smalls := by rw [← hSM]; decide +kernel
  subst eSM
  clear hSM
  go_name_bytes_deep 30 DG hDG
  have eDG : DG = Lib.digits36 := by rw [← hDG]; decide +kernel
  subst eDG
  clear hDG
  by_cases h10 : n < 10
  · have hsl : ∀ w, (Instr.slice 9 (.string Lib.digits36) (some (.int .i64 (n : Int))) (some (.int .i64 ((n : Int) + 1))) none).run Tryz.prog w = .ok (.string (Lib.digits36.extract n (n + 1))) w := fun w => by
      rw [run_slice_string w 9 Lib.digits36 .i64 .i64 _ _ Tryz.underlying9 (by omega) (by omega) (by rw [Lib.digits36_size]; omega), show ((n : Int)).toNat = n by omega, show ((n : Int) + 1).toNat = n + 1 by omega]
    go_wp2
    go_ret
    refine ⟨?_, rfl⟩
    show Ending.returned (Value.string (Lib.digits36.extract n (n + 1))) = _
    rw [ba_of (Lib.digits36.extract n (n + 1)) (Lib.decDigits n) (by rw [Lib.extract_data]; exact Lib.digits36_piece h10)]
  · have hsl : ∀ w, (Instr.slice 9 (.string Lib.smalls) (some (.int .i64 ((n : Int) * 2))) (some (.int .i64 ((n : Int) * 2 + 2))) none).run Tryz.prog w = .ok (.string (Lib.smalls.extract (n * 2) (n * 2 + 2))) w := fun w => by
      rw [run_slice_string w 9 Lib.smalls .i64 .i64 _ _ Tryz.underlying9 (by omega) (by omega) (by rw [Lib.smalls_size]; omega), show ((n : Int) * 2).toNat = n * 2 by omega, show ((n : Int) * 2 + 2).toNat = n * 2 + 2 by omega]
    go_wp2
    go_ret
    refine ⟨?_, rfl⟩
    show Ending.returned (Value.string (Lib.smalls.extract (n * 2) (n * 2 + 2))) = _
    rw [ba_of (Lib.smalls.extract (n * 2) (n * 2 + 2)) (Lib.decDigits n) (by rw [Lib.extract_data]; exact Lib.smalls_piece h10 h)]

set_option maxRecDepth 4000 in
set_option maxHeartbeats 1000000 in
theorem format_any (n : Nat) (h : n < 100) (w : World) :
    Calls Tryz.prog 97 #[.int .i64 n, .int .i64 10] w fun e w' => e = .returned (.string ⟨(decC n).toArray⟩) ∧ w' = w := by
  have HS := hide (small_any n h w)
  have hI : (n : Int) < 100 := by omega
  go_enter Tryz.func97, Tryz.ntmps97
  go_wp2_with fail
  go_at_call 102
  refine (unhide HS).mono ?_
  rintro e w' ⟨rfl, hw⟩
  replace hw := hw.symm
  subst hw
  go_wp2
  go_ret
  exact ⟨rfl, rfl⟩
set_option maxHeartbeats 1000000 in
theorem itoaI_any (n : Nat) (h : n < 100) (w : World) :
    Calls Tryz.prog 96 #[.int .i64 n] w fun e w' => e = .returned (.string ⟨(decC n).toArray⟩) ∧ w' = w := by
  have HS := hide (format_any n h w)
  go_enter Tryz.func96, Tryz.ntmps96
  go_wp2_with fail
  go_at_call 97
  refine (unhide HS).mono ?_
  rintro e w' ⟨rfl, hw⟩
  replace hw := hw.symm
  subst hw
  go_wp2
  go_ret
  exact ⟨rfl, rfl⟩
set_option maxHeartbeats 1000000 in
theorem itoa_any (n : Nat) (h : n < 100) (w : World) :
    Calls Tryz.prog 87 #[.int .i64 n] w fun e w' => e = .returned (.string ⟨(decC n).toArray⟩) ∧ w' = w := by
  have HS := hide (itoaI_any n h w)
  go_enter Tryz.func87, Tryz.ntmps87
  go_wp2_with fail
  go_at_call 96
  refine (unhide HS).mono ?_
  rintro e w' ⟨rfl, hw⟩
  replace hw := hw.symm
  subst hw
  go_wp2
  go_ret
  exact ⟨rfl, rfl⟩

section
variable (S : Nat → Prop) (p nb lo cb sb : Nat) (tv : Value) (T : List Tm) (s : ByteArray) (m : Int → Int → Option Int)
/-- what a method of the catcher leaves -/
def OutX (w : World) (ov : Value) (o' : List UInt8) (e : Ending) (w' : World) : Prop := ∃ ov', e = .returned (.tuple #[]) ∧ Cx w' S p nb lo cb sb tv T s m ov' o' ∧ Fx nb cb sb ov ov' w w'
end

section
variable {S : Nat → Prop} {p nb lo cb sb : Nat} {tv : Value} {T : List Tm} {s : ByteArray} {m : Int → Int → Option Int} {w : World} {ov : Value} {o : List UInt8}

theorem Cx.last (h : Cx w S p nb lo cb sb tv T s m ov o) (c : UInt8) (hc : o.getLast? = some c) : ∃ g cp, ov = .slice (some ⟨g, 0, none⟩) o.length cp ∧ o.length ≤ cp ∧ g < w.heap.size ∧ w.cell? ⟨g, o.length - 1, none⟩ = some (.int .u8 (c.toNat : Int)) := by
  have hpos : 0 < o.length := by
    cases o with
    | nil => cases hc
    | cons => simp
  obtain ⟨g, cp, rfl, _, hlt⟩ := h.out.form hpos
  refine ⟨g, cp, rfl, ?_, hlt, ?_⟩
  · rcases h.out.2 with ⟨_, hz⟩ | ⟨g', cap, cur, hv, _, _, hle, _⟩
    · omega
    · injection hv with _ _ e3
      omega
  · have h1 := h.out.cells (g := g) rfl (o.length - 1) (.int .u8 (c.toNat : Int)) ?_
    · have hadd : (⟨g, 0, none⟩ : Addr).add (o.length - 1) = ⟨g, o.length - 1, none⟩ := by unfold Addr.add; split <;> simp_all
      rw [hadd] at h1
      exact h1
    · rw [List.getLast?_eq_getElem?] at hc
      simp [u8s, hc]

set_option maxRecDepth 4000 in
set_option maxHeartbeats 2000000 in
theorem between_any (h : Cx w S p nb lo cb sb tv T s m ov o) (hb : (btwC o).length ≤ 140737488355328) :
    Calls Tryz.prog 73 #[.pointer (some ⟨cb, 0, none⟩)] w (OutX S p nb lo cb sb tv T s m w ov (btwC o)) := by
  obtain ⟨c0, c1, c2, cf, hcb⟩ := h.cells
  have hol := btwC_len o
  cases hl : o.getLast? with
  | none =>
    rw [List.getLast?_eq_none_iff] at hl
    subst hl
    obtain ⟨ao, cp, rfl, _, _⟩ := h.shape
    have e : btwC [] = [] := by simp [btwC]
    rw [e]
    have HC := hide h
    clear h hol hb e
    go_enter Tryz.func73, Tryz.ntmps73
    go_wp2
    go_end0
    exact ⟨_, rfl, unhide HC, Fx.refl _ _ _ _ _⟩
  | some c =>
    obtain ⟨g, cp, rfl, hcp, hg, hlast⟩ := h.last c hl
    have hpos : 0 < o.length := by
      cases o with
      | nil => cases hl
      | cons => simp
    have hidx : (((o.length : Int) - 1).toNat) = o.length - 1 := by omega
    by_cases h40 : c = 40
    · subst h40
      have e : btwC o = o := by unfold btwC; rw [if_pos (.inr hl)]
      have hn64' : o.length ≤ 140737488355328 := by omega
      rw [e]
      have HC := hide h
      clear h hl e hb
      obtain ⟨n, hn⟩ : ∃ n, o.length = n + 1 := ⟨o.length - 1, by omega⟩
      have hn64 : n + 1 ≤ 140737488355328 := by omega
      rw [hn] at c2 hlast hcp
      simp only [Nat.add_sub_cancel] at hlast
      clear hidx hol hpos
      have hlast' : w.cell? ⟨g, n, none⟩ = some (.int .u8 40) := hlast
      clear hlast
      go_enter Tryz.func73, Tryz.ntmps73
      go_wp2
      go_end0
      exact ⟨_, rfl, unhide HC, Fx.refl _ _ _ _ _⟩
    · have e : btwC o = o ++ [32] := by unfold btwC; rw [if_neg (by rintro (e | e); (rw [e] at hpos; simp at hpos); (rw [hl] at e; injection e with e; exact h40 e))]
      rw [e] at hb ⊢
      have hlen : o.length + 1 ≤ 140737488355328 := by simpa using hb
      have HO := hide h.out
      have HC := hide h
      have hne : ((c.toNat : Int) != 40) = true := by
        have : c.toNat ≠ 40 := fun e => h40 (UInt8.toNat_inj.1 e)
        simp
        omega
      have hlo := h.lt.2.2.2.2
      clear h hl e hb h40
      obtain ⟨n, hn⟩ : ∃ n, o.length = n + 1 := ⟨o.length - 1, by omega⟩
      have Hn := hide hn
      rw [hn] at c2 hlast hcp
      simp only [Nat.add_sub_cancel] at hlast
      have hn64 : n + 1 ≤ 140737488355328 := by omega
      clear hidx hol hpos
      go_enter Tryz.func73, Tryz.ntmps73
      go_wp2_with (first | (at_builtin; refine wpList_append1 rfl (.tmp 25) (.tmp 26) rfl lo (.slice (some ⟨g, 0, none⟩) o.length cp) o (by rw [unhide Hn]; rfl) 32 32 rfl _ (unhide HO) _ rfl rfl hlen hlo ?_) | fail)
      intro v' w' hown hgr hob
      have HP := hide ((unhide HC).put hgr hown hob)
      obtain ⟨k2, kf⟩ := (unhide HC).keepC hgr
      obtain ⟨_, _, _, hsh⟩ := hown.shape
      subst hsh
      clear hown hgr hob
      go_wp2
      go_end0
      exact ⟨_, rfl, (unhide HP).1, by rw [← unhide Hn]; exact (unhide HP).2⟩

set_option maxRecDepth 4000 in
set_option maxHeartbeats 2000000 in
theorem cnumber_any (h : Cx w S p nb lo cb sb tv T s m ov o) (n : Nat) (hn : n < 100) (hb : o.length + 2 ≤ 140737488355328) :
    Calls Tryz.prog 74 #[.pointer (some ⟨cb, 0, none⟩), .int .i64 n] w (OutX S p nb lo cb sb tv T s m w ov (o ++ decC n)) := by
  obtain ⟨c0, c1, c2, cf, hcb⟩ := h.cells
  have hdl : (decC n).length ≤ 2 := by unfold decC; split <;> simp
  have hsz : o.length + (⟨(decC n).toArray⟩ : ByteArray).size ≤ 140737488355328 := by show o.length + (decC n).toArray.size ≤ _; rw [List.size_toArray]; omega
  have HI := hide (itoa_any n hn w)
  have HO := hide h.out
  have HC := hide h
  have hlo := h.lt.2.2.2.2
  obtain ⟨ao, cp, rfl, _, _⟩ := h.shape
  clear h
  go_enter Tryz.func74, Tryz.ntmps74
  go_wp2_with fail
  go_at_call 87
  refine (unhide HI).mono ?_
  rintro e w1 ⟨rfl, hw⟩
  replace hw := hw.symm
  subst hw
  go_wp2_with (first | (at_builtin; refine wpList_appendS rfl (.tmp 11) (.tmp 12) rfl lo _ o rfl (unhide HO) _ rfl hsz hlo ?_) | fail)
  intro v' w' hown hgr hob
  have HP := hide ((unhide HC).put hgr hown hob)
  obtain ⟨k2, kf⟩ := (unhide HC).keepC hgr
  obtain ⟨_, _, _, hsh⟩ := hown.shape
  subst hsh
  clear hown hgr hob
  go_wp2
  go_end0
  exact ⟨_, rfl, (unhide HP).1, (unhide HP).2⟩
end
end Go.Proofs.YtbojcemamhiodabGreatDoor

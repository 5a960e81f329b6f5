import Derived.Test.YtbojcemamhiodaaGreatDoorWds
import Derived.Test.YtbojcemamhiodaaGreatDoorKps
import Derived.Test.YtbojcemamhiodaaGreatDoorLks
import Derived.Test.YtbojcemamhiodaaGreatDoorMat
namespace Go.Proofs.YtbojcemamhiodaaGreatDoor
open Go.RowKit

theorem ask_text (u v w : List UInt8) : askW u v w = bl (textW u v w) := by
  unfold askW
  rw [show (⟨#[114, 32, 60, 45, 32, 40, 39]⟩ : ByteArray) = bl [114, 32, 60, 45, 32, 40, 39] from rfl, show (⟨#[39, 32, 47, 32, 39]⟩ : ByteArray) = bl [39, 32, 47, 32, 39] from rfl, show (⟨#[39, 41, 32, 39]⟩ : ByteArray) = bl [39, 41, 32, 39] from rfl, show (⟨#[39]⟩ : ByteArray) = bl [39] from rfl]
  simp only [bl_app]
  congr 1
  simp [textW]
/-- nothing is caught -/
theorem catch_words (s u v w : List UInt8) (hne : toW s u v w ≠ -1) : Cr [⟨5, ByteArray.empty, [3, 4]⟩, ⟨0, bl u, []⟩, ⟨0, bl v, []⟩, ⟨6, ByteArray.empty, [1, 2]⟩, ⟨0, bl w, []⟩] (bl s) 0 0 [] := by
  obtain ⟨T, hT⟩ : ∃ T : List Tm, T = [⟨5, ByteArray.empty, [3, 4]⟩, ⟨0, bl u, []⟩, ⟨0, bl v, []⟩, ⟨6, ByteArray.empty, [1, 2]⟩, ⟨0, bl w, []⟩] := ⟨_, rfl⟩
  rw [← hT]
  have t0 : T[0]? = some ⟨5, ByteArray.empty, [3, 4]⟩ := by rw [hT]; rfl
  have t1 : T[1]? = some ⟨0, bl u, []⟩ := by rw [hT]; rfl
  have t2 : T[2]? = some ⟨0, bl v, []⟩ := by rw [hT]; rfl
  have t3 : T[3]? = some ⟨6, ByteArray.empty, [1, 2]⟩ := by rw [hT]; rfl
  have t4 : T[4]? = some ⟨0, bl w, []⟩ := by rw [hT]; rfl
  clear hT
  have hz := bl_size s
  have key : ∀ k : Nat, k ≤ s.length → Mr T (bl s) 3 0 k → Cr T (bl s) 3 0 [] → standsB s k w = true → Cr T (bl s) 0 0 [] := fun k hk m3 c3 h => by
    have hl := stands_len hk h
    have m4 : Mr T (bl s) 4 k ((k + w.length : Nat) : Int) := word_yes (i := 4) t4 hk h
    exact Cr.row (i := 0) (by omega) (by omega) t0 (CRr.cons m3 (by omega) c3 (CRr.cons m4 (by omega) (Cr.word (i := 4) (by omega) (by omega) t4) (CRr.nil _) rfl) rfl)
  unfold toW at hne
  by_cases hu : standsB s 0 u = true
  · rw [if_pos hu] at hne
    by_cases hw : standsB s u.length w = true
    · have hl := stands_len (by omega) hu
      have m1 : Mr T (bl s) 1 0 ((0 + u.length : Nat) : Int) := word_yes (i := 1) (k := 0) t1 (by omega) hu
      rw [Nat.zero_add] at m1
      exact key u.length (by omega) (Mr.choice (i := 3) (by omega) (by omega) t3 (Hr.yes m1 (by omega))) (Cr.choice (i := 3) (by omega) (by omega) t3 (CHr.yes m1 (by omega) (Cr.word (i := 1) (by omega) (by omega) t1))) hw
    · rw [if_neg hw] at hne
      exact absurd rfl hne
  · rw [if_neg hu] at hne
    have m1 : Mr T (bl s) 1 0 (-1) := word_no (i := 1) (k := 0) t1 (by omega) (by simpa using hu)
    by_cases hv : standsB s 0 v = true
    · rw [if_pos hv] at hne
      by_cases hw : standsB s v.length w = true
      · have hl := stands_len (by omega) hv
        have m2 : Mr T (bl s) 2 0 ((0 + v.length : Nat) : Int) := word_yes (i := 2) (k := 0) t2 (by omega) hv
        rw [Nat.zero_add] at m2
        exact key v.length (by omega) (Mr.choice (i := 3) (by omega) (by omega) t3 (Hr.no m1 (Hr.yes m2 (by omega)))) (Cr.choice (i := 3) (by omega) (by omega) t3 (CHr.no m1 (CHr.yes m2 (by omega) (Cr.word (i := 2) (by omega) (by omega) t2)))) hw
      · rw [if_neg hw] at hne
        exact absurd rfl hne
    · rw [if_neg hv] at hne
      exact absurd rfl hne
theorem words_ask (W : World) (u v w s : List UInt8) (hu : u.all isPlain = true) (hv : v.all isPlain = true) (hw : w.all isPlain = true) (hlu : u.length ≤ 5) (hlv : v.length ≤ 5) (hlw : w.length ≤ 5) (hls : s.length ≤ 60) :
    Calls Tryz.prog 24 #[.string (askW u v w), .string (bl s), .int .i64 0, .int .i64 (toW s u v w), .string ⟨#[]⟩] W fun e w' => e = .returned (.bool true) ∧ Below W.heap.size W w' := by
  rw [ask_text]
  have hlen : (textW u v w).length = 17 + u.length + v.length + w.length := by simp [textW]; omega
  have hz : ∀ l : List UInt8, l.length ≤ 5 → (bl l).size ≤ 400 := fun l h => by rw [bl_size]; omega
  refine matches_any W _ _ _ 0 _ 3 3 _ [] (by rw [bl_size, hlen]; omega) (compile_words u v w hu hv hw (by omega)) (by rw [parse_words u v w hu hv hw (by omega)]; exact build_words u v w) (by simp) ?_ (by rw [bl_size]; omega) (by omega) (by omega) ⟨3, match_words s u v w⟩ (fun hne => ⟨catch_words s u v w hne, by simp [wrL], rfl⟩)
  intro t ht
  simp only [List.mem_cons, List.not_mem_nil, or_false] at ht
  rcases ht with rfl | rfl | rfl | rfl | rfl
  · simp
  · exact hz u hlu
  · exact hz v hlv
  · simp
  · exact hz w hlw
theorem words_any (W : World) (a b c d : ByteArray) (ha : a.size ≤ 9223372036854775807) (hb : b.size ≤ 9223372036854775807) (hc : c.size ≤ 9223372036854775807) (hd : d.size ≤ 9223372036854775807) :
    Calls Tryz.prog 9 #[.string a, .string b, .string c, .string d] W fun e w' => e = .returned (.bool true) ∧ Below W.heap.size W w' := by
  have h5 : ∀ l : List UInt8, (l.take 5).length ≤ 5 := fun l => by simp; omega
  exact words_walk W a b c d ha hb hc hd _ _ _ _ rfl rfl rfl rfl (h5 _) (h5 _) (h5 _) (abcL_len _) (fun W => words_ask W _ _ _ _ (abcT_plain _ 5) (abcT_plain _ 5) (abcT_plain _ 5) (h5 _) (h5 _) (h5 _) (abcL_len _))
end Go.Proofs.YtbojcemamhiodaaGreatDoor

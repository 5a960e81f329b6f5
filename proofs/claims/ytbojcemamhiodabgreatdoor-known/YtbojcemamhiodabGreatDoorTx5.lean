import Derived.Test.YtbojcemamhiodabGreatDoorTx4
import Derived.Test.YtbojcemamhiodabGreatDoorHx2
namespace Go.Proofs.YtbojcemamhiodabGreatDoor
open Go.RowKit

theorem obindT {α β : Type} {o : Option α} {f : α → Option β} {r : β} (h : o.bind f = some r) : ∃ x, o = some x ∧ f x = some r := by
  cases o with
  | none => cases h
  | some x => exact ⟨x, rfl, h⟩
theorem cons_bl (c : UInt8) (l : List UInt8) : bl (c :: l) = ⟨#[c]⟩ ++ bl l := by
  rw [show (⟨#[c]⟩ : ByteArray) = bl [c] from rfl, bl_app]
  rfl
section
variable {S : Nat → Prop} {G : Nat} {nv tv : Value} {nms : List ByteArray} {T : List Tm} {f : Int → Int → Option (List UInt8)}
def partT (text : List UInt8) (x : List UInt8) : List UInt8 := if text = [] then 123 :: x ++ [125] else 123 :: text ++ [58, 32] ++ x ++ [125]

set_option maxRecDepth 4000 in
set_option maxHeartbeats 1000000 in
theorem barePart_any (hL : SaidLt S G nv tv nms T f) (w : World) (kind : Int) (text : ByteArray) (ks : List Int) (ao : Option Addr) (n cp : Nat) (x : List UInt8) (hG : Gm w S G nv tv nms T) (hT : Tab w) (hk : IntR w S (.slice ao n cp) ks) (htx : text.size ≤ 400) (hx : listT f [] 0 ks = some x) (hb : x.length ≤ 1099511627776) :
    Calls Tryz.prog 60 #[.pointer (some ⟨G, 0, none⟩), .agg #[.int .i64 kind, .string text, .slice ao n cp]] w fun e w' => e = .returned (.string (bl (partT text.data.toList x))) ∧ Below w.heap.size w w' := by
  have hA : Below w.heap.size w (w.alloc (.cells #[.int .i64 kind, .string text, .slice ao n cp] 80)) := (Below.refl _ _).alloc (Nat.le_refl _) _
  have HC := hide (hL _ ks ao n cp [] 0 x (hG.below hA) (hT.below hA) (hk.below hA) (by simp) (by omega) (by omega) hx hb)
  rw [show bl [] = (⟨#[]⟩ : ByteArray) from rfl] at HC
  have hzx := bl_size x
  have HA := hide hA
  have HBX := hide (fun (w2 : World) (hb2 : Below (w.alloc (.cells #[.int .i64 kind, .string text, .slice ao n cp] 80)).heap.size (w.alloc (.cells #[.int .i64 kind, .string text, .slice ao n cp] 80)) w2) => three_t (below_keep hb2 (heap_alloc_new w _) (Nat.le_refl _)))
  clear hL hG hT hk hx hA
  by_cases he : text = ByteArray.empty
  · subst he
    have HX : Hid (bl (partT ByteArray.empty.data.toList x) = ⟨#[123]⟩ ++ bl x ++ ⟨#[125]⟩) := by
      unfold Hid partT
      rw [if_pos (show ByteArray.empty.data.toList = [] from rfl), ← bl_app, cons_bl]
      rfl
    go_enter Tryz.func60, Tryz.ntmps60
    go_wp2_with fail
    go_at_call 61
    refine (unhide HC).mono ?_
    rintro e w2 ⟨rfl, hb2⟩
    obtain ⟨y0, y1, y2, yf, hy⟩ := unhide HBX w2 hb2
    have HB := hide ((unhide HA).trans (hb2.mono (unhide HA).size))
    clear hb2
    go_wp2
    go_ret
    exact ⟨by rw [unhide HX]; rfl, unhide HB⟩
  · have hne : ¬ text.data.toList = [] := fun e => he (by apply ByteArray.ext; apply Array.ext'; simpa using e)
    have hemp : text.toList.isEmpty = false := by rw [ByteArray.toList_eq]; cases hq : text.data.toList with | nil => exact absurd hq hne | cons => rfl
    have HX : Hid (bl (partT text.data.toList x) = ⟨#[123]⟩ ++ text ++ ⟨#[58, 32]⟩ ++ bl x ++ ⟨#[125]⟩) := by
      unfold Hid partT
      rw [if_neg hne, ← bl_app, ← bl_app, ← bl_app, cons_bl]
      rfl
    clear he hne
    go_enter Tryz.func60, Tryz.ntmps60
    go_wp2_with fail
    go_at_call 61
    refine (unhide HC).mono ?_
    rintro e w2 ⟨rfl, hb2⟩
    obtain ⟨y0, y1, y2, yf, hy⟩ := unhide HBX w2 hb2
    have HB := hide ((unhide HA).trans (hb2.mono (unhide HA).size))
    clear hb2
    go_wp2
    go_ret
    exact ⟨by rw [unhide HX]; rfl, unhide HB⟩

set_option maxRecDepth 4000 in
set_option maxHeartbeats 1000000 in
theorem bare_any (hL : SaidLt S G nv tv nms T f) (w : World) (t : Tm) (ao : Option Addr) (n cp : Nat) (x : List UInt8) (hG : Gm w S G nv tv nms T) (hT : Tab w) (hk : IntR w S (.slice ao n cp) t.kids) (htx : t.text.size ≤ 400) (hw : bareT f t = some x) (hb : x.length ≤ 1099511627776) :
    Calls Tryz.prog 35 #[.pointer (some ⟨G, 0, none⟩), .agg #[.int .i64 t.kind, .string t.text, .slice ao n cp]] w fun e w' => e = .returned (.string (bl x)) ∧ Below w.heap.size w w' := by
  have hA : Below w.heap.size w (w.alloc (.cells #[.int .i64 t.kind, .string t.text, .slice ao n cp] 80)) := (Below.refl _ _).alloc (Nat.le_refl _) _
  have HA := hide hA
  have hh := fmt_16
  have hP := hL
  unfold bareT at hw
  by_cases k0 : t.kind = 0
  · rw [if_pos k0] at hw
    have hx : wordT t.text.data.toList = x := by injection hw
    subst hx
    have b0 : (t.kind == 0) = true := by simp [k0]
    have HC := hide (writeWord_any hh t.text.data.toList htx _ (hT.below hA))
    rw [bl_of] at HC
    clear hL hP hh hG hT hk hw hA k0
    go_enter Tryz.func35, Tryz.ntmps35
    go_wp2_with fail
    go_at_call 58
    refine (unhide HC).mono ?_
    rintro e w2 ⟨rfl, hb2⟩
    have HB := hide ((unhide HA).trans (hb2.mono (unhide HA).size))
    clear hb2
    go_wp2
    go_ret
    exact ⟨rfl, unhide HB⟩
  rw [if_neg k0] at hw
  have b0 : (t.kind == 0) = false := by simp [k0]
  by_cases k1 : t.kind = 1
  · rw [if_pos k1] at hw
    have hx : setT t.text.data.toList = x := by injection hw
    subst hx
    have b1 : (t.kind == 1) = true := by simp [k1]
    have HC := hide (writeSet_any hh t.text.data.toList htx _ (hT.below hA))
    rw [bl_of] at HC
    clear hL hP hh hG hT hk hw hA k0 k1
    go_enter Tryz.func35, Tryz.ntmps35
    go_wp2_with fail
    go_at_call 59
    refine (unhide HC).mono ?_
    rintro e w2 ⟨rfl, hb2⟩
    have HB := hide ((unhide HA).trans (hb2.mono (unhide HA).size))
    clear hb2
    go_wp2
    go_ret
    exact ⟨rfl, unhide HB⟩
  rw [if_neg k1] at hw
  have b1 : (t.kind == 1) = false := by simp [k1]
  by_cases k2 : t.kind = 2
  · rw [if_pos k2] at hw
    have hx : t.text.data.toList = x := by injection hw
    have HX : Hid (bl x = t.text) := by rw [← hx, bl_of]; rfl
    have b2 : (t.kind == 2) = true := by simp [k2]
    clear hL hP hh hG hT hk hw hA k0 k1 k2
    go_enter Tryz.func35, Tryz.ntmps35
    go_wp2
    go_ret
    exact ⟨by rw [unhide HX]; rfl, unhide HA⟩
  rw [if_neg k2] at hw
  have b2 : (t.kind == 2) = false := by simp [k2]
  by_cases k3 : t.kind = 3
  · rw [if_pos k3] at hw
    have hx : [123, 125] = x := by injection hw
    subst hx
    have b3 : (t.kind == 3) = true := by simp [k3]
    clear hL hP hh hG hT hk hw hA k0 k1 k2 k3
    go_enter Tryz.func35, Tryz.ntmps35
    go_wp2
    go_ret
    exact ⟨rfl, unhide HA⟩
  rw [if_neg k3] at hw
  have b3 : (t.kind == 3) = false := by simp [k3]
  by_cases k4 : t.kind = 4
  · rw [if_pos k4] at hw
    obtain ⟨y, hy, hxy⟩ := obindT hw
    have hxy' : partT t.text.data.toList y = x := by injection hxy
    have hyl : y.length ≤ x.length := by
      rw [← hxy']
      unfold partT
      split <;> simp <;> omega
    subst hxy'
    have b4 : (t.kind == 4) = true := by simp [k4]
    have HC := hide (barePart_any hL _ t.kind t.text t.kids ao n cp y (hG.below hA) (hT.below hA) (hk.below hA) htx hy (by omega))
    clear hL hP hh hG hT hk hw hA k0 k1 k2 k3 k4 hy hxy
    go_enter Tryz.func35, Tryz.ntmps35
    go_wp2_with fail
    go_at_call 60
    refine (unhide HC).mono ?_
    rintro e w2 ⟨rfl, hb2⟩
    have HB := hide ((unhide HA).trans (hb2.mono (unhide HA).size))
    clear hb2
    go_wp2
    go_ret
    exact ⟨rfl, unhide HB⟩
  rw [if_neg k4] at hw
  have b4 : (t.kind == 4) = false := by simp [k4]
  by_cases k5 : t.kind = 5
  · rw [if_pos k5] at hw
    have b5 : (t.kind == 5) = true := by simp [k5]
    have HC := hide (hL _ t.kids ao n cp [32] 1 x (hG.below hA) (hT.below hA) (hk.below hA) (by simp) (by omega) (by omega) hw hb)
    rw [show bl [32] = (⟨#[32]⟩ : ByteArray) from rfl] at HC
    clear hL hP hh hG hT hk hw hA k0 k1 k2 k3 k4 k5
    go_enter Tryz.func35, Tryz.ntmps35
    go_wp2_with fail
    go_at_call 61
    refine (unhide HC).mono ?_
    rintro e w2 ⟨rfl, hb2⟩
    have HB := hide ((unhide HA).trans (hb2.mono (unhide HA).size))
    clear hb2
    go_wp2
    go_ret
    exact ⟨rfl, unhide HB⟩
  rw [if_neg k5] at hw
  have b5 : (t.kind == 5) = false := by simp [k5]
  by_cases k6 : t.kind = 6
  · rw [if_pos k6] at hw
    have b6 : (t.kind == 6) = true := by simp [k6]
    have HC := hide (hL _ t.kids ao n cp [32, 47, 32] 0 x (hG.below hA) (hT.below hA) (hk.below hA) (by simp) (by omega) (by omega) hw hb)
    rw [show bl [32, 47, 32] = (⟨#[32, 47, 32]⟩ : ByteArray) from rfl] at HC
    clear hL hP hh hG hT hk hw hA k0 k1 k2 k3 k4 k5 k6
    go_enter Tryz.func35, Tryz.ntmps35
    go_wp2_with fail
    go_at_call 61
    refine (unhide HC).mono ?_
    rintro e w2 ⟨rfl, hb2⟩
    have HB := hide ((unhide HA).trans (hb2.mono (unhide HA).size))
    clear hb2
    go_wp2
    go_ret
    exact ⟨rfl, unhide HB⟩
  rw [if_neg k6] at hw
  have b6 : (t.kind == 6) = false := by simp [k6]
  by_cases k7 : t.kind = 7
  · rw [if_pos k7] at hw
    have b7 : (t.kind == 7) = true := by simp [k7]
    obtain ⟨y, hy, hxy⟩ := obindT hw
    injection hxy with hxy
    have hyl : y.length ≤ x.length := by rw [← hxy]; simp
    have hzy := bl_size y
    have HC := hide (hL _ t.kids ao n cp [] 1 y (hG.below hA) (hT.below hA) (hk.below hA) (by simp) (by omega) (by omega) hy (by omega))
    rw [show bl [] = (⟨#[]⟩ : ByteArray) from rfl] at HC
    have HX : Hid (bl x = ⟨#[38]⟩ ++ bl y) := by rw [← hxy]; exact cons_bl _ _
    clear hL hP hh hG hT hk hw hA k0 k1 k2 k3 k4 k5 k6 k7 hy hxy
    go_enter Tryz.func35, Tryz.ntmps35
    go_wp2_with fail
    go_at_call 61
    refine (unhide HC).mono ?_
    rintro e w2 ⟨rfl, hb2⟩
    have HB := hide ((unhide HA).trans (hb2.mono (unhide HA).size))
    clear hb2
    go_wp2
    go_ret
    exact ⟨by rw [unhide HX]; rfl, unhide HB⟩
  rw [if_neg k7] at hw
  have b7 : (t.kind == 7) = false := by simp [k7]
  by_cases k8 : t.kind = 8
  · rw [if_pos k8] at hw
    have b8 : (t.kind == 8) = true := by simp [k8]
    obtain ⟨y, hy, hxy⟩ := obindT hw
    injection hxy with hxy
    have hyl : y.length ≤ x.length := by rw [← hxy]; simp
    have hzy := bl_size y
    have HC := hide (hL _ t.kids ao n cp [] 1 y (hG.below hA) (hT.below hA) (hk.below hA) (by simp) (by omega) (by omega) hy (by omega))
    rw [show bl [] = (⟨#[]⟩ : ByteArray) from rfl] at HC
    have HX : Hid (bl x = ⟨#[33]⟩ ++ bl y) := by rw [← hxy]; exact cons_bl _ _
    clear hL hP hh hG hT hk hw hA k0 k1 k2 k3 k4 k5 k6 k7 k8 hy hxy
    go_enter Tryz.func35, Tryz.ntmps35
    go_wp2_with fail
    go_at_call 61
    refine (unhide HC).mono ?_
    rintro e w2 ⟨rfl, hb2⟩
    have HB := hide ((unhide HA).trans (hb2.mono (unhide HA).size))
    clear hb2
    go_wp2
    go_ret
    exact ⟨by rw [unhide HX]; rfl, unhide HB⟩
  rw [if_neg k8] at hw
  have b8 : (t.kind == 8) = false := by simp [k8]
  by_cases k9 : t.kind = 9
  · rw [if_pos k9] at hw
    have b9 : (t.kind == 9) = true := by simp [k9]
    obtain ⟨y, hy, hxy⟩ := obindT hw
    injection hxy with hxy
    have hyl : y.length ≤ x.length := by rw [← hxy]; simp
    have hzy := bl_size y
    have HC := hide (hL _ t.kids ao n cp [] 2 y (hG.below hA) (hT.below hA) (hk.below hA) (by simp) (by omega) (by omega) hy (by omega))
    rw [show bl [] = (⟨#[]⟩ : ByteArray) from rfl] at HC
    have HX : Hid (bl x = bl y ++ ⟨#[42]⟩) := by rw [← hxy, ← bl_app]; rfl
    clear hL hP hh hG hT hk hw hA k0 k1 k2 k3 k4 k5 k6 k7 k8 k9 hy hxy
    go_enter Tryz.func35, Tryz.ntmps35
    go_wp2_with fail
    go_at_call 61
    refine (unhide HC).mono ?_
    rintro e w2 ⟨rfl, hb2⟩
    have HB := hide ((unhide HA).trans (hb2.mono (unhide HA).size))
    clear hb2
    go_wp2
    go_ret
    exact ⟨by rw [unhide HX]; rfl, unhide HB⟩
  rw [if_neg k9] at hw
  have b9 : (t.kind == 9) = false := by simp [k9]
  by_cases k10 : t.kind = 10
  · rw [if_pos k10] at hw
    have b10 : (t.kind == 10) = true := by simp [k10]
    obtain ⟨y, hy, hxy⟩ := obindT hw
    injection hxy with hxy
    have hyl : y.length ≤ x.length := by rw [← hxy]; simp
    have hzy := bl_size y
    have HC := hide (hL _ t.kids ao n cp [] 2 y (hG.below hA) (hT.below hA) (hk.below hA) (by simp) (by omega) (by omega) hy (by omega))
    rw [show bl [] = (⟨#[]⟩ : ByteArray) from rfl] at HC
    have HX : Hid (bl x = bl y ++ ⟨#[43]⟩) := by rw [← hxy, ← bl_app]; rfl
    clear hL hP hh hG hT hk hw hA k0 k1 k2 k3 k4 k5 k6 k7 k8 k9 k10 hy hxy
    go_enter Tryz.func35, Tryz.ntmps35
    go_wp2_with fail
    go_at_call 61
    refine (unhide HC).mono ?_
    rintro e w2 ⟨rfl, hb2⟩
    have HB := hide ((unhide HA).trans (hb2.mono (unhide HA).size))
    clear hb2
    go_wp2
    go_ret
    exact ⟨by rw [unhide HX]; rfl, unhide HB⟩
  rw [if_neg k10] at hw
  have b10 : (t.kind == 10) = false := by simp [k10]
  by_cases k11 : t.kind = 11
  · rw [if_pos k11] at hw
    have b11 : (t.kind == 11) = true := by simp [k11]
    obtain ⟨y, hy, hxy⟩ := obindT hw
    injection hxy with hxy
    have hyl : y.length ≤ x.length := by rw [← hxy]; simp
    have hzy := bl_size y
    have HC := hide (hL _ t.kids ao n cp [] 2 y (hG.below hA) (hT.below hA) (hk.below hA) (by simp) (by omega) (by omega) hy (by omega))
    rw [show bl [] = (⟨#[]⟩ : ByteArray) from rfl] at HC
    have HX : Hid (bl x = bl y ++ ⟨#[63]⟩) := by rw [← hxy, ← bl_app]; rfl
    clear hL hP hh hG hT hk hw hA k0 k1 k2 k3 k4 k5 k6 k7 k8 k9 k10 k11 hy hxy
    go_enter Tryz.func35, Tryz.ntmps35
    go_wp2_with fail
    go_at_call 61
    refine (unhide HC).mono ?_
    rintro e w2 ⟨rfl, hb2⟩
    have HB := hide ((unhide HA).trans (hb2.mono (unhide HA).size))
    clear hb2
    go_wp2
    go_ret
    exact ⟨by rw [unhide HX]; rfl, unhide HB⟩
  rw [if_neg k11] at hw
  have b11 : (t.kind == 11) = false := by simp [k11]
  have hx : [] = x := by injection hw
  subst hx
  clear hL hP hh hG hT hk hw hA k0 k1 k2 k3 k4 k5 k6 k7 k8 k9 k10 k11
  go_enter Tryz.func35, Tryz.ntmps35
  go_wp2
  go_ret
  exact ⟨rfl, unhide HA⟩
end
end Go.Proofs.YtbojcemamhiodabGreatDoor

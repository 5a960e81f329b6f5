import Derived.Test.YtbojcemamhiodabFpu
namespace Go.Proofs.Ytbojcemamhiodab
open Go.RowKit

set_option maxRecDepth 100000 in
set_option maxHeartbeats 40000000 in
theorem faults_any (w : World) :
    Calls Try.prog 4 #[] w (OutF w) := by
  go_enter Try.func4, Try.ntmps4
  go_wp2_with fail
  go_loopg [1] 393 (fun n v wr => ∃ k : Nat, k ≤ 392 ∧ v = .string (longK k) ∧ 392 - k < n ∧ wr = w)
  case atStart => exact ⟨0, by omega, rfl, by omega, rfl⟩
  case round =>
    obtain ⟨k, hk, rfl, hn, hw⟩ := hrel
    have hw' := hw.symm
    subst hw'
    have hsz : ((longK k).size : Int) = 8 + k := by rw [longK_size]; omega
    have Hsz := hide hsz
    clear hsz
    generalize hgen : longK k = L at *
    have Hgen := hide hgen
    clear hgen
    by_cases hk2 : k < 392
    · have hlt : (L.size : Int) < 400 := by have := unhide Hsz; omega
      go_wp2_with fail
      go_roundg (gk - 1)
      case measure => omega
      case rel => exact ⟨k + 1, by omega, by rw [longK, unhide Hgen], by omega, rfl⟩
    · have hge : 400 ≤ (L.size : Int) := by have := unhide Hsz; omega
      have HL : Hid (L = longK 392) := by
        have : k = 392 := by omega
        rw [← unhide Hgen, this]; rfl
      clear hge
      have hge : ¬ (L.size : Int) < 400 := by have := unhide Hsz; omega
      go_wp2_with fail
      clear hge hn hk hk2
      go_loopg [2, 3] 13 (fun n v i wx => ∃ k : Nat, k ≤ 12 ∧ v = .string (manyK k) ∧ i = .int .i64 k ∧ 12 - k < n ∧ Hid (Below w.heap.size w wx))
      case atStart => exact ⟨0, by omega, rfl, rfl, by omega, Below.refl _ _⟩
      case round =>
        obtain ⟨k2, hk2, rfl, rfl, hn2, HB2⟩ := hrel
        have hz2 := (unhide HB2).size
        have hms : (manyK k2).size ≤ 240 := by have := manyK_size k2; omega
        have hns := numB_size k2
        generalize hgen : manyK k2 = M at *
        have Hgm := hide hgen
        clear hgen
        by_cases hk3 : k2 < 12
        · go_wp2_with (go_at_call 7; refine (number_any _ _ hk3).mono ?_; rintro e w' ⟨rfl, hb'⟩)
          go_roundg (gk - 1)
          case measure => omega
          case rel => exact ⟨k2 + 1, by omega, by rw [manyK, unhide Hgm], by go_num, by omega, (unhide HB2).trans (hb'.mono hz2)⟩
        · have HM : Hid (M = manyK 12) := by
            have : k2 = 12 := by omega
            rw [← unhide Hgm, this]; rfl
          go_wp2_with fail
          clear hn2 hk3 hms hns
          go_loopg [4, 5] 13 (fun n v i wx => ∃ k : Nat, k ≤ 12 ∧ v = .string (deepK k) ∧ i = .int .i64 k ∧ 12 - k < n ∧ Hid (Below w.heap.size w wx))
          case atStart => exact ⟨0, by omega, rfl, rfl, by omega, unhide HB2⟩
          case round =>
            obtain ⟨k3, hk3, rfl, rfl, hn3, HB3⟩ := hrel
            have hds : (deepK k3).size ≤ 240 := by have := deepK_size k3; omega
            have HDe := hide (show deepK (k3 + 1) = deepK k3 ++ (if k3 % 2 = 0 then (⟨#[40, 123]⟩ : ByteArray).extract 0 1 else (⟨#[40, 123]⟩ : ByteArray).extract 1 2) from rfl)
            generalize hgen : deepK k3 = D at *
            have Hgd := hide hgen
            clear hgen
            by_cases hk4 : k3 < 12
            · by_cases hp : k3 % 2 = 0
              · have hp' : ((k3 : Int) % 2) = 0 := by omega
                have Hp := hide hp
                clear hp
                go_wp2_with fail
                go_roundg (gk - 1)
                case measure => omega
                case rel => exact ⟨k3 + 1, by omega, by rw [unhide HDe, if_pos (unhide Hp)], by go_num, by omega, HB3⟩
              · have hp' : ((k3 : Int) % 2) = 1 := by omega
                have Hp := hide hp
                clear hp
                go_wp2_with fail
                go_roundg (gk - 1)
                case measure => omega
                case rel => exact ⟨k3 + 1, by omega, by rw [unhide HDe, if_neg (unhide Hp)], by go_num, by omega, HB3⟩
            · have HD : Hid (D = deepK 12) := by
                have : k3 = 12 := by omega
                rw [← unhide Hgd, this]; rfl
              go_wp2_with fail
              clear hn3 hk4 HDe
              go_loopg [6, 7] 13 (fun n v i wx => ∃ k : Nat, k ≤ 12 ∧ v = .string (closedK k) ∧ i = .int .i64 (11 - (k : Int)) ∧ 12 - k < n ∧ Hid (Below w.heap.size w wx))
              case atStart => exact ⟨0, by omega, rfl, rfl, by omega, unhide HB3⟩
              case round =>
                obtain ⟨k4, hk4, rfl, rfl, hn4, HB4⟩ := hrel
                have hcs : (closedK k4).size ≤ 12 := by have := closedK_size k4; omega
                have HCe := hide (show closedK (k4 + 1) = closedK k4 ++ (if k4 % 2 = 0 then (⟨#[41, 125]⟩ : ByteArray).extract 1 2 else (⟨#[41, 125]⟩ : ByteArray).extract 0 1) from rfl)
                generalize hgen : closedK k4 = C at *
                have Hgc := hide hgen
                clear hgen
                by_cases hk5 : k4 < 12
                · by_cases hp : k4 % 2 = 0
                  · have hp' : ((11 - (k4 : Int)) % 2) = 1 := by omega
                    have Hp := hide hp
                    clear hp
                    go_wp2_with fail
                    go_roundg (gk - 1)
                    case measure => omega
                    case rel => exact ⟨k4 + 1, by omega, by rw [unhide HCe, if_pos (unhide Hp)], by go_num, by omega, HB4⟩
                  · have hp' : ((11 - (k4 : Int)) % 2) = 0 := by omega
                    have Hp := hide hp
                    clear hp
                    go_wp2_with fail
                    go_roundg (gk - 1)
                    case measure => omega
                    case rel => exact ⟨k4 + 1, by omega, by rw [unhide HCe, if_neg (unhide Hp)], by go_num, by omega, HB4⟩
                · have HC : Hid (C = closedK 12) := by
                    have : k4 = 12 := by omega
                    rw [← unhide Hgc, this]; rfl
                  have hLs : L.size ≤ 400 := by rw [unhide HL, longK_size]; omega
                  have hMs : M.size ≤ 240 := by rw [unhide HM]; exact manyK_size 12
                  have hlt4 : ¬ (0 : Int) ≤ 11 - (k4 : Int) := by omega
                  clear hn4 hk5 HCe
                  go_wp2
                  refine wp_buildT _ rfl (cellsT L M D C).toArray (by kernel_rfl) ?_
                  go_wp2
                  go_ret
                  exact out_faults (unhide HL) (unhide HM) (unhide HD) (unhide HC) (unhide HB4)
end Go.Proofs.Ytbojcemamhiodab

import Derived.Test.YtbojcemamhiodaaGreatDoorByts
import Derived.Test.YtbojcemamhiodaaGreatDoorFams
import Derived.Test.YtbojcemamhiodaaGreatDoorLks
import Derived.Deep.QuietTactic
import Derived.BigQuiet
import Derived.Test.YtbojcemamhiodaaGreatDoorCats
namespace Go.Proofs.YtbojcemamhiodaaGreatDoor
open Go.RowKit

/-- a byte as one of three letters -/
def abcC (c : UInt8) : UInt8 := UInt8.ofNat (97 + c.toNat % 3)
def abcL (l : List UInt8) : List UInt8 := (l.take 60).map abcC
def mixL (l : List UInt8) (k : Nat) : List UInt8 := (l.take k).map abcC ++ l.drop k
theorem mixL_length (l : List UInt8) (k : Nat) : (mixL l k).length = l.length := by simp [mixL]; omega
theorem mixL_at (l : List UInt8) (k : Nat) (h : k < l.length) : (mixL l k)[k]'(by rw [mixL_length]; exact h) = l[k] := by
  simp [mixL, Nat.min_eq_left (Nat.le_of_lt h)]
theorem mixL_set (l : List UInt8) (k : Nat) (h : k < l.length) : (mixL l k).set k (abcC l[k]) = mixL l (k + 1) := by
  unfold mixL
  have hl : ((l.take k).map abcC).length = k := by simp; omega
  rw [List.set_append_right _ _ (by omega), hl, Nat.sub_self, List.drop_eq_getElem_cons h, List.set_cons_zero, List.take_succ_eq_append_getElem h, List.map_append, List.append_assoc]
  rfl
theorem mixL_zero (l : List UInt8) : mixL l 0 = l := by simp [mixL]
theorem row_bl (l : List UInt8) (cap : Nat) : bytesRow (bl l) cap = (l.map (fun b => Value.int .u8 (b.toNat : Int)) ++ List.replicate (cap - l.length) (Value.int .u8 0)).toArray := by
  unfold bytesRow bl
  simp [ByteArray.size]
theorem row_set (l : List UInt8) (cap k : Nat) (h : k < l.length) (c : UInt8) : (bytesRow (bl l) cap).setIfInBounds k (Value.int .u8 (c.toNat : Int)) = bytesRow (bl (l.set k c)) cap := by
  rw [row_bl, row_bl]
  simp only [List.setIfInBounds_toArray, List.length_set]
  rw [List.set_append_left _ _ (by simpa using h), List.map_set]
theorem row_at (l : List UInt8) (cap k : Nat) (h : k < l.length) : (bytesRow (bl l) cap)[k]? = some (Value.int .u8 ((l[k]).toNat : Int)) := by
  rw [row_bl, List.getElem?_toArray, List.getElem?_append_left (by simpa using h), List.getElem?_map, List.getElem?_eq_getElem h]
  rfl
theorem row_size (l : List UInt8) (cap : Nat) (h : l.length ≤ cap) : (bytesRow (bl l) cap).size = cap := by
  rw [row_bl]
  simp
  omega
theorem extract_bl (s : ByteArray) (n : Nat) : s.extract 0 n = bl (s.data.toList.take n) := by
  apply ByteArray.ext
  rw [ByteArray.data_extract]
  apply Array.ext'
  simp [bl]
theorem bl_of (s : ByteArray) : bl s.data.toList = s := by
  apply ByteArray.ext
  simp [bl]
/-- the row of the letters, k of them done -/
def rowK (l : List UInt8) (cap k : Nat) : Array Value := bytesRow (bl (mixL l k)) cap
theorem rowK_cells (w : World) (l : List UInt8) (cap k : Nat) (fr : Nat × Nat) (h : k < l.length) (hf : fr.1 = (rowK l cap 0).size) (hc : l.length ≤ cap) : (w.alloc (.cells (rowK l cap k) 5 fr)).cell? ⟨w.heap.size, k, none⟩ = some (.int .u8 (l[k].toNat : Int)) ∧ (w.alloc (.cells (rowK l cap k) 5 fr)).frozen? ⟨w.heap.size, k, none⟩ = false := by
  constructor
  · simp only [World.cell?, heap_alloc_new]
    have := row_at (mixL l k) cap k (by rw [mixL_length]; exact h)
    rw [mixL_at l k h] at this
    exact this
  · simp only [World.frozen?, heap_alloc_new]
    rw [hf]
    have : (rowK l cap 0).size = cap := row_size _ _ (by rw [mixL_length]; exact hc)
    rw [this]
    simp
    omega
theorem set_mark (w : World) (c : Array Value) (t : TypeId) (fr : Nat × Nat) (i : Nat) (v : Value) : (w.alloc (.cells c t fr)).setCell ⟨w.heap.size, i, none⟩ v = w.alloc (.cells (c.setIfInBounds i v) t fr) := by
  simp only [World.setCell, World.alloc]
  congr 1
  apply Array.ext_getElem?
  intro j
  rw [Array.getElem?_modify]
  by_cases hj : w.heap.size = j
  · subst hj
    simp
  · rw [if_neg hj]
    simp only [Array.getElem?_push]
    split
    · rename_i h; exact absurd h.symm hj
    · rfl
theorem abc_at (c : UInt8) (h : c.toNat % 3 < (⟨#[97, 98, 99]⟩ : ByteArray).size) : ((⟨#[97, 98, 99]⟩ : ByteArray)[c.toNat % 3]'h) = abcC c := by
  have key : ∀ n : Nat, n < 3 → ∀ h : n < (⟨#[97, 98, 99]⟩ : ByteArray).size, ((⟨#[97, 98, 99]⟩ : ByteArray)[n]'h) = UInt8.ofNat (97 + n) := by decide +kernel
  exact key _ (by omega) h
theorem rowK_set (w : World) (l : List UInt8) (cap k : Nat) (fr : Nat × Nat) (h : k < l.length) (h3 : l[k].toNat % 3 < (⟨#[97, 98, 99]⟩ : ByteArray).size) : (w.alloc (.cells (rowK l cap k) 5 fr)).setCell ⟨w.heap.size, k, none⟩ (.int .u8 (((⟨#[97, 98, 99]⟩ : ByteArray)[l[k].toNat % 3]'h3).toNat : Int)) = w.alloc (.cells (rowK l cap (k + 1)) 5 fr) := by
  rw [set_mark, abc_at l[k] h3]
  unfold rowK
  rw [row_set _ _ _ (by rw [mixL_length]; exact h), mixL_set l k h]
theorem conv_row (w : World) (l : List UInt8) (cap k : Nat) (fr : Nat × Nat) : (convert 74 9 (.slice (some ⟨w.heap.size, 0, none⟩) l.length cap)).run Tryz.prog (w.alloc (.cells (rowK l cap k) 5 fr)) = .ok (.string (bl (mixL l k))) (w.alloc (.cells (rowK l cap k) 5 fr)) := by
  have h := run_convert_bytes_back (P := Tryz.prog) (w.alloc (.cells (rowK l cap k) 5 fr)) 74 9 5 ⟨w.heap.size, 0, none⟩ cap (mixL l k) Tryz.underlying74 Tryz.underlying5 Tryz.underlying9 ?_
  · rw [mixL_length] at h
    exact h
  · intro j hj
    have hadd : (⟨w.heap.size, 0, none⟩ : Addr).add j = ⟨w.heap.size, j, none⟩ := by unfold Addr.add; split <;> simp_all
    rw [hadd]
    simp only [World.cell?, heap_alloc_new]
    exact row_at (mixL l k) cap j hj

theorem conv_rowK (w : World) (p : ByteArray) (l : List UInt8) (hp : p = bl l) : ∃ (W0 : World) (cap : Nat) (fr : Nat × Nat), W0 = w.drew ∧ l.length ≤ cap ∧ fr.1 = (rowK l cap 0).size ∧
    (convert 9 74 (.string p)).run Tryz.prog w = .ok (.slice (some ⟨W0.heap.size, 0, none⟩) l.length cap) (W0.alloc (.cells (rowK l cap 0) 5 fr)) := by
  have h := conv_to (bl l) w
  rw [bl_size] at h
  refine ⟨w.drew, grownCap w l.length 0 5, ((rowK l (grownCap w l.length 0 5) 0).size, (rowK l (grownCap w l.length 0 5) 0).size + 1), rfl, ?_, rfl, ?_⟩
  · exact grownCap_ge _ _ _ _
  · rw [hp, h]
    unfold rowK
    rw [mixL_zero]
    rfl

set_option maxRecDepth 4000 in
set_option maxHeartbeats 2000000 in
theorem abc_any (w : World) (s : ByteArray) (hs : s.size ≤ 9223372036854775807) :
    Calls Tryz.prog 22 #[.string s] w fun e w' => e = .returned (.string (bl (abcL s.data.toList))) ∧ Below w.heap.size w w' := by
  by_cases h60 : s.size ≤ 60
  · obtain ⟨l, hl⟩ : ∃ l, s.data.toList = l := ⟨_, rfl⟩
    have hll : l.length ≤ 60 := by rw [← hl]; simpa using h60
    have HR : Hid (abcL l = mixL l l.length) := by
      unfold abcL mixL Hid
      rw [List.take_of_length_le hll]
      simp
    have hsl : s = bl l := by rw [← hl, bl_of]
    subst hsl
    have hz : (bl l).size = l.length := bl_size l
    rw [hl]
    clear hl
    obtain ⟨W0, cap, fr, hW0, hcap, hfr, hct⟩ := conv_rowK w ((bl l).extract 0 l.length) l (by rw [extract_bl]; simp [bl])
    have hW := hide hW0
    clear hW0
    go_enter Tryz.func22, Tryz.ntmps22
    go_wp2_with fail
    go_loopw [14] (fun i wr => ∃ k : Nat, k ≤ l.length ∧ i = .int .i64 k ∧ wr = W0.alloc (.cells (rowK l cap k) 5 fr)) (fun i _ => l.length - (intOf i).toNat)
    case atStart => exact ⟨0, by omega, rfl, rfl⟩
    case round =>
      obtain ⟨k, hk, rfl, rfl⟩ := hrel
      by_cases hlt : k < l.length
      · obtain ⟨hcl, hfz⟩ := rowK_cells W0 l cap k fr hlt hfr hcap
        have hset := hide (rowK_set W0 l cap k fr hlt (by show _ < 3; omega))
        go_wp2_with fail
        go_roundw
        case rel => exact ⟨k + 1, by omega, by go_num, unhide hset⟩
        case measure => simp [intOf]; omega
      · have hkk : k = l.length := by omega
        subst hkk
        have hcb := conv_row W0 l cap l.length fr
        go_wp2
        go_ret
        refine ⟨by rw [unhide HR]; rfl, ?_⟩
        have hWW := unhide hW
        subst hWW
        exact ((Below.refl _ _).drew).alloc (Nat.le_refl _) _
  · obtain ⟨l, hl⟩ : ∃ l, s.data.toList.take 60 = l := ⟨_, rfl⟩
    have hll : l.length = 60 := by
      rw [← hl]
      have : s.data.toList.length = s.size := by simp
      simp
      omega
    have HR : Hid (abcL s.data.toList = mixL l l.length) := by
      unfold abcL mixL Hid
      rw [hl]
      simp
    have hE := extract_bl s 60
    rw [hl] at hE
    clear hl
    obtain ⟨W0, cap, fr, hW0, hcap, hfr, hct⟩ := conv_rowK w (s.extract 0 60) l hE
    have hW := hide hW0
    rw [hll] at hct
    clear hE
    clear hW0
    go_enter Tryz.func22, Tryz.ntmps22
    go_wp2_with fail
    go_loopw [14] (fun i wr => ∃ k : Nat, k ≤ l.length ∧ i = .int .i64 k ∧ wr = W0.alloc (.cells (rowK l cap k) 5 fr)) (fun i _ => l.length - (intOf i).toNat)
    case atStart => exact ⟨0, by omega, rfl, rfl⟩
    case round =>
      obtain ⟨k, hk, rfl, rfl⟩ := hrel
      by_cases hlt : k < l.length
      · obtain ⟨hcl, hfz⟩ := rowK_cells W0 l cap k fr hlt hfr hcap
        have hset := hide (rowK_set W0 l cap k fr hlt (by show _ < 3; omega))
        go_wp2_with fail
        go_roundw
        case rel => exact ⟨k + 1, by omega, by go_num, unhide hset⟩
        case measure => simp [intOf]; omega
      · have hkk : k = 60 := by omega
        subst hkk
        have hcb := conv_row W0 l cap 60 fr
        rw [hll] at hcb
        go_wp2
        go_ret
        refine ⟨by rw [unhide HR, hll]; rfl, ?_⟩
        have hWW := unhide hW
        subst hWW
        exact ((Below.refl _ _).drew).alloc (Nat.le_refl _) _
end Go.Proofs.YtbojcemamhiodaaGreatDoor
namespace Go.Proofs.YtbojcemamhiodaaGreatDoor
open Go.RowKit

theorem abcL_len (l : List UInt8) : (abcL l).length ≤ 60 := by simp [abcL]; omega
set_option maxRecDepth 4000 in
set_option maxHeartbeats 2000000 in
theorem short_any (w : World) (s : ByteArray) (n : Nat) (hn : n ≤ 60) (hs : s.size ≤ 9223372036854775807) :
    Calls Tryz.prog 21 #[.string s, .int .i64 n] w fun e w' => e = .returned (.string (bl ((abcL s.data.toList).take n))) ∧ Below w.heap.size w w' := by
  obtain ⟨l, hl⟩ : ∃ l, abcL s.data.toList = l := ⟨_, rfl⟩
  have hll : l.length ≤ 60 := by rw [← hl]; exact abcL_len _
  have hz := bl_size l
  have H := hide (abc_any w s hs)
  rw [hl] at H ⊢
  have e1 : Hid ((bl l).extract 0 n = bl (l.take n)) := by unfold Hid; rw [extract_bl]; rfl
  have E2 : Hid (l.length ≤ n → bl l = bl (l.take n)) := fun h => by rw [List.take_of_length_le h]
  have E3 : Hid (l.length ≤ n → (bl l).extract 0 l.length = bl (l.take n)) := fun h => by rw [List.take_of_length_le h, extract_bl]; simp [bl]
  have hn2 : (n : Int) ≤ 60 := by omega
  by_cases h : l.length ≤ n
  · have EE := And.intro (hide (unhide E2 h)) (hide (unhide E3 h))
    go_enter Tryz.func21, Tryz.ntmps21
    go_wp2_with fail
    refine (unhide H).mono ?_
    rintro e w1 ⟨rfl, hb⟩
    have HB := hide hb
    clear hb
    go_wp2
    go_ret
    exact ⟨by first | (rw [← unhide EE.1]; rfl) | (rw [← unhide EE.2]; rfl), unhide HB⟩
  · go_enter Tryz.func21, Tryz.ntmps21
    go_wp2_with fail
    refine (unhide H).mono ?_
    rintro e w1 ⟨rfl, hb⟩
    have HB := hide hb
    clear hb
    go_wp2
    go_ret
    exact ⟨by rw [← unhide e1]; rfl, unhide HB⟩
set_option maxRecDepth 4000 in
set_option maxHeartbeats 2000000 in
theorem at_any (w : World) (s u : List UInt8) (k : Nat) (hs : s.length ≤ 60) (hu : u.length ≤ 60) (hk : k ≤ s.length) :
    Calls Tryz.prog 23 #[.string (bl s), .int .i64 k, .string (bl u)] w fun e w' => e = .returned (.bool (standsB s k u)) ∧ w' = w := by
  have hzs := bl_size s
  have hzu := bl_size u
  have HC := hide (stands_cut s u k)
  by_cases h : u.length + k ≤ s.length
  · go_enter Tryz.func23, Tryz.ntmps23
    go_wp2
    go_ret
    exact ⟨by rw [← unhide HC]; rfl, rfl⟩
  · have HN := hide (stands_no h hk)
    go_enter Tryz.func23, Tryz.ntmps23
    go_wp2
    go_ret
    exact ⟨by rw [unhide HN]; rfl, rfl⟩
end Go.Proofs.YtbojcemamhiodaaGreatDoor
namespace Go.Proofs.YtbojcemamhiodaaGreatDoor

theorem bl_app (a b : List UInt8) : bl a ++ bl b = bl (a ++ b) := by
  apply ByteArray.ext
  rw [ByteArray.data_append]
  simp [bl]
theorem abcC_plain (c : UInt8) : isPlain (abcC c) = true := by
  have key : ∀ n : Nat, n < 3 → isPlain (UInt8.ofNat (97 + n)) = true := by decide +kernel
  exact key _ (by omega)
theorem abcL_plain (l : List UInt8) : (abcL l).all isPlain = true := by
  rw [List.all_eq_true]
  intro c hc
  unfold abcL at hc
  obtain ⟨b, _, rfl⟩ := List.mem_map.1 hc
  exact abcC_plain b
theorem abcT_plain (l : List UInt8) (n : Nat) : ((abcL l).take n).all isPlain = true := by
  rw [List.all_eq_true]
  intro c hc
  exact List.all_eq_true.1 (abcL_plain l) c (List.mem_of_mem_take hc)
/-- what is caught, as a text -/
def capS (l : List Ct) : ByteArray := ⟨(wrL l).toArray⟩
end Go.Proofs.YtbojcemamhiodaaGreatDoor

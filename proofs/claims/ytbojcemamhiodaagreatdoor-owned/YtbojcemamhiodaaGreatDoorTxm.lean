import Derived.Test.YtbojcemamhiodaaGreatDoorParse
import Derived.Test.YtbojcemamhiodaaGreatDoorRfq
import Derived.Test.YtbojcemamhiodaaGreatDoorBui2
import Derived.Test.YtbojcemamhiodaaGreatDoorTrm
namespace Go.Proofs.YtbojcemamhiodaaGreatDoor
open Go.RowKit

theorem conv_at1 (b : Int) (c : UInt8) (hb : (c.toNat : Int) = b) (W : World) (B : Nat) (h : W.cell? ⟨B, 0, none⟩ = some (.int .u8 b)) : (convert 74 9 (.slice (some ⟨B, 0, none⟩) 1 1)).run Tryz.prog W = .ok (.string ⟨#[c]⟩) W := by
  refine run_convert_bytes_back (P := Tryz.prog) W 74 9 5 ⟨B, 0, none⟩ 1 [c] Tryz.underlying74 Tryz.underlying5 Tryz.underlying9 ?_
  intro j hj
  simp at hj
  subst hj
  have hadd : (⟨B, 0, none⟩ : Addr).add 0 = ⟨B, 0, none⟩ := by unfold Addr.add; split <;> simp_all
  rw [hadd, h]
  show _ = some (Value.int .u8 (c.toNat : Int))
  rw [hb]
theorem bl_of (s : ByteArray) : bl s.data.toList = s := by
  apply ByteArray.ext
  simp [bl]
theorem bl_app (a b : List UInt8) : bl a ++ bl b = bl (a ++ b) := by
  apply ByteArray.ext
  rw [ByteArray.data_append]
  simp [bl]
theorem IntR.at {w : World} {S : Nat → Prop} {ao : Option Addr} {n cp : Nat} {l : List Int} (h : IntR w S (.slice ao n cp) l) (k : Nat) (hk : k < l.length) : ∃ g, ao = some ⟨g, 0, none⟩ ∧ g < w.heap.size ∧ n ≤ cp ∧ w.cell? ⟨g, k, none⟩ = some (.int .i64 l[k]) := by
  rcases h.2 with ⟨_, hz⟩ | ⟨g, cap, cur, hv, hS, hh, hle, hcm, hcs, ht⟩
  · omega
  · injection hv with e1 e2 e3
    refine ⟨g, e1, (Array.getElem?_eq_some_iff.1 hh).1, by omega, ?_⟩
    have h1 : cur.toList[k]? = some (.int .i64 l[k]) := by
      have h2 : (cur.toList.take (l.length * 1))[k]? = some (.int .i64 l[k]) := by
        rw [ht]
        simp [ints, hk]
      rw [List.getElem?_take] at h2
      rw [if_pos (by omega)] at h2
      exact h2
    simpa [World.cell?, hh] using h1
theorem IntR.len {w : World} {S : Nat → Prop} {ao : Option Addr} {n cp : Nat} {l : List Int} (h : IntR w S (.slice ao n cp) l) : n = l.length ∧ l.length ≤ 2 ^ 63 - 1 := by
  rcases h.2 with ⟨hv, hz⟩ | ⟨g, cap, cur, hv, hS, hh, hle, hcm, hcs, ht⟩
  · injection hv with _ e2 _
    exact ⟨by omega, by omega⟩
  · injection hv with e1 e2 e3
    unfold maxLen at hcm
    exact ⟨e2, by omega⟩
end Go.Proofs.YtbojcemamhiodaaGreatDoor
namespace Go.Proofs.YtbojcemamhiodaaGreatDoor

def hexC (n : Nat) : UInt8 := if n < 10 then UInt8.ofNat (48 + n) else UInt8.ofNat (87 + n)
/-- the character of a byte -/
def chrC (c : UInt8) (mark : Bool) : List UInt8 := if mark = true then [92, c] else if 32 ≤ c.toNat ∧ c.toNat ≤ 126 then [c] else [92, 120, hexC (c.toNat / 16), hexC (c.toNat % 16)]
def wordT (l : List UInt8) : List UInt8 := 39 :: (l.flatMap fun c => chrC c (isWM c.toNat)) ++ [39]
/-- between its neighbours -/
def innB (l : List UInt8) (i : Nat) : Bool := match i with
  | 0 => false
  | j + 1 => match l[j]?, l[j + 1]?, l[j + 2]? with
    | some a, some b, some c => a.toNat + 1 == b.toNat && b.toNat + 1 == c.toNat
    | _, _, _ => false
def setT0 (l : List UInt8) : Nat → List UInt8
  | 0 => [91]
  | k + 1 => match l[k]? with
    | none => setT0 l k
    | some c => setT0 l k ++ (if innB l k = true then (if 0 < k ∧ innB l (k - 1) = true then [] else [45]) else chrC c (isSM c.toNat))
def setT (l : List UInt8) : List UInt8 := if l.length = 0 then [91, 94, 92, 120, 48, 48, 45, 92, 120, 102, 102, 93] else if l.length = 256 then [46] else setT0 l l.length ++ [93]
def lvlK (k : Int) : Int := if k = 5 ∨ k = 6 then 0 else if k = 7 ∨ k = 8 then 1 else 2

section
variable (f : Int → Int → Option (List UInt8))
def listA (btw : List UInt8) (least : Int) : List UInt8 → Bool → List Int → Option (List UInt8)
  | acc, _, [] => some acc
  | acc, first, i :: l => (f i least).bind fun x => listA btw least (acc ++ (if first = true then [] else btw) ++ x) false l
def listT (btw : List UInt8) (least : Int) (l : List Int) : Option (List UInt8) := listA f btw least [] true l
def bareT (t : Tm) : Option (List UInt8) :=
  if t.kind = 0 then some (wordT t.text.data.toList) else
  if t.kind = 1 then some (setT t.text.data.toList) else
  if t.kind = 2 then some t.text.data.toList else
  if t.kind = 3 then some [123, 125] else
  if t.kind = 4 then (listT f [] 0 t.kids).bind fun x => some (if t.text.data.toList = [] then 123 :: x ++ [125] else 123 :: t.text.data.toList ++ [58, 32] ++ x ++ [125]) else
  if t.kind = 5 then listT f [32] 1 t.kids else
  if t.kind = 6 then listT f [32, 47, 32] 0 t.kids else
  if t.kind = 7 then (listT f [] 1 t.kids).bind fun x => some (38 :: x) else
  if t.kind = 8 then (listT f [] 1 t.kids).bind fun x => some (33 :: x) else
  if t.kind = 9 then (listT f [] 2 t.kids).bind fun x => some (x ++ [42]) else
  if t.kind = 10 then (listT f [] 2 t.kids).bind fun x => some (x ++ [43]) else
  if t.kind = 11 then (listT f [] 2 t.kids).bind fun x => some (x ++ [63]) else some []
end
/-- the text of term i where a level is asked for; none: F is too small -/
def termT (T : List Tm) : Nat → Int → Int → Option (List UInt8)
  | 0, _, _ => none
  | F + 1, i, least => if i < 0 ∨ (T.length : Int) ≤ i then some [] else
    match T[i.toNat]? with
    | none => some []
    | some t => (bareT (termT T F) t).bind fun x => some (if lvlK t.kind < least then 40 :: x ++ [41] else x)
/-- the text of rules from k on -/
def rulesT (T : List Tm) (F : Nat) : List ByteArray → Nat → Option (List UInt8)
  | [], _ => some []
  | nm :: l, k => (termT T F k 0).bind fun x => (rulesT T F l (k + 1)).bind fun y => some (nm.data.toList ++ [32, 60, 45, 32] ++ x ++ [10] ++ y)

theorem listA_len {f : Int → Int → Option (List UInt8)} {btw : List UInt8} {least : Int} : ∀ (l : List Int) (acc : List UInt8) (b : Bool) (r : List UInt8), listA f btw least acc b l = some r → acc.length ≤ r.length
  | [], acc, b, r, h => by injection h with h; subst h; exact Nat.le_refl _
  | i :: l, acc, b, r, h => by
    unfold listA at h
    cases hx : f i least with
    | none => rw [hx] at h; cases h
    | some x =>
      rw [hx] at h
      have := listA_len l _ _ r h
      simp only [List.length_append] at this
      omega
theorem listA_cons {f : Int → Int → Option (List UInt8)} {btw : List UInt8} {least : Int} {i : Int} {l : List Int} {acc : List UInt8} {b : Bool} {r : List UInt8} (h : listA f btw least acc b (i :: l) = some r) : ∃ x, f i least = some x ∧ listA f btw least (acc ++ (if b = true then [] else btw) ++ x) false l = some r ∧ (acc ++ (if b = true then [] else btw) ++ x).length ≤ r.length := by
  unfold listA at h
  cases hx : f i least with
  | none => rw [hx] at h; cases h
  | some x =>
    rw [hx] at h
    exact ⟨x, rfl, h, listA_len l _ _ r h⟩
end Go.Proofs.YtbojcemamhiodaaGreatDoor

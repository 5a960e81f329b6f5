import Derived.Test.YtbojcemamhiodaaGreatDoorRule
import Derived.Deep.LoopGhost
namespace Go.Proofs.YtbojcemamhiodaaGreatDoor
open Go.RowKit

/-- the row of rules in block g; what hangs on them lies in blocks of S -/
def Rw (w : World) (S : Nat → Prop) (g cap : Nat) (rs : List Rl) : Prop :=
  ∃ cur h xs, w.heap[g]? = some (.cells cur 120 (0, 0)) ∧ rs.length ≤ cap ∧ cap ≤ maxLen ∧ cur.size = cap * 8 ∧ cur.toList.take (rs.length * 8) = xs ∧ Cells8 (IsK w S h) xs rs

theorem Rw.below {w w' : World} {S : Nat → Prop} {g cap : Nat} {rs : List Rl} (h : Rw w S g cap rs) (hb : Below w.heap.size w w') : Rw w' S g cap rs := by
  obtain ⟨cur, n, xs, h1, h2, h3, h4, h5, h6⟩ := h
  exact ⟨cur, n, xs, below_keep hb h1 (Nat.le_refl _), h2, h3, h4, h5, Cells8.imp (fun _ _ k => k.turn fun b hS hz => ⟨hS, hb.block b hz⟩) h6⟩
theorem Rw.lt {w : World} {S : Nat → Prop} {g cap : Nat} {rs : List Rl} (h : Rw w S g cap rs) : g < w.heap.size := by
  obtain ⟨cur, n, xs, h1, _⟩ := h
  exact (Array.getElem?_eq_some_iff.1 h1).1
theorem Cells8.at {K : Value → List Nd → Prop} : ∀ {xs : List Value} {rs : List Rl}, Cells8 K xs rs → ∀ (i : Nat) (r : Rl), rs[i]? = some r → ∃ kv, K kv r.body.kids ∧ ∀ j < 8, xs[i * 8 + j]? = (r.cs kv)[j]?
  | _, [], _, i, r, h => by simp at h
  | _, t :: ts, ⟨kv, rest, h1, h2, h3⟩, 0, r, h => by
    simp at h; subst h
    refine ⟨kv, h2, fun j hj => ?_⟩
    rw [h1, List.getElem?_append_left (by simp [Rl.cs]; omega)]
    simp
  | _, t :: ts, ⟨kv, rest, h1, h2, h3⟩, i + 1, r, h => by
    obtain ⟨kv', k1, k2⟩ := Cells8.at h3 i r (by simpa using h)
    refine ⟨kv', k1, fun j hj => ?_⟩
    rw [h1, List.getElem?_append_right (by simp [Rl.cs]; omega), ← k2 j hj]
    congr 1
    simp [Rl.cs]; omega

/-- the cells of rule i -/
theorem Rw.at {w : World} {S : Nat → Prop} {g cap : Nat} {rs : List Rl} (h : Rw w S g cap rs) (i : Nat) (r : Rl) (hi : rs[i]? = some r) : ∃ ao n cp, (∃ h, IsK w S h (.slice ao n cp) r.body.kids) ∧
    w.cell? ⟨g, i * 8, none⟩ = some (.string r.name) ∧ w.cell? ⟨g, i * 8 + 1, none⟩ = some (.int .i64 r.at_) ∧ w.cell? ⟨g, i * 8 + 2, none⟩ = some (.int .i64 r.body.kind) ∧ w.cell? ⟨g, i * 8 + 3, none⟩ = some (.int .i64 r.body.at_) ∧
    w.cell? ⟨g, i * 8 + 4, none⟩ = some (.string r.body.text) ∧ w.cell? ⟨g, i * 8 + 5, none⟩ = some (.slice ao n cp) ∧ w.cell? ⟨g, i * 8 + 6, none⟩ = some (.bool r.empty) ∧ w.cell? ⟨g, i * 8 + 7, none⟩ = some (.int .i64 r.begins) ∧
    (∀ o, w.frozen? ⟨g, o, none⟩ = false) := by
  obtain ⟨cur, hh, xs, h1, h2, h3, h4, h5, h6⟩ := h
  obtain ⟨kv, k1, k2⟩ := h6.at i r hi
  have hil : i < rs.length := by
    rcases Nat.lt_or_ge i rs.length with hl | hl
    · exact hl
    · rw [List.getElem?_eq_none hl] at hi; cases hi
  have hsh : ∃ ao n cp, kv = .slice ao n cp := by
    cases hh with
    | zero => exact ⟨none, 0, 0, k1.1⟩
    | succ hh =>
      obtain ⟨ys, y1, _⟩ := k1
      rcases y1.2 with ⟨y2, _⟩ | ⟨g', cap', cur', y2, _⟩
      · exact ⟨_, _, _, y2⟩
      · exact ⟨_, _, _, y2⟩
  obtain ⟨ao, n, cp, rfl⟩ := hsh
  have hc : ∀ j < 8, w.cell? ⟨g, i * 8 + j, none⟩ = (r.cs (.slice ao n cp))[j]? := by
    intro j hj
    rw [← k2 j hj, ← h5, List.getElem?_take, if_pos (by omega)]
    simp [World.cell?, h1]
  refine ⟨ao, n, cp, ⟨hh, k1⟩, ?_, ?_, ?_, ?_, ?_, ?_, ?_, ?_, fun o => by simp [World.frozen?, h1]⟩
  · exact (hc 0 (by omega)).trans rfl
  · exact (hc 1 (by omega)).trans rfl
  · exact (hc 2 (by omega)).trans rfl
  · exact (hc 3 (by omega)).trans rfl
  · exact (hc 4 (by omega)).trans rfl
  · exact (hc 5 (by omega)).trans rfl
  · exact (hc 6 (by omega)).trans rfl
  · exact (hc 7 (by omega)).trans rfl

def findFrom : List Rl → Int → ByteArray → Int
  | [], _, _ => -1
  | r :: rs, i, nm => if (r.name.toList == nm.toList) = true then i else findFrom rs (i + 1) nm
def findF (rs : List Rl) (nm : ByteArray) : Int := findFrom rs 0 nm

set_option maxHeartbeats 1000000 in
theorem find_any (w : World) (S : Nat → Prop) (g cap : Nat) (rs : List Rl) (nm : ByteArray) (hr : Rw w S g cap rs) (hn : rs.length ≤ 12) :
    Calls Tryz.prog 84 #[.slice (some ⟨g, 0, none⟩) rs.length cap, .string nm] w fun e w' => e = .returned (.int .i64 (findF rs nm)) ∧ Below w.heap.size w w' := by
  have hlt := hr.lt
  have Hr := hide hr
  clear hr
  go_enter Tryz.func84, Tryz.ntmps84
  go_wp2
  go_loopw [9] (fun i wr => ∃ k : Nat, k ≤ rs.length ∧ i = .int .i64 k ∧ Hid (findF rs nm = findFrom (rs.drop k) k nm) ∧ Hid (Below w.heap.size w wr)) (fun i _ => rs.length - (intOf i).toNat)
  case atStart => exact ⟨0, Nat.zero_le _, rfl, rfl, Below.refl _ _⟩
  case round =>
    obtain ⟨k, hk, rfl, HS, HB⟩ := hrel
    by_cases hlt2 : k < rs.length
    · have hi : rs[k]? = some rs[k] := List.getElem?_eq_getElem hlt2
      obtain ⟨ao, n, cp, _, a0, a1, a2, a3, a4, a6, a7, a8, _⟩ := ((unhide Hr).below (unhide HB)).at k _ hi
      have hd : rs.drop k = rs[k] :: rs.drop (k + 1) := List.drop_eq_getElem_cons hlt2
      have hzb := (unhide HB).size
      cases hx : (rs[k].name.toList == nm.toList)
      · have HE : Hid (findF rs nm = findFrom (rs.drop (k + 1)) (k + 1 : Nat) nm) := by
          refine (unhide HS).trans ?_
          rw [hd, findFrom, if_neg (by simp [hx])]
          rfl
        clear hd hi
        go_wp2_with fail
        go_roundw
        case rel => exact ⟨k + 1, by omega, by go_num, HE, (unhide HB).alloc (by omega) _⟩
        case measure => simp [intOf]; omega
      · have HE : Hid (findF rs nm = k) := by
          refine (unhide HS).trans ?_
          rw [hd, findFrom, if_pos hx]
        clear hd hi
        go_wp2
        go_ret
        exact ⟨ret_int (unhide HE).symm, (unhide HB).alloc (by omega) _⟩
    · have HE : Hid (findF rs nm = -1) := by
        refine (unhide HS).trans ?_
        rw [List.drop_eq_nil_of_le (by omega)]; rfl
      go_wp2
      go_ret
      exact ⟨ret_int (unhide HE).symm, unhide HB⟩

theorem findFrom_range : ∀ (rs : List Rl) (i : Int) (nm : ByteArray), findFrom rs i nm = -1 ∨ (i ≤ findFrom rs i nm ∧ findFrom rs i nm < i + rs.length)
  | [], _, _ => .inl rfl
  | r :: rs, i, nm => by
    unfold findFrom
    split
    · exact .inr ⟨by omega, by simp; omega⟩
    · have := findFrom_range rs (i + 1) nm
      simp
      omega
theorem findF_range (rs : List Rl) (nm : ByteArray) : findF rs nm = -1 ∨ (0 ≤ findF rs nm ∧ findF rs nm < rs.length) := by
  have := findFrom_range rs 0 nm
  unfold findF
  omega

/-- the checker in block c, its row of rules in block g -/
structure Ck (w : World) (S : Nat → Prop) (c g cap : Nat) (rs : List Rl) : Prop where
  cell : w.heap[c]? = some (.cells #[.slice (some ⟨g, 0, none⟩) rs.length cap] 124)
  row : Rw w S g cap rs
  few : rs.length ≤ 12
theorem Ck.below {w w' : World} {S : Nat → Prop} {c g cap : Nat} {rs : List Rl} (h : Ck w S c g cap rs) (hb : Below w.heap.size w w') : Ck w' S c g cap rs :=
  ⟨below_keep hb h.cell (Nat.le_refl _), h.row.below hb, h.few⟩
theorem Ck.cells {w : World} {S : Nat → Prop} {c g cap : Nat} {rs : List Rl} (h : Ck w S c g cap rs) : w.cell? ⟨c, 0, none⟩ = some (.slice (some ⟨g, 0, none⟩) rs.length cap) ∧ c < w.heap.size := by
  refine ⟨?_, (Array.getElem?_eq_some_iff.1 h.cell).1⟩
  simp [World.cell?, h.cell]
theorem Ck.alloc {w : World} {S : Nat → Prop} {c g cap : Nat} {rs : List Rl} (h : Ck w S c g cap rs) (o : Obj) : Ck (w.alloc o) S c g cap rs := h.below ((Below.refl _ _).alloc (Nat.le_refl _) _)

theorem Ck.drew {w : World} {S : Nat → Prop} {c g cap : Nat} {rs : List Rl} (h : Ck w S c g cap rs) : Ck w.drew S c g cap rs := h.below (Below.refl _ _).drew

def twiceL (all : List Rl) : List Rl → Int → Int
  | [], _ => -1
  | r :: rs, i => if findF all r.name < i then r.at_ else twiceL all rs (i + 1)

set_option maxHeartbeats 1000000 in
theorem twice_any (w : World) (S : Nat → Prop) (c g cap : Nat) (rs : List Rl) (hc : Ck w S c g cap rs) :
    Calls Tryz.prog 54 #[.pointer (some ⟨c, 0, none⟩)] w fun e w' => e = .returned (.int .i64 (twiceL rs rs 0)) ∧ Below w.heap.size w w' := by
  have hn := hc.few
  have Hc := hide hc
  obtain ⟨cc, hlt⟩ := hc.cells
  have hltg := hc.row.lt
  clear hc
  go_enter Tryz.func54, Tryz.ntmps54
  go_wp2
  go_loopw [11] (fun i wr => ∃ k : Nat, k ≤ rs.length ∧ i = .int .i64 k ∧ Hid (twiceL rs rs 0 = twiceL rs (rs.drop k) k) ∧ Hid (Below w.heap.size w wr)) (fun i _ => rs.length - (intOf i).toNat)
  case atStart => exact ⟨0, Nat.zero_le _, rfl, rfl, Below.refl _ _⟩
  case round =>
    obtain ⟨k, hk, rfl, HS, HB⟩ := hrel
    by_cases hlt2 : k < rs.length
    · have hi : rs[k]? = some rs[k] := List.getElem?_eq_getElem hlt2
      have hck := (unhide Hc).below (unhide HB)
      obtain ⟨ao, n, cp, _, a0, a1, a2, a3, a4, a6, a7, a8, _⟩ := hck.row.at k _ hi
      obtain ⟨cc', hltc⟩ := hck.cells
      have Hck := hide hck
      have hd : rs.drop k = rs[k] :: rs.drop (k + 1) := List.drop_eq_getElem_cons hlt2
      have hzb := (unhide HB).size
      have hfr := findF_range rs rs[k].name
      clear hck
      by_cases hx : findF rs rs[k].name < k
      · have HE : Hid (twiceL rs rs 0 = rs[k].at_) := by
          refine (unhide HS).trans ?_
          rw [hd, twiceL, if_pos hx]
        clear hd hi
        go_wp2_with fail
        go_region_held3 (fun w' => w'.cell? ⟨c, 0, none⟩ = some (.slice (some ⟨g, 0, none⟩) rs.length cap) ∧ w'.cell? ⟨wr.heap.size, 0, none⟩ = some (.string rs[k].name)) (go_keep)
          (first | (go_at_call 84; refine (find_any _ _ _ _ _ _ ((unhide Hck).alloc _).drew.row hn).mono ?_; rintro e w4 ⟨rfl, hb4⟩; have hb5 := hide (below_drew hb4); clear hb4; obtain ⟨z0, hz0⟩ := (((unhide Hck).alloc _).below (unhide hb5)).cells; obtain ⟨v0, v1, v2, v3, v4, v5, v6, v7, vf, hv⟩ := eight (below_keep (unhide hb5) (heap_alloc_new wr _) (Nat.le_refl _))))
        go_wp2
        go_ret
        exact ⟨ret_int (unhide HE).symm, ((unhide HB).alloc (by omega) _).trans ((unhide hb5).mono (by simp; omega))⟩
      · have HE : Hid (twiceL rs rs 0 = twiceL rs (rs.drop (k + 1)) (k + 1 : Nat)) := by
          refine (unhide HS).trans ?_
          rw [hd, twiceL, if_neg hx]; rfl
        clear hd hi
        go_wp2_with fail
        go_region_held3 (fun w' => w'.cell? ⟨c, 0, none⟩ = some (.slice (some ⟨g, 0, none⟩) rs.length cap) ∧ w'.cell? ⟨wr.heap.size, 0, none⟩ = some (.string rs[k].name)) (go_keep)
          (first | (go_at_call 84; refine (find_any _ _ _ _ _ _ ((unhide Hck).alloc _).drew.row hn).mono ?_; rintro e w4 ⟨rfl, hb4⟩; have hb5 := hide (below_drew hb4); clear hb4; obtain ⟨z0, hz0⟩ := (((unhide Hck).alloc _).below (unhide hb5)).cells; obtain ⟨v0, v1, v2, v3, v4, v5, v6, v7, vf, hv⟩ := eight (below_keep (unhide hb5) (heap_alloc_new wr _) (Nat.le_refl _))))
        go_wp2_with fail
        go_roundw
        case rel => exact ⟨k + 1, by omega, by go_num, HE, ((unhide HB).alloc (by omega) _).trans ((unhide hb5).mono (by simp; omega))⟩
        case measure => simp [intOf]; omega
    · have HE : Hid (twiceL rs rs 0 = -1) := by
        refine (unhide HS).trans ?_
        rw [List.drop_eq_nil_of_le (by omega)]; rfl
      go_wp2
      go_ret
      exact ⟨ret_int (unhide HE).symm, unhide HB⟩
end Go.Proofs.YtbojcemamhiodaaGreatDoor
namespace Go.Proofs.YtbojcemamhiodaaGreatDoor
open Go.RowKit


def emptyAt (rs : List Rl) (i : Int) : Bool := match rs[i.toNat]? with | some r => r.empty | none => false

def mayE (rs : List Rl) : Nat → Nd → Bool
  | 0, _ => false
  | F + 1, n =>
    if n.kind = 0 then n.text.toList.isEmpty else
    if n.kind = 2 then (decide (0 ≤ findF rs n.text) && emptyAt rs (findF rs n.text)) else
    if n.kind = 3 ∨ n.kind = 7 ∨ n.kind = 8 ∨ n.kind = 9 ∨ n.kind = 11 then true else
    if n.kind = 10 ∨ n.kind = 4 ∨ n.kind = 5 then n.kids.all (mayE rs F) else
    if n.kind = 6 then n.kids.any (mayE rs F) else false

section
variable (S : Nat → Prop) (c g cap : Nat) (rs : List Rl)
/-- the contracts of mayBeEmpty, allEmpty, anyEmpty, down to depth F -/
def SaidM (F : Nat) : Prop := ∀ w n ao nk cp, Ck w S c g cap rs → IsK w S F (.slice ao nk cp) n.kids →
  Calls Tryz.prog 86 #[.pointer (some ⟨c, 0, none⟩), .agg #[.int .i64 n.kind, .int .i64 n.at_, .string n.text, .slice ao nk cp]] w fun e w' => e = .returned (.bool (mayE rs (F + 1) n)) ∧ Below w.heap.size w w'
def SaidA (F : Nat) : Prop := ∀ w ts ao nk cp, Ck w S c g cap rs → IsK w S F (.slice ao nk cp) ts →
  Calls Tryz.prog 121 #[.pointer (some ⟨c, 0, none⟩), .slice ao nk cp] w fun e w' => e = .returned (.bool (ts.all (mayE rs F))) ∧ Below w.heap.size w w'
end

set_option maxHeartbeats 1000000 in
theorem allEmpty_step (S : Nat → Prop) (c g cap : Nat) (rs : List Rl) (F : Nat) (hM : SaidM S c g cap rs F) : SaidA S c g cap rs (F + 1) := by
  intro w ts ao nk cp hc hk
  have hl := hk.maxlen
  have hln := hk.len
  subst hln
  have Hc := hide hc
  have Hk := hide hk
  have HM := hide hM
  clear hc hk hM
  go_enter Tryz.func121, Tryz.ntmps121
  go_wp2
  go_loopw [10] (fun i wr => ∃ k : Nat, k ≤ ts.length ∧ i = .int .i64 k ∧ Hid (ts.all (mayE rs (F + 1)) = (ts.drop k).all (mayE rs (F + 1))) ∧ Hid (Below w.heap.size w wr)) (fun i _ => ts.length - (intOf i).toNat)
  case atStart => exact ⟨0, Nat.zero_le _, rfl, rfl, Below.refl _ _⟩
  case round =>
    obtain ⟨k, hk, rfl, HS, HB⟩ := hrel
    by_cases hlt2 : k < ts.length
    · have hi : ts[k]? = some ts[k] := List.getElem?_eq_getElem hlt2
      obtain ⟨g', rfl, hg', hcp, ao', n', cp', hk', a0, a1, a2, a3⟩ := ((unhide Hk).below (unhide HB)).at k _ hi
      have hd : ts.drop k = ts[k] :: ts.drop (k + 1) := List.drop_eq_getElem_cons hlt2
      have hzb := (unhide HB).size
      have Hk' := hide hk'
      clear hk'
      cases hx : mayE rs (F + 1) ts[k]
      · have HE : Hid (ts.all (mayE rs (F + 1)) = false) := by
          refine (unhide HS).trans ?_
          rw [hd, List.all_cons, hx]; rfl
        have Hx := hide hx
        clear hd hi hx
        go_wp2_with (go_at_call 86; refine (unhide HM _ _ _ _ _ (((unhide Hc).below (unhide HB)).alloc _) ((unhide Hk').below ((Below.refl _ _).alloc (Nat.le_refl _) _))).mono ?_; rintro e w' ⟨rfl, hb'⟩; rw [unhide Hx])
        go_ret
        exact ⟨ret_bool (unhide HE).symm, ((unhide HB).alloc (by omega) _).trans (hb'.mono (by simp; omega))⟩
      · have HE : Hid (ts.all (mayE rs (F + 1)) = (ts.drop (k + 1)).all (mayE rs (F + 1))) := by
          refine (unhide HS).trans ?_
          rw [hd, List.all_cons, hx]; rfl
        have Hx := hide hx
        clear hd hi hx
        go_wp2_with (go_at_call 86; refine (unhide HM _ _ _ _ _ (((unhide Hc).below (unhide HB)).alloc _) ((unhide Hk').below ((Below.refl _ _).alloc (Nat.le_refl _) _))).mono ?_; rintro e w' ⟨rfl, hb'⟩; rw [unhide Hx])
        go_roundw
        case rel => exact ⟨k + 1, by omega, by go_num, HE, ((unhide HB).alloc (by omega) _).trans (hb'.mono (by simp; omega))⟩
        case measure => simp [intOf]; omega
    · have HE : Hid (ts.all (mayE rs (F + 1)) = true) := by
        refine (unhide HS).trans ?_
        rw [List.drop_eq_nil_of_le (by omega)]; rfl
      go_wp2
      go_ret
      exact ⟨ret_bool (unhide HE).symm, unhide HB⟩
end Go.Proofs.YtbojcemamhiodaaGreatDoor
namespace Go.Proofs.YtbojcemamhiodaaGreatDoor
open Go.RowKit

def SaidY (S : Nat → Prop) (c g cap : Nat) (rs : List Rl) (F : Nat) : Prop := ∀ w ts ao nk cp, Ck w S c g cap rs → IsK w S F (.slice ao nk cp) ts →
  Calls Tryz.prog 122 #[.pointer (some ⟨c, 0, none⟩), .slice ao nk cp] w fun e w' => e = .returned (.bool (ts.any (mayE rs F))) ∧ Below w.heap.size w w'

set_option maxHeartbeats 1000000 in
theorem anyEmpty_step (S : Nat → Prop) (c g cap : Nat) (rs : List Rl) (F : Nat) (hM : SaidM S c g cap rs F) : SaidY S c g cap rs (F + 1) := by
  intro w ts ao nk cp hc hk
  have hl := hk.maxlen
  have hln := hk.len
  subst hln
  have Hc := hide hc
  have Hk := hide hk
  have HM := hide hM
  clear hc hk hM
  go_enter Tryz.func122, Tryz.ntmps122
  go_wp2
  go_loopw [10] (fun i wr => ∃ k : Nat, k ≤ ts.length ∧ i = .int .i64 k ∧ Hid (ts.any (mayE rs (F + 1)) = (ts.drop k).any (mayE rs (F + 1))) ∧ Hid (Below w.heap.size w wr)) (fun i _ => ts.length - (intOf i).toNat)
  case atStart => exact ⟨0, Nat.zero_le _, rfl, rfl, Below.refl _ _⟩
  case round =>
    obtain ⟨k, hk, rfl, HS, HB⟩ := hrel
    by_cases hlt2 : k < ts.length
    · have hi : ts[k]? = some ts[k] := List.getElem?_eq_getElem hlt2
      obtain ⟨g', rfl, hg', hcp, ao', n', cp', hk', a0, a1, a2, a3⟩ := ((unhide Hk).below (unhide HB)).at k _ hi
      have hd : ts.drop k = ts[k] :: ts.drop (k + 1) := List.drop_eq_getElem_cons hlt2
      have hzb := (unhide HB).size
      have Hk' := hide hk'
      clear hk'
      cases hx : mayE rs (F + 1) ts[k]
      · have HE : Hid (ts.any (mayE rs (F + 1)) = (ts.drop (k + 1)).any (mayE rs (F + 1))) := by
          refine (unhide HS).trans ?_
          rw [hd, List.any_cons, hx]; rfl
        have Hx := hide hx
        clear hd hi hx
        go_wp2_with (go_at_call 86; refine (unhide HM _ _ _ _ _ (((unhide Hc).below (unhide HB)).alloc _) ((unhide Hk').below ((Below.refl _ _).alloc (Nat.le_refl _) _))).mono ?_; rintro e w' ⟨rfl, hb'⟩; rw [unhide Hx])
        go_roundw
        case rel => exact ⟨k + 1, by omega, by go_num, HE, ((unhide HB).alloc (by omega) _).trans (hb'.mono (by simp; omega))⟩
        case measure => simp [intOf]; omega
      · have HE : Hid (ts.any (mayE rs (F + 1)) = true) := by
          refine (unhide HS).trans ?_
          rw [hd, List.any_cons, hx]; rfl
        have Hx := hide hx
        clear hd hi hx
        go_wp2_with (go_at_call 86; refine (unhide HM _ _ _ _ _ (((unhide Hc).below (unhide HB)).alloc _) ((unhide Hk').below ((Below.refl _ _).alloc (Nat.le_refl _) _))).mono ?_; rintro e w' ⟨rfl, hb'⟩; rw [unhide Hx])
        go_ret
        exact ⟨ret_bool (unhide HE).symm, ((unhide HB).alloc (by omega) _).trans (hb'.mono (by simp; omega))⟩
    · have HE : Hid (ts.any (mayE rs (F + 1)) = false) := by
        refine (unhide HS).trans ?_
        rw [List.drop_eq_nil_of_le (by omega)]; rfl
      go_wp2
      go_ret
      exact ⟨ret_bool (unhide HE).symm, unhide HB⟩

set_option maxHeartbeats 1000000 in
theorem allEmpty_zero (S : Nat → Prop) (c g cap : Nat) (rs : List Rl) : SaidA S c g cap rs 0 := by
  intro w ts ao nk cp hc hk
  obtain ⟨h1, rfl⟩ := hk
  injection h1 with e1 e2 e3
  subst e1 e2 e3
  go_enter Tryz.func121, Tryz.ntmps121
  go_wp2
  go_loopw [10] (fun i wr => i = .int .i64 0 ∧ wr = w) (fun i _ => 0)
  case atStart => exact ⟨rfl, rfl⟩
  case round =>
    obtain ⟨rfl, rfl⟩ := hrel
    go_wp2
    go_ret
    exact ⟨rfl, Below.refl _ _⟩
set_option maxHeartbeats 1000000 in
theorem anyEmpty_zero (S : Nat → Prop) (c g cap : Nat) (rs : List Rl) : SaidY S c g cap rs 0 := by
  intro w ts ao nk cp hc hk
  obtain ⟨h1, rfl⟩ := hk
  injection h1 with e1 e2 e3
  subst e1 e2 e3
  go_enter Tryz.func122, Tryz.ntmps122
  go_wp2
  go_loopw [10] (fun i wr => i = .int .i64 0 ∧ wr = w) (fun i _ => 0)
  case atStart => exact ⟨rfl, rfl⟩
  case round =>
    obtain ⟨rfl, rfl⟩ := hrel
    go_wp2
    go_ret
    exact ⟨rfl, Below.refl _ _⟩

theorem emptyAt_of {rs : List Rl} {i : Nat} {r : Rl} (h : rs[i]? = some r) : emptyAt rs i = r.empty := by simp [emptyAt, h]

set_option maxHeartbeats 4000000 in
theorem mayBeEmpty_step (S : Nat → Prop) (c g cap : Nat) (rs : List Rl) (F : Nat) (hA : SaidA S c g cap rs F) (hY : SaidY S c g cap rs F)
    (w : World) (n : Nd) (ao : Option Addr) (nk cp : Nat) (hc : Ck w S c g cap rs) (hk : IsK w S F (.slice ao nk cp) n.kids) :
    Calls Tryz.prog 86 #[.pointer (some ⟨c, 0, none⟩), .agg #[.int .i64 n.kind, .int .i64 n.at_, .string n.text, .slice ao nk cp]] w fun e w' => e = .returned (.bool (mayE rs (F + 1) n)) ∧ Below w.heap.size w w' := by
  obtain ⟨cc, hlt⟩ := hc.cells
  have hn := hc.few
  have hltg := hc.row.lt
  have Hc := hide hc
  have HA := hide hA
  have HY := hide hY
  have Hk := hide hk
  clear hc hA hY hk
  by_cases h0 : n.kind = 0
  · have HE : Hid (mayE rs (F + 1) n = (n.text.toList.isEmpty)) := by rw [mayE, if_pos h0]; rfl
    have b0 : (n.kind == 0) = true := by simp [h0]
    clear h0
    go_enter Tryz.func86, Tryz.ntmps86
    go_wp2
    go_ret
    exact ⟨ret_bool (unhide HE).symm, (Below.refl _ _).alloc (Nat.le_refl _) _⟩
  · have b0 : (n.kind == 0) = false := by simp [h0]
    by_cases h2 : n.kind = 2
    · have b2 : (n.kind == 2) = true := by simp [h2]
      have HE : Hid (mayE rs (F + 1) n = (decide (0 ≤ findF rs n.text) && emptyAt rs (findF rs n.text))) := by rw [mayE, if_neg h0, if_pos h2]; rfl
      have hfr := findF_range rs n.text
      clear h0 h2
      rcases hfr with hfr | ⟨hfr, hfr'⟩
      · have HE' : Hid (mayE rs (F + 1) n = false) := by rw [unhide HE, hfr]; rfl
        have hneg : findF rs n.text < 0 := by omega
        clear hfr
        go_enter Tryz.func86, Tryz.ntmps86
        go_wp2_with fail
        go_region_held3 (fun w' => w'.cell? ⟨c, 0, none⟩ = some (.slice (some ⟨g, 0, none⟩) rs.length cap) ∧ w'.cell? ⟨w.heap.size, 2, none⟩ = some (.string n.text)) (go_keep)
          (first | (go_at_call 84; refine (find_any _ _ _ _ _ _ ((unhide Hc).alloc _).drew.row hn).mono ?_; rintro e w4 ⟨rfl, hb4⟩; have hb5 := hide (below_drew hb4); clear hb4; obtain ⟨z0, hz0⟩ := (((unhide Hc).alloc _).below (unhide hb5)).cells; obtain ⟨y0, y1, y2, y3, yf, hy⟩ := four (below_keep (unhide hb5) (heap_alloc_new w _) (Nat.le_refl _))))
        go_wp2
        go_ret
        exact ⟨ret_bool (unhide HE').symm, ((Below.refl _ _).alloc (Nat.le_refl _) _).trans ((unhide hb5).mono (by simp))⟩
      · obtain ⟨i, hi⟩ : ∃ i : Nat, findF rs n.text = i := ⟨(findF rs n.text).toNat, by omega⟩
        have hil : i < rs.length := by omega
        have hir : rs[i]? = some rs[i] := List.getElem?_eq_getElem hil
        have HE' := hide (show mayE rs (F + 1) n = rs[i].empty from by rw [unhide HE, hi, emptyAt_of hir]; simp)
        have Hi := hide hi
        clear hfr hfr' hi
        go_enter Tryz.func86, Tryz.ntmps86
        go_wp2_with fail
        go_region_held3 (fun w' => w'.cell? ⟨c, 0, none⟩ = some (.slice (some ⟨g, 0, none⟩) rs.length cap) ∧ w'.cell? ⟨w.heap.size, 2, none⟩ = some (.string n.text)) (go_keep)
          (first | (go_at_call 84; refine (find_any _ _ _ _ _ _ ((unhide Hc).alloc _).drew.row hn).mono ?_; rintro e w4 ⟨rfl, hb4⟩; rw [unhide Hi]; have hb5 := hide (below_drew hb4); clear hb4; obtain ⟨z0, hz0⟩ := (((unhide Hc).alloc _).below (unhide hb5)).cells; obtain ⟨y0, y1, y2, y3, yf, hy⟩ := four (below_keep (unhide hb5) (heap_alloc_new w _) (Nat.le_refl _))))
        obtain ⟨ao2, n2, cp2, _, a0, a1, a2, a3, a4, a6, a7, a8, _⟩ := (((unhide Hc).alloc _).below (unhide hb5)).row.at i _ hir
        go_wp2
        go_ret
        exact ⟨ret_bool (unhide HE').symm, ((Below.refl _ _).alloc (Nat.le_refl _) _).trans ((unhide hb5).mono (by simp))⟩
    · have b2 : (n.kind == 2) = false := by simp [h2]
      by_cases h3 : n.kind = 3 ∨ n.kind = 7 ∨ n.kind = 8 ∨ n.kind = 9 ∨ n.kind = 11
      · have HE : Hid (mayE rs (F + 1) n = true) := by rw [mayE, if_neg h0, if_neg h2, if_pos h3]; rfl
        clear h0 h2
        rcases h3 with h3 | h3 | h3 | h3 | h3
        all_goals
          go_enter Tryz.func86, Tryz.ntmps86
          go_wp2
          go_ret
          exact ⟨ret_bool (unhide HE).symm, (Below.refl _ _).alloc (Nat.le_refl _) _⟩
      · by_cases h4 : n.kind = 10 ∨ n.kind = 4 ∨ n.kind = 5
        · have HE : Hid (mayE rs (F + 1) n = n.kids.all (mayE rs F)) := by rw [mayE, if_neg h0, if_neg h2, if_neg h3, if_pos h4]; rfl
          clear h0 h2 h3
          rcases h4 with h4 | h4 | h4
          all_goals
            go_enter Tryz.func86, Tryz.ntmps86
            go_wp2_with (go_at_call 121; refine (unhide HA _ _ _ _ _ ((unhide Hc).alloc _) ((unhide Hk).below ((Below.refl _ _).alloc (Nat.le_refl _) _))).mono ?_; rintro e w' ⟨rfl, hb'⟩)
            go_ret
            exact ⟨ret_bool (unhide HE).symm, ((Below.refl _ _).alloc (Nat.le_refl _) _).trans (hb'.mono (by simp))⟩
        · have c3 : (n.kind == 3) = false := by simp; omega
          have c7 : (n.kind == 7) = false := by simp; omega
          have c8 : (n.kind == 8) = false := by simp; omega
          have c9 : (n.kind == 9) = false := by simp; omega
          have c11 : (n.kind == 11) = false := by simp; omega
          have c10 : (n.kind == 10) = false := by simp; omega
          have c4 : (n.kind == 4) = false := by simp; omega
          have c5 : (n.kind == 5) = false := by simp; omega
          by_cases h6 : n.kind = 6
          · have HE : Hid (mayE rs (F + 1) n = n.kids.any (mayE rs F)) := by rw [mayE, if_neg h0, if_neg h2, if_neg h3, if_neg h4, if_pos h6]; rfl
            have c6 : (n.kind == 6) = true := by simp [h6]
            clear h0 h2 h3 h4 h6
            go_enter Tryz.func86, Tryz.ntmps86
            go_wp2_with (go_at_call 122; refine (unhide HY _ _ _ _ _ ((unhide Hc).alloc _) ((unhide Hk).below ((Below.refl _ _).alloc (Nat.le_refl _) _))).mono ?_; rintro e w' ⟨rfl, hb'⟩)
            go_ret
            exact ⟨ret_bool (unhide HE).symm, ((Below.refl _ _).alloc (Nat.le_refl _) _).trans (hb'.mono (by simp))⟩
          · have HE : Hid (mayE rs (F + 1) n = false) := by rw [mayE, if_neg h0, if_neg h2, if_neg h3, if_neg h4, if_neg h6]; rfl
            have c6 : (n.kind == 6) = false := by simp [h6]
            clear h0 h2 h3 h4 h6
            go_enter Tryz.func86, Tryz.ntmps86
            go_wp2
            go_ret
            exact ⟨ret_bool (unhide HE).symm, (Below.refl _ _).alloc (Nat.le_refl _) _⟩
theorem mayBeEmpty_all (S : Nat → Prop) (c g cap : Nat) (rs : List Rl) : ∀ F, SaidM S c g cap rs F ∧ SaidA S c g cap rs F ∧ SaidY S c g cap rs F
  | 0 => ⟨fun w n ao nk cp hc hk => mayBeEmpty_step S c g cap rs 0 (allEmpty_zero S c g cap rs) (anyEmpty_zero S c g cap rs) w n ao nk cp hc hk, allEmpty_zero S c g cap rs, anyEmpty_zero S c g cap rs⟩
  | F + 1 =>
    have h := mayBeEmpty_all S c g cap rs F
    have hA := allEmpty_step S c g cap rs F h.1
    have hY := anyEmpty_step S c g cap rs F h.1
    ⟨fun w n ao nk cp hc hk => mayBeEmpty_step S c g cap rs (F + 1) hA hY w n ao nk cp hc hk, hA, hY⟩
end Go.Proofs.YtbojcemamhiodaaGreatDoor
namespace Go.Proofs.YtbojcemamhiodaaGreatDoor
open Go.RowKit

theorem below_drewN' {n : Nat} {a b : World} (h : Below n a b) (k : Nat) : Below n a (b.drewN k) := ⟨h.os, h.tape, h.output, h.size, h.block⟩

def firstL (f : Nd → Int) : List Nd → Int
  | [] => -1
  | t :: ts => if (f t != -1) = true then f t else firstL f ts

def unkN (rs : List Rl) : Nat → Nd → Int
  | 0, _ => -1
  | F + 1, n => if n.kind = 2 ∧ findF rs n.text < 0 then n.at_ else firstL (unkN rs F) n.kids

def SaidU (S : Nat → Prop) (c g cap : Nat) (rs : List Rl) (F : Nat) : Prop := ∀ w n ao nk cp, Ck w S c g cap rs → IsK w S F (.slice ao nk cp) n.kids →
  Calls Tryz.prog 85 #[.pointer (some ⟨c, 0, none⟩), .agg #[.int .i64 n.kind, .int .i64 n.at_, .string n.text, .slice ao nk cp]] w fun e w' => e = .returned (.int .i64 (unkN rs (F + 1) n)) ∧ Below w.heap.size w w'

set_option maxHeartbeats 2000000 in
theorem unknownIn_step (S : Nat → Prop) (c g cap : Nat) (rs : List Rl) (F : Nat) (hM : ∀ F', F = F' + 1 → SaidU S c g cap rs F') : SaidU S c g cap rs F := by
  intro w n ao nk cp hc hk
  have hln := hk.len
  subst hln
  have hl := hk.maxlen
  obtain ⟨cc, hlt⟩ := hc.cells
  have hn := hc.few
  have hltg := hc.row.lt
  have Hc := hide hc
  have Hk := hide hk
  have HM := hide hM
  clear hc hk hM
  have hif : (unkN rs (F + 1) n = n.at_ ∧ (n.kind == 2) = true ∧ findF rs n.text < 0) ∨ (unkN rs (F + 1) n = firstL (unkN rs F) n.kids ∧ (n.kind == 2) = true ∧ 0 ≤ findF rs n.text) ∨ (unkN rs (F + 1) n = firstL (unkN rs F) n.kids ∧ (n.kind == 2) = false) := by
    by_cases h2 : n.kind = 2
    · by_cases h3 : findF rs n.text < 0
      · exact .inl ⟨by rw [unkN, if_pos ⟨h2, h3⟩], by simp [h2], h3⟩
      · exact .inr (.inl ⟨by rw [unkN, if_neg (by omega)], by simp [h2], by omega⟩)
    · exact .inr (.inr ⟨by rw [unkN, if_neg (by omega)], by simp [h2]⟩)
  rcases hif with ⟨HE, b2, hf⟩ | ⟨HE, b2, hf⟩ | ⟨HE, b2⟩
  · have HE := hide HE
    go_enter Tryz.func85, Tryz.ntmps85
    go_wp2_with fail
    go_region_held3 (fun w' => w'.cell? ⟨c, 0, none⟩ = some (.slice (some ⟨g, 0, none⟩) rs.length cap) ∧ w'.cell? ⟨w.heap.size, 0, none⟩ = some (.int .i64 n.kind) ∧ w'.cell? ⟨w.heap.size, 2, none⟩ = some (.string n.text)) (go_keep)
      (first | (go_at_call 84; refine (find_any _ _ _ _ _ _ ((unhide Hc).alloc _).drew.row hn).mono ?_; rintro e w4 ⟨rfl, hb4⟩; have hb5 := hide (below_drew hb4); clear hb4; obtain ⟨z0, hz0⟩ := (((unhide Hc).alloc _).below (unhide hb5)).cells; obtain ⟨y0, y1, y2, y3, yf, hy⟩ := four (below_keep (unhide hb5) (heap_alloc_new w _) (Nat.le_refl _))))
    go_wp2
    go_ret
    exact ⟨ret_int (unhide HE).symm, ((Below.refl _ _).alloc (Nat.le_refl _) _).trans ((unhide hb5).mono (by simp))⟩
  · have HE := hide HE
    go_enter Tryz.func85, Tryz.ntmps85
    go_wp2_with fail
    go_region_held3 (fun w' => w'.cell? ⟨c, 0, none⟩ = some (.slice (some ⟨g, 0, none⟩) rs.length cap) ∧ w'.cell? ⟨w.heap.size, 0, none⟩ = some (.int .i64 n.kind) ∧ w'.cell? ⟨w.heap.size, 2, none⟩ = some (.string n.text)) (go_keep)
      (first | (go_at_call 84; refine (find_any _ _ _ _ _ _ ((unhide Hc).alloc _).drew.row hn).mono ?_; rintro e w4 ⟨rfl, hb4⟩; have hb5 := hide (below_drew hb4); clear hb4; obtain ⟨z0, hz0⟩ := (((unhide Hc).alloc _).below (unhide hb5)).cells; obtain ⟨y0, y1, y2, y3, yf, hy⟩ := four (below_keep (unhide hb5) (heap_alloc_new w _) (Nat.le_refl _))))
    have hW := hide (((Below.refl _ _).alloc (Nat.le_refl _) _).trans ((unhide hb5).mono (by simp)))
    go_wp2_with fail
    go_loopw [26] (fun i wr => ∃ k : Nat, k ≤ n.kids.length ∧ i = .int .i64 k ∧ Hid (unkN rs (F + 1) n = firstL (unkN rs F) (n.kids.drop k)) ∧ Hid (Below w.heap.size w wr)) (fun i _ => n.kids.length - (intOf i).toNat)
    case atStart => exact ⟨0, Nat.zero_le _, rfl, HE, unhide hW⟩
    case round =>
      obtain ⟨k, hk, rfl, HS, HB⟩ := hrel
      by_cases hlt2 : k < n.kids.length
      · have hi : n.kids[k]? = some n.kids[k] := List.getElem?_eq_getElem hlt2
        have hzb := (unhide HB).size
        cases F with
        | zero => have := (unhide Hk).2; rw [this] at hlt2; simp at hlt2
        | succ F =>
          obtain ⟨g', rfl, hg', hcp, ao', n', cp', hk', a0, a1, a2, a3⟩ := ((unhide Hk).below (unhide HB)).at k _ hi
          have hd : n.kids.drop k = n.kids[k] :: n.kids.drop (k + 1) := List.drop_eq_getElem_cons hlt2
          have Hk' := hide hk'
          have HM' := hide (unhide HM F rfl)
          clear hk'
          cases hx : (unkN rs (F + 1) n.kids[k] != -1)
          · have HE : Hid (unkN rs (F + 1 + 1) n = firstL (unkN rs (F + 1)) (n.kids.drop (k + 1))) := by
              refine (unhide HS).trans ?_
              rw [hd, firstL, if_neg (by simp [hx])]
            clear hd hi
            go_wp2_with (go_at_call 85; refine (unhide HM' _ _ _ _ _ (((unhide Hc).below (unhide HB)).alloc _) ((unhide Hk').below ((Below.refl _ _).alloc (Nat.le_refl _) _))).mono ?_; rintro e w' ⟨rfl, hb'⟩)
            go_roundw
            case rel => exact ⟨k + 1, by omega, by go_num, HE, ((unhide HB).alloc (by omega) _).trans (hb'.mono (by simp; omega))⟩
            case measure => simp [intOf]; omega
          · have HE : Hid (unkN rs (F + 1 + 1) n = unkN rs (F + 1) n.kids[k]) := by
              refine (unhide HS).trans ?_
              rw [hd, firstL, if_pos hx]
            clear hd hi
            go_wp2_with (go_at_call 85; refine (unhide HM' _ _ _ _ _ (((unhide Hc).below (unhide HB)).alloc _) ((unhide Hk').below ((Below.refl _ _).alloc (Nat.le_refl _) _))).mono ?_; rintro e w' ⟨rfl, hb'⟩)
            go_ret
            exact ⟨ret_int (unhide HE).symm, ((unhide HB).alloc (by omega) _).trans (hb'.mono (by simp; omega))⟩
      · have HE : Hid (unkN rs (F + 1) n = -1) := by
          refine (unhide HS).trans ?_
          rw [List.drop_eq_nil_of_le (by omega)]; rfl
        go_wp2
        go_ret
        exact ⟨ret_int (unhide HE).symm, unhide HB⟩
  · have HE := hide HE
    go_enter Tryz.func85, Tryz.ntmps85
    go_wp2_with fail
    go_quiet (fail)
    have hW := hide (below_drewN' ((Below.refl w.heap.size w).alloc (Nat.le_refl _) (.cells #[.int .i64 n.kind, .int .i64 n.at_, .string n.text, .slice ao n.kids.length cp] 118)) nq)
    go_wp2_with fail
    go_loopw [26] (fun i wr => ∃ k : Nat, k ≤ n.kids.length ∧ i = .int .i64 k ∧ Hid (unkN rs (F + 1) n = firstL (unkN rs F) (n.kids.drop k)) ∧ Hid (Below w.heap.size w wr)) (fun i _ => n.kids.length - (intOf i).toNat)
    case atStart => exact ⟨0, Nat.zero_le _, rfl, HE, unhide hW⟩
    case round =>
      obtain ⟨k, hk, rfl, HS, HB⟩ := hrel
      by_cases hlt2 : k < n.kids.length
      · have hi : n.kids[k]? = some n.kids[k] := List.getElem?_eq_getElem hlt2
        have hzb := (unhide HB).size
        cases F with
        | zero => have := (unhide Hk).2; rw [this] at hlt2; simp at hlt2
        | succ F =>
          obtain ⟨g', rfl, hg', hcp, ao', n', cp', hk', a0, a1, a2, a3⟩ := ((unhide Hk).below (unhide HB)).at k _ hi
          have hd : n.kids.drop k = n.kids[k] :: n.kids.drop (k + 1) := List.drop_eq_getElem_cons hlt2
          have Hk' := hide hk'
          have HM' := hide (unhide HM F rfl)
          clear hk'
          cases hx : (unkN rs (F + 1) n.kids[k] != -1)
          · have HE : Hid (unkN rs (F + 1 + 1) n = firstL (unkN rs (F + 1)) (n.kids.drop (k + 1))) := by
              refine (unhide HS).trans ?_
              rw [hd, firstL, if_neg (by simp [hx])]
            clear hd hi
            go_wp2_with (go_at_call 85; refine (unhide HM' _ _ _ _ _ (((unhide Hc).below (unhide HB)).alloc _) ((unhide Hk').below ((Below.refl _ _).alloc (Nat.le_refl _) _))).mono ?_; rintro e w' ⟨rfl, hb'⟩)
            go_roundw
            case rel => exact ⟨k + 1, by omega, by go_num, HE, ((unhide HB).alloc (by omega) _).trans (hb'.mono (by simp; omega))⟩
            case measure => simp [intOf]; omega
          · have HE : Hid (unkN rs (F + 1 + 1) n = unkN rs (F + 1) n.kids[k]) := by
              refine (unhide HS).trans ?_
              rw [hd, firstL, if_pos hx]
            clear hd hi
            go_wp2_with (go_at_call 85; refine (unhide HM' _ _ _ _ _ (((unhide Hc).below (unhide HB)).alloc _) ((unhide Hk').below ((Below.refl _ _).alloc (Nat.le_refl _) _))).mono ?_; rintro e w' ⟨rfl, hb'⟩)
            go_ret
            exact ⟨ret_int (unhide HE).symm, ((unhide HB).alloc (by omega) _).trans (hb'.mono (by simp; omega))⟩
      · have HE : Hid (unkN rs (F + 1) n = -1) := by
          refine (unhide HS).trans ?_
          rw [List.drop_eq_nil_of_le (by omega)]; rfl
        go_wp2
        go_ret
        exact ⟨ret_int (unhide HE).symm, unhide HB⟩

theorem unknownIn_all (S : Nat → Prop) (c g cap : Nat) (rs : List Rl) : ∀ F, SaidU S c g cap rs F
  | 0 => unknownIn_step S c g cap rs 0 fun F' h => by omega
  | F + 1 => unknownIn_step S c g cap rs (F + 1) fun F' h => by
    have : F' = F := by omega
    rw [this]
    exact unknownIn_all S c g cap rs F
end Go.Proofs.YtbojcemamhiodaaGreatDoor
namespace Go.Proofs.YtbojcemamhiodaaGreatDoor
open Go.RowKit

def loopN (rs : List Rl) : Nat → Nd → Int
  | 0, _ => -1
  | F + 1, n => if (firstL (loopN rs F) n.kids != -1) = true then firstL (loopN rs F) n.kids else
    if n.kind ≠ 9 ∧ n.kind ≠ 10 then -1 else if n.kids.all (mayE rs F) = true then n.at_ else -1

def SaidL (S : Nat → Prop) (c g cap : Nat) (rs : List Rl) (F : Nat) : Prop := ∀ w n ao nk cp, Ck w S c g cap rs → IsK w S F (.slice ao nk cp) n.kids →
  Calls Tryz.prog 89 #[.pointer (some ⟨c, 0, none⟩), .agg #[.int .i64 n.kind, .int .i64 n.at_, .string n.text, .slice ao nk cp]] w fun e w' => e = .returned (.int .i64 (loopN rs (F + 1) n)) ∧ Below w.heap.size w w'

set_option maxHeartbeats 2000000 in
theorem loopIn_step (S : Nat → Prop) (c g cap : Nat) (rs : List Rl) (F : Nat) (hM : ∀ F', F = F' + 1 → SaidL S c g cap rs F') : SaidL S c g cap rs F := by
  intro w n ao nk cp hc hk
  have hln := hk.len
  subst hln
  have hl := hk.maxlen
  have Hc := hide hc
  have Hk := hide hk
  have HM := hide hM
  have HA := hide (mayBeEmpty_all S c g cap rs F).2.1
  clear hc hk hM
  have hW := hide ((Below.refl w.heap.size w).alloc (Nat.le_refl _) (.cells #[.int .i64 n.kind, .int .i64 n.at_, .string n.text, .slice ao n.kids.length cp] 118))
  have hN := hide (heap_alloc_new w (.cells #[.int .i64 n.kind, .int .i64 n.at_, .string n.text, .slice ao n.kids.length cp] 118))
  go_enter Tryz.func89, Tryz.ntmps89
  go_wp2_with fail
  go_loopw [12] (fun i wr => ∃ k : Nat, k ≤ n.kids.length ∧ i = .int .i64 k ∧ Hid (firstL (loopN rs F) n.kids = firstL (loopN rs F) (n.kids.drop k)) ∧ Hid (Below w.heap.size w wr) ∧
      Hid (wr.heap[w.heap.size]? = some (.cells #[.int .i64 n.kind, .int .i64 n.at_, .string n.text, .slice ao n.kids.length cp] 118))) (fun i _ => n.kids.length - (intOf i).toNat)
  case atStart => exact ⟨0, Nat.zero_le _, rfl, rfl, unhide hW, unhide hN⟩
  case round =>
    obtain ⟨k, hk, rfl, HS, HB, HN⟩ := hrel
    have hzb := (unhide HB).size
    by_cases hlt2 : k < n.kids.length
    · have hi : n.kids[k]? = some n.kids[k] := List.getElem?_eq_getElem hlt2
      cases F with
      | zero => have := (unhide Hk).2; rw [this] at hlt2; simp at hlt2
      | succ F =>
        obtain ⟨g', rfl, hg', hcp, ao', n', cp', hk', a0, a1, a2, a3⟩ := ((unhide Hk).below (unhide HB)).at k _ hi
        have hd : n.kids.drop k = n.kids[k] :: n.kids.drop (k + 1) := List.drop_eq_getElem_cons hlt2
        have Hk' := hide hk'
        have HM' := hide (unhide HM F rfl)
        clear hk'
        cases hx : (loopN rs (F + 1) n.kids[k] != -1)
        · have HE : Hid (firstL (loopN rs (F + 1)) n.kids = firstL (loopN rs (F + 1)) (n.kids.drop (k + 1))) := by
            refine (unhide HS).trans ?_
            rw [hd, firstL, if_neg (by simp [hx])]
          clear hd hi
          go_wp2_with (go_at_call 89; refine (unhide HM' _ _ _ _ _ (((unhide Hc).below (unhide HB)).alloc _) ((unhide Hk').below ((Below.refl _ _).alloc (Nat.le_refl _) _))).mono ?_; rintro e w' ⟨rfl, hb'⟩)
          go_roundw
          case rel => exact ⟨k + 1, by omega, by go_num, HE, ((unhide HB).alloc (by omega) _).trans (hb'.mono (by simp; omega)), below_keep hb' (heap_old (unhide HN)) (Nat.le_refl _)⟩
          case measure => simp [intOf]; omega
        · have HE : Hid (loopN rs (F + 1 + 1) n = loopN rs (F + 1) n.kids[k]) := by
            have h1 : firstL (loopN rs (F + 1)) n.kids = loopN rs (F + 1) n.kids[k] := by
              refine (unhide HS).trans ?_
              rw [hd, firstL, if_pos hx]
            rw [loopN, h1, if_pos hx]; rfl
          clear hd hi
          go_wp2_with (go_at_call 89; refine (unhide HM' _ _ _ _ _ (((unhide Hc).below (unhide HB)).alloc _) ((unhide Hk').below ((Below.refl _ _).alloc (Nat.le_refl _) _))).mono ?_; rintro e w' ⟨rfl, hb'⟩)
          go_ret
          exact ⟨ret_int (unhide HE).symm, ((unhide HB).alloc (by omega) _).trans (hb'.mono (by simp; omega))⟩
    · have h1 : firstL (loopN rs F) n.kids = -1 := by
        refine (unhide HS).trans ?_
        rw [List.drop_eq_nil_of_le (by omega)]; rfl
      obtain ⟨y0, y1, y2, y3, yf, hy⟩ := four (unhide HN)
      by_cases h9 : n.kind ≠ 9 ∧ n.kind ≠ 10
      · have HE : Hid (loopN rs (F + 1) n = -1) := by rw [loopN, h1, if_neg (by simp), if_pos h9]; rfl
        have b9 : (n.kind != 9) = true := by simp; omega
        have b10 : (n.kind != 10) = true := by simp; omega
        clear h1 h9
        go_wp2
        go_ret
        exact ⟨ret_int (unhide HE).symm, unhide HB⟩
      · have b9 : ((n.kind != 9) = false) ∨ ((n.kind != 9) = true ∧ (n.kind != 10) = false) := by
          by_cases e9 : n.kind = 9
          · exact .inl (by simp [e9])
          · exact .inr ⟨by simpa using e9, by simp; omega⟩
        cases hx : n.kids.all (mayE rs F)
        · have HE : Hid (loopN rs (F + 1) n = -1) := by rw [loopN, h1, if_neg (by simp), if_neg h9, if_neg (by simp [hx])]; rfl
          have Hx := hide hx
          clear h1 h9 hx
          rcases b9 with b9 | ⟨b9, b10⟩
          all_goals
            go_wp2_with (go_at_call 121; refine (unhide HA _ _ _ _ _ ((unhide Hc).below (unhide HB)) ((unhide Hk).below (unhide HB))).mono ?_; rintro e w' ⟨rfl, hb'⟩; rw [unhide Hx])
            go_ret
            exact ⟨ret_int (unhide HE).symm, (unhide HB).trans (hb'.mono (by omega))⟩
        · have HE : Hid (loopN rs (F + 1) n = n.at_) := by rw [loopN, h1, if_neg (by simp), if_neg h9, if_pos hx]; rfl
          have Hx := hide hx
          clear h1 h9 hx
          rcases b9 with b9 | ⟨b9, b10⟩
          all_goals
            go_wp2_with (go_at_call 121; refine (unhide HA _ _ _ _ _ ((unhide Hc).below (unhide HB)) ((unhide Hk).below (unhide HB))).mono ?_; rintro e w' ⟨rfl, hb'⟩; rw [unhide Hx]; obtain ⟨x0, x1, x2, x3, xf, hx⟩ := four (below_keep hb' (unhide HN) (Nat.le_refl _)))
            go_ret
            exact ⟨ret_int (unhide HE).symm, (unhide HB).trans (hb'.mono (by omega))⟩

theorem loopIn_all (S : Nat → Prop) (c g cap : Nat) (rs : List Rl) : ∀ F, SaidL S c g cap rs F
  | 0 => loopIn_step S c g cap rs 0 fun F' h => by omega
  | F + 1 => loopIn_step S c g cap rs (F + 1) fun F' h => by
    have : F' = F := by omega
    rw [this]
    exact loopIn_all S c g cap rs F

/-- the first rule that a look finds a place in -/
def firstR (f : Nd → Int) : List Rl → Int
  | [] => -1
  | r :: rs => if (f r.body != -1) = true then f r.body else firstR f rs
end Go.Proofs.YtbojcemamhiodaaGreatDoor
namespace Go.Proofs.YtbojcemamhiodaaGreatDoor
open Go.RowKit

theorem Cells4.imp' {K K' : Value → List Nd → Prop} : ∀ {xs : List Value} {ts : List Nd}, (∀ t ∈ ts, ∀ v, K v t.kids → K' v t.kids) → Cells4 K xs ts → Cells4 K' xs ts
  | _, [], _, h => h
  | _, t :: ts, hk, ⟨kv, rest, h1, h2, h3⟩ => ⟨kv, rest, h1, hk t (by simp) _ h2, Cells4.imp' (fun t ht => hk t (by simp [ht])) h3⟩

/-- is a list of nodes no deeper than that? -/
def fits : Nat → List Nd → Bool
  | 0, _ => false
  | F + 1, ts => ts.all fun t => fits F t.kids

theorem IsK.fits {w : World} {S : Nat → Prop} : ∀ {F h : Nat} {kv : Value} {ts : List Nd}, fits F ts = true → IsK w S h kv ts → IsK w S F kv ts
  | 0, _, _, _, hf, _ => by simp [Go.Proofs.YtbojcemamhiodaaGreatDoor.fits] at hf
  | F + 1, 0, _, _, _, ⟨h1, h2⟩ => by rw [h1, h2]; exact IsK.nil _ _ _
  | F + 1, h + 1, kv, ts, hf, ⟨xs, h1, h2⟩ => by
    unfold Go.Proofs.YtbojcemamhiodaaGreatDoor.fits at hf
    rw [List.all_eq_true] at hf
    exact ⟨xs, h1, Cells4.imp' (fun t ht v k => IsK.fits (hf t ht) k) h2⟩

/-- how deep a checker must look -/
def DeepF (F : Nat) (rs : List Rl) : Prop := ∀ r ∈ rs, fits F r.body.kids = true

theorem IsK.deep {w : World} {S : Nat → Prop} {h F i : Nat} {kv : Value} {rs : List Rl} {r : Rl} (k : IsK w S h kv r.body.kids) (hF : DeepF F rs) (hi : rs[i]? = some r) : IsK w S F kv r.body.kids :=
  k.fits (hF r (List.mem_of_getElem? hi))

set_option maxHeartbeats 2000000 in
theorem unknown_any (w : World) (S : Nat → Prop) (c g cap F : Nat) (rs : List Rl) (hc : Ck w S c g cap rs) (hF : DeepF F rs) :
    Calls Tryz.prog 55 #[.pointer (some ⟨c, 0, none⟩)] w fun e w' => e = .returned (.int .i64 (firstR (unkN rs (F + 1)) rs)) ∧ Below w.heap.size w w' := by
  have hn := hc.few
  have Hc := hide hc
  obtain ⟨cc, hlt⟩ := hc.cells
  have hltg := hc.row.lt
  have HF := hide hF
  have HM := hide (unknownIn_all S c g cap rs F)
  clear hc hF
  go_enter Tryz.func55, Tryz.ntmps55
  go_wp2
  go_loopw [11] (fun i wr => ∃ k : Nat, k ≤ rs.length ∧ i = .int .i64 k ∧ Hid (firstR (unkN rs (F + 1)) rs = firstR (unkN rs (F + 1)) (rs.drop k)) ∧ Hid (Below w.heap.size w wr)) (fun i _ => rs.length - (intOf i).toNat)
  case atStart => exact ⟨0, Nat.zero_le _, rfl, rfl, Below.refl _ _⟩
  case round =>
    obtain ⟨k, hk, rfl, HS, HB⟩ := hrel
    have hzb := (unhide HB).size
    by_cases hlt2 : k < rs.length
    · have hi : rs[k]? = some rs[k] := List.getElem?_eq_getElem hlt2
      obtain ⟨ao, n, cp, ⟨h', hk'⟩, a0, a1, a2, a3, a4, a6, a7, a8, _⟩ := ((unhide Hc).below (unhide HB)).row.at k _ hi
      have Hk' := hide (hk'.deep (unhide HF) hi)
      have hd : rs.drop k = rs[k] :: rs.drop (k + 1) := List.drop_eq_getElem_cons hlt2
      clear hk'
      cases hx : (unkN rs (F + 1) rs[k].body != -1)
      · have HE : Hid (firstR (unkN rs (F + 1)) rs = firstR (unkN rs (F + 1)) (rs.drop (k + 1))) := by
          refine (unhide HS).trans ?_
          rw [hd, firstR, if_neg (by simp [hx])]
        clear hd hi
        go_wp2_with (go_at_call 85; refine (unhide HM _ _ _ _ _ (((unhide Hc).below (unhide HB)).alloc _) ((unhide Hk').below ((Below.refl _ _).alloc (Nat.le_refl _) _))).mono ?_; rintro e w' ⟨rfl, hb'⟩)
        go_roundw
        case rel => exact ⟨k + 1, by omega, by go_num, HE, ((unhide HB).alloc (by omega) _).trans (hb'.mono (by simp; omega))⟩
        case measure => simp [intOf]; omega
      · have HE : Hid (firstR (unkN rs (F + 1)) rs = unkN rs (F + 1) rs[k].body) := by
          refine (unhide HS).trans ?_
          rw [hd, firstR, if_pos hx]
        clear hd hi
        go_wp2_with (go_at_call 85; refine (unhide HM _ _ _ _ _ (((unhide Hc).below (unhide HB)).alloc _) ((unhide Hk').below ((Below.refl _ _).alloc (Nat.le_refl _) _))).mono ?_; rintro e w' ⟨rfl, hb'⟩)
        go_ret
        exact ⟨ret_int (unhide HE).symm, ((unhide HB).alloc (by omega) _).trans (hb'.mono (by simp; omega))⟩
    · have HE : Hid (firstR (unkN rs (F + 1)) rs = -1) := by
        refine (unhide HS).trans ?_
        rw [List.drop_eq_nil_of_le (by omega)]; rfl
      go_wp2
      go_ret
      exact ⟨ret_int (unhide HE).symm, unhide HB⟩

set_option maxHeartbeats 2000000 in
theorem loop_any (w : World) (S : Nat → Prop) (c g cap F : Nat) (rs : List Rl) (hc : Ck w S c g cap rs) (hF : DeepF F rs) :
    Calls Tryz.prog 59 #[.pointer (some ⟨c, 0, none⟩)] w fun e w' => e = .returned (.int .i64 (firstR (loopN rs (F + 1)) rs)) ∧ Below w.heap.size w w' := by
  have hn := hc.few
  have Hc := hide hc
  obtain ⟨cc, hlt⟩ := hc.cells
  have hltg := hc.row.lt
  have HF := hide hF
  have HM := hide (loopIn_all S c g cap rs F)
  clear hc hF
  go_enter Tryz.func59, Tryz.ntmps59
  go_wp2
  go_loopw [11] (fun i wr => ∃ k : Nat, k ≤ rs.length ∧ i = .int .i64 k ∧ Hid (firstR (loopN rs (F + 1)) rs = firstR (loopN rs (F + 1)) (rs.drop k)) ∧ Hid (Below w.heap.size w wr)) (fun i _ => rs.length - (intOf i).toNat)
  case atStart => exact ⟨0, Nat.zero_le _, rfl, rfl, Below.refl _ _⟩
  case round =>
    obtain ⟨k, hk, rfl, HS, HB⟩ := hrel
    have hzb := (unhide HB).size
    by_cases hlt2 : k < rs.length
    · have hi : rs[k]? = some rs[k] := List.getElem?_eq_getElem hlt2
      obtain ⟨ao, n, cp, ⟨h', hk'⟩, a0, a1, a2, a3, a4, a6, a7, a8, _⟩ := ((unhide Hc).below (unhide HB)).row.at k _ hi
      have Hk' := hide (hk'.deep (unhide HF) hi)
      have hd : rs.drop k = rs[k] :: rs.drop (k + 1) := List.drop_eq_getElem_cons hlt2
      clear hk'
      cases hx : (loopN rs (F + 1) rs[k].body != -1)
      · have HE : Hid (firstR (loopN rs (F + 1)) rs = firstR (loopN rs (F + 1)) (rs.drop (k + 1))) := by
          refine (unhide HS).trans ?_
          rw [hd, firstR, if_neg (by simp [hx])]
        clear hd hi
        go_wp2_with (go_at_call 89; refine (unhide HM _ _ _ _ _ (((unhide Hc).below (unhide HB)).alloc _) ((unhide Hk').below ((Below.refl _ _).alloc (Nat.le_refl _) _))).mono ?_; rintro e w' ⟨rfl, hb'⟩)
        go_roundw
        case rel => exact ⟨k + 1, by omega, by go_num, HE, ((unhide HB).alloc (by omega) _).trans (hb'.mono (by simp; omega))⟩
        case measure => simp [intOf]; omega
      · have HE : Hid (firstR (loopN rs (F + 1)) rs = loopN rs (F + 1) rs[k].body) := by
          refine (unhide HS).trans ?_
          rw [hd, firstR, if_pos hx]
        clear hd hi
        go_wp2_with (go_at_call 89; refine (unhide HM _ _ _ _ _ (((unhide Hc).below (unhide HB)).alloc _) ((unhide Hk').below ((Below.refl _ _).alloc (Nat.le_refl _) _))).mono ?_; rintro e w' ⟨rfl, hb'⟩)
        go_ret
        exact ⟨ret_int (unhide HE).symm, ((unhide HB).alloc (by omega) _).trans (hb'.mono (by simp; omega))⟩
    · have HE : Hid (firstR (loopN rs (F + 1)) rs = -1) := by
        refine (unhide HS).trans ?_
        rw [List.drop_eq_nil_of_le (by omega)]; rfl
      go_wp2
      go_ret
      exact ⟨ret_int (unhide HE).symm, unhide HB⟩
end Go.Proofs.YtbojcemamhiodaaGreatDoor
namespace Go.Proofs.YtbojcemamhiodaaGreatDoor
open Go.RowKit

def setE (rs : List Rl) (i : Nat) : List Rl := rs.modify i fun r => { r with empty := true }
def setB (rs : List Rl) (i : Nat) (b : Int) : List Rl := rs.modify i fun r => { r with begins := b }

theorem Cells8.setE {K : Value → List Nd → Prop} : ∀ {xs : List Value} {rs : List Rl}, Cells8 K xs rs → ∀ (i : Nat), i < rs.length → Cells8 K (xs.set (i * 8 + 6) (.bool true)) (setE rs i)
  | _, [], _, i, h => by simp at h
  | _, t :: ts, ⟨kv, rest, h1, h2, h3⟩, 0, _ => by
    refine ⟨kv, rest, ?_, h2, h3⟩
    rw [h1]; rfl
  | _, t :: ts, ⟨kv, rest, h1, h2, h3⟩, i + 1, h => by
    have := Cells8.setE h3 i (by simpa using h)
    refine ⟨kv, rest.set (i * 8 + 6) (.bool true), ?_, h2, this⟩
    rw [h1, List.set_append_right _ _ (by simp [Rl.cs]; omega)]
    congr 2
    simp [Rl.cs]; omega
theorem Cells8.setB {K : Value → List Nd → Prop} (b : Int) : ∀ {xs : List Value} {rs : List Rl}, Cells8 K xs rs → ∀ (i : Nat), i < rs.length → Cells8 K (xs.set (i * 8 + 7) (.int .i64 b)) (setB rs i b)
  | _, [], _, i, h => by simp at h
  | _, t :: ts, ⟨kv, rest, h1, h2, h3⟩, 0, _ => by
    refine ⟨kv, rest, ?_, h2, h3⟩
    rw [h1]; rfl
  | _, t :: ts, ⟨kv, rest, h1, h2, h3⟩, i + 1, h => by
    have := Cells8.setB b h3 i (by simpa using h)
    refine ⟨kv, rest.set (i * 8 + 7) (.int .i64 b), ?_, h2, this⟩
    rw [h1, List.set_append_right _ _ (by simp [Rl.cs]; omega)]
    congr 2
    simp [Rl.cs]; omega

theorem Ck.store {w : World} {S : Nat → Prop} {c g cap : Nat} {rs rs' : List Rl} (h : Ck w S c g cap rs) (hS : ∀ b, S b → b ≠ g) (hcg : c ≠ g) (o : Nat) (v : Value) (hl : rs'.length = rs.length)
    (hc : ∀ K xs, Cells8 K xs rs → Cells8 K (xs.set o v) rs') : Ck (w.setCell ⟨g, o, none⟩ v) S c g cap rs' := by
  obtain ⟨h1, ⟨cur, n, xs, k1, k2, k3, k4, k5, k6⟩, h3⟩ := h
  refine ⟨?_, ⟨cur.setIfInBounds o v, n, xs.set o v, ?_, by omega, k3, by simpa using k4, ?_, ?_⟩, by omega⟩
  · rw [Below.heap_setCell _ _ _ _ hcg, h1, hl]
  · simp [World.setCell, Array.getElem?_modify, k1]
  · rw [hl]
    simp only [Array.toList_setIfInBounds]
    rw [List.take_set, k5]
  · exact Cells8.imp (fun _ _ k => k.turn fun b hb _ => ⟨hb, Below.heap_setCell _ _ _ _ (hS b hb)⟩) (hc _ _ k6)

theorem setE_length (rs : List Rl) (i : Nat) : (setE rs i).length = rs.length := by simp [setE]
theorem setB_length (rs : List Rl) (i : Nat) (b : Int) : (setB rs i b).length = rs.length := by simp [setB]
theorem Ck.setE {w : World} {S : Nat → Prop} {c g cap : Nat} {rs : List Rl} (h : Ck w S c g cap rs) (hS : ∀ b, S b → b ≠ g) (hcg : c ≠ g) (i : Nat) (hi : i < rs.length) : Ck (w.setCell ⟨g, i * 8 + 6, none⟩ (.bool true)) S c g cap (setE rs i) :=
  h.store hS hcg _ _ (setE_length _ _) fun _ _ k => k.setE i hi
theorem Ck.setB {w : World} {S : Nat → Prop} {c g cap : Nat} {rs : List Rl} (h : Ck w S c g cap rs) (hS : ∀ b, S b → b ≠ g) (hcg : c ≠ g) (i : Nat) (b : Int) (hi : i < rs.length) : Ck (w.setCell ⟨g, i * 8 + 7, none⟩ (.int .i64 b)) S c g cap (setB rs i b) :=
  h.store hS hcg _ _ (setB_length _ _ _) fun _ _ k => k.setB b i hi

theorem DeepF.setE {F : Nat} : ∀ {rs : List Rl}, DeepF F rs → ∀ i, DeepF F (setE rs i)
  | [], _, i => by simp [DeepF, Go.Proofs.YtbojcemamhiodaaGreatDoor.setE]
  | r :: rs, h, 0 => by
    intro x hx
    simp [Go.Proofs.YtbojcemamhiodaaGreatDoor.setE] at hx
    rcases hx with rfl | hx
    · exact h r (by simp)
    · exact h x (by simp [hx])
  | r :: rs, h, i + 1 => by
    intro x hx
    simp [Go.Proofs.YtbojcemamhiodaaGreatDoor.setE] at hx
    rcases hx with rfl | hx
    · exact h x (by simp)
    · exact DeepF.setE (fun y hy => h y (by simp [hy])) i x hx
theorem DeepF.setB {F : Nat} (b : Int) : ∀ {rs : List Rl}, DeepF F rs → ∀ i, DeepF F (setB rs i b)
  | [], _, i => by simp [DeepF, Go.Proofs.YtbojcemamhiodaaGreatDoor.setB]
  | r :: rs, h, 0 => by
    intro x hx
    simp [Go.Proofs.YtbojcemamhiodaaGreatDoor.setB] at hx
    rcases hx with rfl | hx
    · exact h r (by simp)
    · exact h x (by simp [hx])
  | r :: rs, h, i + 1 => by
    intro x hx
    simp [Go.Proofs.YtbojcemamhiodaaGreatDoor.setB] at hx
    rcases hx with rfl | hx
    · exact h x (by simp)
    · exact DeepF.setB b (fun y hy => h y (by simp [hy])) i x hx

/-- one round of findEmpty: n rules more, from rule i on -/
def roundE (F : Nat) : Nat → Nat → List Rl → Bool → List Rl × Bool
  | 0, _, rs, m => (rs, m)
  | n + 1, i, rs, m =>
    match rs[i]? with
    | some r => if (mayE rs (F + 1) r.body && !r.empty) = true then roundE F n (i + 1) (setE rs i) true else roundE F n (i + 1) rs m
    | none => roundE F n (i + 1) rs m
def fixE (F : Nat) : Nat → List Rl → List Rl
  | 0, rs => rs
  | k + 1, rs => if (roundE F rs.length 0 rs false).2 = true then fixE F k (roundE F rs.length 0 rs false).1 else (roundE F rs.length 0 rs false).1

/-- how many rules are not yet said to match nothing -/
def open_ : List Rl → Nat
  | [] => 0
  | r :: rs => (if r.empty then 0 else 1) + open_ rs
theorem open_set : ∀ (rs : List Rl) (i : Nat) (r : Rl), rs[i]? = some r → r.empty = false → open_ (setE rs i) + 1 = open_ rs
  | [], i, r, h, _ => by simp at h
  | t :: ts, 0, r, h, he => by simp at h; subst h; simp [setE, open_, he]; omega
  | t :: ts, i + 1, r, h, he => by
    have := open_set ts i r (by simpa using h) he
    simp only [setE] at this
    simp [setE, open_]; omega
theorem roundE_open (F : Nat) : ∀ (n i : Nat) (rs : List Rl) (m : Bool), open_ (roundE F n i rs m).1 ≤ open_ rs ∧ ((roundE F n i rs m).2 = true → m = true ∨ open_ (roundE F n i rs m).1 < open_ rs)
  | 0, i, rs, m => ⟨Nat.le_refl _, fun h => .inl h⟩
  | n + 1, i, rs, m => by
    unfold roundE
    split
    · rename_i r hr
      split
      · rename_i hm
        simp at hm
        have h1 := roundE_open F n (i + 1) (setE rs i) true
        have h2 := open_set rs i r hr (by simp [hm.2])
        exact ⟨by omega, fun _ => .inr (by omega)⟩
      · exact roundE_open F n (i + 1) rs m
    · exact roundE_open F n (i + 1) rs m
theorem open_le (rs : List Rl) : open_ rs ≤ rs.length := by
  induction rs with
  | nil => simp [open_]
  | cons r rs ih => simp [open_]; split <;> omega
end Go.Proofs.YtbojcemamhiodaaGreatDoor

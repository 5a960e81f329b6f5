import Derived.Test.YtdofpbbahamkkaaRule
namespace Go.Proofs.Ytdofpbbahamkkaa
open Go.RowKit

/-- the row of rules in block g; what hangs on them lies in blocks of S -/
def Rw (w : World) (S : Nat → Prop) (g cap : Nat) (rs : List Rl) : Prop :=
  ∃ cur h xs, w.heap[g]? = some (.cells cur 83 (0, 0)) ∧ rs.length ≤ cap ∧ cap ≤ maxLen ∧ cur.size = cap * 8 ∧ cur.toList.take (rs.length * 8) = xs ∧ Cells8 (IsK w S h) xs rs

theorem Rw.below {w w' : World} {S : Nat → Prop} {g cap : Nat} {rs : List Rl} (h : Rw w S g cap rs) (hb : Below w.heap.size w w') : Rw w' S g cap rs := by
  obtain ⟨cur, n, xs, h1, h2, h3, h4, h5, h6⟩ := h
  exact ⟨cur, n, xs, below_keep hb h1 (Nat.le_refl _), h2, h3, h4, h5, Cells8.imp (fun _ _ k => k.turn fun b hS hz => ⟨hS, hb.block b hz⟩) h6⟩
theorem Rw.lt {w : World} {S : Nat → Prop} {g cap : Nat} {rs : List Rl} (h : Rw w S g cap rs) : g < w.heap.size := by
  obtain ⟨cur, n, xs, h1, _⟩ := h
  exact (Array.getElem?_eq_some_iff.1 h1).1
theorem Cells8.at {K : Value → List Nd → Prop} : ∀ {xs : List Value} {rs : List Rl}, Cells8 K xs rs → ∀ (i : Nat) (r : Rl), rs[i]? = some r → ∃ kv, K kv r.body.kids ∧ ∀ j < 8, xs[i * 8 + j]? = (r.cs kv)[j]?
  | _, [], _, i, r, h => by simp at h
  | _, t :: ts, ⟨kv, rest, h1, h2, h3⟩, 0, r, h => by
    simp at h; subst h
    refine ⟨kv, h2, fun j hj => ?_⟩
    rw [h1, List.getElem?_append_left (by simp [Rl.cs]; omega)]
    simp
  | _, t :: ts, ⟨kv, rest, h1, h2, h3⟩, i + 1, r, h => by
    obtain ⟨kv', k1, k2⟩ := Cells8.at h3 i r (by simpa using h)
    refine ⟨kv', k1, fun j hj => ?_⟩
    rw [h1, List.getElem?_append_right (by simp [Rl.cs]; omega), ← k2 j hj]
    congr 1
    simp [Rl.cs]; omega

/-- the cells of rule i -/
theorem Rw.at {w : World} {S : Nat → Prop} {g cap : Nat} {rs : List Rl} (h : Rw w S g cap rs) (i : Nat) (r : Rl) (hi : rs[i]? = some r) : ∃ ao n cp, (∃ h, IsK w S h (.slice ao n cp) r.body.kids) ∧
    w.cell? ⟨g, i * 8, none⟩ = some (.string r.name) ∧ w.cell? ⟨g, i * 8 + 1, none⟩ = some (.int .i64 r.at_) ∧ w.cell? ⟨g, i * 8 + 2, none⟩ = some (.int .i64 r.body.kind) ∧ w.cell? ⟨g, i * 8 + 3, none⟩ = some (.int .i64 r.body.at_) ∧
    w.cell? ⟨g, i * 8 + 4, none⟩ = some (.string r.body.text) ∧ w.cell? ⟨g, i * 8 + 5, none⟩ = some (.slice ao n cp) ∧ w.cell? ⟨g, i * 8 + 6, none⟩ = some (.bool r.empty) ∧ w.cell? ⟨g, i * 8 + 7, none⟩ = some (.int .i64 r.begins) ∧
    (∀ o, w.frozen? ⟨g, o, none⟩ = false) := by
  obtain ⟨cur, hh, xs, h1, h2, h3, h4, h5, h6⟩ := h
  obtain ⟨kv, k1, k2⟩ := h6.at i r hi
  have hil : i < rs.length := by
    rcases Nat.lt_or_ge i rs.length with hl | hl
    · exact hl
    · rw [List.getElem?_eq_none hl] at hi; cases hi
  have hsh : ∃ ao n cp, kv = .slice ao n cp := by
    cases hh with
    | zero => exact ⟨none, 0, 0, k1.1⟩
    | succ hh =>
      obtain ⟨ys, y1, _⟩ := k1
      rcases y1.2 with ⟨y2, _⟩ | ⟨g', cap', cur', y2, _⟩
      · exact ⟨_, _, _, y2⟩
      · exact ⟨_, _, _, y2⟩
  obtain ⟨ao, n, cp, rfl⟩ := hsh
  have hc : ∀ j < 8, w.cell? ⟨g, i * 8 + j, none⟩ = (r.cs (.slice ao n cp))[j]? := by
    intro j hj
    rw [← k2 j hj, ← h5, List.getElem?_take, if_pos (by omega)]
    simp [World.cell?, h1]
  refine ⟨ao, n, cp, ⟨hh, k1⟩, ?_, ?_, ?_, ?_, ?_, ?_, ?_, ?_, fun o => by simp [World.frozen?, h1]⟩
  · exact (hc 0 (by omega)).trans rfl
  · exact (hc 1 (by omega)).trans rfl
  · exact (hc 2 (by omega)).trans rfl
  · exact (hc 3 (by omega)).trans rfl
  · exact (hc 4 (by omega)).trans rfl
  · exact (hc 5 (by omega)).trans rfl
  · exact (hc 6 (by omega)).trans rfl
  · exact (hc 7 (by omega)).trans rfl

def findFrom : List Rl → Int → ByteArray → Int
  | [], _, _ => -1
  | r :: rs, i, nm => if (r.name.toList == nm.toList) = true then i else findFrom rs (i + 1) nm
def findF (rs : List Rl) (nm : ByteArray) : Int := findFrom rs 0 nm

set_option maxHeartbeats 1000000 in
theorem find_any (w : World) (S : Nat → Prop) (g cap : Nat) (rs : List Rl) (nm : ByteArray) (hr : Rw w S g cap rs) (hn : rs.length ≤ 12) :
    Calls Try.prog 48 #[.slice (some ⟨g, 0, none⟩) rs.length cap, .string nm] w fun e w' => e = .returned (.int .i64 (findF rs nm)) ∧ Below w.heap.size w w' := by
  have hlt := hr.lt
  have Hr := hide hr
  clear hr
  go_enter Try.func48, Try.ntmps48
  go_wp2
  go_loopw [9] (fun i wr => ∃ k : Nat, k ≤ rs.length ∧ i = .int .i64 k ∧ Hid (findF rs nm = findFrom (rs.drop k) k nm) ∧ Hid (Below w.heap.size w wr)) (fun i _ => rs.length - (intOf i).toNat)
  case atStart => exact ⟨0, Nat.zero_le _, rfl, rfl, Below.refl _ _⟩
  case round =>
    obtain ⟨k, hk, rfl, HS, HB⟩ := hrel
    by_cases hlt2 : k < rs.length
    · have hi : rs[k]? = some rs[k] := List.getElem?_eq_getElem hlt2
      obtain ⟨ao, n, cp, _, a0, a1, a2, a3, a4, a6, a7, a8, _⟩ := ((unhide Hr).below (unhide HB)).at k _ hi
      have hd : rs.drop k = rs[k] :: rs.drop (k + 1) := List.drop_eq_getElem_cons hlt2
      have hzb := (unhide HB).size
      cases hx : (rs[k].name.toList == nm.toList)
      · have HE : Hid (findF rs nm = findFrom (rs.drop (k + 1)) (k + 1 : Nat) nm) := by
          refine (unhide HS).trans ?_
          rw [hd, findFrom, if_neg (by simp [hx])]
          rfl
        clear hd hi
        go_wp2_with fail
        go_roundw
        case rel => exact ⟨k + 1, by omega, by go_num, HE, (unhide HB).alloc (by omega) _⟩
        case measure => simp [intOf]; omega
      · have HE : Hid (findF rs nm = k) := by
          refine (unhide HS).trans ?_
          rw [hd, findFrom, if_pos hx]
        clear hd hi
        go_wp2
        go_ret
        exact ⟨ret_int (unhide HE).symm, (unhide HB).alloc (by omega) _⟩
    · have HE : Hid (findF rs nm = -1) := by
        refine (unhide HS).trans ?_
        rw [List.drop_eq_nil_of_le (by omega)]; rfl
      go_wp2
      go_ret
      exact ⟨ret_int (unhide HE).symm, unhide HB⟩

theorem findFrom_range : ∀ (rs : List Rl) (i : Int) (nm : ByteArray), findFrom rs i nm = -1 ∨ (i ≤ findFrom rs i nm ∧ findFrom rs i nm < i + rs.length)
  | [], _, _ => .inl rfl
  | r :: rs, i, nm => by
    unfold findFrom
    split
    · exact .inr ⟨by omega, by simp; omega⟩
    · have := findFrom_range rs (i + 1) nm
      simp
      omega
theorem findF_range (rs : List Rl) (nm : ByteArray) : findF rs nm = -1 ∨ (0 ≤ findF rs nm ∧ findF rs nm < rs.length) := by
  have := findFrom_range rs 0 nm
  unfold findF
  omega

/-- the checker in block c, its row of rules in block g -/
structure Ck (w : World) (S : Nat → Prop) (c g cap : Nat) (rs : List Rl) : Prop where
  cell : w.heap[c]? = some (.cells #[.slice (some ⟨g, 0, none⟩) rs.length cap] 87)
  row : Rw w S g cap rs
  few : rs.length ≤ 12
theorem Ck.below {w w' : World} {S : Nat → Prop} {c g cap : Nat} {rs : List Rl} (h : Ck w S c g cap rs) (hb : Below w.heap.size w w') : Ck w' S c g cap rs :=
  ⟨below_keep hb h.cell (Nat.le_refl _), h.row.below hb, h.few⟩
theorem Ck.cells {w : World} {S : Nat → Prop} {c g cap : Nat} {rs : List Rl} (h : Ck w S c g cap rs) : w.cell? ⟨c, 0, none⟩ = some (.slice (some ⟨g, 0, none⟩) rs.length cap) ∧ c < w.heap.size := by
  refine ⟨?_, (Array.getElem?_eq_some_iff.1 h.cell).1⟩
  simp [World.cell?, h.cell]
theorem Ck.alloc {w : World} {S : Nat → Prop} {c g cap : Nat} {rs : List Rl} (h : Ck w S c g cap rs) (o : Obj) : Ck (w.alloc o) S c g cap rs := h.below ((Below.refl _ _).alloc (Nat.le_refl _) _)

theorem Ck.drew {w : World} {S : Nat → Prop} {c g cap : Nat} {rs : List Rl} (h : Ck w S c g cap rs) : Ck w.drew S c g cap rs := h.below (Below.refl _ _).drew

def twiceL (all : List Rl) : List Rl → Int → Int
  | [], _ => -1
  | r :: rs, i => if findF all r.name < i then r.at_ else twiceL all rs (i + 1)

set_option maxHeartbeats 1000000 in
theorem twice_any (w : World) (S : Nat → Prop) (c g cap : Nat) (rs : List Rl) (hc : Ck w S c g cap rs) :
    Calls Try.prog 28 #[.pointer (some ⟨c, 0, none⟩)] w fun e w' => e = .returned (.int .i64 (twiceL rs rs 0)) ∧ Below w.heap.size w w' := by
  have hn := hc.few
  have Hc := hide hc
  obtain ⟨cc, hlt⟩ := hc.cells
  have hltg := hc.row.lt
  clear hc
  go_enter Try.func28, Try.ntmps28
  go_wp2
  go_loopw [11] (fun i wr => ∃ k : Nat, k ≤ rs.length ∧ i = .int .i64 k ∧ Hid (twiceL rs rs 0 = twiceL rs (rs.drop k) k) ∧ Hid (Below w.heap.size w wr)) (fun i _ => rs.length - (intOf i).toNat)
  case atStart => exact ⟨0, Nat.zero_le _, rfl, rfl, Below.refl _ _⟩
  case round =>
    obtain ⟨k, hk, rfl, HS, HB⟩ := hrel
    by_cases hlt2 : k < rs.length
    · have hi : rs[k]? = some rs[k] := List.getElem?_eq_getElem hlt2
      have hck := (unhide Hc).below (unhide HB)
      obtain ⟨ao, n, cp, _, a0, a1, a2, a3, a4, a6, a7, a8, _⟩ := hck.row.at k _ hi
      obtain ⟨cc', hltc⟩ := hck.cells
      have Hck := hide hck
      have hd : rs.drop k = rs[k] :: rs.drop (k + 1) := List.drop_eq_getElem_cons hlt2
      have hzb := (unhide HB).size
      have hfr := findF_range rs rs[k].name
      clear hck
      by_cases hx : findF rs rs[k].name < k
      · have HE : Hid (twiceL rs rs 0 = rs[k].at_) := by
          refine (unhide HS).trans ?_
          rw [hd, twiceL, if_pos hx]
        clear hd hi
        go_wp2_with fail
        go_region_held3 (fun w' => w'.cell? ⟨c, 0, none⟩ = some (.slice (some ⟨g, 0, none⟩) rs.length cap) ∧ w'.cell? ⟨wr.heap.size, 0, none⟩ = some (.string rs[k].name)) (go_keep)
          (first | (go_at_call 48; refine (find_any _ _ _ _ _ _ ((unhide Hck).alloc _).drew.row hn).mono ?_; rintro e w4 ⟨rfl, hb4⟩; have hb5 := hide (below_drew hb4); clear hb4; obtain ⟨z0, hz0⟩ := (((unhide Hck).alloc _).below (unhide hb5)).cells; obtain ⟨v0, v1, v2, v3, v4, v5, v6, v7, vf, hv⟩ := eight (below_keep (unhide hb5) (heap_alloc_new wr _) (Nat.le_refl _))))
        go_wp2
        go_ret
        exact ⟨ret_int (unhide HE).symm, ((unhide HB).alloc (by omega) _).trans ((unhide hb5).mono (by simp; omega))⟩
      · have HE : Hid (twiceL rs rs 0 = twiceL rs (rs.drop (k + 1)) (k + 1 : Nat)) := by
          refine (unhide HS).trans ?_
          rw [hd, twiceL, if_neg hx]; rfl
        clear hd hi
        go_wp2_with fail
        go_region_held3 (fun w' => w'.cell? ⟨c, 0, none⟩ = some (.slice (some ⟨g, 0, none⟩) rs.length cap) ∧ w'.cell? ⟨wr.heap.size, 0, none⟩ = some (.string rs[k].name)) (go_keep)
          (first | (go_at_call 48; refine (find_any _ _ _ _ _ _ ((unhide Hck).alloc _).drew.row hn).mono ?_; rintro e w4 ⟨rfl, hb4⟩; have hb5 := hide (below_drew hb4); clear hb4; obtain ⟨z0, hz0⟩ := (((unhide Hck).alloc _).below (unhide hb5)).cells; obtain ⟨v0, v1, v2, v3, v4, v5, v6, v7, vf, hv⟩ := eight (below_keep (unhide hb5) (heap_alloc_new wr _) (Nat.le_refl _))))
        go_wp2_with fail
        go_roundw
        case rel => exact ⟨k + 1, by omega, by go_num, HE, ((unhide HB).alloc (by omega) _).trans ((unhide hb5).mono (by simp; omega))⟩
        case measure => simp [intOf]; omega
    · have HE : Hid (twiceL rs rs 0 = -1) := by
        refine (unhide HS).trans ?_
        rw [List.drop_eq_nil_of_le (by omega)]; rfl
      go_wp2
      go_ret
      exact ⟨ret_int (unhide HE).symm, unhide HB⟩
end Go.Proofs.Ytdofpbbahamkkaa

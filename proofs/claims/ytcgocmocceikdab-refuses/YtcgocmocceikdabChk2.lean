import Derived.Test.YtcgocmocceikdabChk
namespace Go.Proofs.Ytcgocmocceikdab
open Go.RowKit

theorem Cells5.at {K : Value → List Nd → Prop} : ∀ {xs : List Value} {ts : List Nd}, Cells5 K xs ts → ∀ (i : Nat) (t : Nd), ts[i]? = some t → ∃ kv, K kv t.kids ∧ ∀ j < 5, xs[i * 5 + j]? = (t.cs kv)[j]?
  | _, [], _, i, r, h => by simp at h
  | _, t :: ts, ⟨kv, rest, h1, h2, h3⟩, 0, r, h => by
    simp at h; subst h
    refine ⟨kv, h2, fun j hj => ?_⟩
    rw [h1, List.getElem?_append_left (by simp [Nd.cs]; omega)]
    simp
  | _, t :: ts, ⟨kv, rest, h1, h2, h3⟩, i + 1, r, h => by
    obtain ⟨kv', k1, k2⟩ := Cells5.at h3 i r (by simpa using h)
    refine ⟨kv', k1, fun j hj => ?_⟩
    rw [h1, List.getElem?_append_right (by simp [Nd.cs]; omega), ← k2 j hj]
    congr 1
    simp [Nd.cs]; omega

theorem IsK.len {w : World} {S : Nat → Prop} {h : Nat} {ao : Option Addr} {n cp : Nat} {ts : List Nd} (k : IsK w S h (.slice ao n cp) ts) : n = ts.length := by
  cases h with
  | zero => obtain ⟨h1, h2⟩ := k; injection h1 with _ h3 _; rw [h2, h3]; rfl
  | succ h =>
    obtain ⟨xs, y, _⟩ := k
    rcases y.2 with ⟨y2, y3⟩ | ⟨g', cap', cur', y2, _⟩
    · injection y2 with _ h3 _; rw [h3, y3]
    · injection y2

theorem IsK.shape {w : World} {S : Nat → Prop} {h : Nat} {kv : Value} {ts : List Nd} (k : IsK w S h kv ts) : ∃ ao n cp, kv = .slice ao n cp := by
  cases h with
  | zero => exact ⟨none, 0, 0, k.1⟩
  | succ h =>
    obtain ⟨xs, y, _⟩ := k
    rcases y.2 with ⟨y2, y3⟩ | ⟨g', cap', cur', y2, _⟩
    · exact ⟨_, _, _, y2⟩
    · exact ⟨_, _, _, y2⟩

/-- the cells of node i of a list -/
theorem IsK.at {w : World} {S : Nat → Prop} {h : Nat} {ao : Option Addr} {n cp : Nat} {ts : List Nd} (k : IsK w S (h + 1) (.slice ao n cp) ts) (i : Nat) (t : Nd) (hi : ts[i]? = some t) :
    ∃ g, ao = some ⟨g, 0, none⟩ ∧ g < w.heap.size ∧ n ≤ cp ∧ ∃ ao' n' cp', IsK w S h (.slice ao' n' cp') t.kids ∧
    w.cell? ⟨g, i * 5, none⟩ = some (.int .i64 t.kind) ∧ w.cell? ⟨g, i * 5 + 1, none⟩ = some (.int .i64 t.at_) ∧ w.cell? ⟨g, i * 5 + 2, none⟩ = some (.string t.name) ∧ w.cell? ⟨g, i * 5 + 3, none⟩ = some (.bool t.empty) ∧ w.cell? ⟨g, i * 5 + 4, none⟩ = some (.slice ao' n' cp') := by
  obtain ⟨xs, y, h6⟩ := k
  have hil : i < ts.length := by
    rcases Nat.lt_or_ge i ts.length with hl | hl
    · exact hl
    · rw [List.getElem?_eq_none hl] at hi; cases hi
  rcases y.2 with ⟨y2, y3⟩ | ⟨g, cap, cur, y2, _, h1, hle, h3, h4, h5⟩
  · omega
  · injection y2 with e1 e2 e3
    obtain ⟨kv, k1, k2⟩ := h6.at i t hi
    obtain ⟨ao', n', cp', rfl⟩ := k1.shape
    have hc : ∀ j < 5, w.cell? ⟨g, i * 5 + j, none⟩ = (t.cs (.slice ao' n' cp'))[j]? := by
      intro j hj
      rw [← k2 j hj, ← h5, List.getElem?_take, if_pos (by omega)]
      simp [World.cell?, h1]
    refine ⟨g, e1, (Array.getElem?_eq_some_iff.1 h1).1, by omega, ao', n', cp', k1, ?_, ?_, ?_, ?_, ?_⟩
    · exact (hc 0 (by omega)).trans rfl
    · exact (hc 1 (by omega)).trans rfl
    · exact (hc 2 (by omega)).trans rfl
    · exact (hc 3 (by omega)).trans rfl
    · exact (hc 4 (by omega)).trans rfl
theorem IsK.below {w w' : World} {S : Nat → Prop} {h : Nat} {kv : Value} {ts : List Nd} (k : IsK w S h kv ts) (hb : Below w.heap.size w w') : IsK w' S h kv ts :=
  k.turn fun b hS hz => ⟨hS, hb.block b hz⟩

theorem IsK.maxlen {w : World} {S : Nat → Prop} {h : Nat} {kv : Value} {ts : List Nd} (k : IsK w S h kv ts) : ts.length ≤ 2 ^ 63 - 1 := by
  cases h with
  | zero => rw [k.2]; simp
  | succ h =>
    obtain ⟨xs, y, _⟩ := k
    rcases y.2 with ⟨_, y3⟩ | ⟨g', cap', cur', _, _, _, y4, y5, _⟩
    · omega
    · unfold maxLen at y5; omega

def emptyAt (rs : List Rl) (i : Int) : Bool := match rs[i.toNat]? with | some r => r.empty | none => false

def mayE (rs : List Rl) : Nat → Nd → Bool
  | 0, _ => false
  | F + 1, n =>
    if n.kind = 0 then n.empty else
    if n.kind = 2 then (decide (0 ≤ findF rs n.name) && emptyAt rs (findF rs n.name)) else
    if n.kind = 3 ∨ n.kind = 7 ∨ n.kind = 8 ∨ n.kind = 9 ∨ n.kind = 11 then true else
    if n.kind = 10 ∨ n.kind = 4 ∨ n.kind = 5 then n.kids.all (mayE rs F) else
    if n.kind = 6 then n.kids.any (mayE rs F) else false

section
variable (S : Nat → Prop) (c g cap : Nat) (rs : List Rl)
/-- the contracts of mayBeEmpty, allEmpty, anyEmpty, down to depth F -/
def SaidM (F : Nat) : Prop := ∀ w n ao nk cp, Ck w S c g cap rs → IsK w S F (.slice ao nk cp) n.kids →
  Calls Try.prog 26 #[.pointer (some ⟨c, 0, none⟩), .agg #[.int .i64 n.kind, .int .i64 n.at_, .string n.name, .bool n.empty, .slice ao nk cp]] w fun e w' => e = .returned (.bool (mayE rs (F + 1) n)) ∧ Below w.heap.size w w'
def SaidA (F : Nat) : Prop := ∀ w ts ao nk cp, Ck w S c g cap rs → IsK w S F (.slice ao nk cp) ts →
  Calls Try.prog 38 #[.pointer (some ⟨c, 0, none⟩), .slice ao nk cp] w fun e w' => e = .returned (.bool (ts.all (mayE rs F))) ∧ Below w.heap.size w w'
end

set_option maxHeartbeats 1000000 in
theorem allEmpty_step (S : Nat → Prop) (c g cap : Nat) (rs : List Rl) (F : Nat) (hM : SaidM S c g cap rs F) : SaidA S c g cap rs (F + 1) := by
  intro w ts ao nk cp hc hk
  have hl := hk.maxlen
  have hln := hk.len
  subst hln
  have Hc := hide hc
  have Hk := hide hk
  have HM := hide hM
  clear hc hk hM
  go_enter Try.func38, Try.ntmps38
  go_wp2
  go_loopw [10] (fun i wr => ∃ k : Nat, k ≤ ts.length ∧ i = .int .i64 k ∧ Hid (ts.all (mayE rs (F + 1)) = (ts.drop k).all (mayE rs (F + 1))) ∧ Hid (Below w.heap.size w wr)) (fun i _ => ts.length - (intOf i).toNat)
  case atStart => exact ⟨0, Nat.zero_le _, rfl, rfl, Below.refl _ _⟩
  case round =>
    obtain ⟨k, hk, rfl, HS, HB⟩ := hrel
    by_cases hlt2 : k < ts.length
    · have hi : ts[k]? = some ts[k] := List.getElem?_eq_getElem hlt2
      obtain ⟨g', rfl, hg', hcp, ao', n', cp', hk', a0, a1, a2, a3, a4⟩ := ((unhide Hk).below (unhide HB)).at k _ hi
      have hd : ts.drop k = ts[k] :: ts.drop (k + 1) := List.drop_eq_getElem_cons hlt2
      have hzb := (unhide HB).size
      have Hk' := hide hk'
      clear hk'
      cases hx : mayE rs (F + 1) ts[k]
      · have HE : Hid (ts.all (mayE rs (F + 1)) = false) := by
          refine (unhide HS).trans ?_
          rw [hd, List.all_cons, hx]; rfl
        have Hx := hide hx
        clear hd hi hx
        go_wp2_with (go_at_call 26; refine (unhide HM _ _ _ _ _ (((unhide Hc).below (unhide HB)).alloc _) ((unhide Hk').below ((Below.refl _ _).alloc (Nat.le_refl _) _))).mono ?_; rintro e w' ⟨rfl, hb'⟩; rw [unhide Hx])
        go_ret
        exact ⟨ret_bool (unhide HE).symm, ((unhide HB).alloc (by omega) _).trans (hb'.mono (by simp; omega))⟩
      · have HE : Hid (ts.all (mayE rs (F + 1)) = (ts.drop (k + 1)).all (mayE rs (F + 1))) := by
          refine (unhide HS).trans ?_
          rw [hd, List.all_cons, hx]; rfl
        have Hx := hide hx
        clear hd hi hx
        go_wp2_with (go_at_call 26; refine (unhide HM _ _ _ _ _ (((unhide Hc).below (unhide HB)).alloc _) ((unhide Hk').below ((Below.refl _ _).alloc (Nat.le_refl _) _))).mono ?_; rintro e w' ⟨rfl, hb'⟩; rw [unhide Hx])
        go_roundw
        case rel => exact ⟨k + 1, by omega, by go_num, HE, ((unhide HB).alloc (by omega) _).trans (hb'.mono (by simp; omega))⟩
        case measure => simp [intOf]; omega
    · have HE : Hid (ts.all (mayE rs (F + 1)) = true) := by
        refine (unhide HS).trans ?_
        rw [List.drop_eq_nil_of_le (by omega)]; rfl
      go_wp2
      go_ret
      exact ⟨ret_bool (unhide HE).symm, unhide HB⟩
end Go.Proofs.Ytcgocmocceikdab

import Derived.Test.YtbojcemamhiodaaGreatDoorApp
import Derived.Test.YtbojcemamhiodaaGreatDoorPurp
namespace Go.Proofs.YtbojcemamhiodaaGreatDoor
open Go.RowKit

theorem Cells4.append {K : Value → List Nd → Prop} : ∀ {xs ys : List Value} {ts us : List Nd}, Cells4 K xs ts → Cells4 K ys us → Cells4 K (xs ++ ys) (ts ++ us)
  | _, _, [], _, h, h' => by rw [h]; exact h'
  | _, _, _ :: _, _, ⟨kv, rest, h1, h2, h3⟩, h' => ⟨kv, rest ++ _, by rw [h1, List.append_assoc], h2, Cells4.append h3 h'⟩
theorem Cells4.at {K : Value → List Nd → Prop} : ∀ {xs : List Value} {ts : List Nd}, Cells4 K xs ts → ∀ (i : Nat) (t : Nd), ts[i]? = some t → ∃ kv, K kv t.kids ∧ ∀ j < 4, xs[i * 4 + j]? = (t.cs kv)[j]?
  | _, [], _, i, r, h => by simp at h
  | _, t :: ts, ⟨kv, rest, h1, h2, h3⟩, 0, r, h => by
    simp at h; subst h
    refine ⟨kv, h2, fun j hj => ?_⟩
    rw [h1, List.getElem?_append_left (by simp [Nd.cs]; omega)]
    simp
  | _, t :: ts, ⟨kv, rest, h1, h2, h3⟩, i + 1, r, h => by
    obtain ⟨kv', k1, k2⟩ := Cells4.at h3 i r (by simpa using h)
    refine ⟨kv', k1, fun j hj => ?_⟩
    rw [h1, List.getElem?_append_right (by simp [Nd.cs]; omega), ← k2 j hj]
    congr 1
    simp [Nd.cs]; omega
theorem Cells4.one_cell {K : Value → List Nd → Prop} (hK : ∀ kv l, K kv l → kv.oneCell' = true) : ∀ {xs : List Value} {ts : List Nd}, Cells4 K xs ts → ∀ u ∈ xs, u.oneCell' = true
  | _, [], h, u, hu => by rw [h] at hu; simp at hu
  | _, t :: ts, ⟨kv, rest, h1, h2, h3⟩, u, hu => by
    rw [h1] at hu
    simp [Nd.cs] at hu
    rcases hu with rfl | rfl | rfl | rfl | hu
    · rfl
    · rfl
    · rfl
    · exact hK _ _ h2
    · exact Cells4.one_cell hK h3 u hu
theorem IsK.shape {w : World} {S : Nat → Prop} {h : Nat} {kv : Value} {ts : List Nd} (k : IsK w S h kv ts) : ∃ ao n cp, kv = .slice ao n cp := by
  cases h with
  | zero => exact ⟨none, 0, 0, k.1⟩
  | succ h =>
    obtain ⟨xs, y, _⟩ := k
    rcases y.2 with ⟨y2, y3⟩ | ⟨g', cap', cur', y2, _⟩
    · exact ⟨_, _, _, y2⟩
    · exact ⟨_, _, _, y2⟩
/-- the cells of node i of a list -/
theorem IsK.at {w : World} {S : Nat → Prop} {h : Nat} {ao : Option Addr} {n cp : Nat} {ts : List Nd} (k : IsK w S (h + 1) (.slice ao n cp) ts) (i : Nat) (t : Nd) (hi : ts[i]? = some t) :
    ∃ g, ao = some ⟨g, 0, none⟩ ∧ g < w.heap.size ∧ n ≤ cp ∧ ∃ ao' n' cp', IsK w S h (.slice ao' n' cp') t.kids ∧
    w.cell? ⟨g, i * 4, none⟩ = some (.int .i64 t.kind) ∧ w.cell? ⟨g, i * 4 + 1, none⟩ = some (.int .i64 t.at_) ∧ w.cell? ⟨g, i * 4 + 2, none⟩ = some (.string t.text) ∧ w.cell? ⟨g, i * 4 + 3, none⟩ = some (.slice ao' n' cp') := by
  obtain ⟨xs, y, h6⟩ := k
  have hil : i < ts.length := by
    rcases Nat.lt_or_ge i ts.length with hl | hl
    · exact hl
    · rw [List.getElem?_eq_none hl] at hi; cases hi
  rcases y.2 with ⟨y2, y3⟩ | ⟨g, cap, cur, y2, _, h1, hle, h3, h4, h5⟩
  · omega
  · injection y2 with e1 e2 e3
    obtain ⟨kv, k1, k2⟩ := h6.at i t hi
    obtain ⟨ao', n', cp', rfl⟩ := k1.shape
    have hc : ∀ j < 4, w.cell? ⟨g, i * 4 + j, none⟩ = (t.cs (.slice ao' n' cp'))[j]? := by
      intro j hj
      rw [← k2 j hj, ← h5, List.getElem?_take, if_pos (by omega)]
      simp [World.cell?, h1]
    refine ⟨g, e1, (Array.getElem?_eq_some_iff.1 h1).1, by omega, ao', n', cp', k1, ?_, ?_, ?_, ?_⟩
    · exact (hc 0 (by omega)).trans rfl
    · exact (hc 1 (by omega)).trans rfl
    · exact (hc 2 (by omega)).trans rfl
    · exact (hc 3 (by omega)).trans rfl
theorem IsK.len {w : World} {S : Nat → Prop} {h : Nat} {ao : Option Addr} {n cp : Nat} {ts : List Nd} (k : IsK w S h (.slice ao n cp) ts) : n = ts.length := by
  cases h with
  | zero => obtain ⟨h1, h2⟩ := k; injection h1 with _ h3 _; rw [h2, h3]; rfl
  | succ h =>
    obtain ⟨xs, y, _⟩ := k
    rcases y.2 with ⟨y2, y3⟩ | ⟨g', cap', cur', y2, _⟩
    · injection y2 with _ e _; omega
    · injection y2 with _ e _

theorem IsK.below {w w' : World} {S : Nat → Prop} {h : Nat} {kv : Value} {ts : List Nd} (k : IsK w S h kv ts) (hb : Below w.heap.size w w') : IsK w' S h kv ts :=
  k.turn fun b hS hz => ⟨hS, hb.block b hz⟩

theorem IsK.maxlen {w : World} {S : Nat → Prop} {h : Nat} {kv : Value} {ts : List Nd} (k : IsK w S h kv ts) : ts.length ≤ 2 ^ 63 - 1 := by
  cases h with
  | zero => rw [k.2]; simp
  | succ h =>
    obtain ⟨xs, y, _⟩ := k
    rcases y.2 with ⟨_, y3⟩ | ⟨g', cap', cur', _, _, _, y4, y5, _⟩
    · omega
    · unfold maxLen at y5; omega

/-- a slice of nodes that the call appends to: what hangs on them is older than the call -/
def GrowS (w : World) (lo : Nat) (S : Nat → Prop) (v : Value) (ts : List Nd) : Prop :=
  ∃ h xs, w.ownsRow lo 118 4 v ts.length xs ∧ Cells4 (IsK w (fun b => S b ∧ b < lo) h) xs ts

theorem GrowS.nil (w : World) (lo : Nat) (S : Nat → Prop) : GrowS w lo S (.slice none 0 0) [] := ⟨0, [], World.ownsRow_nil _ _ _ _, rfl⟩
theorem GrowS.shape {w : World} {lo : Nat} {S : Nat → Prop} {v : Value} {ts : List Nd} (h : GrowS w lo S v ts) : ∃ ao cp, v = .slice ao ts.length cp := by
  obtain ⟨n, xs, h1, _⟩ := h
  exact own_shape h1
theorem GrowS.below {w w' : World} {lo : Nat} {S : Nat → Prop} {v : Value} {ts : List Nd} (h : GrowS w lo S v ts) (hb : Below w.heap.size w w') : GrowS w' lo S v ts := by
  obtain ⟨n, xs, h1, h2⟩ := h
  exact ⟨n, xs, own_below h1 hb, Cells4.imp (fun _ _ k => k.turn fun b hS hz => ⟨hS, hb.block b hz⟩) h2⟩
theorem GrowS.isK {w : World} {lo lo' : Nat} {S : Nat → Prop} {v : Value} {ts : List Nd} (h : GrowS w lo S v ts) (hS : ∀ b, S b → lo' ≤ b) (hl : lo' ≤ lo) : Kids w lo' v ts := by
  obtain ⟨n, xs, h1, h2⟩ := h
  refine ⟨n + 1, xs, (RowIn.of_owns h1).turn fun b hb _ => ⟨Nat.le_trans hl hb, rfl⟩, Cells4.imp (fun _ _ k => k.turn fun b hb _ => ⟨hS b hb.1, rfl⟩) h2⟩

/-- nodes are appended that lie in a row of cells: what the walk meets at 'l = append(l, ..)' -/
theorem wpList_append_nds {w : World} {ops : Array Oper} {rest : List Oper} {o : Oper} {a : Act} {Q : Exit → Act → World → Prop} (hgd : o.guard = none) (sl x : Operand)
    (ho : o.op = .call { callee := .builtin .append, args := #[sl, x], argTypes := #[116, 116] })
    (lo : Nat) (S : Nat → Prop) (v : Value) (ts us : List Nd) (hs : a.eval sl = v) (hlen : ts.length + us.length ≤ 1000) (hu : 0 < us.length) (hg : GrowS w lo S v ts) (g m cap : Nat) (hm : m = us.length) (hx : a.eval x = .slice (some ⟨g, 0, none⟩) m cap)
    (h' : Nat) (news : List Value) (hk : Cells4 (IsK w (fun b => S b ∧ b < lo) h') news us) (hc : ∀ j u, news[j]? = some u → w.cell? ⟨g, j, none⟩ = some u) (hlo : lo ≤ w.heap.size)
    (h : ∀ v' w', GrowS w' lo S v' (ts ++ us) → w.grownBy w' v.ownBlock → wpList Tryz.prog ops Q rest (a.put o.dst v') w') :
    wpList Tryz.prog ops Q (o :: rest) a w := by
  subst hm
  obtain ⟨i, hi, hz, hsz, hby⟩ := info_parts info52
  obtain ⟨hh, xs, h1, h2⟩ := hg
  have hown := h1.lt
  refine wpList_append2 w hgd sl x 116 ho lo 118 i _ 4 56 Tryz.underlying116 hi hz hsz hby rfl (by omega) v ts.length xs hs h1 ⟨g, 0, none⟩ us.length cap hu news hx hk.length ?_ (hk.one_cell fun kv l k => by obtain ⟨_, _, _, rfl⟩ := k.shape; rfl) (by unfold maxLen; omega) (by omega) hlo ?_
  · intro j u hj
    have hadd : (⟨g, 0, none⟩ : Addr).add j = ⟨g, j, none⟩ := by unfold Addr.add; split <;> simp_all
    rw [hadd]
    exact hc j u hj
  · intro v' w' ho' hgr _
    refine h v' w' ⟨max hh h', xs ++ news, by simpa using ho', Cells4.append (Cells4.imp (fun _ _ k => ?_) h2) (Cells4.imp (fun _ _ k => ?_) hk)⟩ hgr
    · exact (k.turn (S' := fun b => S b ∧ b < lo) fun b hS hz => ⟨hS, hgr.block b hz fun e => by have := (hown b e.symm).1; omega⟩).mono (Nat.le_max_left _ _)
    · exact (k.turn (S' := fun b => S b ∧ b < lo) fun b hS hz => ⟨hS, hgr.block b hz fun e => by have := (hown b e.symm).1; omega⟩).mono (Nat.le_max_right _ _)

theorem Grow.own_lt {w : World} {lo : Nat} {v : Value} {ts : List Nd} (h : Grow w lo v ts) : ∀ k, v.ownBlock = some k → lo ≤ k ∧ k < w.heap.size := by
  obtain ⟨n, xs, h1, _⟩ := h
  exact fun k hk => h1.lt k hk
theorem But.grown {q : Nat} {w w1 w2 : World} {row : Option Nat} (h : But q w w1) (hg : w1.grownBy w2 row) (hr : ∀ k, row = some k → w.heap.size ≤ k) : But q w w2 :=
  ⟨hg.os.trans h.os, hg.tape.trans h.tape, hg.output.trans h.output, Nat.le_trans h.size hg.size, fun k hk hq => (hg.block k (Nat.lt_of_lt_of_le hk h.size) (fun e => by have := hr k e.symm; omega)).trans (h.block k hk hq)⟩
theorem grown_keep {w1 w2 : World} {row : Option Nat} {N : Nat} {o : Obj} (hg : w1.grownBy w2 row) (h : w1.heap[N]? = some o) (hr : ∀ k, row = some k → k ≠ N) : w2.heap[N]? = some o :=
  (hg.block N (Array.getElem?_eq_some_iff.1 h).1 (fun e => hr N e.symm rfl)).trans h

/-- the cells of a list of nodes, as a row -/
theorem IsK.row {w : World} {S : Nat → Prop} {h : Nat} {ao : Option Addr} {n cp : Nat} {ts : List Nd} (k : IsK w S h (.slice ao n cp) ts) (hn : 0 < ts.length) :
    ∃ g h' xs, ao = some ⟨g, 0, none⟩ ∧ S g ∧ Cells4 (IsK w S h') xs ts ∧ (∀ j u, xs[j]? = some u → w.cell? ⟨g, j, none⟩ = some u) ∧ n = ts.length := by
  have hl := k.len
  cases h with
  | zero => rw [k.2] at hn; simp at hn
  | succ h =>
    obtain ⟨xs, y, h6⟩ := k
    rcases y.2 with ⟨y2, y3⟩ | ⟨g, cap, cur, y2, hS, h1, hle, h3, h4, h5⟩
    · omega
    · injection y2 with e1 e2 e3
      refine ⟨g, h, xs, e1, hS, h6, fun j u hj => ?_, hl⟩
      have hjl := (List.getElem?_eq_some_iff.1 hj).1
      have hxl := y.1
      rw [← h5, List.getElem?_take, if_pos (by omega)] at hj
      simpa [World.cell?, h1] using hj

theorem flatL_snoc_yes {k : Int} {l : List Nd} {n : Nd} (h : n.kind = k) : flatL k (l ++ [n]) = flatL k l ++ n.kids := by rw [flatL_append]; simp [flatL, h]
theorem flatL_snoc_no {k : Int} {l : List Nd} {n : Nd} (h : n.kind ≠ k) : flatL k (l ++ [n]) = flatL k l ++ [n] := by rw [flatL_append]; simp [flatL, h]
theorem flatL_take_le (k : Int) : ∀ (l : List Nd) (i : Nat), (flatL k (l.take i)).length ≤ (flatL k l).length
  | [], i => by simp
  | n :: l, 0 => by simp [flatL]
  | n :: l, i + 1 => by
    have := flatL_take_le k l i
    simp only [List.take_succ_cons, flatL, List.length_append]
    omega
end Go.Proofs.YtbojcemamhiodaaGreatDoor

import Derived.Test.YtbojcemamhiodaaGreatDoorJnd
import Derived.Test.YtbojcemamhiodaaGreatDoorRecA
namespace Go.Proofs.YtbojcemamhiodaaGreatDoor
open Go.RowKit

/-- what joined leaves -/
def OutN (lo : Nat) (w : World) (r : Nd) (e : Ending) (w' : World) : Prop :=
  ∃ ao n cp, e = .returned (.agg #[.int .i64 r.kind, .int .i64 r.at_, .string r.text, .slice ao n cp]) ∧ Kids w' lo (.slice ao n cp) r.kids ∧ Below w.heap.size w w'

theorem below_set4 {w w1 : World} {n N : Nat} {a b c e : Value} (h : Below n w w1) (hn : n ≤ N) : Below n w ((((w1.setCell ⟨N, 0, none⟩ a).setCell ⟨N, 1, none⟩ b).setCell ⟨N, 2, none⟩ c).setCell ⟨N, 3, none⟩ e) :=
  (((h.setCell hn _).setCell hn _).setCell hn _).setCell hn _
theorem Kids.set4 {w : World} {lo N : Nat} {a b c e kv : Value} {l : List Nd} (hS : ∃ n, IsK w (fun b => lo ≤ b ∧ b ≠ N) n kv l) : Kids ((((w.setCell ⟨N, 0, none⟩ a).setCell ⟨N, 1, none⟩ b).setCell ⟨N, 2, none⟩ c).setCell ⟨N, 3, none⟩ e) lo kv l := by
  obtain ⟨n, hn⟩ := hS
  refine ⟨n, hn.turn fun b hb _ => ⟨hb.1, ?_⟩⟩
  rw [Below.heap_setCell _ _ _ _ (by simpa using hb.2), Below.heap_setCell _ _ _ _ (by simpa using hb.2), Below.heap_setCell _ _ _ _ (by simpa using hb.2), Below.heap_setCell _ _ _ _ (by simpa using hb.2)]
theorem GrowS.apart {w : World} {lo lo' N : Nat} {S : Nat → Prop} {v : Value} {ts : List Nd} (h : GrowS w lo S v ts) (hS : ∀ b, S b → lo' ≤ b ∧ b ≠ N) (hl : lo' ≤ lo) (hN : N < lo) : ∃ n, IsK w (fun b => lo' ≤ b ∧ b ≠ N) n v ts := by
  obtain ⟨n, xs, h1, h2⟩ := h
  exact ⟨n + 1, xs, (RowIn.of_owns h1).turn fun b hb _ => ⟨⟨Nat.le_trans hl hb, by omega⟩, rfl⟩, Cells4.imp (fun _ _ k => k.turn fun b hb _ => ⟨hS b hb.1, rfl⟩) h2⟩
theorem GrowS.head {w : World} {lo : Nat} {S : Nat → Prop} {ao : Option Addr} {m cp : Nat} {t : Nd} (h : GrowS w lo S (.slice ao m cp) [t]) :
    ∃ g, ao = some ⟨g, 0, none⟩ ∧ g < w.heap.size ∧ m ≤ cp ∧ ∃ ao' n' cp' k, IsK w (fun b => S b ∧ b < lo) k (.slice ao' n' cp') t.kids ∧
    w.cell? ⟨g, 0, none⟩ = some (.int .i64 t.kind) ∧ w.cell? ⟨g, 1, none⟩ = some (.int .i64 t.at_) ∧ w.cell? ⟨g, 2, none⟩ = some (.string t.text) ∧ w.cell? ⟨g, 3, none⟩ = some (.slice ao' n' cp') := by
  obtain ⟨n, xs, h1, h2⟩ := h
  have hk : IsK w (fun b => lo ≤ b ∨ (S b ∧ b < lo)) (n + 1) (.slice ao m cp) [t] := ⟨xs, (RowIn.of_owns h1).turn fun b hb _ => ⟨.inl hb, rfl⟩, Cells4.imp (fun _ _ k => k.turn fun b hb _ => ⟨.inr hb, rfl⟩) h2⟩
  obtain ⟨g, e1, e2, e3, ao', n', cp', _, c0, c1, c2, c3⟩ := hk.at 0 t rfl
  obtain ⟨kv, rest, f1, f2, _⟩ := h2
  obtain ⟨ao2, n2, cp2, rfl⟩ := f2.shape
  refine ⟨g, e1, e2, e3, ao2, n2, cp2, n, f2, by simpa using c0, by simpa using c1, by simpa using c2, ?_⟩
  subst e1
  have := h1.cells (g := g) rfl 3 (.slice ao2 n2 cp2) (by rw [f1]; rfl)
  have hadd : (⟨g, 0, none⟩ : Addr).add 3 = ⟨g, 3, none⟩ := by unfold Addr.add; split <;> simp_all
  rw [hadd] at this
  exact this

theorem GrowS.own_lt {w : World} {lo : Nat} {S : Nat → Prop} {v : Value} {ts : List Nd} (h : GrowS w lo S v ts) : ∀ k, v.ownBlock = some k → lo ≤ k ∧ k < w.heap.size := by
  obtain ⟨n, xs, h1, _⟩ := h
  exact fun k hk => h1.lt k hk

set_option maxRecDepth 4000 in
set_option maxHeartbeats 4000000 in
theorem joined_any (w : World) (k : Int) (v : Value) (l : List Nd) (lo : Nat) (hk : Kids w lo v l) (hlo : lo ≤ w.heap.size) (hne : ∀ n ∈ l, n.kind = k → 0 < n.kids.length) (hlen : (flatL k l).length ≤ 1000) :
    Calls Tryz.prog 120 #[.int .i64 k, v] w (OutN lo w (joinF k l)) := by
  obtain ⟨hh, hk⟩ := hk
  have hk := hk.succ
  obtain ⟨ao0, n0, cp0, rfl⟩ := hk.shape
  have hn0 := hk.len
  subst hn0
  have hmx := hk.maxlen
  have HK := hide hk
  have HN0 := hide hne
  have HL := hide hlen
  clear hk hne hlen
  go_enter Tryz.func120, Tryz.ntmps120
  go_wp2_with fail
  go_loopw [5, 10] (fun v i wr => ∃ (j : Nat) (ao : Option Addr) (cp : Nat), j ≤ l.length ∧ i = .int .i64 j ∧ v = .slice ao (flatL k (l.take j)).length cp ∧
      Hid (GrowS wr (w.heap.size + 1) (fun b => lo ≤ b ∧ b < w.heap.size) (.slice ao (flatL k (l.take j)).length cp) (flatL k (l.take j))) ∧
      Hid (wr.heap[w.heap.size]? = some (.cells #[.int .i64 0, .int .i64 0, .string ⟨#[]⟩, .slice none 0 0] 118)) ∧ Hid (Below w.heap.size w wr)) (fun _ i _ => l.length - (intOf i).toNat)
  case atStart => exact ⟨0, none, 0, Nat.zero_le _, rfl, rfl, GrowS.nil _ _ _, heap_alloc_new w _, (Below.refl _ _).alloc (Nat.le_refl _) _⟩
  case round =>
    obtain ⟨j, ao, cp, hj, rfl, rfl, HG, HN, HB⟩ := hrel
    have hzb := (unhide HB).size
    have hml := (unhide HK).turn (w' := wr) (S' := fun b => lo ≤ b ∧ b < w.heap.size) fun b hS hz => ⟨⟨hS, hz⟩, (unhide HB).block b hz⟩
    by_cases hlt : j < l.length
    · have hi0 : l[j]? = some l[j] := List.getElem?_eq_getElem hlt
      have HT := List.take_succ_eq_append_getElem hlt
      have hle := flatL_take_le k l (j + 1)
      have hmem : l[j] ∈ l := List.getElem_mem hlt
      obtain ⟨g, rfl, hg, hcp, ao', n', cp', hkn, e0, e1, e2, e3⟩ := hml.at j _ hi0
      generalize l[j] = n at *
      rw [HT] at hle
      have hal := unhide HL
      have hA := (Below.refl wr.heap.size wr).alloc (Nat.le_refl _) (.cells #[.int .i64 n.kind, .int .i64 n.at_, .string n.text, .slice ao' n' cp'] 118)
      have HG1 := hide ((unhide HG).below hA)
      have HA := hide hA
      by_cases hkk : n.kind = k
      · have b1 : (n.kind == k) = true := by simp [hkk]
        have HF := hide (flatL_snoc_yes (l := l.take j) hkk)
        have hpos := unhide HN0 n hmem hkk
        rw [unhide HF, List.length_append] at hle
        obtain ⟨g2, h2, xs2, rfl, hS2, hC2, hc2, hn2⟩ := hkn.row hpos
        subst hn2
        have hg2 : g2 < wr.heap.size := by omega
        have HC := hide (Cells4.imp (K' := IsK (wr.alloc (.cells #[.int .i64 n.kind, .int .i64 n.at_, .string n.text, .slice (some ⟨g2, 0, none⟩) n.kids.length cp'] 118)) (fun b => (lo ≤ b ∧ b < w.heap.size) ∧ b < w.heap.size + 1) h2) (fun _ _ kk => kk.turn fun b hS hz => ⟨⟨hS, by omega⟩, hA.block b hz⟩) hC2)
        have Hc := hide (fun j u hj => (hA.cell (p := ⟨g2, j, none⟩) hg2).trans (hc2 j u hj))
        have hlen2 : (flatL k (l.take j)).length + n.kids.length ≤ 1000 := by omega
        have HT' := hide HT
        clear hkk hle hA hC2 hc2 hal HT hml hi0 hmem hkn
        go_wp2_with (first | (at_builtin; refine wpList_append_nds rfl (.tmp 18) (.tmp 20) rfl (w.heap.size + 1) (fun b => lo ≤ b ∧ b < w.heap.size) _ (flatL k (l.take j)) n.kids rfl hlen2 hpos (unhide HG1) g2 n.kids.length cp' rfl rfl h2 xs2 (unhide HC) (unhide Hc) (by simp; omega) ?_) | go_in)
        intro v' w' hG' hgr
        rw [← unhide HF, ← unhide HT'] at hG'
        obtain ⟨ao3, cp3, rfl⟩ := hG'.shape
        have hown := hide ((unhide HG1).own_lt)
        have HN' := hide (grown_keep hgr (heap_old (unhide HN)) (fun b hb => by have := (unhide hown b hb).1; omega))
        have HB' := hide (((unhide HB).trans ((unhide HA).mono hzb)).grown hgr (by simp; omega) (fun b hb => by have := (unhide hown b hb).1; omega))
        have HG' := hide hG'
        clear hG' hgr
        go_wp2_with fail
        go_roundw
        case rel => exact ⟨j + 1, ao3, cp3, by omega, by go_num, rfl, HG', HN', HB'⟩
        case measure => simp [intOf]; omega
      · have b1 : (n.kind == k) = false := by simp [hkk]
        have HF := hide (flatL_snoc_no (l := l.take j) hkk)
        rw [unhide HF, List.length_append] at hle
        have hA2 := hA.alloc (by simp) (.cells #[.int .i64 n.kind, .int .i64 n.at_, .string n.text, .slice ao' n' cp'] 118)
        have HG2 := hide ((unhide HG).below hA2)
        have HA2 := hide hA2
        have HC : Hid (Cells4 (IsK ((wr.alloc (.cells #[.int .i64 n.kind, .int .i64 n.at_, .string n.text, .slice ao' n' cp'] 118)).alloc (.cells #[.int .i64 n.kind, .int .i64 n.at_, .string n.text, .slice ao' n' cp'] 118)) (fun b => (lo ≤ b ∧ b < w.heap.size) ∧ b < w.heap.size + 1) hh) (n.cs (.slice ao' n' cp')) [n]) :=
          ⟨_, [], by simp, hkn.turn fun b hS hz => ⟨⟨hS, by omega⟩, hA2.block b hz⟩, rfl⟩
        have Hc : Hid (∀ j u, (n.cs (.slice ao' n' cp'))[j]? = some u → ((wr.alloc (.cells #[.int .i64 n.kind, .int .i64 n.at_, .string n.text, .slice ao' n' cp'] 118)).alloc (.cells #[.int .i64 n.kind, .int .i64 n.at_, .string n.text, .slice ao' n' cp'] 118)).cell? ⟨wr.heap.size + 1, j, none⟩ = some u) := by
          intro j u hj
          have hx := heap_alloc_new (wr.alloc (.cells #[.int .i64 n.kind, .int .i64 n.at_, .string n.text, .slice ao' n' cp'] 118)) (.cells #[.int .i64 n.kind, .int .i64 n.at_, .string n.text, .slice ao' n' cp'] 118)
          rw [show (wr.alloc (.cells #[.int .i64 n.kind, .int .i64 n.at_, .string n.text, .slice ao' n' cp'] 118)).heap.size = wr.heap.size + 1 from by simp] at hx
          simp only [World.cell?, hx]
          simpa [Nd.cs] using hj
        have hlen2 : (flatL k (l.take j)).length + [n].length ≤ 1000 := by omega
        have HT' := hide HT
        clear hkk hle hA hal HT hml hi0 hmem hkn hA2
        go_wp2_with (first | (at_builtin; refine wpList_append_nds rfl (.tmp 22) (.tmp 24) rfl (w.heap.size + 1) (fun b => lo ≤ b ∧ b < w.heap.size) _ (flatL k (l.take j)) [n] rfl hlen2 (by simp) (unhide HG2) (wr.heap.size + 1) 1 1 rfl rfl hh _ (unhide HC) (unhide Hc) (by simp; omega) ?_) | go_in)
        intro v' w' hG' hgr
        rw [← unhide HF, ← unhide HT'] at hG'
        obtain ⟨ao3, cp3, rfl⟩ := hG'.shape
        have hown := hide ((unhide HG2).own_lt)
        have HN' := hide (grown_keep hgr (heap_old (heap_old (unhide HN))) (fun b hb => by have := (unhide hown b hb).1; omega))
        have HB' := hide (((unhide HB).trans ((unhide HA2).mono hzb)).grown hgr (by simp; omega) (fun b hb => by have := (unhide hown b hb).1; omega))
        have HG' := hide hG'
        clear hG' hgr
        go_wp2_with fail
        go_roundw
        case rel => exact ⟨j + 1, ao3, cp3, by omega, by go_num, rfl, HG', HN', HB'⟩
        case measure => simp [intOf]; omega
    · have hjj : j = l.length := by omega
      subst hjj
      rw [List.take_of_length_le (Nat.le_refl _)] at HG
      rw [List.take_of_length_le (Nat.le_refl _)]
      have HJ : Hid (joinF k l = joinL k (flatL k l)) := rfl
      have hal := unhide HL
      obtain ⟨r0, r1, r2, r3, rf, hz1⟩ := four (unhide HN)
      clear hml
      generalize flatL k l = F at *
      match F, HG with
      | [], HG =>
        have HJ' : Hid (joinF k l = nd0 0 []) := HJ
        go_wp2
        refine bodyPost_ret (v := .agg #[.int .i64 0, .int .i64 0, .string ByteArray.empty, .slice none 0 0]) (by simp [results, Tryz.results120, go_sem, r0, r1, r2, r3]; rfl) rfl ?_
        rw [unhide HJ']
        exact ⟨none, 0, 0, rfl, Kids.nil _ _, below_set4 (unhide HB) (Nat.le_refl _)⟩
      | [n], HG =>
        have HJ' : Hid (joinF k l = n) := HJ
        obtain ⟨g, rfl, hg, hcp, ao', n', cp', kk, hkn, e0, e1, e2, e3⟩ := (unhide HG).head
        go_wp2
        refine bodyPost_ret (v := .agg #[.int .i64 n.kind, .int .i64 n.at_, .string n.text, .slice ao' n' cp']) (by simp [results, Tryz.results120, go_sem, r0, r1, r2, r3]) rfl ?_
        rw [unhide HJ']
        refine ⟨ao', n', cp', rfl, Kids.set4 ⟨kk, hkn.turn fun b hS _ => ⟨⟨hS.1.1, by omega⟩, rfl⟩⟩, below_set4 (unhide HB) (Nat.le_refl _)⟩
      | n :: m :: F, HG =>
        have HJ' : Hid (joinF k l = nd0 k (n :: m :: F)) := HJ
        go_wp2
        refine bodyPost_ret (v := .agg #[.int .i64 k, .int .i64 0, .string ByteArray.empty, .slice ao (n :: m :: F).length cp]) (by simp [results, Tryz.results120, go_sem, r0, r1, r2, r3]; rfl) rfl ?_
        rw [unhide HJ']
        refine ⟨ao, _, cp, rfl, Kids.set4 ((unhide HG).apart (fun b hb => ⟨hb.1, by omega⟩) (by omega) (by omega)), below_set4 (unhide HB) (Nat.le_refl _)⟩
end Go.Proofs.YtbojcemamhiodaaGreatDoor

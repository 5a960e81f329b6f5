import Derived.Test.YtbojcemamhiodaaGreatDoorTus
import Derived.Test.YtbojcemamhiodaaGreatDoorTxs
import Derived.Test.YtbojcemamhiodaaGreatDoorTvs
import Derived.Test.YtbojcemamhiodaaGreatDoorRho
import Derived.Test.YtbojcemamhiodaaGreatDoorRows
import Derived.ProofKit
import Derived.LaidMore
import Derived.OpenShut
import Derived.Stop.Joined
import Derived.Lib.LaidTab
import Derived.Stop.LaidErr
namespace Go.Proofs.YtbojcemamhiodaaGreatDoor
theorem chrC4 (c : UInt8) (m : Bool) : (chrC c m).length ≤ 4 := by
  unfold chrC
  split
  · simp
  · split <;> simp
theorem wordT4 (l : List UInt8) : (wordT l).length ≤ 4 * l.length + 2 := by
  have key : ∀ l : List UInt8, (l.flatMap fun c => chrC c (isWM c.toNat)).length ≤ 4 * l.length := by
    intro l
    induction l with
    | nil => simp
    | cons c l ih =>
      rw [List.flatMap_cons, List.length_append, List.length_cons]
      have := chrC4 c (isWM c.toNat)
      omega
  have := key l
  unfold wordT
  rw [List.cons_append, List.length_cons, List.length_append, List.length_singleton]
  omega
theorem setT4 (l : List UInt8) (hl : l.length ≤ 400) : (setT l).length ≤ 1700 := by
  have key : ∀ k, (setT0 l k).length ≤ 1 + 4 * k := by
    intro k
    induction k with
    | zero => simp [setT0]
    | succ k ih =>
      rw [setT0]
      split
      · omega
      · rename_i c _
        rw [List.length_append]
        have := chrC4 c (isSM c.toNat)
        split
        · split
          · simp; omega
          · simp; omega
        · omega
  have := key l.length
  unfold setT
  split
  · simp
  · split
    · simp
    · rw [List.length_append]
      simp
      omega
theorem joinB_len (btw : List UInt8) (hb : btw.length ≤ 3) : ∀ xs : List (List UInt8), (joinB btw xs).length ≤ (xs.map fun x => x.length + 3).sum
  | [] => Nat.le_refl _
  | x :: l => by
    have key : ∀ l : List (List UInt8), ((l.map fun y => btw ++ y).flatten).length ≤ (l.map fun x => x.length + 3).sum := by
      intro l
      induction l with
      | nil => simp
      | cons y l ih => rw [List.map_cons, List.flatten_cons, List.length_append, List.map_cons, List.sum_cons, List.length_append]; omega
    have := key l
    rw [joinB, List.length_append, List.map_cons, List.sum_cons]
    omega
theorem wrapT_len (k least : Int) (x : List UInt8) : (wrapT k least x).length ≤ x.length + 2 := by
  unfold wrapT
  split
  · simp
  · omega
theorem bareN_len (n : Nd) : smallN n → (bareN n).length + 10 ≤ 4000 * szN n := by
  refine Nd.ind (P := fun n => smallN n → (bareN n).length + 10 ≤ 4000 * szN n) (fun n ih h => ?_) n
  rw [smallN_iff] at h
  have hj : ∀ btw : List UInt8, btw.length ≤ 3 → ∀ least : Int, (joinB btw (n.kids.map fun m => wrapT m.kind least (bareN m))).length ≤ 4000 * szNL n.kids := by
    intro btw hb least
    refine Nat.le_trans (joinB_len btw hb _) ?_
    have key : ∀ l : List Nd, (∀ m ∈ l, (bareN m).length + 10 ≤ 4000 * szN m) → ((l.map fun m => wrapT m.kind least (bareN m)).map fun x => x.length + 3).sum ≤ 4000 * szNL l := by
      intro l
      induction l with
      | nil => intro _; simp
      | cons m l ih2 =>
        intro hm
        have h1 := hm m (by simp)
        have h2 := wrapT_len m.kind least (bareN m)
        have h3 := ih2 (fun q hq => hm q (by simp [hq]))
        rw [List.map_cons, List.map_cons, List.sum_cons, szNL_cons]
        omega
    exact key n.kids (fun m hm => ih m hm (h.2 m hm))
  have hw := wordT4 n.text.data.toList
  have hz : n.text.data.toList.length ≤ 400 := by
    have := h.1
    simpa using this
  have hs := setT4 n.text.data.toList hz
  rw [bareN_def, szN_def]
  have j0 := hj [] (by simp) 0
  have j1 := hj [] (by simp) 1
  have j2 := hj [] (by simp) 2
  have j5 := hj [32] (by simp) 1
  have j6 := hj [32, 47, 32] (by simp) 0
  unfold kindT
  dsimp only
  by_cases h0 : n.kind = 0
  · rw [if_pos h0]
    omega
  rw [if_neg h0]
  by_cases h1 : n.kind = 1
  · rw [if_pos h1]
    omega
  rw [if_neg h1]
  by_cases h2 : n.kind = 2
  · rw [if_pos h2]
    omega
  rw [if_neg h2]
  by_cases h3 : n.kind = 3
  · rw [if_pos h3]
    simp
    omega
  rw [if_neg h3]
  by_cases h4 : n.kind = 4
  · rw [if_pos h4]
    split
    · rw [List.cons_append, List.length_cons, List.length_append, List.length_singleton]
      omega
    · rw [List.cons_append, List.cons_append, List.cons_append, List.length_cons, List.length_append, List.length_append, List.length_append]
      simp only [List.length_cons, List.length_nil]
      omega
  rw [if_neg h4]
  by_cases h5 : n.kind = 5
  · rw [if_pos h5]
    omega
  rw [if_neg h5]
  by_cases h6 : n.kind = 6
  · rw [if_pos h6]
    omega
  rw [if_neg h6]
  by_cases h7 : n.kind = 7
  · rw [if_pos h7]
    rw [List.length_cons]
    omega
  rw [if_neg h7]
  by_cases h8 : n.kind = 8
  · rw [if_pos h8]
    rw [List.length_cons]
    omega
  rw [if_neg h8]
  by_cases h9 : n.kind = 9
  · rw [if_pos h9]
    rw [List.length_append, List.length_singleton]
    omega
  rw [if_neg h9]
  by_cases h10 : n.kind = 10
  · rw [if_pos h10]
    rw [List.length_append, List.length_singleton]
    omega
  rw [if_neg h10]
  by_cases h11 : n.kind = 11
  · rw [if_pos h11]
    rw [List.length_append, List.length_singleton]
    omega
  rw [if_neg h11]
  simp
  omega
theorem rules_text (T : List Tm) (F : Nat) (rs : List Rl) (h : ∀ (k : Nat) (hk : k < rs.length), termT T F (k : Int) 0 = some (bareN rs[k].body)) : ∀ (l : List Rl) (k : Nat) (acc : List UInt8), rs.drop k = l → rulesA T F acc (l.map fun r => r.name) k = some (acc ++ textN l)
  | [], k, acc, _ => by simp [rulesA, textN]
  | r :: l, k, acc, hd => by
    have hk : k < rs.length := by
      by_cases hk : k < rs.length
      · exact hk
      · rw [List.drop_eq_nil_of_le (by omega)] at hd
        cases hd
    rw [List.drop_eq_getElem_cons hk, List.cons.injEq] at hd
    have h1 := h k hk
    rw [hd.1] at h1
    rw [List.map_cons, rulesA, h1]
    show rulesA T F _ _ _ = _
    rw [rules_text T F rs h l (k + 1) _ hd.2]
    simp [textN]
/-- the text of rules, out of their terms -/
theorem build_rules (rs : List Rl) (F : Nat) (hf : ∀ r ∈ rs, fits F r.body.kids = true) : rulesA (buildF (F + 1) rs) (F + 2) [] (rs.map fun r => r.name) 0 = some (textN rs) := by
  have := rules_text (buildF (F + 1) rs) (F + 2) rs (fun k hk => buildF_text rs (F + 1) (fun r hr => fits_up F _ (hf r hr)) k hk) rs 0 [] rfl
  simpa using this
theorem textN_len (rs : List Rl) (B : Nat) (h : ∀ r ∈ rs, smallN r.body ∧ r.name.size ≤ 400 ∧ szN r.body ≤ B) : (textN rs).length ≤ rs.length * (410 + 4000 * B) := by
  induction rs with
  | nil => simp [textN]
  | cons r l ih =>
    have h1 := h r (by simp)
    have h2 := bareN_len r.body h1.1
    have h3 := ih (fun q hq => h q (by simp [hq]))
    have h4 : r.name.data.toList.length ≤ 400 := by have := h1.2.1; simpa using this
    have h5 : 4000 * szN r.body ≤ 4000 * B := Nat.mul_le_mul_left _ h1.2.2
    have e : textN (r :: l) = r.name.data.toList ++ [32, 60, 45, 32] ++ bareN r.body ++ [10] ++ textN l := by simp [textN]
    rw [e, List.length_cons, Nat.succ_mul]
    simp only [List.length_append, List.length_cons, List.length_nil]
    omega
end Go.Proofs.YtbojcemamhiodaaGreatDoor
namespace Go.Proofs.YtbojcemamhiodaaGreatDoor
open Go.RowKit
/-- a rule's row of a grammar's text -/
def lineG (x : RX) : List UInt8 := x.name.data.toList ++ [32, 60, 45, 32] ++ exB x.ex ++ [10]
def textG (gs : List RX) : List UInt8 := (gs.map lineG).flatten
theorem textG_snoc {gs : List RX} {k : Nat} (hk : k < gs.length) : textG (gs.take (k + 1)) = textG (gs.take k) ++ lineG gs[k] := by
  unfold textG
  rw [show gs.take (k + 1) = gs.take k ++ [gs[k]] by rw [List.take_add_one, List.getElem?_eq_getElem hk]; rfl, List.map_append, List.flatten_append]
  simp
theorem textG_mono (gs : List RX) (k : Nat) : (textG (gs.take k)).length ≤ (textG gs).length := by
  have e : textG gs = textG (gs.take k) ++ textG (gs.drop k) := by
    unfold textG
    rw [← List.flatten_append, ← List.map_append, List.take_append_drop]
  rw [e, List.length_append]
  omega
theorem textG_N (gs : List RX) (ho : ∀ x ∈ gs, OkX x.ex) : textN (rlX gs) = textG gs := by
  unfold textN textG rlX
  rw [List.map_map]
  congr 1
  refine List.map_congr_left fun x hx => ?_
  show x.name.data.toList ++ [32, 60, 45, 32] ++ bareN x.ex.norm ++ [10] = lineG x
  unfold lineG
  rw [exB_norm set_text x.ex (ho x hx)]
set_option maxRecDepth 4000 in
set_option maxHeartbeats 4000000 in
theorem refText_any (w : World) (g : Nat) (nv av ev : Value) (gs : List RX) (hG : GR w g nv av ev gs) (ho : ∀ x ∈ gs, OkX x.ex) (hl : (textG gs).length ≤ 1099511627776) : Calls Tryz.prog 18 #[.pointer (some ⟨g, 0, none⟩)] w (OutS w (textG gs)) := by
  obtain ⟨na, nc, rfl⟩ := hG.names.shape
  obtain ⟨ea, ec, rfl⟩ := hG.exps.shape
  have hfew := hG.names.few
  unfold maxLen at hfew
  obtain ⟨g0, _, g2, hgl⟩ := hG.cells
  have HG := hide hG
  have HOk := hide ho
  clear hG ho
  go_enter Tryz.func18, Tryz.ntmps18
  go_wp2_with fail
  go_loopw [3, 11] (fun t i wr => ∃ k : Nat, k ≤ gs.length ∧ t = .string (bl (textG (gs.take k))) ∧ i = .int .i64 k ∧ Hid (Below w.heap.size w wr)) (fun _ i _ => gs.length - (intOf i).toNat)
  case atStart => exact ⟨0, Nat.zero_le _, rfl, rfl, Below.refl _ _⟩
  case round =>
    obtain ⟨k, hk, rfl, rfl, HB⟩ := hrel
    have hza := bl_size (textG (gs.take k))
    have hmo := textG_mono gs k
    by_cases hk2 : k < gs.length
    · have hki : (k : Int) < gs.length := by omega
      have hk0 : (0 : Int) ≤ (k : Int) := by omega
      have hmem : gs[k] ∈ gs := List.getElem_mem hk2
      have hG1 := (unhide HG).below (unhide HB)
      obtain ⟨b0, _, b2, hbl⟩ := hG1.cells
      obtain ⟨NB, ncap, hnv, _, nc0, nf0, _, _, _, nl0⟩ := hG1.names.at (i := k) (u := .string gs[k].name) (by rw [List.getElem?_map, List.getElem?_eq_getElem hk2]; rfl)
      obtain ⟨EB, ecap, hev, _, ec0, ef0, _, _, _, el0⟩ := hG1.exps.at (i := k) (u := ptrX gs[k].ex) (by rw [List.getElem?_map, List.getElem?_eq_getElem hk2]; rfl)
      injection hnv with hn1 _ hn2
      injection hev with he1 _ he2
      subst hn1
      subst hn2
      subst he1
      subst he2
      have hsn := textG_snoc hk2
      have hmo2 := textG_mono gs (k + 1)
      have hline : (lineG gs[k]).length = gs[k].name.data.toList.length + 4 + (exB gs[k].ex).length + 1 := by unfold lineG; simp only [List.length_append, List.length_cons, List.length_nil]
      have hnz : gs[k].name.size = gs[k].name.data.toList.length := by simp
      rw [hsn, List.length_append, hline, ← hnz] at hmo2
      have HT := hide (text_any gs[k].ex wr (hG1.trees _ hmem) (unhide HOk _ hmem) (by omega))
      have hzy := bl_size (exB gs[k].ex)
      have HV : Hid (bl (textG (gs.take (k + 1))) = bl (textG (gs.take k)) ++ (gs[k].name ++ ⟨#[32, 60, 45, 32]⟩ ++ bl (exB gs[k].ex) ++ ⟨#[10]⟩)) := by
        unfold Hid
        rw [hsn, ← blApp]
        unfold lineG
        rw [← blApp, ← blApp, ← blApp, blSelf]
        rfl
      unfold ptrX at ec0 HT
      generalize gs[k].name = nm at *
      generalize exB gs[k].ex = y at *
      clear hsn hline hnz hG1
      go_wp2_with fail
      go_at_call 28
      refine (unhide HT).mono ?_
      rintro e1 w2 ⟨rfl, hb2⟩
      have HB2 := hide ((unhide HB).trans (hb2.mono (unhide HB).size))
      clear hb2
      go_wp2_with fail
      go_roundw
      case rel => exact ⟨k + 1, by omega, by rw [unhide HV], by go_num, HB2⟩
      case measure => simp [intOf]; omega
    · have hki : ¬ (k : Int) < gs.length := by omega
      have hke : k = gs.length := by omega
      have HV : Hid (textG (gs.take k) = textG gs) := by unfold Hid; rw [hke, List.take_length]
      clear hke
      go_wp2
      go_ret
      exact ⟨by rw [← unhide HV]; rfl, unhide HB⟩
end Go.Proofs.YtbojcemamhiodaaGreatDoor
namespace Go.Proofs.YtbojcemamhiodaaGreatDoor
open Go.RowKit
/-- what Texts wants of rules -/
theorem text_facts {s : ByteArray} {gs : List RX} {F : Nat} (hrl : rlX gs = (parseF s).rules) (hlz : lawX gs = (0, 0)) (hrg : ReadG gs) (hD : DeepF F (parseF s).rules) :
    (∀ t ∈ buildF (F + 1) (parseF s).rules, t.text.size ≤ 400) ∧ ((parseF s).rules.map fun r => r.name).length ≤ 100000 ∧ rulesA (buildF (F + 1) (parseF s).rules) (F + 2) [] ((parseF s).rules.map fun r => r.name) 0 = some (textG gs) ∧ (textG gs).length ≤ 1099511627776 := by
  have hlen : gs.length ≠ 0 ∧ gs.length ≤ 12 := by
    by_cases h12 : gs.length = 0 ∨ 12 < gs.length
    · unfold lawX at hlz
      rw [if_pos h12] at hlz
      simp at hlz
    · omega
  have hs : s.size ≤ 400 := by
    by_cases h400 : 400 < s.size
    · rw [show parseF s = ⟨1, [], 0⟩ from if_pos h400] at hrl
      have : (rlX gs).length = 0 := by rw [hrl]; rfl
      rw [rlX_len] at this
      omega
    · omega
  have hsm := parse_small hs
  have hok := parseF_ok s
  have hrn : (parseF s).rules.length = gs.length := by rw [← hrl, rlX_len]
  have htN : textN (parseF s).rules = textG gs := by rw [← hrl, textG_N gs hrg.ok]
  have hl := textN_len (parseF s).rules 801 (fun r hr => ⟨(hsm r hr).1, (hsm r hr).2, by have := (hok r hr).size; omega⟩)
  rw [htN, hrn] at hl
  refine ⟨build_small _ _ (fun r hr => (hsm r hr).1), by rw [List.length_map]; omega, ?_, ?_⟩
  · rw [← htN]
    exact build_rules _ F hD
  · have : gs.length * (410 + 4000 * 801) ≤ 12 * (410 + 4000 * 801) := Nat.mul_le_mul_right _ hlen.2
    omega
end Go.Proofs.YtbojcemamhiodaaGreatDoor
namespace Go.Proofs.YtbojcemamhiodaaGreatDoor
open Go.ChangeShapes Go.WideShapes Go.ChangeAt Go.RowKit

def deB : List Int := [0, 1, 56, 2, 57, 49, 28, 3, 61, 58, 42, 50, 38, 29, 17, 4, 62, 47, 59, 36, 45, 43, 51, 22, 53, 39, 33, 30, 24, 18, 12, 5, 63, 55, 48, 27, 60, 41, 37, 16, 46, 35, 44, 21, 52, 32, 23, 11, 54, 26, 40, 15, 34, 20, 31, 10, 25, 14, 19, 9, 13, 8, 7, 6]
set_option maxRecDepth 100000 in
/-- what the condition gives: the one cell that FormatInt reads -/
theorem tab_of {W : World} (h : laidMetH Tryz.prog Rows.textsRow.laid W) : Tab W := by
  rw [MakeChecks.laidMetH_plain _ _ _ (by kernel_rfl)] at h
  have h2 := laidMet.tail h
  have h3 := Lib.tabIs_of_head (k := .u8) (zs := deB) (g := 2) (t := 203) (e := 5) (n := 64) (by kernel_rfl) (by kernel_rfl) Tryz.underlying203 Tryz.underlying5 (by kernel_rfl) (by kernel_rfl) h2
  have h4 := h3.cell (g := 2) (by kernel_rfl) 15 (by decide)
  refine ⟨h4, ?_⟩
  rcases Nat.lt_or_ge 2 W.heap.size with h5 | h5
  · exact h5
  · rw [World.cell?, Array.getElem?_eq_none h5] at h4
    cases h4
end Go.Proofs.YtbojcemamhiodaaGreatDoor

import Derived.Test.YtbojcemamhiodaaGreatDoorRule
import Derived.Test.YtbojcemamhiodaaGreatDoorRecD
namespace Go.Proofs.YtbojcemamhiodaaGreatDoor
open Go.RowKit

theorem expr_all (q : Nat) (s : ByteArray) (hs : s.size ≤ 400) : ∀ (n : Nat) (d : Int), 13 ≤ n + d → 0 ≤ d → d ≤ 12 → SaidE s q (exprN s n) d
  | 0, d, h, _, h2 => by omega
  | n + 1, d, h, h1, h2 => by
    have hF : d < 12 → FineE s (exprN s n) (d + 1) := fun hd => exprN_fine n (d + 1) (by omega) (by omega)
    have hE : d < 12 → SaidE s q (exprN s n) (d + 1) := fun hd => expr_all q s hs n (d + 1) (by omega) (by omega) (by omega)
    have hR : SaidR s q (exprN s n) d := fun w t ht h2' hp => repeated_any w q s t d _ hs ht h2' hp h1 h2 hF hE
    have hI : SaidI s q (exprN s n) d := fun w t ht h2' hp => item_any q s d _ hs hR (s.size + 1) t w ht h2' (by have := ht.from0; omega) hp
    have hW : SaidW s q (exprN s n) d := fun w t ht hp => row_any w q s t d _ hs ht hp hF hI
    exact fun w t ht hp => expression_any w q s t d _ hs ht hp hF hW

structure PRes where
  err : Int
  rules : List Rl
  at_ : Int

def parseL (s : ByteArray) : Nat → List Rl → Tk → PRes
  | 0, _, t => ⟨2, [], t.from_⟩
  | k + 1, acc, t => if t.k = 1 then ⟨0, acc, 0⟩ else if (ruleF s t).err ≠ 0 then ⟨(ruleF s t).err, [], (ruleF s t).tk.from_⟩ else parseL s k (acc ++ [(ruleF s t).rl]) (ruleF s t).tk
def parseF (s : ByteArray) : PRes := if 400 < s.size then ⟨1, [], 0⟩ else parseL s (s.size + 2) [] (nextT s 0)

theorem parseL_end {s : ByteArray} {k : Nat} {acc : List Rl} {t : Tk} (h : t.k = 1) : parseL s (k + 1) acc t = ⟨0, acc, 0⟩ := by rw [parseL, if_pos h]
theorem parseL_err {s : ByteArray} {k : Nat} {acc : List Rl} {t : Tk} {r : RRes} (h : t.k ≠ 1) (hr : ruleF s t = r) (he : r.err ≠ 0) : parseL s (k + 1) acc t = ⟨r.err, [], r.tk.from_⟩ := by rw [parseL, if_neg h, hr, if_pos he]
theorem parseL_ok {s : ByteArray} {k : Nat} {acc : List Rl} {t : Tk} {r : RRes} (h : t.k ≠ 1) (hr : ruleF s t = r) (he : r.err = 0) : parseL s (k + 1) acc t = parseL s k (acc ++ [r.rl]) r.tk := by rw [parseL, if_neg h, hr, if_neg (by omega)]

theorem ruleF_fine {s : ByteArray} {t : Tk} (ht : TkOk s t) : TkOk s (ruleF s t).tk ∧ ((ruleF s t).err = 0 → t.from_ < (ruleF s t).tk.from_ ∧ (ruleF s t).d = 0) := by
  have hn := ht.next
  have hn2 := hn.1.next
  unfold ruleF
  split
  · exact ⟨ht, fun h => by simp at h⟩
  · rename_i h2
    have hlt := ht.lt (by omega)
    split
    · exact ⟨hn.1, fun h => by simp at h⟩
    · have hf := exprN_fine (s := s) 13 0 (by omega) (by omega) _ hn2.1
      have hg := hf.ge
      have hl := hn.1.le
      unfold ruleEnd
      split
      · rename_i he
        exact ⟨hf.tk, fun h => absurd h he⟩
      · rename_i he
        exact ⟨hf.tk, fun _ => ⟨by show t.from_ < (exprN s 13 _ 0).tk.from_; omega, hf.dep (by omega)⟩⟩

theorem GrowR.lower {w : World} {lo lo' : Nat} {v : Value} {ts : List Rl} (h : GrowR w lo v ts) (hl : lo' ≤ lo) : GrowR w lo' v ts :=
  let ⟨n, xs, h1, h2⟩ := h
  ⟨n, xs, (RowIn.of_owns h1).turn (S' := fun b => lo' ≤ b) fun b hb _ => ⟨Nat.le_trans hl hb, rfl⟩, Cells8.imp (fun _ _ r => r.turn fun b hb _ => ⟨⟨by omega, hb.2⟩, rfl⟩) h2⟩

theorem but_below {q n : Nat} {a b : World} (h : But q a b) (hq : n ≤ q) (hn : n ≤ a.heap.size) : Below n a b :=
  ⟨h.os, h.tape, h.output, h.size, fun k hk => h.block k (by omega) (by omega)⟩
theorem below_drewN {n : Nat} {a b : World} (h : Below n a b) (k : Nat) : Below n a (b.drewN k) := ⟨h.os, h.tape, h.output, h.size, h.block⟩
theorem ps_new (w1 : World) (o : Obj) (s : ByteArray) (t : Tk) :
    Ps ((w1.alloc o).alloc (.cells #[.string s, .int .i64 t.k, .int .i64 t.from_, .int .i64 t.to, .int .i64 0] 115)) (w1.heap.size + 1) s t 0 := by
  have h := heap_alloc_new (w1.alloc o) (.cells #[.string s, .int .i64 t.k, .int .i64 t.from_, .int .i64 t.to, .int .i64 0] 115)
  rw [show (w1.alloc o).heap.size = w1.heap.size + 1 from by simp] at h
  exact h

def OutP (w : World) (r : PRes) (e : Ending) (w' : World) : Prop :=
  ∃ ao cp, e = .returned (.tuple #[.slice ao r.rules.length cp, .int .i64 r.err, .int .i64 r.at_]) ∧ GrowR w' w.heap.size (.slice ao r.rules.length cp) r.rules ∧ Below w.heap.size w w'

set_option maxHeartbeats 2000000 in
theorem parse_any (w : World) (s : ByteArray) (hs0 : s.size ≤ 4611686018427387904) :
    Calls Tryz.prog 32 #[.string s] w (OutP w (parseF s)) := by
  by_cases h400 : 400 < s.size
  · have HR : Hid (parseF s = ⟨1, [], 0⟩) := if_pos h400
    go_enter Tryz.func32, Tryz.ntmps32
    go_wp2
    go_ret3
    rw [unhide HR]
    exact ⟨none, 0, rfl, GrowR.nil _ _, Below.refl _ _⟩
  · have hs : s.size ≤ 400 := by omega
    have HR : Hid (parseF s = parseL s (s.size + 2) [] (nextT s 0)) := if_neg h400
    have hn0 := nextT_ok s 0 (by omega) (by omega)
    clear h400
    go_enter Tryz.func32, Tryz.ntmps32
    go_wp2_with fail
    go_at_call 52
    refine (next_any _ _ _ hs (by omega) (by omega)).mono ?_
    rintro e w1 ⟨rfl, hb1⟩
    have hz1 := hb1.size
    go_wp2_with fail
    have hP0 := hide (show Ps ((w1.alloc (.cells #[.int .i64 (nextT s 0).k, .int .i64 (nextT s 0).from_, .int .i64 (nextT s 0).to] 112)).alloc (.cells #[.string s, .int .i64 (nextT s 0).k, .int .i64 (nextT s 0).from_, .int .i64 (nextT s 0).to, .int .i64 0] 115)) (w1.heap.size + 1) s (nextT s 0) 0 from ps_new _ _ _ _)
    go_loopw [7] (fun v wr => ∃ (k : Nat) (acc : List Rl) (t' : Tk) (ao : Option Addr) (cp : Nat), v = .slice ao acc.length cp ∧ Hid (parseF s = parseL s k acc t') ∧ TkOk s t' ∧ (s.size : Int) + 1 < k + t'.from_ ∧ (acc.length : Int) ≤ t'.from_ ∧
        Hid (GrowR wr (w1.heap.size + 2) (.slice ao acc.length cp) acc) ∧ Hid (Ps wr (w1.heap.size + 1) s t' 0) ∧ Hid (Below w.heap.size w wr)) (fun _ wr => (s.size - fromIn0 (w1.heap.size + 1) wr).toNat)
    case atStart =>
      exact ⟨s.size + 2, [], nextT s 0, none, 0, rfl, HR, hn0.1, by have := hn0.1.from0; omega, hn0.1.from0, GrowR.nil _ _, hP0, (hb1.alloc (by omega) _).alloc (by simp; omega) _⟩
    case round =>
      obtain ⟨k, acc, t', ao, cp, rfl, HS, hok, hfu, hal, HG, HP, HB⟩ := hrel
      obtain ⟨k, rfl⟩ : ∃ m, k = m + 1 := ⟨k - 1, by have := hok.le; have := hok.size; omega⟩
      obtain ⟨c0, c1, c2, c3, c4⟩ := (unhide HP).cells
      have hltr := (unhide HP).lt
      by_cases h1 : t'.k = 1
      · have b1 : (t'.k != 1) = false := by simpa using h1
        have HE := hide ((unhide HS).trans (parseL_end h1))
        clear h1
        go_wp2
        go_ret3
        rw [unhide HE]
        exact ⟨ao, cp, rfl, (unhide HG).lower (by omega), unhide HB⟩
      · have b1 : (t'.k != 1) = true := by simpa using h1
        have hf := ruleF_fine hok
        have HY := hide (fun r => parseL_ok (s := s) (k := k) (acc := acc) (t := t') (r := r) h1)
        have HX := hide (fun r => parseL_err (s := s) (k := k) (acc := acc) (t := t') (r := r) h1)
        clear h1
        go_wp2_with fail
        go_at_call 53
        refine (rule_any _ _ _ _ hs hok (unhide HP) (expr_all _ _ hs 13 0 (by omega) (by omega) (by omega))).mono ?_
        generalize hr : ruleF s t' = r at hf ⊢
        have Hr := hide hr
        clear hr
        rintro e w3 ⟨ao3, nk3, cp3, rfl, hk3, hp3, hb3⟩
        have hz3 := hb3.size
        have hB3 := hide ((unhide HB).trans (but_below hb3 (n := w.heap.size) (by omega) (by have := (unhide HB).size; omega)))
        clear c0 c1 c2 c3 c4
        by_cases he : r.err ≠ 0
        · have b2 : (r.err != 0) = true := by simpa using he
          have HE := hide ((unhide HS).trans (unhide HX r (unhide Hr) he))
          obtain ⟨c0, c1, c2, c3, c4⟩ := hp3.cells
          have hlt3 := hp3.lt
          clear he
          go_wp2_with fail
          go_quiet (fail)
          go_wp2
          go_ret3
          rw [unhide HE]
          exact ⟨none, 0, rfl, GrowR.nil _ _, below_drewN ((unhide hB3).alloc (by have := (unhide hB3).size; omega) _) _⟩
        · have b2 : (r.err != 0) = false := by simpa using he
          have he' : r.err = 0 := by omega
          have HE := hide ((unhide HS).trans (unhide HY r (unhide Hr) he'))
          obtain ⟨htk, hf2⟩ := hf
          obtain ⟨hfl, hd⟩ := hf2 he'
          rw [hd] at hp3
          clear he he' hd
          have hG3 := hide (((unhide HG).keeps (hb3.keeps (by omega))).keeps ((Keeps.refl _ _).alloc (Nat.le_refl _) (.cells #[.string r.rl.name, .int .i64 r.rl.at_, .int .i64 r.rl.body.kind, .int .i64 r.rl.body.at_, .string r.rl.body.text, .slice ao3 nk3 cp3, .bool r.rl.empty, .int .i64 r.rl.begins] 120)))
          have hK3 := hide (hk3.keeps (lo' := _) ((Keeps.refl _ _).alloc (Nat.le_refl _) (.cells #[.string r.rl.name, .int .i64 r.rl.at_, .int .i64 r.rl.body.kind, .int .i64 r.rl.body.at_, .string r.rl.body.text, .slice ao3 nk3 cp3, .bool r.rl.empty, .int .i64 r.rl.begins] 120)) (Nat.le_refl _))
          have hown := hide ((unhide HG).own_lt)
          go_wp2_with (first | (at_builtin; refine wpList_append_rl rfl (.tmp 32) (.tmp 34) rfl (w1.heap.size + 2) (.slice ao acc.length cp) acc rfl r.rl ao3 nk3 cp3 (by have := hok.le; have := hok.size; omega) _ (unhide hG3) (unhide hK3) (by omega) (fun k hk => by have := (unhide hown k hk).2; omega) (by simp; omega) _ (by simp) rfl ?_) | go_in)
          intro v' w4 hG4 hgr
          obtain ⟨ao4, cp4, hv4⟩ := hG4.shape
          subst hv4
          have hown' := unhide hown
          have hB4 := hide (((unhide hB3).alloc (by have := (unhide hB3).size; omega) _).grown hgr (by have := (unhide hB3).size; simp; omega) (fun k hk => by have := (hown' k hk).1; omega))
          have hP4 : Hid (Ps w4 (w1.heap.size + 1) s r.tk 0) := grown_keep hgr (hp3.alloc _) (fun k hk => by have := (hown' k hk).1; omega)
          have hG4' := hide hG4
          clear hG4 hgr hown'
          go_wp2_with fail
          go_roundw
          case rel => exact ⟨k, acc ++ [r.rl], r.tk, ao4, cp4, by simp, HE, htk, by omega, by simp; omega, hG4', hP4, hB4⟩
          case measure => rw [(unhide hP4).fromIn0, (unhide HP).fromIn0]; have := hok.size; have := htk.size; have := htk.le; omega
end Go.Proofs.YtbojcemamhiodaaGreatDoor

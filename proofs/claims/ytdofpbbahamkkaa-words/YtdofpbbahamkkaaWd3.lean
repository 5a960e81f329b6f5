import Derived.Test.YtdofpbbahamkkaaRows
import Derived.Test.YtdofpbbahamkkaaKps
import Derived.Test.YtdofpbbahamkkaaWrd
import Derived.Test.YtdofpbbahamkkaaMat
import Derived.ProofKit
import Derived.ChangeMaps5
namespace Go.Proofs.Ytdofpbbahamkkaa
open Go.ChangeShapes Go.WideShapes Go.ChangeAt Go.RowKit Go.ChangeMaps

theorem bl_app (a b : List UInt8) : bl a ++ bl b = bl (a ++ b) := by
  apply ByteArray.ext
  rw [ByteArray.data_append]
  simp [bl]
theorem abcC_plain (c : UInt8) : isPlain (abcC c) = true := by
  have key : ∀ n : Nat, n < 3 → isPlain (UInt8.ofNat (97 + n)) = true := by decide +kernel
  exact key _ (by omega)
theorem abcL_plain (l : List UInt8) : (abcL l).all isPlain = true := by
  rw [List.all_eq_true]
  intro c hc
  unfold abcL at hc
  obtain ⟨b, _, rfl⟩ := List.mem_map.1 hc
  exact abcC_plain b
theorem abcT_plain (l : List UInt8) (n : Nat) : ((abcL l).take n).all isPlain = true := by
  rw [List.all_eq_true]
  intro c hc
  exact List.all_eq_true.1 (abcL_plain l) c (List.mem_of_mem_take hc)
theorem ask_text (u v w : List UInt8) : askW u v w = bl (textW u v w) := by
  unfold askW
  rw [show (⟨#[114, 32, 60, 45, 32, 40, 39]⟩ : ByteArray) = bl [114, 32, 60, 45, 32, 40, 39] from rfl, show (⟨#[39, 32, 47, 32, 39]⟩ : ByteArray) = bl [39, 32, 47, 32, 39] from rfl, show (⟨#[39, 41, 32, 39]⟩ : ByteArray) = bl [39, 41, 32, 39] from rfl, show (⟨#[39]⟩ : ByteArray) = bl [39] from rfl]
  simp only [bl_app]
  congr 1
  simp [textW]
theorem words_ask (W : World) (u v w s : List UInt8) (hu : u.all isPlain = true) (hv : v.all isPlain = true) (hw : w.all isPlain = true) (hlu : u.length ≤ 5) (hlv : v.length ≤ 5) (hlw : w.length ≤ 5) (hls : s.length ≤ 60) :
    Calls Try.prog 12 #[.string (askW u v w), .string (bl s), .int .i64 0, .int .i64 (toW s u v w), .string ⟨#[]⟩] W fun e w' => e = .returned (.bool true) ∧ Below W.heap.size W w' := by
  rw [ask_text]
  have hlen : (textW u v w).length = 17 + u.length + v.length + w.length := by simp [textW]; omega
  have hz : ∀ l : List UInt8, l.length ≤ 5 → (bl l).size ≤ 400 := fun l h => by rw [bl_size]; omega
  refine matches_any W _ _ 0 _ 3 3 3 _ (by rw [bl_size, hlen]; omega) (compile_words u v w hu hv hw (by omega)) (by rw [parse_words u v w hu hv hw (by omega)]; exact build_words u v w) (by simp) ?_ (by rw [bl_size]; omega) (by omega) (by omega) (match_words s u v w)
  intro t ht
  simp only [List.mem_cons, List.not_mem_nil, or_false] at ht
  rcases ht with rfl | rfl | rfl | rfl | rfl
  · simp
  · exact hz u hlu
  · exact hz v hlv
  · simp
  · exact hz w hlw
theorem words_any (W : World) (a b c d : ByteArray) (ha : a.size ≤ 9223372036854775807) (hb : b.size ≤ 9223372036854775807) (hc : c.size ≤ 9223372036854775807) (hd : d.size ≤ 9223372036854775807) :
    Calls Try.prog 5 #[.string a, .string b, .string c, .string d] W fun e w' => e = .returned (.bool true) ∧ Below W.heap.size W w' := by
  have h5 : ∀ l : List UInt8, (l.take 5).length ≤ 5 := fun l => by simp; omega
  exact words_walk W a b c d ha hb hc hd _ _ _ _ rfl rfl rfl rfl (h5 _) (h5 _) (h5 _) (abcL_len _) (fun W => words_ask W _ _ _ _ (abcT_plain _ 5) (abcT_plain _ 5) (abcT_plain _ 5) (h5 _) (h5 _) (h5 _) (abcL_len _))

theorem own0 : ownKnob Try.prog.godebug = none := by kernel_rfl

set_option maxRecDepth 100000 in
theorem words_lifted (os : Os) (started : os.Started) (H : Type) (enc : TypeId × Value → H) :
    ReturnsInHanded {} Try.checked os 5 .any (Rows.wordsSpec.pre6 enc Try.prog Try.f5 Rows.wordsRow.domain false) (Rows.wordsSpec.post enc Try.prog Try.f5 false true false false) := by
  refine returnsInHanded_of_change (C := Try.checked) own0 started (by kernel_rfl) Try.func5
    (ChangeSpec.witness6 (enc := enc) (C := Try.checked) false ⟨#[], #[.string ⟨#[]⟩, .string ⟨#[]⟩, .string ⟨#[]⟩, .string ⟨#[]⟩], []⟩ 8 (by kernel_rfl) (by kernel_rfl) (by kernel_rfl) (by kernel_rfl)) ?_
  intro W base args ds gs before hval0 hW hcnd _
  have hval : ∀ (j : Nat) t v, Try.f5.params[j]? = some t → args[j]? = some v → Value.okWide Try.prog W .any base t v := hval0
  have hW' := hW
  obtain ⟨p, q, hA0, hV, rfl, hfz, hnd⟩ := hW
  have hA : DataW.TrodAll enc Try.prog W 0 (fun _ => true) true Try.f5.params.toList args.toList ds p := hA0
  rw [Try.params5] at hA hval
  obtain ⟨v0, v1, v2, v3, d0, d1, d2, d3, p0, p1, p2, p3, rfl, rfl, rfl, h0, h1, h2, h3⟩ := trodAll_four hA
  obtain ⟨rfl, rfl⟩ := trodVars_none hV
  obtain ⟨a, rfl, rfl, rfl, wa⟩ := open_string Try.underlying9 (hval 0 9 v0 rfl rfl) h0
  obtain ⟨b, rfl, rfl, rfl, wb⟩ := open_string Try.underlying9 (hval 1 9 v1 rfl rfl) h1
  obtain ⟨c, rfl, rfl, rfl, wc⟩ := open_string Try.underlying9 (hval 2 9 v2 rfl rfl) h2
  obtain ⟨d, rfl, rfl, rfl, wd⟩ := open_string Try.underlying9 (hval 3 9 v3 rfl rfl) h3
  clear hA0 hval0
  simp only [List.append_nil] at hW'
  have hmax : maxLen ≤ 9223372036854775807 := by decide
  refine (words_any W a b c d (by omega) (by omega) (by omega) (by omega)).mono fun e W' ⟨he, hB⟩ => ?_
  subst he
  refine ⟨_, rfl, _, _, _, [], [], [], hW', ?_, ?_, ?_, hB.frame _, fun h => by cases h⟩
  · exact trodAll_mk1 (shut_bool Try.underlying4 true)
  · exact trodAll_mk4 (shut_string Try.underlying9 wa) (shut_string Try.underlying9 wb) (shut_string Try.underlying9 wc) (shut_string Try.underlying9 wd)
  · rfl

theorem words_said : Rows.WordsSaid :=
  OpenClaim.holds_of_wide 5 Try.f5 rfl rfl rfl rfl rfl rfl rfl ⟨rfl, rfl, rfl, rfl, rfl⟩ rfl rfl rfl rfl rfl (by kernel_rfl) Try.func5 (by kernel_rfl)
    (of_decide_eq_true (by kernel_rfl)) (by unfold Func.isWrapper; first | (rw [if_pos (by decide +kernel)]; kernel_rfl) | (rw [if_neg (by decide +kernel)]; exact ⟨rfl, rfl⟩))
    (fun os started H enc _ => words_lifted os started H enc)
end Go.Proofs.Ytdofpbbahamkkaa

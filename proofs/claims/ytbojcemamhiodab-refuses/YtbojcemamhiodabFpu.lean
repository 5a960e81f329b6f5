import Derived.Test.YtbojcemamhiodabBld
namespace Go.Proofs.Ytbojcemamhiodab
open Go.RowKit

def longK : Nat → ByteArray
  | 0 => ⟨#[97, 32, 60, 45, 32, 39, 120, 39]⟩
  | k + 1 => longK k ++ ⟨#[32]⟩
theorem longK_size : ∀ k, (longK k).size = 8 + k
  | 0 => rfl
  | k + 1 => by rw [longK, ByteArray.size_append, longK_size k]; rfl
def numB (k : Nat) : ByteArray := if k < 10 then ⟨#[dg k]⟩ else if k = 10 then ⟨#[dg 1]⟩ ++ ⟨#[48]⟩ else ⟨#[dg 1]⟩ ++ ⟨#[49]⟩
theorem number_any (k : Nat) (w : World) (h : k < 12) :
    Calls Try.prog 7 #[.int .i64 k] w fun e w' => e = .returned (.string (numB k)) ∧ Below w.heap.size w w' := by
  unfold numB
  by_cases h1 : k < 10
  · rw [if_pos h1]; exact number_small k w h1
  · by_cases h2 : k = 10
    · subst h2; exact number_10 w
    · have h3 : k = 11 := by omega
      subst h3; exact number_11 w
def manyK : Nat → ByteArray
  | 0 => ⟨#[]⟩
  | k + 1 => manyK k ++ (⟨#[114]⟩ ++ numB k ++ ⟨#[32, 60, 45, 32, 39, 120, 39, 10]⟩)

def deepK : Nat → ByteArray
  | 0 => ⟨#[97, 32, 60, 45, 32]⟩
  | k + 1 => deepK k ++ (if k % 2 = 0 then (⟨#[40, 123]⟩ : ByteArray).extract 0 1 else (⟨#[40, 123]⟩ : ByteArray).extract 1 2)
def closedK : Nat → ByteArray
  | 0 => ⟨#[]⟩
  | j + 1 => closedK j ++ (if j % 2 = 0 then (⟨#[41, 125]⟩ : ByteArray).extract 1 2 else (⟨#[41, 125]⟩ : ByteArray).extract 0 1)
theorem deepK_size : ∀ k, (deepK k).size = 5 + k
  | 0 => rfl
  | k + 1 => by
    have h1 : ((⟨#[40, 123]⟩ : ByteArray).extract 0 1).size = 1 := rfl
    have h2 : ((⟨#[40, 123]⟩ : ByteArray).extract 1 2).size = 1 := rfl
    rw [deepK, ByteArray.size_append, deepK_size k]
    split
    · rw [h1]; omega
    · rw [h2]; omega
theorem closedK_size : ∀ k, (closedK k).size = k
  | 0 => rfl
  | k + 1 => by
    have h1 : ((⟨#[41, 125]⟩ : ByteArray).extract 0 1).size = 1 := rfl
    have h2 : ((⟨#[41, 125]⟩ : ByteArray).extract 1 2).size = 1 := rfl
    rw [closedK, ByteArray.size_append, closedK_size k]
    split
    · rw [h2]
    · rw [h1]
theorem numB_size (k : Nat) : (numB k).size ≤ 2 := by
  unfold numB
  split
  · exact (by decide : 1 ≤ 2)
  · split
    · rw [ByteArray.size_append]; exact (by decide : 1 + 1 ≤ 2)
    · rw [ByteArray.size_append]; exact (by decide : 1 + 1 ≤ 2)
theorem manyK_size : ∀ k, (manyK k).size ≤ 20 * k
  | 0 => Nat.le_refl _
  | k + 1 => by
    have h1 := manyK_size k
    have h2 := numB_size k
    have h3 : (⟨#[114]⟩ : ByteArray).size = 1 := rfl
    have h4 : (⟨#[32, 60, 45, 32, 39, 120, 39, 10]⟩ : ByteArray).size = 8 := rfl
    rw [manyK, ByteArray.size_append, ByteArray.size_append, ByteArray.size_append, h3, h4]
    omega

theorem longK_eq : longK 392 = longB := by decide +kernel
theorem manyK_eq : manyK 12 = manyB := by decide +kernel
theorem deepK_eq : deepK 12 = deepB := by decide +kernel
theorem closedK_eq : closedK 12 = closedB := by decide +kernel

def flat3 (l : List (ByteArray × Int × Int)) : List Value := l.flatMap fun x => [.string x.1, .int .i64 x.2.1, .int .i64 x.2.2]
theorem cells_tbl : cellsT longB manyB deepB closedB = flat3 tbl := by kernel_rfl
theorem flat3_at : ∀ (l : List (ByteArray × Int × Int)) (k : Nat) (x : ByteArray × Int × Int), l[k]? = some x →
    (flat3 l)[k * 3]? = some (.string x.1) ∧ (flat3 l)[k * 3 + 1]? = some (.int .i64 x.2.1) ∧ (flat3 l)[k * 3 + 2]? = some (.int .i64 x.2.2)
  | [], k, x, h => by simp at h
  | y :: l, 0, x, h => by
    simp at h; subst h
    exact ⟨rfl, rfl, rfl⟩
  | y :: l, k + 1, x, h => by
    obtain ⟨h0, h1, h2⟩ := flat3_at l k x (by simpa using h)
    have e : flat3 (y :: l) = [.string y.1, .int .i64 y.2.1, .int .i64 y.2.2] ++ flat3 l := rfl
    rw [e, show (k + 1) * 3 = k * 3 + 3 from by omega]
    refine ⟨?_, ?_, ?_⟩
    · rw [List.getElem?_append_right (by simp)]; simpa using h0
    · rw [List.getElem?_append_right (by simp)]; simpa using h1
    · rw [List.getElem?_append_right (by simp)]; simpa using h2

theorem out_faults {w w' : World} {L M D C : ByteArray} (hL : L = longK 392) (hM : M = manyK 12) (hD : D = deepK 12) (hC : C = closedK 12) (hb : Below w.heap.size w w') :
    OutF w (.returned (.slice (some ⟨w'.heap.size, 0, none⟩) 80 80)) (w'.alloc (.cells (cellsT L M D C).toArray 26)) := by
  refine ⟨w'.heap.size, rfl, by simp, hb.alloc hb.size _, ?_⟩
  intro k x hx
  have hn := heap_alloc_new w' (.cells (cellsT L M D C).toArray 26)
  have hc : ∀ o, (w'.alloc (.cells (cellsT L M D C).toArray 26)).cell? ⟨w'.heap.size, o, none⟩ = (flat3 tbl)[o]? := by
    intro o
    subst hL hM hD hC
    rw [longK_eq, manyK_eq, deepK_eq, closedK_eq] at *
    rw [cells_tbl] at *
    simp only [World.cell?, hn]
    simp
  rw [hc, hc, hc]
  exact flat3_at tbl k x hx
end Go.Proofs.Ytbojcemamhiodab

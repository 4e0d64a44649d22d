/- Plain facts of ranges as text: what has a span is written with two signs at least. No condition. -/
import Derived.Test.YtflmljgmmcdniaaImtext
import Derived.Test.YtflmljgmmcdniaaPsm
namespace Go.Proofs.Ytflmljgmmcdniaa
open Go.RowKit Go.Sort

theorem rkT_long {r : Int} (h0 : 0 ≤ r) (h1 : r ≤ 9999999) : 2 ≤ (rkT r).size := by
  have hv : vOk (r / 10 / 10000) (r / 10 / 100 % 100) (r / 10 % 100) ((r % 10 + 1) % 10) = true := vOk_iff.2 (by omega)
  have e1 : (⟨#[46]⟩ : ByteArray).size = 1 := rfl
  unfold rkT vText
  rw [if_pos hv]
  unfold txt core
  split <;> simp only [ByteArray.size_append] <;> omega
theorem spT_long {x y : Int} (h0 : 0 ≤ x) (h1 : x ≤ 9999999) : 2 ≤ (spT x y).size := by
  have := rkT_long h0 h1
  unfold spT
  split
  · exact this
  · simp only [ByteArray.size_append]; omega
theorem rngT_long : ∀ (t : List (Int × Int)) (s : ByteArray), 2 ≤ s.size → 2 ≤ (rngT t s).size
  | [], _, h => h
  | (x, y) :: t, s, h => by
    unfold rngT
    exact rngT_long t _ (by simp only [ByteArray.size_append]; omega)
theorem textR_long {x y : Int} {t : List (Int × Int)} (h : spOk ((x, y) :: t) = true) : 2 ≤ (textR ((x, y) :: t)).size := by
  obtain ⟨⟨h1, h2, h3, _⟩, _⟩ := spOk_iff.1 h
  unfold textR
  rw [if_pos h]
  exact rngT_long _ _ (spT_long h1 (by omega))
theorem long_facts {s : ByteArray} (h : 2 ≤ s.size) : (s.toList == ([] : List UInt8)) = false ∧ (s.toList == ([45] : List UInt8)) = false ∧ (s.toList == s.toList) = true ∧ s.toList ≠ [] := by
  have hl : s.toList.length = s.size := by rw [ByteArray.toList_eq]; simp
  refine ⟨?_, ?_, by simp, ?_⟩
  · rw [beq_eq_false_iff_ne]
    intro e
    rw [e] at hl
    simp at hl
    omega
  · rw [beq_eq_false_iff_ne]
    intro e
    rw [e] at hl
    simp at hl
    omega
  · intro e
    rw [e] at hl
    simp at hl
    omega
theorem rngOk_is {v : Value} {L : List (Int × Int)} {w : World} (hl : L.length ≤ 1048576) (h : SpAt w w.heap.size v L) :
    Calls Try.prog 24 #[.agg #[v]] w fun e w' => e = .returned (.bool (spOk L)) ∧ Below w.heap.size w w' := by
  obtain ⟨a, cap, rfl, hc⟩ := h
  exact implRangeOk_any a cap L w hl ⟨a, cap, rfl, hc⟩
theorem srngOk_is {v : Value} {L : List (Int × Int)} {w : World} (hl : L.length ≤ 1048576) (h : SpAt w w.heap.size v L) :
    Calls Try.prog 25 #[.agg #[v]] w fun e w' => e = .returned (.bool (spOk L)) ∧ Below w.heap.size w w' := by
  obtain ⟨a, cap, rfl, hc⟩ := h
  exact specRangeOk_any a cap L w hl ⟨a, cap, rfl, hc⟩

end Go.Proofs.Ytflmljgmmcdniaa

/- What the model's search keeps from name to name, as plain facts, and what it answers. No condition. -/
import Derived.Test.YtgenjbeamlffmaaSvn
import Derived.Test.YtgenjbeamlffmaaSvp
import Derived.Test.YtgenjbeamlffmaaSvq
namespace Go.Proofs.Ytgenjbeamlffmaa
open Go.RowKit Go.Sort

namespace Svp
open Foot Copy Nup Cpu Cfa Rch Gof Pof
theorem part_mem {O : List Pk} {z : Int} {x : Pk} : x ∈ partL O z ↔ x ∈ O ∧ z ≤ x.1 := by
  unfold partL
  rw [List.mem_filter, decide_eq_true_eq]
theorem opt_mem {O : List Pk} {z : Int} {x : Pk} : x ∈ optL O z ↔ x ∈ O ∧ x.1 = z := by
  unfold optL
  rw [List.mem_filter, decide_eq_true_eq]
/-- A name is passed by. -/
theorem good_skip {S : List Rel} {H C : List Pk} {z : Int} (hS : shOk S = true) (h : Good S H C (partL (openL S H) z)) : Good S H C (partL (openL S H) (z + 1)) := by
  refine ⟨fun x hx => ?_, h.pk, fun x hx y hy => ?_, (good_start H hS).mono.filter _⟩
  · rcases List.mem_append.1 hx with hx | hx
    · exact h.sub x (List.mem_append_left _ hx)
    · exact (part_mem.1 hx).1
  · have := part_mem.1 hy
    exact h.low x hx y (part_mem.2 ⟨this.1, by omega⟩)
/-- A version of a name is picked. -/
theorem good_next {S : List Rel} {H C : List Pk} {z : Int} (hS : shOk S = true) (h : Good S H C (partL (openL S H) z)) {q : Pk} (hq : q ∈ optL (openL S H) z) : Good S H (C ++ [q]) (partL (openL S H) (z + 1)) := by
  have hq' := opt_mem.1 hq
  have hqp : q ∈ partL (openL S H) z := part_mem.2 ⟨hq'.1, by omega⟩
  have hop := open_ok hS hq'.1
  have hk := good_skip hS h
  refine ⟨fun x hx => ?_, pk_snoc (lo := 0) h.pk (fun x hx => h.low x hx q hqp) hop.1.1 hop.1.2 hop.2, fun x hx y hy => ?_, hk.mono⟩
  · rcases List.mem_append.1 hx with hx | hx
    · rcases List.mem_append.1 hx with hx | hx
      · exact h.sub x (List.mem_append_left _ hx)
      · rw [List.mem_singleton.1 hx]; exact hq'.1
    · exact (part_mem.1 hx).1
  · rcases List.mem_append.1 hx with hx | hx
    · exact hk.low x hx y hy
    · have := part_mem.1 hy
      rw [List.mem_singleton.1 hx]
      omega
/-- The first one found behind some ways that found none, and one more. -/
theorem flat_head {α β : Type} (f : α → List β) {Q : List α} {k : Nat} {q : α} (hq : Q[k]? = some q) (h : (Q.take k).flatMap f = []) : ((Q.take (k + 1)).flatMap f) = f q := by
  rw [List.take_add_one, hq, List.flatMap_append, h]
  simp
theorem flat_found {α β : Type} (f : α → List β) {Q : List α} {k : Nat} {L : β} (h : ((Q.take k).flatMap f).head? = some L) : (Q.flatMap f).head? = some L := by
  have e : Q.flatMap f = (Q.take k).flatMap f ++ (Q.drop k).flatMap f := by rw [← List.flatMap_append, List.take_append_drop]
  rw [e, head_two, h]
  rfl
/-- What the model's search answers from a name on. -/
def SearchPost (z : Nat) (r : Option (List Pk)) (w : World) (e : Ending) (w' : World) : Prop := ∃ v, e = .returned (.tuple #[v, .bool r.isSome]) ∧ (∀ L, r = some L → PB L w.heap.size w'.heap.size v w') ∧ (z ≤ 7 → r = none → PB [] w.heap.size w'.heap.size v w') ∧ Below w.heap.size w w'
end Svp
end Go.Proofs.Ytgenjbeamlffmaa

/- The clash of a step, as plain facts: how long it is; and a box with a step, in all worlds. No condition. -/
import Derived.Test.YtdhbjjolgmodjaaCuh
import Derived.Test.YtdhbjjolgmodjaaRlaw
namespace Go.Proofs.Ytdhbjjolgmodjaa
open Go.RowKit Go.Sort

namespace Tmc
open Foot
/-- A box with a step's four numbers. -/
structure StB (g : Nat) (K A B N : Int) (V : World) : Prop where
  c : V.cell? ⟨g, 0, none⟩ = some (.int .i64 K) ∧ V.cell? ⟨g, 1, none⟩ = some (.int .i64 A) ∧ V.cell? ⟨g, 2, none⟩ = some (.int .i64 B) ∧ V.cell? ⟨g, 3, none⟩ = some (.int .i64 N)
  lt : g < V.heap.size
theorem StB.new (w : World) (K A B N : Int) : StB w.heap.size K A B N (w.alloc (.cells #[.int .i64 K, .int .i64 A, .int .i64 B, .int .i64 N] 40)) := ⟨⟨by go_simp, by go_simp, by go_simp, by go_simp⟩, by simp⟩
theorem StB.below {g : Nat} {K A B N : Int} {V W : World} (h : StB g K A B N V) (hb : Below V.heap.size V W) : StB g K A B N W := by
  obtain ⟨⟨c0, c1, c2, c3⟩, hl⟩ := h
  exact ⟨⟨(hb.cell (p := ⟨g, 0, none⟩) hl).trans c0, (hb.cell (p := ⟨g, 1, none⟩) hl).trans c1, (hb.cell (p := ⟨g, 2, none⟩) hl).trans c2, (hb.cell (p := ⟨g, 3, none⟩) hl).trans c3⟩, Nat.lt_of_lt_of_le hl hb.size⟩
theorem StB.out {g lo hi : Nat} {K A B N : Int} {V W : World} (h : StB g K A B N V) (ho : Out lo hi V W) (hd : g < lo ∨ hi ≤ g) : StB g K A B N W := by
  obtain ⟨⟨c0, c1, c2, c3⟩, hl⟩ := h
  have hb := ho.block g hl hd
  exact ⟨⟨(World.cell?_of_block (a := ⟨g, 0, none⟩) hb).trans c0, (World.cell?_of_block (a := ⟨g, 1, none⟩) hb).trans c1, (World.cell?_of_block (a := ⟨g, 2, none⟩) hb).trans c2, (World.cell?_of_block (a := ⟨g, 3, none⟩) hb).trans c3⟩, Nat.lt_of_lt_of_le hl ho.size⟩
def Few (o : Option (List Tm)) : Prop := (o.getD []).length ≤ 2 ∧ ∀ q ∈ o.getD [], q.2.1.length ≤ 40
theorem few_none : Few none := ⟨Nat.zero_le _, fun q hq => by cases hq⟩
theorem not_few (L : Sps) : (notR L).length ≤ 40 := by
  unfold notR fitR
  split
  · split
    · assumption
    · exact Nat.zero_le _
  · exact Nat.zero_le _
theorem few_one {x : Int} {L : Sps} {f : Bool} (h : L.length ≤ 40) : Few (some [(x, L, f)]) := ⟨by simp, fun q hq => by
  obtain rfl := List.mem_singleton.1 hq
  exact h⟩
theorem few_two {x y : Int} {L M : Sps} {f g : Bool} (h : L.length ≤ 40) (h' : M.length ≤ 40) : Few (some (twoL (x, L, f) (y, M, g))) := by
  unfold twoL
  split
  · refine ⟨by simp, fun q hq => ?_⟩
    have hq : q ∈ [((y, M, g) : Tm), (x, L, f)] := hq
    rcases List.mem_cons.1 hq with rfl | hq
    · exact h'
    · obtain rfl := List.mem_singleton.1 hq
      exact h
  · refine ⟨by simp, fun q hq => ?_⟩
    have hq : q ∈ [((x, L, f) : Tm), (y, M, g)] := hq
    rcases List.mem_cons.1 hq with rfl | hq
    · exact h
    · obtain rfl := List.mem_singleton.1 hq
      exact h'
theorem cl_few (S : List Rel) (M : List Nd) (K A B N : Int) : Few (clashOfL S M K A B N) := by
  unfold clashOfL
  split
  case isFalse => exact few_none
  unfold cofL
  split
  · unfold cofN
    split
    case isFalse => exact few_none
    rcases M[A.toNat]? with _ | n
    · exact few_none
    · show Few ((unm n).map fun t => [t])
      unfold unm
      split
      · exact few_one (not_few _)
      · exact few_none
  split
  · unfold cofR
    split
    case isFalse => exact few_none
    rcases S[A.toNat]? with _ | x
    · exact few_none
    show Few (if 0 ≤ B ∧ B < (x.2.2.2.length : Int) then (x.2.2.2[B.toNat]?).bind fun n => (unm n).map fun t => twoL (x.1, oneL x.2.1.1 x.2.1.2.1 x.2.1.2.2.1 x.2.1.2.2.2, false) t else none)
    split
    case isFalse => exact few_none
    rcases x.2.2.2[B.toNat]? with _ | n
    · exact few_none
    show Few ((unm n).map fun t => twoL (x.1, oneL x.2.1.1 x.2.1.2.1 x.2.1.2.2.1 x.2.1.2.2.2, false) t)
    unfold unm
    split
    · exact few_two (by have := one_len x.2.1.1 x.2.1.2.1 x.2.1.2.2.1 x.2.1.2.2.2; omega) (not_few _)
    · exact few_none
  split
  · unfold cofS
    split
    case isFalse => exact few_none
    unfold absL
    split
    · exact few_one (not_few _)
    · exact few_none
  · exact few_none
theorem cl_len {S : List Rel} {M : List Nd} {K A B N : Int} : ((clashOfL S M K A B N).getD []).length ≤ 2 := (cl_few S M K A B N).1
theorem cl_each {S : List Rel} {M : List Nd} {K A B N : Int} : ∀ q ∈ (clashOfL S M K A B N).getD [], q.2.1.length ≤ 1048576 := fun q hq => by
  have := (cl_few S M K A B N).2 q hq
  omega
theorem sz_few : ∀ {O : List Tm}, (∀ q ∈ O, q.2.1.length ≤ 40) → tmSz O ≤ 40 * O.length
  | [], _ => Nat.zero_le _
  | q :: t, h => by
    have h1 := h q List.mem_cons_self
    have h2 := sz_few (O := t) fun p hp => h p (List.mem_cons_of_mem _ hp)
    simp only [tmSz, List.length_cons]
    omega
theorem cl_sz {S : List Rel} {M : List Nd} {K A B N : Int} : tmSz ((clashOfL S M K A B N).getD []) ≤ 1048576 := by
  have h1 := sz_few (cl_few S M K A B N).2
  have h2 := (cl_few S M K A B N).1
  omega
end Tmc
end Go.Proofs.Ytdhbjjolgmodjaa

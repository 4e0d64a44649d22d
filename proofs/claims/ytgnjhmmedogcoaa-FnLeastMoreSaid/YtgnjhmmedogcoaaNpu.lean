/- What comes up beside needs, as plain facts: a row of needs to which each release that fits one of them puts its own once; and rows of flags in memory. No condition. -/
import Derived.Test.YtgnjhmmedogcoaaRfit
import Derived.Test.YtgnjhmmedogcoaaGf
namespace Go.Proofs.Ytgnjhmmedogcoaa
open Go.RowKit Go.Sort

namespace Nup
/-- One need against the releases from a place on: flags, and the row. -/
abbrev St := List Bool × List Nd
def hit (n : Nd) (st : St) (j : Nat) (x : Rel) : St := if (!st.1.getD j true && fitB n.1 n.2 x) = true then (st.1.set j true, st.2 ++ x.2.2.2) else st
def pass (n : Nd) : Nat → List Rel → St → St
  | _, [], st => st
  | j, x :: t, st => pass n (j + 1) t (hit n st j x)
def run (S : List Rel) : Nat → Nat → St → List Nd
  | 0, _, st => st.2
  | f + 1, i, st => match st.2[i]? with
    | none => st.2
    | some n => run S f (i + 1) (pass n 0 S st)
def start (S : List Rel) (N : List Nd) : St := (List.replicate S.length false, N)
def upL (S : List Rel) (N : List Nd) : List Nd := run S 200 0 (start S N)
theorem pass_step {S : List Rel} {j : Nat} {x : Rel} (h : S[j]? = some x) (n : Nd) (st : St) : pass n j (S.drop j) st = pass n (j + 1) (S.drop (j + 1)) (hit n st j x) := by
  have hj : j < S.length := (List.getElem?_eq_some_iff.1 h).1
  rw [List.drop_eq_getElem_cons hj, (List.getElem?_eq_some_iff.1 h).2]
  rfl
theorem run_step {S : List Rel} {f i : Nat} {st : St} {n : Nd} (h : st.2[i]? = some n) : run S (f + 1) i st = run S f (i + 1) (pass n 0 S st) := by
  show (match st.2[i]? with | none => st.2 | some n => run S f (i + 1) (pass n 0 S st)) = _
  rw [h]
theorem run_end {S : List Rel} {f i : Nat} {st : St} (h : st.2.length ≤ i) : run S f i st = st.2 := by
  cases f with
  | zero => rfl
  | succ f =>
    show (match st.2[i]? with | none => st.2 | some n => run S f (i + 1) (pass n 0 S st)) = _
    rw [List.getElem?_eq_none h]

/-- How many needs can still come. -/
def rest : List Bool → List Rel → Nat
  | b :: c, x :: t => (if b = true then 0 else x.2.2.2.length) + rest c t
  | _, _ => 0
theorem rest_set : ∀ (c : List Bool) (S : List Rel) (j : Nat) (x : Rel), c.getD j true = false → S[j]? = some x → rest (c.set j true) S + x.2.2.2.length = rest c S
  | [], S, j, x, h, _ => by simp at h
  | b :: c, [], j, x, _, h => by simp at h
  | b :: c, y :: t, 0, x, h, hx => by
    obtain rfl : y = x := by simpa using hx
    have hb : b = false := by simpa using h
    subst hb
    simp [rest]
    omega
  | b :: c, y :: t, j + 1, x, h, hx => by
    have := rest_set c t j x (by simpa using h) (by simpa using hx)
    simp only [List.set_cons_succ, rest]
    omega
theorem rest_le : ∀ (c : List Bool) (S : List Rel), (∀ q ∈ S, q.2.2.2.length ≤ 5) → rest c S ≤ 5 * S.length
  | [], S, _ => by simp [rest]
  | b :: c, [], _ => by simp [rest]
  | b :: c, x :: t, h => by
    have h1 := rest_le c t fun q hq => h q (List.mem_cons_of_mem _ hq)
    have h2 := h x (List.mem_cons_self ..)
    simp only [rest, List.length_cons]
    split <;> omega

/-- What holds of flags and row at each time. -/
structure Ok (S : List Rel) (N : List Nd) (st : St) : Prop where
  flags : st.1.length = S.length
  size : st.2.length + rest st.1 S ≤ N.length + 5 * S.length
  mem : ∀ q ∈ st.2, q ∈ N ∨ ∃ x ∈ S, q ∈ x.2.2.2
theorem Ok.start {S : List Rel} {N : List Nd} (h : ∀ q ∈ S, q.2.2.2.length ≤ 5) : Ok S N (start S N) :=
  ⟨by simp [Nup.start], by have := rest_le (Nup.start S N).1 S h; show N.length + _ ≤ _; omega, fun q hq => .inl hq⟩
theorem Ok.hit {S : List Rel} {N : List Nd} {st : St} {j : Nat} {x : Rel} (h : Ok S N st) (n : Nd) (hx : S[j]? = some x) : Ok S N (hit n st j x) := by
  unfold Nup.hit
  split
  · rename_i hc
    rw [Bool.and_eq_true] at hc
    have hf : st.1.getD j true = false := by simpa using hc.1
    have := rest_set st.1 S j x hf hx
    refine ⟨by simpa using h.flags, ?_, fun q hq => ?_⟩
    · have := h.size
      simp only [List.length_append]
      omega
    · rcases List.mem_append.1 hq with hq | hq
      · exact h.mem q hq
      · exact .inr ⟨x, List.mem_of_getElem? hx, hq⟩
  · exact h
theorem Ok.le {S : List Rel} {N : List Nd} {st : St} (h : Ok S N st) (hS : S.length ≤ 30) (hN : N.length ≤ 5) : st.2.length ≤ 155 := by
  have := h.size
  omega
theorem hit_front {n : Nd} {st : St} {j : Nat} {x : Rel} {i : Nat} (hi : i ≤ st.2.length) : (hit n st j x).2.take i = st.2.take i ∧ i ≤ (hit n st j x).2.length := by
  unfold hit
  split
  · exact ⟨List.take_append_of_le_length hi, by simp; omega⟩
  · exact ⟨rfl, hi⟩

/-- The same by the places that fit. -/
def passP (S : List Rel) : List Int → St → St
  | [], st => st
  | p :: t, st => passP S t (match S[p.toNat]? with
    | none => st
    | some x => if (!st.1.getD p.toNat true) = true then (st.1.set p.toNat true, st.2 ++ x.2.2.2) else st)
theorem passP_fits {S : List Rel} (n : Nd) : ∀ (t : List Rel) (j : Nat), S.drop j = t → ∀ st : St, passP S (fitFrom n.1 n.2 j t) st = pass n j t st
  | [], j, _, st => rfl
  | x :: t, j, h, st => by
    have hx : S[j]? = some x := by
      have : (S.drop j)[0]? = some x := by rw [h]; rfl
      simpa using this
    have ht : S.drop (j + 1) = t := by
      have := congrArg (fun l => l.drop 1) h
      simpa using this
    have ih := passP_fits n t (j + 1) ht
    show passP S ((if fitB n.1 n.2 x = true then [(j : Int)] else []) ++ fitFrom n.1 n.2 (j + 1) t) st = pass n (j + 1) t (hit n st j x)
    by_cases hf : fitB n.1 n.2 x = true
    · rw [if_pos hf, List.singleton_append]
      show passP S (fitFrom n.1 n.2 (j + 1) t) (match S[(j : Int).toNat]? with | none => st | some x => if (!st.1.getD (j : Int).toNat true) = true then (st.1.set (j : Int).toNat true, st.2 ++ x.2.2.2) else st) = _
      rw [Int.toNat_natCast, hx, ih]
      unfold hit
      rw [hf, Bool.and_true]
    · rw [if_neg hf, List.nil_append, ih]
      unfold hit
      rw [Bool.not_eq_true] at hf
      rw [hf, Bool.and_false, if_neg (by decide)]

/-- Flags in a block of their own. -/
def Fl (w : World) (g : Nat) (c : List Bool) : Prop := w.heap[g]? = some (.cells (c.map Value.bool).toArray 4 (0, 0))
theorem Fl.lt {w : World} {g : Nat} {c : List Bool} (h : Fl w g c) : g < w.heap.size := (Array.getElem?_eq_some_iff.1 h).1
theorem Fl.kept {w w' : World} {g : Nat} {c : List Bool} (h : Fl w g c) (hb : w'.heap[g]? = w.heap[g]?) : Fl w' g c := hb.trans h
theorem Fl.below {w w' : World} {g : Nat} {c : List Bool} (h : Fl w g c) (hb : Below w.heap.size w w') : Fl w' g c := h.kept (hb.block g h.lt)
theorem Fl.cell {w : World} {g i : Nat} {c : List Bool} (h : Fl w g c) (hi : i < c.length) : w.cell? ⟨g, i, none⟩ = some (.bool (c.getD i true)) := by
  rw [cell_of_row w g i _ _ (0, 0) h, List.getElem?_toArray, List.getElem?_map, List.getElem?_eq_getElem hi, List.getD_eq_getElem?_getD, List.getElem?_eq_getElem hi]
  rfl
theorem Fl.frozen {w : World} {g i : Nat} {c : List Bool} (h : Fl w g c) : w.frozen? ⟨g, i, none⟩ = false := by
  have h' : w.heap[g]? = some (.cells (c.map Value.bool).toArray 4 (0, 0)) := h
  simp [World.frozen?, h']
theorem Fl.set {w : World} {g i : Nat} {c : List Bool} (h : Fl w g c) (b : Bool) : Fl (w.setCell ⟨g, i, none⟩ (.bool b)) g (c.set i b) := by
  have h' : w.heap[g]? = some (.cells (c.map Value.bool).toArray 4 (0, 0)) := h
  show (w.setCell ⟨g, i, none⟩ (.bool b)).heap[g]? = some (.cells ((c.set i b).map Value.bool).toArray 4 (0, 0))
  rw [List.map_set]
  simp [World.setCell, Array.getElem?_modify, h']
theorem infoBool : (Try.prog.info? 4).map (fun i => (i.zero, i.size, i.bytes)) = some (some (.bool false), 1, 1) := by kernel_rfl
theorem make_flags (n : Nat) (hn : n ≤ 1048576) (V : World) :
    (Instr.makeSlice 92 (.int .i64 (n : Int)) (.int .i64 (n : Int))).run Try.prog V = .ok (.slice (some ⟨V.heap.size, 0, none⟩) n n) (V.alloc (.cells (madeCells #[.bool false] (n * 1)) 4)) := by
  obtain ⟨i0, hi, hz0, hz1, hz2⟩ := info_parts infoBool
  have h := run_make (P := Try.prog) V 92 4 i0 _ Try.underlying92 hi hz0 .i64 .i64 (n : Int) (n : Int) (by omega) (Int.le_refl _) (by rw [hz2]; omega) (by omega)
  rw [hz1] at h
  simpa [Value.cells] using h
theorem made_flags (n : Nat) (V : World) : Fl (V.alloc (.cells (madeCells #[.bool false] (n * 1)) 4)) V.heap.size (List.replicate n false) := by
  have h := heap_alloc_new V (.cells (madeCells #[.bool false] (n * 1)) 4)
  have e : madeCells #[.bool false] (n * 1) = ((List.replicate n false).map Value.bool).toArray := by
    apply Array.ext
    · simp [size_madeCells]
    · intro i h1 h2
      simp [madeCells, Nat.mod_one]
  rw [e] at h
  rw [e]
  exact h

/-- A row of needs behind another that a call grows. -/
theorem grow_any {W w' : World} {B lo c' : Nat} {a' : Option Addr} {v : Value} {M P : List Nd} {cs news : List Value} (ho : W.ownsRow B 59 2 v M.length cs)
    (hc : ∀ i (h : i < M.length), cs[i * 2]? = some (.int .i64 M[i].1) ∧ ∃ a cap, cs[i * 2 + 1]? = some (.slice a M[i].2.length cap) ∧ SpX W lo v.ownBlock (.slice a M[i].2.length cap) M[i].2)
    (hn : ∀ i (h : i < P.length), news[i * 2]? = some (.int .i64 P[i].1) ∧ ∃ a cap, news[i * 2 + 1]? = some (.slice a P[i].2.length cap) ∧ SpX W lo v.ownBlock (.slice a P[i].2.length cap) P[i].2)
    (hown : w'.ownsRow B 59 2 (.slice a' (M.length + P.length) c') (M.length + P.length) (cs ++ news)) (hgrow : W.grownBy w' v.ownBlock) (hat : (Value.slice a' (M.length + P.length) c').ownBlock = v.ownBlock ∨ (Value.slice a' (M.length + P.length) c').ownBlock = some W.heap.size) :
    NOwn w' B lo (.slice a' (M.length + P.length) c') (M ++ P) := by
  rcases hown.2 with ⟨e, h0⟩ | ⟨g, cap, cur, e, rest⟩
  · have hM : M = [] := List.eq_nil_of_length_eq_zero (by omega)
    have hP : P = [] := List.eq_nil_of_length_eq_zero (by omega)
    subst hM
    subst hP
    simp only [Value.slice.injEq] at e
    obtain ⟨rfl, _, rfl⟩ := e
    exact NOwn.nil _ _ _
  · simp only [Value.slice.injEq] at e
    obtain ⟨rfl, _, _⟩ := e
    refine NOwn.grow ho hc hn hown hgrow ?_
    rcases hat with h | h
    · exact .inl h.symm
    · right
      have h' : some g = some W.heap.size := h
      injection h'
end Nup
end Go.Proofs.Ytgnjhmmedogcoaa

/- Groundwork over this seat's translation: Pk, Pkopen, Pkto, Pkeq, Pkok in one text; the conditions stand at each part. -/
import Derived.Test.YtgjmgclgokgobaaGa
import Derived.Laws.MakeOwn
import Derived.Deep.Slices
import Derived.BigQuiet
import Derived.Handy

/- Rows of picks in memory, over this seat's translation: what it is for a slice value to hold a list of picks (a name and a version's four numbers), and for a block to be such a row. No condition. -/
namespace Go.Proofs.Ytgjmgclgokgobaa
open Go.RowKit Go.Sort

abbrev Pk := Int × Int × Int × Int × Int
abbrev pick (n a b c d : Int) : Value := .agg #[.int .i64 n, .int .i64 a, .int .i64 b, .int .i64 c, .int .i64 d]

/-- The cells of one pick. -/
def PkC (w : World) (b o : Nat) (x : Pk) : Prop :=
  w.cell? ⟨b, o, none⟩ = some (.int .i64 x.1) ∧ w.cell? ⟨b, o + 1, none⟩ = some (.int .i64 x.2.1) ∧ w.cell? ⟨b, o + 2, none⟩ = some (.int .i64 x.2.2.1) ∧ w.cell? ⟨b, o + 3, none⟩ = some (.int .i64 x.2.2.2.1) ∧ w.cell? ⟨b, o + 4, none⟩ = some (.int .i64 x.2.2.2.2)
theorem PkC.below {w w' : World} {B b o : Nat} {x : Pk} (h : PkC w b o x) (hb : Below B w w') (hB : b < B) : PkC w' b o x := by
  obtain ⟨h0, h1, h2, h3, h4⟩ := h
  exact ⟨(hb.cell (p := ⟨b, o, none⟩) hB).trans h0, (hb.cell (p := ⟨b, o + 1, none⟩) hB).trans h1, (hb.cell (p := ⟨b, o + 2, none⟩) hB).trans h2, (hb.cell (p := ⟨b, o + 3, none⟩) hB).trans h3, (hb.cell (p := ⟨b, o + 4, none⟩) hB).trans h4⟩

/-- A slice value that holds these picks, in a block below B (or is empty). -/
def PkAt (w : World) (B : Nat) (v : Value) (L : List Pk) : Prop :=
  ∃ a cap, v = .slice a L.length cap ∧ (L = [] ∨ ∃ b o, a = some ⟨b, o, none⟩ ∧ b < B ∧ ∀ i (h : i < L.length), PkC w b (o + i * 5) L[i])
theorem PkAt.below {w w' : World} {B : Nat} {v : Value} {L : List Pk} (h : PkAt w B v L) (hb : Below B w w') : PkAt w' B v L := by
  obtain ⟨a, cap, rfl, h⟩ := h
  refine ⟨a, cap, rfl, ?_⟩
  rcases h with h | ⟨b, o, rfl, hB, hc⟩
  · exact .inl h
  · exact .inr ⟨b, o, rfl, hB, fun i hi => (hc i hi).below hb hB⟩
theorem PkAt.mono {w : World} {B B' : Nat} {v : Value} {L : List Pk} (h : PkAt w B v L) (hB : B ≤ B') : PkAt w B' v L := by
  obtain ⟨a, cap, rfl, h⟩ := h
  refine ⟨a, cap, rfl, ?_⟩
  rcases h with h | ⟨b, o, rfl, hb, hc⟩
  · exact .inl h
  · exact .inr ⟨b, o, rfl, by omega, hc⟩
theorem PkAt.stepAt {L : List Pk} {u : Value} {w V : World} (h : PkAt w w.heap.size u L) (hb : Below w.heap.size w V) : PkAt V V.heap.size u L := (h.below hb).mono hb.size

/-- A block that is a row of n picks, the first of which are L. -/
def PkBlk (w : World) (g n : Nat) (L : List Pk) : Prop :=
  ∃ C : Array Value, w.heap[g]? = some (.cells C 146 (0, 0)) ∧ C.size = n * 5 ∧ L.length ≤ n ∧ ∀ i (h : i < L.length), C[i * 5]? = some (.int .i64 L[i].1) ∧ C[i * 5 + 1]? = some (.int .i64 L[i].2.1) ∧ C[i * 5 + 2]? = some (.int .i64 L[i].2.2.1) ∧ C[i * 5 + 3]? = some (.int .i64 L[i].2.2.2.1) ∧ C[i * 5 + 4]? = some (.int .i64 L[i].2.2.2.2)

theorem PkBlk.lt {w : World} {g n : Nat} {L : List Pk} (h : PkBlk w g n L) : g < w.heap.size := by
  obtain ⟨C, h, _⟩ := h
  exact (Array.getElem?_eq_some_iff.1 h).1
theorem PkBlk.kept {w w' : World} {g n : Nat} {L : List Pk} (h : PkBlk w g n L) (hb : w'.heap[g]? = w.heap[g]?) : PkBlk w' g n L := by
  obtain ⟨C, h, r⟩ := h
  exact ⟨C, hb.trans h, r⟩
theorem PkBlk.below {w w' : World} {g n : Nat} {L : List Pk} (h : PkBlk w g n L) (hb : Below w.heap.size w w') : PkBlk w' g n L := h.kept (hb.block _ h.lt)
theorem PkBlk.at {w : World} {g n cap : Nat} {L : List Pk} (h : PkBlk w g n L) : PkAt w w.heap.size (.slice (some ⟨g, 0, none⟩) L.length cap) L := by
  have hg := h.lt
  obtain ⟨C, h, _, _, hc⟩ := h
  refine ⟨_, _, rfl, .inr ⟨g, 0, rfl, hg, fun i hi => ?_⟩⟩
  obtain ⟨h0, h1, h2, h3, h4⟩ := hc i hi
  rw [Nat.zero_add]
  exact ⟨(cell_of_row w g _ C _ (0, 0) h).trans h0, (cell_of_row w g _ C _ (0, 0) h).trans h1, (cell_of_row w g _ C _ (0, 0) h).trans h2, (cell_of_row w g _ C _ (0, 0) h).trans h3, (cell_of_row w g _ C _ (0, 0) h).trans h4⟩

/-- Each place of such a row can be written, and is what was written then. -/
theorem PkBlk.place {w : World} {g n : Nat} {L : List Pk} (h : PkBlk w g n L) {k : Nat} (hk : k < n) :
    (∃ x, w.cell? ⟨g, k * 5, none⟩ = some x) ∧ (∃ x, w.cell? ⟨g, k * 5 + 1, none⟩ = some x) ∧ (∃ x, w.cell? ⟨g, k * 5 + 2, none⟩ = some x) ∧ (∃ x, w.cell? ⟨g, k * 5 + 3, none⟩ = some x) ∧ (∃ x, w.cell? ⟨g, k * 5 + 4, none⟩ = some x) ∧ w.frozen? ⟨g, k * 5, none⟩ = false ∧ w.frozen? ⟨g, k * 5 + 1, none⟩ = false ∧ w.frozen? ⟨g, k * 5 + 2, none⟩ = false ∧ w.frozen? ⟨g, k * 5 + 3, none⟩ = false ∧ w.frozen? ⟨g, k * 5 + 4, none⟩ = false := by
  obtain ⟨C, h, hs, _, _⟩ := h
  refine ⟨⟨C[k * 5]'(by omega), ?_⟩, ⟨C[k * 5 + 1]'(by omega), ?_⟩, ⟨C[k * 5 + 2]'(by omega), ?_⟩, ⟨C[k * 5 + 3]'(by omega), ?_⟩, ⟨C[k * 5 + 4]'(by omega), ?_⟩, ?_, ?_, ?_, ?_, ?_⟩
  · rw [cell_of_row w g _ C _ (0, 0) h]; exact Array.getElem?_eq_getElem _
  · rw [cell_of_row w g _ C _ (0, 0) h]; exact Array.getElem?_eq_getElem _
  · rw [cell_of_row w g _ C _ (0, 0) h]; exact Array.getElem?_eq_getElem _
  · rw [cell_of_row w g _ C _ (0, 0) h]; exact Array.getElem?_eq_getElem _
  · rw [cell_of_row w g _ C _ (0, 0) h]; exact Array.getElem?_eq_getElem _
  · simp [World.frozen?, h]
  · simp [World.frozen?, h]
  · simp [World.frozen?, h]
  · simp [World.frozen?, h]
  · simp [World.frozen?, h]

theorem PkBlk.push {w : World} {g n : Nat} {L : List Pk} (h : PkBlk w g n L) (hk : L.length < n) (x a1 b1 c1 d1 : Int) :
    PkBlk (((((w.setCell ⟨g, L.length * 5, none⟩ (.int .i64 x)).setCell ⟨g, L.length * 5 + 1, none⟩ (.int .i64 a1)).setCell ⟨g, L.length * 5 + 2, none⟩ (.int .i64 b1)).setCell ⟨g, L.length * 5 + 3, none⟩ (.int .i64 c1)).setCell ⟨g, L.length * 5 + 4, none⟩ (.int .i64 d1)) g n (L ++ [(x, a1, b1, c1, d1)]) := by
  obtain ⟨C, h, hs, hl, hc⟩ := h
  refine ⟨((((C.setIfInBounds (L.length * 5) (.int .i64 x)).setIfInBounds (L.length * 5 + 1) (.int .i64 a1)).setIfInBounds (L.length * 5 + 2) (.int .i64 b1)).setIfInBounds (L.length * 5 + 3) (.int .i64 c1)).setIfInBounds (L.length * 5 + 4) (.int .i64 d1), ?_, by simpa using hs, by simp; omega, fun i hi => ?_⟩
  · simp [World.setCell, Array.getElem?_modify, h]
  · simp only [List.length_append, List.length_cons, List.length_nil] at hi
    by_cases e : i < L.length
    · obtain ⟨h0, h1, h2, h3, h4⟩ := hc i e
      rw [List.getElem_append_left e]
      refine ⟨?_, ?_, ?_, ?_, ?_⟩
      · rw [Array.getElem?_setIfInBounds_ne (by omega), Array.getElem?_setIfInBounds_ne (by omega), Array.getElem?_setIfInBounds_ne (by omega), Array.getElem?_setIfInBounds_ne (by omega), Array.getElem?_setIfInBounds_ne (by omega)]; exact h0
      · rw [Array.getElem?_setIfInBounds_ne (by omega), Array.getElem?_setIfInBounds_ne (by omega), Array.getElem?_setIfInBounds_ne (by omega), Array.getElem?_setIfInBounds_ne (by omega), Array.getElem?_setIfInBounds_ne (by omega)]; exact h1
      · rw [Array.getElem?_setIfInBounds_ne (by omega), Array.getElem?_setIfInBounds_ne (by omega), Array.getElem?_setIfInBounds_ne (by omega), Array.getElem?_setIfInBounds_ne (by omega), Array.getElem?_setIfInBounds_ne (by omega)]; exact h2
      · rw [Array.getElem?_setIfInBounds_ne (by omega), Array.getElem?_setIfInBounds_ne (by omega), Array.getElem?_setIfInBounds_ne (by omega), Array.getElem?_setIfInBounds_ne (by omega), Array.getElem?_setIfInBounds_ne (by omega)]; exact h3
      · rw [Array.getElem?_setIfInBounds_ne (by omega), Array.getElem?_setIfInBounds_ne (by omega), Array.getElem?_setIfInBounds_ne (by omega), Array.getElem?_setIfInBounds_ne (by omega), Array.getElem?_setIfInBounds_ne (by omega)]; exact h4
    · obtain rfl : i = L.length := by omega
      rw [List.getElem_append_right (Nat.le_refl _)]
      refine ⟨?_, ?_, ?_, ?_, ?_⟩
      · rw [Array.getElem?_setIfInBounds_ne (by omega), Array.getElem?_setIfInBounds_ne (by omega), Array.getElem?_setIfInBounds_ne (by omega), Array.getElem?_setIfInBounds_ne (by omega)]; rw [Array.getElem?_setIfInBounds_self_of_lt (by first | omega | (simp; omega))]; simp
      · rw [Array.getElem?_setIfInBounds_ne (by omega), Array.getElem?_setIfInBounds_ne (by omega), Array.getElem?_setIfInBounds_ne (by omega)]; rw [Array.getElem?_setIfInBounds_self_of_lt (by first | omega | (simp; omega))]; simp
      · rw [Array.getElem?_setIfInBounds_ne (by omega), Array.getElem?_setIfInBounds_ne (by omega)]; rw [Array.getElem?_setIfInBounds_self_of_lt (by first | omega | (simp; omega))]; simp
      · rw [Array.getElem?_setIfInBounds_ne (by omega)]; rw [Array.getElem?_setIfInBounds_self_of_lt (by first | omega | (simp; omega))]; simp
      · rw [Array.getElem?_setIfInBounds_self_of_lt (by first | omega | (simp; omega))]; simp

end Go.Proofs.Ytgjmgclgokgobaa

/- A slice of picks that comes in by value holds some list of picks. -/
namespace Go.Proofs.Ytgjmgclgokgobaa
open Go.ChangeShapes Go.WideShapes Go.ChangeAt Go.RowKit Go.Joins Go.Deep

namespace Pks
theorem add_none (a : Addr) : a.add 0 = a := by simp [Addr.add]
theorem plain_add {b o n : Nat} : (⟨b, o, none⟩ : Addr).add n = ⟨b, o + n, none⟩ := by unfold Addr.add; split <;> simp_all
theorem int_cells : Try.prog.cellsOf 3 = 1 := by kernel_rfl
theorem version_cells : Try.prog.cellsOf 65 = 4 := by kernel_rfl
section
variable {H : Type} {enc : TypeId × Value → H} {w : World} {held : Bool}

/-- A row of elements, out of its opened slice. -/
theorem choose_row {α : Type} [Inhabited α] {len : Nat} {p : Nat → α → Prop} (h : ∀ i, i < len → ∃ q, p i q) : ∃ X : List α, X.length = len ∧ ∀ i (hi : i < X.length), p i X[i] := by
  obtain ⟨X, hX⟩ := choose_lt h
  refine ⟨(List.range len).map X, by simp, fun i hi => ?_⟩
  have hi' : i < len := by simpa using hi
  simpa using hX i hi'

set_option maxRecDepth 100000 in
theorem open_ver_trod {fuel : Nat} {cs : List Value} {x : DataW H × List MemPlace} (h : DataW.trod enc Try.prog w 0 (fun _ => true) held fuel 65 cs = some x) :
    ∃ a b c d : Int, cs = [.int .i64 a, .int .i64 b, .int .i64 c, .int .i64 d] := by
  obtain ⟨y0, y1, y2, y3, n, _, hl, h0, h1, h2, h3⟩ := trod_struct4 Try.underlying65 h
  rw [version_cells] at hl
  match cs, hl with
  | [c0, c1, c2, c3], _ =>
    obtain ⟨a, e0, _, _⟩ := DataW.trod_int Try.underlying3 h0
    obtain ⟨b, e1, _, _⟩ := DataW.trod_int Try.underlying3 h1
    obtain ⟨c, e2, _, _⟩ := DataW.trod_int Try.underlying3 h2
    obtain ⟨d, e3, _, _⟩ := DataW.trod_int Try.underlying3 h3
    simp [int_cells] at e0 e1 e2 e3
    subst e0; subst e1; subst e2; subst e3
    exact ⟨a, b, c, d, rfl⟩

end
end Pks

end Go.Proofs.Ytgjmgclgokgobaa

/- Contracts of the laws' functions that copy and measure rows of picks, over this seat's translation: the copy is a new row with the same picks; nothing that was there before the call has changed. Condition: at most 1048576 picks. -/
namespace Go.Proofs.Ytgjmgclgokgobaa
open Go.RowKit Go.Sort

theorem infoPick : (Try.prog.info? 146).map (fun i => (i.zero, i.size, i.bytes)) = some (some (.agg #[.int .i64 0, .int .i64 0, .int .i64 0, .int .i64 0, .int .i64 0]), 5, 40) := by kernel_rfl

/-- 'make([]impl.Pick, n)'. -/
theorem make_picks (n : Nat) (hn : n ≤ 1048576) (V : World) :
    (Instr.makeSlice 52 (.int .i64 (n : Int)) (.int .i64 (n : Int))).run Try.prog V = .ok (.slice (some ⟨V.heap.size, 0, none⟩) n n) (V.alloc (.cells (madeCells #[.int .i64 0, .int .i64 0, .int .i64 0, .int .i64 0, .int .i64 0] (n * 5)) 146)) := by
  obtain ⟨i0, hi, hz0, hz1, hz2⟩ := info_parts infoPick
  have h := run_make (P := Try.prog) V 52 146 i0 _ Try.underlying52 hi hz0 .i64 .i64 (n : Int) (n : Int) (by omega) (Int.le_refl _) (by rw [hz2]; omega) (by omega)
  rw [hz1] at h
  simpa [Value.cells] using h

theorem made_picks (n : Nat) (V : World) : PkBlk (V.alloc (.cells (madeCells #[.int .i64 0, .int .i64 0, .int .i64 0, .int .i64 0, .int .i64 0] (n * 5)) 146)) V.heap.size n [] :=
  ⟨_, heap_alloc_new V _, size_madeCells _ _, Nat.zero_le _, fun i hi => absurd hi (by simp)⟩

/-- What the loop of toPickS keeps: the first k picks are copied. -/
def PToRel (L : List Pk) (w : World) (g : Nat) (i : Value) (wr : World) : Prop :=
  ∃ k : Nat, k ≤ L.length ∧ i = .int .i64 (k : Int) ∧ PkBlk wr g L.length (L.take k) ∧ Below w.heap.size w wr

theorem pto_push {L : List Pk} {w wr : World} {k : Nat} {x a1 b1 c1 d1 : Int} (hxy : L[k]? = some (x, a1, b1, c1, d1)) (hk : k < L.length) (hblk : PkBlk wr w.heap.size L.length (L.take k)) (hb : Below w.heap.size w wr) :
    PToRel L w w.heap.size (.int .i64 ((k : Int) + 1)) (((((wr.setCell ⟨w.heap.size, k * 5, none⟩ (.int .i64 x)).setCell ⟨w.heap.size, k * 5 + 1, none⟩ (.int .i64 a1)).setCell ⟨w.heap.size, k * 5 + 2, none⟩ (.int .i64 b1)).setCell ⟨w.heap.size, k * 5 + 3, none⟩ (.int .i64 c1)).setCell ⟨w.heap.size, k * 5 + 4, none⟩ (.int .i64 d1)) := by
  have hl : (L.take k).length = k := by simp; omega
  have h := hblk.push (by omega) x a1 b1 c1 d1
  rw [hl] at h
  refine ⟨k + 1, by omega, by go_num, ?_, ((((hb.setCell (by simp) _).setCell (by simp) _).setCell (by simp) _).setCell (by simp) _).setCell (by simp) _⟩
  rw [List.take_add_one, hxy]
  exact h

def PToPost (L : List Pk) (w : World) (e : Ending) (w' : World) : Prop :=
  ∃ g, e = .returned (.slice (some ⟨g, 0, none⟩) L.length L.length) ∧ PkBlk w' g L.length L ∧ w.heap.size ≤ g ∧ Below w.heap.size w w'

/-- What is left of a measure behind a number of picks, or -1. -/
def pleft (left : Int) (n : Nat) : Int := if left < (n : Int) then -1 else left - (n : Int)

end Go.Proofs.Ytgjmgclgokgobaa

/- Contracts of the laws' functions that compare picks, over this seat's translation: they answer whether the picks are the same; nothing that was there before the call has changed. Condition: at most 1048576 picks. -/
namespace Go.Proofs.Ytgjmgclgokgobaa
open Go.RowKit Go.Sort

/-- What the loop of eqPickS keeps: the first k picks are alike. -/
def PEqRel (M N : List Pk) (w : World) (i : Value) (wr : World) : Prop :=
  ∃ k : Nat, k ≤ M.length ∧ i = .int .i64 (k : Int) ∧ M.take k = N.take k ∧ Below w.heap.size w wr

theorem peq_push {M N : List Pk} {w wr : World} {k : Nat} {q : Pk} (hk : k < M.length) (hM : M[k]? = some q) (hN : N[k]? = some q) (ht : M.take k = N.take k) (hb : Below w.heap.size w wr) :
    PEqRel M N w (.int .i64 ((k : Int) + 1)) wr :=
  ⟨k + 1, by omega, by go_num, by rw [List.take_add_one, List.take_add_one, hM, hN, ht], hb⟩

theorem pdiffer_at {M N : List Pk} {k : Nat} {q q' : Pk} (hM : M[k]? = some q) (hN : N[k]? = some q') (h : ¬ q = q') : ¬ M = N := by
  rintro rfl
  rw [hM] at hN
  exact h (Option.some.inj hN)

end Go.Proofs.Ytgjmgclgokgobaa

/- Contracts of PicksOk, the program's and the model's, over this seat's translation: both answer as the plain function pkOk of the picks; nothing that was there before the call has changed. Condition: at most 1048576 picks. -/
namespace Go.Proofs.Ytgjmgclgokgobaa
open Go.RowKit Go.Sort

/-- Picks with ascending names from a number on, up to 7, each with a version. -/
def pkFrom (lo : Int) : List Pk → Bool
  | [] => true
  | x :: t => decide (lo ≤ x.1 ∧ x.1 ≤ 7) && (vOk x.2.1 x.2.2.1 x.2.2.2.1 x.2.2.2.2 && pkFrom (x.1 + 1) t)
def pkOk (M : List Pk) : Bool := pkFrom 0 M

/-- The least name that the pick at place k may have. -/
def pkLow (M : List Pk) : Nat → Int
  | 0 => 0
  | k + 1 => match M[k]? with | none => 0 | some x => x.1 + 1

theorem pkFrom_step {M : List Pk} {k : Nat} {x : Pk} (h : M[k]? = some x) (lo : Int) :
    pkFrom lo (M.drop k) = (decide (lo ≤ x.1 ∧ x.1 ≤ 7) && (vOk x.2.1 x.2.2.1 x.2.2.2.1 x.2.2.2.2 && pkFrom (x.1 + 1) (M.drop (k + 1)))) := by
  have hk : k < M.length := (List.getElem?_eq_some_iff.1 h).1
  rw [List.drop_eq_getElem_cons hk, (List.getElem?_eq_some_iff.1 h).2]
  rfl
theorem pkLow_next {M : List Pk} {k : Nat} {x : Pk} (h : M[k]? = some x) : pkLow M (k + 1) = x.1 + 1 := by simp [pkLow, h]

/-- What the loop of the program's PicksOk keeps: what is left decides. -/
def IPkRel (M : List Pk) (w : World) (lo i : Value) (wr : World) : Prop :=
  ∃ k : Nat, k ≤ M.length ∧ i = .int .i64 (k : Int) ∧ lo = .int .i64 (pkLow M k) ∧ pkFrom 0 M = pkFrom (pkLow M k) (M.drop k) ∧ 0 ≤ pkLow M k ∧ pkLow M k ≤ 8 ∧ Below w.heap.size w wr

theorem ipk_push {M : List Pk} {w wr : World} {k : Nat} {x a b c d : Int} (hM : M[k]? = some (x, a, b, c, d)) (ho : pkFrom 0 M = pkFrom (pkLow M k) (M.drop k)) (h0 : 0 ≤ pkLow M k) (h1 : pkLow M k ≤ x) (h2 : x ≤ 7) (h3 : vOk a b c d = true) (hb : Below w.heap.size w wr) :
    IPkRel M w (.int .i64 (x + 1)) (.int .i64 ((k : Int) + 1)) wr := by
  have hk : k < M.length := (List.getElem?_eq_some_iff.1 hM).1
  have e := pkLow_next hM
  simp only at e
  refine ⟨k + 1, by omega, by go_num, by rw [e], ?_, by omega, by omega, hb⟩
  rw [ho, pkFrom_step hM, e]
  simp [h1, h2, h3]

set_option maxRecDepth 100000 in
set_option maxHeartbeats 2000000 in
theorem implPicksOk_any (v : Value) (M : List Pk) (w : World) (hl : M.length ≤ 1048576) (h : PkAt w w.heap.size v M) :
    Calls Try.prog 66 #[v] w fun e w' => e = .returned (.bool (pkOk M)) ∧ Below w.heap.size w w' := by
  obtain ⟨a, cap, rfl, h⟩ := h
  go_enter Try.func66, Try.ntmps66
  go_wp2
  go_loopw [3, 8] (fun lo i wr => IPkRel M w lo i wr) (fun _ i _ => M.length - (intOf i).toNat)
  case atStart => exact ⟨0, Nat.zero_le _, rfl, rfl, rfl, by simp [pkLow], by simp [pkLow], Below.refl _ _⟩
  case round =>
    obtain ⟨k, hk, rfl, rfl, ho, l0, l8, hb⟩ := hrel
    have HO := Lib.hid ho
    clear ho
    by_cases hlt : k < M.length
    · rcases h with h | ⟨b, o, rfl, hB, hc⟩
      · subst h
        exact absurd hlt (by simp)
      obtain ⟨x, a1, b1, c1, d1, hxy⟩ : ∃ x a1 b1 c1 d1, M[k] = (x, a1, b1, c1, d1) := ⟨_, _, _, _, _, rfl⟩
      have m := (hc k hlt).below hb hB
      rw [hxy] at m
      obtain ⟨k0, k1, k2, k3, k4⟩ := m
      simp only at k0 k1 k2 k3 k4
      have HX := Lib.hid (show M[k]? = some (x, a1, b1, c1, d1) by rw [List.getElem?_eq_getElem hlt, hxy])
      clear hxy hc
      have step := pkFrom_step HX.out (pkLow M k)
      simp only at step
      have bb := hb.alloc hb.size (.cells #[.int .i64 x, .int .i64 a1, .int .i64 b1, .int .i64 c1, .int .i64 d1] 146)
      have hn := pkLow_next HX.out
      by_cases h1 : x < pkLow M k
      · have HF := Lib.hid (show pkOk M = false by unfold pkOk; rw [HO.out, step, decide_eq_false (by omega)]; simp)
        clear step hn
        generalize pkLow M k = lo at *
        go_wp2_with fail
        go_ret
        exact ⟨by rw [HF.out]; rfl, bb⟩
      by_cases h2 : 7 < x
      · have HF := Lib.hid (show pkOk M = false by unfold pkOk; rw [HO.out, step, decide_eq_false (by omega)]; simp)
        clear step hn
        generalize pkLow M k = lo at *
        go_wp2_with fail
        go_ret
        exact ⟨by rw [HF.out]; rfl, bb⟩
      have hx0 : 0 ≤ x := by omega
      have KR := Lib.hid (show ∀ V, Calls Try.prog 71 #[ver a1 b1 c1 d1] V _ from fun V => implOk_any a1 b1 c1 d1 V)
      rcases h3 : vOk a1 b1 c1 d1
      · have HF := Lib.hid (show pkOk M = false by unfold pkOk; rw [HO.out, step, h3]; simp)
        rw [h3] at KR
        clear step hn h3
        generalize pkLow M k = lo at *
        go_wp2_with fail
        refine (KR.out _).mono ?_
        rintro e w2 ⟨rfl, hb2⟩
        go_wp2_with fail
        go_ret
        exact ⟨by rw [HF.out]; rfl, bb.trans (hb2.mono bb.size)⟩
      · rw [h3] at KR
        have H3 := Lib.hid h3
        have L0 := Lib.hid l0
        have L1 := Lib.hid (show pkLow M k ≤ x by omega)
        clear step hn h3
        obtain ⟨lo, hlo⟩ : ∃ lo, pkLow M k = lo := ⟨_, rfl⟩
        have HLO := Lib.hid hlo
        rw [hlo] at l0 l8 h1 ⊢
        clear hlo
        go_wp2_with fail
        refine (KR.out _).mono ?_
        rintro e w2 ⟨rfl, hb2⟩
        have HP := Lib.hid (ipk_push HX.out HO.out L0.out L1.out (by omega) H3.out (bb.trans (hb2.mono bb.size)))
        have bx : w2.cell? ⟨wr.heap.size, 0, none⟩ = some (.int .i64 x) := (hb2.cell (p := ⟨wr.heap.size, 0, none⟩) (by simp)).trans (by go_simp)
        clear hb hb2 bb
        go_wp2_with fail
        go_roundw
        case rel => exact HP.out
        case measure => simp [intOf]; omega
    · obtain rfl : k = M.length := by omega
      have HF := Lib.hid (show pkOk M = true by unfold pkOk; rw [HO.out, List.drop_length]; simp [pkFrom])
      generalize pkLow M M.length = lo at *
      go_wp2_with fail
      go_ret
      exact ⟨by rw [HF.out]; rfl, hb⟩

/-- What the loop of the model's PicksOk keeps: what is left decides. -/
def SPkRel (M : List Pk) (w : World) (i : Value) (wr : World) : Prop :=
  ∃ k : Nat, k ≤ M.length ∧ i = .int .i64 (k : Int) ∧ pkFrom 0 M = pkFrom (pkLow M k) (M.drop k) ∧ 0 ≤ pkLow M k ∧ Below w.heap.size w wr

theorem spk_push {M : List Pk} {w wr : World} {k : Nat} {x a b c d : Int} (hM : M[k]? = some (x, a, b, c, d)) (ho : pkFrom 0 M = pkFrom (pkLow M k) (M.drop k)) (h1 : pkLow M k ≤ x) (hI : inB x 0 7 = true) (h3 : vOk a b c d = true) (hb : Below w.heap.size w wr) :
    SPkRel M w (.int .i64 ((k : Int) + 1)) wr := by
  have hk : k < M.length := (List.getElem?_eq_some_iff.1 hM).1
  have e := pkLow_next hM
  have h2 := inB_iff.1 hI
  simp only at e
  refine ⟨k + 1, by omega, by go_num, ?_, by omega, hb⟩
  rw [ho, pkFrom_step hM, e]
  simp [h1, h2.2, h3]

theorem l1In_same (n lo hi : Int) (w : World) : Calls Try.prog 38 #[.int .i64 n, .int .i64 lo, .int .i64 hi] w fun e w' => e = .returned (.bool (inB n lo hi)) ∧ Below w.heap.size w w' :=
  (l1In_any n lo hi w).mono fun _ _ ⟨he, hw⟩ => ⟨he, by subst hw; exact Below.refl _ _⟩

end Go.Proofs.Ytgjmgclgokgobaa

/- Groundwork over this seat's translation: Pk, Pkopen, Pkto, Pkeq, Pkok in one text; the conditions stand at each part. -/
import Derived.Test.YtopplljilmjjgaaGa
import Derived.Laws.MakeOwn
import Derived.Deep.Slices
import Derived.BigQuiet
import Derived.Handy

/- Rows of picks in memory, over this seat's translation: what it is for a slice value to hold a list of picks (a name and a version's four numbers), and for a block to be such a row. No condition. -/
namespace Go.Proofs.Ytopplljilmjjgaa
open Go.RowKit Go.Sort

abbrev Pk := Int × Int × Int × Int × Int
abbrev pick (n a b c d : Int) : Value := .agg #[.int .i64 n, .int .i64 a, .int .i64 b, .int .i64 c, .int .i64 d]

/-- The cells of one pick. -/
def PkC (w : World) (b o : Nat) (x : Pk) : Prop :=
  w.cell? ⟨b, o, none⟩ = some (.int .i64 x.1) ∧ w.cell? ⟨b, o + 1, none⟩ = some (.int .i64 x.2.1) ∧ w.cell? ⟨b, o + 2, none⟩ = some (.int .i64 x.2.2.1) ∧ w.cell? ⟨b, o + 3, none⟩ = some (.int .i64 x.2.2.2.1) ∧ w.cell? ⟨b, o + 4, none⟩ = some (.int .i64 x.2.2.2.2)
theorem PkC.below {w w' : World} {B b o : Nat} {x : Pk} (h : PkC w b o x) (hb : Below B w w') (hB : b < B) : PkC w' b o x := by
  obtain ⟨h0, h1, h2, h3, h4⟩ := h
  exact ⟨(hb.cell (p := ⟨b, o, none⟩) hB).trans h0, (hb.cell (p := ⟨b, o + 1, none⟩) hB).trans h1, (hb.cell (p := ⟨b, o + 2, none⟩) hB).trans h2, (hb.cell (p := ⟨b, o + 3, none⟩) hB).trans h3, (hb.cell (p := ⟨b, o + 4, none⟩) hB).trans h4⟩

/-- A slice value that holds these picks, in a block below B (or is empty). -/
def PkAt (w : World) (B : Nat) (v : Value) (L : List Pk) : Prop :=
  ∃ a cap, v = .slice a L.length cap ∧ (L = [] ∨ ∃ b o, a = some ⟨b, o, none⟩ ∧ b < B ∧ ∀ i (h : i < L.length), PkC w b (o + i * 5) L[i])
theorem PkAt.below {w w' : World} {B : Nat} {v : Value} {L : List Pk} (h : PkAt w B v L) (hb : Below B w w') : PkAt w' B v L := by
  obtain ⟨a, cap, rfl, h⟩ := h
  refine ⟨a, cap, rfl, ?_⟩
  rcases h with h | ⟨b, o, rfl, hB, hc⟩
  · exact .inl h
  · exact .inr ⟨b, o, rfl, hB, fun i hi => (hc i hi).below hb hB⟩
theorem PkAt.mono {w : World} {B B' : Nat} {v : Value} {L : List Pk} (h : PkAt w B v L) (hB : B ≤ B') : PkAt w B' v L := by
  obtain ⟨a, cap, rfl, h⟩ := h
  refine ⟨a, cap, rfl, ?_⟩
  rcases h with h | ⟨b, o, rfl, hb, hc⟩
  · exact .inl h
  · exact .inr ⟨b, o, rfl, by omega, hc⟩
theorem PkAt.stepAt {L : List Pk} {u : Value} {w V : World} (h : PkAt w w.heap.size u L) (hb : Below w.heap.size w V) : PkAt V V.heap.size u L := (h.below hb).mono hb.size

end Go.Proofs.Ytopplljilmjjgaa

/- A slice of picks that comes in by value holds some list of picks. -/
namespace Go.Proofs.Ytopplljilmjjgaa
open Go.ChangeShapes Go.WideShapes Go.ChangeAt Go.RowKit Go.Joins Go.Deep

namespace Pks
theorem add_none (a : Addr) : a.add 0 = a := by simp [Addr.add]
theorem plain_add {b o n : Nat} : (⟨b, o, none⟩ : Addr).add n = ⟨b, o + n, none⟩ := by unfold Addr.add; split <;> simp_all
theorem int_cells : Try.prog.cellsOf 3 = 1 := by kernel_rfl
section
variable {H : Type} {enc : TypeId × Value → H} {w : World} {held : Bool}

/-- A row of elements, out of its opened slice. -/
theorem choose_row {α : Type} [Inhabited α] {len : Nat} {p : Nat → α → Prop} (h : ∀ i, i < len → ∃ q, p i q) : ∃ X : List α, X.length = len ∧ ∀ i (hi : i < X.length), p i X[i] := by
  obtain ⟨X, hX⟩ := choose_lt h
  refine ⟨(List.range len).map X, by simp, fun i hi => ?_⟩
  have hi' : i < len := by simpa using hi
  simpa using hX i hi'

end
end Pks

end Go.Proofs.Ytopplljilmjjgaa

/- Contracts of the laws' functions that copy and measure rows of picks, over this seat's translation: the copy is a new row with the same picks; nothing that was there before the call has changed. Condition: at most 1048576 picks. -/
namespace Go.Proofs.Ytopplljilmjjgaa
open Go.RowKit Go.Sort

/-- What is left of a measure behind a number of picks, or -1. -/
def pleft (left : Int) (n : Nat) : Int := if left < (n : Int) then -1 else left - (n : Int)

end Go.Proofs.Ytopplljilmjjgaa

/- Contracts of the laws' functions that compare picks, over this seat's translation: they answer whether the picks are the same; nothing that was there before the call has changed. Condition: at most 1048576 picks. -/
namespace Go.Proofs.Ytopplljilmjjgaa
open Go.RowKit Go.Sort

/-- What the loop of eqPickS keeps: the first k picks are alike. -/
def PEqRel (M N : List Pk) (w : World) (i : Value) (wr : World) : Prop :=
  ∃ k : Nat, k ≤ M.length ∧ i = .int .i64 (k : Int) ∧ M.take k = N.take k ∧ Below w.heap.size w wr

theorem peq_push {M N : List Pk} {w wr : World} {k : Nat} {q : Pk} (hk : k < M.length) (hM : M[k]? = some q) (hN : N[k]? = some q) (ht : M.take k = N.take k) (hb : Below w.heap.size w wr) :
    PEqRel M N w (.int .i64 ((k : Int) + 1)) wr :=
  ⟨k + 1, by omega, by go_num, by rw [List.take_add_one, List.take_add_one, hM, hN, ht], hb⟩

theorem pdiffer_at {M N : List Pk} {k : Nat} {q q' : Pk} (hM : M[k]? = some q) (hN : N[k]? = some q') (h : ¬ q = q') : ¬ M = N := by
  rintro rfl
  rw [hM] at hN
  exact h (Option.some.inj hN)

end Go.Proofs.Ytopplljilmjjgaa

/- Contracts of PicksOk, the program's and the model's, over this seat's translation: both answer as the plain function pkOk of the picks; nothing that was there before the call has changed. Condition: at most 1048576 picks. -/
namespace Go.Proofs.Ytopplljilmjjgaa
open Go.RowKit Go.Sort

/-- Picks with ascending names from a number on, up to 7, each with a version. -/
def pkFrom (lo : Int) : List Pk → Bool
  | [] => true
  | x :: t => decide (lo ≤ x.1 ∧ x.1 ≤ 7) && (vOk x.2.1 x.2.2.1 x.2.2.2.1 x.2.2.2.2 && pkFrom (x.1 + 1) t)
def pkOk (M : List Pk) : Bool := pkFrom 0 M

/-- The least name that the pick at place k may have. -/
def pkLow (M : List Pk) : Nat → Int
  | 0 => 0
  | k + 1 => match M[k]? with | none => 0 | some x => x.1 + 1

theorem pkFrom_step {M : List Pk} {k : Nat} {x : Pk} (h : M[k]? = some x) (lo : Int) :
    pkFrom lo (M.drop k) = (decide (lo ≤ x.1 ∧ x.1 ≤ 7) && (vOk x.2.1 x.2.2.1 x.2.2.2.1 x.2.2.2.2 && pkFrom (x.1 + 1) (M.drop (k + 1)))) := by
  have hk : k < M.length := (List.getElem?_eq_some_iff.1 h).1
  rw [List.drop_eq_getElem_cons hk, (List.getElem?_eq_some_iff.1 h).2]
  rfl
theorem pkLow_next {M : List Pk} {k : Nat} {x : Pk} (h : M[k]? = some x) : pkLow M (k + 1) = x.1 + 1 := by simp [pkLow, h]

/-- What the loop of the program's PicksOk keeps: what is left decides. -/
def IPkRel (M : List Pk) (w : World) (lo i : Value) (wr : World) : Prop :=
  ∃ k : Nat, k ≤ M.length ∧ i = .int .i64 (k : Int) ∧ lo = .int .i64 (pkLow M k) ∧ pkFrom 0 M = pkFrom (pkLow M k) (M.drop k) ∧ 0 ≤ pkLow M k ∧ pkLow M k ≤ 8 ∧ Below w.heap.size w wr

theorem ipk_push {M : List Pk} {w wr : World} {k : Nat} {x a b c d : Int} (hM : M[k]? = some (x, a, b, c, d)) (ho : pkFrom 0 M = pkFrom (pkLow M k) (M.drop k)) (h0 : 0 ≤ pkLow M k) (h1 : pkLow M k ≤ x) (h2 : x ≤ 7) (h3 : vOk a b c d = true) (hb : Below w.heap.size w wr) :
    IPkRel M w (.int .i64 (x + 1)) (.int .i64 ((k : Int) + 1)) wr := by
  have hk : k < M.length := (List.getElem?_eq_some_iff.1 hM).1
  have e := pkLow_next hM
  simp only at e
  refine ⟨k + 1, by omega, by go_num, by rw [e], ?_, by omega, by omega, hb⟩
  rw [ho, pkFrom_step hM, e]
  simp [h1, h2, h3]

/-- What the loop of the model's PicksOk keeps: what is left decides. -/
def SPkRel (M : List Pk) (w : World) (i : Value) (wr : World) : Prop :=
  ∃ k : Nat, k ≤ M.length ∧ i = .int .i64 (k : Int) ∧ pkFrom 0 M = pkFrom (pkLow M k) (M.drop k) ∧ 0 ≤ pkLow M k ∧ Below w.heap.size w wr

theorem spk_push {M : List Pk} {w wr : World} {k : Nat} {x a b c d : Int} (hM : M[k]? = some (x, a, b, c, d)) (ho : pkFrom 0 M = pkFrom (pkLow M k) (M.drop k)) (h1 : pkLow M k ≤ x) (hI : inB x 0 7 = true) (h3 : vOk a b c d = true) (hb : Below w.heap.size w wr) :
    SPkRel M w (.int .i64 ((k : Int) + 1)) wr := by
  have hk : k < M.length := (List.getElem?_eq_some_iff.1 hM).1
  have e := pkLow_next hM
  have h2 := inB_iff.1 hI
  simp only at e
  refine ⟨k + 1, by omega, by go_num, ?_, by omega, hb⟩
  rw [ho, pkFrom_step hM, e]
  simp [h1, h2.2, h3]

theorem l1In_same (n lo hi : Int) (w : World) : Calls Try.prog 122 #[.int .i64 n, .int .i64 lo, .int .i64 hi] w fun e w' => e = .returned (.bool (inB n lo hi)) ∧ Below w.heap.size w w' :=
  (l1In_any n lo hi w).mono fun _ _ ⟨he, hw⟩ => ⟨he, by subst hw; exact Below.refl _ _⟩

end Go.Proofs.Ytopplljilmjjgaa

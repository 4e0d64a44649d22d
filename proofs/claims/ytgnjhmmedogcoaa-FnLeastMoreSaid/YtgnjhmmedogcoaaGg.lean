/- Groundwork over this seat's translation: Pk, Pkopen, Pkto, Pkeq, Pkok in one text; the conditions stand at each part. -/
import Derived.Test.YtgnjhmmedogcoaaGa
import Derived.Laws.MakeOwn
import Derived.Deep.Slices
import Derived.BigQuiet
import Derived.Handy

/- Rows of picks in memory, over this seat's translation: what it is for a slice value to hold a list of picks (a name and a version's four numbers), and for a block to be such a row. No condition. -/
namespace Go.Proofs.Ytgnjhmmedogcoaa
open Go.RowKit Go.Sort

abbrev Pk := Int × Int × Int × Int × Int
abbrev pick (n a b c d : Int) : Value := .agg #[.int .i64 n, .int .i64 a, .int .i64 b, .int .i64 c, .int .i64 d]

/-- The cells of one pick. -/
def PkC (w : World) (b o : Nat) (x : Pk) : Prop :=
  w.cell? ⟨b, o, none⟩ = some (.int .i64 x.1) ∧ w.cell? ⟨b, o + 1, none⟩ = some (.int .i64 x.2.1) ∧ w.cell? ⟨b, o + 2, none⟩ = some (.int .i64 x.2.2.1) ∧ w.cell? ⟨b, o + 3, none⟩ = some (.int .i64 x.2.2.2.1) ∧ w.cell? ⟨b, o + 4, none⟩ = some (.int .i64 x.2.2.2.2)
theorem PkC.below {w w' : World} {B b o : Nat} {x : Pk} (h : PkC w b o x) (hb : Below B w w') (hB : b < B) : PkC w' b o x := by
  obtain ⟨h0, h1, h2, h3, h4⟩ := h
  exact ⟨(hb.cell (p := ⟨b, o, none⟩) hB).trans h0, (hb.cell (p := ⟨b, o + 1, none⟩) hB).trans h1, (hb.cell (p := ⟨b, o + 2, none⟩) hB).trans h2, (hb.cell (p := ⟨b, o + 3, none⟩) hB).trans h3, (hb.cell (p := ⟨b, o + 4, none⟩) hB).trans h4⟩

/-- A slice value that holds these picks, in a block below B (or is empty). -/
def PkAt (w : World) (B : Nat) (v : Value) (L : List Pk) : Prop :=
  ∃ a cap, v = .slice a L.length cap ∧ (L = [] ∨ ∃ b o, a = some ⟨b, o, none⟩ ∧ b < B ∧ ∀ i (h : i < L.length), PkC w b (o + i * 5) L[i])
theorem PkAt.below {w w' : World} {B : Nat} {v : Value} {L : List Pk} (h : PkAt w B v L) (hb : Below B w w') : PkAt w' B v L := by
  obtain ⟨a, cap, rfl, h⟩ := h
  refine ⟨a, cap, rfl, ?_⟩
  rcases h with h | ⟨b, o, rfl, hB, hc⟩
  · exact .inl h
  · exact .inr ⟨b, o, rfl, hB, fun i hi => (hc i hi).below hb hB⟩
theorem PkAt.mono {w : World} {B B' : Nat} {v : Value} {L : List Pk} (h : PkAt w B v L) (hB : B ≤ B') : PkAt w B' v L := by
  obtain ⟨a, cap, rfl, h⟩ := h
  refine ⟨a, cap, rfl, ?_⟩
  rcases h with h | ⟨b, o, rfl, hb, hc⟩
  · exact .inl h
  · exact .inr ⟨b, o, rfl, by omega, hc⟩
theorem PkAt.stepAt {L : List Pk} {u : Value} {w V : World} (h : PkAt w w.heap.size u L) (hb : Below w.heap.size w V) : PkAt V V.heap.size u L := (h.below hb).mono hb.size

/-- A block that is a row of n picks, the first of which are L. -/
def PkBlk (w : World) (g n : Nat) (L : List Pk) : Prop :=
  ∃ C : Array Value, w.heap[g]? = some (.cells C 68 (0, 0)) ∧ C.size = n * 5 ∧ L.length ≤ n ∧ ∀ i (h : i < L.length), C[i * 5]? = some (.int .i64 L[i].1) ∧ C[i * 5 + 1]? = some (.int .i64 L[i].2.1) ∧ C[i * 5 + 2]? = some (.int .i64 L[i].2.2.1) ∧ C[i * 5 + 3]? = some (.int .i64 L[i].2.2.2.1) ∧ C[i * 5 + 4]? = some (.int .i64 L[i].2.2.2.2)

theorem PkBlk.lt {w : World} {g n : Nat} {L : List Pk} (h : PkBlk w g n L) : g < w.heap.size := by
  obtain ⟨C, h, _⟩ := h
  exact (Array.getElem?_eq_some_iff.1 h).1
theorem PkBlk.kept {w w' : World} {g n : Nat} {L : List Pk} (h : PkBlk w g n L) (hb : w'.heap[g]? = w.heap[g]?) : PkBlk w' g n L := by
  obtain ⟨C, h, r⟩ := h
  exact ⟨C, hb.trans h, r⟩
theorem PkBlk.below {w w' : World} {g n : Nat} {L : List Pk} (h : PkBlk w g n L) (hb : Below w.heap.size w w') : PkBlk w' g n L := h.kept (hb.block _ h.lt)
theorem PkBlk.at {w : World} {g n cap : Nat} {L : List Pk} (h : PkBlk w g n L) : PkAt w w.heap.size (.slice (some ⟨g, 0, none⟩) L.length cap) L := by
  have hg := h.lt
  obtain ⟨C, h, _, _, hc⟩ := h
  refine ⟨_, _, rfl, .inr ⟨g, 0, rfl, hg, fun i hi => ?_⟩⟩
  obtain ⟨h0, h1, h2, h3, h4⟩ := hc i hi
  rw [Nat.zero_add]
  exact ⟨(cell_of_row w g _ C _ (0, 0) h).trans h0, (cell_of_row w g _ C _ (0, 0) h).trans h1, (cell_of_row w g _ C _ (0, 0) h).trans h2, (cell_of_row w g _ C _ (0, 0) h).trans h3, (cell_of_row w g _ C _ (0, 0) h).trans h4⟩

/-- Each place of such a row can be written, and is what was written then. -/
theorem PkBlk.place {w : World} {g n : Nat} {L : List Pk} (h : PkBlk w g n L) {k : Nat} (hk : k < n) :
    (∃ x, w.cell? ⟨g, k * 5, none⟩ = some x) ∧ (∃ x, w.cell? ⟨g, k * 5 + 1, none⟩ = some x) ∧ (∃ x, w.cell? ⟨g, k * 5 + 2, none⟩ = some x) ∧ (∃ x, w.cell? ⟨g, k * 5 + 3, none⟩ = some x) ∧ (∃ x, w.cell? ⟨g, k * 5 + 4, none⟩ = some x) ∧ w.frozen? ⟨g, k * 5, none⟩ = false ∧ w.frozen? ⟨g, k * 5 + 1, none⟩ = false ∧ w.frozen? ⟨g, k * 5 + 2, none⟩ = false ∧ w.frozen? ⟨g, k * 5 + 3, none⟩ = false ∧ w.frozen? ⟨g, k * 5 + 4, none⟩ = false := by
  obtain ⟨C, h, hs, _, _⟩ := h
  refine ⟨⟨C[k * 5]'(by omega), ?_⟩, ⟨C[k * 5 + 1]'(by omega), ?_⟩, ⟨C[k * 5 + 2]'(by omega), ?_⟩, ⟨C[k * 5 + 3]'(by omega), ?_⟩, ⟨C[k * 5 + 4]'(by omega), ?_⟩, ?_, ?_, ?_, ?_, ?_⟩
  · rw [cell_of_row w g _ C _ (0, 0) h]; exact Array.getElem?_eq_getElem _
  · rw [cell_of_row w g _ C _ (0, 0) h]; exact Array.getElem?_eq_getElem _
  · rw [cell_of_row w g _ C _ (0, 0) h]; exact Array.getElem?_eq_getElem _
  · rw [cell_of_row w g _ C _ (0, 0) h]; exact Array.getElem?_eq_getElem _
  · rw [cell_of_row w g _ C _ (0, 0) h]; exact Array.getElem?_eq_getElem _
  · simp [World.frozen?, h]
  · simp [World.frozen?, h]
  · simp [World.frozen?, h]
  · simp [World.frozen?, h]
  · simp [World.frozen?, h]

theorem PkBlk.push {w : World} {g n : Nat} {L : List Pk} (h : PkBlk w g n L) (hk : L.length < n) (x a1 b1 c1 d1 : Int) :
    PkBlk (((((w.setCell ⟨g, L.length * 5, none⟩ (.int .i64 x)).setCell ⟨g, L.length * 5 + 1, none⟩ (.int .i64 a1)).setCell ⟨g, L.length * 5 + 2, none⟩ (.int .i64 b1)).setCell ⟨g, L.length * 5 + 3, none⟩ (.int .i64 c1)).setCell ⟨g, L.length * 5 + 4, none⟩ (.int .i64 d1)) g n (L ++ [(x, a1, b1, c1, d1)]) := by
  obtain ⟨C, h, hs, hl, hc⟩ := h
  refine ⟨((((C.setIfInBounds (L.length * 5) (.int .i64 x)).setIfInBounds (L.length * 5 + 1) (.int .i64 a1)).setIfInBounds (L.length * 5 + 2) (.int .i64 b1)).setIfInBounds (L.length * 5 + 3) (.int .i64 c1)).setIfInBounds (L.length * 5 + 4) (.int .i64 d1), ?_, by simpa using hs, by simp; omega, fun i hi => ?_⟩
  · simp [World.setCell, Array.getElem?_modify, h]
  · simp only [List.length_append, List.length_cons, List.length_nil] at hi
    by_cases e : i < L.length
    · obtain ⟨h0, h1, h2, h3, h4⟩ := hc i e
      rw [List.getElem_append_left e]
      refine ⟨?_, ?_, ?_, ?_, ?_⟩
      · rw [Array.getElem?_setIfInBounds_ne (by omega), Array.getElem?_setIfInBounds_ne (by omega), Array.getElem?_setIfInBounds_ne (by omega), Array.getElem?_setIfInBounds_ne (by omega), Array.getElem?_setIfInBounds_ne (by omega)]; exact h0
      · rw [Array.getElem?_setIfInBounds_ne (by omega), Array.getElem?_setIfInBounds_ne (by omega), Array.getElem?_setIfInBounds_ne (by omega), Array.getElem?_setIfInBounds_ne (by omega), Array.getElem?_setIfInBounds_ne (by omega)]; exact h1
      · rw [Array.getElem?_setIfInBounds_ne (by omega), Array.getElem?_setIfInBounds_ne (by omega), Array.getElem?_setIfInBounds_ne (by omega), Array.getElem?_setIfInBounds_ne (by omega), Array.getElem?_setIfInBounds_ne (by omega)]; exact h2
      · rw [Array.getElem?_setIfInBounds_ne (by omega), Array.getElem?_setIfInBounds_ne (by omega), Array.getElem?_setIfInBounds_ne (by omega), Array.getElem?_setIfInBounds_ne (by omega), Array.getElem?_setIfInBounds_ne (by omega)]; exact h3
      · rw [Array.getElem?_setIfInBounds_ne (by omega), Array.getElem?_setIfInBounds_ne (by omega), Array.getElem?_setIfInBounds_ne (by omega), Array.getElem?_setIfInBounds_ne (by omega), Array.getElem?_setIfInBounds_ne (by omega)]; exact h4
    · obtain rfl : i = L.length := by omega
      rw [List.getElem_append_right (Nat.le_refl _)]
      refine ⟨?_, ?_, ?_, ?_, ?_⟩
      · rw [Array.getElem?_setIfInBounds_ne (by omega), Array.getElem?_setIfInBounds_ne (by omega), Array.getElem?_setIfInBounds_ne (by omega), Array.getElem?_setIfInBounds_ne (by omega)]; rw [Array.getElem?_setIfInBounds_self_of_lt (by first | omega | (simp; omega))]; simp
      · rw [Array.getElem?_setIfInBounds_ne (by omega), Array.getElem?_setIfInBounds_ne (by omega), Array.getElem?_setIfInBounds_ne (by omega)]; rw [Array.getElem?_setIfInBounds_self_of_lt (by first | omega | (simp; omega))]; simp
      · rw [Array.getElem?_setIfInBounds_ne (by omega), Array.getElem?_setIfInBounds_ne (by omega)]; rw [Array.getElem?_setIfInBounds_self_of_lt (by first | omega | (simp; omega))]; simp
      · rw [Array.getElem?_setIfInBounds_ne (by omega)]; rw [Array.getElem?_setIfInBounds_self_of_lt (by first | omega | (simp; omega))]; simp
      · rw [Array.getElem?_setIfInBounds_self_of_lt (by first | omega | (simp; omega))]; simp

end Go.Proofs.Ytgnjhmmedogcoaa

/- A slice of picks that comes in by value holds some list of picks. -/
namespace Go.Proofs.Ytgnjhmmedogcoaa
open Go.ChangeShapes Go.WideShapes Go.ChangeAt Go.RowKit Go.Joins Go.Deep

namespace Pks
theorem add_none (a : Addr) : a.add 0 = a := by simp [Addr.add]
theorem plain_add {b o n : Nat} : (⟨b, o, none⟩ : Addr).add n = ⟨b, o + n, none⟩ := by unfold Addr.add; split <;> simp_all
theorem int_cells : Try.prog.cellsOf 3 = 1 := by kernel_rfl
theorem version_cells : Try.prog.cellsOf 82 = 4 := by kernel_rfl
theorem pick_cells : Try.prog.cellsOf 105 = 5 := by kernel_rfl

section
variable {H : Type} {enc : TypeId × Value → H} {w : World} {held : Bool}

/-- A row of elements, out of its opened slice. -/
theorem choose_row {α : Type} [Inhabited α] {len : Nat} {p : Nat → α → Prop} (h : ∀ i, i < len → ∃ q, p i q) : ∃ X : List α, X.length = len ∧ ∀ i (hi : i < X.length), p i X[i] := by
  obtain ⟨X, hX⟩ := choose_lt h
  refine ⟨(List.range len).map X, by simp, fun i hi => ?_⟩
  have hi' : i < len := by simpa using hi
  simpa using hX i hi'

set_option maxRecDepth 100000 in
theorem open_ver_trod {fuel : Nat} {cs : List Value} {x : DataW H × List MemPlace} (h : DataW.trod enc Try.prog w 0 (fun _ => true) held fuel 82 cs = some x) :
    ∃ a b c d : Int, cs = [.int .i64 a, .int .i64 b, .int .i64 c, .int .i64 d] := by
  obtain ⟨y0, y1, y2, y3, n, _, hl, h0, h1, h2, h3⟩ := trod_struct4 Try.underlying82 h
  rw [version_cells] at hl
  match cs, hl with
  | [c0, c1, c2, c3], _ =>
    obtain ⟨a, e0, _, _⟩ := DataW.trod_int Try.underlying3 h0
    obtain ⟨b, e1, _, _⟩ := DataW.trod_int Try.underlying3 h1
    obtain ⟨c, e2, _, _⟩ := DataW.trod_int Try.underlying3 h2
    obtain ⟨d, e3, _, _⟩ := DataW.trod_int Try.underlying3 h3
    simp [int_cells] at e0 e1 e2 e3
    subst e0; subst e1; subst e2; subst e3
    exact ⟨a, b, c, d, rfl⟩

set_option maxRecDepth 100000 in
theorem open_pick_trod {fuel : Nat} {cs : List Value} {x : DataW H × List MemPlace} (h : DataW.trod enc Try.prog w 0 (fun _ => true) held fuel 105 cs = some x) :
    ∃ q : Pk, cs = [.int .i64 q.1, .int .i64 q.2.1, .int .i64 q.2.2.1, .int .i64 q.2.2.2.1, .int .i64 q.2.2.2.2] := by
  obtain ⟨y0, y1, n, _, hl, h0, h1⟩ := trod_struct2 Try.underlying105 h
  rw [pick_cells] at hl
  match cs, hl with
  | [c0, c1, c2, c3, c4], _ =>
    obtain ⟨z, e0, _, _⟩ := DataW.trod_int Try.underlying3 h0
    simp [int_cells, version_cells] at e0 h1
    obtain ⟨a, b, c, d, e1⟩ := open_ver_trod h1
    simp at e1
    obtain ⟨rfl, rfl, rfl, rfl⟩ := e1
    subst e0
    exact ⟨(z, a, b, c, d), rfl⟩

set_option maxRecDepth 100000 in
theorem open_picks_trod {fuel : Nat} {cs : List Value} {x : DataW H × List MemPlace} (h : DataW.trod enc Try.prog w 0 (fun _ => true) held fuel 45 cs = some x) :
    ∃ a cap L, cs = [.slice a L.length cap] ∧ PkAt w w.heap.size (.slice a L.length cap) L ∧ L.length ≤ maxLen := by
  rcases open_slice Try.underlying45 h with ⟨hcs, _⟩ | ⟨a, len, cap, m, k, D, Pl, hcs, _, hl, hm, hmm, _, hel⟩
  · subst hcs
    exact ⟨none, 0, [], rfl, ⟨_, _, rfl, .inl rfl⟩, Nat.zero_le _⟩
  · subst hcs
    simp at hmm
    subst hmm
    rw [pick_cells] at hel
    obtain ⟨X, hlen, hX⟩ := choose_row (α := Pk) (p := fun i q => w.cell? (a.add (i * 5)) = some (.int .i64 q.1) ∧ w.cell? ((a.add (i * 5)).add 1) = some (.int .i64 q.2.1) ∧ w.cell? ((a.add (i * 5)).add 2) = some (.int .i64 q.2.2.1) ∧ w.cell? ((a.add (i * 5)).add 3) = some (.int .i64 q.2.2.2.1) ∧ w.cell? ((a.add (i * 5)).add 4) = some (.int .i64 q.2.2.2.2)) (fun i (hi : i < len) => by
      obtain ⟨cs', h1, h2⟩ := hel i (by omega)
      obtain ⟨q, rfl⟩ := open_pick_trod h2
      obtain ⟨_, _, h3⟩ := World.cells?_some h1
      have e0 := h3 0 (by omega)
      have e1 := h3 1 (by omega)
      have e2 := h3 2 (by omega)
      have e3 := h3 3 (by omega)
      have e4 := h3 4 (by omega)
      rw [add_none] at e0
      exact ⟨q, e0, e1, e2, e3, e4⟩)
    subst hlen
    refine ⟨some a, m, X, rfl, ?_, by omega⟩
    by_cases hz : X.length = 0
    · exact ⟨_, _, rfl, .inl (List.length_eq_zero_iff.1 hz)⟩
    · have c0 := (hX 0 (by omega)).1
      obtain ⟨b, o, spot⟩ := a
      rw [Nat.zero_mul, add_none] at c0
      have hspot : spot = none := by simpa using World.cell?_spot c0
      subst hspot
      refine ⟨_, _, rfl, .inr ⟨b, o, rfl, ?_, fun i hi => ?_⟩⟩
      · have := World.block_lt_of_cell? w _ c0
        simpa using this
      · obtain ⟨e0, e1, e2, e3, e4⟩ := hX i hi
        rw [plain_add] at e0 e1 e2 e3 e4
        rw [plain_add] at e1 e2 e3 e4
        exact ⟨e0, e1, e2, e3, e4⟩
end
end Pks

set_option maxRecDepth 100000 in
theorem open_picks {H : Type} {enc : TypeId × Value → H} {w : World} {held : Bool} {b0 : Nat} {v : Value} {d : DataW H} {p : List MemPlace} (hv : Value.okWide Try.prog w .any b0 45 v)
    (h : DataW.Trod enc Try.prog w 0 (fun _ => true) held 45 v d p) : ∃ a cap L, v = .slice a L.length cap ∧ PkAt w w.heap.size (.slice a L.length cap) L ∧ L.length ≤ maxLen := by
  obtain ⟨a0, len0, cap0, rfl⟩ := okWide_slice Try.underlying45 hv
  obtain ⟨fuel, hf⟩ := h
  obtain ⟨a, cap, L, hc, hs, hm⟩ := Pks.open_picks_trod hf
  simp [Value.cells] at hc
  obtain ⟨rfl, rfl, rfl⟩ := hc
  exact ⟨_, _, L, rfl, hs, hm⟩
end Go.Proofs.Ytgnjhmmedogcoaa

/- Contracts of the laws' functions that copy and measure rows of picks, over this seat's translation: the copy is a new row with the same picks; nothing that was there before the call has changed. Condition: at most 1048576 picks. -/
namespace Go.Proofs.Ytgnjhmmedogcoaa
open Go.RowKit Go.Sort

set_option maxRecDepth 100000 in
set_option maxHeartbeats 2000000 in
theorem toPick_any (n a b c d : Int) (w : World) : Calls Try.prog 67 #[pick n a b c d] w fun e w' => e = .returned (pick n a b c d) ∧ Below w.heap.size w w' := by
  go_enter Try.func67, Try.ntmps67
  go_wp2_with fail
  refine (toVersion_any a b c d _).mono ?_
  rintro e w1 ⟨rfl, hb1⟩
  have b1 : Below w.heap.size w w1 := (show Below w.heap.size w _ from by go_grown).trans (hb1.mono (by simp; omega))
  have s1 : w.heap.size + 1 + 1 + 1 ≤ w1.heap.size := by have := hb1.size; simp at this; omega
  obtain ⟨hc, hf⟩ : (∀ b o, b < w.heap.size + 1 + 1 + 1 → w1.cell? ⟨b, o, none⟩ = _) ∧ (∀ b o, b < w.heap.size + 1 + 1 + 1 → w1.frozen? ⟨b, o, none⟩ = _) :=
    ⟨fun b o hbo => hb1.cell (p := ⟨b, o, none⟩) (by simp; omega), fun b o hbo => hb1.frozen (p := ⟨b, o, none⟩) (by simp; omega)⟩
  clear hb1
  go_wp2_with fail
  exact bodyPost_ret (v := pick n a b c d) (by simp [results, Try.results67, go_sem, hc]) rfl ⟨rfl, by go_grown⟩

theorem infoPick : (Try.prog.info? 68).map (fun i => (i.zero, i.size, i.bytes)) = some (some (.agg #[.int .i64 0, .int .i64 0, .int .i64 0, .int .i64 0, .int .i64 0]), 5, 40) := by kernel_rfl

/-- 'make([]impl.Pick, n)'. -/
theorem make_picks (n : Nat) (hn : n ≤ 1048576) (V : World) :
    (Instr.makeSlice 40 (.int .i64 (n : Int)) (.int .i64 (n : Int))).run Try.prog V = .ok (.slice (some ⟨V.heap.size, 0, none⟩) n n) (V.alloc (.cells (madeCells #[.int .i64 0, .int .i64 0, .int .i64 0, .int .i64 0, .int .i64 0] (n * 5)) 68)) := by
  obtain ⟨i0, hi, hz0, hz1, hz2⟩ := info_parts infoPick
  have h := run_make (P := Try.prog) V 40 68 i0 _ Try.underlying40 hi hz0 .i64 .i64 (n : Int) (n : Int) (by omega) (Int.le_refl _) (by rw [hz2]; omega) (by omega)
  rw [hz1] at h
  simpa [Value.cells] using h

theorem made_picks (n : Nat) (V : World) : PkBlk (V.alloc (.cells (madeCells #[.int .i64 0, .int .i64 0, .int .i64 0, .int .i64 0, .int .i64 0] (n * 5)) 68)) V.heap.size n [] :=
  ⟨_, heap_alloc_new V _, size_madeCells _ _, Nat.zero_le _, fun i hi => absurd hi (by simp)⟩

/-- What the loop of toPickS keeps: the first k picks are copied. -/
def PToRel (L : List Pk) (w : World) (g : Nat) (i : Value) (wr : World) : Prop :=
  ∃ k : Nat, k ≤ L.length ∧ i = .int .i64 (k : Int) ∧ PkBlk wr g L.length (L.take k) ∧ Below w.heap.size w wr

theorem pto_push {L : List Pk} {w wr : World} {k : Nat} {x a1 b1 c1 d1 : Int} (hxy : L[k]? = some (x, a1, b1, c1, d1)) (hk : k < L.length) (hblk : PkBlk wr w.heap.size L.length (L.take k)) (hb : Below w.heap.size w wr) :
    PToRel L w w.heap.size (.int .i64 ((k : Int) + 1)) (((((wr.setCell ⟨w.heap.size, k * 5, none⟩ (.int .i64 x)).setCell ⟨w.heap.size, k * 5 + 1, none⟩ (.int .i64 a1)).setCell ⟨w.heap.size, k * 5 + 2, none⟩ (.int .i64 b1)).setCell ⟨w.heap.size, k * 5 + 3, none⟩ (.int .i64 c1)).setCell ⟨w.heap.size, k * 5 + 4, none⟩ (.int .i64 d1)) := by
  have hl : (L.take k).length = k := by simp; omega
  have h := hblk.push (by omega) x a1 b1 c1 d1
  rw [hl] at h
  refine ⟨k + 1, by omega, by go_num, ?_, ((((hb.setCell (by simp) _).setCell (by simp) _).setCell (by simp) _).setCell (by simp) _).setCell (by simp) _⟩
  rw [List.take_add_one, hxy]
  exact h

def PToPost (L : List Pk) (w : World) (e : Ending) (w' : World) : Prop :=
  ∃ g, e = .returned (.slice (some ⟨g, 0, none⟩) L.length L.length) ∧ PkBlk w' g L.length L ∧ w.heap.size ≤ g ∧ Below w.heap.size w w'

set_option maxRecDepth 100000 in
set_option maxHeartbeats 2000000 in
theorem toPickS_any (v : Value) (L : List Pk) (w : World) (h : PkAt w w.heap.size v L) (hl : L.length ≤ 1048576) : Calls Try.prog 30 #[v] w (PToPost L w) := by
  obtain ⟨a, cap, rfl, h⟩ := h
  have hmk := make_picks L.length hl
  go_enter Try.func30, Try.ntmps30
  go_wp2
  clear hmk
  go_loopw [4] (fun i wr => PToRel L w w.heap.size i wr) (fun i _ => L.length - (intOf i).toNat)
  case atStart => exact ⟨0, Nat.zero_le _, rfl, by rw [List.take_zero]; exact made_picks _ _, (Below.refl _ _).alloc (Nat.le_refl _) _⟩
  case round =>
    obtain ⟨k, hk, rfl, hblk, hb⟩ := hrel
    by_cases hlt : k < L.length
    · rcases h with h | ⟨b, o, rfl, hB, hc⟩
      · subst h
        exact absurd hlt (by simp)
      obtain ⟨x, a1, b1, c1, d1, hxy⟩ : ∃ x a1 b1 c1 d1, L[k] = (x, a1, b1, c1, d1) := ⟨_, _, _, _, _, rfl⟩
      have c := (hc k hlt).below hb hB
      rw [hxy] at c
      obtain ⟨e0, e1, e2, e3, e4⟩ := c
      simp only at e0 e1 e2 e3 e4
      have HXY := Lib.hid (show L[k]? = some (x, a1, b1, c1, d1) by rw [List.getElem?_eq_getElem hlt, hxy])
      clear hxy hc
      have HB := Lib.hid hblk
      have hg := hblk.lt
      clear hblk
      go_wp2_with fail
      refine (toPick_any x a1 b1 c1 d1 wr).mono ?_
      rintro e w2 ⟨rfl, hb2⟩
      have blk2 := HB.out.below hb2
      have bel2 := hb.trans (hb2.mono hb.size)
      have pl := blk2.place hlt
      obtain ⟨⟨p0, hp0⟩, ⟨p1, hp1⟩, ⟨p2, hp2⟩, ⟨p3, hp3⟩, ⟨p4, hp4⟩, f0, f1, f2, f3, f4⟩ := pl
      have HP := Lib.hid (pto_push HXY.out hlt blk2 bel2)
      clear hb hb2 e0 e1 e2 e3 e4 blk2 bel2
      go_wp2_with fail
      go_roundw
      case rel => exact HP.out
      case measure => simp [intOf]; omega
    · obtain rfl : k = L.length := by omega
      rw [List.take_length] at hblk
      go_wp2_with fail
      go_ret
      exact ⟨w.heap.size, rfl, hblk, Nat.le_refl _, hb⟩

/-- What is left of a measure behind a number of picks, or -1. -/
def pleft (left : Int) (n : Nat) : Int := if left < (n : Int) then -1 else left - (n : Int)

set_option maxHeartbeats 1000000 in
theorem szPickS_any (v : Value) (L : List Pk) (left : Int) (w : World) (h0 : 0 ≤ left) (h1 : left ≤ 1048576) (hl : L.length ≤ maxLen) (h : PkAt w w.heap.size v L) :
    Calls Try.prog 28 #[v, .int .i64 left] w fun e w' => e = .returned (.int .i64 (pleft left L.length)) ∧ Below w.heap.size w w' := by
  obtain ⟨a, cap, rfl, h⟩ := h
  unfold maxLen at hl
  unfold pleft
  by_cases hs : left < (L.length : Int)
  · rw [if_pos hs]
    clear h
    go_enter Try.func28, Try.ntmps28
    go_wp2_with fail
    go_ret
    exact ⟨rfl, Below.refl _ _⟩
  · rw [if_neg hs]
    have hn : ¬ left - (L.length : Int) < 0 := by omega
    clear h
    go_enter Try.func28, Try.ntmps28
    go_wp2_with fail
    go_ret
    exact ⟨rfl, Below.refl _ _⟩

end Go.Proofs.Ytgnjhmmedogcoaa

/- Contracts of the laws' functions that compare picks, over this seat's translation: they answer whether the picks are the same; nothing that was there before the call has changed. Condition: at most 1048576 picks. -/
namespace Go.Proofs.Ytgnjhmmedogcoaa
open Go.RowKit Go.Sort

set_option maxRecDepth 100000 in
set_option maxHeartbeats 2000000 in
theorem eqPick_any (x a b c d x' a' b' c' d' : Int) (w : World) :
    Calls Try.prog 64 #[pick x a b c d, pick x' a' b' c' d'] w fun e w' => e = .returned (.bool (decide (((x, a, b, c, d) : Pk) = (x', a', b', c', d')))) ∧ Below w.heap.size w w' := by
  have KV := Lib.hid fun V => eqVersion_any a b c d a' b' c' d' V
  by_cases hx : x = x'
  · subst hx
    have b0 : ∀ o p, Below w.heap.size w ((w.alloc o).alloc p) := fun o p => ((Below.refl w.heap.size w).alloc (Nat.le_refl _) o).alloc (by simp) p
    have hr : decide (((x, a, b, c, d) : Pk) = (x, a', b', c', d')) = vEq a b c d a' b' c' d' := by
      unfold vEq
      by_cases h1 : a = a' <;> by_cases h2 : b = b' <;> by_cases h3 : c = c' <;> by_cases h4 : d = d' <;> simp [h1, h2, h3, h4]
    rw [hr]
    clear hr
    rcases hv : vEq a b c d a' b' c' d'
    all_goals
      rw [hv] at KV
      clear hv
      go_enter Try.func64, Try.ntmps64
      go_wp2_with fail
      refine (KV.out _).mono ?_
      rintro e w2 ⟨rfl, hb⟩
      have b2 := (b0 _ _).trans (hb.mono (b0 _ _).size)
      clear hb
      go_wp2_with fail
      go_ret
      exact ⟨rfl, b2⟩
  · rw [decide_eq_false (p := ((x, a, b, c, d) : Pk) = (x', a', b', c', d')) (fun e => by simp only [Prod.mk.injEq] at e; exact hx e.1)]
    go_enter Try.func64, Try.ntmps64
    go_wp2_with fail
    go_ret
    exact ⟨rfl, ((Below.refl w.heap.size w).alloc (Nat.le_refl _) _).alloc (by simp) _⟩

/-- What the loop of eqPickS keeps: the first k picks are alike. -/
def PEqRel (M N : List Pk) (w : World) (i : Value) (wr : World) : Prop :=
  ∃ k : Nat, k ≤ M.length ∧ i = .int .i64 (k : Int) ∧ M.take k = N.take k ∧ Below w.heap.size w wr

theorem peq_push {M N : List Pk} {w wr : World} {k : Nat} {q : Pk} (hk : k < M.length) (hM : M[k]? = some q) (hN : N[k]? = some q) (ht : M.take k = N.take k) (hb : Below w.heap.size w wr) :
    PEqRel M N w (.int .i64 ((k : Int) + 1)) wr :=
  ⟨k + 1, by omega, by go_num, by rw [List.take_add_one, List.take_add_one, hM, hN, ht], hb⟩

theorem pdiffer_at {M N : List Pk} {k : Nat} {q q' : Pk} (hM : M[k]? = some q) (hN : N[k]? = some q') (h : ¬ q = q') : ¬ M = N := by
  rintro rfl
  rw [hM] at hN
  exact h (Option.some.inj hN)

set_option maxRecDepth 100000 in
set_option maxHeartbeats 4000000 in
theorem eqPickS_any (v v' : Value) (M N : List Pk) (w : World) (hl : M.length ≤ 1048576) (hm : N.length ≤ 1048576) (h : PkAt w w.heap.size v M) (h' : PkAt w w.heap.size v' N) :
    Calls Try.prog 25 #[v, v'] w fun e w' => e = .returned (.bool (decide (M = N))) ∧ Below w.heap.size w w' := by
  obtain ⟨a, cap, rfl, hc⟩ := h
  obtain ⟨a', cap', rfl, hc'⟩ := h'
  have H := Lib.hid hc
  have H' := Lib.hid hc'
  clear hc hc'
  by_cases hLM : N.length = M.length
  · have HLM := Lib.hid hLM
    have hz : ((M.length : Int) != (M.length : Int)) = false := by simp
    rw [hLM]
    clear hLM
    go_enter Try.func25, Try.ntmps25
    go_wp2
    go_loopw [5] (fun i wr => PEqRel M N w i wr) (fun i _ => M.length - (intOf i).toNat)
    case atStart => exact ⟨0, Nat.zero_le _, rfl, rfl, Below.refl _ _⟩
    case round =>
      obtain ⟨k, hk, rfl, ht, hb⟩ := hrel
      have HT := Lib.hid ht
      clear ht
      by_cases hlt : k < M.length
      · rcases H.out with h1 | ⟨b, o, rfl, hB, hc⟩
        · subst h1
          exact absurd hlt (by simp)
        rcases H'.out with h2 | ⟨b', o', rfl, hB', hc'⟩
        · have := HLM.out
          subst h2
          simp at this
          omega
        have hlt' : k < N.length := by have := HLM.out; omega
        obtain ⟨x, p, q, r, s, hxy⟩ : ∃ x p q r s, M[k] = (x, p, q, r, s) := ⟨_, _, _, _, _, rfl⟩
        obtain ⟨x', p', q', r', s', hxy'⟩ : ∃ x p q r s, N[k] = (x, p, q, r, s) := ⟨_, _, _, _, _, rfl⟩
        have m1 := (hc k hlt).below hb hB
        have m2 := (hc' k hlt').below hb hB'
        rw [hxy] at m1
        rw [hxy'] at m2
        obtain ⟨k0, k1, k2, k3, k4⟩ := m1
        obtain ⟨l0, l1, l2, l3, l4⟩ := m2
        simp only at k0 k1 k2 k3 k4 l0 l1 l2 l3 l4
        have HX := Lib.hid (show M[k]? = some (x, p, q, r, s) by rw [List.getElem?_eq_getElem hlt, hxy])
        have HX' := Lib.hid (show N[k]? = some (x', p', q', r', s') by rw [List.getElem?_eq_getElem hlt', hxy'])
        clear hc hc' hxy hxy'
        have i0 : (0 : Int) ≤ (k : Int) := by omega
        have i1 : (k : Int) < (M.length : Int) := by omega
        have t0 := cell_regrown k0
        have u0 := cell_regrown l0
        have t1 := cell_regrown k1
        have u1 := cell_regrown l1
        have t2 := cell_regrown k2
        have u2 := cell_regrown l2
        have t3 := cell_regrown k3
        have u3 := cell_regrown l3
        have t4 := cell_regrown k4
        have u4 := cell_regrown l4
        by_cases heq : ((x, p, q, r, s) : Pk) = (x', p', q', r', s')
        · have K : Hid (∀ V, Calls Try.prog 64 #[pick x p q r s, pick x' p' q' r' s'] V fun e w' => e = .returned (.bool true) ∧ Below V.heap.size V w') := Lib.hid fun V => by
            have := eqPick_any x p q r s x' p' q' r' s' V
            rwa [decide_eq_true heq] at this
          have HE := Lib.hid heq
          clear heq
          go_wp2_with fail
          refine wp_region_quiet_below (by kernel_rfl) (by kernel_rfl) ?_
          repeat (any_goals (first | go_big_quiet_step ((go_at_call 64; exact Calls.regrown_of (K.out _))) | quiet_step ((go_at_call 64; exact Calls.regrown_of (K.out _)))))
          refine wpQuiet_nil ?_
          intro W2 hw
          have nn := quiet_end hw
          clear hw t0 t1 t2 t3 t4 u0 u1 u2 u3 u4
          have HP := Lib.hid (peq_push (w := w) hlt HX.out (by rw [HE.out]; exact HX'.out) HT.out (hb.trans (nn.mono hb.size)))
          go_wp2_with fail
          go_roundw
          case rel => exact HP.out
          case measure => simp [intOf]; omega
        · have K : Hid (∀ V, Calls Try.prog 64 #[pick x p q r s, pick x' p' q' r' s'] V fun e w' => e = .returned (.bool false) ∧ Below V.heap.size V w') := Lib.hid fun V => by
            have := eqPick_any x p q r s x' p' q' r' s' V
            rwa [decide_eq_false heq] at this
          have HN := Lib.hid (pdiffer_at HX.out HX'.out heq)
          clear heq
          go_wp2_with fail
          refine wp_region_quiet_below (by kernel_rfl) (by kernel_rfl) ?_
          repeat (any_goals (first | go_big_quiet_step ((go_at_call 64; exact Calls.regrown_of (K.out _))) | quiet_step ((go_at_call 64; exact Calls.regrown_of (K.out _)))))
          refine wpQuiet_nil ?_
          intro W2 hw
          have nn := quiet_end hw
          clear hw t0 t1 t2 t3 t4 u0 u1 u2 u3 u4
          go_wp2_with fail
          go_ret
          exact ⟨by rw [decide_eq_false HN.out]; rfl, hb.trans (nn.mono hb.size)⟩
      · obtain rfl : k = M.length := by omega
        have hd : M = N := by
          have := HT.out
          rw [List.take_length] at this
          rw [this]
          have := HLM.out
          rw [← this, List.take_length]
        have HD := Lib.hid (decide_eq_true hd)
        clear hd
        go_wp2_with fail
        go_ret
        exact ⟨by rw [HD.out]; rfl, hb⟩
  · have hz : ((M.length : Int) != (N.length : Int)) = true := by rw [bne_iff_ne]; omega
    have HD := Lib.hid (decide_eq_false (p := M = N) (fun e => hLM (by rw [e])))
    clear hLM
    go_enter Try.func25, Try.ntmps25
    go_wp2
    go_ret
    exact ⟨by rw [HD.out]; rfl, Below.refl _ _⟩

theorem eqPickS_same {v v' : Value} {M : List Pk} {w : World} (hl : M.length ≤ 1048576) (h : PkAt w w.heap.size v M) (h' : PkAt w w.heap.size v' M) :
    Calls Try.prog 25 #[v, v'] w fun e w' => e = .returned (.bool true) ∧ Below w.heap.size w w' := by
  have := eqPickS_any v v' M M w hl hl h h'
  rwa [decide_eq_true rfl] at this

end Go.Proofs.Ytgnjhmmedogcoaa

/- Contracts of PicksOk, the program's and the model's, over this seat's translation: both answer as the plain function pkOk of the picks; nothing that was there before the call has changed. Condition: at most 1048576 picks. -/
namespace Go.Proofs.Ytgnjhmmedogcoaa
open Go.RowKit Go.Sort

/-- Picks with ascending names from a number on, up to 7, each with a version. -/
def pkFrom (lo : Int) : List Pk → Bool
  | [] => true
  | x :: t => decide (lo ≤ x.1 ∧ x.1 ≤ 7) && (vOk x.2.1 x.2.2.1 x.2.2.2.1 x.2.2.2.2 && pkFrom (x.1 + 1) t)
def pkOk (M : List Pk) : Bool := pkFrom 0 M

/-- The least name that the pick at place k may have. -/
def pkLow (M : List Pk) : Nat → Int
  | 0 => 0
  | k + 1 => match M[k]? with | none => 0 | some x => x.1 + 1

theorem pkFrom_step {M : List Pk} {k : Nat} {x : Pk} (h : M[k]? = some x) (lo : Int) :
    pkFrom lo (M.drop k) = (decide (lo ≤ x.1 ∧ x.1 ≤ 7) && (vOk x.2.1 x.2.2.1 x.2.2.2.1 x.2.2.2.2 && pkFrom (x.1 + 1) (M.drop (k + 1)))) := by
  have hk : k < M.length := (List.getElem?_eq_some_iff.1 h).1
  rw [List.drop_eq_getElem_cons hk, (List.getElem?_eq_some_iff.1 h).2]
  rfl
theorem pkLow_next {M : List Pk} {k : Nat} {x : Pk} (h : M[k]? = some x) : pkLow M (k + 1) = x.1 + 1 := by simp [pkLow, h]

/-- What the loop of the program's PicksOk keeps: what is left decides. -/
def IPkRel (M : List Pk) (w : World) (lo i : Value) (wr : World) : Prop :=
  ∃ k : Nat, k ≤ M.length ∧ i = .int .i64 (k : Int) ∧ lo = .int .i64 (pkLow M k) ∧ pkFrom 0 M = pkFrom (pkLow M k) (M.drop k) ∧ 0 ≤ pkLow M k ∧ pkLow M k ≤ 8 ∧ Below w.heap.size w wr

theorem ipk_push {M : List Pk} {w wr : World} {k : Nat} {x a b c d : Int} (hM : M[k]? = some (x, a, b, c, d)) (ho : pkFrom 0 M = pkFrom (pkLow M k) (M.drop k)) (h0 : 0 ≤ pkLow M k) (h1 : pkLow M k ≤ x) (h2 : x ≤ 7) (h3 : vOk a b c d = true) (hb : Below w.heap.size w wr) :
    IPkRel M w (.int .i64 (x + 1)) (.int .i64 ((k : Int) + 1)) wr := by
  have hk : k < M.length := (List.getElem?_eq_some_iff.1 hM).1
  have e := pkLow_next hM
  simp only at e
  refine ⟨k + 1, by omega, by go_num, by rw [e], ?_, by omega, by omega, hb⟩
  rw [ho, pkFrom_step hM, e]
  simp [h1, h2, h3]

set_option maxRecDepth 100000 in
set_option maxHeartbeats 2000000 in
theorem implPicksOk_any (v : Value) (M : List Pk) (w : World) (hl : M.length ≤ 1048576) (h : PkAt w w.heap.size v M) :
    Calls Try.prog 43 #[v] w fun e w' => e = .returned (.bool (pkOk M)) ∧ Below w.heap.size w w' := by
  obtain ⟨a, cap, rfl, h⟩ := h
  go_enter Try.func43, Try.ntmps43
  go_wp2
  go_loopw [3, 8] (fun lo i wr => IPkRel M w lo i wr) (fun _ i _ => M.length - (intOf i).toNat)
  case atStart => exact ⟨0, Nat.zero_le _, rfl, rfl, rfl, by simp [pkLow], by simp [pkLow], Below.refl _ _⟩
  case round =>
    obtain ⟨k, hk, rfl, rfl, ho, l0, l8, hb⟩ := hrel
    have HO := Lib.hid ho
    clear ho
    by_cases hlt : k < M.length
    · rcases h with h | ⟨b, o, rfl, hB, hc⟩
      · subst h
        exact absurd hlt (by simp)
      obtain ⟨x, a1, b1, c1, d1, hxy⟩ : ∃ x a1 b1 c1 d1, M[k] = (x, a1, b1, c1, d1) := ⟨_, _, _, _, _, rfl⟩
      have m := (hc k hlt).below hb hB
      rw [hxy] at m
      obtain ⟨k0, k1, k2, k3, k4⟩ := m
      simp only at k0 k1 k2 k3 k4
      have HX := Lib.hid (show M[k]? = some (x, a1, b1, c1, d1) by rw [List.getElem?_eq_getElem hlt, hxy])
      clear hxy hc
      have step := pkFrom_step HX.out (pkLow M k)
      simp only at step
      have bb := hb.alloc hb.size (.cells #[.int .i64 x, .int .i64 a1, .int .i64 b1, .int .i64 c1, .int .i64 d1] 68)
      have hn := pkLow_next HX.out
      by_cases h1 : x < pkLow M k
      · have HF := Lib.hid (show pkOk M = false by unfold pkOk; rw [HO.out, step, decide_eq_false (by omega)]; simp)
        clear step hn
        generalize pkLow M k = lo at *
        go_wp2_with fail
        go_ret
        exact ⟨by rw [HF.out]; rfl, bb⟩
      by_cases h2 : 7 < x
      · have HF := Lib.hid (show pkOk M = false by unfold pkOk; rw [HO.out, step, decide_eq_false (by omega)]; simp)
        clear step hn
        generalize pkLow M k = lo at *
        go_wp2_with fail
        go_ret
        exact ⟨by rw [HF.out]; rfl, bb⟩
      have hx0 : 0 ≤ x := by omega
      have KR := Lib.hid (show ∀ V, Calls Try.prog 74 #[ver a1 b1 c1 d1] V _ from fun V => implOk_any a1 b1 c1 d1 V)
      rcases h3 : vOk a1 b1 c1 d1
      · have HF := Lib.hid (show pkOk M = false by unfold pkOk; rw [HO.out, step, h3]; simp)
        rw [h3] at KR
        clear step hn h3
        generalize pkLow M k = lo at *
        go_wp2_with fail
        refine (KR.out _).mono ?_
        rintro e w2 ⟨rfl, hb2⟩
        go_wp2_with fail
        go_ret
        exact ⟨by rw [HF.out]; rfl, bb.trans (hb2.mono bb.size)⟩
      · rw [h3] at KR
        have H3 := Lib.hid h3
        have L0 := Lib.hid l0
        have L1 := Lib.hid (show pkLow M k ≤ x by omega)
        clear step hn h3
        obtain ⟨lo, hlo⟩ : ∃ lo, pkLow M k = lo := ⟨_, rfl⟩
        have HLO := Lib.hid hlo
        rw [hlo] at l0 l8 h1 ⊢
        clear hlo
        go_wp2_with fail
        refine (KR.out _).mono ?_
        rintro e w2 ⟨rfl, hb2⟩
        have HP := Lib.hid (ipk_push HX.out HO.out L0.out L1.out (by omega) H3.out (bb.trans (hb2.mono bb.size)))
        have bx : w2.cell? ⟨wr.heap.size, 0, none⟩ = some (.int .i64 x) := (hb2.cell (p := ⟨wr.heap.size, 0, none⟩) (by simp)).trans (by go_simp)
        clear hb hb2 bb
        go_wp2_with fail
        go_roundw
        case rel => exact HP.out
        case measure => simp [intOf]; omega
    · obtain rfl : k = M.length := by omega
      have HF := Lib.hid (show pkOk M = true by unfold pkOk; rw [HO.out, List.drop_length]; simp [pkFrom])
      generalize pkLow M M.length = lo at *
      go_wp2_with fail
      go_ret
      exact ⟨by rw [HF.out]; rfl, hb⟩

/-- What the loop of the model's PicksOk keeps: what is left decides. -/
def SPkRel (M : List Pk) (w : World) (i : Value) (wr : World) : Prop :=
  ∃ k : Nat, k ≤ M.length ∧ i = .int .i64 (k : Int) ∧ pkFrom 0 M = pkFrom (pkLow M k) (M.drop k) ∧ 0 ≤ pkLow M k ∧ Below w.heap.size w wr

theorem spk_push {M : List Pk} {w wr : World} {k : Nat} {x a b c d : Int} (hM : M[k]? = some (x, a, b, c, d)) (ho : pkFrom 0 M = pkFrom (pkLow M k) (M.drop k)) (h1 : pkLow M k ≤ x) (hI : inB x 0 7 = true) (h3 : vOk a b c d = true) (hb : Below w.heap.size w wr) :
    SPkRel M w (.int .i64 ((k : Int) + 1)) wr := by
  have hk : k < M.length := (List.getElem?_eq_some_iff.1 hM).1
  have e := pkLow_next hM
  have h2 := inB_iff.1 hI
  simp only at e
  refine ⟨k + 1, by omega, by go_num, ?_, by omega, hb⟩
  rw [ho, pkFrom_step hM, e]
  simp [h1, h2.2, h3]

theorem l1In_same (n lo hi : Int) (w : World) : Calls Try.prog 84 #[.int .i64 n, .int .i64 lo, .int .i64 hi] w fun e w' => e = .returned (.bool (inB n lo hi)) ∧ Below w.heap.size w w' :=
  (l1In_any n lo hi w).mono fun _ _ ⟨he, hw⟩ => ⟨he, by subst hw; exact Below.refl _ _⟩

set_option maxRecDepth 100000 in
set_option maxHeartbeats 4000000 in
theorem specPicksOk_any (v : Value) (M : List Pk) (w : World) (hl : M.length ≤ 1048576) (h : PkAt w w.heap.size v M) :
    Calls Try.prog 65 #[v] w fun e w' => e = .returned (.bool (pkOk M)) ∧ Below w.heap.size w w' := by
  obtain ⟨a, cap, rfl, h⟩ := h
  go_enter Try.func65, Try.ntmps65
  go_wp2
  go_loopw [3] (fun i wr => SPkRel M w i wr) (fun i _ => M.length - (intOf i).toNat)
  case atStart => exact ⟨0, Nat.zero_le _, rfl, rfl, by simp [pkLow], Below.refl _ _⟩
  case round =>
    obtain ⟨k, hk, rfl, ho, l0, hb⟩ := hrel
    have HO := Lib.hid ho
    clear ho
    by_cases hlt : k < M.length
    · rcases h with h | ⟨b, o, rfl, hB, hc⟩
      · subst h
        exact absurd hlt (by simp)
      obtain ⟨x, a1, b1, c1, d1, hxy⟩ : ∃ x a1 b1 c1 d1, M[k] = (x, a1, b1, c1, d1) := ⟨_, _, _, _, _, rfl⟩
      have m := (hc k hlt).below hb hB
      rw [hxy] at m
      obtain ⟨k0, k1, k2, k3, k4⟩ := m
      simp only at k0 k1 k2 k3 k4
      have HX := Lib.hid (show M[k]? = some (x, a1, b1, c1, d1) by rw [List.getElem?_eq_getElem hlt, hxy])
      have HC := Lib.hid hc
      clear hxy hc
      have step := pkFrom_step HX.out (pkLow M k)
      simp only at step
      have i0 : (0 : Int) ≤ (k : Int) := by omega
      have i1 : (k : Int) < (M.length : Int) := by omega
      have t0 := cell_regrown k0
      have t1 := cell_regrown k1
      have t2 := cell_regrown k2
      have t3 := cell_regrown k3
      have t4 := cell_regrown k4
      rcases hI : inB x 0 7
      · have HF := Lib.hid (show pkOk M = false by
          have : ¬ (0 ≤ x ∧ x ≤ 7) := fun e => by rw [inB_iff.2 e] at hI; cases hI
          unfold pkOk; rw [HO.out, step, decide_eq_false (by omega)]; simp)
        have KI : Hid (∀ V, Calls Try.prog 84 #[.int .i64 x, .int .i64 0, .int .i64 7] V fun e w' => e = .returned (.bool false) ∧ Below V.heap.size V w') := Lib.hid fun V => by have := l1In_same x 0 7 V; rwa [hI] at this
        clear step l0 hI
        go_wp2_with fail
        refine wp_region_quiet_below (by kernel_rfl) (by kernel_rfl) ?_
        repeat (any_goals (first | go_big_quiet_step ((first | (go_at_call 84; exact Calls.regrown_of (KI.out _)))) | quiet_step ((first | (go_at_call 84; exact Calls.regrown_of (KI.out _))))))
        refine wpQuiet_nil ?_
        intro W2 hw
        have nn := quiet_end hw
        clear hw t0 t1 t2 t3 t4
        go_wp2_with fail
        go_ret
        exact ⟨by rw [HF.out]; rfl, hb.trans (nn.mono hb.size)⟩
      have HI := Lib.hid hI
      obtain ⟨x0, x7⟩ := inB_iff.1 hI
      have KI : Hid (∀ V, Calls Try.prog 84 #[.int .i64 x, .int .i64 0, .int .i64 7] V fun e w' => e = .returned (.bool true) ∧ Below V.heap.size V w') := Lib.hid fun V => by have := l1In_same x 0 7 V; rwa [hI] at this
      have KR := Lib.hid (show ∀ V, Calls Try.prog 85 #[ver a1 b1 c1 d1] V _ from fun V => specOk_any a1 b1 c1 d1 V)
      rcases h3 : vOk a1 b1 c1 d1
      · have HF := Lib.hid (show pkOk M = false by unfold pkOk; rw [HO.out, step, h3]; simp)
        rw [h3] at KR
        clear step l0 hI h3
        go_wp2_with fail
        refine wp_region_quiet_below (by kernel_rfl) (by kernel_rfl) ?_
        repeat (any_goals (first | go_big_quiet_step ((first | (go_at_call 84; exact Calls.regrown_of (KI.out _)) | (go_at_call 85; exact Calls.regrown_of (KR.out _)))) | quiet_step ((first | (go_at_call 84; exact Calls.regrown_of (KI.out _)) | (go_at_call 85; exact Calls.regrown_of (KR.out _))))))
        refine wpQuiet_nil ?_
        intro W2 hw
        have nn := quiet_end hw
        clear hw t0 t1 t2 t3 t4
        go_wp2_with fail
        go_ret
        exact ⟨by rw [HF.out]; rfl, hb.trans (nn.mono hb.size)⟩
      rw [h3] at KR
      have H3 := Lib.hid h3
      rcases Nat.eq_zero_or_pos k with hkz | hkp
      · have HN := Lib.hid (show pkLow M k ≤ x by rw [hkz]; exact x0)
        have hk0 : decide ((0 : Int) < (k : Int)) = false := decide_eq_false (by omega)
        have hk1 : decide (0 < k) = false := decide_eq_false (by omega)
        clear step l0 hI h3 hkz
        go_wp2_with fail
        refine wp_region_quiet_below (by kernel_rfl) (by kernel_rfl) ?_
        repeat (any_goals (first | go_big_quiet_step ((first | (go_at_call 84; exact Calls.regrown_of (KI.out _)) | (go_at_call 85; exact Calls.regrown_of (KR.out _)))) | quiet_step ((first | (go_at_call 84; exact Calls.regrown_of (KI.out _)) | (go_at_call 85; exact Calls.regrown_of (KR.out _))))))
        refine wpQuiet_nil ?_
        intro W2 hw
        have nn := quiet_end hw
        clear hw t0 t1 t2 t3 t4
        have HP := Lib.hid (spk_push HX.out HO.out HN.out HI.out H3.out (hb.trans (nn.mono hb.size)))
        go_wp2_with fail
        go_roundw
        case rel => exact HP.out
        case measure => simp [intOf]; omega
      · obtain ⟨m, rfl⟩ : ∃ m, k = m + 1 := ⟨k - 1, by omega⟩
        obtain ⟨p, a2, b2, c2, d2, hxp⟩ : ∃ p a2 b2 c2 d2, M[m] = (p, a2, b2, c2, d2) := ⟨_, _, _, _, _, rfl⟩
        have cm := ((HC.out m (by omega)).below hb hB)
        rw [hxp] at cm
        obtain ⟨j0', j1', j2', j3', j4'⟩ := cm
        simp only at j0' j1' j2' j3' j4'
        have hlow : pkLow M (m + 1) = p + 1 := pkLow_next (x := (p, a2, b2, c2, d2)) (by rw [List.getElem?_eq_getElem (show m < M.length by omega), hxp])
        have j0 : (0 : Int) ≤ (m : Int) := by omega
        have j1 : (m : Int) < (M.length : Int) := by omega
        have hk0 : (0 : Int) < (m : Int) + 1 := by omega
        have t5 := cell_regrown j0'
        clear hxp
        by_cases hpx : p < x
        · have HN := Lib.hid (show pkLow M (m + 1) ≤ x by omega)
          clear step l0 hI h3 hlow
          go_wp2_with fail
          refine wp_region_quiet_below (by kernel_rfl) (by kernel_rfl) ?_
          repeat (any_goals (first | go_big_quiet_step ((first | (go_at_call 84; exact Calls.regrown_of (KI.out _)) | (go_at_call 85; exact Calls.regrown_of (KR.out _)))) | quiet_step ((first | (go_at_call 84; exact Calls.regrown_of (KI.out _)) | (go_at_call 85; exact Calls.regrown_of (KR.out _))))))
          refine wpQuiet_nil ?_
          intro W2 hw
          have nn := quiet_end hw
          clear hw t0 t1 t2 t3 t4 t5
          have HP := Lib.hid (spk_push HX.out HO.out HN.out HI.out H3.out (hb.trans (nn.mono hb.size)))
          go_wp2_with fail
          go_roundw
          case rel => exact HP.out
          case measure => simp [intOf]; omega
        · have HF := Lib.hid (show pkOk M = false by unfold pkOk; rw [HO.out, step, decide_eq_false (by omega)]; simp)
          clear step l0 hI h3 hlow
          go_wp2_with fail
          refine wp_region_quiet_below (by kernel_rfl) (by kernel_rfl) ?_
          repeat (any_goals (first | go_big_quiet_step ((first | (go_at_call 84; exact Calls.regrown_of (KI.out _)) | (go_at_call 85; exact Calls.regrown_of (KR.out _)))) | quiet_step ((first | (go_at_call 84; exact Calls.regrown_of (KI.out _)) | (go_at_call 85; exact Calls.regrown_of (KR.out _))))))
          refine wpQuiet_nil ?_
          intro W2 hw
          have nn := quiet_end hw
          clear hw t0 t1 t2 t3 t4 t5
          go_wp2_with fail
          go_ret
          exact ⟨by rw [HF.out]; rfl, hb.trans (nn.mono hb.size)⟩
    · obtain rfl : k = M.length := by omega
      have HF := Lib.hid (show pkOk M = true by unfold pkOk; rw [HO.out, List.drop_length]; simp [pkFrom])
      go_wp2_with fail
      go_ret
      exact ⟨by rw [HF.out]; rfl, hb⟩

end Go.Proofs.Ytgnjhmmedogcoaa

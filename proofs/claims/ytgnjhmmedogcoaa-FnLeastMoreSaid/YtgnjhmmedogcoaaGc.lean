/- Groundwork over this seat's translation: Nd, Spopen, Ndopen, Ndto, Ndsz, Ndeq, Rm, Rmopen, Rto, Rsz, Req, Rlb in one text; the conditions stand at each part. -/
import Derived.Test.YtgnjhmmedogcoaaGb
import Derived.Test.YtgnjhmmedogcoaaGa
import Derived.Deep.Slices
import Derived.Deep.RegionHeld3
import Derived.Deep.CutRange

/- Rows of needs in memory, over this seat's translation: what it is for a slice value to hold a list of needs (a name, and a row of spans), and for a block to be such a row whose spans lie behind it. No condition. -/
namespace Go.Proofs.Ytgnjhmmedogcoaa
open Go.RowKit Go.Sort

abbrev Nd := Int × List (Int × Int)
abbrev need (a : Int) (v : Value) : Value := .agg #[.int .i64 a, v]

/-- The cells of one need: its name, and a slice of spans in blocks below B. -/
def NdC (w : World) (B b o : Nat) (x : Nd) : Prop :=
  w.cell? ⟨b, o, none⟩ = some (.int .i64 x.1) ∧ ∃ a cap, w.cell? ⟨b, o + 1, none⟩ = some (.slice a x.2.length cap) ∧ SpAt w B (.slice a x.2.length cap) x.2
theorem NdC.below {w w' : World} {B b o : Nat} {x : Nd} (h : NdC w B b o x) (hb : Below B w w') (hB : b < B) : NdC w' B b o x := by
  obtain ⟨h0, a, cap, h1, hs⟩ := h
  exact ⟨(hb.cell (p := ⟨b, o, none⟩) hB).trans h0, a, cap, (hb.cell (p := ⟨b, o + 1, none⟩) hB).trans h1, hs.below hb⟩
theorem NdC.mono {w : World} {B B' b o : Nat} {x : Nd} (h : NdC w B b o x) (hB : B ≤ B') : NdC w B' b o x := by
  obtain ⟨h0, a, cap, h1, hs⟩ := h
  exact ⟨h0, a, cap, h1, hs.mono hB⟩

/-- A slice value that holds these needs, in blocks below B (or is empty). -/
def NdAt (w : World) (B : Nat) (v : Value) (M : List Nd) : Prop :=
  ∃ a cap, v = .slice a M.length cap ∧ (M = [] ∨ ∃ b o, a = some ⟨b, o, none⟩ ∧ b < B ∧ ∀ i (h : i < M.length), NdC w B b (o + i * 2) M[i])
theorem NdAt.below {w w' : World} {B : Nat} {v : Value} {M : List Nd} (h : NdAt w B v M) (hb : Below B w w') : NdAt w' B v M := by
  obtain ⟨a, cap, rfl, h⟩ := h
  refine ⟨a, cap, rfl, ?_⟩
  rcases h with h | ⟨b, o, rfl, hB, hc⟩
  · exact .inl h
  · exact .inr ⟨b, o, rfl, hB, fun i hi => (hc i hi).below hb hB⟩
theorem NdAt.mono {w : World} {B B' : Nat} {v : Value} {M : List Nd} (h : NdAt w B v M) (hB : B ≤ B') : NdAt w B' v M := by
  obtain ⟨a, cap, rfl, h⟩ := h
  refine ⟨a, cap, rfl, ?_⟩
  rcases h with h | ⟨b, o, rfl, hb, hc⟩
  · exact .inl h
  · exact .inr ⟨b, o, rfl, by omega, fun i hi => (hc i hi).mono hB⟩

/-- A block that is a row of n needs, the first of which are M; their spans lie in blocks behind it. -/
def NdBlk (w : World) (g n : Nat) (M : List Nd) : Prop :=
  ∃ C : Array Value, w.heap[g]? = some (.cells C 59 (0, 0)) ∧ C.size = n * 2 ∧ M.length ≤ n ∧
    ∀ i (h : i < M.length), C[i * 2]? = some (.int .i64 M[i].1) ∧ ∃ a cap, C[i * 2 + 1]? = some (.slice a M[i].2.length cap) ∧ SRes M[i].2 (g + 1) (.slice a M[i].2.length cap) w

theorem NdBlk.lt {w : World} {g n : Nat} {M : List Nd} (h : NdBlk w g n M) : g < w.heap.size := by
  obtain ⟨C, h, _⟩ := h
  exact (Array.getElem?_eq_some_iff.1 h).1
theorem NdBlk.kept {w w' : World} {g n : Nat} {M : List Nd} (h : NdBlk w g n M) (hb : ∀ k, g ≤ k → k < w.heap.size → w'.heap[k]? = w.heap[k]?) : NdBlk w' g n M := by
  have hg := h.lt
  obtain ⟨C, h, hs, hl, hc⟩ := h
  refine ⟨C, (hb g (Nat.le_refl _) hg).trans h, hs, hl, fun i hi => ?_⟩
  obtain ⟨h1, a, cap, h2, hr⟩ := hc i hi
  exact ⟨h1, a, cap, h2, hr.kept fun k h1 h2 => hb k (by omega) h2⟩
theorem NdBlk.below {w w' : World} {g n : Nat} {M : List Nd} (h : NdBlk w g n M) (hb : Below w.heap.size w w') : NdBlk w' g n M := h.kept fun k _ hl => hb.block k hl
theorem NdBlk.at {w : World} {g n cap : Nat} {M : List Nd} (h : NdBlk w g n M) : NdAt w w.heap.size (.slice (some ⟨g, 0, none⟩) M.length cap) M := by
  have hg := h.lt
  obtain ⟨C, h, _, _, hc⟩ := h
  refine ⟨_, _, rfl, .inr ⟨g, 0, rfl, hg, fun i hi => ?_⟩⟩
  obtain ⟨h1, a, c, h2, hr⟩ := hc i hi
  rw [Nat.zero_add]
  exact ⟨(cell_of_row w g _ C _ (0, 0) h).trans h1, a, c, (cell_of_row w g _ C _ (0, 0) h).trans h2, hr.at⟩

/-- Each place of such a row can be written, and is what was written then. -/
theorem NdBlk.place {w : World} {g n : Nat} {M : List Nd} (h : NdBlk w g n M) {k : Nat} (hk : k < n) :
    (∃ x, w.cell? ⟨g, k * 2, none⟩ = some x) ∧ (∃ x, w.cell? ⟨g, k * 2 + 1, none⟩ = some x) ∧ w.frozen? ⟨g, k * 2, none⟩ = false ∧ w.frozen? ⟨g, k * 2 + 1, none⟩ = false := by
  obtain ⟨C, h, hs, _, _⟩ := h
  refine ⟨⟨C[k * 2]'(by omega), ?_⟩, ⟨C[k * 2 + 1]'(by omega), ?_⟩, ?_, ?_⟩
  · rw [cell_of_row w g _ C _ (0, 0) h]; exact Array.getElem?_eq_getElem _
  · rw [cell_of_row w g _ C _ (0, 0) h]; exact Array.getElem?_eq_getElem _
  · simp [World.frozen?, h]
  · simp [World.frozen?, h]

theorem NdBlk.push {w : World} {g n : Nat} {M : List Nd} (h : NdBlk w g n M) (hk : M.length < n) (x : Int) {a : Option Addr} {cap : Nat} {L : List (Int × Int)} (hr : SRes L (g + 1) (.slice a L.length cap) w) :
    NdBlk ((w.setCell ⟨g, M.length * 2, none⟩ (.int .i64 x)).setCell ⟨g, M.length * 2 + 1, none⟩ (.slice a L.length cap)) g n (M ++ [(x, L)]) := by
  obtain ⟨C, h, hs, hl, hc⟩ := h
  have keep : ∀ {K : List (Int × Int)} {v : Value}, SRes K (g + 1) v w → SRes K (g + 1) v ((w.setCell ⟨g, M.length * 2, none⟩ (.int .i64 x)).setCell ⟨g, M.length * 2 + 1, none⟩ (.slice a L.length cap)) :=
    fun hq => hq.kept fun k h1 _ => (Below.heap_setCell _ _ _ _ (by show k ≠ g; omega)).trans (Below.heap_setCell _ _ _ _ (by show k ≠ g; omega))
  refine ⟨(C.setIfInBounds (M.length * 2) (.int .i64 x)).setIfInBounds (M.length * 2 + 1) (.slice a L.length cap), ?_, by simpa using hs, by simp; omega, fun i hi => ?_⟩
  · simp [World.setCell, Array.getElem?_modify, h]
  · simp only [List.length_append, List.length_cons, List.length_nil] at hi
    by_cases e : i < M.length
    · obtain ⟨h1, a', c', h2, hq⟩ := hc i e
      rw [List.getElem_append_left e]
      refine ⟨?_, a', c', ?_, keep hq⟩
      · rw [Array.getElem?_setIfInBounds_ne (by omega), Array.getElem?_setIfInBounds_ne (by omega)]; exact h1
      · rw [Array.getElem?_setIfInBounds_ne (by omega), Array.getElem?_setIfInBounds_ne (by omega)]; exact h2
    · obtain rfl : i = M.length := by omega
      rw [List.getElem_append_right (Nat.le_refl _)]
      refine ⟨?_, a, cap, ?_, ?_⟩
      · rw [Array.getElem?_setIfInBounds_ne (by omega), Array.getElem?_setIfInBounds_self_of_lt (by omega)]; simp
      · rw [Array.getElem?_setIfInBounds_self_of_lt (by simp; omega)]; simp
      · simpa using keep hr

theorem SpAt.stepAt {L : List (Int × Int)} {u : Value} {w V : World} (h : SpAt w w.heap.size u L) (hb : Below w.heap.size w V) : SpAt V V.heap.size u L := (h.below hb).mono hb.size
theorem NdAt.stepAt {M : List Nd} {u : Value} {w V : World} (h : NdAt w w.heap.size u M) (hb : Below w.heap.size w V) : NdAt V V.heap.size u M := (h.below hb).mono hb.size

/-- How much of the law's measure a row of needs takes. -/
def ndSz : List Nd → Nat
  | [] => 0
  | x :: t => x.2.length + ndSz t
theorem ndSz_drop : ∀ (M : List Nd) (k : Nat) (x : Nd), M[k]? = some x → ndSz (M.drop k) = x.2.length + ndSz (M.drop (k + 1))
  | [], k, x, h => by simp at h
  | y :: t, 0, x, h => by
    simp at h
    subst h
    rfl
  | y :: t, k + 1, x, h => by
    simp only [List.getElem?_cons_succ] at h
    simpa using ndSz_drop t k x h
theorem ndSz_mem : ∀ (M : List Nd) (k : Nat) (x : Nd), M[k]? = some x → x.2.length ≤ ndSz M
  | [], k, x, h => by simp at h
  | y :: t, 0, x, h => by
    simp at h
    subst h
    simp [ndSz]
  | y :: t, k + 1, x, h => by
    simp only [List.getElem?_cons_succ] at h
    have := ndSz_mem t k x h
    simp only [ndSz]
    omega

end Go.Proofs.Ytgnjhmmedogcoaa

/- A range that comes in by value is a slice value that holds some list of spans. -/
namespace Go.Proofs.Ytgnjhmmedogcoaa
open Go.ChangeShapes Go.WideShapes Go.ChangeAt Go.RowKit Go.Joins Go.Deep

theorem lawSpan_cells : Try.prog.cellsOf 139 = 2 := by kernel_rfl
theorem lawRange_cells : Try.prog.cellsOf 88 = 1 := by kernel_rfl
theorem int_cells : Try.prog.cellsOf 3 = 1 := by kernel_rfl
theorem lawSpans_cells : Try.prog.cellsOf 86 = 1 := by kernel_rfl

theorem add_none (a : Addr) : a.add 0 = a := by simp [Addr.add]
theorem plain_add {b o n : Nat} : (⟨b, o, none⟩ : Addr).add n = ⟨b, o + n, none⟩ := by unfold Addr.add; split <;> simp_all

section
variable {H : Type} {enc : TypeId × Value → H} {w : World} {base : Nat} {held : Bool}

set_option maxRecDepth 100000 in
theorem open_span {fuel : Nat} {cs : List Value} {x : DataW H × List MemPlace} {spare : Nat → Bool} (h : DataW.trod enc Try.prog w base spare held fuel 139 cs = some x) : ∃ p : Int × Int, cs = [.int .i64 p.1, .int .i64 p.2] := by
  obtain ⟨y0, y1, n, _, hl, h0, h1⟩ := trod_struct2 Try.underlying139 h
  rw [lawSpan_cells] at hl
  match cs, hl with
  | [c0, c1], _ =>
    obtain ⟨a, e0, _, _⟩ := DataW.trod_int Try.underlying3 h0
    obtain ⟨b, e1, _, _⟩ := DataW.trod_int Try.underlying3 h1
    simp [int_cells] at e0 e1
    subst e0; subst e1
    exact ⟨(a, b), rfl⟩

set_option maxRecDepth 100000 in
theorem open_range {b0 : Nat} {v : Value} {d : DataW H} {p : List MemPlace} (hv : Value.okWide Try.prog w .any b0 88 v)
    (h : DataW.Trod enc Try.prog w 0 (fun _ => true) true 88 v d p) : ∃ a cap L, v = .agg #[.slice a L.length cap] ∧ SpAt w w.heap.size (.slice a L.length cap) L ∧ L.length ≤ maxLen := by
  obtain ⟨cs, rfl, hsz⟩ := okWide_struct Try.underlying88 hv
  obtain ⟨l⟩ := cs
  match l, hsz.trans lawRange_cells with
  | [c0], _ =>
    obtain ⟨fuel, hf⟩ := h
    obtain ⟨y0, n, _, _, h0⟩ := trod_struct1 Try.underlying88 hf
    simp [Value.cells, lawSpans_cells] at h0
    rcases open_slice Try.underlying86 h0 with ⟨hcs, _⟩ | ⟨a, len, cap, m, k, D, Pl, hcs, _, hl, hm, hmm, _, hel⟩
    · simp at hcs
      subst hcs
      exact ⟨none, 0, [], rfl, ⟨_, _, rfl, .inl rfl⟩, Nat.zero_le _⟩
    · simp at hcs
      subst hcs
      simp at hmm
      subst hmm
      rw [lawSpan_cells] at hel
      obtain ⟨X, hX⟩ := choose_lt (α := Int × Int) (p := fun i q => w.cell? (a.add (i * 2)) = some (.int .i64 q.1) ∧ w.cell? ((a.add (i * 2)).add 1) = some (.int .i64 q.2)) (fun i (hi : i < len) => by
        obtain ⟨cs', h1, h2⟩ := hel i (by omega)
        obtain ⟨q, rfl⟩ := open_span h2
        obtain ⟨_, _, h3⟩ := World.cells?_some h1
        have e0 := h3 0 (by omega)
        have e1 := h3 1 (by omega)
        rw [add_none] at e0
        exact ⟨q, e0, e1⟩)
      have hlen : ((List.range len).map X).length = len := by simp
      refine ⟨some a, m, (List.range len).map X, by rw [hlen], ?_, by rw [hlen]; omega⟩
      by_cases hz : len = 0
      · subst hz
        exact ⟨_, _, rfl, .inl rfl⟩
      · have c0 := (hX 0 (by omega)).1
        obtain ⟨b, o, spot⟩ := a
        rw [Nat.zero_mul, add_none] at c0
        have hspot : spot = none := by simpa using World.cell?_spot c0
        subst hspot
        refine ⟨_, _, rfl, .inr ⟨b, o, rfl, ?_, fun i hi => ?_⟩⟩
        · have := World.block_lt_of_cell? w _ c0
          simpa using this
        · have hi' : i < len := by simpa using hi
          obtain ⟨e0, e1⟩ := hX i hi'
          rw [plain_add] at e0 e1
          rw [plain_add] at e1
          simp only [List.getElem_map, List.getElem_range]
          exact ⟨e0, e1⟩
end
end Go.Proofs.Ytgnjhmmedogcoaa

/- A slice of needs that comes in by value holds some list of needs. -/
namespace Go.Proofs.Ytgnjhmmedogcoaa
open Go.ChangeShapes Go.WideShapes Go.ChangeAt Go.RowKit Go.Joins Go.Deep

theorem lawNeed_cells : Try.prog.cellsOf 90 = 2 := by kernel_rfl

section
variable {H : Type} {enc : TypeId × Value → H} {w : World} {held : Bool}

/-- A row of elements, out of its opened slice. -/
theorem choose_row {α : Type} [Inhabited α] {len : Nat} {p : Nat → α → Prop} (h : ∀ i, i < len → ∃ q, p i q) : ∃ X : List α, X.length = len ∧ ∀ i (hi : i < X.length), p i X[i] := by
  obtain ⟨X, hX⟩ := choose_lt h
  refine ⟨(List.range len).map X, by simp, fun i hi => ?_⟩
  have hi' : i < len := by simpa using hi
  simpa using hX i hi'

set_option maxRecDepth 100000 in
theorem open_spans_trod {fuel : Nat} {cs : List Value} {x : DataW H × List MemPlace} (h : DataW.trod enc Try.prog w 0 (fun _ => true) held fuel 86 cs = some x) :
    ∃ a cap L, cs = [.slice a L.length cap] ∧ SpAt w w.heap.size (.slice a L.length cap) L ∧ L.length ≤ maxLen := by
  rcases open_slice Try.underlying86 h with ⟨hcs, _⟩ | ⟨a, len, cap, m, k, D, Pl, hcs, _, hl, hm, hmm, _, hel⟩
  · subst hcs
    exact ⟨none, 0, [], rfl, ⟨_, _, rfl, .inl rfl⟩, Nat.zero_le _⟩
  · subst hcs
    simp at hmm
    subst hmm
    rw [lawSpan_cells] at hel
    obtain ⟨X, hlen, hX⟩ := choose_row (α := Int × Int) (p := fun i q => w.cell? (a.add (i * 2)) = some (.int .i64 q.1) ∧ w.cell? ((a.add (i * 2)).add 1) = some (.int .i64 q.2)) (fun i (hi : i < len) => by
      obtain ⟨cs', h1, h2⟩ := hel i (by omega)
      obtain ⟨q, rfl⟩ := open_span h2
      obtain ⟨_, _, h3⟩ := World.cells?_some h1
      have e0 := h3 0 (by omega)
      have e1 := h3 1 (by omega)
      rw [add_none] at e0
      exact ⟨q, e0, e1⟩)
    subst hlen
    refine ⟨some a, m, X, rfl, ?_, by omega⟩
    by_cases hz : X.length = 0
    · exact ⟨_, _, rfl, .inl (List.length_eq_zero_iff.1 hz)⟩
    · have c0 := (hX 0 (by omega)).1
      obtain ⟨b, o, spot⟩ := a
      rw [Nat.zero_mul, add_none] at c0
      have hspot : spot = none := by simpa using World.cell?_spot c0
      subst hspot
      refine ⟨_, _, rfl, .inr ⟨b, o, rfl, ?_, fun i hi => ?_⟩⟩
      · have := World.block_lt_of_cell? w _ c0
        simpa using this
      · obtain ⟨e0, e1⟩ := hX i hi
        rw [plain_add] at e0 e1
        rw [plain_add] at e1
        exact ⟨e0, e1⟩

set_option maxRecDepth 100000 in
theorem open_range_trod {fuel : Nat} {cs : List Value} {x : DataW H × List MemPlace} (hl : cs.length = 1) (h : DataW.trod enc Try.prog w 0 (fun _ => true) held fuel 88 cs = some x) :
    ∃ a cap L, cs = [.slice a L.length cap] ∧ SpAt w w.heap.size (.slice a L.length cap) L ∧ L.length ≤ maxLen := by
  match cs, hl with
  | [c0], _ =>
    obtain ⟨y0, n, _, _, h0⟩ := trod_struct1 Try.underlying88 h
    simp [lawSpans_cells] at h0
    exact open_spans_trod h0

set_option maxRecDepth 100000 in
theorem open_need_trod {fuel : Nat} {cs : List Value} {x : DataW H × List MemPlace} (h : DataW.trod enc Try.prog w 0 (fun _ => true) held fuel 90 cs = some x) :
    ∃ (q : Nd) (a : Option Addr) (cap : Nat), cs = [.int .i64 q.1, .slice a q.2.length cap] ∧ SpAt w w.heap.size (.slice a q.2.length cap) q.2 ∧ q.2.length ≤ maxLen := by
  obtain ⟨y0, y1, n, _, hl, h0, h1⟩ := trod_struct2 Try.underlying90 h
  rw [lawNeed_cells] at hl
  match cs, hl with
  | [c0, c1], _ =>
    obtain ⟨z, e0, _, _⟩ := DataW.trod_int Try.underlying3 h0
    simp [int_cells, lawRange_cells] at e0 h1
    obtain ⟨a, cap, L, e1, hs, hm⟩ := open_range_trod (by simp) h1
    simp at e1
    subst e0; subst e1
    exact ⟨(z, L), a, cap, rfl, hs, hm⟩

set_option maxRecDepth 100000 in
theorem open_needs_trod {fuel : Nat} {cs : List Value} {x : DataW H × List MemPlace} (h : DataW.trod enc Try.prog w 0 (fun _ => true) held fuel 23 cs = some x) :
    ∃ a cap M, cs = [.slice a M.length cap] ∧ NdAt w w.heap.size (.slice a M.length cap) M ∧ M.length ≤ maxLen ∧ ∀ q ∈ M, q.2.length ≤ maxLen := by
  rcases open_slice Try.underlying23 h with ⟨hcs, _⟩ | ⟨a, len, cap, m, k, D, Pl, hcs, _, hl, hm, hmm, _, hel⟩
  · subst hcs
    exact ⟨none, 0, [], rfl, ⟨_, _, rfl, .inl rfl⟩, Nat.zero_le _, by simp⟩
  · subst hcs
    simp at hmm
    subst hmm
    rw [lawNeed_cells] at hel
    obtain ⟨X, hlen, hX⟩ := choose_row (α := Nd) (p := fun i q => (w.cell? (a.add (i * 2)) = some (.int .i64 q.1) ∧ ∃ a' cap', w.cell? ((a.add (i * 2)).add 1) = some (.slice a' q.2.length cap') ∧ SpAt w w.heap.size (.slice a' q.2.length cap') q.2) ∧ q.2.length ≤ maxLen) (fun i (hi : i < len) => by
      obtain ⟨cs', h1, h2⟩ := hel i (by omega)
      obtain ⟨q, a', cap', rfl, hs, hq⟩ := open_need_trod h2
      obtain ⟨_, _, h3⟩ := World.cells?_some h1
      have e0 := h3 0 (by omega)
      have e1 := h3 1 (by omega)
      rw [add_none] at e0
      exact ⟨q, ⟨e0, a', cap', e1, hs⟩, hq⟩)
    subst hlen
    refine ⟨some a, m, X, rfl, ?_, by omega, fun q hq => ?_⟩
    · by_cases hz : X.length = 0
      · exact ⟨_, _, rfl, .inl (List.length_eq_zero_iff.1 hz)⟩
      · have c0 := (hX 0 (by omega)).1.1
        obtain ⟨b, o, spot⟩ := a
        rw [Nat.zero_mul, add_none] at c0
        have hspot : spot = none := by simpa using World.cell?_spot c0
        subst hspot
        refine ⟨_, _, rfl, .inr ⟨b, o, rfl, ?_, fun i hi => ?_⟩⟩
        · have := World.block_lt_of_cell? w _ c0
          simpa using this
        · obtain ⟨⟨e0, a', cap', e1, hs⟩, _⟩ := hX i hi
          rw [plain_add] at e0 e1
          rw [plain_add] at e1
          exact ⟨e0, a', cap', e1, hs⟩
    · obtain ⟨i, hi, rfl⟩ := List.getElem_of_mem hq
      exact (hX i hi).2

set_option maxRecDepth 100000 in
theorem open_needs {b0 : Nat} {v : Value} {d : DataW H} {p : List MemPlace} (hv : Value.okWide Try.prog w .any b0 23 v)
    (h : DataW.Trod enc Try.prog w 0 (fun _ => true) held 23 v d p) : ∃ a cap M, v = .slice a M.length cap ∧ NdAt w w.heap.size (.slice a M.length cap) M ∧ M.length ≤ maxLen ∧ ∀ q ∈ M, q.2.length ≤ maxLen := by
  obtain ⟨a0, len0, cap0, rfl⟩ := okWide_slice Try.underlying23 hv
  obtain ⟨fuel, hf⟩ := h
  obtain ⟨a, cap, M, hc, hs, hm, hq⟩ := open_needs_trod hf
  simp [Value.cells] at hc
  obtain ⟨rfl, rfl, rfl⟩ := hc
  exact ⟨_, _, M, rfl, hs, hm, hq⟩
end
end Go.Proofs.Ytgnjhmmedogcoaa

/- Contracts of the laws' functions that copy needs, over this seat's translation: the copy is a new row with the same needs; nothing that was there before the call has changed. Condition: at most 1048576 needs, and spans of each. -/
namespace Go.Proofs.Ytgnjhmmedogcoaa
open Go.RowKit Go.Sort

def NeedPost (x : Int) (L : List (Int × Int)) (w : World) (e : Ending) (w' : World) : Prop :=
  ∃ g, e = .returned (need x (.slice (some ⟨g, 0, none⟩) L.length L.length)) ∧ SpBlk w' g L.length L ∧ w.heap.size ≤ g ∧ Below w.heap.size w w'

set_option maxRecDepth 100000 in
set_option maxHeartbeats 1000000 in
theorem toNeed_any (x : Int) (v : Value) (L : List (Int × Int)) (w : World) (h : SpAt w w.heap.size v L) (hl : L.length ≤ 1048576) : Calls Try.prog 57 #[need x v] w (NeedPost x L w) := by
  have h' := h
  obtain ⟨a, cap, rfl, _⟩ := h'
  have H := Lib.hid h
  clear h
  go_enter Try.func57, Try.ntmps57
  go_wp2_with fail
  refine (toRange_any _ L _ (H.out.stepAt (by go_grown)) hl).mono ?_
  rintro e w1 ⟨g, rfl, hblk, hg, hb1⟩
  have b1 : Below w.heap.size w w1 := Below.step (by go_grown) hb1
  obtain ⟨hc, hf⟩ : (∀ b o, b < w.heap.size + 1 + 1 + 1 → w1.cell? ⟨b, o, none⟩ = _) ∧ (∀ b o, b < w.heap.size + 1 + 1 + 1 → w1.frozen? ⟨b, o, none⟩ = _) :=
    ⟨fun b o hbo => hb1.cell (p := ⟨b, o, none⟩) (by simpa using hbo), fun b o hbo => hb1.frozen (p := ⟨b, o, none⟩) (by simpa using hbo)⟩
  have hg' : w.heap.size + 3 ≤ g := by simp at hg; omega
  clear hb1 H hg
  go_wp2_with fail
  exact bodyPost_ret (v := need x (.slice (some ⟨g, 0, none⟩) L.length L.length)) (by simp [results, Try.results57, go_sem, hc]) rfl
    ⟨g, rfl, hblk.kept (by repeat (first | rfl | exact (Below.heap_setCell _ _ _ _ (by simp; omega)) | refine (Below.heap_setCell _ _ _ _ (by simp; omega)).trans ?_)), by omega, by go_grown⟩

theorem infoNeed : (Try.prog.info? 59).map (fun i => (i.zero, i.size, i.bytes)) = some (some (.agg #[.int .i64 0, .slice none 0 0]), 2, 32) := by kernel_rfl

/-- 'make([]impl.Need, n)'. -/
theorem make_needs (n : Nat) (hn : n ≤ 1048576) (V : World) :
    (Instr.makeSlice 31 (.int .i64 (n : Int)) (.int .i64 (n : Int))).run Try.prog V = .ok (.slice (some ⟨V.heap.size, 0, none⟩) n n) (V.alloc (.cells (madeCells #[.int .i64 0, .slice none 0 0] (n * 2)) 59)) := by
  obtain ⟨i0, hi, hz0, hz1, hz2⟩ := info_parts infoNeed
  have h := run_make (P := Try.prog) V 31 59 i0 _ Try.underlying31 hi hz0 .i64 .i64 (n : Int) (n : Int) (by omega) (Int.le_refl _) (by rw [hz2]; omega) (by omega)
  rw [hz1] at h
  simpa [Value.cells] using h

theorem made_needs (n : Nat) (V : World) : NdBlk (V.alloc (.cells (madeCells #[.int .i64 0, .slice none 0 0] (n * 2)) 59)) V.heap.size n [] :=
  ⟨_, heap_alloc_new V _, size_madeCells _ _, Nat.zero_le _, fun i hi => absurd hi (by simp)⟩

/-- What the loop of toNeedS keeps: the first k needs are copied. -/
def NToRel (M : List Nd) (w : World) (g : Nat) (i : Value) (wr : World) : Prop :=
  ∃ k : Nat, k ≤ M.length ∧ i = .int .i64 (k : Int) ∧ NdBlk wr g M.length (M.take k) ∧ Below w.heap.size w wr

theorem nto_push {M : List Nd} {w wr : World} {k : Nat} {x : Int} {L : List (Int × Int)} {a : Option Addr} {cap : Nat} (hxy : M[k]? = some (x, L)) (hk : k < M.length) (hblk : NdBlk wr w.heap.size M.length (M.take k)) (hr : SRes L (w.heap.size + 1) (.slice a L.length cap) wr) (hb : Below w.heap.size w wr) :
    NToRel M w w.heap.size (.int .i64 ((k : Int) + 1)) ((wr.setCell ⟨w.heap.size, k * 2, none⟩ (.int .i64 x)).setCell ⟨w.heap.size, k * 2 + 1, none⟩ (.slice a L.length cap)) := by
  have hl : (M.take k).length = k := by simp; omega
  have h := hblk.push (by omega) x hr
  rw [hl] at h
  refine ⟨k + 1, by omega, by go_num, ?_, (hb.setCell (by simp) _).setCell (by simp) _⟩
  rw [List.take_add_one, hxy]
  exact h

def NToPost (M : List Nd) (w : World) (e : Ending) (w' : World) : Prop :=
  ∃ g, e = .returned (.slice (some ⟨g, 0, none⟩) M.length M.length) ∧ NdBlk w' g M.length M ∧ w.heap.size ≤ g ∧ Below w.heap.size w w'

set_option maxHeartbeats 1000000 in
theorem toNeedS_any (v : Value) (M : List Nd) (w : World) (h : NdAt w w.heap.size v M) (hl : M.length ≤ 1048576) (hq : ∀ q ∈ M, q.2.length ≤ 1048576) : Calls Try.prog 14 #[v] w (NToPost M w) := by
  obtain ⟨a, cap, rfl, h⟩ := h
  have hmk := make_needs M.length hl
  go_enter Try.func14, Try.ntmps14
  go_wp2
  clear hmk
  go_loopw [4] (fun i wr => NToRel M w w.heap.size i wr) (fun i _ => M.length - (intOf i).toNat)
  case atStart => exact ⟨0, Nat.zero_le _, rfl, by rw [List.take_zero]; exact made_needs _ _, (Below.refl _ _).alloc (Nat.le_refl _) _⟩
  case round =>
    obtain ⟨k, hk, rfl, hblk, hb⟩ := hrel
    by_cases hlt : k < M.length
    · rcases h with h | ⟨b, o, rfl, hB, hc⟩
      · subst h
        exact absurd hlt (by simp)
      obtain ⟨x, L, hxy⟩ : ∃ x L, M[k] = (x, L) := ⟨_, _, rfl⟩
      have c := (hc k hlt).below hb hB
      rw [hxy] at c
      obtain ⟨e0, a1, cap1, e1, hs⟩ := c
      have hL : L.length ≤ 1048576 := by have := hq _ (List.getElem_mem hlt); rwa [hxy] at this
      simp only at e0 e1 hs
      have HXY := Lib.hid (show M[k]? = some (x, L) by rw [List.getElem?_eq_getElem hlt, hxy])
      clear hxy hc
      have pl := hblk.place hlt
      obtain ⟨⟨p0, hp0⟩, ⟨p1, hp1⟩, f0, f1⟩ := pl
      have hg := hblk.lt
      go_wp2_with fail
      refine (toNeed_any x _ L wr (hs.mono hb.size) hL).mono ?_
      rintro e w2 ⟨g2, rfl, sblk, hg2, hb2⟩
      have blk2 := hblk.below hb2
      have bel2 := hb.trans (hb2.mono hb.size)
      have pl := blk2.place hlt
      obtain ⟨⟨q0, hq0⟩, ⟨q1, hq1⟩, g0, g1⟩ := pl
      have HP := Lib.hid (nto_push HXY.out hlt blk2 (show SRes L (w.heap.size + 1) (.slice (some ⟨g2, 0, none⟩) L.length L.length) w2 from ⟨_, _, rfl, .inr ⟨g2, _, rfl, sblk, by omega⟩⟩) bel2)
      clear hblk hb hb2 hp0 hp1 f0 f1 e0 e1 blk2 bel2 hs sblk
      go_wp2_with fail
      go_roundw
      case rel => exact HP.out
      case measure => simp [intOf]; omega
    · obtain rfl : k = M.length := by omega
      rw [List.take_length] at hblk
      go_wp2_with fail
      go_ret
      exact ⟨w.heap.size, rfl, hblk, Nat.le_refl _, hb⟩

end Go.Proofs.Ytgnjhmmedogcoaa

/- Contracts of the laws' functions that measure needs, over this seat's translation: what is left of a measure behind all needs and their spans, or -1; nothing that was there before the call has changed. Condition: no row is longer than any slice can be. -/
namespace Go.Proofs.Ytgnjhmmedogcoaa
open Go.RowKit Go.Sort

/-- What is left of a measure. -/
def leftOf (left : Int) (n : Nat) : Int := if left < (n : Int) then -1 else left - n

set_option maxRecDepth 100000 in
set_option maxHeartbeats 400000 in
theorem szNeed_any (x : Int) (a : Option Addr) (len cap : Nat) (left : Int) (w : World) (h0 : 0 ≤ left) (h1 : left ≤ 1048576) (hl : len ≤ 9223372036854775807) :
    Calls Try.prog 51 #[need x (.slice a len cap), .int .i64 left] w fun e w' => e = .returned (.int .i64 (leftOf left len)) ∧ Below w.heap.size w w' := by
  have K := Lib.hid fun V => szRange_any a len cap left V h0 h1 hl
  have b0 := (Below.refl w.heap.size w).alloc (Nat.le_refl _) (.cells #[.int .i64 x, .slice a len cap] 90)
  unfold leftOf
  by_cases h : left < (len : Int)
  · rw [if_pos h] at K ⊢
    go_enter Try.func51, Try.ntmps51
    go_wp2_with fail
    refine (K.out _).mono ?_
    rintro e w1 ⟨rfl, hb⟩
    go_wp2_with fail
    go_ret
    exact ⟨rfl, b0.trans (hb.mono b0.size)⟩
  · rw [if_neg h] at K ⊢
    have hn : ¬ left - (len : Int) < 0 := by omega
    go_enter Try.func51, Try.ntmps51
    go_wp2_with fail
    refine (K.out _).mono ?_
    rintro e w1 ⟨rfl, hb⟩
    go_wp2_with fail
    go_ret
    exact ⟨rfl, b0.trans (hb.mono b0.size)⟩

/-- What the loop of szNeedS keeps: what is left, and what it will take. -/
def NSzRel (M : List Nd) (T : Int) (w : World) (s i : Value) (wr : World) : Prop :=
  ∃ (k : Nat) (r : Int), k ≤ M.length ∧ i = .int .i64 (k : Int) ∧ s = .int .i64 r ∧ 0 ≤ r ∧ r ≤ 1048576 ∧ r - (ndSz (M.drop k) : Int) = T ∧ Below w.heap.size w wr

theorem nsz_push {M : List Nd} {T r : Int} {w wr : World} {k : Nat} {x : Int} {L : List (Int × Int)} (hM : M[k]? = some (x, L)) (h0 : 0 ≤ r) (h1 : r ≤ 1048576) (hT : r - (ndSz (M.drop k) : Int) = T) (hn : ¬ r < (L.length : Int)) (hb : Below w.heap.size w wr) :
    NSzRel M T w (.int .i64 (r - (L.length : Int))) (.int .i64 ((k : Int) + 1)) wr := by
  have hk : k < M.length := (List.getElem?_eq_some_iff.1 hM).1
  have hd := ndSz_drop M k _ hM
  simp only at hd
  exact ⟨k + 1, r - (L.length : Int), by omega, by go_num, rfl, by omega, by omega, by omega, hb⟩

set_option maxRecDepth 100000 in
set_option maxHeartbeats 1000000 in
theorem szNeedS_any (v : Value) (M : List Nd) (left : Int) (w : World) (h0 : 0 ≤ left) (h1 : left ≤ 1048576) (hl : M.length ≤ maxLen) (hq : ∀ q ∈ M, q.2.length ≤ maxLen) (h : NdAt w w.heap.size v M) :
    Calls Try.prog 11 #[v, .int .i64 left] w fun e w' => e = .returned (.int .i64 (leftOf left (M.length + ndSz M))) ∧ Below w.heap.size w w' := by
  obtain ⟨a, cap, rfl, h⟩ := h
  unfold maxLen at hl
  by_cases hs : left < (M.length : Int)
  · have hr : leftOf left (M.length + ndSz M) = -1 := by unfold leftOf; rw [if_pos (by omega)]
    rw [hr]
    clear hr h
    go_enter Try.func11, Try.ntmps11
    go_wp2_with fail
    go_ret
    exact ⟨rfl, Below.refl _ _⟩
  · have hn : ¬ left - (M.length : Int) < 0 := by omega
    obtain ⟨T, hT⟩ : ∃ T : Int, left - (M.length : Int) - (ndSz M : Int) = T := ⟨_, rfl⟩
    obtain ⟨R, hR⟩ : ∃ R : Int, leftOf left (M.length + ndSz M) = R := ⟨_, rfl⟩
    have HR := Lib.hid (show (T < 0 → R = -1) ∧ (¬ T < 0 → R = T) by
      rw [← hR]
      unfold leftOf
      constructor <;> intro h <;> split <;> omega)
    rw [hR]
    clear hR
    have HS := Lib.hid (show NSzRel M T w (.int .i64 (left - (M.length : Int))) (.int .i64 0) w from ⟨0, _, Nat.zero_le _, rfl, rfl, by omega, by omega, by simpa using hT, Below.refl _ _⟩)
    go_enter Try.func11, Try.ntmps11
    go_wp2_with fail
    go_loopw [1, 5] (fun s i wr => NSzRel M T w s i wr) (fun _ i _ => M.length - (intOf i).toNat)
    case atStart => exact HS.out
    case round =>
      obtain ⟨k, r, hk, rfl, rfl, r0, r1, hT', hb⟩ := hrel
      by_cases hlt : k < M.length
      · rcases h with h | ⟨b, o, rfl, hB, hc⟩
        · subst h
          exact absurd hlt (by simp)
        obtain ⟨x, L, hxy⟩ : ∃ x L, M[k] = (x, L) := ⟨_, _, rfl⟩
        have c := (hc k hlt).below hb hB
        rw [hxy] at c
        obtain ⟨e0, a1, cap1, e1, hs'⟩ := c
        have hL : L.length ≤ 9223372036854775807 := by have := hq _ (List.getElem_mem hlt); rw [hxy] at this; unfold maxLen at this; simp only at this; omega
        simp only at e0 e1 hs'
        have HXY := Lib.hid (show M[k]? = some (x, L) by rw [List.getElem?_eq_getElem hlt, hxy])
        clear hxy hc hs'
        have KS := szNeed_any x a1 L.length cap1 r wr r0 r1 hL
        unfold leftOf at KS
        by_cases hx : r < (L.length : Int)
        · rw [if_pos hx] at KS
          have HF := Lib.hid (show T < 0 by have := ndSz_drop M k _ HXY.out; simp only at this; omega)
          have HK := Lib.hid KS
          clear KS
          go_wp2_with fail
          refine HK.out.mono ?_
          rintro e w2 ⟨rfl, hb2⟩
          go_wp2_with fail
          go_ret
          exact ⟨by rw [HR.out.1 HF.out]; rfl, hb.trans (hb2.mono hb.size)⟩
        · rw [if_neg hx] at KS
          have HK := Lib.hid KS
          have hn2 : ¬ r - (L.length : Int) < 0 := by omega
          clear KS
          go_wp2_with fail
          refine HK.out.mono ?_
          rintro e w2 ⟨rfl, hb2⟩
          have HP := Lib.hid (nsz_push HXY.out r0 r1 hT' (by omega) (hb.trans (hb2.mono hb.size)))
          clear hb hb2 hT'
          go_wp2_with fail
          go_roundw
          case rel => exact HP.out
          case measure => simp [intOf]; omega
      · obtain rfl : k = M.length := by omega
        rw [List.drop_length] at hT'
        have HF := Lib.hid (show R = r by rw [HR.out.2 (by simp [ndSz] at hT'; omega)]; simp [ndSz] at hT'; omega)
        clear hT'
        go_wp2_with fail
        go_ret
        exact ⟨by rw [HF.out]; rfl, hb⟩

end Go.Proofs.Ytgnjhmmedogcoaa

/- Contracts of the laws' functions that compare needs, over this seat's translation: they answer whether the needs are the same; nothing that was there before the call has changed. Condition: at most 1048576 needs, and spans of each. -/
namespace Go.Proofs.Ytgnjhmmedogcoaa
open Go.RowKit Go.Sort

set_option maxRecDepth 100000 in
set_option maxHeartbeats 1000000 in
theorem eqNeed_any (x x' : Int) (v v' : Value) (L L' : List (Int × Int)) (w : World) (hl : L.length ≤ 1048576) (hm : L'.length ≤ 1048576) (h : SpAt w w.heap.size v L) (h' : SpAt w w.heap.size v' L') :
    Calls Try.prog 62 #[need x v, need x' v'] w fun e w' => e = .returned (.bool (decide (x = x' ∧ L = L'))) ∧ Below w.heap.size w w' := by
  have c := h
  have c' := h'
  obtain ⟨a, cap, rfl, _⟩ := c
  obtain ⟨a', cap', rfl, _⟩ := c'
  have b0 := ((Below.refl w.heap.size w).alloc (Nat.le_refl _) (.cells #[.int .i64 x, .slice a L.length cap] 59)).alloc (by simp) (.cells #[.int .i64 x', .slice a' L'.length cap'] 59)
  have K := eqRange_any a a' cap cap' L L' _ hl hm ((h.below b0).mono b0.size) ((h'.below b0).mono b0.size)
  have HB := Lib.hid b0
  clear h h' b0
  by_cases hx : x = x'
  · subst hx
    rw [show decide (x = x ∧ L = L') = decide (L = L') from decide_eq_decide.2 (by simp)]
    rcases hd : decide (L = L')
    all_goals
      rw [hd] at K
      have HK := Lib.hid K
      clear hd K
      go_enter Try.func62, Try.ntmps62
      go_wp2_with fail
      refine HK.out.mono ?_
      rintro e w1 ⟨rfl, hb⟩
      go_wp2_with fail
      go_ret
      exact ⟨rfl, HB.out.trans (hb.mono HB.out.size)⟩
  · rw [decide_eq_false (p := x = x' ∧ L = L') (fun e => hx e.1)]
    clear K
    go_enter Try.func62, Try.ntmps62
    go_wp2_with fail
    go_ret
    exact ⟨rfl, HB.out⟩

/-- What the loop of eqNeedS keeps: the first k needs are alike. -/
def NEqRel (M N : List Nd) (w : World) (i : Value) (wr : World) : Prop :=
  ∃ k : Nat, k ≤ M.length ∧ i = .int .i64 (k : Int) ∧ M.take k = N.take k ∧ Below w.heap.size w wr

theorem neq_push {M N : List Nd} {w wr : World} {k : Nat} {q : Nd} (hk : k < M.length) (hM : M[k]? = some q) (hN : N[k]? = some q) (ht : M.take k = N.take k) (hb : Below w.heap.size w wr) :
    NEqRel M N w (.int .i64 ((k : Int) + 1)) wr :=
  ⟨k + 1, by omega, by go_num, by rw [List.take_add_one, List.take_add_one, hM, hN, ht], hb⟩

theorem ndiffer_at {M N : List Nd} {k : Nat} {q q' : Nd} (hM : M[k]? = some q) (hN : N[k]? = some q') (h : ¬ (q.1 = q'.1 ∧ q.2 = q'.2)) : ¬ M = N := by
  rintro rfl
  rw [hM] at hN
  cases hN
  exact h ⟨rfl, rfl⟩

set_option maxRecDepth 100000 in
set_option maxHeartbeats 2000000 in
theorem eqNeedS_any (v v' : Value) (M N : List Nd) (w : World) (hl : M.length ≤ 1048576) (hm : N.length ≤ 1048576) (hq : ∀ q ∈ M, q.2.length ≤ 1048576) (hq' : ∀ q ∈ N, q.2.length ≤ 1048576)
    (h : NdAt w w.heap.size v M) (h' : NdAt w w.heap.size v' N) :
    Calls Try.prog 18 #[v, v'] w fun e w' => e = .returned (.bool (decide (M = N))) ∧ Below w.heap.size w w' := by
  obtain ⟨a, cap, rfl, hc⟩ := h
  obtain ⟨a', cap', rfl, hc'⟩ := h'
  have H := Lib.hid hc
  have H' := Lib.hid hc'
  clear hc hc'
  by_cases hLM : N.length = M.length
  · have HLM := Lib.hid hLM
    have hz : ((M.length : Int) != (M.length : Int)) = false := by simp
    rw [hLM]
    clear hLM
    go_enter Try.func18, Try.ntmps18
    go_wp2
    go_loopw [5] (fun i wr => NEqRel M N w i wr) (fun i _ => M.length - (intOf i).toNat)
    case atStart => exact ⟨0, Nat.zero_le _, rfl, rfl, Below.refl _ _⟩
    case round =>
      obtain ⟨k, hk, rfl, ht, hb⟩ := hrel
      have HT := Lib.hid ht
      clear ht
      by_cases hlt : k < M.length
      · rcases H.out with h1 | ⟨b, o, rfl, hB, hc⟩
        · subst h1
          exact absurd hlt (by simp)
        rcases H'.out with h2 | ⟨b', o', rfl, hB', hc'⟩
        · have := HLM.out
          subst h2
          simp at this
          omega
        have hlt' : k < N.length := by have := HLM.out; omega
        obtain ⟨x, L, hxy⟩ : ∃ x y, M[k] = (x, y) := ⟨_, _, rfl⟩
        obtain ⟨x', L', hxy'⟩ : ∃ x y, N[k] = (x, y) := ⟨_, _, rfl⟩
        have c := (hc k hlt).below hb hB
        have c' := (hc' k hlt').below hb hB'
        rw [hxy] at c
        rw [hxy'] at c'
        obtain ⟨k0, a1, cap1, k1, hs⟩ := c
        obtain ⟨l0, a2, cap2, l1, hs'⟩ := c'
        have hL : L.length ≤ 1048576 := by have := hq _ (List.getElem_mem hlt); rwa [hxy] at this
        have hL' : L'.length ≤ 1048576 := by have := hq' _ (List.getElem_mem hlt'); rwa [hxy'] at this
        simp only at k0 k1 l0 l1 hs hs'
        have hs := hs.mono hb.size
        have hs' := hs'.mono hb.size
        have HX := Lib.hid (show M[k]? = some (x, L) by rw [List.getElem?_eq_getElem hlt, hxy])
        have HX' := Lib.hid (show N[k]? = some (x', L') by rw [List.getElem?_eq_getElem hlt', hxy'])
        clear hc hc' hxy hxy'
        have i0 : (0 : Int) ≤ (k : Int) := by omega
        have i1 : (k : Int) < (M.length : Int) := by omega
        have mb : b < wr.heap.size := Nat.lt_of_lt_of_le hB hb.size
        have mb' : b' < wr.heap.size := Nat.lt_of_lt_of_le hB' hb.size
        by_cases heq : x = x' ∧ L = L'
        · have K : Hid (∀ V, SpAt V V.heap.size (.slice a1 L.length cap1) L → SpAt V V.heap.size (.slice a2 L'.length cap2) L' → Calls Try.prog 62 #[need x (.slice a1 L.length cap1), need x' (.slice a2 L'.length cap2)] V fun e w' => e = .returned (.bool true) ∧ Below V.heap.size V w') := Lib.hid fun V g g' => by
            have := eqNeed_any x x' _ _ L L' V hL hL' g g'
            rwa [decide_eq_true heq] at this
          have HE := Lib.hid heq
          clear heq
          go_wp2_with fail
          go_region_held3 (fun V => V.cell? ⟨b, o + k * 2, none⟩ = some (.int .i64 x) ∧ V.cell? ⟨b, o + k * 2 + 1, none⟩ = some (.slice a1 L.length cap1) ∧ V.cell? ⟨b', o' + k * 2, none⟩ = some (.int .i64 x') ∧ V.cell? ⟨b', o' + k * 2 + 1, none⟩ = some (.slice a2 L'.length cap2)) (go_keep)
            (first
            | (go_at_call 62; refine (K.out _ (hs.stepAt (by go_grown)) (hs'.stepAt (by go_grown))).mono ?_; rintro e wp ⟨rfl, hbp⟩; have nn : Below wr.heap.size wr wp := Below.step (by go_grown) hbp;
                have p0 := (nn.cell (p := ⟨b, o + k * 2, none⟩) mb).trans k0; have p1 := (nn.cell (p := ⟨b, o + k * 2 + 1, none⟩) mb).trans k1; have p2 := (nn.cell (p := ⟨b', o' + k * 2, none⟩) mb').trans l0; have p3 := (nn.cell (p := ⟨b', o' + k * 2 + 1, none⟩) mb').trans l1))
          all_goals
            have HP := Lib.hid (neq_push (w := w) hlt HX.out (by have := HX'.out; rwa [← HE.out.1, ← HE.out.2] at this) HT.out (hb.trans (nn.mono hb.size)))
            go_wp2_with fail
            go_roundw
            case rel => exact HP.out
            case measure => simp [intOf]; omega
        · have K : Hid (∀ V, SpAt V V.heap.size (.slice a1 L.length cap1) L → SpAt V V.heap.size (.slice a2 L'.length cap2) L' → Calls Try.prog 62 #[need x (.slice a1 L.length cap1), need x' (.slice a2 L'.length cap2)] V fun e w' => e = .returned (.bool false) ∧ Below V.heap.size V w') := Lib.hid fun V g g' => by
            have := eqNeed_any x x' _ _ L L' V hL hL' g g'
            rwa [decide_eq_false heq] at this
          have HN := Lib.hid (ndiffer_at HX.out HX'.out heq)
          clear heq
          go_wp2_with fail
          go_region_held3 (fun V => V.cell? ⟨b, o + k * 2, none⟩ = some (.int .i64 x) ∧ V.cell? ⟨b, o + k * 2 + 1, none⟩ = some (.slice a1 L.length cap1) ∧ V.cell? ⟨b', o' + k * 2, none⟩ = some (.int .i64 x') ∧ V.cell? ⟨b', o' + k * 2 + 1, none⟩ = some (.slice a2 L'.length cap2)) (go_keep)
            (first
            | (go_at_call 62; refine (K.out _ (hs.stepAt (by go_grown)) (hs'.stepAt (by go_grown))).mono ?_; rintro e wp ⟨rfl, hbp⟩; have nn : Below wr.heap.size wr wp := Below.step (by go_grown) hbp;
                have p0 := (nn.cell (p := ⟨b, o + k * 2, none⟩) mb).trans k0; have p1 := (nn.cell (p := ⟨b, o + k * 2 + 1, none⟩) mb).trans k1; have p2 := (nn.cell (p := ⟨b', o' + k * 2, none⟩) mb').trans l0; have p3 := (nn.cell (p := ⟨b', o' + k * 2 + 1, none⟩) mb').trans l1))
          all_goals
            go_wp2_with fail
            go_ret
            exact ⟨by rw [decide_eq_false HN.out]; rfl, hb.trans (nn.mono hb.size)⟩
      · obtain rfl : k = M.length := by omega
        have hd : M = N := by
          have := HT.out
          rw [List.take_length] at this
          rw [this]
          have := HLM.out
          rw [← this, List.take_length]
        have HD := Lib.hid (decide_eq_true hd)
        clear hd
        go_wp2_with fail
        go_ret
        exact ⟨by rw [HD.out]; rfl, hb⟩
  · have hz : ((M.length : Int) != (N.length : Int)) = true := by rw [bne_iff_ne]; omega
    have HD := Lib.hid (decide_eq_false (p := M = N) (fun e => hLM (by rw [e])))
    clear hLM
    go_enter Try.func18, Try.ntmps18
    go_wp2
    go_ret
    exact ⟨by rw [HD.out]; rfl, Below.refl _ _⟩

end Go.Proofs.Ytgnjhmmedogcoaa

/- Rows of releases in memory, over this seat's translation: what it is for a slice value to hold a list of releases (a name, a version's four numbers, whether it was withdrawn, a row of needs), and for a block to be such a row whose needs lie behind it. No condition. -/
namespace Go.Proofs.Ytgnjhmmedogcoaa
open Go.RowKit Go.Sort

abbrev Rel := Int × (Int × Int × Int × Int) × Bool × List Nd
abbrev rels (n a b c d : Int) (g : Bool) (v : Value) : Value := .agg #[.int .i64 n, .int .i64 a, .int .i64 b, .int .i64 c, .int .i64 d, .bool g, v]

instance verDec : DecidableEq (Int × Int × Int × Int) := fun p q => instDecidableEqProd p q
instance restDec : DecidableEq (Bool × List Nd) := fun p q => instDecidableEqProd p q
instance tailDec : DecidableEq ((Int × Int × Int × Int) × Bool × List Nd) := fun p q => @instDecidableEqProd _ _ verDec restDec p q
instance relDec : DecidableEq Rel := fun p q => @instDecidableEqProd _ _ _ tailDec p q

/-- A slice of needs in rows of its own, in blocks from a number on. -/
def NRes (M : List Nd) (base : Nat) (v : Value) (w' : World) : Prop :=
  ∃ a cap, v = .slice a M.length cap ∧ (M = [] ∨ ∃ g n, a = some ⟨g, 0, none⟩ ∧ NdBlk w' g n M ∧ base ≤ g)
theorem NRes.at {M : List Nd} {base : Nat} {v : Value} {w : World} (h : NRes M base v w) : NdAt w w.heap.size v M := by
  obtain ⟨a, cap, rfl, h⟩ := h
  rcases h with rfl | ⟨g, n, rfl, hb, _⟩
  · exact ⟨_, _, rfl, .inl rfl⟩
  · exact hb.at
theorem NRes.kept {M : List Nd} {base : Nat} {v : Value} {w w' : World} (h : NRes M base v w) (hb : ∀ g, base ≤ g → g < w.heap.size → w'.heap[g]? = w.heap[g]?) : NRes M base v w' := by
  obtain ⟨a, cap, rfl, h⟩ := h
  refine ⟨_, _, rfl, ?_⟩
  rcases h with h | ⟨g, n, rfl, hk, hg⟩
  · exact .inl h
  · exact .inr ⟨g, n, rfl, hk.kept fun k h1 h2 => hb k (by omega) h2, hg⟩
theorem NRes.below {M : List Nd} {base : Nat} {v : Value} {w w' : World} (h : NRes M base v w) (hb : Below w.heap.size w w') : NRes M base v w' := h.kept fun g _ hl => hb.block g hl
theorem NRes.mono {M : List Nd} {base base' : Nat} {v : Value} {w : World} (h : NRes M base v w) (hb : base' ≤ base) : NRes M base' v w := by
  obtain ⟨a, cap, rfl, h⟩ := h
  refine ⟨_, _, rfl, ?_⟩
  rcases h with h | ⟨g, n, rfl, hk, hg⟩
  · exact .inl h
  · exact .inr ⟨g, n, rfl, hk, by omega⟩

/-- The cells of one release: its numbers, and a slice of needs in blocks below B. -/
def RlC (w : World) (B b o : Nat) (x : Rel) : Prop :=
  (w.cell? ⟨b, o, none⟩ = some (.int .i64 x.1) ∧ w.cell? ⟨b, o + 1, none⟩ = some (.int .i64 x.2.1.1) ∧ w.cell? ⟨b, o + 2, none⟩ = some (.int .i64 x.2.1.2.1) ∧ w.cell? ⟨b, o + 3, none⟩ = some (.int .i64 x.2.1.2.2.1) ∧ w.cell? ⟨b, o + 4, none⟩ = some (.int .i64 x.2.1.2.2.2) ∧ w.cell? ⟨b, o + 5, none⟩ = some (.bool x.2.2.1)) ∧ ∃ a cap, w.cell? ⟨b, o + 6, none⟩ = some (.slice a x.2.2.2.length cap) ∧ NdAt w B (.slice a x.2.2.2.length cap) x.2.2.2
theorem RlC.below {w w' : World} {B b o : Nat} {x : Rel} (h : RlC w B b o x) (hb : Below B w w') (hB : b < B) : RlC w' B b o x := by
  obtain ⟨⟨h0, h1, h2, h3, h4, h5⟩, a, cap, h6, hs⟩ := h
  exact ⟨⟨(hb.cell (p := ⟨b, o, none⟩) hB).trans h0, (hb.cell (p := ⟨b, o + 1, none⟩) hB).trans h1, (hb.cell (p := ⟨b, o + 2, none⟩) hB).trans h2, (hb.cell (p := ⟨b, o + 3, none⟩) hB).trans h3, (hb.cell (p := ⟨b, o + 4, none⟩) hB).trans h4, (hb.cell (p := ⟨b, o + 5, none⟩) hB).trans h5⟩, a, cap, (hb.cell (p := ⟨b, o + 6, none⟩) hB).trans h6, hs.below hb⟩
theorem RlC.mono {w : World} {B B' b o : Nat} {x : Rel} (h : RlC w B b o x) (hB : B ≤ B') : RlC w B' b o x := by
  obtain ⟨h0, a, cap, h1, hs⟩ := h
  exact ⟨h0, a, cap, h1, hs.mono hB⟩

/-- A slice value that holds these releases, in blocks below B (or is empty). -/
def RlAt (w : World) (B : Nat) (v : Value) (S : List Rel) : Prop :=
  ∃ a cap, v = .slice a S.length cap ∧ (S = [] ∨ ∃ b o, a = some ⟨b, o, none⟩ ∧ b < B ∧ ∀ i (h : i < S.length), RlC w B b (o + i * 7) S[i])
theorem RlAt.below {w w' : World} {B : Nat} {v : Value} {S : List Rel} (h : RlAt w B v S) (hb : Below B w w') : RlAt w' B v S := by
  obtain ⟨a, cap, rfl, h⟩ := h
  refine ⟨a, cap, rfl, ?_⟩
  rcases h with h | ⟨b, o, rfl, hB, hc⟩
  · exact .inl h
  · exact .inr ⟨b, o, rfl, hB, fun i hi => (hc i hi).below hb hB⟩
theorem RlAt.mono {w : World} {B B' : Nat} {v : Value} {S : List Rel} (h : RlAt w B v S) (hB : B ≤ B') : RlAt w B' v S := by
  obtain ⟨a, cap, rfl, h⟩ := h
  refine ⟨a, cap, rfl, ?_⟩
  rcases h with h | ⟨b, o, rfl, hb, hc⟩
  · exact .inl h
  · exact .inr ⟨b, o, rfl, by omega, fun i hi => (hc i hi).mono hB⟩

theorem RlAt.stepAt {S : List Rel} {u : Value} {w V : World} (h : RlAt w w.heap.size u S) (hb : Below w.heap.size w V) : RlAt V V.heap.size u S := (h.below hb).mono hb.size

/-- A block that is a row of n releases, the first of which are S; their needs lie in blocks behind it. -/
def RlBlk (w : World) (g n : Nat) (S : List Rel) : Prop :=
  ∃ C : Array Value, w.heap[g]? = some (.cells C 63 (0, 0)) ∧ C.size = n * 7 ∧ S.length ≤ n ∧
    ∀ i (h : i < S.length), (C[i * 7]? = some (.int .i64 S[i].1) ∧ C[i * 7 + 1]? = some (.int .i64 S[i].2.1.1) ∧ C[i * 7 + 2]? = some (.int .i64 S[i].2.1.2.1) ∧ C[i * 7 + 3]? = some (.int .i64 S[i].2.1.2.2.1) ∧ C[i * 7 + 4]? = some (.int .i64 S[i].2.1.2.2.2) ∧ C[i * 7 + 5]? = some (.bool S[i].2.2.1)) ∧ ∃ a cap, C[i * 7 + 6]? = some (.slice a S[i].2.2.2.length cap) ∧ NRes S[i].2.2.2 (g + 1) (.slice a S[i].2.2.2.length cap) w

theorem RlBlk.lt {w : World} {g n : Nat} {S : List Rel} (h : RlBlk w g n S) : g < w.heap.size := by
  obtain ⟨C, h, _⟩ := h
  exact (Array.getElem?_eq_some_iff.1 h).1
theorem RlBlk.kept {w w' : World} {g n : Nat} {S : List Rel} (h : RlBlk w g n S) (hb : ∀ k, g ≤ k → k < w.heap.size → w'.heap[k]? = w.heap[k]?) : RlBlk w' g n S := by
  have hg := h.lt
  obtain ⟨C, h, hs, hl, hc⟩ := h
  refine ⟨C, (hb g (Nat.le_refl _) hg).trans h, hs, hl, fun i hi => ?_⟩
  obtain ⟨h1, a, cap, h2, hr⟩ := hc i hi
  exact ⟨h1, a, cap, h2, hr.kept fun k h1 h2 => hb k (by omega) h2⟩
theorem RlBlk.below {w w' : World} {g n : Nat} {S : List Rel} (h : RlBlk w g n S) (hb : Below w.heap.size w w') : RlBlk w' g n S := h.kept fun k _ hl => hb.block k hl
theorem RlBlk.at {w : World} {g n cap : Nat} {S : List Rel} (h : RlBlk w g n S) : RlAt w w.heap.size (.slice (some ⟨g, 0, none⟩) S.length cap) S := by
  have hg := h.lt
  obtain ⟨C, h, _, _, hc⟩ := h
  refine ⟨_, _, rfl, .inr ⟨g, 0, rfl, hg, fun i hi => ?_⟩⟩
  obtain ⟨⟨h0, h1, h2, h3, h4, h5⟩, a, c, h6, hr⟩ := hc i hi
  rw [Nat.zero_add]
  exact ⟨⟨(cell_of_row w g _ C _ (0, 0) h).trans h0, (cell_of_row w g _ C _ (0, 0) h).trans h1, (cell_of_row w g _ C _ (0, 0) h).trans h2, (cell_of_row w g _ C _ (0, 0) h).trans h3, (cell_of_row w g _ C _ (0, 0) h).trans h4, (cell_of_row w g _ C _ (0, 0) h).trans h5⟩, a, c, (cell_of_row w g _ C _ (0, 0) h).trans h6, hr.at⟩

/-- Each place of such a row can be written, and is what was written then. -/
theorem RlBlk.place {w : World} {g n : Nat} {S : List Rel} (h : RlBlk w g n S) {k : Nat} (hk : k < n) :
    (∃ x, w.cell? ⟨g, k * 7, none⟩ = some x) ∧ (∃ x, w.cell? ⟨g, k * 7 + 1, none⟩ = some x) ∧ (∃ x, w.cell? ⟨g, k * 7 + 2, none⟩ = some x) ∧ (∃ x, w.cell? ⟨g, k * 7 + 3, none⟩ = some x) ∧ (∃ x, w.cell? ⟨g, k * 7 + 4, none⟩ = some x) ∧ (∃ x, w.cell? ⟨g, k * 7 + 5, none⟩ = some x) ∧ (∃ x, w.cell? ⟨g, k * 7 + 6, none⟩ = some x) ∧ w.frozen? ⟨g, k * 7, none⟩ = false ∧ w.frozen? ⟨g, k * 7 + 1, none⟩ = false ∧ w.frozen? ⟨g, k * 7 + 2, none⟩ = false ∧ w.frozen? ⟨g, k * 7 + 3, none⟩ = false ∧ w.frozen? ⟨g, k * 7 + 4, none⟩ = false ∧ w.frozen? ⟨g, k * 7 + 5, none⟩ = false ∧ w.frozen? ⟨g, k * 7 + 6, none⟩ = false := by
  obtain ⟨C, h, hs, _, _⟩ := h
  refine ⟨⟨C[k * 7]'(by omega), ?_⟩, ⟨C[k * 7 + 1]'(by omega), ?_⟩, ⟨C[k * 7 + 2]'(by omega), ?_⟩, ⟨C[k * 7 + 3]'(by omega), ?_⟩, ⟨C[k * 7 + 4]'(by omega), ?_⟩, ⟨C[k * 7 + 5]'(by omega), ?_⟩, ⟨C[k * 7 + 6]'(by omega), ?_⟩, ?_, ?_, ?_, ?_, ?_, ?_, ?_⟩
  · rw [cell_of_row w g _ C _ (0, 0) h]; exact Array.getElem?_eq_getElem _
  · rw [cell_of_row w g _ C _ (0, 0) h]; exact Array.getElem?_eq_getElem _
  · rw [cell_of_row w g _ C _ (0, 0) h]; exact Array.getElem?_eq_getElem _
  · rw [cell_of_row w g _ C _ (0, 0) h]; exact Array.getElem?_eq_getElem _
  · rw [cell_of_row w g _ C _ (0, 0) h]; exact Array.getElem?_eq_getElem _
  · rw [cell_of_row w g _ C _ (0, 0) h]; exact Array.getElem?_eq_getElem _
  · rw [cell_of_row w g _ C _ (0, 0) h]; exact Array.getElem?_eq_getElem _
  · simp [World.frozen?, h]
  · simp [World.frozen?, h]
  · simp [World.frozen?, h]
  · simp [World.frozen?, h]
  · simp [World.frozen?, h]
  · simp [World.frozen?, h]
  · simp [World.frozen?, h]

theorem RlBlk.push {w : World} {g n : Nat} {S : List Rel} (h : RlBlk w g n S) (hk : S.length < n) (x a1 b1 c1 d1 : Int) (gn : Bool) {a : Option Addr} {cap : Nat} {M : List Nd} (hr : NRes M (g + 1) (.slice a M.length cap) w) :
    RlBlk (((((((w.setCell ⟨g, S.length * 7, none⟩ (.int .i64 x)).setCell ⟨g, S.length * 7 + 1, none⟩ (.int .i64 a1)).setCell ⟨g, S.length * 7 + 2, none⟩ (.int .i64 b1)).setCell ⟨g, S.length * 7 + 3, none⟩ (.int .i64 c1)).setCell ⟨g, S.length * 7 + 4, none⟩ (.int .i64 d1)).setCell ⟨g, S.length * 7 + 5, none⟩ (.bool gn)).setCell ⟨g, S.length * 7 + 6, none⟩ (.slice a M.length cap)) g n (S ++ [(x, (a1, b1, c1, d1), gn, M)]) := by
  obtain ⟨C, h, hs, hl, hc⟩ := h
  have keep : ∀ {K : List Nd} {v : Value}, NRes K (g + 1) v w → NRes K (g + 1) v (((((((w.setCell ⟨g, S.length * 7, none⟩ (.int .i64 x)).setCell ⟨g, S.length * 7 + 1, none⟩ (.int .i64 a1)).setCell ⟨g, S.length * 7 + 2, none⟩ (.int .i64 b1)).setCell ⟨g, S.length * 7 + 3, none⟩ (.int .i64 c1)).setCell ⟨g, S.length * 7 + 4, none⟩ (.int .i64 d1)).setCell ⟨g, S.length * 7 + 5, none⟩ (.bool gn)).setCell ⟨g, S.length * 7 + 6, none⟩ (.slice a M.length cap)) :=
    fun hq => hq.kept fun k h1 _ => (Below.heap_setCell _ _ _ _ (by show k ≠ g; omega)).trans ((Below.heap_setCell _ _ _ _ (by show k ≠ g; omega)).trans ((Below.heap_setCell _ _ _ _ (by show k ≠ g; omega)).trans ((Below.heap_setCell _ _ _ _ (by show k ≠ g; omega)).trans ((Below.heap_setCell _ _ _ _ (by show k ≠ g; omega)).trans ((Below.heap_setCell _ _ _ _ (by show k ≠ g; omega)).trans ((Below.heap_setCell _ _ _ _ (by show k ≠ g; omega))))))))
  refine ⟨(((((((C.setIfInBounds (S.length * 7) (.int .i64 x)).setIfInBounds (S.length * 7 + 1) (.int .i64 a1)).setIfInBounds (S.length * 7 + 2) (.int .i64 b1)).setIfInBounds (S.length * 7 + 3) (.int .i64 c1)).setIfInBounds (S.length * 7 + 4) (.int .i64 d1)).setIfInBounds (S.length * 7 + 5) (.bool gn)).setIfInBounds (S.length * 7 + 6) (.slice a M.length cap)), ?_, by simpa using hs, by simp; omega, fun i hi => ?_⟩
  · simp [World.setCell, Array.getElem?_modify, h]
  · simp only [List.length_append, List.length_cons, List.length_nil] at hi
    by_cases e : i < S.length
    · obtain ⟨⟨h0, h1, h2, h3, h4, h5⟩, a', c', h6, hq⟩ := hc i e
      rw [List.getElem_append_left e]
      refine ⟨⟨?_, ?_, ?_, ?_, ?_, ?_⟩, a', c', ?_, keep hq⟩
      · rw [Array.getElem?_setIfInBounds_ne (by omega), Array.getElem?_setIfInBounds_ne (by omega), Array.getElem?_setIfInBounds_ne (by omega), Array.getElem?_setIfInBounds_ne (by omega), Array.getElem?_setIfInBounds_ne (by omega), Array.getElem?_setIfInBounds_ne (by omega), Array.getElem?_setIfInBounds_ne (by omega)]; exact h0
      · rw [Array.getElem?_setIfInBounds_ne (by omega), Array.getElem?_setIfInBounds_ne (by omega), Array.getElem?_setIfInBounds_ne (by omega), Array.getElem?_setIfInBounds_ne (by omega), Array.getElem?_setIfInBounds_ne (by omega), Array.getElem?_setIfInBounds_ne (by omega), Array.getElem?_setIfInBounds_ne (by omega)]; exact h1
      · rw [Array.getElem?_setIfInBounds_ne (by omega), Array.getElem?_setIfInBounds_ne (by omega), Array.getElem?_setIfInBounds_ne (by omega), Array.getElem?_setIfInBounds_ne (by omega), Array.getElem?_setIfInBounds_ne (by omega), Array.getElem?_setIfInBounds_ne (by omega), Array.getElem?_setIfInBounds_ne (by omega)]; exact h2
      · rw [Array.getElem?_setIfInBounds_ne (by omega), Array.getElem?_setIfInBounds_ne (by omega), Array.getElem?_setIfInBounds_ne (by omega), Array.getElem?_setIfInBounds_ne (by omega), Array.getElem?_setIfInBounds_ne (by omega), Array.getElem?_setIfInBounds_ne (by omega), Array.getElem?_setIfInBounds_ne (by omega)]; exact h3
      · rw [Array.getElem?_setIfInBounds_ne (by omega), Array.getElem?_setIfInBounds_ne (by omega), Array.getElem?_setIfInBounds_ne (by omega), Array.getElem?_setIfInBounds_ne (by omega), Array.getElem?_setIfInBounds_ne (by omega), Array.getElem?_setIfInBounds_ne (by omega), Array.getElem?_setIfInBounds_ne (by omega)]; exact h4
      · rw [Array.getElem?_setIfInBounds_ne (by omega), Array.getElem?_setIfInBounds_ne (by omega), Array.getElem?_setIfInBounds_ne (by omega), Array.getElem?_setIfInBounds_ne (by omega), Array.getElem?_setIfInBounds_ne (by omega), Array.getElem?_setIfInBounds_ne (by omega), Array.getElem?_setIfInBounds_ne (by omega)]; exact h5
      · rw [Array.getElem?_setIfInBounds_ne (by omega), Array.getElem?_setIfInBounds_ne (by omega), Array.getElem?_setIfInBounds_ne (by omega), Array.getElem?_setIfInBounds_ne (by omega), Array.getElem?_setIfInBounds_ne (by omega), Array.getElem?_setIfInBounds_ne (by omega), Array.getElem?_setIfInBounds_ne (by omega)]; exact h6
    · obtain rfl : i = S.length := by omega
      rw [List.getElem_append_right (Nat.le_refl _)]
      refine ⟨⟨?_, ?_, ?_, ?_, ?_, ?_⟩, a, cap, ?_, ?_⟩
      · rw [Array.getElem?_setIfInBounds_ne (by omega), Array.getElem?_setIfInBounds_ne (by omega), Array.getElem?_setIfInBounds_ne (by omega), Array.getElem?_setIfInBounds_ne (by omega), Array.getElem?_setIfInBounds_ne (by omega), Array.getElem?_setIfInBounds_ne (by omega)]; rw [Array.getElem?_setIfInBounds_self_of_lt (by first | omega | (simp; omega))]; simp
      · rw [Array.getElem?_setIfInBounds_ne (by omega), Array.getElem?_setIfInBounds_ne (by omega), Array.getElem?_setIfInBounds_ne (by omega), Array.getElem?_setIfInBounds_ne (by omega), Array.getElem?_setIfInBounds_ne (by omega)]; rw [Array.getElem?_setIfInBounds_self_of_lt (by first | omega | (simp; omega))]; simp
      · rw [Array.getElem?_setIfInBounds_ne (by omega), Array.getElem?_setIfInBounds_ne (by omega), Array.getElem?_setIfInBounds_ne (by omega), Array.getElem?_setIfInBounds_ne (by omega)]; rw [Array.getElem?_setIfInBounds_self_of_lt (by first | omega | (simp; omega))]; simp
      · rw [Array.getElem?_setIfInBounds_ne (by omega), Array.getElem?_setIfInBounds_ne (by omega), Array.getElem?_setIfInBounds_ne (by omega)]; rw [Array.getElem?_setIfInBounds_self_of_lt (by first | omega | (simp; omega))]; simp
      · rw [Array.getElem?_setIfInBounds_ne (by omega), Array.getElem?_setIfInBounds_ne (by omega)]; rw [Array.getElem?_setIfInBounds_self_of_lt (by first | omega | (simp; omega))]; simp
      · rw [Array.getElem?_setIfInBounds_ne (by omega)]; rw [Array.getElem?_setIfInBounds_self_of_lt (by first | omega | (simp; omega))]; simp
      · skip; rw [Array.getElem?_setIfInBounds_self_of_lt (by first | omega | (simp; omega))]; simp
      · simpa using keep hr

/-- How much of the law's measure a row of releases takes. -/
def rlSz : List Rel → Nat
  | [] => 0
  | x :: t => x.2.2.2.length + ndSz x.2.2.2 + rlSz t
theorem rlSz_drop : ∀ (S : List Rel) (k : Nat) (x : Rel), S[k]? = some x → rlSz (S.drop k) = x.2.2.2.length + ndSz x.2.2.2 + rlSz (S.drop (k + 1))
  | [], k, x, h => by simp at h
  | y :: t, 0, x, h => by
    simp at h
    subst h
    rfl
  | y :: t, k + 1, x, h => by
    simp only [List.getElem?_cons_succ] at h
    simpa using rlSz_drop t k x h
theorem rlSz_mem : ∀ (S : List Rel) (k : Nat) (x : Rel), S[k]? = some x → x.2.2.2.length + ndSz x.2.2.2 ≤ rlSz S
  | [], k, x, h => by simp at h
  | y :: t, 0, x, h => by
    simp at h
    subst h
    simp [rlSz]
  | y :: t, k + 1, x, h => by
    simp only [List.getElem?_cons_succ] at h
    have := rlSz_mem t k x h
    simp only [rlSz]
    omega

end Go.Proofs.Ytgnjhmmedogcoaa

/- A slice of releases that comes in by value holds some list of releases. -/
namespace Go.Proofs.Ytgnjhmmedogcoaa
open Go.ChangeShapes Go.WideShapes Go.ChangeAt Go.RowKit Go.Joins Go.Deep

theorem lawVersion_cells : Try.prog.cellsOf 82 = 4 := by kernel_rfl
theorem lawRelease_cells : Try.prog.cellsOf 84 = 7 := by kernel_rfl
theorem bool_cells : Try.prog.cellsOf 4 = 1 := by kernel_rfl
theorem lawNeeds_cells : Try.prog.cellsOf 23 = 1 := by kernel_rfl

section
variable {H : Type} {enc : TypeId × Value → H} {w : World} {held : Bool}

set_option maxRecDepth 100000 in
theorem open_ver_trod {fuel : Nat} {cs : List Value} {x : DataW H × List MemPlace} (h : DataW.trod enc Try.prog w 0 (fun _ => true) held fuel 82 cs = some x) :
    ∃ a b c d : Int, cs = [.int .i64 a, .int .i64 b, .int .i64 c, .int .i64 d] := by
  obtain ⟨y0, y1, y2, y3, n, _, hl, h0, h1, h2, h3⟩ := trod_struct4 Try.underlying82 h
  rw [lawVersion_cells] at hl
  match cs, hl with
  | [c0, c1, c2, c3], _ =>
    obtain ⟨a, e0, _, _⟩ := DataW.trod_int Try.underlying3 h0
    obtain ⟨b, e1, _, _⟩ := DataW.trod_int Try.underlying3 h1
    obtain ⟨c, e2, _, _⟩ := DataW.trod_int Try.underlying3 h2
    obtain ⟨d, e3, _, _⟩ := DataW.trod_int Try.underlying3 h3
    simp [int_cells] at e0 e1 e2 e3
    subst e0; subst e1; subst e2; subst e3
    exact ⟨a, b, c, d, rfl⟩

set_option maxRecDepth 100000 in
theorem open_rel_trod {fuel : Nat} {cs : List Value} {x : DataW H × List MemPlace} (h : DataW.trod enc Try.prog w 0 (fun _ => true) held fuel 84 cs = some x) :
    ∃ (q : Rel) (a : Option Addr) (cap : Nat), cs = [.int .i64 q.1, .int .i64 q.2.1.1, .int .i64 q.2.1.2.1, .int .i64 q.2.1.2.2.1, .int .i64 q.2.1.2.2.2, .bool q.2.2.1, .slice a q.2.2.2.length cap] ∧
      NdAt w w.heap.size (.slice a q.2.2.2.length cap) q.2.2.2 ∧ q.2.2.2.length ≤ maxLen ∧ ∀ p ∈ q.2.2.2, p.2.length ≤ maxLen := by
  obtain ⟨y0, y1, y2, y3, n, _, hl, h0, h1, h2, h3⟩ := trod_struct4 Try.underlying84 h
  rw [lawRelease_cells] at hl
  match cs, hl with
  | [c0, c1, c2, c3, c4, c5, c6], _ =>
    obtain ⟨z, e0, _, _⟩ := DataW.trod_int Try.underlying3 h0
    simp [lawVersion_cells] at h1
    obtain ⟨a, b, c, d, e1⟩ := open_ver_trod h1
    obtain ⟨f, e2, _⟩ := DataW.trod_bool Try.underlying4 h2
    simp [lawNeeds_cells] at h3
    obtain ⟨a', cap, M, e3, hs, hm, hq⟩ := open_needs_trod h3
    simp [int_cells, bool_cells] at e0 e1 e2 e3
    obtain ⟨rfl, rfl, rfl, rfl⟩ := e1
    subst e0; subst e2; subst e3
    exact ⟨(z, (a, b, c, d), f, M), a', cap, rfl, hs, hm, hq⟩

set_option maxRecDepth 100000 in
theorem open_rels_trod {fuel : Nat} {cs : List Value} {x : DataW H × List MemPlace} (h : DataW.trod enc Try.prog w 0 (fun _ => true) held fuel 22 cs = some x) :
    ∃ a cap S, cs = [.slice a S.length cap] ∧ RlAt w w.heap.size (.slice a S.length cap) S ∧ S.length ≤ maxLen ∧ ∀ q ∈ S, q.2.2.2.length ≤ maxLen ∧ ∀ p ∈ q.2.2.2, p.2.length ≤ maxLen := by
  rcases open_slice Try.underlying22 h with ⟨hcs, _⟩ | ⟨a, len, cap, m, k, D, Pl, hcs, _, hl, hm, hmm, _, hel⟩
  · subst hcs
    exact ⟨none, 0, [], rfl, ⟨_, _, rfl, .inl rfl⟩, Nat.zero_le _, by simp⟩
  · subst hcs
    simp at hmm
    subst hmm
    rw [lawRelease_cells] at hel
    obtain ⟨X, hlen, hX⟩ := choose_row (α := Rel) (p := fun i q => ((w.cell? (a.add (i * 7)) = some (.int .i64 q.1) ∧ w.cell? ((a.add (i * 7)).add 1) = some (.int .i64 q.2.1.1) ∧ w.cell? ((a.add (i * 7)).add 2) = some (.int .i64 q.2.1.2.1) ∧ w.cell? ((a.add (i * 7)).add 3) = some (.int .i64 q.2.1.2.2.1) ∧
        w.cell? ((a.add (i * 7)).add 4) = some (.int .i64 q.2.1.2.2.2) ∧ w.cell? ((a.add (i * 7)).add 5) = some (.bool q.2.2.1)) ∧ ∃ a' cap', w.cell? ((a.add (i * 7)).add 6) = some (.slice a' q.2.2.2.length cap') ∧ NdAt w w.heap.size (.slice a' q.2.2.2.length cap') q.2.2.2) ∧
        (q.2.2.2.length ≤ maxLen ∧ ∀ p ∈ q.2.2.2, p.2.length ≤ maxLen)) (fun i (hi : i < len) => by
      obtain ⟨cs', h1, h2⟩ := hel i (by omega)
      obtain ⟨q, a', cap', rfl, hs, hq⟩ := open_rel_trod h2
      obtain ⟨_, _, h3⟩ := World.cells?_some h1
      have e0 := h3 0 (by omega)
      have e1 := h3 1 (by omega)
      have e2 := h3 2 (by omega)
      have e3 := h3 3 (by omega)
      have e4 := h3 4 (by omega)
      have e5 := h3 5 (by omega)
      have e6 := h3 6 (by omega)
      rw [add_none] at e0
      exact ⟨q, ⟨⟨e0, e1, e2, e3, e4, e5⟩, a', cap', e6, hs⟩, hq⟩)
    subst hlen
    refine ⟨some a, m, X, rfl, ?_, by omega, fun q hq => ?_⟩
    · by_cases hz : X.length = 0
      · exact ⟨_, _, rfl, .inl (List.length_eq_zero_iff.1 hz)⟩
      · have c0 := (hX 0 (by omega)).1.1.1
        obtain ⟨b, o, spot⟩ := a
        rw [Nat.zero_mul, add_none] at c0
        have hspot : spot = none := by simpa using World.cell?_spot c0
        subst hspot
        refine ⟨_, _, rfl, .inr ⟨b, o, rfl, ?_, fun i hi => ?_⟩⟩
        · have := World.block_lt_of_cell? w _ c0
          simpa using this
        · obtain ⟨⟨⟨e0, e1, e2, e3, e4, e5⟩, a', cap', e6, hs⟩, _⟩ := hX i hi
          rw [plain_add] at e0 e1 e2 e3 e4 e5 e6
          rw [plain_add] at e1 e2 e3 e4 e5 e6
          exact ⟨⟨e0, e1, e2, e3, e4, e5⟩, a', cap', e6, hs⟩
    · obtain ⟨i, hi, rfl⟩ := List.getElem_of_mem hq
      exact (hX i hi).2

set_option maxRecDepth 100000 in
theorem open_rels {b0 : Nat} {v : Value} {d : DataW H} {p : List MemPlace} (hv : Value.okWide Try.prog w .any b0 22 v)
    (h : DataW.Trod enc Try.prog w 0 (fun _ => true) held 22 v d p) : ∃ a cap S, v = .slice a S.length cap ∧ RlAt w w.heap.size (.slice a S.length cap) S ∧ S.length ≤ maxLen ∧ ∀ q ∈ S, q.2.2.2.length ≤ maxLen ∧ ∀ p ∈ q.2.2.2, p.2.length ≤ maxLen := by
  obtain ⟨a0, len0, cap0, rfl⟩ := okWide_slice Try.underlying22 hv
  obtain ⟨fuel, hf⟩ := h
  obtain ⟨a, cap, S, hc, hs, hm, hq⟩ := open_rels_trod hf
  simp [Value.cells] at hc
  obtain ⟨rfl, rfl, rfl⟩ := hc
  exact ⟨_, _, S, rfl, hs, hm, hq⟩
end
end Go.Proofs.Ytgnjhmmedogcoaa

/- Contracts of the laws' functions that copy releases, over this seat's translation: the copy is a new row with the same releases; nothing that was there before the call has changed. Condition: at most 1048576 releases, needs of each, and spans of those. -/
namespace Go.Proofs.Ytgnjhmmedogcoaa
open Go.RowKit Go.Sort

def RelPost (n a b c d : Int) (f : Bool) (M : List Nd) (w : World) (e : Ending) (w' : World) : Prop :=
  ∃ g, e = .returned (rels n a b c d f (.slice (some ⟨g, 0, none⟩) M.length M.length)) ∧ NdBlk w' g M.length M ∧ w.heap.size ≤ g ∧ Below w.heap.size w w'

set_option maxRecDepth 100000 in
set_option maxHeartbeats 2000000 in
theorem toRelease_any (n a b c d : Int) (f : Bool) (v : Value) (M : List Nd) (w : World) (h : NdAt w w.heap.size v M) (hl : M.length ≤ 1048576) (hq : ∀ q ∈ M, q.2.length ≤ 1048576) : Calls Try.prog 56 #[rels n a b c d f v] w (RelPost n a b c d f M w) := by
  have h' := h
  obtain ⟨ad, cap, rfl, hx⟩ := h'
  clear hx
  have H := Lib.hid h
  clear h
  go_enter Try.func56, Try.ntmps56
  go_wp2_with fail
  refine (toVersion_any a b c d _).mono ?_
  rintro e w1 ⟨rfl, hb1⟩
  have b1 : Below w.heap.size w w1 := Below.step (by go_grown) hb1
  have s1 : w.heap.size + 1 + 1 + 1 ≤ w1.heap.size := by have := hb1.size; simp at this; omega
  obtain ⟨hc, hf⟩ : (∀ b o, b < w.heap.size + 1 + 1 + 1 → w1.cell? ⟨b, o, none⟩ = _) ∧ (∀ b o, b < w.heap.size + 1 + 1 + 1 → w1.frozen? ⟨b, o, none⟩ = _) :=
    ⟨fun b o hbo => hb1.cell (p := ⟨b, o, none⟩) (by simpa using hbo), fun b o hbo => hb1.frozen (p := ⟨b, o, none⟩) (by simpa using hbo)⟩
  clear hb1
  go_wp2_with fail
  refine (toNeedS_any _ M _ (H.out.stepAt (by go_grown)) hl hq).mono ?_
  rintro e w2 ⟨g, rfl, hblk, hg, hb2⟩
  have b2 : Below w.heap.size w w2 := Below.step (show Below w.heap.size w _ from by go_grown) hb2
  obtain ⟨hc2, hf2⟩ : (∀ b o, b < w.heap.size + 1 + 1 + 1 → w2.cell? ⟨b, o, none⟩ = _) ∧ (∀ b o, b < w.heap.size + 1 + 1 + 1 → w2.frozen? ⟨b, o, none⟩ = _) :=
    ⟨fun b o hbo => hb2.cell (p := ⟨b, o, none⟩) (by simp; omega), fun b o hbo => hb2.frozen (p := ⟨b, o, none⟩) (by simp; omega)⟩
  have hg' : w.heap.size + 3 ≤ g := by simp at hg; omega
  clear hb2 H hg b1
  go_wp2_with fail
  exact bodyPost_ret (v := rels n a b c d f (.slice (some ⟨g, 0, none⟩) M.length M.length)) (by simp [results, Try.results56, go_sem, hc2, hc]) rfl
    ⟨g, rfl, hblk.kept (fun k hk _ => by repeat (first | (with_reducible rfl) | refine (Below.heap_setCell _ _ _ _ (by simp; omega)).trans ?_)), by omega, by go_grown⟩

theorem infoRelease : (Try.prog.info? 63).map (fun i => (i.zero, i.size, i.bytes)) = some (some (.agg #[.int .i64 0, .int .i64 0, .int .i64 0, .int .i64 0, .int .i64 0, .bool false, .slice none 0 0]), 7, 72) := by kernel_rfl

/-- 'make([]impl.Release, n)'. -/
theorem make_rels (n : Nat) (hn : n ≤ 1048576) (V : World) :
    (Instr.makeSlice 29 (.int .i64 (n : Int)) (.int .i64 (n : Int))).run Try.prog V = .ok (.slice (some ⟨V.heap.size, 0, none⟩) n n) (V.alloc (.cells (madeCells #[.int .i64 0, .int .i64 0, .int .i64 0, .int .i64 0, .int .i64 0, .bool false, .slice none 0 0] (n * 7)) 63)) := by
  obtain ⟨i0, hi, hz0, hz1, hz2⟩ := info_parts infoRelease
  have h := run_make (P := Try.prog) V 29 63 i0 _ Try.underlying29 hi hz0 .i64 .i64 (n : Int) (n : Int) (by omega) (Int.le_refl _) (by rw [hz2]; omega) (by omega)
  rw [hz1] at h
  simpa [Value.cells] using h

theorem made_rels (n : Nat) (V : World) : RlBlk (V.alloc (.cells (madeCells #[.int .i64 0, .int .i64 0, .int .i64 0, .int .i64 0, .int .i64 0, .bool false, .slice none 0 0] (n * 7)) 63)) V.heap.size n [] :=
  ⟨_, heap_alloc_new V _, size_madeCells _ _, Nat.zero_le _, fun i hi => absurd hi (by simp)⟩

/-- What the loop of toReleaseS keeps: the first k releases are copied. -/
def RToRel (S : List Rel) (w : World) (g : Nat) (i : Value) (wr : World) : Prop :=
  ∃ k : Nat, k ≤ S.length ∧ i = .int .i64 (k : Int) ∧ RlBlk wr g S.length (S.take k) ∧ Below w.heap.size w wr

theorem rto_push {S : List Rel} {w wr : World} {k : Nat} {x a1 b1 c1 d1 : Int} {gn : Bool} {M : List Nd} {ad : Option Addr} {cap : Nat} (hxy : S[k]? = some (x, (a1, b1, c1, d1), gn, M)) (hk : k < S.length) (hblk : RlBlk wr w.heap.size S.length (S.take k)) (hr : NRes M (w.heap.size + 1) (.slice ad M.length cap) wr) (hb : Below w.heap.size w wr) :
    RToRel S w w.heap.size (.int .i64 ((k : Int) + 1)) (((((((wr.setCell ⟨w.heap.size, k * 7, none⟩ (.int .i64 x)).setCell ⟨w.heap.size, k * 7 + 1, none⟩ (.int .i64 a1)).setCell ⟨w.heap.size, k * 7 + 2, none⟩ (.int .i64 b1)).setCell ⟨w.heap.size, k * 7 + 3, none⟩ (.int .i64 c1)).setCell ⟨w.heap.size, k * 7 + 4, none⟩ (.int .i64 d1)).setCell ⟨w.heap.size, k * 7 + 5, none⟩ (.bool gn)).setCell ⟨w.heap.size, k * 7 + 6, none⟩ (.slice ad M.length cap)) := by
  have hl : (S.take k).length = k := by simp; omega
  have h := hblk.push (by omega) x a1 b1 c1 d1 gn hr
  rw [hl] at h
  refine ⟨k + 1, by omega, by go_num, ?_, ((((((hb.setCell (by simp) _).setCell (by simp) _).setCell (by simp) _).setCell (by simp) _).setCell (by simp) _).setCell (by simp) _).setCell (by simp) _⟩
  rw [List.take_add_one, hxy]
  exact h

def RToPost (S : List Rel) (w : World) (e : Ending) (w' : World) : Prop :=
  ∃ g, e = .returned (.slice (some ⟨g, 0, none⟩) S.length S.length) ∧ RlBlk w' g S.length S ∧ w.heap.size ≤ g ∧ Below w.heap.size w w'

set_option maxRecDepth 100000 in
set_option maxHeartbeats 2000000 in
theorem toReleaseS_any (v : Value) (S : List Rel) (w : World) (h : RlAt w w.heap.size v S) (hl : S.length ≤ 1048576) (hq : ∀ q ∈ S, q.2.2.2.length ≤ 1048576 ∧ ∀ p ∈ q.2.2.2, p.2.length ≤ 1048576) : Calls Try.prog 13 #[v] w (RToPost S w) := by
  obtain ⟨a, cap, rfl, h⟩ := h
  have hmk := make_rels S.length hl
  go_enter Try.func13, Try.ntmps13
  go_wp2
  clear hmk
  go_loopw [4] (fun i wr => RToRel S w w.heap.size i wr) (fun i _ => S.length - (intOf i).toNat)
  case atStart => exact ⟨0, Nat.zero_le _, rfl, by rw [List.take_zero]; exact made_rels _ _, (Below.refl _ _).alloc (Nat.le_refl _) _⟩
  case round =>
    obtain ⟨k, hk, rfl, hblk, hb⟩ := hrel
    by_cases hlt : k < S.length
    · rcases h with h | ⟨b, o, rfl, hB, hc⟩
      · subst h
        exact absurd hlt (by simp)
      obtain ⟨x, a1, b1, c1, d1, gn, M, hxy⟩ : ∃ x a1 b1 c1 d1 gn M, S[k] = (x, (a1, b1, c1, d1), gn, M) := ⟨_, _, _, _, _, _, _, rfl⟩
      have c := (hc k hlt).below hb hB
      rw [hxy] at c
      obtain ⟨⟨e0, e1, e2, e3, e4, e5⟩, ad, cap1, e6, hs⟩ := c
      have hL : M.length ≤ 1048576 ∧ ∀ p ∈ M, p.2.length ≤ 1048576 := by have := hq _ (List.getElem_mem hlt); rwa [hxy] at this
      simp only at e0 e1 e2 e3 e4 e5 e6 hs
      have HXY := Lib.hid (show S[k]? = some (x, (a1, b1, c1, d1), gn, M) by rw [List.getElem?_eq_getElem hlt, hxy])
      clear hxy hc
      have HS := Lib.hid (hs.mono hb.size)
      have HB := Lib.hid hblk
      have hg := hblk.lt
      clear hs hblk
      go_wp2_with fail
      refine (toRelease_any x a1 b1 c1 d1 gn _ M wr HS.out hL.1 hL.2).mono ?_
      rintro e w2 ⟨g2, rfl, sblk, hg2, hb2⟩
      have blk2 := HB.out.below hb2
      have bel2 := hb.trans (hb2.mono hb.size)
      have pl := blk2.place hlt
      obtain ⟨⟨p0, hp0⟩, ⟨p1, hp1⟩, ⟨p2, hp2⟩, ⟨p3, hp3⟩, ⟨p4, hp4⟩, ⟨p5, hp5⟩, ⟨p6, hp6⟩, f0, f1, f2, f3, f4, f5, f6⟩ := pl
      have HP := Lib.hid (rto_push HXY.out hlt blk2 (show NRes M (w.heap.size + 1) (.slice (some ⟨g2, 0, none⟩) M.length M.length) w2 from ⟨_, _, rfl, .inr ⟨g2, _, rfl, sblk, by omega⟩⟩) bel2)
      clear hb hb2 e0 e1 e2 e3 e4 e5 e6 blk2 bel2 sblk
      go_wp2_with fail
      go_roundw
      case rel => exact HP.out
      case measure => simp [intOf]; omega
    · obtain rfl : k = S.length := by omega
      rw [List.take_length] at hblk
      go_wp2_with fail
      go_ret
      exact ⟨w.heap.size, rfl, hblk, Nat.le_refl _, hb⟩

end Go.Proofs.Ytgnjhmmedogcoaa

/- Contracts of the laws' functions that measure releases, over this seat's translation: what is left of a measure behind all releases, their needs and their spans, or -1; nothing that was there before the call has changed. Condition: no row is longer than any slice can be. -/
namespace Go.Proofs.Ytgnjhmmedogcoaa
open Go.RowKit Go.Sort

set_option maxRecDepth 100000 in
set_option maxHeartbeats 1000000 in
theorem szRelease_any (n a b c d : Int) (f : Bool) (v : Value) (M : List Nd) (left : Int) (w : World) (h0 : 0 ≤ left) (h1 : left ≤ 1048576) (hl : M.length ≤ maxLen) (hq : ∀ q ∈ M, q.2.length ≤ maxLen) (h : NdAt w w.heap.size v M) :
    Calls Try.prog 50 #[rels n a b c d f v, .int .i64 left] w fun e w' => e = .returned (.int .i64 (leftOf left (M.length + ndSz M))) ∧ Below w.heap.size w w' := by
  have h' := h
  obtain ⟨ad, cap, rfl, hx⟩ := h'
  clear hx
  have K := Lib.hid (show ∀ V, NdAt V V.heap.size (.slice ad M.length cap) M → _ from fun V g => szNeedS_any _ M left V h0 h1 hl hq g)
  have H := Lib.hid h
  have b0 := (Below.refl w.heap.size w).alloc (Nat.le_refl _) (.cells #[.int .i64 n, .int .i64 a, .int .i64 b, .int .i64 c, .int .i64 d, .bool f, .slice ad M.length cap] 84)
  clear h
  unfold leftOf at K ⊢
  by_cases hh : left < ((M.length + ndSz M : Nat) : Int)
  · rw [if_pos hh] at K ⊢
    clear hh
    go_enter Try.func50, Try.ntmps50
    go_wp2_with fail
    refine (K.out _ (H.out.stepAt (by go_grown))).mono ?_
    rintro e w1 ⟨rfl, hb⟩
    go_wp2_with fail
    go_ret
    exact ⟨rfl, b0.trans (hb.mono b0.size)⟩
  · rw [if_neg hh] at K ⊢
    have hn : ¬ left - ((M.length + ndSz M : Nat) : Int) < 0 := by omega
    obtain ⟨r, hr⟩ : ∃ r : Int, left - ((M.length + ndSz M : Nat) : Int) = r := ⟨_, rfl⟩
    rw [hr] at K hn ⊢
    clear hr hh
    go_enter Try.func50, Try.ntmps50
    go_wp2_with fail
    refine (K.out _ (H.out.stepAt (by go_grown))).mono ?_
    rintro e w1 ⟨rfl, hb⟩
    go_wp2_with fail
    go_ret
    exact ⟨rfl, b0.trans (hb.mono b0.size)⟩

/-- What the loop of szReleaseS keeps: what is left, and what it will take. -/
def RSzRel (S : List Rel) (T : Int) (w : World) (s i : Value) (wr : World) : Prop :=
  ∃ (k : Nat) (r : Int), k ≤ S.length ∧ i = .int .i64 (k : Int) ∧ s = .int .i64 r ∧ 0 ≤ r ∧ r ≤ 1048576 ∧ r - (rlSz (S.drop k) : Int) = T ∧ Below w.heap.size w wr

theorem rsz_push {S : List Rel} {T r : Int} {w wr : World} {k : Nat} {q : Rel} (hM : S[k]? = some q) (h0 : 0 ≤ r) (h1 : r ≤ 1048576) (hT : r - (rlSz (S.drop k) : Int) = T) (hn : ¬ r < ((q.2.2.2.length + ndSz q.2.2.2 : Nat) : Int)) (hb : Below w.heap.size w wr) :
    RSzRel S T w (.int .i64 (leftOf r (q.2.2.2.length + ndSz q.2.2.2))) (.int .i64 ((k : Int) + 1)) wr := by
  have hk : k < S.length := (List.getElem?_eq_some_iff.1 hM).1
  have hd := rlSz_drop S k _ hM
  unfold leftOf
  rw [if_neg hn]
  exact ⟨k + 1, r - ((q.2.2.2.length + ndSz q.2.2.2 : Nat) : Int), by omega, by go_num, rfl, by omega, by omega, by omega, hb⟩

set_option maxRecDepth 100000 in
set_option maxHeartbeats 2000000 in
theorem szReleaseS_any (v : Value) (S : List Rel) (left : Int) (w : World) (h0 : 0 ≤ left) (h1 : left ≤ 1048576) (hl : S.length ≤ maxLen) (hq : ∀ q ∈ S, q.2.2.2.length ≤ maxLen ∧ ∀ p ∈ q.2.2.2, p.2.length ≤ maxLen) (h : RlAt w w.heap.size v S) :
    Calls Try.prog 10 #[v, .int .i64 left] w fun e w' => e = .returned (.int .i64 (leftOf left (S.length + rlSz S))) ∧ Below w.heap.size w w' := by
  obtain ⟨a, cap, rfl, h⟩ := h
  unfold maxLen at hl
  by_cases hs : left < (S.length : Int)
  · have hr : leftOf left (S.length + rlSz S) = -1 := by unfold leftOf; rw [if_pos (by omega)]
    rw [hr]
    clear hr h
    go_enter Try.func10, Try.ntmps10
    go_wp2_with fail
    go_ret
    exact ⟨rfl, Below.refl _ _⟩
  · have hn : ¬ left - (S.length : Int) < 0 := by omega
    obtain ⟨T, hT⟩ : ∃ T : Int, left - (S.length : Int) - (rlSz S : Int) = T := ⟨_, rfl⟩
    obtain ⟨R, hR⟩ : ∃ R : Int, leftOf left (S.length + rlSz S) = R := ⟨_, rfl⟩
    have HR := Lib.hid (show (T < 0 → R = -1) ∧ (¬ T < 0 → R = T) by
      rw [← hR]
      unfold leftOf
      constructor <;> intro h <;> split <;> omega)
    rw [hR]
    clear hR
    have HS := Lib.hid (show RSzRel S T w (.int .i64 (left - (S.length : Int))) (.int .i64 0) w from ⟨0, _, Nat.zero_le _, rfl, rfl, by omega, by omega, by simpa using hT, Below.refl _ _⟩)
    go_enter Try.func10, Try.ntmps10
    go_wp2_with fail
    go_loopw [1, 5] (fun s i wr => RSzRel S T w s i wr) (fun _ i _ => S.length - (intOf i).toNat)
    case atStart => exact HS.out
    case round =>
      obtain ⟨k, r, hk, rfl, rfl, r0, r1, hT', hb⟩ := hrel
      by_cases hlt : k < S.length
      · rcases h with h | ⟨b, o, rfl, hB, hc⟩
        · subst h
          exact absurd hlt (by simp)
        obtain ⟨x, a1, b1, c1, d1, gn, M, hxy⟩ : ∃ x a1 b1 c1 d1 gn M, S[k] = (x, (a1, b1, c1, d1), gn, M) := ⟨_, _, _, _, _, _, _, rfl⟩
        have c := (hc k hlt).below hb hB
        rw [hxy] at c
        obtain ⟨⟨e0, e1, e2, e3, e4, e5⟩, ad, cap1, e6, hs'⟩ := c
        have hL : M.length ≤ maxLen ∧ ∀ p ∈ M, p.2.length ≤ maxLen := by have := hq _ (List.getElem_mem hlt); rwa [hxy] at this
        simp only at e0 e1 e2 e3 e4 e5 e6 hs'
        have HXY := Lib.hid (show S[k]? = some (x, (a1, b1, c1, d1), gn, M) by rw [List.getElem?_eq_getElem hlt, hxy])
        clear hxy hc
        have KS := szRelease_any x a1 b1 c1 d1 gn _ M r wr r0 r1 hL.1 hL.2 (hs'.mono hb.size)
        clear hs'
        by_cases hx : r < ((M.length + ndSz M : Nat) : Int)
        · rw [show leftOf r (M.length + ndSz M) = -1 by unfold leftOf; rw [if_pos hx]] at KS
          have HF := Lib.hid (show T < 0 by have := rlSz_drop S k _ HXY.out; simp only at this; omega)
          have HK := Lib.hid KS
          clear KS hx
          go_wp2_with fail
          refine HK.out.mono ?_
          rintro e w2 ⟨rfl, hb2⟩
          go_wp2_with fail
          go_ret
          exact ⟨by rw [HR.out.1 HF.out]; rfl, hb.trans (hb2.mono hb.size)⟩
        · have HK := Lib.hid KS
          have HN := Lib.hid hx
          obtain ⟨y, hy⟩ : ∃ y : Int, leftOf r (M.length + ndSz M) = y := ⟨_, rfl⟩
          have HY := Lib.hid hy
          have hn2 : ¬ y < 0 := by rw [← hy]; unfold leftOf; rw [if_neg hx]; omega
          rw [hy] at HK
          clear KS hx hy
          go_wp2_with fail
          refine HK.out.mono ?_
          rintro e w2 ⟨rfl, hb2⟩
          have HP := Lib.hid (rsz_push HXY.out r0 r1 hT' (by have := HN.out; simp only; omega) (hb.trans (hb2.mono hb.size)))
          have HQ := Lib.hid (HY.out ▸ HP.out)
          clear hb hb2 hT'
          go_wp2_with fail
          go_roundw
          case rel => exact HQ.out
          case measure => simp [intOf]; omega
      · obtain rfl : k = S.length := by omega
        rw [List.drop_length] at hT'
        have HF := Lib.hid (show R = r by rw [HR.out.2 (by simp [rlSz] at hT'; omega)]; simp [rlSz] at hT'; omega)
        clear hT'
        go_wp2_with fail
        go_ret
        exact ⟨by rw [HF.out]; rfl, hb⟩

end Go.Proofs.Ytgnjhmmedogcoaa

/- Contracts of the laws' functions that compare releases, over this seat's translation: they answer whether the releases are the same; nothing that was there before the call has changed. Condition: at most 1048576 releases, needs of each, and spans of those. -/
namespace Go.Proofs.Ytgnjhmmedogcoaa
open Go.RowKit Go.Sort

set_option maxRecDepth 100000 in
set_option maxHeartbeats 2000000 in
theorem eqRelease_any (x a b c d x' a' b' c' d' : Int) (f f' : Bool) (v v' : Value) (M M' : List Nd) (w : World) (hl : M.length ≤ 1048576) (hm : M'.length ≤ 1048576) (hq : ∀ q ∈ M, q.2.length ≤ 1048576) (hq' : ∀ q ∈ M', q.2.length ≤ 1048576) (h : NdAt w w.heap.size v M) (h' : NdAt w w.heap.size v' M') :
    Calls Try.prog 61 #[rels x a b c d f v, rels x' a' b' c' d' f' v'] w fun e w' => e = .returned (.bool (decide (((x, (a, b, c, d), f, M) : Rel) = (x', (a', b', c', d'), f', M')))) ∧ Below w.heap.size w w' := by
  have e1 := h
  have e2 := h'
  obtain ⟨p, cap, rfl, y1⟩ := e1
  obtain ⟨p', cap', rfl, y2⟩ := e2
  clear y1 y2
  have KN := Lib.hid (show ∀ V, NdAt V V.heap.size (.slice p M.length cap) M → NdAt V V.heap.size (.slice p' M'.length cap') M' → _ from fun V g g' => eqNeedS_any _ _ M M' V hl hm hq hq' g g')
  have KV := Lib.hid fun V => eqVersion_any a b c d a' b' c' d' V
  have H := Lib.hid h
  have H' := Lib.hid h'
  obtain ⟨w1, hw1⟩ : ∃ V : World, V = (w.alloc (.cells #[.int .i64 x, .int .i64 a, .int .i64 b, .int .i64 c, .int .i64 d, .bool f, .slice p M.length cap] 63)).alloc (.cells #[.int .i64 x', .int .i64 a', .int .i64 b', .int .i64 c', .int .i64 d', .bool f', .slice p' M'.length cap'] 63) := ⟨_, rfl⟩
  have b0 : Below w.heap.size w w1 := by
    rw [hw1]
    exact ((Below.refl w.heap.size w).alloc (Nat.le_refl _) _).alloc (by simp) _
  have s1 : w.heap.size + 2 ≤ w1.heap.size := by rw [hw1]; simp
  have y00 : w1.cell? ⟨w.heap.size, 0, none⟩ = some (.int .i64 x) := by rw [hw1]; go_simp
  have y01 : w1.cell? ⟨w.heap.size, 1, none⟩ = some (.int .i64 a) := by rw [hw1]; go_simp
  have y02 : w1.cell? ⟨w.heap.size, 2, none⟩ = some (.int .i64 b) := by rw [hw1]; go_simp
  have y03 : w1.cell? ⟨w.heap.size, 3, none⟩ = some (.int .i64 c) := by rw [hw1]; go_simp
  have y04 : w1.cell? ⟨w.heap.size, 4, none⟩ = some (.int .i64 d) := by rw [hw1]; go_simp
  have y05 : w1.cell? ⟨w.heap.size, 5, none⟩ = some (.bool f) := by rw [hw1]; go_simp
  have y06 : w1.cell? ⟨w.heap.size, 6, none⟩ = some (.slice p M.length cap) := by rw [hw1]; go_simp
  have y10 : w1.cell? ⟨w.heap.size + 1, 0, none⟩ = some (.int .i64 x') := by rw [hw1]; go_simp
  have y11 : w1.cell? ⟨w.heap.size + 1, 1, none⟩ = some (.int .i64 a') := by rw [hw1]; go_simp
  have y12 : w1.cell? ⟨w.heap.size + 1, 2, none⟩ = some (.int .i64 b') := by rw [hw1]; go_simp
  have y13 : w1.cell? ⟨w.heap.size + 1, 3, none⟩ = some (.int .i64 c') := by rw [hw1]; go_simp
  have y14 : w1.cell? ⟨w.heap.size + 1, 4, none⟩ = some (.int .i64 d') := by rw [hw1]; go_simp
  have y15 : w1.cell? ⟨w.heap.size + 1, 5, none⟩ = some (.bool f') := by rw [hw1]; go_simp
  have y16 : w1.cell? ⟨w.heap.size + 1, 6, none⟩ = some (.slice p' M'.length cap') := by rw [hw1]; go_simp
  clear h h'
  by_cases hx : x = x'
  · subst hx
    by_cases hv : a = a' ∧ b = b' ∧ c = c' ∧ d = d'
    · have hvt : vEq a b c d a' b' c' d' = true := by unfold vEq; simp [hv]
      rw [hvt] at KV
      by_cases hf : f = f'
      · have hr : decide (((x, (a, b, c, d), f, M) : Rel) = (x, (a', b', c', d'), f', M')) = decide (M = M') := decide_eq_decide.2 (by simp [hv, hf])
        rw [hr]
        subst hf
        have hff : (f != f) = false := by simp
        clear hr hv hvt
        rcases hM : decide (M = M')
        all_goals
          rw [hM] at KN
          clear hM
          go_enter Try.func61, Try.ntmps61
          go_upto_region 1 with fail
          rw [← hw1]
          clear hw1
          go_wp2_with fail
          refine (KV.out _).mono ?_
          rintro e w2 ⟨rfl, hb⟩
          have b2 := b0.trans (hb.mono b0.size)
          have s2 := hb.size
          have z05 := (hb.cell (p := ⟨w.heap.size, 5, none⟩) (by show w.heap.size < w1.heap.size; omega)).trans y05
          have z06 := (hb.cell (p := ⟨w.heap.size, 6, none⟩) (by show w.heap.size < w1.heap.size; omega)).trans y06
          have z15 := (hb.cell (p := ⟨w.heap.size + 1, 5, none⟩) (by show w.heap.size + 1 < w1.heap.size; omega)).trans y15
          have z16 := (hb.cell (p := ⟨w.heap.size + 1, 6, none⟩) (by show w.heap.size + 1 < w1.heap.size; omega)).trans y16
          clear hb
          go_wp2_with fail
          refine (KN.out _ (H.out.stepAt b2) (H'.out.stepAt b2)).mono ?_
          rintro e w3 ⟨rfl, hb⟩
          go_wp2_with fail
          go_ret
          exact ⟨rfl, b2.trans (hb.mono b2.size)⟩
      · rw [decide_eq_false (p := ((x, (a, b, c, d), f, M) : Rel) = (x, (a', b', c', d'), f', M')) (fun e => by simp only [Prod.mk.injEq] at e; exact hf e.2.2.1)]
        obtain rfl : f' = !f := by cases f <;> cases f' <;> simp_all
        clear hv hvt hf
        cases f
        all_goals
          simp only [Bool.not_true, Bool.not_false] at *
          go_enter Try.func61, Try.ntmps61
          go_upto_region 1 with fail
          rw [← hw1]
          clear hw1
          go_wp2_with fail
          refine (KV.out _).mono ?_
          rintro e w2 ⟨rfl, hb⟩
          have b2 := b0.trans (hb.mono b0.size)
          have s2 := hb.size
          have z05 := (hb.cell (p := ⟨w.heap.size, 5, none⟩) (by show w.heap.size < w1.heap.size; omega)).trans y05
          have z06 := (hb.cell (p := ⟨w.heap.size, 6, none⟩) (by show w.heap.size < w1.heap.size; omega)).trans y06
          have z15 := (hb.cell (p := ⟨w.heap.size + 1, 5, none⟩) (by show w.heap.size + 1 < w1.heap.size; omega)).trans y15
          have z16 := (hb.cell (p := ⟨w.heap.size + 1, 6, none⟩) (by show w.heap.size + 1 < w1.heap.size; omega)).trans y16
          clear hb
          go_wp2_with fail
          go_ret
          exact ⟨rfl, b2⟩
    · rw [decide_eq_false (p := ((x, (a, b, c, d), f, M) : Rel) = (x, (a', b', c', d'), f', M')) (fun e => by simp only [Prod.mk.injEq] at e; exact hv e.2.1)]
      have hvt : vEq a b c d a' b' c' d' = false := by
        rw [← Bool.not_eq_true]
        unfold vEq
        simp only [Bool.and_eq_true, decide_eq_true_eq]
        exact hv
      rw [hvt] at KV
      clear hv hvt
      go_enter Try.func61, Try.ntmps61
      go_upto_region 1 with fail
      rw [← hw1]
      clear hw1
      go_wp2_with fail
      refine (KV.out _).mono ?_
      rintro e w2 ⟨rfl, hb⟩
      have b2 := b0.trans (hb.mono b0.size)
      clear hb
      go_wp2_with fail
      go_ret
      exact ⟨rfl, b2⟩
  · rw [decide_eq_false (p := ((x, (a, b, c, d), f, M) : Rel) = (x', (a', b', c', d'), f', M')) (fun e => by simp only [Prod.mk.injEq] at e; exact hx e.1)]
    go_enter Try.func61, Try.ntmps61
    go_upto_region 1 with fail
    rw [← hw1]
    clear hw1
    go_wp2_with fail
    go_ret
    exact ⟨rfl, b0⟩

/-- What the loop of eqReleaseS keeps: the first k releases are alike. -/
def REqRel (M N : List Rel) (w : World) (i : Value) (wr : World) : Prop :=
  ∃ k : Nat, k ≤ M.length ∧ i = .int .i64 (k : Int) ∧ M.take k = N.take k ∧ Below w.heap.size w wr

theorem req_push {M N : List Rel} {w wr : World} {k : Nat} {q : Rel} (hk : k < M.length) (hM : M[k]? = some q) (hN : N[k]? = some q) (ht : M.take k = N.take k) (hb : Below w.heap.size w wr) :
    REqRel M N w (.int .i64 ((k : Int) + 1)) wr :=
  ⟨k + 1, by omega, by go_num, by rw [List.take_add_one, List.take_add_one, hM, hN, ht], hb⟩

theorem rdiffer_at {M N : List Rel} {k : Nat} {q q' : Rel} (hM : M[k]? = some q) (hN : N[k]? = some q') (h : ¬ q = q') : ¬ M = N := by
  rintro rfl
  rw [hM] at hN
  cases hN
  exact h rfl

set_option maxRecDepth 100000 in
set_option maxHeartbeats 4000000 in
theorem eqReleaseS_any (v v' : Value) (M N : List Rel) (w : World) (hl : M.length ≤ 1048576) (hm : N.length ≤ 1048576) (hq : ∀ q ∈ M, q.2.2.2.length ≤ 1048576 ∧ ∀ p ∈ q.2.2.2, p.2.length ≤ 1048576) (hq' : ∀ q ∈ N, q.2.2.2.length ≤ 1048576 ∧ ∀ p ∈ q.2.2.2, p.2.length ≤ 1048576)
    (h : RlAt w w.heap.size v M) (h' : RlAt w w.heap.size v' N) :
    Calls Try.prog 17 #[v, v'] w fun e w' => e = .returned (.bool (decide (M = N))) ∧ Below w.heap.size w w' := by
  obtain ⟨ad, cap, rfl, hc⟩ := h
  obtain ⟨ad', cap', rfl, hc'⟩ := h'
  have H := Lib.hid hc
  have H' := Lib.hid hc'
  clear hc hc'
  by_cases hLM : N.length = M.length
  · have HLM := Lib.hid hLM
    have hz : ((M.length : Int) != (M.length : Int)) = false := by simp
    rw [hLM]
    clear hLM
    go_enter Try.func17, Try.ntmps17
    go_wp2
    go_loopw [5] (fun i wr => REqRel M N w i wr) (fun i _ => M.length - (intOf i).toNat)
    case atStart => exact ⟨0, Nat.zero_le _, rfl, rfl, Below.refl _ _⟩
    case round =>
      obtain ⟨k, hk, rfl, ht, hb⟩ := hrel
      have HT := Lib.hid ht
      clear ht
      by_cases hlt : k < M.length
      · rcases H.out with h1 | ⟨g, o, rfl, hB, hc⟩
        · subst h1
          exact absurd hlt (by simp)
        rcases H'.out with h2 | ⟨g', o', rfl, hB', hc'⟩
        · have := HLM.out
          subst h2
          simp at this
          omega
        have hlt' : k < N.length := by have := HLM.out; omega
        obtain ⟨x, a, b, c, d, f, L, hxy⟩ : ∃ x a b c d f L, M[k] = (x, (a, b, c, d), f, L) := ⟨_, _, _, _, _, _, _, rfl⟩
        obtain ⟨x', a', b', c', d', f', L', hxy'⟩ : ∃ x a b c d f L, N[k] = (x, (a, b, c, d), f, L) := ⟨_, _, _, _, _, _, _, rfl⟩
        have m1 := (hc k hlt).below hb hB
        have m2 := (hc' k hlt').below hb hB'
        rw [hxy] at m1
        rw [hxy'] at m2
        obtain ⟨⟨k0, k1, k2, k3, k4, k5⟩, p1, cap1, k6, hs⟩ := m1
        obtain ⟨⟨l0, l1, l2, l3, l4, l5⟩, p2, cap2, l6, hs'⟩ := m2
        have hL : L.length ≤ 1048576 ∧ ∀ p ∈ L, p.2.length ≤ 1048576 := by have := hq _ (List.getElem_mem hlt); rwa [hxy] at this
        have hL' : L'.length ≤ 1048576 ∧ ∀ p ∈ L', p.2.length ≤ 1048576 := by have := hq' _ (List.getElem_mem hlt'); rwa [hxy'] at this
        simp only at k0 k1 k2 k3 k4 k5 k6 l0 l1 l2 l3 l4 l5 l6 hs hs'
        have HS := Lib.hid (hs.mono hb.size)
        have HS' := Lib.hid (hs'.mono hb.size)
        have HX := Lib.hid (show M[k]? = some (x, (a, b, c, d), f, L) by rw [List.getElem?_eq_getElem hlt, hxy])
        have HX' := Lib.hid (show N[k]? = some (x', (a', b', c', d'), f', L') by rw [List.getElem?_eq_getElem hlt', hxy'])
        clear hc hc' hxy hxy' hs hs'
        have i0 : (0 : Int) ≤ (k : Int) := by omega
        have i1 : (k : Int) < (M.length : Int) := by omega
        have t0 := cell_regrown k0
        have t1 := cell_regrown k1
        have t2 := cell_regrown k2
        have t3 := cell_regrown k3
        have t4 := cell_regrown k4
        have t5 := cell_regrown k5
        have t6 := cell_regrown k6
        have u0 := cell_regrown l0
        have u1 := cell_regrown l1
        have u2 := cell_regrown l2
        have u3 := cell_regrown l3
        have u4 := cell_regrown l4
        have u5 := cell_regrown l5
        have u6 := cell_regrown l6
        clear k0 k1 k2 k3 k4 k5 k6 l0 l1 l2 l3 l4 l5 l6
        by_cases heq : ((x, (a, b, c, d), f, L) : Rel) = (x', (a', b', c', d'), f', L')
        · have K : Hid (∀ V, NdAt V V.heap.size (.slice p1 L.length cap1) L → NdAt V V.heap.size (.slice p2 L'.length cap2) L' → Calls Try.prog 61 #[rels x a b c d f (.slice p1 L.length cap1), rels x' a' b' c' d' f' (.slice p2 L'.length cap2)] V fun e w' => e = .returned (.bool true) ∧ Below V.heap.size V w') := Lib.hid fun V g g' => by
            have := eqRelease_any x a b c d x' a' b' c' d' f f' _ _ L L' V hL.1 hL'.1 hL.2 hL'.2 g g'
            rwa [decide_eq_true heq] at this
          have HE := Lib.hid heq
          clear heq
          go_wp2_with fail
          refine wp_region_quiet_below (by kernel_rfl) (by kernel_rfl) ?_
          repeat (any_goals (first | go_big_quiet_step ((go_at_call 61; exact Calls.regrown_of (K.out _ (HS.out.stepAt (below_regrown _ _ _)) (HS'.out.stepAt (below_regrown _ _ _))))) | quiet_step ((go_at_call 61; exact Calls.regrown_of (K.out _ (HS.out.stepAt (below_regrown _ _ _)) (HS'.out.stepAt (below_regrown _ _ _)))))))
          refine wpQuiet_nil ?_
          intro W2 hw
          have nn := quiet_end hw
          clear hw t0 t1 t2 t3 t4 t5 t6 u0 u1 u2 u3 u4 u5 u6
          have HP := Lib.hid (req_push (w := w) hlt HX.out (by rw [HE.out]; exact HX'.out) HT.out (hb.trans (nn.mono hb.size)))
          go_wp2_with fail
          go_roundw
          case rel => exact HP.out
          case measure => simp [intOf]; omega
        · have K : Hid (∀ V, NdAt V V.heap.size (.slice p1 L.length cap1) L → NdAt V V.heap.size (.slice p2 L'.length cap2) L' → Calls Try.prog 61 #[rels x a b c d f (.slice p1 L.length cap1), rels x' a' b' c' d' f' (.slice p2 L'.length cap2)] V fun e w' => e = .returned (.bool false) ∧ Below V.heap.size V w') := Lib.hid fun V g g' => by
            have := eqRelease_any x a b c d x' a' b' c' d' f f' _ _ L L' V hL.1 hL'.1 hL.2 hL'.2 g g'
            rwa [decide_eq_false heq] at this
          have HN := Lib.hid (rdiffer_at HX.out HX'.out heq)
          clear heq
          go_wp2_with fail
          refine wp_region_quiet_below (by kernel_rfl) (by kernel_rfl) ?_
          repeat (any_goals (first | go_big_quiet_step ((go_at_call 61; exact Calls.regrown_of (K.out _ (HS.out.stepAt (below_regrown _ _ _)) (HS'.out.stepAt (below_regrown _ _ _))))) | quiet_step ((go_at_call 61; exact Calls.regrown_of (K.out _ (HS.out.stepAt (below_regrown _ _ _)) (HS'.out.stepAt (below_regrown _ _ _)))))))
          refine wpQuiet_nil ?_
          intro W2 hw
          have nn := quiet_end hw
          clear hw t0 t1 t2 t3 t4 t5 t6 u0 u1 u2 u3 u4 u5 u6
          go_wp2_with fail
          go_ret
          exact ⟨by rw [decide_eq_false HN.out]; rfl, hb.trans (nn.mono hb.size)⟩
      · obtain rfl : k = M.length := by omega
        have hd : M = N := by
          have := HT.out
          rw [List.take_length] at this
          rw [this]
          have := HLM.out
          rw [← this, List.take_length]
        have HD := Lib.hid (decide_eq_true hd)
        clear hd
        go_wp2_with fail
        go_ret
        exact ⟨by rw [HD.out]; rfl, hb⟩
  · have hz : ((M.length : Int) != (N.length : Int)) = true := by rw [bne_iff_ne]; omega
    have HD := Lib.hid (decide_eq_false (p := M = N) (fun e => hLM (by rw [e])))
    clear hLM
    go_enter Try.func17, Try.ntmps17
    go_wp2
    go_ret
    exact ⟨by rw [HD.out]; rfl, Below.refl _ _⟩

end Go.Proofs.Ytgnjhmmedogcoaa

/- Small facts for the laws on shelves: what a measure says of each row; rows of the same releases compare as the same. -/
namespace Go.Proofs.Ytgnjhmmedogcoaa
open Go.RowKit Go.Sort

theorem rl_each {M : List Rel} (h : rlSz M ≤ 1048576) : ∀ q ∈ M, q.2.2.2.length ≤ 1048576 ∧ ∀ p ∈ q.2.2.2, p.2.length ≤ 1048576 := fun q hq => by
  obtain ⟨i, hi, rfl⟩ := List.getElem_of_mem hq
  have := rlSz_mem M i _ (List.getElem?_eq_getElem hi)
  refine ⟨by omega, fun p hp => ?_⟩
  obtain ⟨j, hj, rfl⟩ := List.getElem_of_mem hp
  have := ndSz_mem _ j _ (List.getElem?_eq_getElem hj)
  omega
theorem eqReleaseS_same {v v' : Value} {M : List Rel} {w : World} (hl : M.length ≤ 1048576) (hq : ∀ q ∈ M, q.2.2.2.length ≤ 1048576 ∧ ∀ p ∈ q.2.2.2, p.2.length ≤ 1048576) (h : RlAt w w.heap.size v M) (h' : RlAt w w.heap.size v' M) :
    Calls Try.prog 17 #[v, v'] w fun e w' => e = .returned (.bool true) ∧ Below w.heap.size w w' := by
  have := eqReleaseS_any v v' M M w hl hl hq hq h h'
  rwa [decide_eq_true rfl] at this

end Go.Proofs.Ytgnjhmmedogcoaa

/- Groundwork over this seat's translation: Nd, Spopen, Ndopen, Ndto, Ndsz, Ndeq, Rm, Rmopen, Rto, Rsz, Req, Rlb in one text; the conditions stand at each part. -/
import Derived.Test.YtenfdbikgpppdaaGb
import Derived.Test.YtenfdbikgpppdaaGa
import Derived.Deep.Slices
import Derived.Deep.RegionHeld3
import Derived.Deep.CutRange

/- Rows of needs in memory, over this seat's translation: what it is for a slice value to hold a list of needs (a name, and a row of spans), and for a block to be such a row whose spans lie behind it. No condition. -/
namespace Go.Proofs.Ytenfdbikgpppdaa
open Go.RowKit Go.Sort

abbrev Nd := Int × List (Int × Int)
abbrev need (a : Int) (v : Value) : Value := .agg #[.int .i64 a, v]

/-- The cells of one need: its name, and a slice of spans in blocks below B. -/
def NdC (w : World) (B b o : Nat) (x : Nd) : Prop :=
  w.cell? ⟨b, o, none⟩ = some (.int .i64 x.1) ∧ ∃ a cap, w.cell? ⟨b, o + 1, none⟩ = some (.slice a x.2.length cap) ∧ SpAt w B (.slice a x.2.length cap) x.2
theorem NdC.below {w w' : World} {B b o : Nat} {x : Nd} (h : NdC w B b o x) (hb : Below B w w') (hB : b < B) : NdC w' B b o x := by
  obtain ⟨h0, a, cap, h1, hs⟩ := h
  exact ⟨(hb.cell (p := ⟨b, o, none⟩) hB).trans h0, a, cap, (hb.cell (p := ⟨b, o + 1, none⟩) hB).trans h1, hs.below hb⟩
theorem NdC.mono {w : World} {B B' b o : Nat} {x : Nd} (h : NdC w B b o x) (hB : B ≤ B') : NdC w B' b o x := by
  obtain ⟨h0, a, cap, h1, hs⟩ := h
  exact ⟨h0, a, cap, h1, hs.mono hB⟩

/-- A slice value that holds these needs, in blocks below B (or is empty). -/
def NdAt (w : World) (B : Nat) (v : Value) (M : List Nd) : Prop :=
  ∃ a cap, v = .slice a M.length cap ∧ (M = [] ∨ ∃ b o, a = some ⟨b, o, none⟩ ∧ b < B ∧ ∀ i (h : i < M.length), NdC w B b (o + i * 2) M[i])
theorem NdAt.below {w w' : World} {B : Nat} {v : Value} {M : List Nd} (h : NdAt w B v M) (hb : Below B w w') : NdAt w' B v M := by
  obtain ⟨a, cap, rfl, h⟩ := h
  refine ⟨a, cap, rfl, ?_⟩
  rcases h with h | ⟨b, o, rfl, hB, hc⟩
  · exact .inl h
  · exact .inr ⟨b, o, rfl, hB, fun i hi => (hc i hi).below hb hB⟩
theorem NdAt.mono {w : World} {B B' : Nat} {v : Value} {M : List Nd} (h : NdAt w B v M) (hB : B ≤ B') : NdAt w B' v M := by
  obtain ⟨a, cap, rfl, h⟩ := h
  refine ⟨a, cap, rfl, ?_⟩
  rcases h with h | ⟨b, o, rfl, hb, hc⟩
  · exact .inl h
  · exact .inr ⟨b, o, rfl, by omega, fun i hi => (hc i hi).mono hB⟩

/-- A block that is a row of n needs, the first of which are M; their spans lie in blocks behind it. -/
def NdBlk (w : World) (g n : Nat) (M : List Nd) : Prop :=
  ∃ C : Array Value, w.heap[g]? = some (.cells C 104 (0, 0)) ∧ C.size = n * 2 ∧ M.length ≤ n ∧
    ∀ i (h : i < M.length), C[i * 2]? = some (.int .i64 M[i].1) ∧ ∃ a cap, C[i * 2 + 1]? = some (.slice a M[i].2.length cap) ∧ SRes M[i].2 (g + 1) (.slice a M[i].2.length cap) w

theorem NdBlk.lt {w : World} {g n : Nat} {M : List Nd} (h : NdBlk w g n M) : g < w.heap.size := by
  obtain ⟨C, h, _⟩ := h
  exact (Array.getElem?_eq_some_iff.1 h).1
theorem NdBlk.kept {w w' : World} {g n : Nat} {M : List Nd} (h : NdBlk w g n M) (hb : ∀ k, g ≤ k → k < w.heap.size → w'.heap[k]? = w.heap[k]?) : NdBlk w' g n M := by
  have hg := h.lt
  obtain ⟨C, h, hs, hl, hc⟩ := h
  refine ⟨C, (hb g (Nat.le_refl _) hg).trans h, hs, hl, fun i hi => ?_⟩
  obtain ⟨h1, a, cap, h2, hr⟩ := hc i hi
  exact ⟨h1, a, cap, h2, hr.kept fun k h1 h2 => hb k (by omega) h2⟩
theorem NdBlk.below {w w' : World} {g n : Nat} {M : List Nd} (h : NdBlk w g n M) (hb : Below w.heap.size w w') : NdBlk w' g n M := h.kept fun k _ hl => hb.block k hl
theorem NdBlk.at {w : World} {g n cap : Nat} {M : List Nd} (h : NdBlk w g n M) : NdAt w w.heap.size (.slice (some ⟨g, 0, none⟩) M.length cap) M := by
  have hg := h.lt
  obtain ⟨C, h, _, _, hc⟩ := h
  refine ⟨_, _, rfl, .inr ⟨g, 0, rfl, hg, fun i hi => ?_⟩⟩
  obtain ⟨h1, a, c, h2, hr⟩ := hc i hi
  rw [Nat.zero_add]
  exact ⟨(cell_of_row w g _ C _ (0, 0) h).trans h1, a, c, (cell_of_row w g _ C _ (0, 0) h).trans h2, hr.at⟩

/-- Each place of such a row can be written, and is what was written then. -/
theorem NdBlk.place {w : World} {g n : Nat} {M : List Nd} (h : NdBlk w g n M) {k : Nat} (hk : k < n) :
    (∃ x, w.cell? ⟨g, k * 2, none⟩ = some x) ∧ (∃ x, w.cell? ⟨g, k * 2 + 1, none⟩ = some x) ∧ w.frozen? ⟨g, k * 2, none⟩ = false ∧ w.frozen? ⟨g, k * 2 + 1, none⟩ = false := by
  obtain ⟨C, h, hs, _, _⟩ := h
  refine ⟨⟨C[k * 2]'(by omega), ?_⟩, ⟨C[k * 2 + 1]'(by omega), ?_⟩, ?_, ?_⟩
  · rw [cell_of_row w g _ C _ (0, 0) h]; exact Array.getElem?_eq_getElem _
  · rw [cell_of_row w g _ C _ (0, 0) h]; exact Array.getElem?_eq_getElem _
  · simp [World.frozen?, h]
  · simp [World.frozen?, h]

theorem NdBlk.push {w : World} {g n : Nat} {M : List Nd} (h : NdBlk w g n M) (hk : M.length < n) (x : Int) {a : Option Addr} {cap : Nat} {L : List (Int × Int)} (hr : SRes L (g + 1) (.slice a L.length cap) w) :
    NdBlk ((w.setCell ⟨g, M.length * 2, none⟩ (.int .i64 x)).setCell ⟨g, M.length * 2 + 1, none⟩ (.slice a L.length cap)) g n (M ++ [(x, L)]) := by
  obtain ⟨C, h, hs, hl, hc⟩ := h
  have keep : ∀ {K : List (Int × Int)} {v : Value}, SRes K (g + 1) v w → SRes K (g + 1) v ((w.setCell ⟨g, M.length * 2, none⟩ (.int .i64 x)).setCell ⟨g, M.length * 2 + 1, none⟩ (.slice a L.length cap)) :=
    fun hq => hq.kept fun k h1 _ => (Below.heap_setCell _ _ _ _ (by show k ≠ g; omega)).trans (Below.heap_setCell _ _ _ _ (by show k ≠ g; omega))
  refine ⟨(C.setIfInBounds (M.length * 2) (.int .i64 x)).setIfInBounds (M.length * 2 + 1) (.slice a L.length cap), ?_, by simpa using hs, by simp; omega, fun i hi => ?_⟩
  · simp [World.setCell, Array.getElem?_modify, h]
  · simp only [List.length_append, List.length_cons, List.length_nil] at hi
    by_cases e : i < M.length
    · obtain ⟨h1, a', c', h2, hq⟩ := hc i e
      rw [List.getElem_append_left e]
      refine ⟨?_, a', c', ?_, keep hq⟩
      · rw [Array.getElem?_setIfInBounds_ne (by omega), Array.getElem?_setIfInBounds_ne (by omega)]; exact h1
      · rw [Array.getElem?_setIfInBounds_ne (by omega), Array.getElem?_setIfInBounds_ne (by omega)]; exact h2
    · obtain rfl : i = M.length := by omega
      rw [List.getElem_append_right (Nat.le_refl _)]
      refine ⟨?_, a, cap, ?_, ?_⟩
      · rw [Array.getElem?_setIfInBounds_ne (by omega), Array.getElem?_setIfInBounds_self_of_lt (by omega)]; simp
      · rw [Array.getElem?_setIfInBounds_self_of_lt (by simp; omega)]; simp
      · simpa using keep hr

theorem SpAt.stepAt {L : List (Int × Int)} {u : Value} {w V : World} (h : SpAt w w.heap.size u L) (hb : Below w.heap.size w V) : SpAt V V.heap.size u L := (h.below hb).mono hb.size
theorem NdAt.stepAt {M : List Nd} {u : Value} {w V : World} (h : NdAt w w.heap.size u M) (hb : Below w.heap.size w V) : NdAt V V.heap.size u M := (h.below hb).mono hb.size

/-- How much of the law's measure a row of needs takes. -/
def ndSz : List Nd → Nat
  | [] => 0
  | x :: t => x.2.length + ndSz t
theorem ndSz_drop : ∀ (M : List Nd) (k : Nat) (x : Nd), M[k]? = some x → ndSz (M.drop k) = x.2.length + ndSz (M.drop (k + 1))
  | [], k, x, h => by simp at h
  | y :: t, 0, x, h => by
    simp at h
    subst h
    rfl
  | y :: t, k + 1, x, h => by
    simp only [List.getElem?_cons_succ] at h
    simpa using ndSz_drop t k x h
theorem ndSz_mem : ∀ (M : List Nd) (k : Nat) (x : Nd), M[k]? = some x → x.2.length ≤ ndSz M
  | [], k, x, h => by simp at h
  | y :: t, 0, x, h => by
    simp at h
    subst h
    simp [ndSz]
  | y :: t, k + 1, x, h => by
    simp only [List.getElem?_cons_succ] at h
    have := ndSz_mem t k x h
    simp only [ndSz]
    omega

end Go.Proofs.Ytenfdbikgpppdaa

/- A range that comes in by value is a slice value that holds some list of spans. -/
namespace Go.Proofs.Ytenfdbikgpppdaa
open Go.ChangeShapes Go.WideShapes Go.ChangeAt Go.RowKit Go.Joins Go.Deep

theorem int_cells : Try.prog.cellsOf 3 = 1 := by kernel_rfl
theorem add_none (a : Addr) : a.add 0 = a := by simp [Addr.add]
theorem plain_add {b o n : Nat} : (⟨b, o, none⟩ : Addr).add n = ⟨b, o + n, none⟩ := by unfold Addr.add; split <;> simp_all

section
variable {H : Type} {enc : TypeId × Value → H} {w : World} {base : Nat} {held : Bool}

end
end Go.Proofs.Ytenfdbikgpppdaa

/- A slice of needs that comes in by value holds some list of needs. -/
namespace Go.Proofs.Ytenfdbikgpppdaa
open Go.ChangeShapes Go.WideShapes Go.ChangeAt Go.RowKit Go.Joins Go.Deep

section
variable {H : Type} {enc : TypeId × Value → H} {w : World} {held : Bool}

/-- A row of elements, out of its opened slice. -/
theorem choose_row {α : Type} [Inhabited α] {len : Nat} {p : Nat → α → Prop} (h : ∀ i, i < len → ∃ q, p i q) : ∃ X : List α, X.length = len ∧ ∀ i (hi : i < X.length), p i X[i] := by
  obtain ⟨X, hX⟩ := choose_lt h
  refine ⟨(List.range len).map X, by simp, fun i hi => ?_⟩
  have hi' : i < len := by simpa using hi
  simpa using hX i hi'

end
end Go.Proofs.Ytenfdbikgpppdaa

/- Contracts of the laws' functions that copy needs, over this seat's translation: the copy is a new row with the same needs; nothing that was there before the call has changed. Condition: at most 1048576 needs, and spans of each. -/
namespace Go.Proofs.Ytenfdbikgpppdaa
open Go.RowKit Go.Sort

def NeedPost (x : Int) (L : List (Int × Int)) (w : World) (e : Ending) (w' : World) : Prop :=
  ∃ g, e = .returned (need x (.slice (some ⟨g, 0, none⟩) L.length L.length)) ∧ SpBlk w' g L.length L ∧ w.heap.size ≤ g ∧ Below w.heap.size w w'

theorem infoNeed : (Try.prog.info? 104).map (fun i => (i.zero, i.size, i.bytes)) = some (some (.agg #[.int .i64 0, .slice none 0 0]), 2, 32) := by kernel_rfl

/-- 'make([]impl.Need, n)'. -/
theorem make_needs (n : Nat) (hn : n ≤ 1048576) (V : World) :
    (Instr.makeSlice 98 (.int .i64 (n : Int)) (.int .i64 (n : Int))).run Try.prog V = .ok (.slice (some ⟨V.heap.size, 0, none⟩) n n) (V.alloc (.cells (madeCells #[.int .i64 0, .slice none 0 0] (n * 2)) 104)) := by
  obtain ⟨i0, hi, hz0, hz1, hz2⟩ := info_parts infoNeed
  have h := run_make (P := Try.prog) V 98 104 i0 _ Try.underlying98 hi hz0 .i64 .i64 (n : Int) (n : Int) (by omega) (Int.le_refl _) (by rw [hz2]; omega) (by omega)
  rw [hz1] at h
  simpa [Value.cells] using h

theorem made_needs (n : Nat) (V : World) : NdBlk (V.alloc (.cells (madeCells #[.int .i64 0, .slice none 0 0] (n * 2)) 104)) V.heap.size n [] :=
  ⟨_, heap_alloc_new V _, size_madeCells _ _, Nat.zero_le _, fun i hi => absurd hi (by simp)⟩

/-- What the loop of toNeedS keeps: the first k needs are copied. -/
def NToRel (M : List Nd) (w : World) (g : Nat) (i : Value) (wr : World) : Prop :=
  ∃ k : Nat, k ≤ M.length ∧ i = .int .i64 (k : Int) ∧ NdBlk wr g M.length (M.take k) ∧ Below w.heap.size w wr

theorem nto_push {M : List Nd} {w wr : World} {k : Nat} {x : Int} {L : List (Int × Int)} {a : Option Addr} {cap : Nat} (hxy : M[k]? = some (x, L)) (hk : k < M.length) (hblk : NdBlk wr w.heap.size M.length (M.take k)) (hr : SRes L (w.heap.size + 1) (.slice a L.length cap) wr) (hb : Below w.heap.size w wr) :
    NToRel M w w.heap.size (.int .i64 ((k : Int) + 1)) ((wr.setCell ⟨w.heap.size, k * 2, none⟩ (.int .i64 x)).setCell ⟨w.heap.size, k * 2 + 1, none⟩ (.slice a L.length cap)) := by
  have hl : (M.take k).length = k := by simp; omega
  have h := hblk.push (by omega) x hr
  rw [hl] at h
  refine ⟨k + 1, by omega, by go_num, ?_, (hb.setCell (by simp) _).setCell (by simp) _⟩
  rw [List.take_add_one, hxy]
  exact h

def NToPost (M : List Nd) (w : World) (e : Ending) (w' : World) : Prop :=
  ∃ g, e = .returned (.slice (some ⟨g, 0, none⟩) M.length M.length) ∧ NdBlk w' g M.length M ∧ w.heap.size ≤ g ∧ Below w.heap.size w w'

end Go.Proofs.Ytenfdbikgpppdaa

/- Contracts of the laws' functions that measure needs, over this seat's translation: what is left of a measure behind all needs and their spans, or -1; nothing that was there before the call has changed. Condition: no row is longer than any slice can be. -/
namespace Go.Proofs.Ytenfdbikgpppdaa
open Go.RowKit Go.Sort

/-- What is left of a measure. -/
def leftOf (left : Int) (n : Nat) : Int := if left < (n : Int) then -1 else left - n

/-- What the loop of szNeedS keeps: what is left, and what it will take. -/
def NSzRel (M : List Nd) (T : Int) (w : World) (s i : Value) (wr : World) : Prop :=
  ∃ (k : Nat) (r : Int), k ≤ M.length ∧ i = .int .i64 (k : Int) ∧ s = .int .i64 r ∧ 0 ≤ r ∧ r ≤ 1048576 ∧ r - (ndSz (M.drop k) : Int) = T ∧ Below w.heap.size w wr

theorem nsz_push {M : List Nd} {T r : Int} {w wr : World} {k : Nat} {x : Int} {L : List (Int × Int)} (hM : M[k]? = some (x, L)) (h0 : 0 ≤ r) (h1 : r ≤ 1048576) (hT : r - (ndSz (M.drop k) : Int) = T) (hn : ¬ r < (L.length : Int)) (hb : Below w.heap.size w wr) :
    NSzRel M T w (.int .i64 (r - (L.length : Int))) (.int .i64 ((k : Int) + 1)) wr := by
  have hk : k < M.length := (List.getElem?_eq_some_iff.1 hM).1
  have hd := ndSz_drop M k _ hM
  simp only at hd
  exact ⟨k + 1, r - (L.length : Int), by omega, by go_num, rfl, by omega, by omega, by omega, hb⟩

end Go.Proofs.Ytenfdbikgpppdaa

/- Contracts of the laws' functions that compare needs, over this seat's translation: they answer whether the needs are the same; nothing that was there before the call has changed. Condition: at most 1048576 needs, and spans of each. -/
namespace Go.Proofs.Ytenfdbikgpppdaa
open Go.RowKit Go.Sort

/-- What the loop of eqNeedS keeps: the first k needs are alike. -/
def NEqRel (M N : List Nd) (w : World) (i : Value) (wr : World) : Prop :=
  ∃ k : Nat, k ≤ M.length ∧ i = .int .i64 (k : Int) ∧ M.take k = N.take k ∧ Below w.heap.size w wr

theorem neq_push {M N : List Nd} {w wr : World} {k : Nat} {q : Nd} (hk : k < M.length) (hM : M[k]? = some q) (hN : N[k]? = some q) (ht : M.take k = N.take k) (hb : Below w.heap.size w wr) :
    NEqRel M N w (.int .i64 ((k : Int) + 1)) wr :=
  ⟨k + 1, by omega, by go_num, by rw [List.take_add_one, List.take_add_one, hM, hN, ht], hb⟩

theorem ndiffer_at {M N : List Nd} {k : Nat} {q q' : Nd} (hM : M[k]? = some q) (hN : N[k]? = some q') (h : ¬ (q.1 = q'.1 ∧ q.2 = q'.2)) : ¬ M = N := by
  rintro rfl
  rw [hM] at hN
  cases hN
  exact h ⟨rfl, rfl⟩

end Go.Proofs.Ytenfdbikgpppdaa

/- Rows of releases in memory, over this seat's translation: what it is for a slice value to hold a list of releases (a name, a version's four numbers, whether it was withdrawn, a row of needs), and for a block to be such a row whose needs lie behind it. No condition. -/
namespace Go.Proofs.Ytenfdbikgpppdaa
open Go.RowKit Go.Sort

abbrev Rel := Int × (Int × Int × Int × Int) × Bool × List Nd
abbrev rels (n a b c d : Int) (g : Bool) (v : Value) : Value := .agg #[.int .i64 n, .int .i64 a, .int .i64 b, .int .i64 c, .int .i64 d, .bool g, v]

instance verDec : DecidableEq (Int × Int × Int × Int) := fun p q => instDecidableEqProd p q
instance restDec : DecidableEq (Bool × List Nd) := fun p q => instDecidableEqProd p q
instance tailDec : DecidableEq ((Int × Int × Int × Int) × Bool × List Nd) := fun p q => @instDecidableEqProd _ _ verDec restDec p q
instance relDec : DecidableEq Rel := fun p q => @instDecidableEqProd _ _ _ tailDec p q

/-- A slice of needs in rows of its own, in blocks from a number on. -/
def NRes (M : List Nd) (base : Nat) (v : Value) (w' : World) : Prop :=
  ∃ a cap, v = .slice a M.length cap ∧ (M = [] ∨ ∃ g n, a = some ⟨g, 0, none⟩ ∧ NdBlk w' g n M ∧ base ≤ g)
theorem NRes.at {M : List Nd} {base : Nat} {v : Value} {w : World} (h : NRes M base v w) : NdAt w w.heap.size v M := by
  obtain ⟨a, cap, rfl, h⟩ := h
  rcases h with rfl | ⟨g, n, rfl, hb, _⟩
  · exact ⟨_, _, rfl, .inl rfl⟩
  · exact hb.at
theorem NRes.kept {M : List Nd} {base : Nat} {v : Value} {w w' : World} (h : NRes M base v w) (hb : ∀ g, base ≤ g → g < w.heap.size → w'.heap[g]? = w.heap[g]?) : NRes M base v w' := by
  obtain ⟨a, cap, rfl, h⟩ := h
  refine ⟨_, _, rfl, ?_⟩
  rcases h with h | ⟨g, n, rfl, hk, hg⟩
  · exact .inl h
  · exact .inr ⟨g, n, rfl, hk.kept fun k h1 h2 => hb k (by omega) h2, hg⟩
theorem NRes.below {M : List Nd} {base : Nat} {v : Value} {w w' : World} (h : NRes M base v w) (hb : Below w.heap.size w w') : NRes M base v w' := h.kept fun g _ hl => hb.block g hl
theorem NRes.mono {M : List Nd} {base base' : Nat} {v : Value} {w : World} (h : NRes M base v w) (hb : base' ≤ base) : NRes M base' v w := by
  obtain ⟨a, cap, rfl, h⟩ := h
  refine ⟨_, _, rfl, ?_⟩
  rcases h with h | ⟨g, n, rfl, hk, hg⟩
  · exact .inl h
  · exact .inr ⟨g, n, rfl, hk, by omega⟩

/-- The cells of one release: its numbers, and a slice of needs in blocks below B. -/
def RlC (w : World) (B b o : Nat) (x : Rel) : Prop :=
  (w.cell? ⟨b, o, none⟩ = some (.int .i64 x.1) ∧ w.cell? ⟨b, o + 1, none⟩ = some (.int .i64 x.2.1.1) ∧ w.cell? ⟨b, o + 2, none⟩ = some (.int .i64 x.2.1.2.1) ∧ w.cell? ⟨b, o + 3, none⟩ = some (.int .i64 x.2.1.2.2.1) ∧ w.cell? ⟨b, o + 4, none⟩ = some (.int .i64 x.2.1.2.2.2) ∧ w.cell? ⟨b, o + 5, none⟩ = some (.bool x.2.2.1)) ∧ ∃ a cap, w.cell? ⟨b, o + 6, none⟩ = some (.slice a x.2.2.2.length cap) ∧ NdAt w B (.slice a x.2.2.2.length cap) x.2.2.2
theorem RlC.below {w w' : World} {B b o : Nat} {x : Rel} (h : RlC w B b o x) (hb : Below B w w') (hB : b < B) : RlC w' B b o x := by
  obtain ⟨⟨h0, h1, h2, h3, h4, h5⟩, a, cap, h6, hs⟩ := h
  exact ⟨⟨(hb.cell (p := ⟨b, o, none⟩) hB).trans h0, (hb.cell (p := ⟨b, o + 1, none⟩) hB).trans h1, (hb.cell (p := ⟨b, o + 2, none⟩) hB).trans h2, (hb.cell (p := ⟨b, o + 3, none⟩) hB).trans h3, (hb.cell (p := ⟨b, o + 4, none⟩) hB).trans h4, (hb.cell (p := ⟨b, o + 5, none⟩) hB).trans h5⟩, a, cap, (hb.cell (p := ⟨b, o + 6, none⟩) hB).trans h6, hs.below hb⟩
theorem RlC.mono {w : World} {B B' b o : Nat} {x : Rel} (h : RlC w B b o x) (hB : B ≤ B') : RlC w B' b o x := by
  obtain ⟨h0, a, cap, h1, hs⟩ := h
  exact ⟨h0, a, cap, h1, hs.mono hB⟩

/-- A slice value that holds these releases, in blocks below B (or is empty). -/
def RlAt (w : World) (B : Nat) (v : Value) (S : List Rel) : Prop :=
  ∃ a cap, v = .slice a S.length cap ∧ (S = [] ∨ ∃ b o, a = some ⟨b, o, none⟩ ∧ b < B ∧ ∀ i (h : i < S.length), RlC w B b (o + i * 7) S[i])
theorem RlAt.below {w w' : World} {B : Nat} {v : Value} {S : List Rel} (h : RlAt w B v S) (hb : Below B w w') : RlAt w' B v S := by
  obtain ⟨a, cap, rfl, h⟩ := h
  refine ⟨a, cap, rfl, ?_⟩
  rcases h with h | ⟨b, o, rfl, hB, hc⟩
  · exact .inl h
  · exact .inr ⟨b, o, rfl, hB, fun i hi => (hc i hi).below hb hB⟩
theorem RlAt.mono {w : World} {B B' : Nat} {v : Value} {S : List Rel} (h : RlAt w B v S) (hB : B ≤ B') : RlAt w B' v S := by
  obtain ⟨a, cap, rfl, h⟩ := h
  refine ⟨a, cap, rfl, ?_⟩
  rcases h with h | ⟨b, o, rfl, hb, hc⟩
  · exact .inl h
  · exact .inr ⟨b, o, rfl, by omega, fun i hi => (hc i hi).mono hB⟩

theorem RlAt.stepAt {S : List Rel} {u : Value} {w V : World} (h : RlAt w w.heap.size u S) (hb : Below w.heap.size w V) : RlAt V V.heap.size u S := (h.below hb).mono hb.size

/-- A block that is a row of n releases, the first of which are S; their needs lie in blocks behind it. -/
def RlBlk (w : World) (g n : Nat) (S : List Rel) : Prop :=
  ∃ C : Array Value, w.heap[g]? = some (.cells C 101 (0, 0)) ∧ C.size = n * 7 ∧ S.length ≤ n ∧
    ∀ i (h : i < S.length), (C[i * 7]? = some (.int .i64 S[i].1) ∧ C[i * 7 + 1]? = some (.int .i64 S[i].2.1.1) ∧ C[i * 7 + 2]? = some (.int .i64 S[i].2.1.2.1) ∧ C[i * 7 + 3]? = some (.int .i64 S[i].2.1.2.2.1) ∧ C[i * 7 + 4]? = some (.int .i64 S[i].2.1.2.2.2) ∧ C[i * 7 + 5]? = some (.bool S[i].2.2.1)) ∧ ∃ a cap, C[i * 7 + 6]? = some (.slice a S[i].2.2.2.length cap) ∧ NRes S[i].2.2.2 (g + 1) (.slice a S[i].2.2.2.length cap) w

theorem RlBlk.lt {w : World} {g n : Nat} {S : List Rel} (h : RlBlk w g n S) : g < w.heap.size := by
  obtain ⟨C, h, _⟩ := h
  exact (Array.getElem?_eq_some_iff.1 h).1
theorem RlBlk.kept {w w' : World} {g n : Nat} {S : List Rel} (h : RlBlk w g n S) (hb : ∀ k, g ≤ k → k < w.heap.size → w'.heap[k]? = w.heap[k]?) : RlBlk w' g n S := by
  have hg := h.lt
  obtain ⟨C, h, hs, hl, hc⟩ := h
  refine ⟨C, (hb g (Nat.le_refl _) hg).trans h, hs, hl, fun i hi => ?_⟩
  obtain ⟨h1, a, cap, h2, hr⟩ := hc i hi
  exact ⟨h1, a, cap, h2, hr.kept fun k h1 h2 => hb k (by omega) h2⟩
theorem RlBlk.below {w w' : World} {g n : Nat} {S : List Rel} (h : RlBlk w g n S) (hb : Below w.heap.size w w') : RlBlk w' g n S := h.kept fun k _ hl => hb.block k hl
theorem RlBlk.at {w : World} {g n cap : Nat} {S : List Rel} (h : RlBlk w g n S) : RlAt w w.heap.size (.slice (some ⟨g, 0, none⟩) S.length cap) S := by
  have hg := h.lt
  obtain ⟨C, h, _, _, hc⟩ := h
  refine ⟨_, _, rfl, .inr ⟨g, 0, rfl, hg, fun i hi => ?_⟩⟩
  obtain ⟨⟨h0, h1, h2, h3, h4, h5⟩, a, c, h6, hr⟩ := hc i hi
  rw [Nat.zero_add]
  exact ⟨⟨(cell_of_row w g _ C _ (0, 0) h).trans h0, (cell_of_row w g _ C _ (0, 0) h).trans h1, (cell_of_row w g _ C _ (0, 0) h).trans h2, (cell_of_row w g _ C _ (0, 0) h).trans h3, (cell_of_row w g _ C _ (0, 0) h).trans h4, (cell_of_row w g _ C _ (0, 0) h).trans h5⟩, a, c, (cell_of_row w g _ C _ (0, 0) h).trans h6, hr.at⟩

/-- Each place of such a row can be written, and is what was written then. -/
theorem RlBlk.place {w : World} {g n : Nat} {S : List Rel} (h : RlBlk w g n S) {k : Nat} (hk : k < n) :
    (∃ x, w.cell? ⟨g, k * 7, none⟩ = some x) ∧ (∃ x, w.cell? ⟨g, k * 7 + 1, none⟩ = some x) ∧ (∃ x, w.cell? ⟨g, k * 7 + 2, none⟩ = some x) ∧ (∃ x, w.cell? ⟨g, k * 7 + 3, none⟩ = some x) ∧ (∃ x, w.cell? ⟨g, k * 7 + 4, none⟩ = some x) ∧ (∃ x, w.cell? ⟨g, k * 7 + 5, none⟩ = some x) ∧ (∃ x, w.cell? ⟨g, k * 7 + 6, none⟩ = some x) ∧ w.frozen? ⟨g, k * 7, none⟩ = false ∧ w.frozen? ⟨g, k * 7 + 1, none⟩ = false ∧ w.frozen? ⟨g, k * 7 + 2, none⟩ = false ∧ w.frozen? ⟨g, k * 7 + 3, none⟩ = false ∧ w.frozen? ⟨g, k * 7 + 4, none⟩ = false ∧ w.frozen? ⟨g, k * 7 + 5, none⟩ = false ∧ w.frozen? ⟨g, k * 7 + 6, none⟩ = false := by
  obtain ⟨C, h, hs, _, _⟩ := h
  refine ⟨⟨C[k * 7]'(by omega), ?_⟩, ⟨C[k * 7 + 1]'(by omega), ?_⟩, ⟨C[k * 7 + 2]'(by omega), ?_⟩, ⟨C[k * 7 + 3]'(by omega), ?_⟩, ⟨C[k * 7 + 4]'(by omega), ?_⟩, ⟨C[k * 7 + 5]'(by omega), ?_⟩, ⟨C[k * 7 + 6]'(by omega), ?_⟩, ?_, ?_, ?_, ?_, ?_, ?_, ?_⟩
  · rw [cell_of_row w g _ C _ (0, 0) h]; exact Array.getElem?_eq_getElem _
  · rw [cell_of_row w g _ C _ (0, 0) h]; exact Array.getElem?_eq_getElem _
  · rw [cell_of_row w g _ C _ (0, 0) h]; exact Array.getElem?_eq_getElem _
  · rw [cell_of_row w g _ C _ (0, 0) h]; exact Array.getElem?_eq_getElem _
  · rw [cell_of_row w g _ C _ (0, 0) h]; exact Array.getElem?_eq_getElem _
  · rw [cell_of_row w g _ C _ (0, 0) h]; exact Array.getElem?_eq_getElem _
  · rw [cell_of_row w g _ C _ (0, 0) h]; exact Array.getElem?_eq_getElem _
  · simp [World.frozen?, h]
  · simp [World.frozen?, h]
  · simp [World.frozen?, h]
  · simp [World.frozen?, h]
  · simp [World.frozen?, h]
  · simp [World.frozen?, h]
  · simp [World.frozen?, h]

theorem RlBlk.push {w : World} {g n : Nat} {S : List Rel} (h : RlBlk w g n S) (hk : S.length < n) (x a1 b1 c1 d1 : Int) (gn : Bool) {a : Option Addr} {cap : Nat} {M : List Nd} (hr : NRes M (g + 1) (.slice a M.length cap) w) :
    RlBlk (((((((w.setCell ⟨g, S.length * 7, none⟩ (.int .i64 x)).setCell ⟨g, S.length * 7 + 1, none⟩ (.int .i64 a1)).setCell ⟨g, S.length * 7 + 2, none⟩ (.int .i64 b1)).setCell ⟨g, S.length * 7 + 3, none⟩ (.int .i64 c1)).setCell ⟨g, S.length * 7 + 4, none⟩ (.int .i64 d1)).setCell ⟨g, S.length * 7 + 5, none⟩ (.bool gn)).setCell ⟨g, S.length * 7 + 6, none⟩ (.slice a M.length cap)) g n (S ++ [(x, (a1, b1, c1, d1), gn, M)]) := by
  obtain ⟨C, h, hs, hl, hc⟩ := h
  have keep : ∀ {K : List Nd} {v : Value}, NRes K (g + 1) v w → NRes K (g + 1) v (((((((w.setCell ⟨g, S.length * 7, none⟩ (.int .i64 x)).setCell ⟨g, S.length * 7 + 1, none⟩ (.int .i64 a1)).setCell ⟨g, S.length * 7 + 2, none⟩ (.int .i64 b1)).setCell ⟨g, S.length * 7 + 3, none⟩ (.int .i64 c1)).setCell ⟨g, S.length * 7 + 4, none⟩ (.int .i64 d1)).setCell ⟨g, S.length * 7 + 5, none⟩ (.bool gn)).setCell ⟨g, S.length * 7 + 6, none⟩ (.slice a M.length cap)) :=
    fun hq => hq.kept fun k h1 _ => (Below.heap_setCell _ _ _ _ (by show k ≠ g; omega)).trans ((Below.heap_setCell _ _ _ _ (by show k ≠ g; omega)).trans ((Below.heap_setCell _ _ _ _ (by show k ≠ g; omega)).trans ((Below.heap_setCell _ _ _ _ (by show k ≠ g; omega)).trans ((Below.heap_setCell _ _ _ _ (by show k ≠ g; omega)).trans ((Below.heap_setCell _ _ _ _ (by show k ≠ g; omega)).trans ((Below.heap_setCell _ _ _ _ (by show k ≠ g; omega))))))))
  refine ⟨(((((((C.setIfInBounds (S.length * 7) (.int .i64 x)).setIfInBounds (S.length * 7 + 1) (.int .i64 a1)).setIfInBounds (S.length * 7 + 2) (.int .i64 b1)).setIfInBounds (S.length * 7 + 3) (.int .i64 c1)).setIfInBounds (S.length * 7 + 4) (.int .i64 d1)).setIfInBounds (S.length * 7 + 5) (.bool gn)).setIfInBounds (S.length * 7 + 6) (.slice a M.length cap)), ?_, by simpa using hs, by simp; omega, fun i hi => ?_⟩
  · simp [World.setCell, Array.getElem?_modify, h]
  · simp only [List.length_append, List.length_cons, List.length_nil] at hi
    by_cases e : i < S.length
    · obtain ⟨⟨h0, h1, h2, h3, h4, h5⟩, a', c', h6, hq⟩ := hc i e
      rw [List.getElem_append_left e]
      refine ⟨⟨?_, ?_, ?_, ?_, ?_, ?_⟩, a', c', ?_, keep hq⟩
      · rw [Array.getElem?_setIfInBounds_ne (by omega), Array.getElem?_setIfInBounds_ne (by omega), Array.getElem?_setIfInBounds_ne (by omega), Array.getElem?_setIfInBounds_ne (by omega), Array.getElem?_setIfInBounds_ne (by omega), Array.getElem?_setIfInBounds_ne (by omega), Array.getElem?_setIfInBounds_ne (by omega)]; exact h0
      · rw [Array.getElem?_setIfInBounds_ne (by omega), Array.getElem?_setIfInBounds_ne (by omega), Array.getElem?_setIfInBounds_ne (by omega), Array.getElem?_setIfInBounds_ne (by omega), Array.getElem?_setIfInBounds_ne (by omega), Array.getElem?_setIfInBounds_ne (by omega), Array.getElem?_setIfInBounds_ne (by omega)]; exact h1
      · rw [Array.getElem?_setIfInBounds_ne (by omega), Array.getElem?_setIfInBounds_ne (by omega), Array.getElem?_setIfInBounds_ne (by omega), Array.getElem?_setIfInBounds_ne (by omega), Array.getElem?_setIfInBounds_ne (by omega), Array.getElem?_setIfInBounds_ne (by omega), Array.getElem?_setIfInBounds_ne (by omega)]; exact h2
      · rw [Array.getElem?_setIfInBounds_ne (by omega), Array.getElem?_setIfInBounds_ne (by omega), Array.getElem?_setIfInBounds_ne (by omega), Array.getElem?_setIfInBounds_ne (by omega), Array.getElem?_setIfInBounds_ne (by omega), Array.getElem?_setIfInBounds_ne (by omega), Array.getElem?_setIfInBounds_ne (by omega)]; exact h3
      · rw [Array.getElem?_setIfInBounds_ne (by omega), Array.getElem?_setIfInBounds_ne (by omega), Array.getElem?_setIfInBounds_ne (by omega), Array.getElem?_setIfInBounds_ne (by omega), Array.getElem?_setIfInBounds_ne (by omega), Array.getElem?_setIfInBounds_ne (by omega), Array.getElem?_setIfInBounds_ne (by omega)]; exact h4
      · rw [Array.getElem?_setIfInBounds_ne (by omega), Array.getElem?_setIfInBounds_ne (by omega), Array.getElem?_setIfInBounds_ne (by omega), Array.getElem?_setIfInBounds_ne (by omega), Array.getElem?_setIfInBounds_ne (by omega), Array.getElem?_setIfInBounds_ne (by omega), Array.getElem?_setIfInBounds_ne (by omega)]; exact h5
      · rw [Array.getElem?_setIfInBounds_ne (by omega), Array.getElem?_setIfInBounds_ne (by omega), Array.getElem?_setIfInBounds_ne (by omega), Array.getElem?_setIfInBounds_ne (by omega), Array.getElem?_setIfInBounds_ne (by omega), Array.getElem?_setIfInBounds_ne (by omega), Array.getElem?_setIfInBounds_ne (by omega)]; exact h6
    · obtain rfl : i = S.length := by omega
      rw [List.getElem_append_right (Nat.le_refl _)]
      refine ⟨⟨?_, ?_, ?_, ?_, ?_, ?_⟩, a, cap, ?_, ?_⟩
      · rw [Array.getElem?_setIfInBounds_ne (by omega), Array.getElem?_setIfInBounds_ne (by omega), Array.getElem?_setIfInBounds_ne (by omega), Array.getElem?_setIfInBounds_ne (by omega), Array.getElem?_setIfInBounds_ne (by omega), Array.getElem?_setIfInBounds_ne (by omega)]; rw [Array.getElem?_setIfInBounds_self_of_lt (by first | omega | (simp; omega))]; simp
      · rw [Array.getElem?_setIfInBounds_ne (by omega), Array.getElem?_setIfInBounds_ne (by omega), Array.getElem?_setIfInBounds_ne (by omega), Array.getElem?_setIfInBounds_ne (by omega), Array.getElem?_setIfInBounds_ne (by omega)]; rw [Array.getElem?_setIfInBounds_self_of_lt (by first | omega | (simp; omega))]; simp
      · rw [Array.getElem?_setIfInBounds_ne (by omega), Array.getElem?_setIfInBounds_ne (by omega), Array.getElem?_setIfInBounds_ne (by omega), Array.getElem?_setIfInBounds_ne (by omega)]; rw [Array.getElem?_setIfInBounds_self_of_lt (by first | omega | (simp; omega))]; simp
      · rw [Array.getElem?_setIfInBounds_ne (by omega), Array.getElem?_setIfInBounds_ne (by omega), Array.getElem?_setIfInBounds_ne (by omega)]; rw [Array.getElem?_setIfInBounds_self_of_lt (by first | omega | (simp; omega))]; simp
      · rw [Array.getElem?_setIfInBounds_ne (by omega), Array.getElem?_setIfInBounds_ne (by omega)]; rw [Array.getElem?_setIfInBounds_self_of_lt (by first | omega | (simp; omega))]; simp
      · rw [Array.getElem?_setIfInBounds_ne (by omega)]; rw [Array.getElem?_setIfInBounds_self_of_lt (by first | omega | (simp; omega))]; simp
      · skip; rw [Array.getElem?_setIfInBounds_self_of_lt (by first | omega | (simp; omega))]; simp
      · simpa using keep hr

/-- How much of the law's measure a row of releases takes. -/
def rlSz : List Rel → Nat
  | [] => 0
  | x :: t => x.2.2.2.length + ndSz x.2.2.2 + rlSz t
theorem rlSz_drop : ∀ (S : List Rel) (k : Nat) (x : Rel), S[k]? = some x → rlSz (S.drop k) = x.2.2.2.length + ndSz x.2.2.2 + rlSz (S.drop (k + 1))
  | [], k, x, h => by simp at h
  | y :: t, 0, x, h => by
    simp at h
    subst h
    rfl
  | y :: t, k + 1, x, h => by
    simp only [List.getElem?_cons_succ] at h
    simpa using rlSz_drop t k x h
theorem rlSz_mem : ∀ (S : List Rel) (k : Nat) (x : Rel), S[k]? = some x → x.2.2.2.length + ndSz x.2.2.2 ≤ rlSz S
  | [], k, x, h => by simp at h
  | y :: t, 0, x, h => by
    simp at h
    subst h
    simp [rlSz]
  | y :: t, k + 1, x, h => by
    simp only [List.getElem?_cons_succ] at h
    have := rlSz_mem t k x h
    simp only [rlSz]
    omega

end Go.Proofs.Ytenfdbikgpppdaa

/- A slice of releases that comes in by value holds some list of releases. -/
namespace Go.Proofs.Ytenfdbikgpppdaa
open Go.ChangeShapes Go.WideShapes Go.ChangeAt Go.RowKit Go.Joins Go.Deep

theorem lawVersion_cells : Try.prog.cellsOf 61 = 4 := by kernel_rfl
theorem bool_cells : Try.prog.cellsOf 4 = 1 := by kernel_rfl
section
variable {H : Type} {enc : TypeId × Value → H} {w : World} {held : Bool}

set_option maxRecDepth 100000 in
theorem open_ver_trod {fuel : Nat} {cs : List Value} {x : DataW H × List MemPlace} (h : DataW.trod enc Try.prog w 0 (fun _ => true) held fuel 61 cs = some x) :
    ∃ a b c d : Int, cs = [.int .i64 a, .int .i64 b, .int .i64 c, .int .i64 d] := by
  obtain ⟨y0, y1, y2, y3, n, _, hl, h0, h1, h2, h3⟩ := trod_struct4 Try.underlying61 h
  rw [lawVersion_cells] at hl
  match cs, hl with
  | [c0, c1, c2, c3], _ =>
    obtain ⟨a, e0, _, _⟩ := DataW.trod_int Try.underlying3 h0
    obtain ⟨b, e1, _, _⟩ := DataW.trod_int Try.underlying3 h1
    obtain ⟨c, e2, _, _⟩ := DataW.trod_int Try.underlying3 h2
    obtain ⟨d, e3, _, _⟩ := DataW.trod_int Try.underlying3 h3
    simp [int_cells] at e0 e1 e2 e3
    subst e0; subst e1; subst e2; subst e3
    exact ⟨a, b, c, d, rfl⟩

end
end Go.Proofs.Ytenfdbikgpppdaa

/- Contracts of the laws' functions that copy releases, over this seat's translation: the copy is a new row with the same releases; nothing that was there before the call has changed. Condition: at most 1048576 releases, needs of each, and spans of those. -/
namespace Go.Proofs.Ytenfdbikgpppdaa
open Go.RowKit Go.Sort

def RelPost (n a b c d : Int) (f : Bool) (M : List Nd) (w : World) (e : Ending) (w' : World) : Prop :=
  ∃ g, e = .returned (rels n a b c d f (.slice (some ⟨g, 0, none⟩) M.length M.length)) ∧ NdBlk w' g M.length M ∧ w.heap.size ≤ g ∧ Below w.heap.size w w'

theorem infoRelease : (Try.prog.info? 101).map (fun i => (i.zero, i.size, i.bytes)) = some (some (.agg #[.int .i64 0, .int .i64 0, .int .i64 0, .int .i64 0, .int .i64 0, .bool false, .slice none 0 0]), 7, 72) := by kernel_rfl

/-- 'make([]impl.Release, n)'. -/
theorem make_rels (n : Nat) (hn : n ≤ 1048576) (V : World) :
    (Instr.makeSlice 75 (.int .i64 (n : Int)) (.int .i64 (n : Int))).run Try.prog V = .ok (.slice (some ⟨V.heap.size, 0, none⟩) n n) (V.alloc (.cells (madeCells #[.int .i64 0, .int .i64 0, .int .i64 0, .int .i64 0, .int .i64 0, .bool false, .slice none 0 0] (n * 7)) 101)) := by
  obtain ⟨i0, hi, hz0, hz1, hz2⟩ := info_parts infoRelease
  have h := run_make (P := Try.prog) V 75 101 i0 _ Try.underlying75 hi hz0 .i64 .i64 (n : Int) (n : Int) (by omega) (Int.le_refl _) (by rw [hz2]; omega) (by omega)
  rw [hz1] at h
  simpa [Value.cells] using h

theorem made_rels (n : Nat) (V : World) : RlBlk (V.alloc (.cells (madeCells #[.int .i64 0, .int .i64 0, .int .i64 0, .int .i64 0, .int .i64 0, .bool false, .slice none 0 0] (n * 7)) 101)) V.heap.size n [] :=
  ⟨_, heap_alloc_new V _, size_madeCells _ _, Nat.zero_le _, fun i hi => absurd hi (by simp)⟩

/-- What the loop of toReleaseS keeps: the first k releases are copied. -/
def RToRel (S : List Rel) (w : World) (g : Nat) (i : Value) (wr : World) : Prop :=
  ∃ k : Nat, k ≤ S.length ∧ i = .int .i64 (k : Int) ∧ RlBlk wr g S.length (S.take k) ∧ Below w.heap.size w wr

theorem rto_push {S : List Rel} {w wr : World} {k : Nat} {x a1 b1 c1 d1 : Int} {gn : Bool} {M : List Nd} {ad : Option Addr} {cap : Nat} (hxy : S[k]? = some (x, (a1, b1, c1, d1), gn, M)) (hk : k < S.length) (hblk : RlBlk wr w.heap.size S.length (S.take k)) (hr : NRes M (w.heap.size + 1) (.slice ad M.length cap) wr) (hb : Below w.heap.size w wr) :
    RToRel S w w.heap.size (.int .i64 ((k : Int) + 1)) (((((((wr.setCell ⟨w.heap.size, k * 7, none⟩ (.int .i64 x)).setCell ⟨w.heap.size, k * 7 + 1, none⟩ (.int .i64 a1)).setCell ⟨w.heap.size, k * 7 + 2, none⟩ (.int .i64 b1)).setCell ⟨w.heap.size, k * 7 + 3, none⟩ (.int .i64 c1)).setCell ⟨w.heap.size, k * 7 + 4, none⟩ (.int .i64 d1)).setCell ⟨w.heap.size, k * 7 + 5, none⟩ (.bool gn)).setCell ⟨w.heap.size, k * 7 + 6, none⟩ (.slice ad M.length cap)) := by
  have hl : (S.take k).length = k := by simp; omega
  have h := hblk.push (by omega) x a1 b1 c1 d1 gn hr
  rw [hl] at h
  refine ⟨k + 1, by omega, by go_num, ?_, ((((((hb.setCell (by simp) _).setCell (by simp) _).setCell (by simp) _).setCell (by simp) _).setCell (by simp) _).setCell (by simp) _).setCell (by simp) _⟩
  rw [List.take_add_one, hxy]
  exact h

def RToPost (S : List Rel) (w : World) (e : Ending) (w' : World) : Prop :=
  ∃ g, e = .returned (.slice (some ⟨g, 0, none⟩) S.length S.length) ∧ RlBlk w' g S.length S ∧ w.heap.size ≤ g ∧ Below w.heap.size w w'

end Go.Proofs.Ytenfdbikgpppdaa

/- Contracts of the laws' functions that measure releases, over this seat's translation: what is left of a measure behind all releases, their needs and their spans, or -1; nothing that was there before the call has changed. Condition: no row is longer than any slice can be. -/
namespace Go.Proofs.Ytenfdbikgpppdaa
open Go.RowKit Go.Sort

/-- What the loop of szReleaseS keeps: what is left, and what it will take. -/
def RSzRel (S : List Rel) (T : Int) (w : World) (s i : Value) (wr : World) : Prop :=
  ∃ (k : Nat) (r : Int), k ≤ S.length ∧ i = .int .i64 (k : Int) ∧ s = .int .i64 r ∧ 0 ≤ r ∧ r ≤ 1048576 ∧ r - (rlSz (S.drop k) : Int) = T ∧ Below w.heap.size w wr

theorem rsz_push {S : List Rel} {T r : Int} {w wr : World} {k : Nat} {q : Rel} (hM : S[k]? = some q) (h0 : 0 ≤ r) (h1 : r ≤ 1048576) (hT : r - (rlSz (S.drop k) : Int) = T) (hn : ¬ r < ((q.2.2.2.length + ndSz q.2.2.2 : Nat) : Int)) (hb : Below w.heap.size w wr) :
    RSzRel S T w (.int .i64 (leftOf r (q.2.2.2.length + ndSz q.2.2.2))) (.int .i64 ((k : Int) + 1)) wr := by
  have hk : k < S.length := (List.getElem?_eq_some_iff.1 hM).1
  have hd := rlSz_drop S k _ hM
  unfold leftOf
  rw [if_neg hn]
  exact ⟨k + 1, r - ((q.2.2.2.length + ndSz q.2.2.2 : Nat) : Int), by omega, by go_num, rfl, by omega, by omega, by omega, hb⟩

end Go.Proofs.Ytenfdbikgpppdaa

/- Contracts of the laws' functions that compare releases, over this seat's translation: they answer whether the releases are the same; nothing that was there before the call has changed. Condition: at most 1048576 releases, needs of each, and spans of those. -/
namespace Go.Proofs.Ytenfdbikgpppdaa
open Go.RowKit Go.Sort

/-- What the loop of eqReleaseS keeps: the first k releases are alike. -/
def REqRel (M N : List Rel) (w : World) (i : Value) (wr : World) : Prop :=
  ∃ k : Nat, k ≤ M.length ∧ i = .int .i64 (k : Int) ∧ M.take k = N.take k ∧ Below w.heap.size w wr

theorem req_push {M N : List Rel} {w wr : World} {k : Nat} {q : Rel} (hk : k < M.length) (hM : M[k]? = some q) (hN : N[k]? = some q) (ht : M.take k = N.take k) (hb : Below w.heap.size w wr) :
    REqRel M N w (.int .i64 ((k : Int) + 1)) wr :=
  ⟨k + 1, by omega, by go_num, by rw [List.take_add_one, List.take_add_one, hM, hN, ht], hb⟩

theorem rdiffer_at {M N : List Rel} {k : Nat} {q q' : Rel} (hM : M[k]? = some q) (hN : N[k]? = some q') (h : ¬ q = q') : ¬ M = N := by
  rintro rfl
  rw [hM] at hN
  cases hN
  exact h rfl

end Go.Proofs.Ytenfdbikgpppdaa

/- Small facts for the laws on shelves: what a measure says of each row; rows of the same releases compare as the same. -/
namespace Go.Proofs.Ytenfdbikgpppdaa
open Go.RowKit Go.Sort

theorem rl_each {M : List Rel} (h : rlSz M ≤ 1048576) : ∀ q ∈ M, q.2.2.2.length ≤ 1048576 ∧ ∀ p ∈ q.2.2.2, p.2.length ≤ 1048576 := fun q hq => by
  obtain ⟨i, hi, rfl⟩ := List.getElem_of_mem hq
  have := rlSz_mem M i _ (List.getElem?_eq_getElem hi)
  refine ⟨by omega, fun p hp => ?_⟩
  obtain ⟨j, hj, rfl⟩ := List.getElem_of_mem hp
  have := ndSz_mem _ j _ (List.getElem?_eq_getElem hj)
  omega
end Go.Proofs.Ytenfdbikgpppdaa

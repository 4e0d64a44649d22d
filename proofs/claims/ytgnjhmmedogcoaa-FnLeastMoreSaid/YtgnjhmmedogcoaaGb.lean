/- Groundwork over this seat's translation: Sp, Spto, Sprng, Speq, Spmark, Spok, Rl, Own, Sb, Stp in one text; the conditions stand at each part. -/
import Derived.Test.YtgnjhmmedogcoaaGa
import Derived.Laws.MakeOwn
import Derived.BigQuiet
import Derived.Handy
import Derived.WalkKit
import Derived.Below

/- Rows of spans in memory, over this seat's translation: what it is for a slice value to hold a list of spans, for a block to be such a row, and contracts of the laws' functions that copy, compare, mark and hold single spans. -/
namespace Go.Proofs.Ytgnjhmmedogcoaa
open Go.RowKit Go.Sort

/-- A slice value that holds these spans, in a block below B (or is empty). -/
def SpAt (w : World) (B : Nat) (v : Value) (L : List (Int × Int)) : Prop :=
  ∃ a cap, v = .slice a L.length cap ∧ (L = [] ∨ ∃ b o, a = some ⟨b, o, none⟩ ∧ b < B ∧ ∀ i (h : i < L.length), w.cell? ⟨b, o + i * 2, none⟩ = some (.int .i64 L[i].1) ∧ w.cell? ⟨b, o + i * 2 + 1, none⟩ = some (.int .i64 L[i].2))

theorem SpAt.below {w w' : World} {B : Nat} {v : Value} {L : List (Int × Int)} (h : SpAt w B v L) (hb : Below B w w') : SpAt w' B v L := by
  obtain ⟨a, cap, rfl, h⟩ := h
  refine ⟨a, cap, rfl, ?_⟩
  rcases h with h | ⟨b, o, rfl, hB, hc⟩
  · exact .inl h
  · exact .inr ⟨b, o, rfl, hB, fun i hi => ⟨(hb.cell (p := ⟨b, o + i * 2, none⟩) hB).trans (hc i hi).1, (hb.cell (p := ⟨b, o + i * 2 + 1, none⟩) hB).trans (hc i hi).2⟩⟩
theorem SpAt.mono {w : World} {B B' : Nat} {v : Value} {L : List (Int × Int)} (h : SpAt w B v L) (hB : B ≤ B') : SpAt w B' v L := by
  obtain ⟨a, cap, rfl, h⟩ := h
  refine ⟨a, cap, rfl, ?_⟩
  rcases h with h | ⟨b, o, rfl, hb, hc⟩
  · exact .inl h
  · exact .inr ⟨b, o, rfl, by omega, hc⟩

/-- A block that is a row of n spans, the first of which are L. -/
def SpBlk (w : World) (g n : Nat) (L : List (Int × Int)) : Prop :=
  ∃ C : Array Value, w.heap[g]? = some (.cells C 73 (0, 0)) ∧ C.size = n * 2 ∧ L.length ≤ n ∧ ∀ i (h : i < L.length), C[i * 2]? = some (.int .i64 L[i].1) ∧ C[i * 2 + 1]? = some (.int .i64 L[i].2)

theorem SpBlk.lt {w : World} {g n : Nat} {L : List (Int × Int)} (h : SpBlk w g n L) : g < w.heap.size := by
  obtain ⟨C, h, _⟩ := h
  exact (Array.getElem?_eq_some_iff.1 h).1
theorem SpBlk.kept {w w' : World} {g n : Nat} {L : List (Int × Int)} (h : SpBlk w g n L) (hb : w'.heap[g]? = w.heap[g]?) : SpBlk w' g n L := by
  obtain ⟨C, h, r⟩ := h
  exact ⟨C, hb.trans h, r⟩
theorem SpBlk.at {w : World} {g n cap B : Nat} {L : List (Int × Int)} (h : SpBlk w g n L) (hB : g < B) : SpAt w B (.slice (some ⟨g, 0, none⟩) L.length cap) L := by
  obtain ⟨C, h, _, _, hc⟩ := h
  refine ⟨_, _, rfl, .inr ⟨g, 0, rfl, hB, fun i hi => ?_⟩⟩
  obtain ⟨h1, h2⟩ := hc i hi
  rw [Nat.zero_add]
  exact ⟨(cell_of_row w g _ C _ (0, 0) h).trans h1, (cell_of_row w g _ C _ (0, 0) h).trans h2⟩

/-- Each place of such a row can be written, and is what was written then. -/
theorem SpBlk.place {w : World} {g n : Nat} {L : List (Int × Int)} (h : SpBlk w g n L) {k : Nat} (hk : k < n) :
    (∃ x, w.cell? ⟨g, k * 2, none⟩ = some x) ∧ (∃ x, w.cell? ⟨g, k * 2 + 1, none⟩ = some x) ∧ w.frozen? ⟨g, k * 2, none⟩ = false ∧ w.frozen? ⟨g, k * 2 + 1, none⟩ = false := by
  obtain ⟨C, h, hs, _, _⟩ := h
  refine ⟨⟨C[k * 2]'(by omega), ?_⟩, ⟨C[k * 2 + 1]'(by omega), ?_⟩, ?_, ?_⟩
  · rw [cell_of_row w g _ C _ (0, 0) h]; exact Array.getElem?_eq_getElem _
  · rw [cell_of_row w g _ C _ (0, 0) h]; exact Array.getElem?_eq_getElem _
  · simp [World.frozen?, h]
  · simp [World.frozen?, h]

theorem SpBlk.push {w : World} {g n : Nat} {L : List (Int × Int)} (h : SpBlk w g n L) (hk : L.length < n) (x y : Int) :
    SpBlk ((w.setCell ⟨g, L.length * 2, none⟩ (.int .i64 x)).setCell ⟨g, L.length * 2 + 1, none⟩ (.int .i64 y)) g n (L ++ [(x, y)]) := by
  obtain ⟨C, h, hs, hl, hc⟩ := h
  refine ⟨(C.setIfInBounds (L.length * 2) (.int .i64 x)).setIfInBounds (L.length * 2 + 1) (.int .i64 y), ?_, by simpa using hs, by simp; omega, fun i hi => ?_⟩
  · simp [World.setCell, Array.getElem?_modify, h]
  · simp only [List.length_append, List.length_cons, List.length_nil] at hi
    by_cases e : i < L.length
    · obtain ⟨h1, h2⟩ := hc i e
      rw [List.getElem_append_left e]
      refine ⟨?_, ?_⟩
      · rw [Array.getElem?_setIfInBounds_ne (by omega), Array.getElem?_setIfInBounds_ne (by omega)]; exact h1
      · rw [Array.getElem?_setIfInBounds_ne (by omega), Array.getElem?_setIfInBounds_ne (by omega)]; exact h2
    · obtain rfl : i = L.length := by omega
      rw [List.getElem_append_right (Nat.le_refl _)]
      refine ⟨?_, ?_⟩
      · rw [Array.getElem?_setIfInBounds_ne (by omega), Array.getElem?_setIfInBounds_self_of_lt (by omega)]; simp
      · rw [Array.getElem?_setIfInBounds_self_of_lt (by simp; omega)]; simp

end Go.Proofs.Ytgnjhmmedogcoaa

/- Contracts of the laws' functions that copy rows of spans, over this seat's translation: the copy is a new row with the same spans; nothing that was there before the call has changed. Condition: at most 1048576 spans. -/
namespace Go.Proofs.Ytgnjhmmedogcoaa
open Go.RowKit Go.Sort

abbrev span (a b : Int) : Value := .agg #[.int .i64 a, .int .i64 b]

set_option maxHeartbeats 400000 in
theorem toSpan_any (a b : Int) (w : World) : Calls Try.prog 110 #[span a b] w fun e w' => e = .returned (span a b) ∧ Below w.heap.size w w' := by
  go_enter Try.func110, Try.ntmps110
  go_wp2
  exact bodyPost_ret (v := span a b) (by simp [results, Try.results110, go_sem]) rfl ⟨rfl, (((Below.refl _ _).alloc (Nat.le_refl _) _).alloc (by simp) _).alloc (by simp; omega) _⟩

theorem infoSpan : (Try.prog.info? 73).map (fun i => (i.zero, i.size, i.bytes)) = some (some (.agg #[.int .i64 0, .int .i64 0]), 2, 16) := by kernel_rfl

/-- 'make([]impl.Span, n)'. -/
theorem make_spans (n : Nat) (hn : n ≤ 1048576) (V : World) :
    (Instr.makeSlice 55 (.int .i64 (n : Int)) (.int .i64 (n : Int))).run Try.prog V = .ok (.slice (some ⟨V.heap.size, 0, none⟩) n n) (V.alloc (.cells (madeCells #[.int .i64 0, .int .i64 0] (n * 2)) 73)) := by
  obtain ⟨i0, hi, hz0, hz1, hz2⟩ := info_parts infoSpan
  have h := run_make (P := Try.prog) V 55 73 i0 _ Try.underlying55 hi hz0 .i64 .i64 (n : Int) (n : Int) (by omega) (Int.le_refl _) (by rw [hz2]; omega) (by omega)
  rw [hz1] at h
  simpa [Value.cells] using h

theorem made_spans (n : Nat) (V : World) : SpBlk (V.alloc (.cells (madeCells #[.int .i64 0, .int .i64 0] (n * 2)) 73)) V.heap.size n [] :=
  ⟨_, heap_alloc_new V _, size_madeCells _ _, Nat.zero_le _, fun i hi => absurd hi (by simp)⟩

/-- What the loop of toSpanS keeps: the first k spans are copied. -/
def ToRel (L : List (Int × Int)) (w : World) (g : Nat) (i : Value) (wr : World) : Prop :=
  ∃ k : Nat, k ≤ L.length ∧ i = .int .i64 (k : Int) ∧ SpBlk wr g L.length (L.take k) ∧ Below w.heap.size w wr

theorem to_push {L : List (Int × Int)} {w wr : World} {k : Nat} {x y : Int} (hxy : L[k]? = some (x, y)) (hk : k < L.length) (hblk : SpBlk wr w.heap.size L.length (L.take k)) (hb : Below w.heap.size w wr) :
    ToRel L w w.heap.size (.int .i64 ((k : Int) + 1)) ((wr.setCell ⟨w.heap.size, k * 2, none⟩ (.int .i64 x)).setCell ⟨w.heap.size, k * 2 + 1, none⟩ (.int .i64 y)) := by
  have hl : (L.take k).length = k := by simp; omega
  have h := hblk.push (by omega) x y
  rw [hl] at h
  refine ⟨k + 1, by omega, by go_num, ?_, (hb.setCell (by simp) _).setCell (by simp) _⟩
  rw [List.take_add_one, hxy]
  exact h

def ToPost (L : List (Int × Int)) (w : World) (e : Ending) (w' : World) : Prop :=
  ∃ g, e = .returned (.slice (some ⟨g, 0, none⟩) L.length L.length) ∧ SpBlk w' g L.length L ∧ w.heap.size ≤ g ∧ Below w.heap.size w w'

set_option maxHeartbeats 1000000 in
theorem toSpanS_any (v : Value) (L : List (Int × Int)) (w : World) (h : SpAt w w.heap.size v L) (hl : L.length ≤ 1048576) : Calls Try.prog 104 #[v] w (ToPost L w) := by
  obtain ⟨a, cap, rfl, h⟩ := h
  have hmk := make_spans L.length hl
  go_enter Try.func104, Try.ntmps104
  go_wp2
  clear hmk
  go_loopw [4] (fun i wr => ToRel L w w.heap.size i wr) (fun i _ => L.length - (intOf i).toNat)
  case atStart => exact ⟨0, Nat.zero_le _, rfl, by rw [List.take_zero]; exact made_spans _ _, (Below.refl _ _).alloc (Nat.le_refl _) _⟩
  case round =>
    obtain ⟨k, hk, rfl, hblk, hb⟩ := hrel
    by_cases hlt : k < L.length
    · rcases h with h | ⟨b, o, rfl, hB, hc⟩
      · subst h
        exact absurd hlt (by simp)
      have c := hc k hlt
      obtain ⟨c0, c1⟩ := c
      have e0 := (hb.cell (p := ⟨b, o + k * 2, none⟩) hB).trans c0
      have e1 := (hb.cell (p := ⟨b, o + k * 2 + 1, none⟩) hB).trans c1
      clear hc c0 c1
      obtain ⟨x, y, hxy⟩ : ∃ x y, L[k] = (x, y) := ⟨_, _, rfl⟩
      rw [hxy] at e0 e1
      simp only at e0 e1
      have HXY := Lib.hid (show L[k]? = some (x, y) by rw [List.getElem?_eq_getElem hlt, hxy])
      clear hxy
      have pl := hblk.place hlt
      obtain ⟨⟨p0, hp0⟩, ⟨p1, hp1⟩, f0, f1⟩ := pl
      have hg := hblk.lt
      go_wp2_with fail
      refine (toSpan_any x y wr).mono ?_
      rintro e w2 ⟨rfl, hb2⟩
      have blk2 := hblk.kept (hb2.block _ hg)
      have bel2 := hb.trans (hb2.mono hb.size)
      have pl := blk2.place hlt
      obtain ⟨⟨q0, hq0⟩, ⟨q1, hq1⟩, g0, g1⟩ := pl
      have HP := Lib.hid (to_push HXY.out hlt blk2 bel2)
      clear hblk hb hb2 hp0 hp1 f0 f1 e0 e1 blk2 bel2
      go_wp2_with fail
      go_roundw
      case rel => exact HP.out
      case measure => simp [intOf]; omega
    · obtain rfl : k = L.length := by omega
      rw [List.take_length] at hblk
      go_wp2_with fail
      go_ret
      exact ⟨w.heap.size, rfl, hblk, Nat.le_refl _, hb⟩

end Go.Proofs.Ytgnjhmmedogcoaa

/- Contracts of the laws' functions that copy, measure and compare ranges, over this seat's translation; nothing that was there before the call has changed. Condition: at most 1048576 spans. -/
namespace Go.Proofs.Ytgnjhmmedogcoaa
open Go.RowKit Go.Sort

def RngPost (L : List (Int × Int)) (w : World) (e : Ending) (w' : World) : Prop :=
  ∃ g, e = .returned (.agg #[.slice (some ⟨g, 0, none⟩) L.length L.length]) ∧ SpBlk w' g L.length L ∧ w.heap.size ≤ g ∧ Below w.heap.size w w'

set_option maxHeartbeats 1000000 in
theorem toRange_any (v : Value) (L : List (Int × Int)) (w : World) (h : SpAt w w.heap.size v L) (hl : L.length ≤ 1048576) : Calls Try.prog 90 #[.agg #[v]] w (RngPost L w) := by
  have h' := h
  obtain ⟨a, cap, rfl, _⟩ := h'
  have b0 := (((Below.refl w.heap.size w).alloc (Nat.le_refl _) (.cells #[.slice a L.length cap] 88)).alloc (by simp) (.cells #[.slice none 0 0] 57)).alloc (by simp; omega) (.cells #[.slice none 0 0] 57)
  have h1 := (h.below b0).mono b0.size
  have HB := Lib.hid b0
  go_enter Try.func90, Try.ntmps90
  go_wp2_with fail
  refine (toSpanS_any _ L _ h1 hl).mono ?_
  rintro e w1 ⟨g, rfl, hblk, hg, hb1⟩
  obtain ⟨hc, hf⟩ : (∀ b o, b < w.heap.size + 1 + 1 + 1 → w1.cell? ⟨b, o, none⟩ = _) ∧ (∀ b o, b < w.heap.size + 1 + 1 + 1 → w1.frozen? ⟨b, o, none⟩ = _) :=
    ⟨fun b o hbo => hb1.cell (p := ⟨b, o, none⟩) (by simpa using hbo), fun b o hbo => hb1.frozen (p := ⟨b, o, none⟩) (by simpa using hbo)⟩
  have hg' : w.heap.size + 3 ≤ g := by simp at hg; omega
  have b1 := HB.out.trans (hb1.mono b0.size)
  clear b0 h1 hb1 h hg HB
  go_wp2_with fail
  exact bodyPost_ret (v := .agg #[.slice (some ⟨g, 0, none⟩) L.length L.length]) (by simp [results, Try.results90, go_sem, hc]) rfl
    ⟨g, rfl, (hblk.kept (Below.heap_setCell _ _ _ _ (by simp; omega))).kept (Below.heap_setCell _ _ _ _ (by simp; omega)), by omega, by go_grown⟩

set_option maxHeartbeats 400000 in
theorem szSpanS_any (a : Option Addr) (len cap : Nat) (left : Int) (w : World) (h0 : 0 ≤ left) (h1 : left ≤ 1048576) (hl : len ≤ 9223372036854775807) :
    Calls Try.prog 103 #[.slice a len cap, .int .i64 left] w fun e w' => e = .returned (.int .i64 (if left < (len : Int) then -1 else left - len)) ∧ w = w' := by
  by_cases h : left < (len : Int)
  · rw [if_pos h]
    go_enter Try.func103, Try.ntmps103
    go_wp2
    go_ret
    exact ⟨rfl, rfl⟩
  · rw [if_neg h]
    go_enter Try.func103, Try.ntmps103
    go_wp2
    go_ret
    exact ⟨rfl, rfl⟩

set_option maxHeartbeats 400000 in
theorem szRange_any (a : Option Addr) (len cap : Nat) (left : Int) (w : World) (h0 : 0 ≤ left) (h1 : left ≤ 1048576) (hl : len ≤ 9223372036854775807) :
    Calls Try.prog 83 #[.agg #[.slice a len cap], .int .i64 left] w fun e w' => e = .returned (.int .i64 (if left < (len : Int) then -1 else left - len)) ∧ Below w.heap.size w w' := by
  have K := Lib.hid fun V => szSpanS_any a len cap left V h0 h1 hl
  by_cases h : left < (len : Int)
  · rw [if_pos h] at K ⊢
    go_enter Try.func83, Try.ntmps83
    go_wp2_with (go_at_call 103; refine (K.out _).mono ?_; rintro e w' ⟨rfl, rfl⟩)
    go_ret
    exact ⟨rfl, (Below.refl _ _).alloc (Nat.le_refl _) _⟩
  · rw [if_neg h] at K ⊢
    go_enter Try.func83, Try.ntmps83
    go_wp2_with (go_at_call 103; refine (K.out _).mono ?_; rintro e w' ⟨rfl, rfl⟩)
    go_ret
    exact ⟨rfl, (Below.refl _ _).alloc (Nat.le_refl _) _⟩

set_option maxHeartbeats 400000 in
theorem eqSpan_any (a b c d : Int) (w : World) : Calls Try.prog 111 #[span a b, span c d] w fun e w' => e = .returned (.bool (decide (a = c ∧ b = d))) ∧ Below w.heap.size w w' := by
  have fin : ∀ o p, Below w.heap.size w ((w.alloc o).alloc p) := fun o p => ((Below.refl _ _).alloc (Nat.le_refl _) o).alloc (by simp) p
  by_cases h1 : a = c
  · by_cases h2 : b = d
    · subst h1; subst h2
      go_enter Try.func111, Try.ntmps111
      go_wp2
      go_ret
      exact ⟨by simp, fin _ _⟩
    · subst h1
      go_enter Try.func111, Try.ntmps111
      go_wp2
      go_ret
      exact ⟨by simp [h2], fin _ _⟩
  · go_enter Try.func111, Try.ntmps111
    go_wp2
    go_ret
    exact ⟨by simp [h1], fin _ _⟩

end Go.Proofs.Ytgnjhmmedogcoaa

/- The contract of the laws' functions that compare rows of spans and ranges, over this seat's translation: they answer whether the spans are the same; nothing that was there before the call has changed. Condition: at most 1048576 spans. -/
namespace Go.Proofs.Ytgnjhmmedogcoaa
open Go.RowKit Go.Sort

/-- What the loop of eqSpanS keeps: the first k spans are alike. -/
def EqRel (L M : List (Int × Int)) (w : World) (i : Value) (wr : World) : Prop :=
  ∃ k : Nat, k ≤ L.length ∧ i = .int .i64 (k : Int) ∧ L.take k = M.take k ∧ Below w.heap.size w wr

theorem eq_push {L M : List (Int × Int)} {w wr : World} {k : Nat} {x y : Int} (hk : k < L.length) (hL : L[k]? = some (x, y)) (hM : M[k]? = some (x, y)) (ht : L.take k = M.take k) (hb : Below w.heap.size w wr) :
    EqRel L M w (.int .i64 ((k : Int) + 1)) wr :=
  ⟨k + 1, by omega, by go_num, by rw [List.take_add_one, List.take_add_one, hL, hM, ht], hb⟩

theorem differ_at {L M : List (Int × Int)} {k : Nat} {x y x' y' : Int} (hL : L[k]? = some (x, y)) (hM : M[k]? = some (x', y')) (h : ¬ (x = x' ∧ y = y')) : ¬ L = M := by
  rintro rfl
  rw [hL] at hM
  simp only [Option.some.injEq, Prod.mk.injEq] at hM
  exact h hM

set_option maxHeartbeats 1000000 in
theorem eqSpanS_same (a a' : Option Addr) (cap cap' : Nat) (L M : List (Int × Int)) (w : World) (hl : L.length ≤ 1048576) (hLM : M.length = L.length)
    (h : SpAt w w.heap.size (.slice a L.length cap) L) (h' : SpAt w w.heap.size (.slice a' M.length cap') M) :
    Calls Try.prog 107 #[.slice a L.length cap, .slice a' L.length cap'] w fun e w' => e = .returned (.bool (decide (L = M))) ∧ Below w.heap.size w w' := by
  have H := Lib.hid h
  have H' := Lib.hid h'
  have HLM := Lib.hid hLM
  clear h h' hLM
  have hz : ((L.length : Int) != (L.length : Int)) = false := by simp
  go_enter Try.func107, Try.ntmps107
  go_wp2
  go_loopw [5] (fun i wr => EqRel L M w i wr) (fun i _ => L.length - (intOf i).toNat)
  case atStart => exact ⟨0, Nat.zero_le _, rfl, rfl, Below.refl _ _⟩
  case round =>
    obtain ⟨k, hk, rfl, ht, hb⟩ := hrel
    have HT := Lib.hid ht
    clear ht
    by_cases hlt : k < L.length
    · obtain ⟨a1, cap1, e1, h1⟩ := H.out
      obtain ⟨a2, cap2, e2, h2⟩ := H'.out
      simp only [Value.slice.injEq] at e1 e2
      obtain ⟨rfl, _, rfl⟩ := e1
      obtain ⟨rfl, _, rfl⟩ := e2
      rcases h1 with h1 | ⟨b, o, rfl, hB, hc⟩
      · subst h1
        exact absurd hlt (by simp)
      rcases h2 with h2 | ⟨b', o', rfl, hB', hc'⟩
      · have := HLM.out
        subst h2
        simp at this
        omega
      have hlt' : k < M.length := by have := HLM.out; omega
      obtain ⟨x, y, hxy⟩ : ∃ x y, L[k] = (x, y) := ⟨_, _, rfl⟩
      obtain ⟨x', y', hxy'⟩ : ∃ x y, M[k] = (x, y) := ⟨_, _, rfl⟩
      have c := hc k hlt
      have c' := hc' k hlt'
      rw [hxy] at c
      rw [hxy'] at c'
      have k0 := cell_regrown ((hb.cell (p := ⟨b, o + k * 2, none⟩) hB).trans c.1)
      have k1 := cell_regrown ((hb.cell (p := ⟨b, o + k * 2 + 1, none⟩) hB).trans c.2)
      have l0 := cell_regrown ((hb.cell (p := ⟨b', o' + k * 2, none⟩) hB').trans c'.1)
      have l1 := cell_regrown ((hb.cell (p := ⟨b', o' + k * 2 + 1, none⟩) hB').trans c'.2)
      have HX := Lib.hid (show L[k]? = some (x, y) by rw [List.getElem?_eq_getElem hlt, hxy])
      have HX' := Lib.hid (show M[k]? = some (x', y') by rw [List.getElem?_eq_getElem hlt', hxy'])
      clear hc hc' c c' hxy hxy'
      simp only at k0 k1 l0 l1
      have i0 : (0 : Int) ≤ (k : Int) := by omega
      have i1 : (k : Int) < (L.length : Int) := by omega
      by_cases heq : x = x' ∧ y = y'
      · have K : Hid (∀ V, Calls Try.prog 111 #[span x y, span x' y'] V fun e w' => e = .returned (.bool true) ∧ Below V.heap.size V w') := Lib.hid fun V => by
          have := eqSpan_any x y x' y' V
          rwa [decide_eq_true heq] at this
        have HE := Lib.hid heq
        clear heq
        go_wp2_with fail
        refine wp_region_quiet_below (by kernel_rfl) (by kernel_rfl) ?_
        repeat (any_goals (first | go_big_quiet_step ((go_at_call 111; exact Calls.regrown_of (K.out _))) | quiet_step ((go_at_call 111; exact Calls.regrown_of (K.out _)))))
        refine wpQuiet_nil ?_
        intro W2 hw
        have hb2 := quiet_end hw
        have HP := Lib.hid (eq_push (w := w) hlt HX.out (by have := HX'.out; rwa [← HE.out.1, ← HE.out.2] at this) HT.out (hb.trans (hb2.mono hb.size)))
        clear hw k0 k1 l0 l1 hb hb2
        go_wp2_with fail
        go_roundw
        case rel => exact HP.out
        case measure => simp [intOf]; omega
      · have K : Hid (∀ V, Calls Try.prog 111 #[span x y, span x' y'] V fun e w' => e = .returned (.bool false) ∧ Below V.heap.size V w') := Lib.hid fun V => by
          have := eqSpan_any x y x' y' V
          rwa [decide_eq_false heq] at this
        have HN := Lib.hid (differ_at HX.out HX'.out heq)
        clear heq
        go_wp2_with fail
        refine wp_region_quiet_below (by kernel_rfl) (by kernel_rfl) ?_
        repeat (any_goals (first | go_big_quiet_step ((go_at_call 111; exact Calls.regrown_of (K.out _))) | quiet_step ((go_at_call 111; exact Calls.regrown_of (K.out _)))))
        refine wpQuiet_nil ?_
        intro W2 hw
        have hb2 := quiet_end hw
        clear hw k0 k1 l0 l1
        go_wp2_with fail
        go_ret
        exact ⟨by rw [decide_eq_false HN.out]; rfl, hb.trans (hb2.mono hb.size)⟩
    · have hend : L = M := by
        have h1 := HT.out
        have h2 := HLM.out
        rwa [List.take_of_length_le (by omega), List.take_of_length_le (by omega)] at h1
      have HE := Lib.hid (decide_eq_true hend)
      clear hend
      go_wp2_with fail
      go_ret
      exact ⟨by rw [HE.out]; rfl, hb⟩

end Go.Proofs.Ytgnjhmmedogcoaa

/- Contracts of the laws' functions that compare ranges, mark rows of spans and see whether the marks are held, over this seat's translation: marking turns the row's own block alone. Condition: at most 1048576 spans. -/
namespace Go.Proofs.Ytgnjhmmedogcoaa
open Go.RowKit Go.Sort

set_option maxHeartbeats 400000 in
theorem eqSpanS_any (a a' : Option Addr) (cap cap' : Nat) (L M : List (Int × Int)) (w : World) (hl : L.length ≤ 1048576) (_hm : M.length ≤ 1048576)
    (h : SpAt w w.heap.size (.slice a L.length cap) L) (h' : SpAt w w.heap.size (.slice a' M.length cap') M) :
    Calls Try.prog 107 #[.slice a L.length cap, .slice a' M.length cap'] w fun e w' => e = .returned (.bool (decide (L = M))) ∧ Below w.heap.size w w' := by
  by_cases hLM : M.length = L.length
  · rw [hLM]
    exact eqSpanS_same a a' cap cap' L M w hl hLM h h'
  · have hz : ((L.length : Int) != (M.length : Int)) = true := by rw [bne_iff_ne]; omega
    have HD := Lib.hid (decide_eq_false (p := L = M) (fun e => hLM (by rw [e])))
    clear hLM h h'
    go_enter Try.func107, Try.ntmps107
    go_wp2
    go_ret
    exact ⟨by rw [HD.out]; rfl, Below.refl _ _⟩

set_option maxHeartbeats 400000 in
theorem eqRange_any (a a' : Option Addr) (cap cap' : Nat) (L M : List (Int × Int)) (w : World) (hl : L.length ≤ 1048576) (hm : M.length ≤ 1048576)
    (h : SpAt w w.heap.size (.slice a L.length cap) L) (h' : SpAt w w.heap.size (.slice a' M.length cap') M) :
    Calls Try.prog 94 #[.agg #[.slice a L.length cap], .agg #[.slice a' M.length cap']] w fun e w' => e = .returned (.bool (decide (L = M))) ∧ Below w.heap.size w w' := by
  have b0 := ((Below.refl w.heap.size w).alloc (Nat.le_refl _) (.cells #[.slice a L.length cap] 57)).alloc (by simp) (.cells #[.slice a' M.length cap'] 57)
  have K := eqSpanS_any a a' cap cap' L M _ hl hm ((h.below b0).mono b0.size) ((h'.below b0).mono b0.size)
  have HB := Lib.hid b0
  clear h h' b0
  rcases hd : decide (L = M)
  all_goals
    rw [hd] at K
    have HK := Lib.hid K
    clear hd K
    go_enter Try.func94, Try.ntmps94
    go_wp2_with fail
    refine HK.out.mono ?_
    rintro e w1 ⟨rfl, hb⟩
    go_wp2_with fail
    go_ret
    exact ⟨rfl, HB.out.trans (hb.mono HB.out.size)⟩

theorem SpBlk.set {w : World} {g n : Nat} {L : List (Int × Int)} (h : SpBlk w g n L) {i : Nat} (hi : i < L.length) (x y : Int) :
    SpBlk ((w.setCell ⟨g, i * 2, none⟩ (.int .i64 x)).setCell ⟨g, i * 2 + 1, none⟩ (.int .i64 y)) g n (L.set i (x, y)) := by
  obtain ⟨C, h, hs, hl, hc⟩ := h
  refine ⟨(C.setIfInBounds (i * 2) (.int .i64 x)).setIfInBounds (i * 2 + 1) (.int .i64 y), ?_, by simpa using hs, by simpa using hl, fun j hj => ?_⟩
  · simp [World.setCell, Array.getElem?_modify, h]
  · simp only [List.length_set] at hj
    obtain ⟨h1, h2⟩ := hc j hj
    by_cases e : j = i
    · subst e
      rw [List.getElem_set_self]
      refine ⟨?_, ?_⟩
      · rw [Array.getElem?_setIfInBounds_ne (by omega), Array.getElem?_setIfInBounds_self_of_lt (by omega)]
      · rw [Array.getElem?_setIfInBounds_self_of_lt (by simp; omega)]
    · rw [List.getElem_set_ne (fun e' => e e'.symm)]
      refine ⟨?_, ?_⟩
      · rw [Array.getElem?_setIfInBounds_ne (by omega), Array.getElem?_setIfInBounds_ne (by omega)]; exact h1
      · rw [Array.getElem?_setIfInBounds_ne (by omega), Array.getElem?_setIfInBounds_ne (by omega)]; exact h2

/-- The marks that are written, from a number on. -/
def marks (k : Int) : Nat → List (Int × Int)
  | 0 => []
  | n + 1 => marks k n ++ [(k + 2 * n, k + 2 * n + 1)]
theorem marks_len (k : Int) : ∀ n, (marks k n).length = n
  | 0 => rfl
  | n + 1 => by simp [marks, marks_len k n]
theorem marks_at (k : Int) : ∀ (n i : Nat), i < n → (marks k n)[i]? = some (k + 2 * i, k + 2 * i + 1)
  | 0, _, h => absurd h (by omega)
  | n + 1, i, h => by
    unfold marks
    by_cases e : i < n
    · rw [List.getElem?_append_left (by rw [marks_len]; exact e), marks_at k n i e]
    · obtain rfl : i = n := by omega
      rw [List.getElem?_append_right (by rw [marks_len]; exact Nat.le_refl _), marks_len]
      simp

theorem grown_two {w wx : World} {g x y : Nat} {u v : Value} (h : w.grownBy wx (some g)) : w.grownBy ((wx.setCell ⟨g, x, none⟩ u).setCell ⟨g, y, none⟩ v) (some g) :=
  ⟨h.os, h.tape, h.output, by simpa [World.setCell] using h.size, fun i hi hne => (Below.heap_setCell _ ⟨g, y, none⟩ v i (fun e => hne (by rw [e]))).trans ((Below.heap_setCell wx ⟨g, x, none⟩ u i (fun e => hne (by rw [e]))).trans (h.block i hi hne))⟩

/-- What the loop of markSpanS keeps: the first j spans are marked. -/
def MarkRel (k : Int) (m n g : Nat) (w : World) (s1 i : Value) (wr : World) : Prop :=
  ∃ (j : Nat) (M : List (Int × Int)), j ≤ m ∧ i = .int .i64 (j : Int) ∧ s1 = .int .i64 (k + 2 * j) ∧ M.length = m ∧ M.take j = marks k j ∧ SpBlk wr g n M ∧ w.grownBy wr (some g)

theorem mark_push {k : Int} {m n g j : Nat} {w wr : World} {M : List (Int × Int)} (hj : j < m) (hM : M.length = m) (ht : M.take j = marks k j) (hblk : SpBlk wr g n M) (hg : w.grownBy wr (some g)) :
    MarkRel k m n g w (.int .i64 (k + 2 * j + 1 + 1)) (.int .i64 ((j : Int) + 1)) ((wr.setCell ⟨g, j * 2, none⟩ (.int .i64 (k + 2 * j))).setCell ⟨g, j * 2 + 1, none⟩ (.int .i64 (k + 2 * j + 1))) := by
  refine ⟨j + 1, M.set j (k + 2 * j, k + 2 * j + 1), by omega, by go_num, by go_num, by simpa using hM, ?_, hblk.set (by omega) _ _, grown_two hg⟩
  rw [List.take_add_one, List.take_set_of_le (Nat.le_refl _), ht, List.getElem?_set_self (by omega)]
  rfl

def MarkPost (k : Int) (m n g : Nat) (w : World) (e : Ending) (w' : World) : Prop :=
  e = .returned (.int .i64 (k + 2 * m)) ∧ SpBlk w' g n (marks k m) ∧ w.grownBy w' (some g)

set_option maxHeartbeats 1000000 in
theorem markSpanS_any (g n cap : Nat) (L : List (Int × Int)) (k : Int) (w : World) (hl : L.length ≤ 1048576) (hk0 : 0 ≤ k) (hk1 : k ≤ 1000000000) (h : SpBlk w g n L) :
    Calls Try.prog 63 #[.slice (some ⟨g, 0, none⟩) L.length cap, .int .i64 k] w (MarkPost k L.length n g w) := by
  have hln : L.length ≤ n := by obtain ⟨_, _, _, h, _⟩ := h; exact h
  have HS := Lib.hid (show MarkRel k L.length n g w (.int .i64 k) (.int .i64 0) w from ⟨0, L, Nat.zero_le _, rfl, by simp, rfl, rfl, h, ⟨rfl, rfl, rfl, Nat.le_refl _, fun _ _ _ => rfl⟩⟩)
  clear h
  generalize L.length = m at *
  go_enter Try.func63, Try.ntmps63
  go_wp2
  go_loopw [1, 5] (fun s1 i wr => MarkRel k m n g w s1 i wr) (fun _ i _ => m - (intOf i).toNat)
  case atStart => exact HS.out
  case round =>
    obtain ⟨j, M, hj, rfl, rfl, hM, ht, hblk, hg⟩ := hrel
    by_cases hlt : j < m
    · obtain ⟨⟨p0, hp0⟩, ⟨p1, hp1⟩, f0, f1⟩ := hblk.place (show j < n by omega)
      have HP := Lib.hid (mark_push hlt hM ht hblk hg)
      clear hblk hg ht hM
      go_wp2_with fail
      go_roundw
      case rel => exact HP.out
      case measure => simp [intOf]; omega
    · obtain rfl : j = m := by omega
      have HM := Lib.hid (show SpBlk wr g n (marks k j) by rwa [← ht, List.take_of_length_le (by omega)])
      clear hblk ht
      go_wp2_with fail
      go_ret
      exact ⟨rfl, HM.out, hg⟩

set_option maxHeartbeats 1000000 in
theorem heldSpanS_any (a : Option Addr) (cap n : Nat) (k : Int) (w : World) (B : Nat) (hl : n ≤ 1048576) (hk0 : 0 ≤ k) (hk1 : k ≤ 1000000000) (h : SpAt w B (.slice a n cap) (marks k n)) :
    Calls Try.prog 69 #[.slice a n cap, .int .i64 k] w fun e w' => e = .returned (.int .i64 (k + 2 * n)) ∧ w = w' := by
  obtain ⟨a1, cap1, e1, h1⟩ := h
  simp only [Value.slice.injEq] at e1
  obtain ⟨rfl, hnn, rfl⟩ := e1
  clear hnn
  have H := Lib.hid h1
  clear h1
  go_enter Try.func69, Try.ntmps69
  go_wp2
  go_loop [1, 5] (fun s1 i => ∃ j : Nat, j ≤ n ∧ i = .int .i64 (j : Int) ∧ s1 = .int .i64 (k + 2 * j)) (fun _ i => n - (intOf i).toNat)
  case atStart => exact ⟨0, Nat.zero_le _, rfl, by simp⟩
  case round =>
    obtain ⟨j, hj, rfl, rfl⟩ := hrel
    by_cases hlt : j < n
    · rcases H.out with h1 | ⟨b, o, rfl, hB, hc⟩
      · have := marks_len k n
        rw [h1] at this
        simp at this
        omega
      have hjl : j < (marks k n).length := by rw [marks_len]; exact hlt
      have hm : (marks k n)[j] = (k + 2 * j, k + 2 * j + 1) := by
        have := marks_at k n j hlt
        rw [List.getElem?_eq_getElem hjl] at this
        exact Option.some.inj this
      obtain ⟨c0, c1⟩ := hc j hjl
      rw [hm] at c0 c1
      simp only at c0 c1
      clear hc hm
      go_wp2_with fail
      go_round
      case rel => exact ⟨j + 1, by omega, by go_num, by go_num⟩
      case measure => simp [intOf]; omega
    · obtain rfl : j = n := by omega
      go_wp2_with fail
      go_ret
      exact ⟨rfl, rfl⟩


end Go.Proofs.Ytgnjhmmedogcoaa

/- The contract of the model's RangeOk over this seat's translation: it answers as the plain function spOk of the spans; nothing that was there before the call has changed. Condition: at most 1048576 spans. -/
namespace Go.Proofs.Ytgnjhmmedogcoaa
open Go.RowKit Go.Sort

/-- Each span is from 0 to the greatest rank and behind the one before it, with a rank between. -/
def okFrom (prev : Option Int) : List (Int × Int) → Bool
  | [] => true
  | (a, b) :: t => inB a 0 9999999 && (inB b a 9999999 && ((match prev with | none => true | some h => decide (h + 1 < a)) && okFrom (some b) t))
def spOk (L : List (Int × Int)) : Bool := okFrom none L && decide (L.length ≤ 40)

/-- The end of the span before place k. -/
def prevOf (L : List (Int × Int)) : Nat → Option Int
  | 0 => none
  | k + 1 => (L[k]?).map (·.2)

theorem okFrom_step {L : List (Int × Int)} {k : Nat} {x y : Int} (h : L[k]? = some (x, y)) (prev : Option Int) :
    okFrom prev (L.drop k) = (inB x 0 9999999 && (inB y x 9999999 && ((match prev with | none => true | some h => decide (h + 1 < x)) && okFrom (some y) (L.drop (k + 1))))) := by
  have hk : k < L.length := (List.getElem?_eq_some_iff.1 h).1
  rw [List.drop_eq_getElem_cons hk, (List.getElem?_eq_some_iff.1 h).2]
  rfl

/-- What the loop of RangeOk keeps: what is left decides, and the span before lies below the greatest rank. -/
def OkRel (L : List (Int × Int)) (w : World) (v1 : Value) (i : Value) (wr : World) : Prop :=
  ∃ k : Nat, k ≤ L.length ∧ i = .int .i64 (k : Int) ∧ okFrom none L = okFrom (prevOf L k) (L.drop k) ∧ (∀ p, prevOf L k = some p → 0 ≤ p ∧ p ≤ 9999999) ∧ Below (w.heap.size + 1) (w.alloc (.cells #[v1] 57)) wr

theorem ok_push {L : List (Int × Int)} {w wr : World} {v1 : Value} {k : Nat} {x y : Int} (hL : L[k]? = some (x, y)) (ho : okFrom none L = okFrom (prevOf L k) (L.drop k)) (hx : inB x 0 9999999 = true) (hy : inB y x 9999999 = true)
    (hp : ∀ p, prevOf L k = some p → p + 1 < x) (hb : Below (w.heap.size + 1) (w.alloc (.cells #[v1] 57)) wr) : OkRel L w v1 (.int .i64 ((k : Int) + 1)) wr := by
  have hk : k < L.length := (List.getElem?_eq_some_iff.1 hL).1
  have h1 := inB_iff.1 hx
  have h2 := inB_iff.1 hy
  refine ⟨k + 1, by omega, by go_num, ?_, fun p hp' => ?_, hb⟩
  · rw [ho, okFrom_step hL, hx, hy]
    have e : prevOf L (k + 1) = some y := by simp [prevOf, hL]
    rw [e]
    match hq : prevOf L k with
    | none => simp
    | some h => simp [hp h hq]
  · simp [prevOf, hL] at hp'
    omega

theorem l1In_below (n lo hi : Int) (w : World) : Calls Try.prog 84 #[.int .i64 n, .int .i64 lo, .int .i64 hi] w fun e w' => e = .returned (.bool (inB n lo hi)) ∧ Below w.heap.size w w' :=
  (l1In_any n lo hi w).mono fun _ _ ⟨he, hw⟩ => ⟨he, by subst hw; exact Below.refl _ _⟩

set_option maxHeartbeats 2000000 in
theorem specRangeOk_any (a : Option Addr) (cap : Nat) (L : List (Int × Int)) (w : World) (hl : L.length ≤ 1048576) (h : SpAt w w.heap.size (.slice a L.length cap) L) :
    Calls Try.prog 87 #[.agg #[.slice a L.length cap]] w fun e w' => e = .returned (.bool (spOk L)) ∧ Below w.heap.size w w' := by
  have HH := Lib.hid h
  clear h
  have hb0 := (Below.refl w.heap.size w).alloc (Nat.le_refl _) (.cells #[.slice a L.length cap] 57)
  have v0 : (w.alloc (.cells #[.slice a L.length cap] 57)).cell? ⟨w.heap.size, 0, none⟩ = some (.slice a L.length cap) := by go_simp
  go_enter Try.func87, Try.ntmps87
  go_wp2
  go_loopw [3] (fun i wr => OkRel L w (.slice a L.length cap) i wr) (fun i _ => L.length - (intOf i).toNat)
  case atStart => exact ⟨0, Nat.zero_le _, rfl, rfl, fun p hp => (by cases hp), Below.refl _ _⟩
  case round =>
    obtain ⟨k, hk, rfl, ho, hp, hb⟩ := hrel
    have HO := Lib.hid ho
    have HPB := Lib.hid hp
    clear ho hp
    have z1 := hb.size
    simp at z1
    have r0 := (hb.cell (p := ⟨w.heap.size, 0, none⟩) (by simp)).trans v0
    have i0 : (0 : Int) ≤ (k : Int) := by omega
    have i1 : (k : Int) ≤ (L.length : Int) := by omega
    by_cases hlt : k < L.length
    · obtain ⟨a1, cap1, e1, h1⟩ := HH.out
      simp only [Value.slice.injEq] at e1
      obtain ⟨rfl, _, rfl⟩ := e1
      rcases h1 with h1 | ⟨b, o, rfl, hB, hc⟩
      · subst h1
        exact absurd hlt (by simp)
      have hbw := (hb0.trans (hb.mono (Nat.le_succ _)))
      obtain ⟨x, y, hxy⟩ : ∃ x y, L[k] = (x, y) := ⟨_, _, rfl⟩
      have c := hc k hlt
      rw [hxy] at c
      have c0 := (hbw.cell (p := ⟨b, o + k * 2, none⟩) hB).trans c.1
      have c1 := (hbw.cell (p := ⟨b, o + k * 2 + 1, none⟩) hB).trans c.2
      have HX := Lib.hid (show L[k]? = some (x, y) by rw [List.getElem?_eq_getElem hlt, hxy])
      have HC := Lib.hid hc
      clear c hxy hc
      simp only at c0 c1
      have KI : Hid (∀ n lo hi V, Calls Try.prog 84 #[.int .i64 n, .int .i64 lo, .int .i64 hi] V fun e w' => e = .returned (.bool (inB n lo hi)) ∧ Below V.heap.size V w') := Lib.hid fun n lo hi V => l1In_below n lo hi V
      have t0 := cell_regrown (w := wr.alloc (.cells #[.int .i64 x, .int .i64 y] 73)) (a := ⟨wr.heap.size, 0, none⟩) (v := .int .i64 x) (by go_simp)
      have t1 := cell_regrown (w := wr.alloc (.cells #[.int .i64 x, .int .i64 y] 73)) (a := ⟨wr.heap.size, 1, none⟩) (v := .int .i64 y) (by go_simp)
      have rr := cell_regrown (w := wr.alloc (.cells #[.int .i64 x, .int .i64 y] 73)) (a := ⟨w.heap.size, 0, none⟩) (v := .slice (some ⟨b, o, none⟩) L.length cap) ((((Below.refl wr.heap.size wr).alloc (Nat.le_refl _) _).cell (p := ⟨w.heap.size, 0, none⟩) (by simp; omega)).trans r0)
      have step := okFrom_step HX.out (prevOf L k)
      rcases hA : inB x 0 9999999
      · have HF := Lib.hid (show spOk L = false by unfold spOk; rw [HO.out, step, hA]; simp)
        clear step
        go_wp2_with fail
        refine wp_region_quiet_below (by kernel_rfl) (by kernel_rfl) ?_
        repeat (any_goals (first | go_big_quiet_step ((go_at_call 84; exact Calls.regrown_of (KI.out _ _ _ _))) | quiet_step ((go_at_call 84; exact Calls.regrown_of (KI.out _ _ _ _)))))
        refine wpQuiet_nil ?_
        intro W2 hw
        have hb2 := quiet_end hw
        clear hw t0 t1 rr
        go_wp2_with fail
        go_ret
        exact ⟨by rw [HF.out]; rfl, hbw.trans ((((Below.refl _ _).alloc hbw.size _).trans (hb2.mono (by have := hbw.size; simp; omega))))⟩
      rcases hB2 : inB y x 9999999
      · have HF := Lib.hid (show spOk L = false by unfold spOk; rw [HO.out, step, hA, hB2]; simp)
        clear step
        go_wp2_with fail
        refine wp_region_quiet_below (by kernel_rfl) (by kernel_rfl) ?_
        repeat (any_goals (first | go_big_quiet_step ((go_at_call 84; exact Calls.regrown_of (KI.out _ _ _ _))) | quiet_step ((go_at_call 84; exact Calls.regrown_of (KI.out _ _ _ _)))))
        refine wpQuiet_nil ?_
        intro W2 hw
        have hb2 := quiet_end hw
        clear hw t0 t1 rr
        go_wp2_with fail
        go_ret
        exact ⟨by rw [HF.out]; rfl, hbw.trans ((((Below.refl _ _).alloc hbw.size _).trans (hb2.mono (by have := hbw.size; simp; omega))))⟩
      have HA := Lib.hid hA
      have HB2 := Lib.hid hB2
      obtain ⟨x0, x1⟩ := inB_iff.1 hA
      obtain ⟨y0, y1⟩ := inB_iff.1 hB2
      rcases Nat.eq_zero_or_pos k with hkz | hkp
      · have HQ := Lib.hid (show ∀ p, prevOf L k = some p → p + 1 < x from fun p hp => by rw [hkz] at hp; cases hp)
        have hk0 : decide ((0 : Int) < (k : Int)) = false := decide_eq_false (by omega)
        have hk1 : decide (0 < k) = false := decide_eq_false (by omega)
        clear step hkz
        go_wp2_with fail
        refine wp_region_quiet_below (by kernel_rfl) (by kernel_rfl) ?_
        repeat (any_goals (first | go_big_quiet_step ((go_at_call 84; exact Calls.regrown_of (KI.out _ _ _ _))) | quiet_step ((go_at_call 84; exact Calls.regrown_of (KI.out _ _ _ _)))))
        refine wpQuiet_nil ?_
        intro W2 hw
        have hb2 := quiet_end hw
        clear hw t0 t1 rr
        have HP := Lib.hid (ok_push (v1 := .slice (some ⟨b, o, none⟩) L.length cap) HX.out HO.out HA.out HB2.out HQ.out (hb.trans (((Below.refl _ _).alloc (by omega) _).trans (hb2.mono (by simp; omega)))))
        clear hb hb2
        go_wp2_with fail
        go_roundw
        case rel => exact HP.out
        case measure => simp [intOf]; omega
      · obtain ⟨m, rfl⟩ : ∃ m, k = m + 1 := ⟨k - 1, by omega⟩
        obtain ⟨x', p, hxp⟩ : ∃ x' p, L[m] = (x', p) := ⟨_, _, rfl⟩
        have cm := (HC.out m (by omega)).2
        rw [hxp] at cm
        have hprev : prevOf L (m + 1) = some p := by simp [prevOf, List.getElem?_eq_getElem (show m < L.length by omega), hxp]
        obtain ⟨p0, p1⟩ := HPB.out p hprev
        have pp := cell_regrown (w := wr.alloc (.cells #[.int .i64 x, .int .i64 y] 73)) (a := ⟨b, o + m * 2 + 1, none⟩) (v := .int .i64 p) ((((hbw.trans ((Below.refl wr.heap.size wr).alloc (Nat.le_refl _) _ |>.mono hbw.size))).cell (p := ⟨b, o + m * 2 + 1, none⟩) hB).trans cm)
        have j0 : (0 : Int) ≤ (m : Int) := by omega
        have j1 : (m : Int) < (L.length : Int) := by omega
        have hk0 : (0 : Int) < (m : Int) + 1 := by omega
        clear hxp cm
        by_cases hlt2 : p + 1 < x
        · have HQ := Lib.hid (show ∀ q, prevOf L (m + 1) = some q → q + 1 < x from fun q hq => by rw [hprev] at hq; cases hq; exact hlt2)
          clear step hprev
          go_wp2_with fail
          refine wp_region_quiet_below (by kernel_rfl) (by kernel_rfl) ?_
          repeat (any_goals (first | go_big_quiet_step ((go_at_call 84; exact Calls.regrown_of (KI.out _ _ _ _))) | quiet_step ((go_at_call 84; exact Calls.regrown_of (KI.out _ _ _ _)))))
          refine wpQuiet_nil ?_
          intro W2 hw
          have hb2 := quiet_end hw
          clear hw t0 t1 rr
          have HP := Lib.hid (ok_push (v1 := .slice (some ⟨b, o, none⟩) L.length cap) HX.out HO.out HA.out HB2.out HQ.out (hb.trans (((Below.refl _ _).alloc (by omega) _).trans (hb2.mono (by simp; omega)))))
          clear hb hb2
          go_wp2_with fail
          go_roundw
          case rel => exact HP.out
          case measure => simp [intOf]; omega
        · have HF := Lib.hid (show spOk L = false by unfold spOk; rw [HO.out, step, hA, hB2, hprev]; simp [hlt2])
          clear step hprev
          go_wp2_with fail
          refine wp_region_quiet_below (by kernel_rfl) (by kernel_rfl) ?_
          repeat (any_goals (first | go_big_quiet_step ((go_at_call 84; exact Calls.regrown_of (KI.out _ _ _ _))) | quiet_step ((go_at_call 84; exact Calls.regrown_of (KI.out _ _ _ _)))))
          refine wpQuiet_nil ?_
          intro W2 hw
          have hb2 := quiet_end hw
          clear hw t0 t1 rr
          go_wp2_with fail
          go_ret
          exact ⟨by rw [HF.out]; rfl, hbw.trans ((((Below.refl _ _).alloc hbw.size _).trans (hb2.mono (by have := hbw.size; simp; omega))))⟩
    · obtain rfl : k = L.length := by omega
      have HF := Lib.hid (show spOk L = decide ((L.length : Int) ≤ 40) by unfold spOk; rw [HO.out, List.drop_length]; simp only [okFrom, Bool.true_and]; exact decide_eq_decide.2 (by omega))
      go_wp2_with fail
      go_ret
      exact ⟨by rw [HF.out]; rfl, hb0.trans (hb.mono (Nat.le_succ _))⟩

end Go.Proofs.Ytgnjhmmedogcoaa

/- Plain facts on rows of spans, with no program in them: rows in ascending order with a gap between are told by what is in them; what the turning, cutting and laying together of rows come to. -/
namespace Go.Proofs.Ytgnjhmmedogcoaa

abbrev Sps := List (Int × Int)

/-- A rank is in one of the spans. -/
def mem (n : Int) (L : Sps) : Prop := ∃ p ∈ L, p.1 ≤ n ∧ n ≤ p.2

theorem mem_nil (n : Int) : ¬ mem n [] := fun ⟨_, h, _⟩ => by cases h
theorem mem_cons {n : Int} {p : Int × Int} {L : Sps} : mem n (p :: L) ↔ (p.1 ≤ n ∧ n ≤ p.2) ∨ mem n L := by
  simp [mem]
theorem mem_append {n : Int} {L M : Sps} : mem n (L ++ M) ↔ mem n L ∨ mem n M := by
  simp only [mem, List.mem_append, or_and_right, exists_or]

/-- Spans in ascending order from a least rank on, with a gap between two of them, none above the greatest rank. -/
def Wf (lo : Int) : Sps → Prop
  | [] => True
  | (a, b) :: t => lo ≤ a ∧ a ≤ b ∧ b ≤ 9999999 ∧ Wf (b + 2) t

theorem Wf.mono : ∀ {L : Sps} {lo lo' : Int}, Wf lo L → lo' ≤ lo → Wf lo' L
  | [], _, _, _, _ => trivial
  | (_, _) :: _, _, _, ⟨h1, h2, h3, h4⟩, h => ⟨by omega, h2, h3, h4⟩

theorem okFrom_some {L : Sps} : ∀ {h : Int}, -2 ≤ h → (okFrom (some h) L = true ↔ Wf (h + 2) L) := by
  induction L with
  | nil => intro h _; simp [okFrom, Wf]
  | cons p t ih =>
    intro h hh
    obtain ⟨a, b⟩ := p
    simp only [okFrom, Wf, Bool.and_eq_true, inB_iff, decide_eq_true_eq]
    constructor
    · rintro ⟨h1, h2, h3, h4⟩
      exact ⟨by omega, by omega, by omega, (ih (by omega)).1 h4⟩
    · rintro ⟨h1, h2, h3, h4⟩
      exact ⟨by omega, by omega, by omega, (ih (by omega)).2 h4⟩
theorem okFrom_none {L : Sps} : okFrom none L = true ↔ Wf 0 L := by
  cases L with
  | nil => simp [okFrom, Wf]
  | cons p t =>
    obtain ⟨a, b⟩ := p
    simp only [okFrom, Wf, Bool.and_eq_true, inB_iff]
    constructor
    · rintro ⟨h1, h2, _, h4⟩
      exact ⟨by omega, by omega, by omega, (okFrom_some (by omega)).1 h4⟩
    · rintro ⟨h1, h2, h3, h4⟩
      exact ⟨by omega, by omega, trivial, (okFrom_some (by omega)).2 h4⟩
theorem spOk_iff {L : Sps} : spOk L = true ↔ Wf 0 L ∧ L.length ≤ 40 := by
  simp [spOk, okFrom_none]
theorem spOk_wf {L : Sps} (h : Wf 0 L) : spOk L = decide (L.length ≤ 40) := by
  simp [spOk, okFrom_none.2 h]

theorem Wf.mem_lo : ∀ {L : Sps} {lo n : Int}, Wf lo L → mem n L → lo ≤ n ∧ n ≤ 9999999
  | [], _, _, _, h => absurd h (mem_nil _)
  | (a, b) :: t, lo, n, ⟨h1, h2, h3, h4⟩, h => by
    rcases mem_cons.1 h with h | h
    · simp only at h; omega
    · have := Wf.mem_lo h4 h; omega

/-- Such rows are told by what is in them. -/
theorem wf_unique : ∀ {L M : Sps} {lo : Int}, Wf lo L → Wf lo M → (∀ n, mem n L ↔ mem n M) → L = M
  | [], [], _, _, _, _ => rfl
  | [], (c, d) :: u, _, _, ⟨_, h2, _, _⟩, h => absurd ((h c).2 (mem_cons.2 (.inl ⟨Int.le_refl _, h2⟩))) (mem_nil _)
  | (a, b) :: t, [], _, ⟨_, h2, _, _⟩, _, h => absurd ((h a).1 (mem_cons.2 (.inl ⟨Int.le_refl _, h2⟩))) (mem_nil _)
  | (a, b) :: t, (c, d) :: u, lo, ⟨h1, h2, h3, h4⟩, ⟨k1, k2, k3, k4⟩, h => by
    have hac : a = c := by
      have e1 := (h a).1 (mem_cons.2 (.inl ⟨Int.le_refl _, h2⟩))
      have e2 := (h c).2 (mem_cons.2 (.inl ⟨Int.le_refl _, k2⟩))
      rcases mem_cons.1 e1 with e1 | e1
      · rcases mem_cons.1 e2 with e2 | e2
        · simp only at e1 e2; omega
        · have := Wf.mem_lo h4 e2; simp only at e1; omega
      · have := Wf.mem_lo k4 e1
        rcases mem_cons.1 e2 with e2 | e2
        · simp only at e2; omega
        · have := Wf.mem_lo h4 e2; omega
    subst hac
    have hbd : b = d := by
      rcases Int.lt_trichotomy b d with hlt | heq | hlt
      · have e := (h (b + 1)).2 (mem_cons.2 (.inl ⟨by simp only; omega, by simp only; omega⟩))
        rcases mem_cons.1 e with e | e
        · simp only at e; omega
        · have := Wf.mem_lo h4 e; omega
      · exact heq
      · have e := (h (d + 1)).1 (mem_cons.2 (.inl ⟨by simp only; omega, by simp only; omega⟩))
        rcases mem_cons.1 e with e | e
        · simp only at e; omega
        · have := Wf.mem_lo k4 e; omega
    subst hbd
    rw [wf_unique h4 k4 fun n => ?_]
    constructor
    · intro e
      have := Wf.mem_lo h4 e
      rcases mem_cons.1 ((h n).1 (mem_cons.2 (.inr e))) with e' | e'
      · simp only at e'; omega
      · exact e'
    · intro e
      have := Wf.mem_lo k4 e
      rcases mem_cons.1 ((h n).2 (mem_cons.2 (.inr e))) with e' | e'
      · simp only at e'; omega
      · exact e'

/-- Where the span behind a row may begin. -/
def endOf (lo : Int) : Sps → Int
  | [] => lo
  | (_, b) :: t => endOf (b + 2) t
theorem wf_append : ∀ {X Y : Sps} {lo : Int}, Wf lo (X ++ Y) ↔ Wf lo X ∧ Wf (endOf lo X) Y
  | [], Y, lo => by simp [Wf, endOf]
  | (a, b) :: t, Y, lo => by
    simp only [List.cons_append, Wf, endOf, wf_append (X := t)]
    constructor
    · rintro ⟨h1, h2, h3, h4, h5⟩; exact ⟨⟨h1, h2, h3, h4⟩, h5⟩
    · rintro ⟨⟨h1, h2, h3, h4⟩, h5⟩; exact ⟨h1, h2, h3, h4, h5⟩
theorem endOf_snoc : ∀ {X : Sps} {lo a b : Int}, endOf lo (X ++ [(a, b)]) = b + 2
  | [], _, _, _ => rfl
  | (_, _) :: t, _, _, _ => by simp only [List.cons_append, endOf]; exact endOf_snoc (X := t)

/-- What is not in a row, from a least rank on. -/
def notFrom (low : Int) : Sps → Sps
  | [] => if low ≤ 9999999 then [(low, 9999999)] else []
  | (a, b) :: t => if low < a then (low, a - 1) :: notFrom (b + 1) t else notFrom (b + 1) t
def notL (L : Sps) : Sps := notFrom 0 L

theorem notFrom_wf : ∀ {L : Sps} {low : Int}, Wf low L → Wf low (notFrom low L)
  | [], low, _ => by
    unfold notFrom
    split
    · exact ⟨Int.le_refl _, by omega, Int.le_refl _, trivial⟩
    · trivial
  | (a, b) :: t, low, ⟨h1, h2, h3, h4⟩ => by
    have ih := notFrom_wf (h4.mono (show b + 1 ≤ b + 2 by omega))
    unfold notFrom
    split
    · exact ⟨Int.le_refl _, by omega, by omega, ih.mono (by omega)⟩
    · exact ih.mono (by omega)
theorem notFrom_mem : ∀ {L : Sps} {low n : Int}, Wf low L → (mem n (notFrom low L) ↔ low ≤ n ∧ n ≤ 9999999 ∧ ¬ mem n L)
  | [], low, n, _ => by
    unfold notFrom
    have := mem_nil n
    split
    · simp only [mem_cons, this, or_false, not_false_eq_true, and_true]
    · simp only [this, false_iff]; omega
  | (a, b) :: t, low, n, ⟨h1, h2, h3, h4⟩ => by
    have ih := notFrom_mem (n := n) (h4.mono (show b + 1 ≤ b + 2 by omega))
    have lo : mem n t → b + 2 ≤ n := fun h => (Wf.mem_lo h4 h).1
    unfold notFrom
    split
    · rw [mem_cons, mem_cons, ih]
      constructor
      · rintro (h | ⟨k1, k2, k3⟩)
        · simp only at h
          exact ⟨by omega, by omega, fun hc => hc.elim (fun hc => by simp only at hc; omega) (fun hc => by have := lo hc; omega)⟩
        · exact ⟨by omega, k2, fun hc => hc.elim (fun hc => by simp only at hc; omega) k3⟩
      · rintro ⟨k1, k2, k3⟩
        by_cases ha : n < a
        · exact .inl ⟨k1, by simp only; omega⟩
        · refine .inr ⟨?_, k2, fun h => k3 (.inr h)⟩
          have : ¬ (a ≤ n ∧ n ≤ b) := fun h => k3 (.inl h)
          omega
    · rw [mem_cons, ih]
      constructor
      · rintro ⟨k1, k2, k3⟩
        exact ⟨by omega, k2, fun hc => hc.elim (fun hc => by simp only at hc; omega) k3⟩
      · rintro ⟨k1, k2, k3⟩
        refine ⟨?_, k2, fun h => k3 (.inr h)⟩
        have : ¬ (a ≤ n ∧ n ≤ b) := fun h => k3 (.inl h)
        omega
theorem notFrom_len : ∀ {L : Sps} {low : Int}, (notFrom low L).length ≤ L.length + 1
  | [], low => by unfold notFrom; split <;> simp
  | (a, b) :: t, low => by
    have := notFrom_len (L := t) (low := b + 1)
    unfold notFrom
    split <;> simp <;> omega

/-- What is in both of two rows, by one finger in each. -/
def andI : Sps → Sps → Sps
  | [], _ => []
  | _ :: _, [] => []
  | (a, b) :: s, (c, d) :: t =>
    (if max a c ≤ min b d then [(max a c, min b d)] else []) ++ (if b < d then andI s ((c, d) :: t) else andI ((a, b) :: s) t)
termination_by x y => x.length + y.length

theorem andI_wf (n : Nat) : ∀ {A B : Sps} {lo lo' : Int}, A.length + B.length ≤ n → Wf lo A → Wf lo' B → Wf (max lo lo') (andI A B) := by
  induction n with
  | zero =>
    intro A B lo lo' hn hA hB
    obtain rfl : A = [] := List.eq_nil_of_length_eq_zero (by omega)
    rw [andI]; trivial
  | succ n ih =>
    intro A B lo lo' hn hA hB
    match A, B, hn, hA, hB with
    | [], _, _, _, _ => rw [andI]; trivial
    | _ :: _, [], _, _, _ => rw [andI]; trivial
    | (a, b) :: s, (c, d) :: t, hn, ⟨h1, h2, h3, h4⟩, ⟨k1, k2, k3, k4⟩ =>
      simp only [List.length_cons] at hn
      have rest : Wf (max (max lo lo') (min b d + 2)) (if b < d then andI s ((c, d) :: t) else andI ((a, b) :: s) t) := by
        split
        · exact (ih (by simp only [List.length_cons]; omega) (Wf.mono h4 (Int.le_refl _)) (show Wf c ((c, d) :: t) from ⟨Int.le_refl _, k2, k3, k4⟩)).mono (by omega)
        · exact (ih (by simp only [List.length_cons]; omega) (show Wf a ((a, b) :: s) from ⟨Int.le_refl _, h2, h3, h4⟩) k4).mono (by omega)
      rw [andI]
      split
      · exact ⟨by omega, by assumption, by omega, rest.mono (by omega)⟩
      · exact rest.mono (by omega)
theorem andI_mem (k : Nat) : ∀ {A B : Sps} {lo lo' : Int} (n : Int), A.length + B.length ≤ k → Wf lo A → Wf lo' B → (mem n (andI A B) ↔ mem n A ∧ mem n B) := by
  induction k with
  | zero =>
    intro A B lo lo' n hn hA hB
    obtain rfl : A = [] := List.eq_nil_of_length_eq_zero (by omega)
    rw [andI]; simp [mem_nil]
  | succ k ih =>
    intro A B lo lo' n hn hA hB
    match A, B, hn, hA, hB with
    | [], _, _, _, _ => rw [andI]; simp [mem_nil]
    | _ :: _, [], _, _, _ => rw [andI]; simp [mem_nil]
    | (a, b) :: s, (c, d) :: t, hn, ⟨h1, h2, h3, h4⟩, ⟨k1, k2, k3, k4⟩ =>
      simp only [List.length_cons] at hn
      have l1 : mem n s → b + 2 ≤ n := fun h => (Wf.mem_lo h4 h).1
      have l2 : mem n t → d + 2 ≤ n := fun h => (Wf.mem_lo k4 h).1
      have first : mem n (if max a c ≤ min b d then [(max a c, min b d)] else []) ↔ (a ≤ n ∧ n ≤ b) ∧ (c ≤ n ∧ n ≤ d) := by
        split
        · simp only [mem_cons, mem_nil, or_false]; omega
        · simp only [mem_nil, false_iff]; omega
      rw [andI, mem_append, first]
      split
      · rw [ih n (by simp only [List.length_cons]; omega) h4 (show Wf lo' ((c, d) :: t) from ⟨k1, k2, k3, k4⟩), mem_cons, mem_cons]
        simp only
        constructor
        · rintro (⟨e1, e2⟩ | ⟨e1, e2⟩)
          · exact ⟨.inl e1, .inl e2⟩
          · exact ⟨.inr e1, e2⟩
        · rintro ⟨e1 | e1, e2 | e2⟩
          · exact .inl ⟨e1, e2⟩
          · have := l2 e2; omega
          · exact .inr ⟨e1, .inl e2⟩
          · exact .inr ⟨e1, .inr e2⟩
      · rw [ih n (by simp only [List.length_cons]; omega) (show Wf lo ((a, b) :: s) from ⟨h1, h2, h3, h4⟩) k4, mem_cons, mem_cons]
        simp only
        constructor
        · rintro (⟨e1, e2⟩ | ⟨e1, e2⟩)
          · exact ⟨.inl e1, .inl e2⟩
          · exact ⟨e1, .inr e2⟩
        · rintro ⟨e1 | e1, e2 | e2⟩
          · exact .inl ⟨e1, e2⟩
          · exact .inr ⟨.inl e1, e2⟩
          · have := l1 e1; omega
          · exact .inr ⟨.inr e1, e2⟩

/-- What is in both of two rows, each span of one with each of the other one. -/
def cutOne (a b : Int) (B : Sps) : Sps := B.flatMap fun q => if max a q.1 ≤ min b q.2 then [(max a q.1, min b q.2)] else []
def andS (A B : Sps) : Sps := A.flatMap fun p => cutOne p.1 p.2 B

theorem cutOne_mem {n a b : Int} : ∀ {B : Sps}, mem n (cutOne a b B) ↔ (a ≤ n ∧ n ≤ b) ∧ mem n B
  | [] => by simp [cutOne, mem_nil]
  | (c, d) :: t => by
    have ih := cutOne_mem (n := n) (a := a) (b := b) (B := t)
    unfold cutOne at ih ⊢
    rw [List.flatMap_cons, mem_append, ih, mem_cons]
    simp only
    split
    · simp only [mem_cons, mem_nil, or_false]
      constructor
      · rintro (h | ⟨h1, h2⟩)
        · exact ⟨by omega, .inl (by omega)⟩
        · exact ⟨h1, .inr h2⟩
      · rintro ⟨h1, h2 | h2⟩
        · exact .inl (by omega)
        · exact .inr ⟨h1, h2⟩
    · simp only [mem_nil, false_or]
      constructor
      · rintro ⟨h1, h2⟩; exact ⟨h1, .inr h2⟩
      · rintro ⟨h1, h2 | h2⟩
        · omega
        · exact ⟨h1, h2⟩
theorem andS_mem {n : Int} {B : Sps} : ∀ {A : Sps}, mem n (andS A B) ↔ mem n A ∧ mem n B
  | [] => by simp [andS, mem_nil]
  | (a, b) :: s => by
    have ih := andS_mem (n := n) (A := s) (B := B)
    unfold andS at ih ⊢
    rw [List.flatMap_cons, mem_append, ih, mem_cons, cutOne_mem]
    simp only
    constructor
    · rintro (⟨h1, h2⟩ | ⟨h1, h2⟩)
      · exact ⟨.inl h1, h2⟩
      · exact ⟨.inr h1, h2⟩
    · rintro ⟨h1 | h1, h2⟩
      · exact .inl ⟨h1, h2⟩
      · exact .inr ⟨h1, h2⟩
theorem cutOne_wf {a b : Int} (hb : b ≤ 9999999) : ∀ {B : Sps} {lo : Int}, Wf lo B → Wf (max a lo) (cutOne a b B) ∧ endOf (max a lo) (cutOne a b B) ≤ max (max a lo) (b + 2)
  | [], lo, _ => ⟨by simp [cutOne, Wf], by simp only [cutOne, List.flatMap_nil, endOf]; omega⟩
  | (c, d) :: t, lo, ⟨h1, h2, h3, h4⟩ => by
    unfold cutOne
    rw [List.flatMap_cons]
    simp only
    split
    · have ih := cutOne_wf (a := a) hb (B := t) (lo := d + 2) h4
      have low : max a (d + 2) = max a (d + 2) := rfl
      by_cases hd : d < b
      · have e : max a (d + 2) = d + 2 := by omega
        rw [e] at ih
        refine ⟨⟨by omega, by assumption, by omega, ?_⟩, ?_⟩
        · rw [show min b d + 2 = d + 2 by omega]; exact ih.1
        · simp only [List.cons_append, List.nil_append, endOf]
          rw [show min b d + 2 = d + 2 by omega]
          have := ih.2
          unfold cutOne at this
          omega
      · have hn : cutOne a b t = [] := by
          unfold cutOne
          rw [List.flatMap_eq_nil_iff]
          intro q hq
          rw [if_neg]
          intro hc
          have hm : mem (max a q.1) t := ⟨q, hq, by omega, by omega⟩
          have := (Wf.mem_lo h4 hm).1
          omega
        unfold cutOne at hn
        rw [hn]
        refine ⟨⟨by omega, by assumption, by omega, trivial⟩, ?_⟩
        simp only [List.cons_append, List.nil_append, endOf]
        omega
    · have ih := cutOne_wf (a := a) hb (B := t) (lo := lo) (h4.mono (by omega))
      rw [List.nil_append]
      exact ih
theorem andS_wf {B : Sps} {lo' : Int} (hB : Wf lo' B) : ∀ {A : Sps} {lo : Int}, Wf lo A → Wf lo (andS A B)
  | [], _, _ => by simp [andS, Wf]
  | (a, b) :: s, lo, ⟨h1, h2, h3, h4⟩ => by
    have ih := andS_wf hB h4
    have hc := cutOne_wf (a := a) h3 (hB.mono (show min lo' a ≤ lo' by omega))
    rw [show max a (min lo' a) = a by omega] at hc
    unfold andS at ih ⊢
    rw [List.flatMap_cons]
    have e := hc.2
    refine Wf.mono (lo := a) (wf_append.2 ⟨hc.1, ih.mono ?_⟩) h1
    show endOf a (cutOne a b B) ≤ b + 2
    omega

/-- One more span is laid behind a row, or together with its last one. -/
def orPush (out : Sps) (x : Int × Int) : Sps :=
  match out.getLast? with
  | none => [x]
  | some l => if l.2 + 1 ≥ x.1 then out.dropLast ++ [(l.1, max l.2 x.2)] else out ++ [x]
def orGo : Sps → Sps → Sps → Sps
  | [], [], out => out
  | a :: s, [], out => orGo s [] (orPush out a)
  | [], b :: t, out => orGo [] t (orPush out b)
  | a :: s, b :: t, out => if a.1 ≤ b.1 then orGo s (b :: t) (orPush out a) else orGo (a :: s) t (orPush out b)
termination_by x y => x.length + y.length
def orS (A B : Sps) : Sps := orGo A B []

/-- What the row so far is good for: it is one, and it ends at no lower rank than the next span begins. -/
def OrInv (out : Sps) (lim : Int) : Prop := Wf 0 out ∧ ∀ l, out.getLast? = some l → l.1 ≤ lim

theorem orPush_inv {out : Sps} {x : Int × Int} (h : OrInv out x.1) (h0 : 0 ≤ x.1) (hx : x.1 ≤ x.2) (hx2 : x.2 ≤ 9999999) :
    OrInv (orPush out x) x.1 ∧ ∀ n, mem n (orPush out x) ↔ mem n out ∨ (x.1 ≤ n ∧ n ≤ x.2) := by
  obtain ⟨hw, hl⟩ := h
  unfold orPush
  rcases hg : out.getLast? with _ | l
  · obtain rfl : out = [] := List.getLast?_eq_none_iff.1 hg
    refine ⟨⟨⟨h0, hx, hx2, trivial⟩, fun l h => ?_⟩, fun n => ?_⟩
    · simp at h; subst h; exact Int.le_refl _
    · simp [mem_cons, mem_nil]
  · have hlim := hl l hg
    obtain ⟨ini, rfl⟩ : ∃ ini, out = ini ++ [l] := List.getLast?_eq_some_iff.1 hg
    obtain ⟨w1, w2, w3, w4, _⟩ := wf_append.1 hw
    simp only
    split
    · rw [List.dropLast_concat]
      refine ⟨⟨wf_append.2 ⟨w1, w2, by omega, by omega, trivial⟩, fun l' h => ?_⟩, fun n => ?_⟩
      · simp at h; subst h; exact hlim
      · rw [mem_append, mem_append, mem_cons, mem_cons]
        simp only [mem_nil, or_false]
        constructor
        · rintro (h | h)
          · exact .inl (.inl h)
          · by_cases hn : n ≤ l.2
            · exact .inl (.inr ⟨h.1, hn⟩)
            · exact .inr (by omega)
        · rintro ((h | h) | h)
          · exact .inl h
          · exact .inr (by omega)
          · exact .inr (by omega)
    · refine ⟨⟨wf_append.2 ⟨hw, ?_⟩, fun l' h => ?_⟩, fun n => ?_⟩
      · obtain ⟨l1, l2⟩ := l
        rw [endOf_snoc]
        exact ⟨by simp only at *; omega, hx, hx2, trivial⟩
      · simp at h; subst h; exact Int.le_refl _
      · rw [mem_append, mem_cons]
        simp only [mem_nil, or_false]

theorem OrInv.mono {out : Sps} {k k' : Int} (h : OrInv out k) (hk : k ≤ k') : OrInv out k' := ⟨h.1, fun l hl => Int.le_trans (h.2 l hl) hk⟩

theorem orGo_fine (k : Nat) : ∀ {A B out : Sps} {lo lo' : Int}, A.length + B.length ≤ k → 0 ≤ lo → 0 ≤ lo' → Wf lo A → Wf lo' B → (∀ p, A.head? = some p → OrInv out p.1) → (∀ p, B.head? = some p → OrInv out p.1) → Wf 0 out →
    Wf 0 (orGo A B out) ∧ ∀ n, mem n (orGo A B out) ↔ mem n out ∨ mem n A ∨ mem n B := by
  induction k with
  | zero =>
    intro A B out lo lo' hn h0 h0' hA hB iA iB hw
    obtain rfl : A = [] := List.eq_nil_of_length_eq_zero (by omega)
    obtain rfl : B = [] := List.eq_nil_of_length_eq_zero (by omega)
    rw [orGo]
    exact ⟨hw, fun n => by simp [mem_nil]⟩
  | succ k ih =>
    intro A B out lo lo' hn h0 h0' hA hB iA iB hw
    have headA : ∀ {a b : Int} {s : Sps} {o : Sps}, Wf (b + 2) s → a ≤ b → OrInv o a → ∀ p, s.head? = some p → OrInv o p.1 := by
      intro a b s o hs hab ho p hp
      match s, hs, hp with
      | (c, d) :: t, ⟨q1, _, _, _⟩, hp => simp at hp; subst hp; exact ho.mono (by simp only; omega)
    match A, B, hn, hA, hB, iA, iB with
    | [], [], _, _, _, _, _ => rw [orGo]; exact ⟨hw, fun n => by simp [mem_nil]⟩
    | (a, b) :: s, [], hn, ⟨h1, h2, h3, h4⟩, _, iA, iB =>
      obtain ⟨p1, p2⟩ := orPush_inv (iA (a, b) rfl) (by simp only; omega) h2 h3
      obtain ⟨r1, r2⟩ := ih (A := s) (B := []) (out := orPush out (a, b)) (lo := b + 2) (lo' := 0) (by simp at hn ⊢; omega) (by omega) (by omega) h4 trivial (headA h4 h2 p1) (fun p hp => by simp at hp) p1.1
      rw [orGo]
      refine ⟨r1, fun n => ?_⟩
      rw [r2, p2, mem_cons]
      constructor
      · rintro ((h | h) | h | h)
        · exact .inl h
        · exact .inr (.inl (.inl h))
        · exact .inr (.inl (.inr h))
        · exact .inr (.inr h)
      · rintro (h | (h | h) | h)
        · exact .inl (.inl h)
        · exact .inl (.inr h)
        · exact .inr (.inl h)
        · exact .inr (.inr h)
    | [], (c, d) :: t, hn, _, ⟨h1, h2, h3, h4⟩, iA, iB =>
      obtain ⟨p1, p2⟩ := orPush_inv (iB (c, d) rfl) (by simp only; omega) h2 h3
      obtain ⟨r1, r2⟩ := ih (A := []) (B := t) (out := orPush out (c, d)) (lo := 0) (lo' := d + 2) (by simp at hn ⊢; omega) (by omega) (by omega) trivial h4 (fun p hp => by simp at hp) (headA h4 h2 p1) p1.1
      rw [orGo]
      refine ⟨r1, fun n => ?_⟩
      rw [r2, p2, mem_cons]
      constructor
      · rintro ((h | h) | h | h)
        · exact .inl h
        · exact .inr (.inr (.inl h))
        · exact .inr (.inl h)
        · exact .inr (.inr (.inr h))
      · rintro (h | h | (h | h))
        · exact .inl (.inl h)
        · exact .inr (.inl h)
        · exact .inl (.inr h)
        · exact .inr (.inr h)
    | (a, b) :: s, (c, d) :: t, hn, ⟨h1, h2, h3, h4⟩, ⟨k1, k2, k3, k4⟩, iA, iB =>
      rw [orGo]
      split
      · rename_i hac
        simp only at hac
        obtain ⟨p1, p2⟩ := orPush_inv (iA (a, b) rfl) (by simp only; omega) h2 h3
        obtain ⟨r1, r2⟩ := ih (A := s) (B := (c, d) :: t) (out := orPush out (a, b)) (lo := b + 2) (lo' := lo') (by simp at hn ⊢; omega) (by omega) h0' h4 ⟨k1, k2, k3, k4⟩ (headA h4 h2 p1) (fun p hp => by simp at hp; subst hp; exact p1.mono (by simp only; omega)) p1.1
        refine ⟨r1, fun n => ?_⟩
        rw [r2, p2, mem_cons (L := s)]
        constructor
        · rintro ((h | h) | h | h)
          · exact .inl h
          · exact .inr (.inl (.inl h))
          · exact .inr (.inl (.inr h))
          · exact .inr (.inr h)
        · rintro (h | (h | h) | h)
          · exact .inl (.inl h)
          · exact .inl (.inr h)
          · exact .inr (.inl h)
          · exact .inr (.inr h)
      · rename_i hac
        simp only at hac
        obtain ⟨p1, p2⟩ := orPush_inv (iB (c, d) rfl) (by simp only; omega) k2 k3
        obtain ⟨r1, r2⟩ := ih (A := (a, b) :: s) (B := t) (out := orPush out (c, d)) (lo := lo) (lo' := d + 2) (by simp at hn ⊢; omega) h0 (by omega) ⟨h1, h2, h3, h4⟩ k4 (fun p hp => by simp at hp; subst hp; exact p1.mono (by simp only; omega)) (headA k4 k2 p1) p1.1
        refine ⟨r1, fun n => ?_⟩
        rw [r2, p2, mem_cons (L := t)]
        constructor
        · rintro ((h | h) | h | h)
          · exact .inl h
          · exact .inr (.inr (.inl h))
          · exact .inr (.inl h)
          · exact .inr (.inr (.inr h))
        · rintro (h | h | (h | h))
          · exact .inl (.inl h)
          · exact .inr (.inl h)
          · exact .inl (.inr h)
          · exact .inr (.inr h)

theorem notL_wf {L : Sps} (h : Wf 0 L) : Wf 0 (notL L) := notFrom_wf h
theorem notL_mem {L : Sps} (h : Wf 0 L) {n : Int} : mem n (notL L) ↔ 0 ≤ n ∧ n ≤ 9999999 ∧ ¬ mem n L := notFrom_mem h
theorem andI_wf0 {A B : Sps} (hA : Wf 0 A) (hB : Wf 0 B) : Wf 0 (andI A B) := andI_wf _ (Nat.le_refl _) hA hB
theorem andI_mem0 {A B : Sps} (hA : Wf 0 A) (hB : Wf 0 B) {n : Int} : mem n (andI A B) ↔ mem n A ∧ mem n B := andI_mem _ n (Nat.le_refl _) hA hB
theorem and_same {A B : Sps} (hA : Wf 0 A) (hB : Wf 0 B) : andS A B = andI A B :=
  wf_unique (andS_wf hB hA) (andI_wf0 hA hB) fun _ => andS_mem.trans (andI_mem0 hA hB).symm

def orI (A B : Sps) : Sps := notL (andI (notL A) (notL B))
theorem orI_wf {A B : Sps} (hA : Wf 0 A) (hB : Wf 0 B) : Wf 0 (orI A B) := notL_wf (andI_wf0 (notL_wf hA) (notL_wf hB))
theorem orI_mem {A B : Sps} (hA : Wf 0 A) (hB : Wf 0 B) {n : Int} : mem n (orI A B) ↔ mem n A ∨ mem n B := by
  unfold orI
  rw [notL_mem (andI_wf0 (notL_wf hA) (notL_wf hB)), andI_mem0 (notL_wf hA) (notL_wf hB), notL_mem hA, notL_mem hB]
  have a := fun h => Wf.mem_lo hA (n := n) h
  have b := fun h => Wf.mem_lo hB (n := n) h
  constructor
  · rintro ⟨k1, k2, k3⟩
    by_cases h1 : mem n A
    · exact .inl h1
    by_cases h2 : mem n B
    · exact .inr h2
    exact absurd ⟨⟨k1, k2, h1⟩, k1, k2, h2⟩ k3
  · rintro (h | h)
    · exact ⟨(a h).1, (a h).2, fun k => k.1.2.2 h⟩
    · exact ⟨(b h).1, (b h).2, fun k => k.2.2.2 h⟩
theorem orS_fine {A B : Sps} (hA : Wf 0 A) (hB : Wf 0 B) : Wf 0 (orS A B) ∧ ∀ n, mem n (orS A B) ↔ mem n A ∨ mem n B := by
  obtain ⟨h1, h2⟩ := orGo_fine _ (Nat.le_refl _) (Int.le_refl 0) (Int.le_refl 0) hA hB (out := []) (fun p _ => ⟨trivial, fun l h => by simp at h⟩) (fun p _ => ⟨trivial, fun l h => by simp at h⟩) trivial
  exact ⟨h1, fun n => (h2 n).trans (by simp [mem_nil])⟩
theorem or_same {A B : Sps} (hA : Wf 0 A) (hB : Wf 0 B) : orS A B = orI A B :=
  wf_unique (orS_fine hA hB).1 (orI_wf hA hB) fun n => ((orS_fine hA hB).2 n).trans (orI_mem hA hB).symm

end Go.Proofs.Ytgnjhmmedogcoaa

/- Rows of spans that a function grows by append, over this seat's translation: what it is for a value to own such a row; and the contract of the program's spansNot. Nothing that was there before the call has changed. Condition: the row is in order, at most 1048576 spans. -/
namespace Go.Proofs.Ytgnjhmmedogcoaa
open Go.RowKit Go.Sort

/-- The cells of a row of spans. -/
def flat : List (Int × Int) → List Value
  | [] => []
  | (a, b) :: t => .int .i64 a :: .int .i64 b :: flat t
theorem flat_len : ∀ L : List (Int × Int), (flat L).length = L.length * 2
  | [] => rfl
  | (_, _) :: t => by simp [flat, flat_len t]; omega
theorem flat_append : ∀ L M : List (Int × Int), flat (L ++ M) = flat L ++ flat M
  | [], _ => rfl
  | (_, _) :: t, M => by simp [flat, flat_append t M]
theorem flat_at : ∀ (L : List (Int × Int)) (i : Nat) (h : i < L.length), (flat L)[i * 2]? = some (.int .i64 L[i].1) ∧ (flat L)[i * 2 + 1]? = some (.int .i64 L[i].2)
  | (a, b) :: t, 0, _ => ⟨rfl, rfl⟩
  | (a, b) :: t, i + 1, h => by
    have := flat_at t i (by simpa using h)
    rw [show (i + 1) * 2 = i * 2 + 1 + 1 by omega]
    simpa [flat] using this

/-- A row that a call has grown. -/
abbrev Owns (w : World) (base : Nat) (v : Value) (L : List (Int × Int)) : Prop := w.ownsRow base 73 2 v L.length (flat L)

/-- A slice value whose spans are L: none of its own memory, or a row that is new since w. -/
def SRes (L : List (Int × Int)) (base : Nat) (v : Value) (w' : World) : Prop :=
  ∃ a cap, v = .slice a L.length cap ∧ (L = [] ∨ ∃ g n, a = some ⟨g, 0, none⟩ ∧ SpBlk w' g n L ∧ base ≤ g)
theorem SRes.at {L : List (Int × Int)} {base : Nat} {v : Value} {w : World} (h : SRes L base v w) : SpAt w w.heap.size v L := by
  obtain ⟨a, cap, rfl, h⟩ := h
  rcases h with rfl | ⟨g, n, rfl, hb, _⟩
  · exact ⟨_, _, rfl, .inl rfl⟩
  · exact hb.at hb.lt
theorem SRes.kept {L : List (Int × Int)} {base : Nat} {v : Value} {w w' : World} (h : SRes L base v w) (hb : ∀ g, base ≤ g → g < w.heap.size → w'.heap[g]? = w.heap[g]?) : SRes L base v w' := by
  obtain ⟨a, cap, rfl, h⟩ := h
  refine ⟨_, _, rfl, ?_⟩
  rcases h with h | ⟨g, n, rfl, hk, hg⟩
  · exact .inl h
  · exact .inr ⟨g, n, rfl, hk.kept (hb g hg hk.lt), hg⟩
theorem SRes.below {L : List (Int × Int)} {base : Nat} {v : Value} {w w' : World} (h : SRes L base v w) (hb : Below w.heap.size w w') : SRes L base v w' := h.kept fun g _ hl => hb.block g hl
theorem SRes.mono {L : List (Int × Int)} {base base' : Nat} {v : Value} {w : World} (h : SRes L base v w) (hb : base' ≤ base) : SRes L base' v w := by
  obtain ⟨a, cap, rfl, h⟩ := h
  refine ⟨_, _, rfl, ?_⟩
  rcases h with h | ⟨g, n, rfl, hk, hg⟩
  · exact .inl h
  · exact .inr ⟨g, n, rfl, hk, by omega⟩

theorem Owns.res {w : World} {base : Nat} {v : Value} {L : List (Int × Int)} (h : Owns w base v L) : SRes L base v w := by
  obtain ⟨_, ⟨rfl, hn⟩ | ⟨g, cap, cur, rfl, hb, hg, hnc, hcm, hcs, htk⟩⟩ := h
  · obtain rfl : L = [] := List.eq_nil_of_length_eq_zero hn
    exact ⟨none, 0, rfl, .inl rfl⟩
  · refine ⟨some ⟨g, 0, none⟩, cap, rfl, .inr ⟨g, cap, rfl, ⟨cur, hg, hcs, hnc, fun i hi => ?_⟩, hb⟩⟩
    obtain ⟨h1, h2⟩ := flat_at L i hi
    rw [← htk, List.getElem?_take] at h1 h2
    rw [if_pos (by omega)] at h1 h2
    exact ⟨by rw [← h1]; simp, by rw [← h2]; simp⟩

theorem Owns.push {w : World} {base : Nat} {v : Value} {L : List (Int × Int)} {x y : Int} (h : w.ownsRow base 73 2 v (L.length + 1) (flat L ++ [.int .i64 x, .int .i64 y])) : Owns w base v (L ++ [(x, y)]) := by
  show w.ownsRow base 73 2 v (L ++ [(x, y)]).length (flat (L ++ [(x, y)]))
  rw [flat_append, List.length_append]
  exact h

theorem two_cells {w : World} {g : Nat} {x y : Value} {C : Array Value} (h : w.heap[g]? = some (.cells C 73 (0, 0))) (hC : C = #[x, y]) :
    ∀ j u, [x, y][j]? = some u → w.cell? ((⟨g, 0, none⟩ : Addr).add j) = some u := by
  subst hC
  intro j u hu
  have hadd : (⟨g, 0, none⟩ : Addr).add j = ⟨g, j, none⟩ := by unfold Addr.add; split <;> simp_all
  rw [hadd, cell_of_row w g j _ _ (0, 0) h]
  match j, hu with
  | 0, hu => exact hu
  | 1, hu => exact hu
theorem two_new (w : World) (A : Obj) (x y : Int) : ∀ j u, [Value.int .i64 x, .int .i64 y][j]? = some u → ((w.alloc A).alloc (.cells #[.int .i64 x, .int .i64 y] 73)).cell? ((⟨w.heap.size + 1, 0, none⟩ : Addr).add j) = some u := by
  have h := heap_alloc_new (w.alloc A) (.cells #[.int .i64 x, .int .i64 y] 73)
  rw [show (w.alloc A).heap.size = w.heap.size + 1 by simp] at h
  exact two_cells h rfl
theorem two_new0 (w : World) (x y : Int) : ∀ j u, [Value.int .i64 x, .int .i64 y][j]? = some u → (w.alloc (.cells #[.int .i64 x, .int .i64 y] 73)).cell? ((⟨w.heap.size, 0, none⟩ : Addr).add j) = some u :=
  two_cells (heap_alloc_new w (.cells #[.int .i64 x, .int .i64 y] 73)) rfl
theorem two_one (x y : Int) : ∀ u ∈ [Value.int .i64 x, .int .i64 y], u.oneCell' = true := by
  intro u hu
  simp at hu
  rcases hu with rfl | rfl <;> rfl

theorem Owns.gone {w wr w1 : World} {B : Nat} {v : Value} {L : List (Int × Int)} {o : Obj} (h : Owns wr B v L) (hb : Below B w wr) (hB : B ≤ wr.heap.size) (hg : (wr.alloc o).grownBy w1 v.ownBlock) : Below B w w1 :=
  (hb.alloc hB o).grown hg (by simp; omega) fun k hk => ((World.ownsRow.lt h) k hk).1

/-- What the loop of spansNot keeps. -/
def NotRel (L : List (Int × Int)) (w : World) (v lo i : Value) (wr : World) : Prop :=
  ∃ (k : Nat) (low : Int) (G : List (Int × Int)), k ≤ L.length ∧ i = .int .i64 (k : Int) ∧ lo = .int .i64 low ∧ 0 ≤ low ∧ low ≤ 10000000 ∧ Wf low (L.drop k) ∧ notL L = G ++ notFrom low (L.drop k) ∧ G.length ≤ k ∧
    Owns wr w.heap.size v G ∧ Below w.heap.size w wr

theorem drop_at {L : List (Int × Int)} {k : Nat} {x y : Int} (h : L[k]? = some (x, y)) : L.drop k = (x, y) :: L.drop (k + 1) := by
  have hk : k < L.length := (List.getElem?_eq_some_iff.1 h).1
  rw [List.drop_eq_getElem_cons hk, (List.getElem?_eq_some_iff.1 h).2]

theorem not_yes {L G : List (Int × Int)} {w wr : World} {v : Value} {k : Nat} {x y low : Int} (hL : L[k]? = some (x, y)) (hw : Wf low (L.drop k)) (h0 : 0 ≤ low) (he : notL L = G ++ notFrom low (L.drop k)) (hn : G.length ≤ k) (hlt : low < x)
    (ho : Owns wr w.heap.size v (G ++ [(low, x - 1)])) (hb : Below w.heap.size w wr) : NotRel L w v (.int .i64 (y + 1)) (.int .i64 ((k : Int) + 1)) wr := by
  have hk : k < L.length := (List.getElem?_eq_some_iff.1 hL).1
  rw [drop_at hL] at hw he
  obtain ⟨h1, h2, h3, h4⟩ := hw
  refine ⟨k + 1, y + 1, _, by omega, by go_num, rfl, by omega, by omega, h4.mono (by omega), ?_, by simp; omega, ho, hb⟩
  rw [he, notFrom, if_pos hlt, List.append_assoc]
  rfl
theorem not_no {L G : List (Int × Int)} {w wr : World} {v : Value} {k : Nat} {x y low : Int} (hL : L[k]? = some (x, y)) (hw : Wf low (L.drop k)) (h0 : 0 ≤ low) (he : notL L = G ++ notFrom low (L.drop k)) (hn : G.length ≤ k) (hlt : ¬ low < x)
    (ho : Owns wr w.heap.size v G) (hb : Below w.heap.size w wr) : NotRel L w v (.int .i64 (y + 1)) (.int .i64 ((k : Int) + 1)) wr := by
  have hk : k < L.length := (List.getElem?_eq_some_iff.1 hL).1
  rw [drop_at hL] at hw he
  obtain ⟨h1, h2, h3, h4⟩ := hw
  refine ⟨k + 1, y + 1, _, by omega, by go_num, rfl, by omega, by omega, h4.mono (by omega), ?_, by omega, ho, hb⟩
  rw [he, notFrom, if_neg hlt]

def SPost (L : List (Int × Int)) (w : World) (e : Ending) (w' : World) : Prop := ∃ v, e = .returned v ∧ SRes L w.heap.size v w' ∧ Below w.heap.size w w'


end Go.Proofs.Ytgnjhmmedogcoaa

/- Rows of spans between two block numbers, and the laws' functions on them: comparing, marking, holding. Marking turns blocks between the two numbers alone. Condition: at most 1048576 spans. -/
namespace Go.Proofs.Ytgnjhmmedogcoaa
open Go.RowKit Go.Sort

/-- A slice value whose spans are L, in a row between two block numbers. -/
def SB (L : List (Int × Int)) (lo hi : Nat) (v : Value) (w : World) : Prop :=
  ∃ a cap, v = .slice a L.length cap ∧ (L = [] ∨ ∃ g n, a = some ⟨g, 0, none⟩ ∧ SpBlk w g n L ∧ lo ≤ g ∧ g < hi)

theorem SRes.sb {L : List (Int × Int)} {base : Nat} {v : Value} {w : World} (h : SRes L base v w) : SB L base w.heap.size v w := by
  obtain ⟨a, cap, rfl, h⟩ := h
  refine ⟨_, _, rfl, ?_⟩
  rcases h with h | ⟨g, n, rfl, hk, hg⟩
  · exact .inl h
  · exact .inr ⟨g, n, rfl, hk, hg, hk.lt⟩
theorem blk_sb {L : List (Int × Int)} {g base cap n : Nat} {w : World} (hb : SpBlk w g n L) (hg : base ≤ g) : SB L base w.heap.size (.slice (some ⟨g, 0, none⟩) L.length cap) w :=
  ⟨_, _, rfl, .inr ⟨g, n, rfl, hb, hg, hb.lt⟩⟩
theorem SB.kept {L : List (Int × Int)} {lo hi : Nat} {v : Value} {w w' : World} (h : SB L lo hi v w) (hb : ∀ g, lo ≤ g → g < hi → g < w.heap.size → w'.heap[g]? = w.heap[g]?) : SB L lo hi v w' := by
  obtain ⟨a, cap, rfl, h⟩ := h
  refine ⟨_, _, rfl, ?_⟩
  rcases h with h | ⟨g, n, rfl, hk, h1, h2⟩
  · exact .inl h
  · exact .inr ⟨g, n, rfl, hk.kept (hb g h1 h2 hk.lt), h1, h2⟩
theorem SB.below {L : List (Int × Int)} {lo hi : Nat} {v : Value} {w w' : World} (h : SB L lo hi v w) (hb : Below w.heap.size w w') : SB L lo hi v w' := h.kept fun g _ _ hl => hb.block g hl
theorem SB.at {L : List (Int × Int)} {lo hi : Nat} {v : Value} {w : World} (h : SB L lo hi v w) : SpAt w w.heap.size v L := by
  obtain ⟨a, cap, rfl, h⟩ := h
  rcases h with rfl | ⟨g, n, rfl, hk, _, _⟩
  · exact ⟨_, _, rfl, .inl rfl⟩
  · exact hk.at hk.lt

/-- Nothing has changed but new blocks and those between two numbers. -/
structure Out (lo hi : Nat) (w w' : World) : Prop where
  os : w'.os = w.os
  tape : w'.tape = w.tape
  output : w'.output = w.output
  size : w.heap.size ≤ w'.heap.size
  block : ∀ k, k < w.heap.size → (k < lo ∨ hi ≤ k) → w'.heap[k]? = w.heap[k]?
theorem Out.cell {lo hi : Nat} {w w' : World} (h : Out lo hi w w') {b o : Nat} {v : Value} (hc : w.cell? ⟨b, o, none⟩ = some v) (hb : b < lo ∨ hi ≤ b) : w'.cell? ⟨b, o, none⟩ = some v :=
  (World.cell?_of_block (a := ⟨b, o, none⟩) (h.block b (World.block_lt_of_cell? w _ hc) hb)).trans hc
theorem Out.below {lo hi B : Nat} {w0 w w' : World} (h : Out lo hi w w') (hb : Below B w0 w) (hB : B ≤ lo) (hB2 : B ≤ w.heap.size) : Below B w0 w' :=
  ⟨h.os.trans hb.os, h.tape.trans hb.tape, h.output.trans hb.output, Nat.le_trans hb.size h.size, fun k hk => (h.block k (by omega) (.inl (by omega))).trans (hb.block k hk)⟩
theorem SB.out {L : List (Int × Int)} {lo hi lo' hi' : Nat} {v : Value} {w w' : World} (h : SB L lo hi v w) (ho : Out lo' hi' w w') (hd : hi ≤ lo' ∨ hi' ≤ lo) : SB L lo hi v w' :=
  h.kept fun g h1 h2 hl => ho.block g hl (by omega)

theorem eqSB {L M : List (Int × Int)} {lo hi lo' hi' : Nat} {u v : Value} {w : World} (hl : L.length ≤ 1048576) (hm : M.length ≤ 1048576) (h : SB L lo hi u w) (h' : SB M lo' hi' v w) :
    Calls Try.prog 94 #[.agg #[u], .agg #[v]] w fun e w' => e = .returned (.bool (decide (L = M))) ∧ Below w.heap.size w w' := by
  have k := h.at
  have k' := h'.at
  obtain ⟨a, cap, rfl, _⟩ := h
  obtain ⟨a', cap', rfl, _⟩ := h'
  exact eqRange_any a a' cap cap' L M w hl hm k k'
theorem sameSB {L : List (Int × Int)} {lo hi lo' hi' : Nat} {u v : Value} {w : World} (hl : L.length ≤ 1048576) (h : SB L lo hi u w) (h' : SB L lo' hi' v w) :
    Calls Try.prog 94 #[.agg #[u], .agg #[v]] w fun e w' => e = .returned (.bool true) ∧ Below w.heap.size w w' := by
  have := eqSB hl hl h h'
  rwa [decide_eq_true rfl] at this

set_option maxHeartbeats 400000 in
theorem markSpanS_nil (a : Option Addr) (cap : Nat) (k : Int) (w : World) : Calls Try.prog 63 #[.slice a 0 cap, .int .i64 k] w fun e w' => e = .returned (.int .i64 k) ∧ w = w' := by
  go_enter Try.func63, Try.ntmps63
  go_wp2
  go_loop [1, 5] (fun s1 i => i = .int .i64 0 ∧ s1 = .int .i64 k) (fun _ _ => 0)
  case atStart => exact ⟨rfl, rfl⟩
  case round =>
    obtain ⟨rfl, rfl⟩ := hrel
    go_wp2_with fail
    go_ret
    exact ⟨rfl, rfl⟩

end Go.Proofs.Ytgnjhmmedogcoaa

/- Steps from world to world where nothing below the size of the first has changed: for rows and for what a call leaves. -/
namespace Go.Proofs.Ytgnjhmmedogcoaa
open Go.RowKit Go.Sort

theorem Below.step {c V wx : World} (h : Below c.heap.size c V) (hb : Below V.heap.size V wx) : Below c.heap.size c wx := h.trans (hb.mono h.size)
theorem Below.step2 {w c V : World} (h0 : Below w.heap.size w c) (h : Below c.heap.size c V) : Below w.heap.size w V := h0.trans (h.mono h0.size)
theorem SB.step {L : List (Int × Int)} {lo hi : Nat} {u : Value} {wy V wx : World} (r : SB L lo hi u wy) (h : Below wy.heap.size wy V) (hb : Below V.heap.size V wx) : SB L lo hi u wx := (r.below h).below hb
theorem SB.stepAt {L : List (Int × Int)} {lo hi : Nat} {u : Value} {wy V : World} (r : SB L lo hi u wy) (h : Below wy.heap.size wy V) : SpAt V V.heap.size u L := (r.below h).at

theorem SRes.after {L : List (Int × Int)} {base c : Nat} {v : Value} {wz W : World} (q : SRes L base v wz) (hb : Below wz.heap.size wz W) (hc : c ≤ base) : SB L c W.heap.size v W := ((q.below hb).mono hc).sb
theorem SRes.after2 {L : List (Int × Int)} {base c g o : Nat} {u v : Value} {wz : World} (q : SRes L base v wz) (hg : g < base) (hc : c ≤ base) : SB L c (wz.setCell ⟨g, o, none⟩ u).heap.size v (wz.setCell ⟨g, o, none⟩ u) :=
  ((q.kept fun g' h1 _ => Below.heap_setCell _ _ _ _ (by show g' ≠ g; omega)).mono hc).sb
theorem bcell {W w1 : World} (hb : Below W.heap.size W w1) : (∀ b o, b < W.heap.size → w1.cell? ⟨b, o, none⟩ = W.cell? ⟨b, o, none⟩) ∧ (∀ b o, b < W.heap.size → w1.frozen? ⟨b, o, none⟩ = W.frozen? ⟨b, o, none⟩) :=
  ⟨fun b o h => hb.cell (p := ⟨b, o, none⟩) h, fun b o h => hb.frozen (p := ⟨b, o, none⟩) h⟩

end Go.Proofs.Ytgnjhmmedogcoaa

/- The law's function that copies a row of whole numbers, and a row of numbers that comes in by value, over this seat's translation. Condition: at most 1048576 numbers. -/
import Derived.Test.YtopplljilmjjgaaIn
import Derived.Test.YtopplljilmjjgaaGg
namespace Go.Proofs.Ytopplljilmjjgaa
open Go.ChangeShapes Go.WideShapes Go.ChangeAt Go.RowKit Go.Sort Go.Joins Go.Deep

theorem InAt.stepAt {N : List Int} {u : Value} {w V : World} (h : InAt w w.heap.size u N) (hb : Below w.heap.size w V) : InAt V V.heap.size u N := (h.below hb).mono hb.size
theorem InBlk.below {w w' : World} {g n : Nat} {N : List Int} (h : InBlk w g n N) (hb : Below w.heap.size w w') : InBlk w' g n N := h.kept (hb.block _ h.lt)
theorem InBlk.push {w : World} {g n : Nat} {N : List Int} (h : InBlk w g n N) (hk : N.length < n) (x : Int) : InBlk (w.setCell ⟨g, N.length, none⟩ (.int .i64 x)) g n (N ++ [x]) := by
  obtain ⟨C, h, hs, hl, hc⟩ := h
  refine ⟨C.setIfInBounds N.length (.int .i64 x), ?_, by simpa using hs, by simp; omega, fun i hi => ?_⟩
  · simp [World.setCell, Array.getElem?_modify, h]
  · simp only [List.length_append, List.length_cons, List.length_nil] at hi
    by_cases e : i < N.length
    · rw [List.getElem_append_left e, Array.getElem?_setIfInBounds_ne (by omega)]
      exact hc i e
    · obtain rfl : i = N.length := by omega
      rw [List.getElem_append_right (Nat.le_refl _), Array.getElem?_setIfInBounds_self_of_lt (by omega)]
      simp

/-- 'make([]int, n)'. -/
theorem make_ints (n : Nat) (hn : n ≤ 1048576) (V : World) :
    (Instr.makeSlice 43 (.int .i64 (n : Int)) (.int .i64 (n : Int))).run Try.prog V = .ok (.slice (some ⟨V.heap.size, 0, none⟩) n n) (V.alloc (.cells (madeCells #[.int .i64 0] (n * 1)) 3)) := by
  obtain ⟨i0, hi, hz0, hz1, hz2⟩ := info_parts infoInt
  have h := run_make (P := Try.prog) V 43 3 i0 _ Try.underlying43 hi hz0 .i64 .i64 (n : Int) (n : Int) (by omega) (Int.le_refl _) (by rw [hz2]; omega) (by omega)
  rw [hz1] at h
  simpa [Value.cells] using h
theorem made_ints (n : Nat) (V : World) : InBlk (V.alloc (.cells (madeCells #[.int .i64 0] (n * 1)) 3)) V.heap.size n [] :=
  ⟨_, heap_alloc_new V _, by rw [size_madeCells]; omega, Nat.zero_le _, fun i hi => absurd hi (by simp)⟩

def IToRel (L : List Int) (w : World) (g : Nat) (i : Value) (wr : World) : Prop :=
  ∃ k : Nat, k ≤ L.length ∧ i = .int .i64 (k : Int) ∧ InBlk wr g L.length (L.take k) ∧ Below w.heap.size w wr
theorem ito_push {L : List Int} {w wr : World} {k : Nat} {x : Int} (hxy : L[k]? = some x) (hk : k < L.length) (hblk : InBlk wr w.heap.size L.length (L.take k)) (hb : Below w.heap.size w wr) :
    IToRel L w w.heap.size (.int .i64 ((k : Int) + 1)) (wr.setCell ⟨w.heap.size, k, none⟩ (.int .i64 x)) := by
  have hl : (L.take k).length = k := by simp; omega
  have h := hblk.push (by omega) x
  rw [hl] at h
  refine ⟨k + 1, by omega, by go_num, ?_, hb.setCell (by simp) _⟩
  rw [List.take_add_one, hxy]
  exact h

set_option maxRecDepth 100000 in
set_option maxHeartbeats 2000000 in
theorem toIntS_ib (v : Value) (L : List Int) (w : World) (h : InAt w w.heap.size v L) (hl : L.length ≤ 1048576) :
    Calls Try.prog 129 #[v] w fun e w' => ∃ a c, e = .returned (.slice a L.length c) ∧ IB L w.heap.size w'.heap.size (.slice a L.length c) w' ∧ Below w.heap.size w w' := by
  obtain ⟨a, cap, rfl, h⟩ := h
  have hmk := make_ints L.length hl
  go_enter Try.func129, Try.ntmps129
  go_wp2
  clear hmk
  go_loopw [4] (fun i wr => IToRel L w w.heap.size i wr) (fun i _ => L.length - (intOf i).toNat)
  case atStart => exact ⟨0, Nat.zero_le _, rfl, by rw [List.take_zero]; have := made_ints L.length w; simpa using this, by first | exact (Below.refl _ _).alloc (Nat.le_refl _) _ | go_grown⟩
  case round =>
    obtain ⟨k, hk, rfl, hblk, hb⟩ := hrel
    by_cases hlt : k < L.length
    · rcases h with h | ⟨b, o, rfl, hB, hc⟩
      · subst h
        exact absurd hlt (by simp)
      obtain ⟨x, hxy⟩ : ∃ x, L[k] = x := ⟨_, rfl⟩
      have e0 := (hb.cell (p := ⟨b, o + k, none⟩) hB).trans (hc k hlt)
      rw [hxy] at e0
      have HXY := Lib.hid (show L[k]? = some x by rw [List.getElem?_eq_getElem hlt, hxy])
      clear hxy hc
      have hg := hblk.lt
      obtain ⟨⟨p0, hp0⟩, f0⟩ := hblk.place hlt
      have HP := Lib.hid (ito_push HXY.out hlt hblk hb)
      clear hb hblk
      have i0 : (0 : Int) ≤ (k : Int) := by omega
      have i1 : (k : Int) < (L.length : Int) := by omega
      go_wp2_with fail
      go_roundw
      case rel => exact HP.out
      case measure => simp [intOf]; omega
    · obtain rfl : k = L.length := by omega
      rw [List.take_length] at hblk
      go_wp2_with fail
      go_ret
      exact ⟨_, _, rfl, ⟨_, _, rfl, .inr ⟨_, _, rfl, hblk, Nat.le_refl _, hblk.lt⟩⟩, hb⟩

namespace Itn
theorem int_cells : Try.prog.cellsOf 3 = 1 := by kernel_rfl
set_option maxRecDepth 100000 in
theorem open_ints_trod {H : Type} {enc : TypeId × Value → H} {w : World} {held : Bool} {fuel : Nat} {cs : List Value} {x : DataW H × List MemPlace} (h : DataW.trod enc Try.prog w 0 (fun _ => true) held fuel 43 cs = some x) :
    ∃ a cap L, cs = [.slice a L.length cap] ∧ InAt w w.heap.size (.slice a L.length cap) L ∧ L.length ≤ maxLen := by
  rcases open_slice Try.underlying43 h with ⟨hcs, _⟩ | ⟨a, len, cap, m, k, D, Pl, hcs, _, hl, hm, hmm, _, hel⟩
  · subst hcs
    exact ⟨none, 0, [], rfl, ⟨_, _, rfl, .inl rfl⟩, Nat.zero_le _⟩
  · subst hcs
    simp at hmm
    subst hmm
    rw [int_cells] at hel
    obtain ⟨X, hlen, hX⟩ := Pks.choose_row (α := Int) (p := fun i q => w.cell? (a.add (i * 1)) = some (.int .i64 q)) (fun i (hi : i < len) => by
      obtain ⟨cs', h1, h2⟩ := hel i (by omega)
      obtain ⟨q, e, _, _⟩ := DataW.trod_int Try.underlying3 h2
      subst e
      obtain ⟨_, _, h3⟩ := World.cells?_some h1
      have e0 := h3 0 (by omega)
      rw [Pks.add_none] at e0
      exact ⟨q, e0⟩)
    subst hlen
    refine ⟨some a, m, X, rfl, ?_, by omega⟩
    by_cases hz : X.length = 0
    · exact ⟨_, _, rfl, .inl (List.length_eq_zero_iff.1 hz)⟩
    · have c0 := hX 0 (by omega)
      obtain ⟨b, o, spot⟩ := a
      rw [Nat.zero_mul, Pks.add_none] at c0
      have hspot : spot = none := by simpa using World.cell?_spot c0
      subst hspot
      refine ⟨_, _, rfl, .inr ⟨b, o, rfl, ?_, fun i hi => ?_⟩⟩
      · have := World.block_lt_of_cell? w _ c0
        simpa using this
      · have e0 := hX i hi
        rw [Pks.plain_add, Nat.mul_one] at e0
        exact e0
end Itn
set_option maxRecDepth 100000 in
theorem open_ints {H : Type} {enc : TypeId × Value → H} {w : World} {held : Bool} {b0 : Nat} {v : Value} {d : DataW H} {p : List MemPlace} (hv : Value.okWide Try.prog w .any b0 43 v)
    (h : DataW.Trod enc Try.prog w 0 (fun _ => true) held 43 v d p) : ∃ a cap L, v = .slice a L.length cap ∧ InAt w w.heap.size (.slice a L.length cap) L ∧ L.length ≤ maxLen := by
  obtain ⟨a0, len0, cap0, rfl⟩ := okWide_slice Try.underlying43 hv
  obtain ⟨fuel, hf⟩ := h
  obtain ⟨a, cap, L, hc, hs, hm⟩ := Itn.open_ints_trod hf
  simp [Value.cells] at hc
  obtain ⟨rfl, rfl, rfl⟩ := hc
  exact ⟨_, _, L, rfl, hs, hm⟩
end Go.Proofs.Ytopplljilmjjgaa

/- Contracts of the laws' functions that copy rows of spans, over this seat's translation: the copy is a new row with the same spans; nothing that was there before the call has changed. Condition: at most 1048576 spans. -/
import Derived.Test.YtdjnfmekbjmdhaaSp
namespace Go.Proofs.Ytdjnfmekbjmdhaa
open Go.RowKit Go.Sort

abbrev span (a b : Int) : Value := .agg #[.int .i64 a, .int .i64 b]

set_option maxHeartbeats 400000 in
theorem toSpan_any (a b : Int) (w : World) : Calls Try.prog 127 #[span a b] w fun e w' => e = .returned (span a b) ∧ Below w.heap.size w w' := by
  go_enter Try.func127, Try.ntmps127
  go_wp2
  exact bodyPost_ret (v := span a b) (by simp [results, Try.results127, go_sem]) rfl ⟨rfl, (((Below.refl _ _).alloc (Nat.le_refl _) _).alloc (by simp) _).alloc (by simp; omega) _⟩

theorem infoSpan : (Try.prog.info? 128).map (fun i => (i.zero, i.size, i.bytes)) = some (some (.agg #[.int .i64 0, .int .i64 0]), 2, 16) := by kernel_rfl

/-- 'make([]impl.Span, n)'. -/
theorem make_spans (n : Nat) (hn : n ≤ 1048576) (V : World) :
    (Instr.makeSlice 93 (.int .i64 (n : Int)) (.int .i64 (n : Int))).run Try.prog V = .ok (.slice (some ⟨V.heap.size, 0, none⟩) n n) (V.alloc (.cells (madeCells #[.int .i64 0, .int .i64 0] (n * 2)) 128)) := by
  obtain ⟨i0, hi, hz0, hz1, hz2⟩ := info_parts infoSpan
  have h := run_make (P := Try.prog) V 93 128 i0 _ Try.underlying93 hi hz0 .i64 .i64 (n : Int) (n : Int) (by omega) (Int.le_refl _) (by rw [hz2]; omega) (by omega)
  rw [hz1] at h
  simpa [Value.cells] using h

theorem made_spans (n : Nat) (V : World) : SpBlk (V.alloc (.cells (madeCells #[.int .i64 0, .int .i64 0] (n * 2)) 128)) V.heap.size n [] :=
  ⟨_, heap_alloc_new V _, size_madeCells _ _, Nat.zero_le _, fun i hi => absurd hi (by simp)⟩

/-- What the loop of toSpanS keeps: the first k spans are copied. -/
def ToRel (L : List (Int × Int)) (w : World) (g : Nat) (i : Value) (wr : World) : Prop :=
  ∃ k : Nat, k ≤ L.length ∧ i = .int .i64 (k : Int) ∧ SpBlk wr g L.length (L.take k) ∧ Below w.heap.size w wr

theorem to_push {L : List (Int × Int)} {w wr : World} {k : Nat} {x y : Int} (hxy : L[k]? = some (x, y)) (hk : k < L.length) (hblk : SpBlk wr w.heap.size L.length (L.take k)) (hb : Below w.heap.size w wr) :
    ToRel L w w.heap.size (.int .i64 ((k : Int) + 1)) ((wr.setCell ⟨w.heap.size, k * 2, none⟩ (.int .i64 x)).setCell ⟨w.heap.size, k * 2 + 1, none⟩ (.int .i64 y)) := by
  have hl : (L.take k).length = k := by simp; omega
  have h := hblk.push (by omega) x y
  rw [hl] at h
  refine ⟨k + 1, by omega, by go_num, ?_, (hb.setCell (by simp) _).setCell (by simp) _⟩
  rw [List.take_add_one, hxy]
  exact h

def ToPost (L : List (Int × Int)) (w : World) (e : Ending) (w' : World) : Prop :=
  ∃ g, e = .returned (.slice (some ⟨g, 0, none⟩) L.length L.length) ∧ SpBlk w' g L.length L ∧ w.heap.size ≤ g ∧ Below w.heap.size w w'

set_option maxHeartbeats 1000000 in
theorem toSpanS_any (v : Value) (L : List (Int × Int)) (w : World) (h : SpAt w w.heap.size v L) (hl : L.length ≤ 1048576) : Calls Try.prog 121 #[v] w (ToPost L w) := by
  obtain ⟨a, cap, rfl, h⟩ := h
  have hmk := make_spans L.length hl
  go_enter Try.func121, Try.ntmps121
  go_wp2
  clear hmk
  go_loopw [4] (fun i wr => ToRel L w w.heap.size i wr) (fun i _ => L.length - (intOf i).toNat)
  case atStart => exact ⟨0, Nat.zero_le _, rfl, by rw [List.take_zero]; exact made_spans _ _, (Below.refl _ _).alloc (Nat.le_refl _) _⟩
  case round =>
    obtain ⟨k, hk, rfl, hblk, hb⟩ := hrel
    by_cases hlt : k < L.length
    · rcases h with h | ⟨b, o, rfl, hB, hc⟩
      · subst h
        exact absurd hlt (by simp)
      have c := hc k hlt
      obtain ⟨c0, c1⟩ := c
      have e0 := (hb.cell (p := ⟨b, o + k * 2, none⟩) hB).trans c0
      have e1 := (hb.cell (p := ⟨b, o + k * 2 + 1, none⟩) hB).trans c1
      clear hc c0 c1
      obtain ⟨x, y, hxy⟩ : ∃ x y, L[k] = (x, y) := ⟨_, _, rfl⟩
      rw [hxy] at e0 e1
      simp only at e0 e1
      have HXY := Lib.hid (show L[k]? = some (x, y) by rw [List.getElem?_eq_getElem hlt, hxy])
      clear hxy
      have pl := hblk.place hlt
      obtain ⟨⟨p0, hp0⟩, ⟨p1, hp1⟩, f0, f1⟩ := pl
      have hg := hblk.lt
      go_wp2_with fail
      refine (toSpan_any x y wr).mono ?_
      rintro e w2 ⟨rfl, hb2⟩
      have blk2 := hblk.kept (hb2.block _ hg)
      have bel2 := hb.trans (hb2.mono hb.size)
      have pl := blk2.place hlt
      obtain ⟨⟨q0, hq0⟩, ⟨q1, hq1⟩, g0, g1⟩ := pl
      have HP := Lib.hid (to_push HXY.out hlt blk2 bel2)
      clear hblk hb hb2 hp0 hp1 f0 f1 e0 e1 blk2 bel2
      go_wp2_with fail
      go_roundw
      case rel => exact HP.out
      case measure => simp [intOf]; omega
    · obtain rfl : k = L.length := by omega
      rw [List.take_length] at hblk
      go_wp2_with fail
      go_ret
      exact ⟨w.heap.size, rfl, hblk, Nat.le_refl _, hb⟩

end Go.Proofs.Ytdjnfmekbjmdhaa

/- Contracts of the laws' functions that copy and measure rows of picks, over this seat's translation: the copy is a new row with the same picks; nothing that was there before the call has changed. Condition: at most 1048576 picks. -/
import Derived.Test.YtdjnfmekbjmdhaaPk
import Derived.Test.YtdjnfmekbjmdhaaVexact
import Derived.BigQuiet
import Derived.Handy
namespace Go.Proofs.Ytdjnfmekbjmdhaa
open Go.RowKit Go.Sort

set_option maxRecDepth 100000 in
set_option maxHeartbeats 2000000 in
theorem toPick_any (n a b c d : Int) (w : World) : Calls Try.prog 82 #[pick n a b c d] w fun e w' => e = .returned (pick n a b c d) ∧ Below w.heap.size w w' := by
  go_enter Try.func82, Try.ntmps82
  go_wp2_with fail
  refine (toVersion_any a b c d _).mono ?_
  rintro e w1 ⟨rfl, hb1⟩
  have b1 : Below w.heap.size w w1 := (show Below w.heap.size w _ from by go_grown).trans (hb1.mono (by simp; omega))
  have s1 : w.heap.size + 1 + 1 + 1 ≤ w1.heap.size := by have := hb1.size; simp at this; omega
  obtain ⟨hc, hf⟩ : (∀ b o, b < w.heap.size + 1 + 1 + 1 → w1.cell? ⟨b, o, none⟩ = _) ∧ (∀ b o, b < w.heap.size + 1 + 1 + 1 → w1.frozen? ⟨b, o, none⟩ = _) :=
    ⟨fun b o hbo => hb1.cell (p := ⟨b, o, none⟩) (by simp; omega), fun b o hbo => hb1.frozen (p := ⟨b, o, none⟩) (by simp; omega)⟩
  clear hb1
  go_wp2_with fail
  exact bodyPost_ret (v := pick n a b c d) (by simp [results, Try.results82, go_sem, hc]) rfl ⟨rfl, by go_grown⟩

theorem infoPick : (Try.prog.info? 106).map (fun i => (i.zero, i.size, i.bytes)) = some (some (.agg #[.int .i64 0, .int .i64 0, .int .i64 0, .int .i64 0, .int .i64 0]), 5, 40) := by kernel_rfl

/-- 'make([]impl.Pick, n)'. -/
theorem make_picks (n : Nat) (hn : n ≤ 1048576) (V : World) :
    (Instr.makeSlice 60 (.int .i64 (n : Int)) (.int .i64 (n : Int))).run Try.prog V = .ok (.slice (some ⟨V.heap.size, 0, none⟩) n n) (V.alloc (.cells (madeCells #[.int .i64 0, .int .i64 0, .int .i64 0, .int .i64 0, .int .i64 0] (n * 5)) 106)) := by
  obtain ⟨i0, hi, hz0, hz1, hz2⟩ := info_parts infoPick
  have h := run_make (P := Try.prog) V 60 106 i0 _ Try.underlying60 hi hz0 .i64 .i64 (n : Int) (n : Int) (by omega) (Int.le_refl _) (by rw [hz2]; omega) (by omega)
  rw [hz1] at h
  simpa [Value.cells] using h

theorem made_picks (n : Nat) (V : World) : PkBlk (V.alloc (.cells (madeCells #[.int .i64 0, .int .i64 0, .int .i64 0, .int .i64 0, .int .i64 0] (n * 5)) 106)) V.heap.size n [] :=
  ⟨_, heap_alloc_new V _, size_madeCells _ _, Nat.zero_le _, fun i hi => absurd hi (by simp)⟩

/-- What the loop of toPickS keeps: the first k picks are copied. -/
def PToRel (L : List Pk) (w : World) (g : Nat) (i : Value) (wr : World) : Prop :=
  ∃ k : Nat, k ≤ L.length ∧ i = .int .i64 (k : Int) ∧ PkBlk wr g L.length (L.take k) ∧ Below w.heap.size w wr

theorem pto_push {L : List Pk} {w wr : World} {k : Nat} {x a1 b1 c1 d1 : Int} (hxy : L[k]? = some (x, a1, b1, c1, d1)) (hk : k < L.length) (hblk : PkBlk wr w.heap.size L.length (L.take k)) (hb : Below w.heap.size w wr) :
    PToRel L w w.heap.size (.int .i64 ((k : Int) + 1)) (((((wr.setCell ⟨w.heap.size, k * 5, none⟩ (.int .i64 x)).setCell ⟨w.heap.size, k * 5 + 1, none⟩ (.int .i64 a1)).setCell ⟨w.heap.size, k * 5 + 2, none⟩ (.int .i64 b1)).setCell ⟨w.heap.size, k * 5 + 3, none⟩ (.int .i64 c1)).setCell ⟨w.heap.size, k * 5 + 4, none⟩ (.int .i64 d1)) := by
  have hl : (L.take k).length = k := by simp; omega
  have h := hblk.push (by omega) x a1 b1 c1 d1
  rw [hl] at h
  refine ⟨k + 1, by omega, by go_num, ?_, ((((hb.setCell (by simp) _).setCell (by simp) _).setCell (by simp) _).setCell (by simp) _).setCell (by simp) _⟩
  rw [List.take_add_one, hxy]
  exact h

def PToPost (L : List Pk) (w : World) (e : Ending) (w' : World) : Prop :=
  ∃ g, e = .returned (.slice (some ⟨g, 0, none⟩) L.length L.length) ∧ PkBlk w' g L.length L ∧ w.heap.size ≤ g ∧ Below w.heap.size w w'

set_option maxRecDepth 100000 in
set_option maxHeartbeats 2000000 in
theorem toPickS_any (v : Value) (L : List Pk) (w : World) (h : PkAt w w.heap.size v L) (hl : L.length ≤ 1048576) : Calls Try.prog 42 #[v] w (PToPost L w) := by
  obtain ⟨a, cap, rfl, h⟩ := h
  have hmk := make_picks L.length hl
  go_enter Try.func42, Try.ntmps42
  go_wp2
  clear hmk
  go_loopw [4] (fun i wr => PToRel L w w.heap.size i wr) (fun i _ => L.length - (intOf i).toNat)
  case atStart => exact ⟨0, Nat.zero_le _, rfl, by rw [List.take_zero]; exact made_picks _ _, (Below.refl _ _).alloc (Nat.le_refl _) _⟩
  case round =>
    obtain ⟨k, hk, rfl, hblk, hb⟩ := hrel
    by_cases hlt : k < L.length
    · rcases h with h | ⟨b, o, rfl, hB, hc⟩
      · subst h
        exact absurd hlt (by simp)
      obtain ⟨x, a1, b1, c1, d1, hxy⟩ : ∃ x a1 b1 c1 d1, L[k] = (x, a1, b1, c1, d1) := ⟨_, _, _, _, _, rfl⟩
      have c := (hc k hlt).below hb hB
      rw [hxy] at c
      obtain ⟨e0, e1, e2, e3, e4⟩ := c
      simp only at e0 e1 e2 e3 e4
      have HXY := Lib.hid (show L[k]? = some (x, a1, b1, c1, d1) by rw [List.getElem?_eq_getElem hlt, hxy])
      clear hxy hc
      have HB := Lib.hid hblk
      have hg := hblk.lt
      clear hblk
      go_wp2_with fail
      refine (toPick_any x a1 b1 c1 d1 wr).mono ?_
      rintro e w2 ⟨rfl, hb2⟩
      have blk2 := HB.out.below hb2
      have bel2 := hb.trans (hb2.mono hb.size)
      have pl := blk2.place hlt
      obtain ⟨⟨p0, hp0⟩, ⟨p1, hp1⟩, ⟨p2, hp2⟩, ⟨p3, hp3⟩, ⟨p4, hp4⟩, f0, f1, f2, f3, f4⟩ := pl
      have HP := Lib.hid (pto_push HXY.out hlt blk2 bel2)
      clear hb hb2 e0 e1 e2 e3 e4 blk2 bel2
      go_wp2_with fail
      go_roundw
      case rel => exact HP.out
      case measure => simp [intOf]; omega
    · obtain rfl : k = L.length := by omega
      rw [List.take_length] at hblk
      go_wp2_with fail
      go_ret
      exact ⟨w.heap.size, rfl, hblk, Nat.le_refl _, hb⟩

/-- What is left of a measure behind a number of picks, or -1. -/
def pleft (left : Int) (n : Nat) : Int := if left < (n : Int) then -1 else left - (n : Int)

set_option maxHeartbeats 1000000 in
theorem szPickS_any (v : Value) (L : List Pk) (left : Int) (w : World) (h0 : 0 ≤ left) (h1 : left ≤ 1048576) (hl : L.length ≤ maxLen) (h : PkAt w w.heap.size v L) :
    Calls Try.prog 40 #[v, .int .i64 left] w fun e w' => e = .returned (.int .i64 (pleft left L.length)) ∧ Below w.heap.size w w' := by
  obtain ⟨a, cap, rfl, h⟩ := h
  unfold maxLen at hl
  unfold pleft
  by_cases hs : left < (L.length : Int)
  · rw [if_pos hs]
    clear h
    go_enter Try.func40, Try.ntmps40
    go_wp2_with fail
    go_ret
    exact ⟨rfl, Below.refl _ _⟩
  · rw [if_neg hs]
    have hn : ¬ left - (L.length : Int) < 0 := by omega
    clear h
    go_enter Try.func40, Try.ntmps40
    go_wp2_with fail
    go_ret
    exact ⟨rfl, Below.refl _ _⟩

end Go.Proofs.Ytdjnfmekbjmdhaa

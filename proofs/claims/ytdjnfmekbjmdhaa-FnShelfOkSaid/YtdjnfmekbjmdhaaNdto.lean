/- Contracts of the laws' functions that copy needs, over this seat's translation: the copy is a new row with the same needs; nothing that was there before the call has changed. Condition: at most 1048576 needs, and spans of each. -/
import Derived.Test.YtdjnfmekbjmdhaaNd
namespace Go.Proofs.Ytdjnfmekbjmdhaa
open Go.RowKit Go.Sort

def NeedPost (x : Int) (L : List (Int × Int)) (w : World) (e : Ending) (w' : World) : Prop :=
  ∃ g, e = .returned (need x (.slice (some ⟨g, 0, none⟩) L.length L.length)) ∧ SpBlk w' g L.length L ∧ w.heap.size ≤ g ∧ Below w.heap.size w w'

set_option maxRecDepth 100000 in
set_option maxHeartbeats 1000000 in
theorem toNeed_any (x : Int) (v : Value) (L : List (Int × Int)) (w : World) (h : SpAt w w.heap.size v L) (hl : L.length ≤ 1048576) : Calls Try.prog 74 #[need x v] w (NeedPost x L w) := by
  have h' := h
  obtain ⟨a, cap, rfl, _⟩ := h'
  have H := Lib.hid h
  clear h
  go_enter Try.func74, Try.ntmps74
  go_wp2_with fail
  refine (toRange_any _ L _ (H.out.stepAt (by go_grown)) hl).mono ?_
  rintro e w1 ⟨g, rfl, hblk, hg, hb1⟩
  have b1 : Below w.heap.size w w1 := Below.step (by go_grown) hb1
  obtain ⟨hc, hf⟩ : (∀ b o, b < w.heap.size + 1 + 1 + 1 → w1.cell? ⟨b, o, none⟩ = _) ∧ (∀ b o, b < w.heap.size + 1 + 1 + 1 → w1.frozen? ⟨b, o, none⟩ = _) :=
    ⟨fun b o hbo => hb1.cell (p := ⟨b, o, none⟩) (by simpa using hbo), fun b o hbo => hb1.frozen (p := ⟨b, o, none⟩) (by simpa using hbo)⟩
  have hg' : w.heap.size + 3 ≤ g := by simp at hg; omega
  clear hb1 H hg
  go_wp2_with fail
  exact bodyPost_ret (v := need x (.slice (some ⟨g, 0, none⟩) L.length L.length)) (by simp [results, Try.results74, go_sem, hc]) rfl
    ⟨g, rfl, hblk.kept (by repeat (first | rfl | exact (Below.heap_setCell _ _ _ _ (by simp; omega)) | refine (Below.heap_setCell _ _ _ _ (by simp; omega)).trans ?_)), by omega, by go_grown⟩

theorem infoNeed : (Try.prog.info? 97).map (fun i => (i.zero, i.size, i.bytes)) = some (some (.agg #[.int .i64 0, .slice none 0 0]), 2, 32) := by kernel_rfl

/-- 'make([]impl.Need, n)'. -/
theorem make_needs (n : Nat) (hn : n ≤ 1048576) (V : World) :
    (Instr.makeSlice 39 (.int .i64 (n : Int)) (.int .i64 (n : Int))).run Try.prog V = .ok (.slice (some ⟨V.heap.size, 0, none⟩) n n) (V.alloc (.cells (madeCells #[.int .i64 0, .slice none 0 0] (n * 2)) 97)) := by
  obtain ⟨i0, hi, hz0, hz1, hz2⟩ := info_parts infoNeed
  have h := run_make (P := Try.prog) V 39 97 i0 _ Try.underlying39 hi hz0 .i64 .i64 (n : Int) (n : Int) (by omega) (Int.le_refl _) (by rw [hz2]; omega) (by omega)
  rw [hz1] at h
  simpa [Value.cells] using h

theorem made_needs (n : Nat) (V : World) : NdBlk (V.alloc (.cells (madeCells #[.int .i64 0, .slice none 0 0] (n * 2)) 97)) V.heap.size n [] :=
  ⟨_, heap_alloc_new V _, size_madeCells _ _, Nat.zero_le _, fun i hi => absurd hi (by simp)⟩

/-- What the loop of toNeedS keeps: the first k needs are copied. -/
def NToRel (M : List Nd) (w : World) (g : Nat) (i : Value) (wr : World) : Prop :=
  ∃ k : Nat, k ≤ M.length ∧ i = .int .i64 (k : Int) ∧ NdBlk wr g M.length (M.take k) ∧ Below w.heap.size w wr

theorem nto_push {M : List Nd} {w wr : World} {k : Nat} {x : Int} {L : List (Int × Int)} {a : Option Addr} {cap : Nat} (hxy : M[k]? = some (x, L)) (hk : k < M.length) (hblk : NdBlk wr w.heap.size M.length (M.take k)) (hr : SRes L (w.heap.size + 1) (.slice a L.length cap) wr) (hb : Below w.heap.size w wr) :
    NToRel M w w.heap.size (.int .i64 ((k : Int) + 1)) ((wr.setCell ⟨w.heap.size, k * 2, none⟩ (.int .i64 x)).setCell ⟨w.heap.size, k * 2 + 1, none⟩ (.slice a L.length cap)) := by
  have hl : (M.take k).length = k := by simp; omega
  have h := hblk.push (by omega) x hr
  rw [hl] at h
  refine ⟨k + 1, by omega, by go_num, ?_, (hb.setCell (by simp) _).setCell (by simp) _⟩
  rw [List.take_add_one, hxy]
  exact h

def NToPost (M : List Nd) (w : World) (e : Ending) (w' : World) : Prop :=
  ∃ g, e = .returned (.slice (some ⟨g, 0, none⟩) M.length M.length) ∧ NdBlk w' g M.length M ∧ w.heap.size ≤ g ∧ Below w.heap.size w w'

set_option maxHeartbeats 1000000 in
theorem toNeedS_any (v : Value) (M : List Nd) (w : World) (h : NdAt w w.heap.size v M) (hl : M.length ≤ 1048576) (hq : ∀ q ∈ M, q.2.length ≤ 1048576) : Calls Try.prog 33 #[v] w (NToPost M w) := by
  obtain ⟨a, cap, rfl, h⟩ := h
  have hmk := make_needs M.length hl
  go_enter Try.func33, Try.ntmps33
  go_wp2
  clear hmk
  go_loopw [4] (fun i wr => NToRel M w w.heap.size i wr) (fun i _ => M.length - (intOf i).toNat)
  case atStart => exact ⟨0, Nat.zero_le _, rfl, by rw [List.take_zero]; exact made_needs _ _, (Below.refl _ _).alloc (Nat.le_refl _) _⟩
  case round =>
    obtain ⟨k, hk, rfl, hblk, hb⟩ := hrel
    by_cases hlt : k < M.length
    · rcases h with h | ⟨b, o, rfl, hB, hc⟩
      · subst h
        exact absurd hlt (by simp)
      obtain ⟨x, L, hxy⟩ : ∃ x L, M[k] = (x, L) := ⟨_, _, rfl⟩
      have c := (hc k hlt).below hb hB
      rw [hxy] at c
      obtain ⟨e0, a1, cap1, e1, hs⟩ := c
      have hL : L.length ≤ 1048576 := by have := hq _ (List.getElem_mem hlt); rwa [hxy] at this
      simp only at e0 e1 hs
      have HXY := Lib.hid (show M[k]? = some (x, L) by rw [List.getElem?_eq_getElem hlt, hxy])
      clear hxy hc
      have pl := hblk.place hlt
      obtain ⟨⟨p0, hp0⟩, ⟨p1, hp1⟩, f0, f1⟩ := pl
      have hg := hblk.lt
      go_wp2_with fail
      refine (toNeed_any x _ L wr (hs.mono hb.size) hL).mono ?_
      rintro e w2 ⟨g2, rfl, sblk, hg2, hb2⟩
      have blk2 := hblk.below hb2
      have bel2 := hb.trans (hb2.mono hb.size)
      have pl := blk2.place hlt
      obtain ⟨⟨q0, hq0⟩, ⟨q1, hq1⟩, g0, g1⟩ := pl
      have HP := Lib.hid (nto_push HXY.out hlt blk2 (show SRes L (w.heap.size + 1) (.slice (some ⟨g2, 0, none⟩) L.length L.length) w2 from ⟨_, _, rfl, .inr ⟨g2, _, rfl, sblk, by omega⟩⟩) bel2)
      clear hblk hb hb2 hp0 hp1 f0 f1 e0 e1 blk2 bel2 hs sblk
      go_wp2_with fail
      go_roundw
      case rel => exact HP.out
      case measure => simp [intOf]; omega
    · obtain rfl : k = M.length := by omega
      rw [List.take_length] at hblk
      go_wp2_with fail
      go_ret
      exact ⟨w.heap.size, rfl, hblk, Nat.le_refl _, hb⟩

end Go.Proofs.Ytdjnfmekbjmdhaa

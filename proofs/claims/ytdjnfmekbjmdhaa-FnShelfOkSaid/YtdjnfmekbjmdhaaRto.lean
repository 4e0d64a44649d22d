/- Contracts of the laws' functions that copy releases, over this seat's translation: the copy is a new row with the same releases; nothing that was there before the call has changed. Condition: at most 1048576 releases, needs of each, and spans of those. -/
import Derived.Test.YtdjnfmekbjmdhaaRm
import Derived.Test.YtdjnfmekbjmdhaaNdto
import Derived.Test.YtdjnfmekbjmdhaaVexact
namespace Go.Proofs.Ytdjnfmekbjmdhaa
open Go.RowKit Go.Sort

def RelPost (n a b c d : Int) (f : Bool) (M : List Nd) (w : World) (e : Ending) (w' : World) : Prop :=
  ∃ g, e = .returned (rels n a b c d f (.slice (some ⟨g, 0, none⟩) M.length M.length)) ∧ NdBlk w' g M.length M ∧ w.heap.size ≤ g ∧ Below w.heap.size w w'

set_option maxRecDepth 100000 in
set_option maxHeartbeats 2000000 in
theorem toRelease_any (n a b c d : Int) (f : Bool) (v : Value) (M : List Nd) (w : World) (h : NdAt w w.heap.size v M) (hl : M.length ≤ 1048576) (hq : ∀ q ∈ M, q.2.length ≤ 1048576) : Calls Try.prog 23 #[rels n a b c d f v] w (RelPost n a b c d f M w) := by
  have h' := h
  obtain ⟨ad, cap, rfl, hx⟩ := h'
  clear hx
  have H := Lib.hid h
  clear h
  go_enter Try.func23, Try.ntmps23
  go_wp2_with fail
  refine (toVersion_any a b c d _).mono ?_
  rintro e w1 ⟨rfl, hb1⟩
  have b1 : Below w.heap.size w w1 := Below.step (by go_grown) hb1
  have s1 : w.heap.size + 1 + 1 + 1 ≤ w1.heap.size := by have := hb1.size; simp at this; omega
  obtain ⟨hc, hf⟩ : (∀ b o, b < w.heap.size + 1 + 1 + 1 → w1.cell? ⟨b, o, none⟩ = _) ∧ (∀ b o, b < w.heap.size + 1 + 1 + 1 → w1.frozen? ⟨b, o, none⟩ = _) :=
    ⟨fun b o hbo => hb1.cell (p := ⟨b, o, none⟩) (by simpa using hbo), fun b o hbo => hb1.frozen (p := ⟨b, o, none⟩) (by simpa using hbo)⟩
  clear hb1
  go_wp2_with fail
  refine (toNeedS_any _ M _ (H.out.stepAt (by go_grown)) hl hq).mono ?_
  rintro e w2 ⟨g, rfl, hblk, hg, hb2⟩
  have b2 : Below w.heap.size w w2 := Below.step (show Below w.heap.size w _ from by go_grown) hb2
  obtain ⟨hc2, hf2⟩ : (∀ b o, b < w.heap.size + 1 + 1 + 1 → w2.cell? ⟨b, o, none⟩ = _) ∧ (∀ b o, b < w.heap.size + 1 + 1 + 1 → w2.frozen? ⟨b, o, none⟩ = _) :=
    ⟨fun b o hbo => hb2.cell (p := ⟨b, o, none⟩) (by simp; omega), fun b o hbo => hb2.frozen (p := ⟨b, o, none⟩) (by simp; omega)⟩
  have hg' : w.heap.size + 3 ≤ g := by simp at hg; omega
  clear hb2 H hg b1
  go_wp2_with fail
  exact bodyPost_ret (v := rels n a b c d f (.slice (some ⟨g, 0, none⟩) M.length M.length)) (by simp [results, Try.results23, go_sem, hc2, hc]) rfl
    ⟨g, rfl, hblk.kept (fun k hk _ => by repeat (first | (with_reducible rfl) | refine (Below.heap_setCell _ _ _ _ (by simp; omega)).trans ?_)), by omega, by go_grown⟩

theorem infoRelease : (Try.prog.info? 41).map (fun i => (i.zero, i.size, i.bytes)) = some (some (.agg #[.int .i64 0, .int .i64 0, .int .i64 0, .int .i64 0, .int .i64 0, .bool false, .slice none 0 0]), 7, 72) := by kernel_rfl

/-- 'make([]impl.Release, n)'. -/
theorem make_rels (n : Nat) (hn : n ≤ 1048576) (V : World) :
    (Instr.makeSlice 27 (.int .i64 (n : Int)) (.int .i64 (n : Int))).run Try.prog V = .ok (.slice (some ⟨V.heap.size, 0, none⟩) n n) (V.alloc (.cells (madeCells #[.int .i64 0, .int .i64 0, .int .i64 0, .int .i64 0, .int .i64 0, .bool false, .slice none 0 0] (n * 7)) 41)) := by
  obtain ⟨i0, hi, hz0, hz1, hz2⟩ := info_parts infoRelease
  have h := run_make (P := Try.prog) V 27 41 i0 _ Try.underlying27 hi hz0 .i64 .i64 (n : Int) (n : Int) (by omega) (Int.le_refl _) (by rw [hz2]; omega) (by omega)
  rw [hz1] at h
  simpa [Value.cells] using h

theorem made_rels (n : Nat) (V : World) : RlBlk (V.alloc (.cells (madeCells #[.int .i64 0, .int .i64 0, .int .i64 0, .int .i64 0, .int .i64 0, .bool false, .slice none 0 0] (n * 7)) 41)) V.heap.size n [] :=
  ⟨_, heap_alloc_new V _, size_madeCells _ _, Nat.zero_le _, fun i hi => absurd hi (by simp)⟩

/-- What the loop of toReleaseS keeps: the first k releases are copied. -/
def RToRel (S : List Rel) (w : World) (g : Nat) (i : Value) (wr : World) : Prop :=
  ∃ k : Nat, k ≤ S.length ∧ i = .int .i64 (k : Int) ∧ RlBlk wr g S.length (S.take k) ∧ Below w.heap.size w wr

theorem rto_push {S : List Rel} {w wr : World} {k : Nat} {x a1 b1 c1 d1 : Int} {gn : Bool} {M : List Nd} {ad : Option Addr} {cap : Nat} (hxy : S[k]? = some (x, (a1, b1, c1, d1), gn, M)) (hk : k < S.length) (hblk : RlBlk wr w.heap.size S.length (S.take k)) (hr : NRes M (w.heap.size + 1) (.slice ad M.length cap) wr) (hb : Below w.heap.size w wr) :
    RToRel S w w.heap.size (.int .i64 ((k : Int) + 1)) (((((((wr.setCell ⟨w.heap.size, k * 7, none⟩ (.int .i64 x)).setCell ⟨w.heap.size, k * 7 + 1, none⟩ (.int .i64 a1)).setCell ⟨w.heap.size, k * 7 + 2, none⟩ (.int .i64 b1)).setCell ⟨w.heap.size, k * 7 + 3, none⟩ (.int .i64 c1)).setCell ⟨w.heap.size, k * 7 + 4, none⟩ (.int .i64 d1)).setCell ⟨w.heap.size, k * 7 + 5, none⟩ (.bool gn)).setCell ⟨w.heap.size, k * 7 + 6, none⟩ (.slice ad M.length cap)) := by
  have hl : (S.take k).length = k := by simp; omega
  have h := hblk.push (by omega) x a1 b1 c1 d1 gn hr
  rw [hl] at h
  refine ⟨k + 1, by omega, by go_num, ?_, ((((((hb.setCell (by simp) _).setCell (by simp) _).setCell (by simp) _).setCell (by simp) _).setCell (by simp) _).setCell (by simp) _).setCell (by simp) _⟩
  rw [List.take_add_one, hxy]
  exact h

def RToPost (S : List Rel) (w : World) (e : Ending) (w' : World) : Prop :=
  ∃ g, e = .returned (.slice (some ⟨g, 0, none⟩) S.length S.length) ∧ RlBlk w' g S.length S ∧ w.heap.size ≤ g ∧ Below w.heap.size w w'

set_option maxRecDepth 100000 in
set_option maxHeartbeats 2000000 in
theorem toReleaseS_any (v : Value) (S : List Rel) (w : World) (h : RlAt w w.heap.size v S) (hl : S.length ≤ 1048576) (hq : ∀ q ∈ S, q.2.2.2.length ≤ 1048576 ∧ ∀ p ∈ q.2.2.2, p.2.length ≤ 1048576) : Calls Try.prog 17 #[v] w (RToPost S w) := by
  obtain ⟨a, cap, rfl, h⟩ := h
  have hmk := make_rels S.length hl
  go_enter Try.func17, Try.ntmps17
  go_wp2
  clear hmk
  go_loopw [4] (fun i wr => RToRel S w w.heap.size i wr) (fun i _ => S.length - (intOf i).toNat)
  case atStart => exact ⟨0, Nat.zero_le _, rfl, by rw [List.take_zero]; exact made_rels _ _, (Below.refl _ _).alloc (Nat.le_refl _) _⟩
  case round =>
    obtain ⟨k, hk, rfl, hblk, hb⟩ := hrel
    by_cases hlt : k < S.length
    · rcases h with h | ⟨b, o, rfl, hB, hc⟩
      · subst h
        exact absurd hlt (by simp)
      obtain ⟨x, a1, b1, c1, d1, gn, M, hxy⟩ : ∃ x a1 b1 c1 d1 gn M, S[k] = (x, (a1, b1, c1, d1), gn, M) := ⟨_, _, _, _, _, _, _, rfl⟩
      have c := (hc k hlt).below hb hB
      rw [hxy] at c
      obtain ⟨⟨e0, e1, e2, e3, e4, e5⟩, ad, cap1, e6, hs⟩ := c
      have hL : M.length ≤ 1048576 ∧ ∀ p ∈ M, p.2.length ≤ 1048576 := by have := hq _ (List.getElem_mem hlt); rwa [hxy] at this
      simp only at e0 e1 e2 e3 e4 e5 e6 hs
      have HXY := Lib.hid (show S[k]? = some (x, (a1, b1, c1, d1), gn, M) by rw [List.getElem?_eq_getElem hlt, hxy])
      clear hxy hc
      have HS := Lib.hid (hs.mono hb.size)
      have HB := Lib.hid hblk
      have hg := hblk.lt
      clear hs hblk
      go_wp2_with fail
      refine (toRelease_any x a1 b1 c1 d1 gn _ M wr HS.out hL.1 hL.2).mono ?_
      rintro e w2 ⟨g2, rfl, sblk, hg2, hb2⟩
      have blk2 := HB.out.below hb2
      have bel2 := hb.trans (hb2.mono hb.size)
      have pl := blk2.place hlt
      obtain ⟨⟨p0, hp0⟩, ⟨p1, hp1⟩, ⟨p2, hp2⟩, ⟨p3, hp3⟩, ⟨p4, hp4⟩, ⟨p5, hp5⟩, ⟨p6, hp6⟩, f0, f1, f2, f3, f4, f5, f6⟩ := pl
      have HP := Lib.hid (rto_push HXY.out hlt blk2 (show NRes M (w.heap.size + 1) (.slice (some ⟨g2, 0, none⟩) M.length M.length) w2 from ⟨_, _, rfl, .inr ⟨g2, _, rfl, sblk, by omega⟩⟩) bel2)
      clear hb hb2 e0 e1 e2 e3 e4 e5 e6 blk2 bel2 sblk
      go_wp2_with fail
      go_roundw
      case rel => exact HP.out
      case measure => simp [intOf]; omega
    · obtain rfl : k = S.length := by omega
      rw [List.take_length] at hblk
      go_wp2_with fail
      go_ret
      exact ⟨w.heap.size, rfl, hblk, Nat.le_refl _, hb⟩

end Go.Proofs.Ytdjnfmekbjmdhaa

/- Contracts of the laws' functions that copy terms, over this seat's translation: the copy is a new row with the same terms; nothing that was there before the call has changed. Condition: at most 1048576 terms, and spans of each. -/
import Derived.Test.YtdhbjjolgmodjaaTm
namespace Go.Proofs.Ytdhbjjolgmodjaa
open Go.RowKit Go.Sort

def TermPost (x : Int) (L : List (Int × Int)) (f : Bool) (w : World) (e : Ending) (w' : World) : Prop :=
  ∃ g, e = .returned (term x (.slice (some ⟨g, 0, none⟩) L.length L.length) f) ∧ SpBlk w' g L.length L ∧ w.heap.size ≤ g ∧ Below w.heap.size w w'

set_option maxRecDepth 100000 in
set_option maxHeartbeats 1000000 in
theorem toTerm_any (x : Int) (v : Value) (L : List (Int × Int)) (f : Bool) (w : World) (h : SpAt w w.heap.size v L) (hl : L.length ≤ 1048576) : Calls Try.prog 51 #[term x v f] w (TermPost x L f w) := by
  have h' := h
  obtain ⟨a, cap, rfl, _⟩ := h'
  have H := Lib.hid h
  clear h
  go_enter Try.func51, Try.ntmps51
  go_wp2_with fail
  refine (toRange_any _ L _ (H.out.stepAt (by go_grown)) hl).mono ?_
  rintro e w1 ⟨g, rfl, hblk, hg, hb1⟩
  have b1 : Below w.heap.size w w1 := Below.step (by go_grown) hb1
  obtain ⟨hc, hf⟩ : (∀ b o, b < w.heap.size + 1 + 1 + 1 → w1.cell? ⟨b, o, none⟩ = _) ∧ (∀ b o, b < w.heap.size + 1 + 1 + 1 → w1.frozen? ⟨b, o, none⟩ = _) :=
    ⟨fun b o hbo => hb1.cell (p := ⟨b, o, none⟩) (by simpa using hbo), fun b o hbo => hb1.frozen (p := ⟨b, o, none⟩) (by simpa using hbo)⟩
  have hg' : w.heap.size + 3 ≤ g := by simp at hg; omega
  clear hb1 H hg
  go_wp2_with fail
  exact bodyPost_ret (v := term x (.slice (some ⟨g, 0, none⟩) L.length L.length) f) (by simp [results, Try.results51, go_sem, hc]) rfl
    ⟨g, rfl, hblk.kept ((Below.heap_setCell _ _ _ _ (by simp; omega)).trans ((Below.heap_setCell _ _ _ _ (by simp; omega)).trans ((Below.heap_setCell _ _ _ _ (by simp; omega)).trans ((Below.heap_setCell _ _ _ _ (by simp; omega)).trans (Below.heap_setCell _ _ _ _ (by simp; omega)))))), by omega, by go_grown⟩

theorem infoTerm : (Try.prog.info? 83).map (fun i => (i.zero, i.size, i.bytes)) = some (some (.agg #[.int .i64 0, .slice none 0 0, .bool false]), 3, 40) := by kernel_rfl

/-- 'make([]impl.Need, n)'. -/
theorem make_terms (n : Nat) (hn : n ≤ 1048576) (V : World) :
    (Instr.makeSlice 24 (.int .i64 (n : Int)) (.int .i64 (n : Int))).run Try.prog V = .ok (.slice (some ⟨V.heap.size, 0, none⟩) n n) (V.alloc (.cells (madeCells #[.int .i64 0, .slice none 0 0, .bool false] (n * 3)) 83)) := by
  obtain ⟨i0, hi, hz0, hz1, hz2⟩ := info_parts infoTerm
  have h := run_make (P := Try.prog) V 24 83 i0 _ Try.underlying24 hi hz0 .i64 .i64 (n : Int) (n : Int) (by omega) (Int.le_refl _) (by rw [hz2]; omega) (by omega)
  rw [hz1] at h
  simpa [Value.cells] using h

theorem made_terms (n : Nat) (V : World) : TmBlk (V.alloc (.cells (madeCells #[.int .i64 0, .slice none 0 0, .bool false] (n * 3)) 83)) V.heap.size n [] :=
  ⟨_, heap_alloc_new V _, size_madeCells _ _, Nat.zero_le _, fun i hi => absurd hi (by simp)⟩

/-- What the loop of toTermS keeps: the first k terms are copied. -/
def TToRel (M : List Tm) (w : World) (g : Nat) (i : Value) (wr : World) : Prop :=
  ∃ k : Nat, k ≤ M.length ∧ i = .int .i64 (k : Int) ∧ TmBlk wr g M.length (M.take k) ∧ Below w.heap.size w wr

theorem tto_push {M : List Tm} {w wr : World} {k : Nat} {x : Int} {f : Bool} {L : List (Int × Int)} {a : Option Addr} {cap : Nat} (hxy : M[k]? = some (x, L, f)) (hk : k < M.length) (hblk : TmBlk wr w.heap.size M.length (M.take k)) (hr : SRes L (w.heap.size + 1) (.slice a L.length cap) wr) (hb : Below w.heap.size w wr) :
    TToRel M w w.heap.size (.int .i64 ((k : Int) + 1)) (((wr.setCell ⟨w.heap.size, k * 3, none⟩ (.int .i64 x)).setCell ⟨w.heap.size, k * 3 + 1, none⟩ (.slice a L.length cap)).setCell ⟨w.heap.size, k * 3 + 2, none⟩ (.bool f)) := by
  have hl : (M.take k).length = k := by simp; omega
  have h := hblk.push (by omega) x f hr
  rw [hl] at h
  refine ⟨k + 1, by omega, by go_num, ?_, ((hb.setCell (by simp) _).setCell (by simp) _).setCell (by simp) _⟩
  rw [List.take_add_one, hxy]
  exact h

def TToPost (M : List Tm) (w : World) (e : Ending) (w' : World) : Prop :=
  ∃ g, e = .returned (.slice (some ⟨g, 0, none⟩) M.length M.length) ∧ TmBlk w' g M.length M ∧ w.heap.size ≤ g ∧ Below w.heap.size w w'

set_option maxHeartbeats 1000000 in
theorem toTermS_any (v : Value) (M : List Tm) (w : World) (h : TmAt w w.heap.size v M) (hl : M.length ≤ 1048576) (hq : ∀ q ∈ M, q.2.1.length ≤ 1048576) : Calls Try.prog 12 #[v] w (TToPost M w) := by
  obtain ⟨a, cap, rfl, h⟩ := h
  have hmk := make_terms M.length hl
  go_enter Try.func12, Try.ntmps12
  go_wp2
  clear hmk
  go_loopw [4] (fun i wr => TToRel M w w.heap.size i wr) (fun i _ => M.length - (intOf i).toNat)
  case atStart => exact ⟨0, Nat.zero_le _, rfl, by rw [List.take_zero]; exact made_terms _ _, (Below.refl _ _).alloc (Nat.le_refl _) _⟩
  case round =>
    obtain ⟨k, hk, rfl, hblk, hb⟩ := hrel
    by_cases hlt : k < M.length
    · rcases h with h | ⟨b, o, rfl, hB, hc⟩
      · subst h
        exact absurd hlt (by simp)
      obtain ⟨x, L, f, hxy⟩ : ∃ x L f, M[k] = (x, L, f) := ⟨_, _, _, rfl⟩
      have c := (hc k hlt).below hb hB
      rw [hxy] at c
      obtain ⟨e0, a1, cap1, e1, hs, e2⟩ := c
      have hL : L.length ≤ 1048576 := by have := hq _ (List.getElem_mem hlt); rwa [hxy] at this
      simp only at e0 e1 hs e2
      have HXY := Lib.hid (show M[k]? = some (x, L, f) by rw [List.getElem?_eq_getElem hlt, hxy])
      clear hxy hc
      have pl := hblk.place hlt
      obtain ⟨⟨p0, hp0⟩, ⟨p1, hp1⟩, ⟨p2, hp2⟩, f0, f1, f2⟩ := pl
      have hg := hblk.lt
      go_wp2_with fail
      refine (toTerm_any x _ L f wr (hs.mono hb.size) hL).mono ?_
      rintro e w2 ⟨gg, rfl, sblk, hg2, hb2⟩
      have blk2 := hblk.below hb2
      have bel2 := hb.trans (hb2.mono hb.size)
      have pl := blk2.place hlt
      obtain ⟨⟨q0, hq0⟩, ⟨q1, hq1⟩, ⟨q2, hq2⟩, g0, g1, g2⟩ := pl
      have HP := Lib.hid (tto_push HXY.out hlt blk2 (show SRes L (w.heap.size + 1) (.slice (some ⟨gg, 0, none⟩) L.length L.length) w2 from ⟨_, _, rfl, .inr ⟨gg, _, rfl, sblk, by omega⟩⟩) bel2)
      clear hblk hb hb2 hp0 hp1 hp2 f0 f1 f2 e0 e1 e2 blk2 bel2 hs sblk
      go_wp2_with fail
      go_roundw
      case rel => exact HP.out
      case measure => simp [intOf]; omega
    · obtain rfl : k = M.length := by omega
      rw [List.take_length] at hblk
      go_wp2_with fail
      go_ret
      exact ⟨w.heap.size, rfl, hblk, Nat.le_refl _, hb⟩

end Go.Proofs.Ytdhbjjolgmodjaa

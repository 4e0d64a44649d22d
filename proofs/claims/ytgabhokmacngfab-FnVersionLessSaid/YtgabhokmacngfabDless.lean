/- The contract of the draw of two versions, over this seat's translation: it answers with some two versions' numbers and changes nothing that was there. Condition: the code is readable. -/
import Derived.Test.YtgabhokmacngfabDdraw
import Derived.RegionTactic
import Derived.ChangeAlike
import Derived.Handy
namespace Go.Proofs.Ytgabhokmacngfab
open Go.ChangeShapes Go.WideShapes Go.ChangeAt Go.RowKit Go.Sort

def TwoVer (w : World) (e : Ending) (w' : World) : Prop :=
  ∃ a b c d a' b' c' d' : Int, e = .returned (.tuple #[ver a b c d, ver a' b' c' d']) ∧ Below w.heap.size w w'

set_option maxHeartbeats 2000000 in
theorem DrawVersionLess_any (a : Option Addr) (len cap : Nat) (w : World) (h : CodeIn w a len cap) : Calls Try.prog 19 #[.slice a len cap] w (TwoVer w) := by
  have b0 := ((Below.refl w.heap.size w).alloc (Nat.le_refl _) (.cells #[.int .i64 0, .int .i64 0, .int .i64 0, .int .i64 0] 24)).alloc (by simp) (.cells #[.int .i64 0, .int .i64 0, .int .i64 0, .int .i64 0] 24)
  have h1 := codeIn_below h b0
  have r0 := (VerBlk.new w 0 0 0 0).alloc (.cells #[.int .i64 0, .int .i64 0, .int .i64 0, .int .i64 0] 24)
  have s0 := VerBlk.new (w.alloc (.cells #[.int .i64 0, .int .i64 0, .int .i64 0, .int .i64 0] 24)) 0 0 0 0
  rw [show (w.alloc (.cells #[.int .i64 0, .int .i64 0, .int .i64 0, .int .i64 0] 24)).heap.size = w.heap.size + 1 from by simp] at s0
  go_enter Try.func19, Try.ntmps19
  go_wp2_with fail
  refine (open_any a len cap _ h1).mono ?_
  rintro e w1 ⟨rfl, hr1, hb1⟩
  have b1 := b0.trans (hb1.mono (by simp; omega))
  have r1 : VerBlk w1 w.heap.size 0 0 0 0 := (hb1.block _ (by simp; omega)).trans r0
  have s1 : VerBlk w1 (w.heap.size + 1) 0 0 0 0 := (hb1.block _ (by simp)).trans s0
  clear h1 r0 s0 hb1 b0 h
  simp only [World.size_alloc] at hr1
  go_wp2_with fail
  refine (version_any _ 0 _ w1 hr1 (by omega) (by omega) (by omega)).mono ?_
  rintro e w2 ⟨x, y, z, u, rfl, _, hd⟩
  have b2 := drawn_below hd b1 (by omega)
  obtain ⟨q, hq0, hq1, hr2, hg⟩ := hd
  have r2 := (r1.kept hg (by omega)).alloc (.cells #[.int .i64 x, .int .i64 y, .int .i64 z, .int .i64 u] 24)
  have s2 := (s1.kept hg (by omega)).alloc (.cells #[.int .i64 x, .int .i64 y, .int .i64 z, .int .i64 u] 24)
  have v2 := VerBlk.new w2 x y z u
  have hr3 := rdAt_alloc hr2 (.cells #[.int .i64 x, .int .i64 y, .int .i64 z, .int .i64 u] 24)
  have b3 := b2.alloc b2.size (.cells #[.int .i64 x, .int .i64 y, .int .i64 z, .int .i64 u] 24)
  have l2 := rdAt_lt hr2
  clear hg hr1 b1 r1 s1 hr2 b2
  go_wp2_with fail
  refine (version_any _ q _ _ hr3 (by omega) (by omega) (by omega)).mono ?_
  rintro e w3 ⟨x', y', z', u', rfl, _, hd⟩
  have b4 := drawn_below hd b3 (by omega)
  obtain ⟨q2, hq2, hq3, hr4, hg⟩ := hd
  have r4 := (r2.kept hg (by omega)).alloc (.cells #[.int .i64 x', .int .i64 y', .int .i64 z', .int .i64 u'] 24)
  have s4 := (s2.kept hg (by omega)).alloc (.cells #[.int .i64 x', .int .i64 y', .int .i64 z', .int .i64 u'] 24)
  have v4 := (v2.kept hg (by omega)).alloc (.cells #[.int .i64 x', .int .i64 y', .int .i64 z', .int .i64 u'] 24)
  have t4 := VerBlk.new w3 x' y' z' u'
  have hr5 := rdAt_alloc hr4 (.cells #[.int .i64 x', .int .i64 y', .int .i64 z', .int .i64 u'] 24)
  have b5 := b4.alloc b4.size (.cells #[.int .i64 x', .int .i64 y', .int .i64 z', .int .i64 u'] 24)
  have l3 : w2.heap.size < w3.heap.size := by have := hg.size; simp at this; omega
  clear hg hr3 b3 r2 s2 v2 hr4 b4
  go_wp2_with fail
  refine (pick_any _ _ _ _ hr5 (by omega)).mono ?_
  rintro e w5 ⟨k5, rfl, k50, k51, _, hr6, hg5⟩
  have r5 := r4.kept hg5 (by omega)
  have s5 := s4.kept hg5 (by omega)
  have v5 := v4.kept hg5 (by omega)
  have t5 := t4.kept hg5 (by omega)
  have b6 := b5.grown hg5 (by have := b5.size; omega) (fun k hk => by injection hk with hk; omega)
  clear r4 s4 v4 t4 hr5 b5 hg5
  by_cases hk : k5 = 0
  · subst hk
    obtain ⟨c0, c1, c2, c3, cf⟩ := v5.cells
    obtain ⟨d0, d1, d2, d3, df⟩ := t5.cells
    have hr7 := rdAt_set (x := 3) (v := .int .i64 u) (rdAt_set (x := 2) (v := .int .i64 z) (rdAt_set (x := 1) (v := .int .i64 y) (rdAt_set (x := 0) (v := .int .i64 x) hr6 (show w.heap.size + 1 + 1 < w3.heap.size by omega)) (show w.heap.size + 1 + 1 < w3.heap.size by omega)) (show w.heap.size + 1 + 1 < w3.heap.size by omega)) (show w.heap.size + 1 + 1 < w3.heap.size by omega)
    have r7 := (((r5.other (k := w3.heap.size) (x := 0) (v := .int .i64 x) (by omega)).other (k := w3.heap.size) (x := 1) (v := .int .i64 y) (by omega)).other (k := w3.heap.size) (x := 2) (v := .int .i64 z) (by omega)).other (k := w3.heap.size) (x := 3) (v := .int .i64 u) (by omega)
    have s7 := (((s5.other (k := w3.heap.size) (x := 0) (v := .int .i64 x) (by omega)).other (k := w3.heap.size) (x := 1) (v := .int .i64 y) (by omega)).other (k := w3.heap.size) (x := 2) (v := .int .i64 z) (by omega)).other (k := w3.heap.size) (x := 3) (v := .int .i64 u) (by omega)
    have v7 := (((v5.other (k := w3.heap.size) (x := 0) (v := .int .i64 x) (by omega)).other (k := w3.heap.size) (x := 1) (v := .int .i64 y) (by omega)).other (k := w3.heap.size) (x := 2) (v := .int .i64 z) (by omega)).other (k := w3.heap.size) (x := 3) (v := .int .i64 u) (by omega)
    have t7 := t5.set4 (a' := x) (b' := y) (c' := z) (d' := u)
    have b7 := (((b6.setCell (p := ⟨w3.heap.size, 0, none⟩) (by simp; omega) (.int .i64 x)).setCell (p := ⟨w3.heap.size, 1, none⟩) (by simp; omega) (.int .i64 y)).setCell (p := ⟨w3.heap.size, 2, none⟩) (by simp; omega) (.int .i64 z)).setCell (p := ⟨w3.heap.size, 3, none⟩) (by simp; omega) (.int .i64 u)
    go_wp2_with fail
    refine (pick_any _ _ _ _ hr7 (by omega)).mono ?_
    rintro e w8 ⟨k8, rfl, k80, k81, _, _, hg8⟩
    have r8 := r7.kept hg8 (by omega)
    have s8 := s7.kept hg8 (by omega)
    have v8 := v7.kept hg8 (by omega)
    have t8 := t7.kept hg8 (by omega)
    have b8 := b7.grown hg8 (by have := b7.size; omega) (fun k hk => by injection hk with hk; omega)
    clear hr7 r7 s7 v7 t7 b7 hg8 c0 c1 c2 c3 cf d0 d1 d2 d3 df hr6 r5 s5 v5 t5 b6
    obtain ⟨c0, c1, c2, c3, cf⟩ := v8.cells
    obtain ⟨d0, d1, d2, d3, df⟩ := t8.cells
    obtain ⟨e0, e1, e2, e3, ef⟩ := r8.cells
    obtain ⟨f0, f1, f2, f3, ff⟩ := s8.cells
    have nd : ¬ w3.heap.size = w2.heap.size := by omega
    have nd2 : ¬ w2.heap.size = w3.heap.size := by omega
    have nw : ¬ w3.heap.size = w.heap.size := by omega
    have nw1 : ¬ w3.heap.size = w.heap.size + 1 := by omega
    have mw : ¬ w2.heap.size = w.heap.size := by omega
    have mw1 : ¬ w2.heap.size = w.heap.size + 1 := by omega
    go_wp2_with fail
    go_region
    go_wp2_with fail
    clear c0 c1 c2 c3 cf d0 d1 d2 d3 df ef ff
    exact bodyPost_ret (v := .tuple #[ver x y z u, ver x y z k8]) (by simp [results, Try.results19, go_sem, e0, e1, e2, e3, f0, f1, f2, f3]) rfl ⟨x, y, z, u, x, y, z, k8, rfl, by go_grown⟩
  · have hk2 : (k5 == 0) = false := by rw [beq_eq_false_iff_ne]; exact hk
    obtain ⟨c0, c1, c2, c3, cf⟩ := v5.cells
    obtain ⟨d0, d1, d2, d3, df⟩ := t5.cells
    obtain ⟨e0, e1, e2, e3, ef⟩ := r5.cells
    obtain ⟨f0, f1, f2, f3, ff⟩ := s5.cells
    have nw : ¬ w3.heap.size = w.heap.size := by omega
    have nw1 : ¬ w3.heap.size = w.heap.size + 1 := by omega
    have mw : ¬ w2.heap.size = w.heap.size := by omega
    have mw1 : ¬ w2.heap.size = w.heap.size + 1 := by omega
    go_wp2_with fail
    go_region
    go_wp2_with fail
    clear c0 c1 c2 c3 cf d0 d1 d2 d3 df ef ff
    exact bodyPost_ret (v := .tuple #[ver x y z u, ver x' y' z' u']) (by simp [results, Try.results19, go_sem, e0, e1, e2, e3, f0, f1, f2, f3]) rfl ⟨x, y, z, u, x', y', z', u', rfl, by go_grown⟩

end Go.Proofs.Ytgabhokmacngfab

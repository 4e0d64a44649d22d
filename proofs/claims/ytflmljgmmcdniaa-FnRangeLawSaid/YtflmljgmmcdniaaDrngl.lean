/- The contract of the draw of three ranges and a version, over this seat's translation: they lie in memory of their own; nothing that was there has changed. Condition: the code is readable. -/
import Derived.Test.YtflmljgmmcdniaaDrngd
namespace Go.Proofs.Ytflmljgmmcdniaa
open Go.ChangeShapes Go.WideShapes Go.ChangeAt Go.RowKit Go.Sort

def AnyRng3 (w : World) (e : Ending) (w' : World) : Prop :=
  ∃ A B C u v z a b c d, e = .returned (.tuple #[.agg #[u], .agg #[v], .agg #[z], ver a b c d]) ∧ SRes A w.heap.size u w' ∧ SRes B w.heap.size v w' ∧ SRes C w.heap.size z w' ∧ A.length ≤ 41 ∧ B.length ≤ 41 ∧ C.length ≤ 41 ∧ Below w.heap.size w w'

set_option maxRecDepth 100000 in
set_option maxHeartbeats 4000000 in
theorem DrawRangeLaw_any (a : Option Addr) (len cap : Nat) (w : World) (h : CodeIn w a len cap) : Calls Try.prog 40 #[.slice a len cap] w (AnyRng3 w) := by
  have b0 := ((((Below.refl w.heap.size w).alloc (Nat.le_refl _) (.cells #[.slice none 0 0] 28)).alloc (by simp) (.cells #[.slice none 0 0] 28)).alloc (by simp; omega) (.cells #[.slice none 0 0] 28)).alloc (by simp; omega) (.cells #[.int .i64 0, .int .i64 0, .int .i64 0, .int .i64 0] 43)
  have h1 := codeIn_below h b0
  go_enter Try.func40, Try.ntmps40
  go_wp2_with fail
  refine (open_any a len cap _ h1).mono ?_
  rintro e w1 ⟨rfl, hr1, hb1⟩
  have b1 := b0.trans (hb1.mono (by simp; omega))
  have x1_0_0 : w1.cell? ⟨w.heap.size, 0, none⟩ = some (.slice none 0 0) := (hb1.cell (p := ⟨w.heap.size, 0, none⟩) (by first | (simp; done) | (simp; omega))).trans (by go_simp)
  have f1_0_0 : w1.frozen? ⟨w.heap.size, 0, none⟩ = false := (hb1.frozen (p := ⟨w.heap.size, 0, none⟩) (by first | (simp; done) | (simp; omega))).trans (by go_simp)
  have x1_1_0 : w1.cell? ⟨w.heap.size + 1, 0, none⟩ = some (.slice none 0 0) := (hb1.cell (p := ⟨w.heap.size + 1, 0, none⟩) (by first | (simp; done) | (simp; omega))).trans (by go_simp)
  have f1_1_0 : w1.frozen? ⟨w.heap.size + 1, 0, none⟩ = false := (hb1.frozen (p := ⟨w.heap.size + 1, 0, none⟩) (by first | (simp; done) | (simp; omega))).trans (by go_simp)
  have x1_2_0 : w1.cell? ⟨w.heap.size + 2, 0, none⟩ = some (.slice none 0 0) := (hb1.cell (p := ⟨w.heap.size + 2, 0, none⟩) (by first | (simp; done) | (simp; omega))).trans (by go_simp)
  have f1_2_0 : w1.frozen? ⟨w.heap.size + 2, 0, none⟩ = false := (hb1.frozen (p := ⟨w.heap.size + 2, 0, none⟩) (by first | (simp; done) | (simp; omega))).trans (by go_simp)
  have x1_3_0 : w1.cell? ⟨w.heap.size + 3, 0, none⟩ = some (.int .i64 0) := (hb1.cell (p := ⟨w.heap.size + 3, 0, none⟩) (by first | (simp; done) | (simp; omega))).trans (by go_simp)
  have f1_3_0 : w1.frozen? ⟨w.heap.size + 3, 0, none⟩ = false := (hb1.frozen (p := ⟨w.heap.size + 3, 0, none⟩) (by first | (simp; done) | (simp; omega))).trans (by go_simp)
  have x1_3_1 : w1.cell? ⟨w.heap.size + 3, 1, none⟩ = some (.int .i64 0) := (hb1.cell (p := ⟨w.heap.size + 3, 1, none⟩) (by first | (simp; done) | (simp; omega))).trans (by go_simp)
  have f1_3_1 : w1.frozen? ⟨w.heap.size + 3, 1, none⟩ = false := (hb1.frozen (p := ⟨w.heap.size + 3, 1, none⟩) (by first | (simp; done) | (simp; omega))).trans (by go_simp)
  have x1_3_2 : w1.cell? ⟨w.heap.size + 3, 2, none⟩ = some (.int .i64 0) := (hb1.cell (p := ⟨w.heap.size + 3, 2, none⟩) (by first | (simp; done) | (simp; omega))).trans (by go_simp)
  have f1_3_2 : w1.frozen? ⟨w.heap.size + 3, 2, none⟩ = false := (hb1.frozen (p := ⟨w.heap.size + 3, 2, none⟩) (by first | (simp; done) | (simp; omega))).trans (by go_simp)
  have x1_3_3 : w1.cell? ⟨w.heap.size + 3, 3, none⟩ = some (.int .i64 0) := (hb1.cell (p := ⟨w.heap.size + 3, 3, none⟩) (by first | (simp; done) | (simp; omega))).trans (by go_simp)
  have f1_3_3 : w1.frozen? ⟨w.heap.size + 3, 3, none⟩ = false := (hb1.frozen (p := ⟨w.heap.size + 3, 3, none⟩) (by first | (simp; done) | (simp; omega))).trans (by go_simp)
  have s1 : w.heap.size + 4 ≤ w1.heap.size := by have := hb1.size; simp at this; omega
  clear h1 hb1 b0 h
  simp only [World.size_alloc] at hr1
  have hlt := rdAt_lt hr1
  go_wp2_with fail
  refine (l20Range_any _ 0 _ w1 hr1 (by omega) (by omega) (by omega)).mono ?_
  rintro e w2 ⟨L, u, rfl, ho, hl1, hd⟩
  have b2 := drawn_below hd b1 (by omega)
  have hs1 := ho.res
  obtain ⟨q1, _, hq1, hr2, hg⟩ := hd
  have x2_0_0 := (grown_cell (o := 0) hg (b := w.heap.size) (by omega) (by omega)).trans x1_0_0
  have f2_0_0 := (grown_frozen (o := 0) hg (b := w.heap.size) (by omega) (by omega)).trans f1_0_0
  have x2_1_0 := (grown_cell (o := 0) hg (b := w.heap.size + 1) (by omega) (by omega)).trans x1_1_0
  have f2_1_0 := (grown_frozen (o := 0) hg (b := w.heap.size + 1) (by omega) (by omega)).trans f1_1_0
  have x2_2_0 := (grown_cell (o := 0) hg (b := w.heap.size + 2) (by omega) (by omega)).trans x1_2_0
  have f2_2_0 := (grown_frozen (o := 0) hg (b := w.heap.size + 2) (by omega) (by omega)).trans f1_2_0
  have x2_3_0 := (grown_cell (o := 0) hg (b := w.heap.size + 3) (by omega) (by omega)).trans x1_3_0
  have f2_3_0 := (grown_frozen (o := 0) hg (b := w.heap.size + 3) (by omega) (by omega)).trans f1_3_0
  have x2_3_1 := (grown_cell (o := 1) hg (b := w.heap.size + 3) (by omega) (by omega)).trans x1_3_1
  have f2_3_1 := (grown_frozen (o := 1) hg (b := w.heap.size + 3) (by omega) (by omega)).trans f1_3_1
  have x2_3_2 := (grown_cell (o := 2) hg (b := w.heap.size + 3) (by omega) (by omega)).trans x1_3_2
  have f2_3_2 := (grown_frozen (o := 2) hg (b := w.heap.size + 3) (by omega) (by omega)).trans f1_3_2
  have x2_3_3 := (grown_cell (o := 3) hg (b := w.heap.size + 3) (by omega) (by omega)).trans x1_3_3
  have f2_3_3 := (grown_frozen (o := 3) hg (b := w.heap.size + 3) (by omega) (by omega)).trans f1_3_3
  clear x1_0_0 f1_0_0 x1_1_0 f1_1_0 x1_2_0 f1_2_0 x1_3_0 f1_3_0 x1_3_1 f1_3_1 x1_3_2 f1_3_2 x1_3_3 f1_3_3
  have s2 := hg.size
  obtain ⟨au, cu, rfl, _⟩ := id hs1
  clear hg ho hr1 b1
  go_wp2_with fail
  refine (l20Range_any _ q1 _ w2 hr2 (by omega) (by omega) (by omega)).mono ?_
  rintro e w3 ⟨M, v, rfl, ho, hl2, hd⟩
  have b3 := drawn_below hd b2 (by omega)
  have hs2 := ho.res
  obtain ⟨q2, _, hq2, hr3, hg⟩ := hd
  have x3_0_0 := (grown_cell (o := 0) hg (b := w.heap.size) (by omega) (by omega)).trans x2_0_0
  have f3_0_0 := (grown_frozen (o := 0) hg (b := w.heap.size) (by omega) (by omega)).trans f2_0_0
  have x3_1_0 := (grown_cell (o := 0) hg (b := w.heap.size + 1) (by omega) (by omega)).trans x2_1_0
  have f3_1_0 := (grown_frozen (o := 0) hg (b := w.heap.size + 1) (by omega) (by omega)).trans f2_1_0
  have x3_2_0 := (grown_cell (o := 0) hg (b := w.heap.size + 2) (by omega) (by omega)).trans x2_2_0
  have f3_2_0 := (grown_frozen (o := 0) hg (b := w.heap.size + 2) (by omega) (by omega)).trans f2_2_0
  have x3_3_0 := (grown_cell (o := 0) hg (b := w.heap.size + 3) (by omega) (by omega)).trans x2_3_0
  have f3_3_0 := (grown_frozen (o := 0) hg (b := w.heap.size + 3) (by omega) (by omega)).trans f2_3_0
  have x3_3_1 := (grown_cell (o := 1) hg (b := w.heap.size + 3) (by omega) (by omega)).trans x2_3_1
  have f3_3_1 := (grown_frozen (o := 1) hg (b := w.heap.size + 3) (by omega) (by omega)).trans f2_3_1
  have x3_3_2 := (grown_cell (o := 2) hg (b := w.heap.size + 3) (by omega) (by omega)).trans x2_3_2
  have f3_3_2 := (grown_frozen (o := 2) hg (b := w.heap.size + 3) (by omega) (by omega)).trans f2_3_2
  have x3_3_3 := (grown_cell (o := 3) hg (b := w.heap.size + 3) (by omega) (by omega)).trans x2_3_3
  have f3_3_3 := (grown_frozen (o := 3) hg (b := w.heap.size + 3) (by omega) (by omega)).trans f2_3_3
  clear x2_0_0 f2_0_0 x2_1_0 f2_1_0 x2_2_0 f2_2_0 x2_3_0 f2_3_0 x2_3_1 f2_3_1 x2_3_2 f2_3_2 x2_3_3 f2_3_3
  have hs1 := hs1.grownR hg (by omega)
  have s3 := hg.size
  obtain ⟨av, cv, rfl, _⟩ := id hs2
  clear hg ho hr2 b2
  go_wp2_with fail
  refine (l20Range_any _ q2 _ w3 hr3 (by omega) (by omega) (by omega)).mono ?_
  rintro e w4 ⟨N, z, rfl, ho, hl3, hd⟩
  have b4 := drawn_below hd b3 (by omega)
  have hs3 := ho.res
  obtain ⟨q3, _, hq3, hr4, hg⟩ := hd
  have x4_0_0 := (grown_cell (o := 0) hg (b := w.heap.size) (by omega) (by omega)).trans x3_0_0
  have f4_0_0 := (grown_frozen (o := 0) hg (b := w.heap.size) (by omega) (by omega)).trans f3_0_0
  have x4_1_0 := (grown_cell (o := 0) hg (b := w.heap.size + 1) (by omega) (by omega)).trans x3_1_0
  have f4_1_0 := (grown_frozen (o := 0) hg (b := w.heap.size + 1) (by omega) (by omega)).trans f3_1_0
  have x4_2_0 := (grown_cell (o := 0) hg (b := w.heap.size + 2) (by omega) (by omega)).trans x3_2_0
  have f4_2_0 := (grown_frozen (o := 0) hg (b := w.heap.size + 2) (by omega) (by omega)).trans f3_2_0
  have x4_3_0 := (grown_cell (o := 0) hg (b := w.heap.size + 3) (by omega) (by omega)).trans x3_3_0
  have f4_3_0 := (grown_frozen (o := 0) hg (b := w.heap.size + 3) (by omega) (by omega)).trans f3_3_0
  have x4_3_1 := (grown_cell (o := 1) hg (b := w.heap.size + 3) (by omega) (by omega)).trans x3_3_1
  have f4_3_1 := (grown_frozen (o := 1) hg (b := w.heap.size + 3) (by omega) (by omega)).trans f3_3_1
  have x4_3_2 := (grown_cell (o := 2) hg (b := w.heap.size + 3) (by omega) (by omega)).trans x3_3_2
  have f4_3_2 := (grown_frozen (o := 2) hg (b := w.heap.size + 3) (by omega) (by omega)).trans f3_3_2
  have x4_3_3 := (grown_cell (o := 3) hg (b := w.heap.size + 3) (by omega) (by omega)).trans x3_3_3
  have f4_3_3 := (grown_frozen (o := 3) hg (b := w.heap.size + 3) (by omega) (by omega)).trans f3_3_3
  clear x3_0_0 f3_0_0 x3_1_0 f3_1_0 x3_2_0 f3_2_0 x3_3_0 f3_3_0 x3_3_1 f3_3_1 x3_3_2 f3_3_2 x3_3_3 f3_3_3
  have hs1 := hs1.grownR hg (by omega)
  have hs2 := hs2.grownR hg (by omega)
  have s4 := hg.size
  obtain ⟨az, cz, rfl, _⟩ := id hs3
  clear hg ho hr3 b3
  go_wp2_with fail
  refine (version_any _ q3 0 w4 hr4 (by omega) (by omega) (by omega)).mono ?_
  rintro e w5 ⟨x, y, t, s, rfl, _, hd⟩
  have b5 := drawn_below hd b4 (by omega)
  obtain ⟨q4, _, _, _, hg⟩ := hd
  have x5_0_0 := (grown_cell (o := 0) hg (b := w.heap.size) (by omega) (by omega)).trans x4_0_0
  have f5_0_0 := (grown_frozen (o := 0) hg (b := w.heap.size) (by omega) (by omega)).trans f4_0_0
  have x5_1_0 := (grown_cell (o := 0) hg (b := w.heap.size + 1) (by omega) (by omega)).trans x4_1_0
  have f5_1_0 := (grown_frozen (o := 0) hg (b := w.heap.size + 1) (by omega) (by omega)).trans f4_1_0
  have x5_2_0 := (grown_cell (o := 0) hg (b := w.heap.size + 2) (by omega) (by omega)).trans x4_2_0
  have f5_2_0 := (grown_frozen (o := 0) hg (b := w.heap.size + 2) (by omega) (by omega)).trans f4_2_0
  have x5_3_0 := (grown_cell (o := 0) hg (b := w.heap.size + 3) (by omega) (by omega)).trans x4_3_0
  have f5_3_0 := (grown_frozen (o := 0) hg (b := w.heap.size + 3) (by omega) (by omega)).trans f4_3_0
  have x5_3_1 := (grown_cell (o := 1) hg (b := w.heap.size + 3) (by omega) (by omega)).trans x4_3_1
  have f5_3_1 := (grown_frozen (o := 1) hg (b := w.heap.size + 3) (by omega) (by omega)).trans f4_3_1
  have x5_3_2 := (grown_cell (o := 2) hg (b := w.heap.size + 3) (by omega) (by omega)).trans x4_3_2
  have f5_3_2 := (grown_frozen (o := 2) hg (b := w.heap.size + 3) (by omega) (by omega)).trans f4_3_2
  have x5_3_3 := (grown_cell (o := 3) hg (b := w.heap.size + 3) (by omega) (by omega)).trans x4_3_3
  have f5_3_3 := (grown_frozen (o := 3) hg (b := w.heap.size + 3) (by omega) (by omega)).trans f4_3_3
  clear x4_0_0 f4_0_0 x4_1_0 f4_1_0 x4_2_0 f4_2_0 x4_3_0 f4_3_0 x4_3_1 f4_3_1 x4_3_2 f4_3_2 x4_3_3 f4_3_3
  have hs1 := hs1.grownR hg (by omega)
  have hs2 := hs2.grownR hg (by omega)
  have hs3 := hs3.grownR hg (by omega)
  have HR1 := Lib.hid ((((((((hs1.setOther (b := w.heap.size) (o := 0) (x := .slice au L.length cu) (by omega)).setOther (b := w.heap.size + 1) (o := 0) (x := .slice av M.length cv) (by omega)).setOther (b := w.heap.size + 2) (o := 0) (x := .slice az N.length cz) (by omega)).setOther (b := w.heap.size + 3) (o := 0) (x := .int .i64 x) (by omega)).setOther (b := w.heap.size + 3) (o := 1) (x := .int .i64 y) (by omega)).setOther (b := w.heap.size + 3) (o := 2) (x := .int .i64 t) (by omega)).setOther (b := w.heap.size + 3) (o := 3) (x := .int .i64 s) (by omega)).mono (show w.heap.size ≤ w1.heap.size by omega))
  have HR2 := Lib.hid ((((((((hs2.setOther (b := w.heap.size) (o := 0) (x := .slice au L.length cu) (by omega)).setOther (b := w.heap.size + 1) (o := 0) (x := .slice av M.length cv) (by omega)).setOther (b := w.heap.size + 2) (o := 0) (x := .slice az N.length cz) (by omega)).setOther (b := w.heap.size + 3) (o := 0) (x := .int .i64 x) (by omega)).setOther (b := w.heap.size + 3) (o := 1) (x := .int .i64 y) (by omega)).setOther (b := w.heap.size + 3) (o := 2) (x := .int .i64 t) (by omega)).setOther (b := w.heap.size + 3) (o := 3) (x := .int .i64 s) (by omega)).mono (show w.heap.size ≤ w2.heap.size by omega))
  have HR3 := Lib.hid ((((((((hs3.setOther (b := w.heap.size) (o := 0) (x := .slice au L.length cu) (by omega)).setOther (b := w.heap.size + 1) (o := 0) (x := .slice av M.length cv) (by omega)).setOther (b := w.heap.size + 2) (o := 0) (x := .slice az N.length cz) (by omega)).setOther (b := w.heap.size + 3) (o := 0) (x := .int .i64 x) (by omega)).setOther (b := w.heap.size + 3) (o := 1) (x := .int .i64 y) (by omega)).setOther (b := w.heap.size + 3) (o := 2) (x := .int .i64 t) (by omega)).setOther (b := w.heap.size + 3) (o := 3) (x := .int .i64 s) (by omega)).mono (show w.heap.size ≤ w3.heap.size by omega))
  have HB := Lib.hid (((((((b5.setCell (p := ⟨w.heap.size, 0, none⟩) (by show w.heap.size ≤ w.heap.size; omega) (.slice au L.length cu)).setCell (p := ⟨w.heap.size + 1, 0, none⟩) (by show w.heap.size ≤ w.heap.size + 1; omega) (.slice av M.length cv)).setCell (p := ⟨w.heap.size + 2, 0, none⟩) (by show w.heap.size ≤ w.heap.size + 2; omega) (.slice az N.length cz)).setCell (p := ⟨w.heap.size + 3, 0, none⟩) (by show w.heap.size ≤ w.heap.size + 3; omega) (.int .i64 x)).setCell (p := ⟨w.heap.size + 3, 1, none⟩) (by show w.heap.size ≤ w.heap.size + 3; omega) (.int .i64 y)).setCell (p := ⟨w.heap.size + 3, 2, none⟩) (by show w.heap.size ≤ w.heap.size + 3; omega) (.int .i64 t)).setCell (p := ⟨w.heap.size + 3, 3, none⟩) (by show w.heap.size ≤ w.heap.size + 3; omega) (.int .i64 s))
  clear hg hr4 b4 b5 hs1 hs2 hs3
  go_wp2_with fail
  exact bodyPost_ret (v := .tuple #[.agg #[.slice au L.length cu], .agg #[.slice av M.length cv], .agg #[.slice az N.length cz], ver x y t s]) (by simp [results, Try.results40, go_sem, x5_0_0, x5_1_0, x5_2_0, x5_3_0, x5_3_1, x5_3_2, x5_3_3]) rfl ⟨L, M, N, _, _, _, _, _, _, _, rfl, HR1.out, HR2.out, HR3.out, hl1, hl2, hl3, HB.out⟩

end Go.Proofs.Ytflmljgmmcdniaa

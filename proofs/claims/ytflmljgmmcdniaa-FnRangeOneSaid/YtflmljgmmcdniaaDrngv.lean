/- Contracts of the draws of ranges from one version, over this seat's translation: each answers with some version and changes nothing that was there. Condition: the code is readable. -/
import Derived.Test.YtflmljgmmcdniaaDdraw
namespace Go.Proofs.Ytflmljgmmcdniaa
open Go.ChangeShapes Go.WideShapes Go.ChangeAt Go.RowKit Go.Sort

set_option maxHeartbeats 1000000 in
theorem DrawRangeFrom_any (a : Option Addr) (len cap : Nat) (w : World) (h : CodeIn w a len cap) : Calls Try.prog 41 #[.slice a len cap] w (AnyVer w) := by
  have b0 := (Below.refl w.heap.size w).alloc (Nat.le_refl _) (.cells #[.int .i64 0, .int .i64 0, .int .i64 0, .int .i64 0] 43)
  have h1 := codeIn_below h b0
  have v0 := VerBlk.new w 0 0 0 0
  go_enter Try.func41, Try.ntmps41
  go_wp2_with fail
  refine (open_any a len cap _ h1).mono ?_
  rintro e w1 ⟨rfl, hr1, hb1⟩
  have b1 := b0.trans (hb1.mono (by simp))
  have v1 : VerBlk w1 w.heap.size 0 0 0 0 := (hb1.block _ (by simp)).trans v0
  clear h1 v0 hb1 b0 h
  simp only [World.size_alloc] at hr1
  go_wp2_with fail
  refine (version_any _ 0 _ w1 hr1 (by omega) (by omega) (by omega)).mono ?_
  rintro e w2 ⟨x, y, z, u, rfl, _, hd⟩
  have b2 := drawn_below hd b1 (by omega)
  obtain ⟨q, _, _, _, hg⟩ := hd
  have v2 := v1.kept hg (by omega)
  obtain ⟨y0, y1, y2, y3, yf⟩ := v2.cells
  clear hg hr1 b1 v1
  go_wp2_with fail
  exact bodyPost_ret (v := ver x y z u) (by simp [results, Try.results41, go_sem, y0, y1, y2, y3]) rfl ⟨x, y, z, u, rfl, by repeat (first | exact b2 | refine Below.setCell ?_ (by simp) _)⟩


set_option maxHeartbeats 1000000 in
theorem DrawRangeOne_any (a : Option Addr) (len cap : Nat) (w : World) (h : CodeIn w a len cap) : Calls Try.prog 44 #[.slice a len cap] w (AnyVer w) := by
  have b0 := (Below.refl w.heap.size w).alloc (Nat.le_refl _) (.cells #[.int .i64 0, .int .i64 0, .int .i64 0, .int .i64 0] 43)
  have h1 := codeIn_below h b0
  have v0 := VerBlk.new w 0 0 0 0
  go_enter Try.func44, Try.ntmps44
  go_wp2_with fail
  refine (open_any a len cap _ h1).mono ?_
  rintro e w1 ⟨rfl, hr1, hb1⟩
  have b1 := b0.trans (hb1.mono (by simp))
  have v1 : VerBlk w1 w.heap.size 0 0 0 0 := (hb1.block _ (by simp)).trans v0
  clear h1 v0 hb1 b0 h
  simp only [World.size_alloc] at hr1
  go_wp2_with fail
  refine (version_any _ 0 _ w1 hr1 (by omega) (by omega) (by omega)).mono ?_
  rintro e w2 ⟨x, y, z, u, rfl, _, hd⟩
  have b2 := drawn_below hd b1 (by omega)
  obtain ⟨q, _, _, _, hg⟩ := hd
  have v2 := v1.kept hg (by omega)
  obtain ⟨y0, y1, y2, y3, yf⟩ := v2.cells
  clear hg hr1 b1 v1
  go_wp2_with fail
  exact bodyPost_ret (v := ver x y z u) (by simp [results, Try.results44, go_sem, y0, y1, y2, y3]) rfl ⟨x, y, z, u, rfl, by repeat (first | exact b2 | refine Below.setCell ?_ (by simp) _)⟩


end Go.Proofs.Ytflmljgmmcdniaa

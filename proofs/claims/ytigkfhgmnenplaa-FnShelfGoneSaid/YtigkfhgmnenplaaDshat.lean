/- The contract of the model's draws of a shelf, a name and a version, over this seat's translation: whatever is drawn, at most 31 releases; nothing that was there has changed. Condition: the code is readable. -/
import Derived.BigFrame
import Derived.Test.YtigkfhgmnenplaaDknown
import Derived.Test.YtigkfhgmnenplaaGd
import Derived.Test.YtigkfhgmnenplaaGh
import Derived.Test.YtigkfhgmnenplaaGe
namespace Go.Proofs.Ytigkfhgmnenplaa
open Go.ChangeShapes Go.WideShapes Go.ChangeAt Go.RowKit Go.Joins Go.Sort

namespace Dsg
open Foot Dsh Dkn
theorem boxed {V : World} {B p : Nat} {v : Value} {S : List Rel} {fs : List (List Nat)} (h : RGrow V B v S fs) (hp : p < B) (a b c d : Value) : RGrow ((((V.setCell ⟨p, 0, none⟩ a).setCell ⟨p, 1, none⟩ b).setCell ⟨p, 2, none⟩ c).setCell ⟨p, 3, none⟩ d).drew B v S fs := by
  have e : ∀ j, j ≠ p → ((((V.setCell ⟨p, 0, none⟩ a).setCell ⟨p, 1, none⟩ b).setCell ⟨p, 2, none⟩ c).setCell ⟨p, 3, none⟩ d).drew.heap[j]? = V.heap[j]? := fun j hj =>
    (Below.heap_setCell _ ⟨p, 3, none⟩ d j hj).trans ((Below.heap_setCell _ ⟨p, 2, none⟩ c j hj).trans ((Below.heap_setCell _ ⟨p, 1, none⟩ b j hj).trans (Below.heap_setCell _ ⟨p, 0, none⟩ a j hj)))
  have z : ((((V.setCell ⟨p, 0, none⟩ a).setCell ⟨p, 1, none⟩ b).setCell ⟨p, 2, none⟩ c).setCell ⟨p, 3, none⟩ d).drew.heap.size = V.heap.size := by simp [World.setCell, World.drew]
  obtain ⟨cs, ho, he, hn, hi⟩ := h
  exact ⟨cs, Copy.own_kept ho (fun k e' => e k (by have := (World.ownsRow.lt ho k e').1; omega)), he.kept fun b k => e b (by have := (hi b k).1; omega), hn, fun b k => ⟨(hi b k).1, by rw [z]; exact (hi b k).2.1, (hi b k).2.2⟩⟩
theorem below_drew {B : Nat} {w V : World} (h : Below B w V) : Below B w V.drew := ⟨h.os, h.tape, h.output, h.size, h.block⟩

def KnownG (w : World) (e : Ending) (w' : World) : Prop := ∃ S sa caps fs, ∃ n a b c d : Int, e = .returned (.tuple #[.slice sa S.length caps, .int .i64 n, ver a b c d]) ∧ RGrow w' w.heap.size (.slice sa S.length caps) S fs ∧ S.length ≤ 31 ∧ SzOk S ∧ Below w.heap.size w w'
def AnyKnown (w : World) (e : Ending) (w' : World) : Prop := ∃ S sa caps, ∃ n a b c d : Int, e = .returned (.tuple #[.slice sa S.length caps, .int .i64 n, ver a b c d]) ∧ RlAt w' w'.heap.size (.slice sa S.length caps) S ∧ S.length ≤ 31 ∧ SzOk S ∧ Below w.heap.size w w'

set_option maxRecDepth 100000 in
set_option maxHeartbeats 2000000 in
theorem DrawShelfAt_grow (a : Option Addr) (len cap : Nat) (w : World) (h : CodeIn w a len cap) : Calls Try.prog 114 #[.slice a len cap] w (KnownG w) := by
  have v1 := VC.new w
  have s1 : w.heap.size < (w.alloc (.cells #[.int .i64 0, .int .i64 0, .int .i64 0, .int .i64 0] 34)).heap.size := by simp
  obtain ⟨w1, hw1⟩ : ∃ V : World, V = w.alloc (.cells #[.int .i64 0, .int .i64 0, .int .i64 0, .int .i64 0] 34) := ⟨_, rfl⟩
  have b1 : Below w.heap.size w w1 := by rw [hw1]; exact (Below.refl _ _).alloc (Nat.le_refl _) _
  have h1 : CodeIn w1 a len cap := codeIn_below h b1
  rw [← hw1] at v1 s1
  go_enter Try.func114, Try.ntmps114
  go_upto_region 1 with fail
  rw [← hw1]
  clear hw1 h
  go_wp2_with fail
  refine (open_any a len cap _ h1).mono ?_
  rintro e w2 ⟨rfl, hr2, hb2⟩
  have v2 := v1.below hb2 s1
  have s2 : w.heap.size < w2.heap.size := Nat.lt_of_lt_of_le s1 hb2.size
  have b2 := b1.trans (hb2.mono b1.size)
  have hz2 := rdAt_lt hr2
  clear v1 h1
  go_wp2_with fail
  refine (l20Shelf_any _ 0 4 15 w2 (by omega) hr2 (by omega) (by omega) (by omega)).mono ?_
  rintro e w3 ⟨S, v, fs, rfl, hg, hl, hsz, hd⟩
  have b3 := drawn_below hd b2 (by omega)
  obtain ⟨sa, caps, rfl, hform, hcap⟩ := hg.form
  obtain ⟨q, hq0, hq1, hr3, hg3⟩ := hd
  have v3 := VC.drawn v2 hg3 s2 (by omega)
  have s3 : w.heap.size < w3.heap.size := Nat.lt_of_lt_of_le s2 hg3.size
  have HG := Lib.hid hg
  clear hg hr2 hg3 hb2 v2
  go_wp2_with fail
  refine (l20Known_any _ q w2.heap.size sa caps S fs w3 hr3 (by omega) HG.out (by omega) hl).mono ?_
  rintro e w4 ⟨n, va, vb, vc, vd, rfl, hd⟩
  have b4 := drawn_below hd b3 (by omega)
  obtain ⟨q', _, _, _, hg4⟩ := hd
  have v4 := VC.drawn v3 hg4 s3 (by omega)
  have s4 : w.heap.size < w4.heap.size := Nat.lt_of_lt_of_le s3 hg4.size
  have HG4 := Lib.hid (HG.out.drawn hg4 (by omega))
  clear hg4 hr3 v3
  obtain ⟨w5, hw5⟩ : ∃ V : World, V = w4.alloc (.cells #[.int .i64 va, .int .i64 vb, .int .i64 vc, .int .i64 vd] 34) := ⟨_, rfl⟩
  have b5 := b4.trans ((show Below w4.heap.size w4 w5 by rw [hw5]; exact (Below.refl _ _).alloc (Nat.le_refl _) _).mono b4.size)
  have z45 : w4.heap.size + 1 ≤ w5.heap.size := by rw [hw5]; simp
  have v5 : VC w5 w.heap.size := by rw [hw5]; exact VC.alloc v4 s4 _
  have HG5 := Lib.hid (show RGrow w5 w2.heap.size (.slice sa S.length caps) S fs by rw [hw5]; exact HG4.out.below ((Below.refl _ _).alloc (Nat.le_refl _) _))
  have HAE := Lib.hid ((boxed HG5.out (p := w.heap.size) (by omega) (.int .i64 va) (.int .i64 vb) (.int .i64 vc) (.int .i64 vd)).mono (B' := w.heap.size) (by omega))
  have c0 : w5.cell? ⟨w4.heap.size, 0, none⟩ = some (.int .i64 va) := by rw [hw5]; go_simp
  have c1 : w5.cell? ⟨w4.heap.size, 1, none⟩ = some (.int .i64 vb) := by rw [hw5]; go_simp
  have c2 : w5.cell? ⟨w4.heap.size, 2, none⟩ = some (.int .i64 vc) := by rw [hw5]; go_simp
  have c3 : w5.cell? ⟨w4.heap.size, 3, none⟩ = some (.int .i64 vd) := by rw [hw5]; go_simp
  clear v4
  obtain ⟨u0, u1, u2, u3⟩ := v5.stored (.int .i64 va) (.int .i64 vb) (.int .i64 vc) (.int .i64 vd)
  have NB := Lib.hid (b5.stored (Nat.le_refl _) (.int .i64 va) (.int .i64 vb) (.int .i64 vc) (.int .i64 vd))
  obtain ⟨x0, x1, x2, x3, y0, y1, y2, y3, g0, g1, g2, g3⟩ := v5
  go_upto_region 4 with fail
  rw [← hw5]
  clear hw5
  go_region
  all_goals
    go_wp2_with fail
    exact bodyPost_ret (v := .tuple #[.slice sa S.length caps, .int .i64 n, ver va vb vc vd]) (by simp [results, Try.results114, go_sem, u0, u1, u2, u3]) rfl ⟨S, sa, caps, _, n, va, vb, vc, vd, rfl, HAE.out, hl, hsz, below_drew NB.out⟩

set_option maxRecDepth 100000 in
set_option maxHeartbeats 2000000 in
theorem DrawShelfGone_any (a : Option Addr) (len cap : Nat) (w : World) (h : CodeIn w a len cap) : Calls Try.prog 62 #[.slice a len cap] w (AnyKnown w) := by
  have v1 := VC.new w
  have s1 : w.heap.size < (w.alloc (.cells #[.int .i64 0, .int .i64 0, .int .i64 0, .int .i64 0] 34)).heap.size := by simp
  obtain ⟨w1, hw1⟩ : ∃ V : World, V = w.alloc (.cells #[.int .i64 0, .int .i64 0, .int .i64 0, .int .i64 0] 34) := ⟨_, rfl⟩
  have b1 : Below w.heap.size w w1 := by rw [hw1]; exact (Below.refl _ _).alloc (Nat.le_refl _) _
  have h1 : CodeIn w1 a len cap := codeIn_below h b1
  rw [← hw1] at v1 s1
  go_enter Try.func62, Try.ntmps62
  go_upto_region 1 with fail
  rw [← hw1]
  clear hw1 h
  go_wp2_with fail
  refine (DrawShelfAt_grow a len cap _ h1).mono ?_
  rintro e w2 ⟨S, sa, caps, fs, n, va, vb, vc, vd, rfl, hg, hl, hsz, hb⟩
  have v2 : VC w2 w.heap.size := v1.below hb s1
  have b2 := b1.trans (hb.mono b1.size)
  have HAE := Lib.hid (boxed hg (p := w.heap.size) s1 (.int .i64 va) (.int .i64 vb) (.int .i64 vc) (.int .i64 vd)).at
  obtain ⟨u0, u1, u2, u3⟩ := v2.stored (.int .i64 va) (.int .i64 vb) (.int .i64 vc) (.int .i64 vd)
  have NB := Lib.hid (b2.stored (Nat.le_refl _) (.int .i64 va) (.int .i64 vb) (.int .i64 vc) (.int .i64 vd))
  obtain ⟨x0, x1, x2, x3, y0, y1, y2, y3, g0, g1, g2, g3⟩ := v2
  clear hg hb v1 h1
  go_wp2_with fail
  exact bodyPost_ret (v := .tuple #[.slice sa S.length caps, .int .i64 n, ver va vb vc vd]) (by simp [results, Try.results62, go_sem, u0, u1, u2, u3]) rfl ⟨S, sa, caps, n, va, vb, vc, vd, rfl, HAE.out, hl, hsz, NB.out⟩
end Dsg
end Go.Proofs.Ytigkfhgmnenplaa

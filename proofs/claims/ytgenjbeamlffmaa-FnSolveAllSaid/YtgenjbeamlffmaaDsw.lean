/- The contract of the model's draw of a shelf, needs and a number (DrawSolveAll), over this seat's translation: whatever is drawn, at most 31 releases and nine needs; nothing that was there has changed. Condition: the code is readable. -/
import Derived.Test.YtgenjbeamlffmaaGl
import Derived.Deep.RegionLaw
namespace Go.Proofs.Ytgenjbeamlffmaa
open Go.RowKit Go.Sort

namespace Dcr
open Foot Dsh Dpk Dch
/-- Block g is the table of numbers that is drawn from. -/
def TabI (w : World) (g : Nat) : Prop := w.heap[g]? = some (.cells #[.int .i64 50, .int .i64 50, .int .i64 50, .int .i64 3, .int .i64 1, .int .i64 0, .int .i64 (-1), .int .i64 51] 3 (0, 0))
theorem TabI.new (w : World) : TabI (w.alloc (.cells #[.int .i64 50, .int .i64 50, .int .i64 50, .int .i64 3, .int .i64 1, .int .i64 0, .int .i64 (-1), .int .i64 51] 3)) w.heap.size := heap_alloc_new w _
theorem TabI.kept {w w' : World} {g R : Nat} (h : TabI w g) (hg : w.grownBy w' (some R)) (hne : g ≠ R) : TabI w' g :=
  (hg.block g (Array.getElem?_eq_some_iff.1 h).1 (fun e => by injection e with e; exact hne e)).trans h
theorem TabI.cell {w : World} {g j : Nat} {v : Value} (h : TabI w g) (hv : (#[.int .i64 50, .int .i64 50, .int .i64 50, .int .i64 3, .int .i64 1, .int .i64 0, .int .i64 (-1), .int .i64 51] : Array Value)[j]? = some v) : w.cell? ⟨g, j, none⟩ = some v := (cell_of_row w g j _ _ (0, 0) h).trans hv
theorem tab_some {j : Nat} (h : j < 8) : ∃ z : Int, (#[.int .i64 50, .int .i64 50, .int .i64 50, .int .i64 3, .int .i64 1, .int .i64 0, .int .i64 (-1), .int .i64 51] : Array Value)[j]? = some (.int .i64 z) ∧ ∀ h : j < ([.int .i64 50, .int .i64 50, .int .i64 50, .int .i64 3, .int .i64 1, .int .i64 0, .int .i64 (-1), .int .i64 51] : List Value).length, ([.int .i64 50, .int .i64 50, .int .i64 50, .int .i64 3, .int .i64 1, .int .i64 0, .int .i64 (-1), .int .i64 51] : List Value)[j]'h = .int .i64 z := by
  have : j = 0 ∨ j = 1 ∨ j = 2 ∨ j = 3 ∨ j = 4 ∨ j = 5 ∨ j = 6 ∨ j = 7 := by omega
  rcases this with rfl | rfl | rfl | rfl | rfl | rfl | rfl | rfl <;> exact ⟨_, rfl, fun _ => rfl⟩
theorem grown_of_below {w W x : World} {r : Option Nat} (hb : Below w.heap.size w W) (h : W.grownBy x r) : w.grownBy x r := ⟨h.os.trans hb.os, h.tape.trans hb.tape, h.output.trans hb.output, Nat.le_trans hb.size h.size, fun k hk hne => (h.block k (Nat.lt_of_lt_of_le hk hb.size) hne).trans (hb.block k hk)⟩
def AnyAll (w : World) (e : Ending) (w' : World) : Prop := ∃ S sa caps M na ncap, ∃ mo : Int, e = .returned (.tuple #[.slice sa S.length caps, .slice na M.length ncap, .int .i64 mo]) ∧ RlAt w' w'.heap.size (.slice sa S.length caps) S ∧ NdAt w' w'.heap.size (.slice na M.length ncap) M ∧ S.length ≤ 31 ∧ SzOk S ∧ M.length ≤ 9 ∧ (∀ q ∈ M, q.2.length ≤ 41) ∧ Below w.heap.size w w'

set_option maxRecDepth 100000 in
set_option maxHeartbeats 4000000 in
theorem DrawSolveAll_any (a : Option Addr) (len cap : Nat) (w : World) (h : CodeIn w a len cap) : Calls Try.prog 60 #[.slice a len cap] w (AnyAll w) := by
  go_enter Try.func60, Try.ntmps60
  go_wp2_with fail
  refine (open_any a len cap _ h).mono ?_
  rintro e w1 ⟨rfl, hr1, hb1⟩
  have hz1 := rdAt_lt hr1
  have hz2 := hb1.size
  obtain ⟨R, hR⟩ : ∃ R, w.heap.size = R := ⟨_, rfl⟩
  rw [hR] at hz1 hr1 ⊢
  have HR := Lib.hid hR
  have HB1 := Lib.hid hb1
  clear hR hb1 hz2
  go_wp2_with fail
  go_region_with (first
      | (go_at_call 105; refine (l20Shelf_any _ 0 3 15 _ (by omega) (rdAt_below hr1 (by go_grown) hz1) (by omega) (by omega) (by omega)).mono ?_; rintro e x2 ⟨S, v2, fs, rfl, hg2, hl, hsz, q2, hq20, hq21, hr2, gw2⟩; have G2 : w1.grownBy x2 (some R) := grown_of_below (by go_grown) gw2; have y2 := G2.size; obtain ⟨sa, caps, rfl, hform, hcap⟩ := hg2.form; (try (have T2 : TabI x2 w1.heap.size := TabI.kept (by first | exact TabI.new w1 | exact TabI.new w1.drew) gw2 (by omega))))
      | (go_at_call 106; refine (l20NeedsM_any _ q2 3 (-1) 15 _ (by omega) (rdAt_below hr2 (by go_grown) (rdAt_lt hr2)) (by omega) (by omega) (by omega)).mono ?_; rintro e x3 ⟨M, v3, rfl, hown, hm, hm2, q3, hq30, hq31, hr3, gw3⟩; have G3 : x2.grownBy x3 (some R) := grown_of_below (by go_grown) gw3; have y3 := G3.size; obtain ⟨na, ncap, rfl, hx⟩ := id hown.at; (try (have T3 : TabI x3 w1.heap.size := TabI.kept (by exact T2) gw3 (by omega))); (try (have T3 : TabI x3 x2.heap.size := TabI.kept (by first | exact TabI.new x2 | exact TabI.new x2.drew) gw3 (by omega))))
      | (go_at_call 107; refine (pick_any _ q3 8 _ (rdAt_below hr3 (by go_grown) (rdAt_lt hr3)) (by omega)).mono ?_; rintro e x4 ⟨k4, rfl, a0, a1, yy, hr4, gw4⟩; have G4 : x3.grownBy x4 (some R) := grown_of_below (by go_grown) gw4; obtain ⟨j, rfl⟩ : ∃ j : Nat, k4 = (j : Int) := ⟨k4.toNat, by omega⟩; have j8 : j < 8 := (by have := a1 (by omega); omega); obtain ⟨z, hz, hzl⟩ := tab_some j8; have j0 : (0 : Int) ≤ (j : Int) := (by omega); have j1 : (j : Int) < 8 := (by omega); (try (have c4 := TabI.cell (TabI.kept (by exact T3) gw4 (by omega)) hz)); (try (have c4 := TabI.cell (g := x3.heap.size) (TabI.kept (by first | exact TabI.new x3 | exact TabI.new x3.drew) gw4 (by omega)) hz)))
      | fail)
  all_goals
    have b4 : Below w.heap.size w x4 := HB1.out.grown (grown_trans (grown_trans G2 G3) G4) HB1.out.size (fun k hk => by injection hk with hk; have := HR.out; omega)
    have HA := Lib.hid ((hg2.drawn G3 (by first | omega | (simp; omega))).drawn G4 (by first | omega | (simp; omega))).at
    have HN := Lib.hid (hown.drawn G4 (by first | omega | (simp; omega)) (by first | omega | (simp; omega))).at
    clear hx hown hg2 hform hcap gw2 gw3 gw4 G2 G3 G4 hr1 hr2 hr3 hr4
    go_wp2_with fail
    exact bodyPost_ret (v := .tuple #[.slice sa S.length caps, .slice na M.length ncap, .int .i64 z]) (by first | (simp [results, Try.results60, go_sem]; done) | (simp [results, Try.results60, go_sem]; exact hzl _)) rfl ⟨S, sa, caps, M, na, ncap, z, rfl, by first | exact HA.out | exact HA.out.stepAt (by go_grown), by first | exact HN.out | exact HN.out.stepAt (by go_grown), hl, hsz, hm, hm2, by first | exact b4 | exact b4.trans ((show Below x4.heap.size x4 _ by go_grown).mono b4.size)⟩
end Dcr
end Go.Proofs.Ytgenjbeamlffmaa

/- The contract of the model's draw of a shelf and needs, over this seat's translation: whatever is drawn, at most 31 releases and nine needs; nothing that was there has changed. Condition: the code is readable. -/
import Derived.Test.YtigkfhgmnenplaaDshelf
import Derived.Test.YtigkfhgmnenplaaGe
namespace Go.Proofs.Ytigkfhgmnenplaa
open Go.RowKit Go.Sort

namespace Dnm
open Foot Dsh
def AnyNames (w : World) (e : Ending) (w' : World) : Prop := ∃ S sa caps M na ncap, e = .returned (.tuple #[.slice sa S.length caps, .slice na M.length ncap]) ∧ RlAt w' w'.heap.size (.slice sa S.length caps) S ∧ NdAt w' w'.heap.size (.slice na M.length ncap) M ∧ S.length ≤ 31 ∧ SzOk S ∧ M.length ≤ 9 ∧ (∀ q ∈ M, q.2.length ≤ 41) ∧ Below w.heap.size w w'

set_option maxRecDepth 100000 in
set_option maxHeartbeats 4000000 in
theorem DrawShelfNames_any (a : Option Addr) (len cap : Nat) (w : World) (h : CodeIn w a len cap) : Calls Try.prog 64 #[.slice a len cap] w (AnyNames w) := by
  go_enter Try.func64, Try.ntmps64
  go_wp2_with fail
  refine (open_any a len cap _ h).mono ?_
  rintro e w2 ⟨rfl, hr2, hb2⟩
  have hz2 := rdAt_lt hr2
  go_wp2_with fail
  refine (l20Shelf_any _ 0 5 15 w2 (by omega) hr2 (by omega) (by omega) (by omega)).mono ?_
  rintro e w3 ⟨S, v, fs, rfl, hg, hl, hsz, hd⟩
  have b3 := drawn_below hd hb2 (by omega)
  obtain ⟨sa, caps, rfl, hform, hcap⟩ := hg.form
  obtain ⟨q, hq0, hq1, hr3, hg3⟩ := hd
  have HG := Lib.hid hg
  clear hg hr2 hg3 hb2
  go_wp2_with fail
  refine (l20NeedsM_any _ q 5 (-1) 15 w3 (by omega) hr3 (by omega) (by omega) (by omega)).mono ?_
  rintro e w4 ⟨M, v, rfl, hown, hm, hm2, hd⟩
  have b4 := drawn_below hd b3 (by omega)
  obtain ⟨q4, hq40, hq41, hr4, hg4⟩ := hd
  have HA := Lib.hid (HG.out.drawn hg4 hz2).at
  have HN := Lib.hid hown.at
  obtain ⟨na, ncap, rfl, hx⟩ := id hown.at
  clear hx hown hr3 hr4 hg4
  go_wp2_with fail
  exact bodyPost_ret (v := .tuple #[.slice sa S.length caps, .slice na M.length ncap]) (by simp [results, Try.results64, go_sem]) rfl ⟨S, sa, caps, M, na, ncap, rfl, HA.out, HN.out, hl, hsz, hm, hm2, b4⟩
end Dnm
end Go.Proofs.Ytigkfhgmnenplaa

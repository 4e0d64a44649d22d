/- The contracts of the model's draws for least versions, over this seat's translation: a shelf and a need, a shelf and needs, picks; nothing that was there has changed. Condition: the code is readable. -/
import Derived.Test.YtgnjhmmedogcoaaDfits
import Derived.Test.YtgnjhmmedogcoaaDnames
import Derived.Test.YtgnjhmmedogcoaaDpicks
namespace Go.Proofs.Ytgnjhmmedogcoaa
open Go.RowKit Go.Sort

namespace Dls
open Foot Dsh Dfi Dnm Dpk
set_option maxRecDepth 100000 in
set_option maxHeartbeats 4000000 in
theorem DrawLeastVisit_any (a : Option Addr) (len cap : Nat) (w : World) (h : CodeIn w a len cap) : Calls Try.prog 33 #[.slice a len cap] w (AnyNames w) := by
  go_enter Try.func33, Try.ntmps33
  go_wp2_with fail
  refine (open_any a len cap _ h).mono ?_
  rintro e w2 ⟨rfl, hr2, hb2⟩
  have hz2 := rdAt_lt hr2
  go_wp2_with fail
  refine (l20Shelf_any _ 0 4 15 w2 (by omega) hr2 (by omega) (by omega) (by omega)).mono ?_
  rintro e w3 ⟨S, v, fs, rfl, hg, hl, hsz, hd⟩
  have b3 := drawn_below hd hb2 (by omega)
  obtain ⟨sa, caps, rfl, hform, hcap⟩ := hg.form
  obtain ⟨q, hq0, hq1, hr3, hg3⟩ := hd
  have HG := Lib.hid hg
  clear hg hr2 hg3 hb2
  go_wp2_with fail
  refine (l20NeedsM_any _ q 4 (-1) 15 w3 (by omega) hr3 (by omega) (by omega) (by omega)).mono ?_
  rintro e w4 ⟨M, v, rfl, hown, hm, hm2, hd⟩
  have b4 := drawn_below hd b3 (by omega)
  obtain ⟨q4, hq40, hq41, hr4, hg4⟩ := hd
  have HA := Lib.hid (HG.out.drawn hg4 hz2).at
  have HN := Lib.hid hown.at
  obtain ⟨na, ncap, rfl, hx⟩ := id hown.at
  clear hx hown hr3 hr4 hg4
  go_wp2_with fail
  exact bodyPost_ret (v := .tuple #[.slice sa S.length caps, .slice na M.length ncap]) (by simp [results, Try.results33, go_sem]) rfl ⟨S, sa, caps, M, na, ncap, rfl, HA.out, HN.out, hl, hsz, hm, hm2, b4⟩
set_option maxRecDepth 100000 in
set_option maxHeartbeats 4000000 in
theorem DrawLeast_any (a : Option Addr) (len cap : Nat) (w : World) (h : CodeIn w a len cap) : Calls Try.prog 38 #[.slice a len cap] w (AnyNames w) := by
  go_enter Try.func38, Try.ntmps38
  go_wp2_with fail
  refine (DrawLeastVisit_any a len cap w h).mono ?_
  rintro e w1 ⟨S, sa, caps, M, na, ncap, rfl, hat, hnd, r⟩
  go_wp2_with fail
  exact bodyPost_ret (v := .tuple #[.slice sa S.length caps, .slice na M.length ncap]) (by simp [results, Try.results38, go_sem]) rfl ⟨S, sa, caps, M, na, ncap, rfl, hat, hnd, r⟩
def AnyPks (w : World) (e : Ending) (w' : World) : Prop := ∃ A v, e = .returned v ∧ POwn w' w.heap.size v A ∧ A.length ≤ 7 ∧ Below w.heap.size w w'
set_option maxRecDepth 100000 in
set_option maxHeartbeats 4000000 in
theorem DrawLeastNeeds_any (a : Option Addr) (len cap : Nat) (w : World) (h : CodeIn w a len cap) : Calls Try.prog 44 #[.slice a len cap] w (AnyPks w) := by
  go_enter Try.func44, Try.ntmps44
  go_wp2_with fail
  refine (open_any a len cap _ h).mono ?_
  rintro e w1 ⟨rfl, hr1, hb1⟩
  have hz := rdAt_lt hr1
  have z1 := hb1.size
  go_wp2_with fail
  refine (l20Shelf_any _ 0 4 0 w1 (by omega) hr1 (by omega) (by omega) (by omega)).mono ?_
  rintro e w2 ⟨S, v, fs, rfl, hg, hl, hsz, hd⟩
  have b2 := drawn_below hd hb1 (Nat.le_refl _)
  obtain ⟨sa, caps, rfl, hform, hcap⟩ := hg.form
  obtain ⟨q, hq0, hq1, hr2, hg2⟩ := hd
  have HG := Lib.hid hg
  have z2 := b2.size
  clear hg hr1 hg2 hb1
  go_wp2_with fail
  refine (l20Picks_any _ q w1.heap.size 9 sa caps S fs w2 hr2 (by omega) (by omega) (by omega) HG.out (by omega) hl).mono ?_
  rintro e w3 ⟨A, v, rfl, ho, hl, hd⟩
  have b3 := drawn_below hd b2 (Nat.le_refl _)
  have HO := Lib.hid (show POwn w3 w.heap.size v A from ⟨ho.1, by rcases ho.2 with h | ⟨g, c, cur, hv, hb, rest⟩; exact .inl h; exact .inr ⟨g, c, cur, hv, Nat.le_trans z2 hb, rest⟩⟩)
  clear hd ho hr2 b2
  go_wp2_with fail
  go_ret
  exact ⟨A, v, rfl, HO.out, hl, b3⟩
end Dls
end Go.Proofs.Ytgnjhmmedogcoaa

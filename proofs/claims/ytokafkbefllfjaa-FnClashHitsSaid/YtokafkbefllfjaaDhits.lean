/- The contract of the model's draw of a clash and picks (DrawClashHits), over this seat's translation: whatever is drawn, at most six terms and 30 picks; nothing that was there has changed. Condition: the code is readable. -/
import Derived.Test.YtokafkbefllfjaaDclash
import Derived.Test.YtokafkbefllfjaaDpicks
import Derived.Test.YtokafkbefllfjaaGe
namespace Go.Proofs.Ytokafkbefllfjaa
open Go.RowKit Go.Sort

namespace Tmo
open Foot Dsh Dpk
theorem own_cap {w : World} {B t s n m c : Nat} {a : Option Addr} {xs : List Value} (h : w.ownsRow B t s (.slice a m c) n xs) : n ≤ c := by
  rcases h.2 with ⟨e, h0⟩ | ⟨g, cap, cur, e, hb, hg, hnc, _⟩
  · omega
  · simp only [Value.slice.injEq] at e
    obtain ⟨_, _, rfl⟩ := e
    exact hnc
def AnyHits (w : World) (e : Ending) (w' : World) : Prop := ∃ M va vc C pa pc, e = .returned (.tuple #[.slice va M.length vc, .slice pa C.length pc]) ∧ TmAt w' w'.heap.size (.slice va M.length vc) M ∧ PkAt w' w'.heap.size (.slice pa C.length pc) C ∧ M.length ≤ 6 ∧ (∀ q ∈ M, q.2.1.length ≤ 41) ∧ C.length ≤ 30 ∧ M.length ≤ vc ∧ Below w.heap.size w w'

set_option maxRecDepth 100000 in
set_option maxHeartbeats 4000000 in
theorem DrawClashHits_any (a : Option Addr) (len cap : Nat) (w : World) (h : CodeIn w a len cap) : Calls Try.prog 8 #[.slice a len cap] w (AnyHits w) := by
  go_enter Try.func8, Try.ntmps8
  go_wp2_with fail
  refine (open_any a len cap _ h).mono ?_
  rintro e w2 ⟨rfl, hr2, hb2⟩
  have hz2 := rdAt_lt hr2
  go_wp2_with fail
  refine (l20Clash_any _ 0 12 w2 hr2 (by omega) (by omega) (by omega)).mono ?_
  rintro e w3 ⟨M, v, rfl, hown, hm, hmq, hd⟩
  have b3 := drawn_below hd hb2 (by omega)
  obtain ⟨q, hq0, hq1, hr3, hg3⟩ := hd
  have z23 := hg3.size
  obtain ⟨va, vc, rfl, hx⟩ := id hown.at
  have hvc : M.length ≤ vc := by obtain ⟨cs, ho, _⟩ := hown; exact own_cap ho
  have HN := Lib.hid hown
  clear hx hown hr2 hg3 hb2
  go_wp2_with fail
  refine (l20Shelf_any _ q 4 0 w3 (by omega) hr3 (by omega) (by omega) (by omega)).mono ?_
  rintro e w4 ⟨S, v, fs, rfl, hg, hl, hsz, hd⟩
  have b4 := drawn_below hd b3 (by omega)
  obtain ⟨sa, caps, rfl, hform, hcap⟩ := hg.form
  obtain ⟨q4, hq40, hq41, hr4, hg4⟩ := hd
  have z34 := hg4.size
  have HN4 := Lib.hid (HN.out.drawn hg4 hz2 hz2)
  have HG4 := Lib.hid hg
  clear hg hform hcap hr3 hg4 b3 HN
  go_wp2_with fail
  refine (l20Picks_any _ q4 _ 12 sa caps S fs w4 hr4 (by omega) (by omega) (by omega) HG4.out (by omega) hl).mono ?_
  rintro e w6 ⟨C, v, rfl, ho, hC, hd⟩
  have b6 := drawn_below hd b4 (by omega)
  obtain ⟨q6, _, _, _, hg6⟩ := hd
  have HN6 := Lib.hid (HN4.out.drawn hg6 hz2 hz2).at
  have HP := Lib.hid ho.at
  obtain ⟨pa, pc, rfl⟩ := ho.form
  clear hg6 ho
  go_wp2_with fail
  exact bodyPost_ret (v := .tuple #[.slice va M.length vc, .slice pa C.length pc]) (by simp [results, Try.results8, go_sem]) rfl ⟨M, va, vc, C, pa, pc, rfl, HN6.out, HP.out, hm, hmq, by omega, hvc, b6⟩
end Tmo
end Go.Proofs.Ytokafkbefllfjaa

/- Contracts of the functions that turn ranks into versions, compare versions and copy them, over this seat's translation: each call ends as a plain function of the numbers says, and nothing that was there before the call has changed. -/
import Derived.Test.YtdjnfmekbjmdhaaVer
namespace Go.Proofs.Ytdjnfmekbjmdhaa
open Go.RowKit Go.Sort

set_option maxHeartbeats 400000 in
theorem aheadDigit_any (d : Int) (w : World) (h0 : 0 ≤ d) (h1 : d ≤ 9) :
    Calls Try.prog 125 #[.int .i64 d] w fun e w' => e = .returned (.int .i64 ((d + 9) % 10)) ∧ w = w' := by
  go_enter Try.func125, Try.ntmps125
  go_wp2
  go_ret
  exact ⟨rfl, rfl⟩

set_option maxHeartbeats 400000 in
theorem implRank_any (a b c d : Int) (w : World) :
    Calls Try.prog 114 #[ver a b c d] w fun e w' => e = .returned (.int .i64 (vRank a b c d)) ∧ Below w.heap.size w w' := by
  rcases hk : vOk a b c d
  · have H := Lib.hid (show vRank a b c d = -1 by simp [vRank, hk])
    go_enter Try.func114, Try.ntmps114
    go_wp2_with (go_at_call 83; refine (implOk_any _ _ _ _ _).mono ?_; rintro e w' ⟨rfl, hb⟩)
    go_ret
    exact ⟨by rw [H.out]; rfl, ((Below.refl _ _).alloc (Nat.le_refl _) _).trans (hb.mono (by simp))⟩
  · obtain ⟨⟨a0, a1⟩, ⟨b0, b1⟩, ⟨c0, c1⟩, d0, d1⟩ := vOk_iff.1 hk
    have H := Lib.hid (show vRank a b c d = rk a b c d by simp [vRank, hk])
    go_enter Try.func114, Try.ntmps114
    go_wp2_with (first | (go_at_call 83; refine (implOk_any _ _ _ _ _).mono ?_; rintro e w' ⟨rfl, hb⟩; have hc := old_cells hb) | (go_at_call 125; refine (aheadDigit_any _ _ (by omega) (by omega)).mono ?_; rintro e w' ⟨rfl, rfl⟩))
    go_ret
    exact ⟨by rw [H.out]; rfl, ((Below.refl _ _).alloc (Nat.le_refl _) _).trans (hb.mono (by simp))⟩

def atV (r : Int) : Value := ver (r / 10 / 10000) (r / 10 / 100 % 100) (r / 10 % 100) ((r % 10 + 1) % 10)
/-- What VersionAt answers at a rank: the version and true, or the zero value and false. -/
def atR (r : Int) : Value := if inB r 0 9999999 = true then .tuple #[atV r, .bool true] else .tuple #[ver 0 0 0 0, .bool false]

end Go.Proofs.Ytdjnfmekbjmdhaa

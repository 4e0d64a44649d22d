/- Contracts of the laws' functions that compare rows of needs and of releases, over this seat's translation, for one row at two places: they answer yes; nothing that was there before a call has changed. Condition: at most 1048576 of each row and of what is in it. -/
import Derived.Test.YtgnjhmmedogcoaaGr
import Derived.Test.YtgnjhmmedogcoaaGc
namespace Go.Proofs.Ytgnjhmmedogcoaa
open Go.RowKit Go.Sort

namespace Shs
set_option maxRecDepth 100000 in
set_option maxHeartbeats 4000000 in
theorem sameNeeds_same (v v' : Value) (M : List Nd) (w : World) (hl : M.length ≤ 1048576) (hq : ∀ q ∈ M, q.2.length ≤ 1048576) (h : NdAt w w.heap.size v M) (h' : NdAt w w.heap.size v' M) :
    Calls Try.prog 45 #[v, v'] w fun e w' => e = .returned (.bool true) ∧ Below w.heap.size w w' := by
  obtain ⟨ad, cap, rfl, hc⟩ := h
  obtain ⟨ad', cap', rfl, hc'⟩ := h'
  have H := Lib.hid hc
  have H' := Lib.hid hc'
  clear hc hc'
  have hz : ((M.length : Int) != (M.length : Int)) = false := by simp
  go_enter Try.func45, Try.ntmps45
  go_wp2_with fail
  go_loopw [5] (fun i wr => ∃ k : Nat, k ≤ M.length ∧ i = .int .i64 (k : Int) ∧ Below w.heap.size w wr) (fun i _ => M.length - (intOf i).toNat)
  case atStart => exact ⟨0, Nat.zero_le _, rfl, Below.refl _ _⟩
  case round =>
    obtain ⟨k, hk, rfl, hb⟩ := hrel
    by_cases hlt : k < M.length
    · rcases H.out with h1 | ⟨g, o, rfl, hB, hc⟩
      · subst h1
        exact absurd hlt (by simp)
      rcases H'.out with h2 | ⟨g', o', rfl, hB', hc'⟩
      · subst h2
        exact absurd hlt (by simp)
      obtain ⟨x, L, hxy⟩ : ∃ x L, M[k] = (x, L) := ⟨_, _, rfl⟩
      have m1 := (hc k hlt).below hb hB
      have m2 := (hc' k hlt).below hb hB'
      rw [hxy] at m1 m2
      obtain ⟨k0, p1, cap1, k1, hs⟩ := m1
      obtain ⟨l0, p2, cap2, l1, hs'⟩ := m2
      have hL : L.length ≤ 1048576 := by have := hq _ (List.getElem_mem hlt); rwa [hxy] at this
      simp only at k0 k1 l0 l1 hs hs'
      have HS := Lib.hid (hs.mono hb.size)
      have HS' := Lib.hid (hs'.mono hb.size)
      clear hc hc' hxy hs hs'
      have i0 : (0 : Int) ≤ (k : Int) := by omega
      have i1 : (k : Int) < (M.length : Int) := by omega
      have t0 := cell_regrown k0
      have t1 := cell_regrown k1
      have u0 := cell_regrown l0
      have u1 := cell_regrown l1
      have hx : (x != x) = false := by simp
      clear k0 k1 l0 l1
      have K : Hid (∀ V, SpAt V V.heap.size (.slice p1 L.length cap1) L → SpAt V V.heap.size (.slice p2 L.length cap2) L → Calls Try.prog 79 #[.agg #[.slice p1 L.length cap1], .agg #[.slice p2 L.length cap2]] V fun e w' => e = .returned (.bool true) ∧ Below V.heap.size V w') := Lib.hid fun V g g' => by
        have := sameRange_any _ _ L L V hL hL g g'
        rwa [decide_eq_true rfl] at this
      go_wp2_with fail
      refine wp_region_quiet_below (by kernel_rfl) (by kernel_rfl) ?_
      repeat (any_goals (first | go_big_quiet_step ((go_at_call 79; exact Calls.regrown_of (K.out _ (HS.out.stepAt (below_regrown _ _ _)) (HS'.out.stepAt (below_regrown _ _ _))))) | quiet_step ((go_at_call 79; exact Calls.regrown_of (K.out _ (HS.out.stepAt (below_regrown _ _ _)) (HS'.out.stepAt (below_regrown _ _ _)))))))
      refine wpQuiet_nil ?_
      intro W2 hw
      have nn := quiet_end hw
      clear hw t0 t1 u0 u1 hx
      have HP := Lib.hid (hb.trans (nn.mono hb.size))
      go_wp2_with fail
      go_roundw
      case rel => exact ⟨k + 1, by omega, by go_num, HP.out⟩
      case measure => simp [intOf]; omega
    · obtain rfl : k = M.length := by omega
      go_wp2_with fail
      go_ret
      exact ⟨rfl, hb⟩
theorem ver_alike (a b c d : Int) (V : World) : (binOp .neq 61 (ver a b c d) (ver a b c d)).run Try.prog V = .ok (.bool false) V := by
  go_simp
end Shs
end Go.Proofs.Ytgnjhmmedogcoaa

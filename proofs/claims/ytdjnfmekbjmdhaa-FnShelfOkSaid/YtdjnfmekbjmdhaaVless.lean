/- Contracts of VersionLess, of the model and of the program, over this seat's translation: each call answers whether both are versions and the first one's rank is the lesser one, and nothing that was there before the call has changed. -/
import Derived.Test.YtdjnfmekbjmdhaaVeq
namespace Go.Proofs.Ytdjnfmekbjmdhaa
open Go.RowKit Go.Sort

def vLess (a b c d a' b' c' d' : Int) : Bool := vOk a b c d && (vOk a' b' c' d' && decide (vRank a b c d < vRank a' b' c' d'))

theorem box_cell (w : World) (a b c d a' b' c' d' : Int) (W0 : World) (hW : W0 = (w.alloc (.cells #[.int .i64 a, .int .i64 b, .int .i64 c, .int .i64 d] 29)).alloc (.cells #[.int .i64 a', .int .i64 b', .int .i64 c', .int .i64 d'] 29)) :
    W0.cell? ⟨w.heap.size, 0, none⟩ = some (.int .i64 a) ∧ W0.cell? ⟨w.heap.size, 1, none⟩ = some (.int .i64 b) ∧ W0.cell? ⟨w.heap.size, 2, none⟩ = some (.int .i64 c) ∧ W0.cell? ⟨w.heap.size, 3, none⟩ = some (.int .i64 d) ∧
    W0.cell? ⟨w.heap.size + 1, 0, none⟩ = some (.int .i64 a') ∧ W0.cell? ⟨w.heap.size + 1, 1, none⟩ = some (.int .i64 b') ∧ W0.cell? ⟨w.heap.size + 1, 2, none⟩ = some (.int .i64 c') ∧ W0.cell? ⟨w.heap.size + 1, 3, none⟩ = some (.int .i64 d') := by
  subst hW
  refine ⟨?_, ?_, ?_, ?_, ?_, ?_, ?_, ?_⟩ <;> go_simp

set_option maxHeartbeats 1000000 in
theorem specLess_any (a b c d a' b' c' d' : Int) (w : World) :
    Calls Try.prog 63 #[ver a b c d, ver a' b' c' d'] w fun e w' => e = .returned (.bool (vLess a b c d a' b' c' d')) ∧ Below w.heap.size w w' := by
  have fin : ∀ o p n os, Below w.heap.size w (grow (redrawn ((w.alloc o).alloc p) n) os) := fun o p n os =>
    (((Below.refl _ _).alloc (Nat.le_refl _) o).alloc (by simp) p).trans ((below_regrown _ n os).mono (by simp; omega))
  have cells := box_cell w a b c d a' b' c' d' _ rfl
  obtain ⟨x0, x1, x2, x3, y0, y1, y2, y3⟩ := cells
  have k0 := cell_regrown x0; have k1 := cell_regrown x1; have k2 := cell_regrown x2; have k3 := cell_regrown x3
  have l0 := cell_regrown y0; have l1 := cell_regrown y1; have l2 := cell_regrown y2; have l3 := cell_regrown y3
  clear x0 x1 x2 x3 y0 y1 y2 y3
  rcases hk : vOk a b c d
  · have H := Lib.hid (show vLess a b c d a' b' c' d' = false by simp [vLess, hk])
    go_enter Try.func63, Try.ntmps63
    go_wp2_with fail
    refine wp_region_quiet_below (by kernel_rfl) (by kernel_rfl) ?_
    repeat (any_goals (first | go_big_quiet_step ((first | (go_at_call 81; exact Calls.regrown_of (specOk_any _ _ _ _ _)) | (go_at_call 95; exact Calls.regrown_of (specRank_any _ _ _ _ _)))) | quiet_step ((first | (go_at_call 81; exact Calls.regrown_of (specOk_any _ _ _ _ _)) | (go_at_call 95; exact Calls.regrown_of (specRank_any _ _ _ _ _))))))
    refine wpQuiet_nil ?_
    intro _ hw'
    obtain ⟨⟨dq, osq⟩, hw''⟩ := hw'
    subst hw''
    go_wp2
    go_ret
    exact ⟨by rw [H.out]; rfl, fin _ _ _ _⟩
  rcases hl : vOk a' b' c' d'
  · have H := Lib.hid (show vLess a b c d a' b' c' d' = false by simp [vLess, hl])
    go_enter Try.func63, Try.ntmps63
    go_wp2_with fail
    refine wp_region_quiet_below (by kernel_rfl) (by kernel_rfl) ?_
    repeat (any_goals (first | go_big_quiet_step ((first | (go_at_call 81; exact Calls.regrown_of (specOk_any _ _ _ _ _)) | (go_at_call 95; exact Calls.regrown_of (specRank_any _ _ _ _ _)))) | quiet_step ((first | (go_at_call 81; exact Calls.regrown_of (specOk_any _ _ _ _ _)) | (go_at_call 95; exact Calls.regrown_of (specRank_any _ _ _ _ _))))))
    refine wpQuiet_nil ?_
    intro _ hw'
    obtain ⟨⟨dq, osq⟩, hw''⟩ := hw'
    subst hw''
    go_wp2
    go_ret
    exact ⟨by rw [H.out]; rfl, fin _ _ _ _⟩
  · have H := Lib.hid (show vLess a b c d a' b' c' d' = decide (vRank a b c d < vRank a' b' c' d') by simp [vLess, hk, hl])
    go_enter Try.func63, Try.ntmps63
    go_wp2_with fail
    refine wp_region_quiet_below (by kernel_rfl) (by kernel_rfl) ?_
    repeat (any_goals (first | go_big_quiet_step ((first | (go_at_call 81; exact Calls.regrown_of (specOk_any _ _ _ _ _)) | (go_at_call 95; exact Calls.regrown_of (specRank_any _ _ _ _ _)))) | quiet_step ((first | (go_at_call 81; exact Calls.regrown_of (specOk_any _ _ _ _ _)) | (go_at_call 95; exact Calls.regrown_of (specRank_any _ _ _ _ _))))))
    refine wpQuiet_nil ?_
    intro _ hw'
    obtain ⟨⟨dq, osq⟩, hw''⟩ := hw'
    subst hw''
    go_wp2
    go_ret
    exact ⟨by rw [H.out]; rfl, fin _ _ _ _⟩

set_option maxHeartbeats 1000000 in
theorem implLess_any (a b c d a' b' c' d' : Int) (w : World) :
    Calls Try.prog 90 #[ver a b c d, ver a' b' c' d'] w fun e w' => e = .returned (.bool (vLess a b c d a' b' c' d')) ∧ Below w.heap.size w w' := by
  have fin : ∀ o p n os, Below w.heap.size w (grow (redrawn ((w.alloc o).alloc p) n) os) := fun o p n os =>
    (((Below.refl _ _).alloc (Nat.le_refl _) o).alloc (by simp) p).trans ((below_regrown _ n os).mono (by simp; omega))
  have cells := box_cell w a b c d a' b' c' d' _ rfl
  obtain ⟨x0, x1, x2, x3, y0, y1, y2, y3⟩ := cells
  have k0 := cell_regrown x0; have k1 := cell_regrown x1; have k2 := cell_regrown x2; have k3 := cell_regrown x3
  have l0 := cell_regrown y0; have l1 := cell_regrown y1; have l2 := cell_regrown y2; have l3 := cell_regrown y3
  clear x0 x1 x2 x3 y0 y1 y2 y3
  rcases hk : vOk a b c d
  · have H := Lib.hid (show vLess a b c d a' b' c' d' = false by simp [vLess, hk])
    go_enter Try.func90, Try.ntmps90
    go_wp2_with fail
    refine wp_region_quiet_below (by kernel_rfl) (by kernel_rfl) ?_
    repeat (any_goals (first | go_big_quiet_step ((first | (go_at_call 83; exact Calls.regrown_of (implOk_any _ _ _ _ _)) | (go_at_call 114; exact Calls.regrown_of (implRank_any _ _ _ _ _)))) | quiet_step ((first | (go_at_call 83; exact Calls.regrown_of (implOk_any _ _ _ _ _)) | (go_at_call 114; exact Calls.regrown_of (implRank_any _ _ _ _ _))))))
    refine wpQuiet_nil ?_
    intro _ hw'
    obtain ⟨⟨dq, osq⟩, hw''⟩ := hw'
    subst hw''
    go_wp2
    go_ret
    exact ⟨by rw [H.out]; rfl, fin _ _ _ _⟩
  rcases hl : vOk a' b' c' d'
  · have H := Lib.hid (show vLess a b c d a' b' c' d' = false by simp [vLess, hl])
    go_enter Try.func90, Try.ntmps90
    go_wp2_with fail
    refine wp_region_quiet_below (by kernel_rfl) (by kernel_rfl) ?_
    repeat (any_goals (first | go_big_quiet_step ((first | (go_at_call 83; exact Calls.regrown_of (implOk_any _ _ _ _ _)) | (go_at_call 114; exact Calls.regrown_of (implRank_any _ _ _ _ _)))) | quiet_step ((first | (go_at_call 83; exact Calls.regrown_of (implOk_any _ _ _ _ _)) | (go_at_call 114; exact Calls.regrown_of (implRank_any _ _ _ _ _))))))
    refine wpQuiet_nil ?_
    intro _ hw'
    obtain ⟨⟨dq, osq⟩, hw''⟩ := hw'
    subst hw''
    go_wp2
    go_ret
    exact ⟨by rw [H.out]; rfl, fin _ _ _ _⟩
  · have H := Lib.hid (show vLess a b c d a' b' c' d' = decide (vRank a b c d < vRank a' b' c' d') by simp [vLess, hk, hl])
    go_enter Try.func90, Try.ntmps90
    go_wp2_with fail
    refine wp_region_quiet_below (by kernel_rfl) (by kernel_rfl) ?_
    repeat (any_goals (first | go_big_quiet_step ((first | (go_at_call 83; exact Calls.regrown_of (implOk_any _ _ _ _ _)) | (go_at_call 114; exact Calls.regrown_of (implRank_any _ _ _ _ _)))) | quiet_step ((first | (go_at_call 83; exact Calls.regrown_of (implOk_any _ _ _ _ _)) | (go_at_call 114; exact Calls.regrown_of (implRank_any _ _ _ _ _))))))
    refine wpQuiet_nil ?_
    intro _ hw'
    obtain ⟨⟨dq, osq⟩, hw''⟩ := hw'
    subst hw''
    go_wp2
    go_ret
    exact ⟨by rw [H.out]; rfl, fin _ _ _ _⟩

end Go.Proofs.Ytdjnfmekbjmdhaa

/- At every code the law FnVersionAt returns true: the drawn rank's version is the model's, it is one just if the rank is from 0 to the greatest, and it has this rank. No condition. -/
import Derived.Test.YtgabhokmacngfabDdraw
import Derived.Test.YtgabhokmacngfabVeq
namespace Go.Proofs.Ytgabhokmacngfab
open Go.ChangeShapes Go.WideShapes Go.ChangeAt Go.RowKit Go.Joins Go.Sort

theorem rank_at {r : Int} (h : inB r 0 9999999 = true) : ∃ a b c d : Int, atR r = .tuple #[ver a b c d, .bool true] ∧ vRank a b c d = r := by
  have hr := inB_iff.1 h
  refine ⟨_, _, _, _, by unfold atR; rw [if_pos h]; rfl, ?_⟩
  have hok : vOk (r / 10 / 10000) (r / 10 / 100 % 100) (r / 10 % 100) ((r % 10 + 1) % 10) = true := vOk_iff.2 (by omega)
  unfold vRank
  rw [if_pos hok]
  unfold rk
  omega

theorem at_none_of {r : Int} (h : inB r 0 9999999 = false) : atR r = .tuple #[ver 0 0 0 0, .bool false] := by
  unfold atR
  rw [if_neg (by rw [h]; decide)]

set_option maxHeartbeats 1000000 in
theorem versionAt_short (a : Option Addr) (len cap : Nat) (w : World) (h : CodeIn w a len cap) (hl : len ≤ 1048576) :
    Calls Try.prog 5 #[.slice a len cap] w fun e w' => e = .returned (.bool true) ∧ Below w.heap.size w w' := by
  go_enter Try.func5, Try.ntmps5
  go_wp2_with fail
  refine (DrawVersionAt_any a len cap w h).mono ?_
  rintro e w1 ⟨r, rfl, rl, rh, hb1⟩
  have z1 := hb1.size
  rcases hk : inB r 0 9999999
  · have hn : ¬ (0 ≤ r ∧ r ≤ 9999999) := fun h => by have := inB_iff.2 h; rw [hk] at this; cases this
    have A : Hid (∀ V, Calls Try.prog 15 #[.int .i64 r] V fun e w' => e = .returned (.tuple #[ver 0 0 0 0, .bool false]) ∧ Below V.heap.size V w') := Lib.hid fun V => by
      have := implAt_any r V
      rwa [at_none_of hk] at this
    have B : Hid (∀ V, Calls Try.prog 18 #[.int .i64 r] V fun e w' => e = .returned (.tuple #[ver 0 0 0 0, .bool false]) ∧ Below V.heap.size V w') := Lib.hid fun V => by
      have := specAt_any r V
      rwa [at_none_of hk] at this
    clear hk
    by_cases r0 : r < 0
    all_goals
      go_wp2_with fail
      refine (A.out _).mono ?_
      rintro e w2 ⟨rfl, hb2⟩
      go_wp2_with fail
      refine (B.out _).mono ?_
      rintro e w3 ⟨rfl, hb3⟩
      have hc := old_cells hb3
      have z3 : w2.heap.size < w3.heap.size := by have := hb3.size; simp at this; omega
      go_wp2_with fail
      refine (alive_any _).mono ?_
      rintro e w4 ⟨rfl, hb4⟩
      go_wp2_with fail
      go_ret
      exact ⟨(by first | rfl | (simp; omega)), (hb1.trans (hb2.mono z1)).trans ((((Below.refl _ _).alloc (by have := hb2.size; omega) _).trans (hb3.mono (by have := hb2.size; simp; omega))).trans (((Below.refl _ _).alloc (by have := hb2.size; omega) _).trans (hb4.mono (by have := hb2.size; simp; omega))))⟩
  · obtain ⟨r0, r1⟩ := inB_iff.1 hk
    obtain ⟨x, y, z, u, hr, hrk⟩ := rank_at hk
    have A : Hid (∀ V, Calls Try.prog 15 #[.int .i64 r] V fun e w' => e = .returned (.tuple #[ver x y z u, .bool true]) ∧ Below V.heap.size V w') := Lib.hid fun V => by
      have := implAt_any r V
      rwa [hr] at this
    have B : Hid (∀ V, Calls Try.prog 18 #[.int .i64 r] V fun e w' => e = .returned (.tuple #[ver x y z u, .bool true]) ∧ Below V.heap.size V w') := Lib.hid fun V => by
      have := specAt_any r V
      rwa [hr] at this
    have C : Hid (∀ V, Calls Try.prog 13 #[ver x y z u] V fun e w' => e = .returned (.int .i64 r) ∧ Below V.heap.size V w') := Lib.hid fun V => by
      have := implRank_any x y z u V
      rwa [hrk] at this
    clear hk hr hrk
    go_wp2_with fail
    refine (A.out _).mono ?_
    rintro e w2 ⟨rfl, hb2⟩
    go_wp2_with fail
    refine (B.out _).mono ?_
    rintro e w3 ⟨rfl, hb3⟩
    have hc := old_cells hb3
    have z3 : w2.heap.size < w3.heap.size := by have := hb3.size; simp at this; omega
    go_wp2_with fail
    refine (C.out _).mono ?_
    rintro e w4 ⟨rfl, hb4⟩
    go_wp2_with fail
    refine (alive_any _).mono ?_
    rintro e w5 ⟨rfl, hb5⟩
    go_wp2_with fail
    go_ret
    exact ⟨rfl, (hb1.trans (hb2.mono z1)).trans ((((Below.refl _ _).alloc (by have := hb2.size; omega) _).trans (hb3.mono (by have := hb2.size; simp; omega))).trans (((Below.refl _ _).alloc (by have := hb2.size; omega) _).trans ((hb4.mono (by have := hb2.size; simp; omega)).trans (hb5.mono (by have := hb2.size; have := hb4.size; simp at this; omega)))))⟩

set_option maxHeartbeats 1000000 in
theorem versionAt_long (a : Option Addr) (len cap : Nat) (w : World) (hl : 1048576 < len) :
    Calls Try.prog 5 #[.slice a len cap] w fun e w' => e = .returned (.bool true) ∧ Below w.heap.size w w' := by
  go_enter Try.func5, Try.ntmps5
  go_wp2
  go_ret
  exact ⟨rfl, Below.refl _ _⟩

theorem versionAt_walk (a : Option Addr) (len cap : Nat) (w : World) (h : CodeIn w a len cap) :
    Calls Try.prog 5 #[.slice a len cap] w fun e w' => e = .returned (.bool true) ∧ Below w.heap.size w w' := by
  by_cases hl : len ≤ 1048576
  · exact versionAt_short a len cap w h hl
  · exact versionAt_long a len cap w (by omega)

theorem versionAt_holds : Rows.FnVersionAtSaid :=
  OpenClaim.holds_of_wide 5 Try.f5 rfl rfl rfl rfl rfl rfl rfl ⟨rfl, rfl, rfl, rfl, rfl⟩ rfl rfl rfl rfl rfl (by kernel_rfl) Try.func5 (by kernel_rfl)
    (of_decide_eq_true (by kernel_rfl)) (by unfold Func.isWrapper; rw [if_neg (by decide +kernel)]; exact ⟨rfl, rfl⟩)
    (fun os started H enc _ => law_lifted (s := Rows.fnVersionAtSpec) (tb := 4) own started laid (by kernel_rfl) Try.func5 rfl (by kernel_rfl) Try.underlying4 (by kernel_rfl)
      (fun ds h => by rw [Try.params5] at h; match ds, h with | [_], _ => rfl)
      (ChangeSpec.witness6 (enc := enc) (C := Try.checked) false ⟨#[], #[.slice none 0 0], []⟩ 8 (by kernel_rfl) (by kernel_rfl) (by kernel_rfl) (by kernel_rfl))
      (law_code Try.params5 versionAt_walk))
#print axioms versionAt_holds
end Go.Proofs.Ytgabhokmacngfab

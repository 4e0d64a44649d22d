/- At every code the law FnVersionRank returns true: the drawn version's rank is the model's, and comes back as the version, if it is one. No condition. -/
import Derived.Test.YtgabhokmacngfabDdraw
import Derived.Test.YtgabhokmacngfabVeq
namespace Go.Proofs.Ytgabhokmacngfab
open Go.ChangeShapes Go.WideShapes Go.ChangeAt Go.RowKit Go.Joins Go.Sort

theorem at_rank {x y z u : Int} (h : vOk x y z u = true) : atR (vRank x y z u) = .tuple #[ver x y z u, .bool true] := by
  have hr := vOk_iff.1 h
  unfold vRank
  rw [if_pos h]
  have hin : inB (rk x y z u) 0 9999999 = true := inB_iff.2 (by unfold rk; omega)
  unfold atR
  rw [if_pos hin]
  unfold atV rk
  rw [show (((x * 100 + y) * 100 + z) * 10 + (u + 9) % 10) / 10 / 10000 = x from by omega, show (((x * 100 + y) * 100 + z) * 10 + (u + 9) % 10) / 10 / 100 % 100 = y from by omega,
    show (((x * 100 + y) * 100 + z) * 10 + (u + 9) % 10) / 10 % 100 = z from by omega, show ((((x * 100 + y) * 100 + z) * 10 + (u + 9) % 10) % 10 + 1) % 10 = u from by omega]

theorem at_minus : atR (-1) = .tuple #[ver 0 0 0 0, .bool false] := rfl

theorem box_room (w1 : World) (x y z u : Int) : w1.heap.size + 1 ≤ (w1.alloc (.cells #[.int .i64 x, .int .i64 y, .int .i64 z, .int .i64 u] 24)).heap.size := by simp

set_option maxHeartbeats 1000000 in
theorem versionRank_short (a : Option Addr) (len cap : Nat) (w : World) (h : CodeIn w a len cap) (hl : len ≤ 1048576) :
    Calls Try.prog 4 #[.slice a len cap] w fun e w' => e = .returned (.bool true) ∧ Below w.heap.size w w' := by
  go_enter Try.func4, Try.ntmps4
  go_wp2_with fail
  refine (DrawVersionRank_any a len cap w h).mono ?_
  rintro e w1 ⟨x, y, z, u, rfl, hb1⟩
  have z1 := hb1.size
  have v1 := verAt_new w1 x y z u 24
  have hB := box_room w1 x y z u
  have hb := Below.refl (w1.heap.size + 1) (w1.alloc (.cells #[.int .i64 x, .int .i64 y, .int .i64 z, .int .i64 u] 24))
  have A := Lib.hid fun V => implRank_any x y z u V
  have B := Lib.hid fun V => specRank_any x y z u V
  have D := Lib.hid fun V => implOk_any x y z u V
  rcases hk : vOk x y z u
  · have E : Hid (∀ V, Calls Try.prog 15 #[.int .i64 (-1)] V fun e w' => e = .returned (.tuple #[ver 0 0 0 0, .bool false]) ∧ Below V.heap.size V w') := Lib.hid fun V => by
      have := implAt_any (-1) V
      rwa [at_minus] at this
    rw [show vRank x y z u = -1 from by simp [vRank, hk]] at A B
    rw [hk] at D
    clear hk
    go_wp2_with fail
    refine (rel hB hb (A.out _)).mono ?_
    clear hb
    rintro e w2 ⟨rfl, hb⟩
    have hc := cells_of hb
    go_wp2_with fail
    refine (rel hB hb (B.out _)).mono ?_
    clear hb hc
    rintro e w3 ⟨rfl, hb⟩
    have hc := cells_of hb
    go_wp2_with fail
    refine (rel hB hb (E.out _)).mono ?_
    clear hb hc
    rintro e w4 ⟨rfl, hb⟩
    have hc := cells_of hb
    have z4 : w1.heap.size < w4.heap.size := by have := hb.size; simp at this; omega
    go_wp2_with fail
    refine (D.out _).mono ?_
    rintro e w5 ⟨rfl, hb5⟩
    have hc5 := old_cells hb5
    have z5 := hb5.size
    simp at z5
    have z6 : w1.heap.size < w4.heap.size + 1 := by omega
    go_wp2_with fail
    refine (alive_any _).mono ?_
    rintro e w6 ⟨rfl, hb6⟩
    go_wp2_with fail
    go_ret
    exact ⟨rfl, hb1.trans (((Below.refl _ _).alloc z1 _).trans ((hb.mono (by omega)).trans (((Below.refl _ _).alloc (by omega) _).trans ((hb5.mono (by simp; omega)).trans (hb6.mono (by omega))))))⟩
  · have E : Hid (∀ V, Calls Try.prog 15 #[.int .i64 (vRank x y z u)] V fun e w' => e = .returned (.tuple #[ver x y z u, .bool true]) ∧ Below V.heap.size V w') := Lib.hid fun V => by
      have := implAt_any (vRank x y z u) V
      rwa [at_rank hk] at this
    rw [hk] at D
    clear hk
    generalize vRank x y z u = r at *
    go_wp2_with fail
    refine (rel hB hb (A.out _)).mono ?_
    clear hb
    rintro e w2 ⟨rfl, hb⟩
    have hc := cells_of hb
    go_wp2_with fail
    refine (rel hB hb (B.out _)).mono ?_
    clear hb hc
    rintro e w3 ⟨rfl, hb⟩
    have hc := cells_of hb
    go_wp2_with fail
    refine (rel hB hb (E.out _)).mono ?_
    clear hb hc
    rintro e w4 ⟨rfl, hb⟩
    have hc := cells_of hb
    have z4 : w1.heap.size < w4.heap.size := by have := hb.size; simp at this; omega
    go_wp2_with fail
    refine (D.out _).mono ?_
    rintro e w5 ⟨rfl, hb5⟩
    have hc5 := old_cells hb5
    have z5 := hb5.size
    simp at z5
    have z6 : w1.heap.size < w4.heap.size + 1 := by omega
    go_wp2_with fail
    refine (alive_any _).mono ?_
    rintro e w6 ⟨rfl, hb6⟩
    go_wp2_with fail
    go_ret
    exact ⟨rfl, hb1.trans (((Below.refl _ _).alloc z1 _).trans ((hb.mono (by omega)).trans (((Below.refl _ _).alloc (by omega) _).trans ((hb5.mono (by simp; omega)).trans (hb6.mono (by omega))))))⟩

set_option maxHeartbeats 1000000 in
theorem versionRank_long (a : Option Addr) (len cap : Nat) (w : World) (hl : 1048576 < len) :
    Calls Try.prog 4 #[.slice a len cap] w fun e w' => e = .returned (.bool true) ∧ Below w.heap.size w w' := by
  go_enter Try.func4, Try.ntmps4
  go_wp2
  go_ret
  exact ⟨rfl, Below.refl _ _⟩

theorem versionRank_walk (a : Option Addr) (len cap : Nat) (w : World) (h : CodeIn w a len cap) :
    Calls Try.prog 4 #[.slice a len cap] w fun e w' => e = .returned (.bool true) ∧ Below w.heap.size w w' := by
  by_cases hl : len ≤ 1048576
  · exact versionRank_short a len cap w h hl
  · exact versionRank_long a len cap w (by omega)

theorem versionRank_holds : Rows.FnVersionRankSaid :=
  OpenClaim.holds_of_wide 4 Try.f4 rfl rfl rfl rfl rfl rfl rfl ⟨rfl, rfl, rfl, rfl, rfl⟩ rfl rfl rfl rfl rfl (by kernel_rfl) Try.func4 (by kernel_rfl)
    (of_decide_eq_true (by kernel_rfl)) (by unfold Func.isWrapper; rw [if_neg (by decide +kernel)]; exact ⟨rfl, rfl⟩)
    (fun os started H enc _ => law_lifted (s := Rows.fnVersionRankSpec) (tb := 4) own started laid (by kernel_rfl) Try.func4 rfl (by kernel_rfl) Try.underlying4 (by kernel_rfl)
      (fun ds h => by rw [Try.params4] at h; match ds, h with | [_], _ => rfl)
      (ChangeSpec.witness6 (enc := enc) (C := Try.checked) false ⟨#[], #[.slice none 0 0], []⟩ 8 (by kernel_rfl) (by kernel_rfl) (by kernel_rfl) (by kernel_rfl))
      (law_code Try.params4 versionRank_walk))
#print axioms versionRank_holds
end Go.Proofs.Ytgabhokmacngfab

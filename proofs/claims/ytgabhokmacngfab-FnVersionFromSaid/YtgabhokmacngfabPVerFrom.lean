/- At every code the law FnVersionFrom returns true: the drawn text is read as the model reads it, and if it is read, it is how its version is written. No condition. -/
import Derived.Test.YtgabhokmacngfabDtext
import Derived.Test.YtgabhokmacngfabVsfromC
namespace Go.Proofs.Ytgabhokmacngfab
open Go.ChangeShapes Go.WideShapes Go.ChangeAt Go.RowKit Go.Joins Go.Sort

set_option maxHeartbeats 1000000 in
theorem versionFrom_short (a : Option Addr) (len cap : Nat) (w : World) (h : CodeIn w a len cap) (hl : len ≤ 1048576) :
    Calls Try.prog 8 #[.slice a len cap] w fun e w' => e = .returned (.bool true) ∧ Below w.heap.size w w' := by
  go_enter Try.func8, Try.ntmps8
  go_wp2_with fail
  refine (DrawVersionFrom_any a len cap w h).mono ?_
  rintro e w1 ⟨s, rfl, hsz, hb1⟩
  have z1 := hb1.size
  have A0 := Lib.hid fun V => implFrom_any s V hsz
  have B0 := Lib.hid fun V => specFrom_any s V hsz
  rw [← Parse.im_sp] at B0
  match hm : Parse.im s.data.toList with
  | none =>
    have A : Hid (∀ V, Calls Try.prog 25 #[.string s] V fun e w' => e = .returned (.tuple #[ver 0 0 0 0, .bool false]) ∧ Below V.heap.size V w') := Lib.hid fun V => by
      have := A0.out V
      rw [hm] at this
      exact this
    have B : Hid (∀ V, Calls Try.prog 27 #[.string s] V fun e w' => e = .returned (.tuple #[ver 0 0 0 0, .bool false]) ∧ Below V.heap.size V w') := Lib.hid fun V => by
      have := B0.out V
      rw [hm] at this
      exact this
    clear A0 B0 hm
    go_wp2_with fail
    refine (A.out _).mono ?_
    rintro e w2 ⟨rfl, hb2⟩
    go_wp2_with fail
    refine (B.out _).mono ?_
    rintro e w3 ⟨rfl, hb3⟩
    have hc := old_cells hb3
    have z3 : w2.heap.size < w3.heap.size := by have := hb3.size; simp at this; omega
    go_wp2_with fail
    refine (alive_any _).mono ?_
    rintro e w5 ⟨rfl, hb5⟩
    go_wp2_with fail
    go_ret
    exact ⟨rfl, (hb1.trans (hb2.mono z1)).trans ((((Below.refl _ _).alloc (by have := hb2.size; omega) _).trans (hb3.mono (by have := hb2.size; simp; omega))).trans (((Below.refl _ _).alloc (by have := hb2.size; omega) _).trans (hb5.mono (by have := hb2.size; simp; omega))))⟩
  | some (x, y, z, u) =>
    have A : Hid (∀ V, Calls Try.prog 25 #[.string s] V fun e w' => e = .returned (.tuple #[ver x y z u, .bool true]) ∧ Below V.heap.size V w') := Lib.hid fun V => by
      have := A0.out V
      rw [hm] at this
      exact this
    have B : Hid (∀ V, Calls Try.prog 27 #[.string s] V fun e w' => e = .returned (.tuple #[ver x y z u, .bool true]) ∧ Below V.heap.size V w') := Lib.hid fun V => by
      have := B0.out V
      rw [hm] at this
      exact this
    have C : Hid (∀ V, Calls Try.prog 23 #[ver x y z u] V fun e w' => e = .returned (.string s) ∧ Below V.heap.size V w') := Lib.hid fun V => by
      have := implText_any x y z u V
      have hk := Parse.im_some.1 hm
      have hv : vOk x y z u = true := by rw [vOk_okB]; exact Parse.okB_iff.2 hk.1
      have hq : vText x y z u = s := ByteArray.ext (Array.toList_inj.1 ((vText_full hv).trans hk.2.symm))
      rwa [hq] at this
    clear A0 B0 hm
    go_wp2_with fail
    refine (A.out _).mono ?_
    rintro e w2 ⟨rfl, hb2⟩
    go_wp2_with fail
    refine (B.out _).mono ?_
    rintro e w3 ⟨rfl, hb3⟩
    have hc := old_cells hb3
    have z3 : w2.heap.size < w3.heap.size := by have := hb3.size; simp at this; omega
    go_wp2_with fail
    refine (C.out _).mono ?_
    rintro e w4 ⟨rfl, hb4⟩
    go_wp2_with fail
    refine (alive_any _).mono ?_
    rintro e w5 ⟨rfl, hb5⟩
    go_wp2_with fail
    go_ret
    exact ⟨rfl, (hb1.trans (hb2.mono z1)).trans ((((Below.refl _ _).alloc (by have := hb2.size; omega) _).trans (hb3.mono (by have := hb2.size; simp; omega))).trans (((Below.refl _ _).alloc (by have := hb2.size; omega) _).trans ((hb4.mono (by have := hb2.size; simp; omega)).trans (hb5.mono (by have := hb2.size; have := hb4.size; simp at this; omega)))))⟩

set_option maxHeartbeats 1000000 in
theorem versionFrom_long (a : Option Addr) (len cap : Nat) (w : World) (hl : 1048576 < len) :
    Calls Try.prog 8 #[.slice a len cap] w fun e w' => e = .returned (.bool true) ∧ Below w.heap.size w w' := by
  go_enter Try.func8, Try.ntmps8
  go_wp2
  go_ret
  exact ⟨rfl, Below.refl _ _⟩

theorem versionFrom_walk (a : Option Addr) (len cap : Nat) (w : World) (h : CodeIn w a len cap) :
    Calls Try.prog 8 #[.slice a len cap] w fun e w' => e = .returned (.bool true) ∧ Below w.heap.size w w' := by
  by_cases hl : len ≤ 1048576
  · exact versionFrom_short a len cap w h hl
  · exact versionFrom_long a len cap w (by omega)

theorem versionFrom_holds : Rows.FnVersionFromSaid :=
  OpenClaim.holds_of_wide 8 Try.f8 rfl rfl rfl rfl rfl rfl rfl ⟨rfl, rfl, rfl, rfl, rfl⟩ rfl rfl rfl rfl rfl (by kernel_rfl) Try.func8 (by kernel_rfl)
    (of_decide_eq_true (by kernel_rfl)) (by unfold Func.isWrapper; rw [if_neg (by decide +kernel)]; exact ⟨rfl, rfl⟩)
    (fun os started H enc _ => law_lifted (s := Rows.fnVersionFromSpec) (tb := 4) own started laid (by kernel_rfl) Try.func8 rfl (by kernel_rfl) Try.underlying4 (by kernel_rfl)
      (fun ds h => by rw [Try.params8] at h; match ds, h with | [_], _ => rfl)
      (ChangeSpec.witness6 (enc := enc) (C := Try.checked) false ⟨#[], #[.slice none 0 0], []⟩ 8 (by kernel_rfl) (by kernel_rfl) (by kernel_rfl) (by kernel_rfl))
      (law_code Try.params8 versionFrom_walk))
#print axioms versionFrom_holds
end Go.Proofs.Ytgabhokmacngfab

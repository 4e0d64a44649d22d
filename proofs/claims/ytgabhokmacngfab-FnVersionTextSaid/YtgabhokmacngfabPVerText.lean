/- At every code the law FnVersionText returns true: the drawn version's text is the model's and is read back as the version, if it is one. No condition. -/
import Derived.Test.YtgabhokmacngfabDdraw
import Derived.Test.YtgabhokmacngfabVfrom
import Derived.Test.YtgabhokmacngfabPVerRank
namespace Go.Proofs.Ytgabhokmacngfab
open Go.ChangeShapes Go.WideShapes Go.ChangeAt Go.RowKit Go.Joins Go.Sort

theorem text_size (a b c d : Int) : (vText a b c d).size ≤ 1048576 := by
  have h1 := nt_size a
  have h2 := nt_size b
  have h3 := nt_size c
  have h4 := nt_size d
  unfold vText
  split
  · unfold txt core
    have e : ∀ x : UInt8, (⟨#[x]⟩ : ByteArray).size = 1 := fun _ => rfl
    split <;> simp only [ByteArray.size_append, e] <;> omega
  · exact Nat.zero_le _

theorem im_text {x y z u : Int} (h : vOk x y z u = true) : ans (Parse.im (vText x y z u).data.toList) = .tuple #[ver x y z u, .bool true] := by
  rw [vText_full h, Parse.im_some.2 ⟨Parse.okB_iff.1 (by rw [← vOk_okB]; exact h), rfl⟩]
  rfl

theorem im_empty {x y z u : Int} (h : vOk x y z u = false) : ans (Parse.im (vText x y z u).data.toList) = .tuple #[ver 0 0 0 0, .bool false] := by
  have e : vText x y z u = ⟨#[]⟩ := by unfold vText; rw [if_neg (by rw [h]; decide)]
  rw [e]
  rfl

set_option maxHeartbeats 1000000 in
theorem versionText_short (a : Option Addr) (len cap : Nat) (w : World) (h : CodeIn w a len cap) (hl : len ≤ 1048576) :
    Calls Try.prog 7 #[.slice a len cap] w fun e w' => e = .returned (.bool true) ∧ Below w.heap.size w w' := by
  go_enter Try.func7, Try.ntmps7
  go_wp2_with fail
  refine (DrawVersionText_any a len cap w h).mono ?_
  rintro e w1 ⟨x, y, z, u, rfl, hb1⟩
  have z1 := hb1.size
  have v1 := verAt_new w1 x y z u 24
  have hB := box_room w1 x y z u
  have hb := Below.refl (w1.heap.size + 1) (w1.alloc (.cells #[.int .i64 x, .int .i64 y, .int .i64 z, .int .i64 u] 24))
  have A := Lib.hid fun V => implText_any x y z u V
  have B := Lib.hid fun V => specText_any x y z u V
  have D := Lib.hid fun V => implOk_any x y z u V
  have E0 := Lib.hid fun V => implFrom_any (vText x y z u) V (text_size x y z u)
  rcases hk : vOk x y z u
  · have E : Hid (∀ V, Calls Try.prog 25 #[.string (vText x y z u)] V fun e w' => e = .returned (.tuple #[ver 0 0 0 0, .bool false]) ∧ Below V.heap.size V w') := Lib.hid fun V => by
      have := E0.out V
      rwa [im_empty hk] at this
    rw [hk] at D
    clear hk E0
    generalize vText x y z u = s at *
    go_wp2_with fail
    refine (rel hB hb (A.out _)).mono ?_
    clear hb
    rintro e w2 ⟨rfl, hb⟩
    have hc := cells_of hb
    go_wp2_with fail
    refine (rel hB hb (B.out _)).mono ?_
    clear hb hc
    rintro e w3 ⟨rfl, hb⟩
    have hc := cells_of hb
    go_wp2_with fail
    refine (rel hB hb (E.out _)).mono ?_
    clear hb hc
    rintro e w4 ⟨rfl, hb⟩
    have hc := cells_of hb
    have z4 : w1.heap.size < w4.heap.size := by have := hb.size; simp at this; omega
    go_wp2_with fail
    refine (D.out _).mono ?_
    rintro e w5 ⟨rfl, hb5⟩
    have hc5 := old_cells hb5
    have z5 := hb5.size
    simp at z5
    have z6 : w1.heap.size < w4.heap.size + 1 := by omega
    go_wp2_with fail
    refine (alive_any _).mono ?_
    rintro e w6 ⟨rfl, hb6⟩
    go_wp2_with fail
    go_ret
    exact ⟨rfl, hb1.trans (((Below.refl _ _).alloc z1 _).trans ((hb.mono (by omega)).trans (((Below.refl _ _).alloc (by omega) _).trans ((hb5.mono (by simp; omega)).trans (hb6.mono (by omega))))))⟩
  · have E : Hid (∀ V, Calls Try.prog 25 #[.string (vText x y z u)] V fun e w' => e = .returned (.tuple #[ver x y z u, .bool true]) ∧ Below V.heap.size V w') := Lib.hid fun V => by
      have := E0.out V
      rwa [im_text hk] at this
    rw [hk] at D
    clear hk E0
    generalize vText x y z u = s at *
    go_wp2_with fail
    refine (rel hB hb (A.out _)).mono ?_
    clear hb
    rintro e w2 ⟨rfl, hb⟩
    have hc := cells_of hb
    go_wp2_with fail
    refine (rel hB hb (B.out _)).mono ?_
    clear hb hc
    rintro e w3 ⟨rfl, hb⟩
    have hc := cells_of hb
    go_wp2_with fail
    refine (rel hB hb (E.out _)).mono ?_
    clear hb hc
    rintro e w4 ⟨rfl, hb⟩
    have hc := cells_of hb
    have z4 : w1.heap.size < w4.heap.size := by have := hb.size; simp at this; omega
    go_wp2_with fail
    refine (D.out _).mono ?_
    rintro e w5 ⟨rfl, hb5⟩
    have hc5 := old_cells hb5
    have z5 := hb5.size
    simp at z5
    have z6 : w1.heap.size < w4.heap.size + 1 := by omega
    go_wp2_with fail
    refine (alive_any _).mono ?_
    rintro e w6 ⟨rfl, hb6⟩
    go_wp2_with fail
    go_ret
    exact ⟨rfl, hb1.trans (((Below.refl _ _).alloc z1 _).trans ((hb.mono (by omega)).trans (((Below.refl _ _).alloc (by omega) _).trans ((hb5.mono (by simp; omega)).trans (hb6.mono (by omega))))))⟩

set_option maxHeartbeats 1000000 in
theorem versionText_long (a : Option Addr) (len cap : Nat) (w : World) (hl : 1048576 < len) :
    Calls Try.prog 7 #[.slice a len cap] w fun e w' => e = .returned (.bool true) ∧ Below w.heap.size w w' := by
  go_enter Try.func7, Try.ntmps7
  go_wp2
  go_ret
  exact ⟨rfl, Below.refl _ _⟩

theorem versionText_walk (a : Option Addr) (len cap : Nat) (w : World) (h : CodeIn w a len cap) :
    Calls Try.prog 7 #[.slice a len cap] w fun e w' => e = .returned (.bool true) ∧ Below w.heap.size w w' := by
  by_cases hl : len ≤ 1048576
  · exact versionText_short a len cap w h hl
  · exact versionText_long a len cap w (by omega)

theorem versionText_holds : Rows.FnVersionTextSaid :=
  OpenClaim.holds_of_wide 7 Try.f7 rfl rfl rfl rfl rfl rfl rfl ⟨rfl, rfl, rfl, rfl, rfl⟩ rfl rfl rfl rfl rfl (by kernel_rfl) Try.func7 (by kernel_rfl)
    (of_decide_eq_true (by kernel_rfl)) (by unfold Func.isWrapper; rw [if_neg (by decide +kernel)]; exact ⟨rfl, rfl⟩)
    (fun os started H enc _ => law_lifted (s := Rows.fnVersionTextSpec) (tb := 4) own started laid (by kernel_rfl) Try.func7 rfl (by kernel_rfl) Try.underlying4 (by kernel_rfl)
      (fun ds h => by rw [Try.params7] at h; match ds, h with | [_], _ => rfl)
      (ChangeSpec.witness6 (enc := enc) (C := Try.checked) false ⟨#[], #[.slice none 0 0], []⟩ 8 (by kernel_rfl) (by kernel_rfl) (by kernel_rfl) (by kernel_rfl))
      (law_code Try.params7 versionText_walk))
#print axioms versionText_holds
end Go.Proofs.Ytgabhokmacngfab

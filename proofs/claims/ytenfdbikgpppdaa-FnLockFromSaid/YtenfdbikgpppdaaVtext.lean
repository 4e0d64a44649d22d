/- Contracts of VersionText, of the model and of the program, over this seat's translation: a version is written as its three numbers with points between and, where Ahead is not 0, a dash and Ahead; what is no version as the empty text; nothing that was there before the call has changed. -/
import Derived.Test.YtenfdbikgpppdaaVtxt
namespace Go.Proofs.Ytenfdbikgpppdaa
open Go.RowKit Go.Sort

def core (a b c : Int) : ByteArray := nt a ++ ⟨#[46]⟩ ++ nt b ++ ⟨#[46]⟩ ++ nt c
def txt (a b c d : Int) : ByteArray := if d = 0 then core a b c else core a b c ++ ⟨#[45]⟩ ++ nt d
def vText (a b c d : Int) : ByteArray := if vOk a b c d = true then txt a b c d else ⟨#[]⟩

theorem numberText_below (n : Int) (w : World) (h0 : 0 ≤ n) (h1 : n ≤ 99) :
    Calls Try.prog 55 #[.int .i64 n] w fun e w' => e = .returned (.string (nt n)) ∧ Below w.heap.size w w' :=
  (numberText_any n w h0 h1).mono fun _ _ ⟨he, hw⟩ => ⟨he, by subst hw; exact Below.refl _ _⟩

/-- No text of a version is too long to be joined. -/
theorem room (a b c d : Int) : ¬ 9223372036854775807 < (nt a).size + 1 ∧ ¬ 9223372036854775807 < (nt a).size + 1 + (nt b).size ∧ ¬ 9223372036854775807 < (nt a).size + 1 + (nt b).size + 1 ∧
    ¬ 9223372036854775807 < (nt a).size + 1 + (nt b).size + 1 + (nt c).size ∧ ¬ 9223372036854775807 < (nt a).size + 1 + (nt b).size + 1 + (nt c).size + 1 ∧
    ¬ 9223372036854775807 < (nt a).size + 1 + (nt b).size + 1 + (nt c).size + 1 + (nt d).size := by
  have ha := nt_size a
  have hb := nt_size b
  have hc := nt_size c
  have hd := nt_size d
  omega

set_option maxHeartbeats 1000000 in
theorem specText_any (a b c d : Int) (w : World) :
    Calls Try.prog 41 #[ver a b c d] w fun e w' => e = .returned (.string (vText a b c d)) ∧ Below w.heap.size w w' := by
  have v1 := verAt_new w a b c d 47
  have hB : w.heap.size + 1 ≤ (w.alloc (.cells #[.int .i64 a, .int .i64 b, .int .i64 c, .int .i64 d] 47)).heap.size := by simp
  have hb0 := Below.refl (w.heap.size + 1) (w.alloc (.cells #[.int .i64 a, .int .i64 b, .int .i64 c, .int .i64 d] 47))
  rcases hk : vOk a b c d
  · have H := Lib.hid (show vText a b c d = ⟨#[]⟩ by simp [vText, hk])
    go_enter Try.func41, Try.ntmps41
    go_wp2_with (go_at_call 54; refine (rel hB hb0 (specOk_any _ _ _ _ _)).mono ?_; clear hb0; rintro e w1 ⟨rfl, hb⟩)
    go_ret
    exact ⟨by rw [H.out]; rfl, ((Below.refl _ _).alloc (Nat.le_refl _) _).trans (hb.mono (by simp))⟩
  obtain ⟨⟨a0, a1⟩, ⟨b0, b1⟩, ⟨c0, c1⟩, d0, d1⟩ := vOk_iff.1 hk
  obtain ⟨n1, n2, n3, n4, n5, n6⟩ := room a b c d
  by_cases hd : d = 0
  · subst hd
    have HT := Lib.hid (show vText a b c 0 = core a b c by simp [vText, hk, txt])
    go_enter Try.func41, Try.ntmps41
    go_wp2_with (go_at_call 54; refine (rel hB hb0 (specOk_any _ _ _ _ _)).mono ?_; clear hb0; rintro e w1 ⟨rfl, hb⟩)
    have z1 : w.heap.size < w1.heap.size := by have := hb.size; simp at this; omega
    have y1 := v1.below hb (by simp)
    obtain ⟨k0, k1, k2, k3⟩ := y1.grown
    go_wp2_with fail
    refine wp_region_quiet_below (by kernel_rfl) (by kernel_rfl) ?_
    repeat (any_goals (first | go_big_quiet_step ((go_at_call 65; exact Calls.regrown_of (decimal_any _ _ (by omega) (by omega)))) | quiet_step ((go_at_call 65; exact Calls.regrown_of (decimal_any _ _ (by omega) (by omega))))))
    refine wpQuiet_nil ?_
    intro W2 hw
    have hb2 := quiet_end hw
    clear hw k0 k1 k2 k3
    have y2 := y1.below hb2 z1
    obtain ⟨m0, m1, m2, m3⟩ := y2
    go_wp2
    go_ret
    exact ⟨by rw [HT.out]; rfl, ((Below.refl _ _).alloc (Nat.le_refl _) _).trans ((hb.mono (by simp)).trans (hb2.mono (by omega)))⟩
  · have HT := Lib.hid (show vText a b c d = core a b c ++ ⟨#[45]⟩ ++ nt d by simp [vText, hk, txt, hd])
    have hd1 : 0 < d := by omega
    go_enter Try.func41, Try.ntmps41
    go_wp2_with (go_at_call 54; refine (rel hB hb0 (specOk_any _ _ _ _ _)).mono ?_; clear hb0; rintro e w1 ⟨rfl, hb⟩)
    have z1 : w.heap.size < w1.heap.size := by have := hb.size; simp at this; omega
    have y1 := v1.below hb (by simp)
    obtain ⟨k0, k1, k2, k3⟩ := y1.grown
    go_wp2_with fail
    refine wp_region_quiet_below (by kernel_rfl) (by kernel_rfl) ?_
    repeat (any_goals (first | go_big_quiet_step ((go_at_call 65; exact Calls.regrown_of (decimal_any _ _ (by omega) (by omega)))) | quiet_step ((go_at_call 65; exact Calls.regrown_of (decimal_any _ _ (by omega) (by omega))))))
    refine wpQuiet_nil ?_
    intro W2 hw
    have hb2 := quiet_end hw
    clear hw k0 k1 k2 k3
    have y2 := y1.below hb2 z1
    obtain ⟨m0, m1, m2, m3⟩ := y2
    go_wp2_with (go_at_call 65; refine (decimal_any _ _ (by omega) (by omega)).mono ?_; rintro e w3 ⟨rfl, hb3⟩)
    go_ret
    exact ⟨by rw [HT.out]; rfl, ((Below.refl _ _).alloc (Nat.le_refl _) _).trans ((hb.mono (by simp)).trans ((hb2.mono (by omega)).trans (hb3.mono (by have := hb2.size; omega))))⟩

set_option maxHeartbeats 1000000 in
theorem implText_any (a b c d : Int) (w : World) :
    Calls Try.prog 31 #[ver a b c d] w fun e w' => e = .returned (.string (vText a b c d)) ∧ Below w.heap.size w w' := by
  have v1 := verAt_new w a b c d 47
  have hB : w.heap.size + 1 ≤ (w.alloc (.cells #[.int .i64 a, .int .i64 b, .int .i64 c, .int .i64 d] 47)).heap.size := by simp
  have hb0 := Below.refl (w.heap.size + 1) (w.alloc (.cells #[.int .i64 a, .int .i64 b, .int .i64 c, .int .i64 d] 47))
  rcases hk : vOk a b c d
  · have H := Lib.hid (show vText a b c d = ⟨#[]⟩ by simp [vText, hk])
    go_enter Try.func31, Try.ntmps31
    go_wp2_with (go_at_call 50; refine (rel hB hb0 (implOk_any _ _ _ _ _)).mono ?_; clear hb0; rintro e w1 ⟨rfl, hb⟩)
    go_ret
    exact ⟨by rw [H.out]; rfl, ((Below.refl _ _).alloc (Nat.le_refl _) _).trans (hb.mono (by simp))⟩
  obtain ⟨⟨a0, a1⟩, ⟨b0, b1⟩, ⟨c0, c1⟩, d0, d1⟩ := vOk_iff.1 hk
  obtain ⟨n1, n2, n3, n4, n5, n6⟩ := room a b c d
  by_cases hd : d = 0
  · subst hd
    have HT := Lib.hid (show vText a b c 0 = core a b c by simp [vText, hk, txt])
    go_enter Try.func31, Try.ntmps31
    go_wp2_with (go_at_call 50; refine (rel hB hb0 (implOk_any _ _ _ _ _)).mono ?_; clear hb0; rintro e w1 ⟨rfl, hb⟩)
    have z1 : w.heap.size < w1.heap.size := by have := hb.size; simp at this; omega
    have y1 := v1.below hb (by simp)
    obtain ⟨k0, k1, k2, k3⟩ := y1.grown
    go_wp2_with fail
    refine wp_region_quiet_below (by kernel_rfl) (by kernel_rfl) ?_
    repeat (any_goals (first | go_big_quiet_step ((go_at_call 55; exact Calls.regrown_of (numberText_below _ _ (by omega) (by omega)))) | quiet_step ((go_at_call 55; exact Calls.regrown_of (numberText_below _ _ (by omega) (by omega))))))
    refine wpQuiet_nil ?_
    intro W2 hw
    have hb2 := quiet_end hw
    clear hw k0 k1 k2 k3
    have y2 := y1.below hb2 z1
    obtain ⟨m0, m1, m2, m3⟩ := y2
    go_wp2
    go_ret
    exact ⟨by rw [HT.out]; rfl, ((Below.refl _ _).alloc (Nat.le_refl _) _).trans ((hb.mono (by simp)).trans (hb2.mono (by omega)))⟩
  · have HT := Lib.hid (show vText a b c d = core a b c ++ ⟨#[45]⟩ ++ nt d by simp [vText, hk, txt, hd])
    have hd1 : 0 < d := by omega
    go_enter Try.func31, Try.ntmps31
    go_wp2_with (go_at_call 50; refine (rel hB hb0 (implOk_any _ _ _ _ _)).mono ?_; clear hb0; rintro e w1 ⟨rfl, hb⟩)
    have z1 : w.heap.size < w1.heap.size := by have := hb.size; simp at this; omega
    have y1 := v1.below hb (by simp)
    obtain ⟨k0, k1, k2, k3⟩ := y1.grown
    go_wp2_with fail
    refine wp_region_quiet_below (by kernel_rfl) (by kernel_rfl) ?_
    repeat (any_goals (first | go_big_quiet_step ((go_at_call 55; exact Calls.regrown_of (numberText_below _ _ (by omega) (by omega)))) | quiet_step ((go_at_call 55; exact Calls.regrown_of (numberText_below _ _ (by omega) (by omega))))))
    refine wpQuiet_nil ?_
    intro W2 hw
    have hb2 := quiet_end hw
    clear hw k0 k1 k2 k3
    have y2 := y1.below hb2 z1
    obtain ⟨m0, m1, m2, m3⟩ := y2
    go_wp2_with (go_at_call 55; refine (numberText_below _ _ (by omega) (by omega)).mono ?_; rintro e w3 ⟨rfl, hb3⟩)
    go_ret
    exact ⟨by rw [HT.out]; rfl, ((Below.refl _ _).alloc (Nat.le_refl _) _).trans ((hb.mono (by simp)).trans ((hb2.mono (by omega)).trans (hb3.mono (by have := hb2.size; omega))))⟩

end Go.Proofs.Ytenfdbikgpppdaa

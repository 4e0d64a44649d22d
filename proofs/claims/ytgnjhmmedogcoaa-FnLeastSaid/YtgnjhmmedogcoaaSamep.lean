/- The contract of the laws' samePicks, over this seat's translation: whether two rows of picks are one; nothing that was there before the call has changed. Condition: at most 1048576 picks. -/
import Derived.Test.YtgnjhmmedogcoaaGg
import Derived.Handy
import Derived.Deep.CutRange
namespace Go.Proofs.Ytgnjhmmedogcoaa
open Go.RowKit Go.Sort

namespace Smp
theorem pickN_alike (n a b c d : Int) (V : World) : (binOp .neq 68 (pick n a b c d) (pick n a b c d)).run Try.prog V = .ok (.bool false) V := by
  go_simp
theorem pickN_differ {n a b c d m p q r s : Int} (h : ¬ (n = m ∧ a = p ∧ b = q ∧ c = r ∧ d = s)) (V : World) : (binOp .neq 68 (pick n a b c d) (pick m p q r s)).run Try.prog V = .ok (.bool true) V := by
  by_cases h0 : n = m
  · by_cases h1 : a = p
    · by_cases h2 : b = q
      · by_cases h3 : c = r
        · have b4 : (d == s) = false := by rw [beq_eq_false_iff_ne]; exact fun e => h ⟨h0, h1, h2, h3, e⟩
          subst h0; subst h1; subst h2; subst h3
          go_simp
        · have b3 : (c == r) = false := by rw [beq_eq_false_iff_ne]; exact h3
          subst h0; subst h1; subst h2
          go_simp
      · have b2 : (b == q) = false := by rw [beq_eq_false_iff_ne]; exact h2
        subst h0; subst h1
        go_simp
    · have b1 : (a == p) = false := by rw [beq_eq_false_iff_ne]; exact h1
      subst h0
      go_simp
  · have b0 : (n == m) = false := by rw [beq_eq_false_iff_ne]; exact h0
    go_simp
theorem take_push {A B : List Pk} {k : Nat} {x : Pk} (ha : A[k]? = some x) (hb : B[k]? = some x) (h : A.take k = B.take k) : A.take (k + 1) = B.take (k + 1) := by
  obtain ⟨h1, e1⟩ := List.getElem?_eq_some_iff.1 ha
  obtain ⟨h2, e2⟩ := List.getElem?_eq_some_iff.1 hb
  rw [List.take_succ_eq_append_getElem h1, List.take_succ_eq_append_getElem h2, h, e1, e2]

set_option maxRecDepth 100000 in
set_option maxHeartbeats 4000000 in
theorem samePicks_any (u v : Value) (A B : List Pk) (w : World) (hl : A.length ≤ 1048576) (hm : B.length ≤ 1048576) (h : PkAt w w.heap.size u A) (h' : PkAt w w.heap.size v B) :
    Calls Try.prog 39 #[u, v] w fun e w' => e = .returned (.bool (decide (A = B))) ∧ Below w.heap.size w w' := by
  obtain ⟨xa, ca, rfl, h⟩ := h
  obtain ⟨xb, cb, rfl, h'⟩ := h'
  by_cases hlen : A.length = B.length
  · have hle : ((A.length : Int) == (B.length : Int)) = true := by rw [beq_iff_eq]; omega
    have HL := Lib.hid hlen
    go_enter Try.func39, Try.ntmps39
    go_wp2_with fail
    go_loopw [5] (fun i wr => ∃ k : Nat, k ≤ A.length ∧ i = .int .i64 (k : Int) ∧ A.take k = B.take k ∧ Below w.heap.size w wr) (fun i _ => A.length - (intOf i).toNat)
    case atStart => exact ⟨0, Nat.zero_le _, rfl, rfl, Below.refl _ _⟩
    case round =>
      obtain ⟨k, hk, rfl, ht, hb⟩ := hrel
      have HT := Lib.hid ht
      clear ht
      by_cases hlt : k < A.length
      · have hlt' : k < B.length := by have := HL.out; omega
        rcases h with h | ⟨g, o, rfl, hB, hc⟩
        · subst h
          exact absurd hlt (by simp)
        rcases h' with h' | ⟨g', o', rfl, hB', hc'⟩
        · subst h'
          exact absurd hlt' (by simp)
        obtain ⟨x, a1, c1, d1, e1, hxy⟩ : ∃ x a1 c1 d1 e1, A[k] = (x, a1, c1, d1, e1) := ⟨_, _, _, _, _, rfl⟩
        obtain ⟨y, p1, q1, r1, s1, hxy'⟩ : ∃ x a1 c1 d1 e1, B[k] = (x, a1, c1, d1, e1) := ⟨_, _, _, _, _, rfl⟩
        have m1 := (hc k hlt).below hb hB
        have m2 := (hc' k hlt').below hb hB'
        rw [hxy] at m1
        rw [hxy'] at m2
        obtain ⟨k0, k1, k2, k3, k4⟩ := m1
        obtain ⟨l0, l1, l2, l3, l4⟩ := m2
        simp only at k0 k1 k2 k3 k4 l0 l1 l2 l3 l4
        have HA := Lib.hid (show A[k]? = some (x, a1, c1, d1, e1) by rw [List.getElem?_eq_getElem hlt, hxy])
        have HB := Lib.hid (show B[k]? = some (y, p1, q1, r1, s1) by rw [List.getElem?_eq_getElem hlt', hxy'])
        clear hxy hxy' hc hc'
        have j0 : (0 : Int) ≤ (k : Int) := by omega
        have j1 : (k : Int) < (A.length : Int) := by omega
        have j2 : (k : Int) < (B.length : Int) := by omega
        have t0 := cell_regrown k0
        have t1 := cell_regrown k1
        have t2 := cell_regrown k2
        have t3 := cell_regrown k3
        have t4 := cell_regrown k4
        have u0 := cell_regrown l0
        have u1 := cell_regrown l1
        have u2 := cell_regrown l2
        have u3 := cell_regrown l3
        have u4 := cell_regrown l4
        clear k0 k1 k2 k3 k4 l0 l1 l2 l3 l4
        by_cases he : x = y ∧ a1 = p1 ∧ c1 = q1 ∧ d1 = r1 ∧ e1 = s1
        · obtain ⟨rfl, rfl, rfl, rfl, rfl⟩ := he
          have hN := pickN_alike x a1 c1 d1 e1
          have HP := Lib.hid (take_push HA.out HB.out HT.out)
          go_wp2_with fail
          refine wp_region_quiet_below (by kernel_rfl) (by kernel_rfl) ?_
          repeat (any_goals (first | go_big_quiet_step (fail) | quiet_step (fail)))
          refine wpQuiet_nil ?_
          intro W2 hw2
          have nn := quiet_end hw2
          clear hw2 t0 t1 t2 t3 t4 u0 u1 u2 u3 u4
          have HBB := Lib.hid (hb.trans (nn.mono hb.size))
          go_wp2_with fail
          go_roundw
          case rel => exact ⟨k + 1, by omega, by go_num, HP.out, HBB.out⟩
          case measure => simp [intOf]; omega
        · have hN := pickN_differ he
          have HF := Lib.hid (show decide (A = B) = false by
            refine decide_eq_false fun e => he ?_
            have h1 := HA.out
            rw [e, HB.out] at h1
            simp only [Option.some.injEq, Prod.mk.injEq] at h1
            obtain ⟨h1, h2, h3, h4, h5⟩ := h1
            exact ⟨h1.symm, h2.symm, h3.symm, h4.symm, h5.symm⟩)
          clear he
          go_wp2_with fail
          refine wp_region_quiet_below (by kernel_rfl) (by kernel_rfl) ?_
          repeat (any_goals (first | go_big_quiet_step (fail) | quiet_step (fail)))
          refine wpQuiet_nil ?_
          intro W2 hw2
          have nn := quiet_end hw2
          clear hw2 t0 t1 t2 t3 t4 u0 u1 u2 u3 u4
          go_wp2_with fail
          go_ret
          exact ⟨by rw [HF.out]; rfl, hb.trans (nn.mono hb.size)⟩
      · obtain rfl : k = A.length := by omega
        have HF := Lib.hid (show decide (A = B) = true by
          refine decide_eq_true ?_
          have := HT.out
          rw [List.take_length, HL.out, List.take_length] at this
          exact this)
        go_wp2_with fail
        go_ret
        exact ⟨by rw [HF.out]; rfl, hb⟩
  · have hle : ((A.length : Int) == (B.length : Int)) = false := by rw [beq_eq_false_iff_ne]; omega
    have HF := Lib.hid (show decide (A = B) = false from decide_eq_false fun e => hlen (by rw [e]))
    go_enter Try.func39, Try.ntmps39
    go_wp2_with fail
    go_ret
    exact ⟨by rw [HF.out]; rfl, Below.refl _ _⟩
end Smp
end Go.Proofs.Ytgnjhmmedogcoaa

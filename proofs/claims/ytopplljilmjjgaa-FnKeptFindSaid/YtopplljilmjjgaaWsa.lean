/- The laws' sameWorld, over this seat's translation: two rows of the same targets are told to be the same; nothing that was there before the call has changed. Conditions: at most 1048576 targets, lines and numbers of each. -/
import Derived.Test.YtopplljilmjjgaaTgto
import Derived.Test.YtopplljilmjjgaaRxw
import Derived.BigQuiet
namespace Go.Proofs.Ytopplljilmjjgaa
open Go.ChangeShapes Go.WideShapes Go.ChangeAt Go.RowKit Go.Sort Go.Joins Go.Deep
namespace Wsa
open Tg Tgn Rx
theorem lnN_alike (p q r : Int) (t : ByteArray) (V : World) : (binOp .neq 99 (.agg #[.int .i64 p, .int .i64 q, .int .i64 r, .string t]) (.agg #[.int .i64 p, .int .i64 q, .int .i64 r, .string t])).run Try.prog V = .ok (.bool false) V := by
  have h1 : (p == p) = true := by simp
  have h2 : (q == q) = true := by simp
  have h3 : (r == r) = true := by simp
  have h4 : (t.toList == t.toList) = true := by simp
  go_simp
set_option maxRecDepth 100000 in
set_option maxHeartbeats 4000000 in
theorem sameLines_same {v v' : Value} {D : List Ln} {w : World} (hl : D.length ≤ 1048576) (h : LnAt w w.heap.size v D) (h' : LnAt w w.heap.size v' D) :
    Calls Try.prog 59 #[v, v'] w fun e w' => e = .returned (.bool true) ∧ Below w.heap.size w w' := by
  obtain ⟨a, cap, rfl, hc⟩ := h
  obtain ⟨a', cap', rfl, hc'⟩ := h'
  have H := Lib.hid hc
  have H' := Lib.hid hc'
  clear hc hc'
  have hz : ((D.length : Int) != (D.length : Int)) = false := by simp
  go_enter Try.func59, Try.ntmps59
  go_wp2
  go_loopw [5] (fun i wr => ∃ k : Nat, k ≤ D.length ∧ i = .int .i64 (k : Int) ∧ Below w.heap.size w wr) (fun i _ => D.length - (intOf i).toNat)
  case atStart => exact ⟨0, Nat.zero_le _, rfl, Below.refl _ _⟩
  case round =>
    obtain ⟨k, hk, rfl, hb⟩ := hrel
    by_cases hlt : k < D.length
    · rcases H.out with h1 | ⟨b, o, rfl, hB, hc⟩
      · subst h1
        exact absurd hlt (by simp)
      rcases H'.out with h2 | ⟨b', o', rfl, hB', hc'⟩
      · subst h2
        exact absurd hlt (by simp)
      obtain ⟨p, q, r, t, hxy⟩ : ∃ p q r t, D[k] = (p, q, r, t) := ⟨_, _, _, _, rfl⟩
      have m1 := (hc k hlt).below hb hB
      have m2 := (hc' k hlt).below hb hB'
      rw [hxy] at m1 m2
      obtain ⟨k0, k1, k2, k3⟩ := m1
      obtain ⟨l0, l1, l2, l3⟩ := m2
      simp only at k0 k1 k2 k3 l0 l1 l2 l3
      clear hc hc' hxy
      have i0 : (0 : Int) ≤ (k : Int) := by omega
      have i1 : (k : Int) < (D.length : Int) := by omega
      have hne := lnN_alike p q r t
      have t0 := cell_regrown k0
      have u0 := cell_regrown l0
      have t1 := cell_regrown k1
      have u1 := cell_regrown l1
      have t2 := cell_regrown k2
      have u2 := cell_regrown l2
      have t3 := cell_regrown k3
      have u3 := cell_regrown l3
      go_wp2_with fail
      refine wp_region_quiet_below (by kernel_rfl) (by kernel_rfl) ?_
      repeat (any_goals (first | go_big_quiet_step (fail) | quiet_step (fail)))
      refine wpQuiet_nil ?_
      intro W2 hw
      have nn := quiet_end hw
      clear hw t0 t1 t2 t3 u0 u1 u2 u3 hne
      have HP := Lib.hid (hb.trans (nn.mono hb.size))
      go_wp2_with fail
      go_roundw
      case rel => exact ⟨k + 1, by omega, by go_num, HP.out⟩
      case measure => simp [intOf]; omega
    · obtain rfl : k = D.length := by omega
      go_wp2_with fail
      go_ret
      exact ⟨rfl, hb⟩
set_option maxRecDepth 100000 in
set_option maxHeartbeats 4000000 in
theorem sameTarget_same (m : Bool) (t : ByteArray) {v v' u u' : Value} {L : List Ln} {N : List Int} {w : World} (hl : L.length ≤ 1048576) (hn : N.length ≤ 1048576) (h : LnAt w w.heap.size v L) (h' : LnAt w w.heap.size v' L) (i : InAt w w.heap.size u N) (i' : InAt w w.heap.size u' N) :
    Calls Try.prog 108 #[tgt m t v u, tgt m t v' u'] w fun e w' => e = .returned (.bool true) ∧ Below w.heap.size w w' := by
  have h1 : (m == m) = true := by simp
  have h2 : (t.toList == t.toList) = true := by simp
  obtain ⟨a1, c1, rfl, x1⟩ := id h
  obtain ⟨a2, c2, rfl, x2⟩ := id h'
  obtain ⟨a3, c3, rfl, x3⟩ := id i
  obtain ⟨a4, c4, rfl, x4⟩ := id i'
  clear x1 x2 x3 x4
  have b0 := ((Below.refl w.heap.size w).alloc (Nat.le_refl _) (.cells #[.bool m, .string t, .slice a1 L.length c1, .slice a3 N.length c3] 79)).alloc (by simp) (.cells #[.bool m, .string t, .slice a2 L.length c2, .slice a4 N.length c4] 79)
  have K := Lib.hid (fun V (g : Below w.heap.size w V) => sameLines_same hl (h.stepAt g) (h'.stepAt g))
  have K2 := Lib.hid (fun V (g : Below w.heap.size w V) => Rxw.sameInts_same hn (i.stepAt g) (i'.stepAt g))
  have HB := Lib.hid b0
  clear h h' i i' b0
  go_enter Try.func108, Try.ntmps108
  go_wp2_with fail
  refine (K.out _ HB.out).mono ?_
  rintro e w2 ⟨rfl, hb⟩
  have b2 := Lib.hid (HB.out.trans (hb.mono HB.out.size))
  obtain ⟨hc, hf⟩ : (∀ b o, b < w.heap.size + 1 + 1 → w2.cell? ⟨b, o, none⟩ = _) ∧ (∀ b o, b < w.heap.size + 1 + 1 → w2.frozen? ⟨b, o, none⟩ = _) :=
    ⟨fun b o hbo => hb.cell (p := ⟨b, o, none⟩) (by simpa using hbo), fun b o hbo => hb.frozen (p := ⟨b, o, none⟩) (by simpa using hbo)⟩
  clear hb
  go_wp2_with fail
  refine (K2.out _ b2.out).mono ?_
  rintro e w3 ⟨rfl, hb⟩
  have b3 := Lib.hid (b2.out.trans (hb.mono b2.out.size))
  clear hb hc hf
  go_wp2_with fail
  go_ret
  exact ⟨rfl, b3.out⟩

set_option maxRecDepth 100000 in
set_option maxHeartbeats 4000000 in
theorem sameWorld_same {v v' : Value} {S : List Tgt} {w : World} (hl : S.length ≤ 1048576) (hq : ∀ q ∈ S, Fits q) (h : TgAt w w.heap.size v S) (h' : TgAt w w.heap.size v' S) :
    Calls Try.prog 52 #[v, v'] w fun e w' => e = .returned (.bool true) ∧ Below w.heap.size w w' := by
  obtain ⟨a, cap, rfl, hc⟩ := h
  obtain ⟨a', cap', rfl, hc'⟩ := h'
  have H := Lib.hid hc
  have H' := Lib.hid hc'
  clear hc hc'
  have hz : ((S.length : Int) != (S.length : Int)) = false := by simp
  go_enter Try.func52, Try.ntmps52
  go_wp2
  go_loopw [5] (fun i wr => ∃ k : Nat, k ≤ S.length ∧ i = .int .i64 (k : Int) ∧ Below w.heap.size w wr) (fun i _ => S.length - (intOf i).toNat)
  case atStart => exact ⟨0, Nat.zero_le _, rfl, Below.refl _ _⟩
  case round =>
    obtain ⟨k, hk, rfl, hb⟩ := hrel
    by_cases hlt : k < S.length
    · rcases H.out with h1 | ⟨b, o, rfl, hB, hc⟩
      · subst h1
        exact absurd hlt (by simp)
      rcases H'.out with h2 | ⟨b', o', rfl, hB', hc'⟩
      · subst h2
        exact absurd hlt (by simp)
      obtain ⟨x, t, L, N, hxy⟩ : ∃ x t L N, S[k] = (x, t, L, N) := ⟨_, _, _, _, rfl⟩
      have m1 := (hc k hlt).below hb hB
      have m2 := (hc' k hlt).below hb hB'
      have hF : L.length ≤ 1048576 ∧ N.length ≤ 1048576 := by have := hq _ (List.getElem_mem hlt); rwa [hxy] at this
      rw [hxy] at m1 m2
      obtain ⟨⟨k0, k1⟩, a1, c1, a2, c2, k2, k3, s1, s2⟩ := m1
      obtain ⟨⟨l0, l1⟩, a1', c1', a2', c2', l2, l3, r1, r2⟩ := m2
      simp only at k0 k1 k2 k3 l0 l1 l2 l3 s1 s2 r1 r2
      have s1 := s1.mono hb.size
      have s2 := s2.mono hb.size
      have r1 := r1.mono hb.size
      have r2 := r2.mono hb.size
      clear hc hc' hxy
      have i0 : (0 : Int) ≤ (k : Int) := by omega
      have i1 : (k : Int) < (S.length : Int) := by omega
      have t0 := cell_regrown k0
      have u0 := cell_regrown l0
      have t1 := cell_regrown k1
      have u1 := cell_regrown l1
      have t2 := cell_regrown k2
      have u2 := cell_regrown l2
      have t3 := cell_regrown k3
      have u3 := cell_regrown l3
      have K := Lib.hid fun V (g : Below wr.heap.size wr V) => sameTarget_same x t (w := V) hF.1 hF.2 (s1.stepAt g) (r1.stepAt g) (s2.stepAt g) (r2.stepAt g)
      clear s1 s2 r1 r2
      go_wp2_with fail
      refine wp_region_quiet_below (by kernel_rfl) (by kernel_rfl) ?_
      repeat (any_goals (first | go_big_quiet_step ((go_at_call 108; exact Calls.regrown_of (K.out _ (below_regrown _ _ _)))) | quiet_step ((go_at_call 108; exact Calls.regrown_of (K.out _ (below_regrown _ _ _))))))
      refine wpQuiet_nil ?_
      intro W2 hw
      have nn := quiet_end hw
      clear hw t0 t1 t2 t3 u0 u1 u2 u3
      have HP := Lib.hid (hb.trans (nn.mono hb.size))
      go_wp2_with fail
      go_roundw
      case rel => exact ⟨k + 1, by omega, by go_num, HP.out⟩
      case measure => simp [intOf]; omega
    · obtain rfl : k = S.length := by omega
      go_wp2_with fail
      go_ret
      exact ⟨rfl, hb⟩
end Wsa
end Go.Proofs.Ytopplljilmjjgaa

/- Contracts of the model's l4Held, l4Met and ChoiceFault, over this seat's translation, as plain functions tell them; nothing that was there before a call has changed. Condition: at most 1048576 of each row and of what is in it. -/
import Derived.BigFrame
import Derived.Deep.RegionWith
import Derived.Test.YtmhamoeibkpnpaaGi
import Derived.Test.YtmhamoeibkpnpaaCps
namespace Go.Proofs.Ytmhamoeibkpnpaa
open Go.RowKit Go.Sort

namespace Cfa
open Foot Copy Nup Cpu Pkf
theorem pickE_alike (n a b c d : Int) (V : World) : (binOp .eql 71 (pick n a b c d) (pick n a b c d)).run Try.prog V = .ok (.bool true) V := by
  go_simp
theorem pickE_differ {n a b c d m p q r s : Int} (h : ¬ (n = m ∧ a = p ∧ b = q ∧ c = r ∧ d = s)) (V : World) : (binOp .eql 71 (pick n a b c d) (pick m p q r s)).run Try.prog V = .ok (.bool false) V := by
  by_cases h0 : n = m
  · by_cases h1 : a = p
    · by_cases h2 : b = q
      · by_cases h3 : c = r
        · have b4 : (d == s) = false := by rw [beq_eq_false_iff_ne]; exact fun e => h ⟨h0, h1, h2, h3, e⟩
          subst h0; subst h1; subst h2; subst h3
          go_simp
        · have b3 : (c == r) = false := by rw [beq_eq_false_iff_ne]; exact h3
          subst h0; subst h1; subst h2
          go_simp
      · have b2 : (b == q) = false := by rw [beq_eq_false_iff_ne]; exact h2
        subst h0; subst h1
        go_simp
    · have b1 : (a == p) = false := by rw [beq_eq_false_iff_ne]; exact h1
      subst h0
      go_simp
  · have b0 : (n == m) = false := by rw [beq_eq_false_iff_ne]; exact h0
    go_simp
theorem held_any : ∀ {D : List Pk} {lo : Int} {x : Pk}, pkFrom lo D = true → D.any (fun q => decide (q = x)) = decide (pkGet x.1 D = some x.2)
  | [], _, _, _ => by simp [pkGet]
  | y :: t, lo, x, h => by
    simp only [pkFrom, Bool.and_eq_true, decide_eq_true_eq] at h
    rw [List.any_cons]
    unfold pkGet
    by_cases e : y.1 = x.1
    · rw [if_pos e]
      have hn : t.any (fun q => decide (q = x)) = false := by
        rw [← Bool.not_eq_true]
        intro hh
        rw [List.any_eq_true] at hh
        obtain ⟨q, hq, hqe⟩ := hh
        have hqe' := of_decide_eq_true hqe
        subst hqe'
        have := from_low h.2.2 q hq
        omega
      rw [hn, Bool.or_false]
      by_cases e2 : y = x
      · subst e2
        simp
      · have : ¬ some y.2 = some x.2 := fun hh => e2 (by injection hh with hh; exact Prod.ext e hh)
        rw [decide_eq_false e2, decide_eq_false this]
    · rw [if_neg e, decide_eq_false (fun hh => e (by rw [hh])), Bool.false_or, held_any h.2.2]

set_option maxRecDepth 100000 in
set_option maxHeartbeats 4000000 in
theorem l4Held_any (z : Value) (C : List Pk) (x p q r s : Int) (w : World) (hC : C.length ≤ 1048576) (hok : pkOk C = true) (h2 : PkAt w w.heap.size z C) :
    Calls Try.prog 44 #[z, pick x p q r s] w fun e w' => e = .returned (.bool (heldP C (x, p, q, r, s))) ∧ Below w.heap.size w w' := by
  obtain ⟨pa, pc, rfl, h0⟩ := id h2
  have HP := Lib.hid (show heldP C (x, p, q, r, s) = C.any (fun y => decide (y = (x, p, q, r, s))) from (held_any (lo := 0) hok).symm)
  clear h2 hok
  obtain ⟨w1, hw1⟩ : ∃ V : World, V = w.alloc (.cells #[.int .i64 x, .int .i64 p, .int .i64 q, .int .i64 r, .int .i64 s] 71) := ⟨_, rfl⟩
  have b1 : Below w.heap.size w w1 := by rw [hw1]; exact (Below.refl _ _).alloc (Nat.le_refl _) _
  have z1 : w.heap.size + 1 ≤ w1.heap.size := by rw [hw1]; simp
  have y0 : w1.cell? ⟨w.heap.size, 0, none⟩ = some (.int .i64 x) := by rw [hw1]; go_simp
  have y1 : w1.cell? ⟨w.heap.size, 1, none⟩ = some (.int .i64 p) := by rw [hw1]; go_simp
  have y2 : w1.cell? ⟨w.heap.size, 2, none⟩ = some (.int .i64 q) := by rw [hw1]; go_simp
  have y3 : w1.cell? ⟨w.heap.size, 3, none⟩ = some (.int .i64 r) := by rw [hw1]; go_simp
  have y4 : w1.cell? ⟨w.heap.size, 4, none⟩ = some (.int .i64 s) := by rw [hw1]; go_simp
  go_enter Try.func44, Try.ntmps44
  go_upto_region 1 with fail
  rw [← hw1]
  clear hw1
  go_wp2_with fail
  go_loopw [5] (fun i wr => ∃ k : Nat, k ≤ C.length ∧ i = .int .i64 (k : Int) ∧ C.any (fun y => decide (y = (x, p, q, r, s))) = (C.drop k).any (fun y => decide (y = (x, p, q, r, s))) ∧ Below w1.heap.size w1 wr) (fun i _ => C.length - (intOf i).toNat)
  case atStart => exact ⟨0, Nat.zero_le _, rfl, rfl, Below.refl _ _⟩
  case round =>
    obtain ⟨k, hk, rfl, he, hb⟩ := hrel
    have HE := Lib.hid he
    clear he
    have bw : Below w.heap.size w wr := b1.trans (hb.mono b1.size)
    by_cases hlt : k < C.length
    · rcases h0 with h0 | ⟨b, o, rfl, hB, hc⟩
      · subst h0
        exact absurd hlt (by simp)
      obtain ⟨m, a, b', c, d, hxy⟩ : ∃ x a b c d, C[k] = (x, a, b, c, d) := ⟨_, _, _, _, _, rfl⟩
      obtain ⟨r0, r1, r2, r3, r4⟩ := hc k hlt
      rw [hxy] at r0 r1 r2 r3 r4
      simp only at r0 r1 r2 r3 r4
      have t0 := cell_regrown ((bw.cell (p := ⟨b, o + k * 5, none⟩) hB).trans r0)
      have t1 := cell_regrown ((bw.cell (p := ⟨b, o + k * 5 + 1, none⟩) hB).trans r1)
      have t2 := cell_regrown ((bw.cell (p := ⟨b, o + k * 5 + 2, none⟩) hB).trans r2)
      have t3 := cell_regrown ((bw.cell (p := ⟨b, o + k * 5 + 3, none⟩) hB).trans r3)
      have t4 := cell_regrown ((bw.cell (p := ⟨b, o + k * 5 + 4, none⟩) hB).trans r4)
      have u0 := cell_regrown ((hb.cell (p := ⟨w.heap.size, 0, none⟩) (by show w.heap.size < w1.heap.size; omega)).trans y0)
      have u1 := cell_regrown ((hb.cell (p := ⟨w.heap.size, 1, none⟩) (by show w.heap.size < w1.heap.size; omega)).trans y1)
      have u2 := cell_regrown ((hb.cell (p := ⟨w.heap.size, 2, none⟩) (by show w.heap.size < w1.heap.size; omega)).trans y2)
      have u3 := cell_regrown ((hb.cell (p := ⟨w.heap.size, 3, none⟩) (by show w.heap.size < w1.heap.size; omega)).trans y3)
      have u4 := cell_regrown ((hb.cell (p := ⟨w.heap.size, 4, none⟩) (by show w.heap.size < w1.heap.size; omega)).trans y4)
      have HST := Lib.hid (show (C.drop k).any (fun y => decide (y = (x, p, q, r, s))) = (decide ((m, a, b', c, d) = (x, p, q, r, s)) || (C.drop (k + 1)).any (fun y => decide (y = (x, p, q, r, s)))) by rw [List.drop_eq_getElem_cons hlt, hxy]; rfl)
      have i0 : (0 : Int) ≤ (k : Int) := by omega
      have i1 : (k : Int) < (C.length : Int) := by omega
      clear hc hxy r0 r1 r2 r3 r4
      by_cases hv : m = x ∧ a = p ∧ b' = q ∧ c = r ∧ d = s
      · obtain ⟨rfl, rfl, rfl, rfl, rfl⟩ := hv
        have hpe := pickE_alike m a b' c d
        have HT := Lib.hid (show heldP C (m, a, b', c, d) = true by rw [HP.out, HE.out, HST.out, decide_eq_true rfl]; rfl)
        go_wp2_with fail
        refine wp_region_quiet_below (by kernel_rfl) (by kernel_rfl) ?_
        repeat (any_goals (first | go_big_quiet_step (fail) | quiet_step (fail)))
        refine wpQuiet_nil ?_
        intro W2 hw2
        have nn := quiet_end hw2
        clear hw2 t0 t1 t2 t3 t4 u0 u1 u2 u3 u4
        go_wp2_with fail
        go_ret
        exact ⟨by rw [HT.out]; rfl, bw.trans (nn.mono bw.size)⟩
      · have hpe := pickE_differ hv
        have HT := Lib.hid (show decide ((m, a, b', c, d) = (x, p, q, r, s)) = false from decide_eq_false (by intro e; simp only [Prod.mk.injEq] at e; exact hv e))
        clear hv
        go_wp2_with fail
        refine wp_region_quiet_below (by kernel_rfl) (by kernel_rfl) ?_
        repeat (any_goals (first | go_big_quiet_step (fail) | quiet_step (fail)))
        refine wpQuiet_nil ?_
        intro W2 hw2
        have nn := quiet_end hw2
        clear hw2 t0 t1 t2 t3 t4 u0 u1 u2 u3 u4
        have HR := Lib.hid (show ∃ k' : Nat, k' ≤ C.length ∧ Value.int .i64 ((k : Int) + 1) = .int .i64 (k' : Int) ∧ C.any (fun y => decide (y = (x, p, q, r, s))) = (C.drop k').any (fun y => decide (y = (x, p, q, r, s))) ∧ Below w1.heap.size w1 W2 from ⟨k + 1, by omega, by go_num, by rw [HE.out, HST.out, HT.out]; rfl, hb.trans (nn.mono hb.size)⟩)
        go_wp2_with fail
        go_roundw
        case rel => exact HR.out
        case measure => simp [intOf]; omega
    · obtain rfl : k = C.length := by omega
      have HQ := Lib.hid (show heldP C (x, p, q, r, s) = false by rw [HP.out, HE.out, List.drop_length]; rfl)
      go_wp2_with fail
      go_ret
      exact ⟨by rw [HQ.out]; rfl, bw⟩

set_option maxRecDepth 100000 in
set_option maxHeartbeats 4000000 in
theorem l4Met_any (z : Value) (C : List Pk) (nm : Int) (la : Option Addr) (lc : Nat) (L : Sps) (w : World) (hC : C.length ≤ 1048576) (hok : pkOk C = true) (hL : L.length ≤ 1048576) (h2 : PkAt w w.heap.size z C) (h : SpAt w w.heap.size (.slice la L.length lc) L) :
    Calls Try.prog 115 #[z, need nm (.slice la L.length lc)] w fun e w' => e = .returned (.bool (metP C (nm, L))) ∧ Below w.heap.size w w' := by
  obtain ⟨pa, pc, rfl, hx⟩ := id h2
  clear hx
  have H := Lib.hid h2
  have HS := Lib.hid h
  have K : Hid (∀ V, PkAt V V.heap.size (.slice pa C.length pc) C → Calls Try.prog 97 #[.slice pa C.length pc, .int .i64 nm] V fun e w' => e = .returned (got (pkGet nm C)) ∧ Below V.heap.size V w') := Lib.hid fun V g => by
    have := specPickOf_any _ C nm V hC g
    rwa [show pkOf C nm = pkGet nm C by unfold pkOf; rw [hok]; rfl] at this
  clear h h2 hok
  obtain ⟨w1, hw1⟩ : ∃ V : World, V = w.alloc (.cells #[.int .i64 nm, .slice la L.length lc] 110) := ⟨_, rfl⟩
  have b1 : Below w.heap.size w w1 := by rw [hw1]; exact (Below.refl _ _).alloc (Nat.le_refl _) _
  have z1 : w.heap.size + 1 ≤ w1.heap.size := by rw [hw1]; simp
  have y0 : w1.cell? ⟨w.heap.size, 0, none⟩ = some (.int .i64 nm) := by rw [hw1]; go_simp
  have y1 : w1.cell? ⟨w.heap.size, 1, none⟩ = some (.slice la L.length lc) := by rw [hw1]; go_simp
  go_enter Try.func115, Try.ntmps115
  go_upto_region 1 with fail
  rw [← hw1]
  clear hw1
  rcases hg : pkGet nm C with _ | ⟨va, vb, vc, vd⟩
  · rw [hg] at K
    simp only [got] at K
    have HT := Lib.hid (show metP C (nm, L) = false by unfold metP; simp only; rw [hg])
    clear hg
    go_wp2_with fail
    refine (K.out _ (H.out.stepAt b1)).mono ?_
    rintro e w2 ⟨rfl, hb⟩
    have b2 := b1.trans (hb.mono b1.size)
    go_wp2_with fail
    go_ret
    exact ⟨by rw [HT.out]; rfl, b2.alloc b2.size _⟩
  · rw [hg] at K
    simp only [got] at K
    have HT := Lib.hid (show metP C (nm, L) = hasL L va vb vc vd by unfold metP; simp only; rw [hg])
    have KH : Hid (∀ V, SpAt V V.heap.size (.slice la L.length lc) L → Calls Try.prog 121 #[.agg #[.slice la L.length lc], ver va vb vc vd] V fun e w' => e = .returned (.bool (hasL L va vb vc vd)) ∧ Below V.heap.size V w') := Lib.hid fun V g => specHas_any _ L va vb vc vd V hL g
    clear hg
    go_wp2_with fail
    refine (K.out _ (H.out.stepAt b1)).mono ?_
    rintro e w2 ⟨rfl, hb⟩
    have b2 := b1.trans (hb.mono b1.size)
    have z2 := hb.size
    obtain ⟨w5, hw5⟩ : ∃ V : World, V = w2.alloc (.cells #[.int .i64 va, .int .i64 vb, .int .i64 vc, .int .i64 vd] 69) := ⟨_, rfl⟩
    have b5 : Below w2.heap.size w2 w5 := by rw [hw5]; exact (Below.refl _ _).alloc (Nat.le_refl _) _
    have n5 := b2.trans (b5.mono b2.size)
    have u1 := (b5.cell (p := ⟨w.heap.size, 1, none⟩) (by show w.heap.size < w2.heap.size; omega)).trans ((hb.cell (p := ⟨w.heap.size, 1, none⟩) (by show w.heap.size < w1.heap.size; omega)).trans y1)
    have x0 : w5.cell? ⟨w2.heap.size, 0, none⟩ = some (.int .i64 va) := by rw [hw5]; go_simp
    have x1 : w5.cell? ⟨w2.heap.size, 1, none⟩ = some (.int .i64 vb) := by rw [hw5]; go_simp
    have x2 : w5.cell? ⟨w2.heap.size, 2, none⟩ = some (.int .i64 vc) := by rw [hw5]; go_simp
    have x3 : w5.cell? ⟨w2.heap.size, 3, none⟩ = some (.int .i64 vd) := by rw [hw5]; go_simp
    clear y0 y1 hb
    go_upto_region 2 with fail
    rw [← hw5]
    clear hw5
    rcases hh : hasL L va vb vc vd
    all_goals
      rw [hh] at KH HT
      clear hh
      go_wp2_with fail
      refine (KH.out _ (HS.out.stepAt (show Below w.heap.size w _ from n5))).mono ?_
      rintro e w6 ⟨rfl, hb6⟩
      go_wp2_with fail
      go_ret
      exact ⟨by rw [HT.out]; rfl, n5.trans (hb6.mono n5.size)⟩
end Cfa
end Go.Proofs.Ytmhamoeibkpnpaa

/- At every code the law FnRangeNot returns true: the program and the model agree on what is not in the drawn range; twice turned it is itself, nothing is in both, and all in one of them. No condition. -/
import Derived.Test.YtflmljgmmcdniaaDrngd
import Derived.Test.YtflmljgmmcdniaaSame
import Derived.Test.YtflmljgmmcdniaaRlaw
import Derived.Test.YtflmljgmmcdniaaImand2
import Derived.Test.YtflmljgmmcdniaaImor2
import Derived.Test.YtflmljgmmcdniaaSpand
import Derived.Test.YtflmljgmmcdniaaSpor
import Derived.Test.YtflmljgmmcdniaaHas
import Derived.Test.YtflmljgmmcdniaaStp
import Derived.Test.YtflmljgmmcdniaaSb
import Derived.Test.YtflmljgmmcdniaaDdraw
import Derived.Test.YtflmljgmmcdniaaPsm
import Derived.Test.YtflmljgmmcdniaaSpnot
import Derived.Deep.RegionHeld3
namespace Go.Proofs.Ytflmljgmmcdniaa
open Go.ChangeShapes Go.WideShapes Go.ChangeAt Go.RowKit Go.Joins Go.Sort

set_option maxRecDepth 100000 in
set_option maxHeartbeats 8000000 in
theorem rangeNotP_short (a : Option Addr) (len cap : Nat) (w : World) (h : CodeIn w a len cap) (hl : len ≤ 1048576) :
    Calls Try.prog 7 #[.slice a len cap] w fun e w' => e = .returned (.bool true) ∧ Below w.heap.size w w' := by
  go_enter Try.func7, Try.ntmps7
  go_wp2_with fail
  refine (DrawRangeNot_any a len cap w h).mono ?_
  rintro e w1 ⟨A, u0, rfl, q0, hA41, b1⟩
  obtain ⟨a0, k0, rfl, _⟩ := id q0
  have rA := (q0.mono (Nat.zero_le _)).sb
  have hA : A.length ≤ 1048576 := by omega
  have z1 := b1.size
  clear h q0 hA41
  have KI : Hid (∀ V u, SpAt V V.heap.size u A → Calls Try.prog 36 #[.agg #[u]] V (TPost (notOk A) (notR A) V)) := Lib.hid fun V u h => implNot_any u A V hA h
  have KS : Hid (∀ V u, SpAt V V.heap.size u A → Calls Try.prog 37 #[.agg #[u]] V (TPost (notOk A) (notR A) V)) := Lib.hid fun V u h => specNot_any u A V hA h
  have hR : (notR A).length ≤ 1048576 := notR_len A
  rcases ho : notOk A
  · have hE : notR A = [] := notR_none ho
    rw [ho, hE] at KI KS
    rw [hE] at hR
    clear ho hE
    go_wp2_with fail
    refine (KI.out _ _ (SB.stepAt rA (by go_grown))).mono ?_
    rintro e w2 ⟨u2, rfl, q2, hb⟩
    obtain ⟨a2, k2, rfl, _⟩ := id q2
    have rw2_g := (q2.mono (Nat.zero_le _)).sb
    clear q2
    have nw2 : Below w1.heap.size w1 w2 := Below.step (by go_grown) hb
    have sw2 : w1.heap.size + 1 ≤ w2.heap.size := by have := hb.size; simp at this; omega
    have cw2_0_0 : w2.cell? ⟨w1.heap.size, 0, none⟩ = some (.slice a0 A.length k0) := (hb.cell (p := ⟨w1.heap.size, 0, none⟩) (by first | (simp; done) | (simp; omega))).trans (by go_simp)
    have rw2_A := SB.step rA (by go_grown) hb
    have bw2 := b1.trans (nw2.mono b1.size)
    clear rA b1 nw2 hb
    have lw2_0 : w1.heap.size < w2.heap.size := by omega
    go_wp2_with fail
    refine (KS.out _ _ (SB.stepAt rw2_A (by go_grown))).mono ?_
    rintro e w3 ⟨u3, rfl, q3, hb⟩
    obtain ⟨a3, k3, rfl, _⟩ := id q3
    have rw3_h := (q3.mono (Nat.zero_le _)).sb
    clear q3
    have nw3 : Below w2.heap.size w2 w3 := Below.step (by go_grown) hb
    have sw3 : w2.heap.size + 1 ≤ w3.heap.size := by have := hb.size; simp at this; omega
    have cw3_0_0 := (nw3.cell (p := ⟨w1.heap.size, 0, none⟩) (by show w1.heap.size < w2.heap.size; omega)).trans cw2_0_0
    have cw3_1_0 : w3.cell? ⟨w2.heap.size, 0, none⟩ = some (.slice a2 0 k2) := (hb.cell (p := ⟨w2.heap.size, 0, none⟩) (by first | (simp; done) | (simp; omega))).trans (by go_simp)
    have rw3_A := SB.step rw2_A (by go_grown) hb
    have rw3_g := SB.step rw2_g (by go_grown) hb
    have bw3 := bw2.trans (nw3.mono bw2.size)
    clear cw2_0_0 rw2_A rw2_g bw2 lw2_0 nw3 hb
    have lw3_0 : w1.heap.size < w3.heap.size := by omega
    have lw3_1 : w2.heap.size < w3.heap.size := by omega
    go_wp2_with fail
    refine (same_true hR (SB.stepAt rw3_g (by go_grown)) (SB.stepAt rw3_h (by go_grown))).mono ?_
    rintro e w4 ⟨rfl, hb⟩
    have nw4 : Below w3.heap.size w3 w4 := Below.step (by go_grown) hb
    have sw4 : w3.heap.size + 1 ≤ w4.heap.size := by have := hb.size; simp at this; omega
    have cw4_0_0 := (nw4.cell (p := ⟨w1.heap.size, 0, none⟩) (by show w1.heap.size < w3.heap.size; omega)).trans cw3_0_0
    have cw4_1_0 := (nw4.cell (p := ⟨w2.heap.size, 0, none⟩) (by show w2.heap.size < w3.heap.size; omega)).trans cw3_1_0
    have cw4_2_0 : w4.cell? ⟨w3.heap.size, 0, none⟩ = some (.slice a3 0 k3) := (hb.cell (p := ⟨w3.heap.size, 0, none⟩) (by first | (simp; done) | (simp; omega))).trans (by go_simp)
    have rw4_A := SB.step rw3_A (by go_grown) hb
    have rw4_g := SB.step rw3_g (by go_grown) hb
    have rw4_h := SB.step rw3_h (by go_grown) hb
    have bw4 := bw3.trans (nw4.mono bw3.size)
    clear cw3_0_0 cw3_1_0 rw3_A rw3_g rw3_h bw3 lw3_0 lw3_1 nw4 hb
    have lw4_0 : w1.heap.size < w4.heap.size := by omega
    have lw4_1 : w2.heap.size < w4.heap.size := by omega
    have lw4_2 : w3.heap.size < w4.heap.size := by omega
    go_wp2_with fail
    refine (alive_any _).mono ?_
    rintro e w5 ⟨rfl, hb⟩
    have nw5 : Below w4.heap.size w4 w5 := Below.step (by go_grown) hb
    have sw5 : w4.heap.size ≤ w5.heap.size := nw5.size
    have cw5_0_0 := (nw5.cell (p := ⟨w1.heap.size, 0, none⟩) (by show w1.heap.size < w4.heap.size; omega)).trans cw4_0_0
    have cw5_1_0 := (nw5.cell (p := ⟨w2.heap.size, 0, none⟩) (by show w2.heap.size < w4.heap.size; omega)).trans cw4_1_0
    have cw5_2_0 := (nw5.cell (p := ⟨w3.heap.size, 0, none⟩) (by show w3.heap.size < w4.heap.size; omega)).trans cw4_2_0
    have rw5_A := SB.step rw4_A (by go_grown) hb
    have rw5_g := SB.step rw4_g (by go_grown) hb
    have rw5_h := SB.step rw4_h (by go_grown) hb
    have bw5 := bw4.trans (nw5.mono bw4.size)
    clear cw4_0_0 cw4_1_0 cw4_2_0 rw4_A rw4_g rw4_h bw4 lw4_0 lw4_1 lw4_2 nw5 hb
    have lw5_0 : w1.heap.size < w5.heap.size := by omega
    have lw5_1 : w2.heap.size < w5.heap.size := by omega
    have lw5_2 : w3.heap.size < w5.heap.size := by omega
    go_wp2_with fail
    go_ret
    exact ⟨rfl, bw5.trans ((show Below w5.heap.size w5 _ from by go_grown).mono bw5.size)⟩
  · obtain ⟨f1, f2, f3, f4, f5, f6, f7⟩ := not_facts ho
    have KO : Hid (∀ V u, SpAt V V.heap.size u (notR A) → Calls Try.prog 24 #[.agg #[u]] V fun e w' => e = .returned (.bool true) ∧ Below V.heap.size V w') := Lib.hid fun V u h => rngOk_true hR f1 h
    have KB : Hid (∀ V u, SpAt V V.heap.size u (notR A) → Calls Try.prog 36 #[.agg #[u]] V (TPost true A V)) := Lib.hid fun V u h => by have := implNot_any u (notR A) V hR h; rwa [f2, f3] at this
    have KN : Hid (∀ V u v, SpAt V V.heap.size u A → SpAt V V.heap.size v (notR A) → Calls Try.prog 17 #[.agg #[u], .agg #[v]] V (TPost true [] V)) := Lib.hid fun V u v h h' => by have := implAnd_any u v A (notR A) V hA hR h h'; rwa [f4, f5] at this
    have KW : Hid (∀ V u v, SpAt V V.heap.size u A → SpAt V V.heap.size v (notR A) → Calls Try.prog 22 #[.agg #[u], .agg #[v]] V (TPost true [(0, 9999999)] V)) := Lib.hid fun V u v h h' => by have := implOr_any u v A (notR A) V hA hR h h'; rwa [f6, f7] at this
    rw [ho] at KI KS
    clear ho f1 f2 f3 f4 f5 f6 f7
    generalize notR A = R at *
    go_wp2_with fail
    refine (KI.out _ _ (SB.stepAt rA (by go_grown))).mono ?_
    rintro e w2 ⟨u2, rfl, q2, hb⟩
    obtain ⟨a2, k2, rfl, _⟩ := id q2
    have rw2_g := (q2.mono (Nat.zero_le _)).sb
    clear q2
    have nw2 : Below w1.heap.size w1 w2 := Below.step (by go_grown) hb
    have sw2 : w1.heap.size + 1 ≤ w2.heap.size := by have := hb.size; simp at this; omega
    have cw2_0_0 : w2.cell? ⟨w1.heap.size, 0, none⟩ = some (.slice a0 A.length k0) := (hb.cell (p := ⟨w1.heap.size, 0, none⟩) (by first | (simp; done) | (simp; omega))).trans (by go_simp)
    have rw2_A := SB.step rA (by go_grown) hb
    have bw2 := b1.trans (nw2.mono b1.size)
    clear rA b1 nw2 hb
    have lw2_0 : w1.heap.size < w2.heap.size := by omega
    go_wp2_with fail
    refine (KS.out _ _ (SB.stepAt rw2_A (by go_grown))).mono ?_
    rintro e w3 ⟨u3, rfl, q3, hb⟩
    obtain ⟨a3, k3, rfl, _⟩ := id q3
    have rw3_h := (q3.mono (Nat.zero_le _)).sb
    clear q3
    have nw3 : Below w2.heap.size w2 w3 := Below.step (by go_grown) hb
    have sw3 : w2.heap.size + 1 ≤ w3.heap.size := by have := hb.size; simp at this; omega
    have cw3_0_0 := (nw3.cell (p := ⟨w1.heap.size, 0, none⟩) (by show w1.heap.size < w2.heap.size; omega)).trans cw2_0_0
    have cw3_1_0 : w3.cell? ⟨w2.heap.size, 0, none⟩ = some (.slice a2 (R : Sps).length k2) := (hb.cell (p := ⟨w2.heap.size, 0, none⟩) (by first | (simp; done) | (simp; omega))).trans (by go_simp)
    have rw3_A := SB.step rw2_A (by go_grown) hb
    have rw3_g := SB.step rw2_g (by go_grown) hb
    have bw3 := bw2.trans (nw3.mono bw2.size)
    clear cw2_0_0 rw2_A rw2_g bw2 lw2_0 nw3 hb
    have lw3_0 : w1.heap.size < w3.heap.size := by omega
    have lw3_1 : w2.heap.size < w3.heap.size := by omega
    go_wp2_with fail
    refine (same_true hR (SB.stepAt rw3_g (by go_grown)) (SB.stepAt rw3_h (by go_grown))).mono ?_
    rintro e w4 ⟨rfl, hb⟩
    have nw4 : Below w3.heap.size w3 w4 := Below.step (by go_grown) hb
    have sw4 : w3.heap.size + 1 ≤ w4.heap.size := by have := hb.size; simp at this; omega
    have cw4_0_0 := (nw4.cell (p := ⟨w1.heap.size, 0, none⟩) (by show w1.heap.size < w3.heap.size; omega)).trans cw3_0_0
    have cw4_1_0 := (nw4.cell (p := ⟨w2.heap.size, 0, none⟩) (by show w2.heap.size < w3.heap.size; omega)).trans cw3_1_0
    have cw4_2_0 : w4.cell? ⟨w3.heap.size, 0, none⟩ = some (.slice a3 (R : Sps).length k3) := (hb.cell (p := ⟨w3.heap.size, 0, none⟩) (by first | (simp; done) | (simp; omega))).trans (by go_simp)
    have rw4_A := SB.step rw3_A (by go_grown) hb
    have rw4_g := SB.step rw3_g (by go_grown) hb
    have rw4_h := SB.step rw3_h (by go_grown) hb
    have bw4 := bw3.trans (nw4.mono bw3.size)
    clear cw3_0_0 cw3_1_0 rw3_A rw3_g rw3_h bw3 lw3_0 lw3_1 nw4 hb
    have lw4_0 : w1.heap.size < w4.heap.size := by omega
    have lw4_1 : w2.heap.size < w4.heap.size := by omega
    have lw4_2 : w3.heap.size < w4.heap.size := by omega
    go_wp2_with fail
    refine (KB.out _ _ (SB.stepAt rw4_g (by go_grown))).mono ?_
    rintro e w5 ⟨u5, rfl, q5, hb⟩
    obtain ⟨a5, k5, rfl, _⟩ := id q5
    have rw5_b := (q5.mono (Nat.zero_le _)).sb
    clear q5
    have nw5 : Below w4.heap.size w4 w5 := Below.step (by go_grown) hb
    have sw5 : w4.heap.size ≤ w5.heap.size := nw5.size
    have cw5_0_0 := (nw5.cell (p := ⟨w1.heap.size, 0, none⟩) (by show w1.heap.size < w4.heap.size; omega)).trans cw4_0_0
    have cw5_1_0 := (nw5.cell (p := ⟨w2.heap.size, 0, none⟩) (by show w2.heap.size < w4.heap.size; omega)).trans cw4_1_0
    have cw5_2_0 := (nw5.cell (p := ⟨w3.heap.size, 0, none⟩) (by show w3.heap.size < w4.heap.size; omega)).trans cw4_2_0
    have rw5_A := SB.step rw4_A (by go_grown) hb
    have rw5_g := SB.step rw4_g (by go_grown) hb
    have rw5_h := SB.step rw4_h (by go_grown) hb
    have bw5 := bw4.trans (nw5.mono bw4.size)
    clear cw4_0_0 cw4_1_0 cw4_2_0 rw4_A rw4_g rw4_h bw4 lw4_0 lw4_1 lw4_2 nw5 hb
    have lw5_0 : w1.heap.size < w5.heap.size := by omega
    have lw5_1 : w2.heap.size < w5.heap.size := by omega
    have lw5_2 : w3.heap.size < w5.heap.size := by omega
    go_wp2_with fail
    refine (KN.out _ _ _ (SB.stepAt rw5_A (by go_grown)) (SB.stepAt rw5_g (by go_grown))).mono ?_
    rintro e w6 ⟨u6, rfl, q6, hb⟩
    obtain ⟨a6, k6, rfl, _⟩ := id q6
    have rw6_n := (q6.mono (Nat.zero_le _)).sb
    clear q6
    have nw6 : Below w5.heap.size w5 w6 := Below.step (by go_grown) hb
    have sw6 : w5.heap.size + 1 ≤ w6.heap.size := by have := hb.size; simp at this; omega
    have cw6_0_0 := (nw6.cell (p := ⟨w1.heap.size, 0, none⟩) (by show w1.heap.size < w5.heap.size; omega)).trans cw5_0_0
    have cw6_1_0 := (nw6.cell (p := ⟨w2.heap.size, 0, none⟩) (by show w2.heap.size < w5.heap.size; omega)).trans cw5_1_0
    have cw6_2_0 := (nw6.cell (p := ⟨w3.heap.size, 0, none⟩) (by show w3.heap.size < w5.heap.size; omega)).trans cw5_2_0
    have cw6_3_0 : w6.cell? ⟨w5.heap.size, 0, none⟩ = some (.slice a5 (A : Sps).length k5) := (hb.cell (p := ⟨w5.heap.size, 0, none⟩) (by first | (simp; done) | (simp; omega))).trans (by go_simp)
    have rw6_A := SB.step rw5_A (by go_grown) hb
    have rw6_g := SB.step rw5_g (by go_grown) hb
    have rw6_h := SB.step rw5_h (by go_grown) hb
    have rw6_b := SB.step rw5_b (by go_grown) hb
    have bw6 := bw5.trans (nw6.mono bw5.size)
    clear cw5_0_0 cw5_1_0 cw5_2_0 rw5_A rw5_g rw5_h rw5_b bw5 lw5_0 lw5_1 lw5_2 nw6 hb
    have lw6_0 : w1.heap.size < w6.heap.size := by omega
    have lw6_1 : w2.heap.size < w6.heap.size := by omega
    have lw6_2 : w3.heap.size < w6.heap.size := by omega
    have lw6_3 : w5.heap.size < w6.heap.size := by omega
    go_wp2_with fail
    refine (KW.out _ _ _ (SB.stepAt rw6_A (by go_grown)) (SB.stepAt rw6_g (by go_grown))).mono ?_
    rintro e w7 ⟨u7, rfl, q7, hb⟩
    obtain ⟨a7, k7, rfl, _⟩ := id q7
    have rw7_x := (q7.mono (Nat.zero_le _)).sb
    clear q7
    have nw7 : Below w6.heap.size w6 w7 := Below.step (by go_grown) hb
    have sw7 : w6.heap.size + 1 ≤ w7.heap.size := by have := hb.size; simp at this; omega
    have cw7_0_0 := (nw7.cell (p := ⟨w1.heap.size, 0, none⟩) (by show w1.heap.size < w6.heap.size; omega)).trans cw6_0_0
    have cw7_1_0 := (nw7.cell (p := ⟨w2.heap.size, 0, none⟩) (by show w2.heap.size < w6.heap.size; omega)).trans cw6_1_0
    have cw7_2_0 := (nw7.cell (p := ⟨w3.heap.size, 0, none⟩) (by show w3.heap.size < w6.heap.size; omega)).trans cw6_2_0
    have cw7_3_0 := (nw7.cell (p := ⟨w5.heap.size, 0, none⟩) (by show w5.heap.size < w6.heap.size; omega)).trans cw6_3_0
    have cw7_4_0 : w7.cell? ⟨w6.heap.size, 0, none⟩ = some (.slice a6 0 k6) := (hb.cell (p := ⟨w6.heap.size, 0, none⟩) (by first | (simp; done) | (simp; omega))).trans (by go_simp)
    have rw7_A := SB.step rw6_A (by go_grown) hb
    have rw7_g := SB.step rw6_g (by go_grown) hb
    have rw7_h := SB.step rw6_h (by go_grown) hb
    have rw7_b := SB.step rw6_b (by go_grown) hb
    have rw7_n := SB.step rw6_n (by go_grown) hb
    have bw7 := bw6.trans (nw7.mono bw6.size)
    clear cw6_0_0 cw6_1_0 cw6_2_0 cw6_3_0 rw6_A rw6_g rw6_h rw6_b rw6_n bw6 lw6_0 lw6_1 lw6_2 lw6_3 nw7 hb
    have lw7_0 : w1.heap.size < w7.heap.size := by omega
    have lw7_1 : w2.heap.size < w7.heap.size := by omega
    have lw7_2 : w3.heap.size < w7.heap.size := by omega
    have lw7_3 : w5.heap.size < w7.heap.size := by omega
    have lw7_4 : w6.heap.size < w7.heap.size := by omega
    go_upto_region 13 with fail
    obtain ⟨w8, hw⟩ : ∃ V : World, V = w7.alloc (.cells #[.slice a7 1 k7] 28) := ⟨_, rfl⟩
    have hb : Below w7.heap.size w7 w8 := by
      rw [hw]
      exact (Below.refl _ _).alloc (Nat.le_refl _) _
    have cN : w8.cell? ⟨w7.heap.size, 0, none⟩ = some (.slice a7 1 k7) := by rw [hw]; go_simp
    have sN : w7.heap.size + 1 ≤ w8.heap.size := by rw [hw]; simp
    rw [← hw]
    clear hw
    have nw8 : Below w7.heap.size w7 w8 := Below.step (by go_grown) hb
    have sw8 : w7.heap.size ≤ w8.heap.size := nw8.size
    have cw8_0_0 := (nw8.cell (p := ⟨w1.heap.size, 0, none⟩) (by show w1.heap.size < w7.heap.size; omega)).trans cw7_0_0
    have cw8_1_0 := (nw8.cell (p := ⟨w2.heap.size, 0, none⟩) (by show w2.heap.size < w7.heap.size; omega)).trans cw7_1_0
    have cw8_2_0 := (nw8.cell (p := ⟨w3.heap.size, 0, none⟩) (by show w3.heap.size < w7.heap.size; omega)).trans cw7_2_0
    have cw8_3_0 := (nw8.cell (p := ⟨w5.heap.size, 0, none⟩) (by show w5.heap.size < w7.heap.size; omega)).trans cw7_3_0
    have cw8_4_0 := (nw8.cell (p := ⟨w6.heap.size, 0, none⟩) (by show w6.heap.size < w7.heap.size; omega)).trans cw7_4_0
    have rw8_A := SB.step rw7_A (by go_grown) hb
    have rw8_g := SB.step rw7_g (by go_grown) hb
    have rw8_h := SB.step rw7_h (by go_grown) hb
    have rw8_b := SB.step rw7_b (by go_grown) hb
    have rw8_n := SB.step rw7_n (by go_grown) hb
    have rw8_x := SB.step rw7_x (by go_grown) hb
    have bw8 := bw7.trans (nw8.mono bw7.size)
    clear cw7_0_0 cw7_1_0 cw7_2_0 cw7_3_0 cw7_4_0 rw7_A rw7_g rw7_h rw7_b rw7_n rw7_x bw7 lw7_0 lw7_1 lw7_2 lw7_3 lw7_4 nw8 hb
    have lw8_0 : w1.heap.size < w8.heap.size := by omega
    have lw8_1 : w2.heap.size < w8.heap.size := by omega
    have lw8_2 : w3.heap.size < w8.heap.size := by omega
    have lw8_3 : w5.heap.size < w8.heap.size := by omega
    have lw8_4 : w6.heap.size < w8.heap.size := by omega
    have lw8_5 : w7.heap.size < w8.heap.size := by omega
    go_region_held3 (fun V => V.cell? ⟨w1.heap.size, 0, none⟩ = some (.slice a0 A.length k0) ∧ V.cell? ⟨w2.heap.size, 0, none⟩ = some (.slice a2 (R : Sps).length k2) ∧ V.cell? ⟨w3.heap.size, 0, none⟩ = some (.slice a3 (R : Sps).length k3) ∧ V.cell? ⟨w5.heap.size, 0, none⟩ = some (.slice a5 (A : Sps).length k5) ∧ V.cell? ⟨w6.heap.size, 0, none⟩ = some (.slice a6 0 k6) ∧ V.cell? ⟨w7.heap.size, 0, none⟩ = some (.slice a7 1 k7)) (go_keep)
      (first
      | (go_at_call 24; refine (KO.out _ _ (SB.stepAt rw8_g (by go_grown))).mono ?_; rintro e wp ⟨rfl, hbp⟩; have nn : Below w8.heap.size w8 wp := Below.step (by go_grown) hbp; have kwp_0 := (nn.cell (p := ⟨w1.heap.size, 0, none⟩) (by show w1.heap.size < w8.heap.size; omega)).trans cw8_0_0; have kwp_1 := (nn.cell (p := ⟨w2.heap.size, 0, none⟩) (by show w2.heap.size < w8.heap.size; omega)).trans cw8_1_0; have kwp_2 := (nn.cell (p := ⟨w3.heap.size, 0, none⟩) (by show w3.heap.size < w8.heap.size; omega)).trans cw8_2_0; have kwp_3 := (nn.cell (p := ⟨w5.heap.size, 0, none⟩) (by show w5.heap.size < w8.heap.size; omega)).trans cw8_3_0; have kwp_4 := (nn.cell (p := ⟨w6.heap.size, 0, none⟩) (by show w6.heap.size < w8.heap.size; omega)).trans cw8_4_0; have kwp_5 := (nn.cell (p := ⟨w7.heap.size, 0, none⟩) (by show w7.heap.size < w8.heap.size; omega)).trans cN)
      | (go_at_call 27; refine (implAll_any _).mono ?_; rintro e wq ⟨uq, rfl, qq, hbq⟩; obtain ⟨aq, kq, rfl, _⟩ := id qq; have rq := (qq.mono (Nat.zero_le _)).sb; clear qq; have nn : Below w8.heap.size w8 wq := Below.step (by go_grown) hbq; have kwq_0 := (nn.cell (p := ⟨w1.heap.size, 0, none⟩) (by show w1.heap.size < w8.heap.size; omega)).trans cw8_0_0; have kwq_1 := (nn.cell (p := ⟨w2.heap.size, 0, none⟩) (by show w2.heap.size < w8.heap.size; omega)).trans cw8_1_0; have kwq_2 := (nn.cell (p := ⟨w3.heap.size, 0, none⟩) (by show w3.heap.size < w8.heap.size; omega)).trans cw8_2_0; have kwq_3 := (nn.cell (p := ⟨w5.heap.size, 0, none⟩) (by show w5.heap.size < w8.heap.size; omega)).trans cw8_3_0; have kwq_4 := (nn.cell (p := ⟨w6.heap.size, 0, none⟩) (by show w6.heap.size < w8.heap.size; omega)).trans cw8_4_0; have kwq_5 := (nn.cell (p := ⟨w7.heap.size, 0, none⟩) (by show w7.heap.size < w8.heap.size; omega)).trans cN)
      | (go_at_call 26; ((with_reducible refine (same_true hA (SB.stepAt rw8_b (by go_grown)) (SB.stepAt rw8_A (by go_grown))).mono ?_); rintro e wr ⟨rfl, hbr⟩); have nn : Below w8.heap.size w8 wr := Below.step (by go_grown) hbr; have kwr_0 := (nn.cell (p := ⟨w1.heap.size, 0, none⟩) (by show w1.heap.size < w8.heap.size; omega)).trans cw8_0_0; have kwr_1 := (nn.cell (p := ⟨w2.heap.size, 0, none⟩) (by show w2.heap.size < w8.heap.size; omega)).trans cw8_1_0; have kwr_2 := (nn.cell (p := ⟨w3.heap.size, 0, none⟩) (by show w3.heap.size < w8.heap.size; omega)).trans cw8_2_0; have kwr_3 := (nn.cell (p := ⟨w5.heap.size, 0, none⟩) (by show w5.heap.size < w8.heap.size; omega)).trans cw8_3_0; have kwr_4 := (nn.cell (p := ⟨w6.heap.size, 0, none⟩) (by show w6.heap.size < w8.heap.size; omega)).trans cw8_4_0; have kwr_5 := (nn.cell (p := ⟨w7.heap.size, 0, none⟩) (by show w7.heap.size < w8.heap.size; omega)).trans cN)
      | (go_at_call 26; (refine (same_true (L := [(0, 9999999)]) (by simp) (SB.stepAt rw8_x (by go_grown)) (SB.stepAt rq (by go_grown))).mono ?_; rintro e ws ⟨rfl, hbs⟩); have nn : Below w8.heap.size w8 ws := Below.step (by go_grown) hbs; have kws_0 := (nn.cell (p := ⟨w1.heap.size, 0, none⟩) (by show w1.heap.size < w8.heap.size; omega)).trans cw8_0_0; have kws_1 := (nn.cell (p := ⟨w2.heap.size, 0, none⟩) (by show w2.heap.size < w8.heap.size; omega)).trans cw8_1_0; have kws_2 := (nn.cell (p := ⟨w3.heap.size, 0, none⟩) (by show w3.heap.size < w8.heap.size; omega)).trans cw8_2_0; have kws_3 := (nn.cell (p := ⟨w5.heap.size, 0, none⟩) (by show w5.heap.size < w8.heap.size; omega)).trans cw8_3_0; have kws_4 := (nn.cell (p := ⟨w6.heap.size, 0, none⟩) (by show w6.heap.size < w8.heap.size; omega)).trans cw8_4_0; have kws_5 := (nn.cell (p := ⟨w7.heap.size, 0, none⟩) (by show w7.heap.size < w8.heap.size; omega)).trans cN))
    all_goals
      go_wp2_with fail
      go_ret
      exact ⟨rfl, bw8.trans (nn.mono bw8.size)⟩

set_option maxHeartbeats 1000000 in
theorem rangeNotP_long (a : Option Addr) (len cap : Nat) (w : World) (hl : 1048576 < len) :
    Calls Try.prog 7 #[.slice a len cap] w fun e w' => e = .returned (.bool true) ∧ Below w.heap.size w w' := by
  go_enter Try.func7, Try.ntmps7
  go_wp2
  go_ret
  exact ⟨rfl, Below.refl _ _⟩

theorem rangeNotP_walk (a : Option Addr) (len cap : Nat) (w : World) (h : CodeIn w a len cap) :
    Calls Try.prog 7 #[.slice a len cap] w fun e w' => e = .returned (.bool true) ∧ Below w.heap.size w w' := by
  by_cases hl : len ≤ 1048576
  · exact rangeNotP_short a len cap w h hl
  · exact rangeNotP_long a len cap w (by omega)

theorem rangeNotP_holds : Rows.FnRangeNotSaid :=
  OpenClaim.holds_of_wide 7 Try.f7 rfl rfl rfl rfl rfl rfl rfl ⟨rfl, rfl, rfl, rfl, rfl⟩ rfl rfl rfl rfl rfl (by kernel_rfl) Try.func7 (by kernel_rfl)
    (of_decide_eq_true (by kernel_rfl)) (by unfold Func.isWrapper; rw [if_neg (by decide +kernel)]; exact ⟨rfl, rfl⟩)
    (fun os started H enc _ => law_lifted (s := Rows.fnRangeNotSpec) (tb := 4) own started laid (by kernel_rfl) Try.func7 rfl (by kernel_rfl) Try.underlying4 (by kernel_rfl)
      (fun ds h => by rw [Try.params7] at h; match ds, h with | [_], _ => rfl)
      (ChangeSpec.witness6 (enc := enc) (C := Try.checked) false ⟨#[], #[.slice none 0 0], []⟩ 8 (by kernel_rfl) (by kernel_rfl) (by kernel_rfl) (by kernel_rfl))
      (law_code Try.params7 rangeNotP_walk))
#print axioms rangeNotP_holds

end Go.Proofs.Ytflmljgmmcdniaa

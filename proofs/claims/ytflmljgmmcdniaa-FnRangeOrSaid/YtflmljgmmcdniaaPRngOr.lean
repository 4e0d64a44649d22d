/- At every code the law FnRangeOr returns true: the program and the model agree on what is in one of the drawn ranges; it is a range, and what is not in neither. No condition. -/
import Derived.Test.YtflmljgmmcdniaaDrngd
import Derived.Test.YtflmljgmmcdniaaSame
import Derived.Test.YtflmljgmmcdniaaRlaw
import Derived.Test.YtflmljgmmcdniaaImand2
import Derived.Test.YtflmljgmmcdniaaImor2
import Derived.Test.YtflmljgmmcdniaaSpand
import Derived.Test.YtflmljgmmcdniaaSpor
import Derived.Test.YtflmljgmmcdniaaHas
import Derived.Test.YtflmljgmmcdniaaStp
import Derived.Test.YtflmljgmmcdniaaSb
import Derived.Test.YtflmljgmmcdniaaDdraw
import Derived.Test.YtflmljgmmcdniaaPsm
import Derived.Deep.RegionHeld3
namespace Go.Proofs.Ytflmljgmmcdniaa
open Go.ChangeShapes Go.WideShapes Go.ChangeAt Go.RowKit Go.Joins Go.Sort

set_option maxRecDepth 100000 in
set_option maxHeartbeats 8000000 in
theorem rangeOrP_short (a : Option Addr) (len cap : Nat) (w : World) (h : CodeIn w a len cap) (hl : len ≤ 1048576) :
    Calls Try.prog 9 #[.slice a len cap] w fun e w' => e = .returned (.bool true) ∧ Below w.heap.size w w' := by
  go_enter Try.func9, Try.ntmps9
  go_wp2_with fail
  refine (DrawRangeOr_any a len cap w h).mono ?_
  rintro e w1 ⟨A, B, u0, v0, rfl, q0, q1, hA41, hB41, b1⟩
  obtain ⟨a0, k0, rfl, _⟩ := id q0
  obtain ⟨a1, k1, rfl, _⟩ := id q1
  have rA := (q0.mono (Nat.zero_le _)).sb
  have rB := (q1.mono (Nat.zero_le _)).sb
  have hA : A.length ≤ 1048576 := by omega
  have hB : B.length ≤ 1048576 := by omega
  have z1 := b1.size
  clear h q0 q1 hA41 hB41
  have KI : Hid (∀ V u v, SpAt V V.heap.size u A → SpAt V V.heap.size v B → Calls Try.prog 22 #[.agg #[u], .agg #[v]] V (TPost (orOk A B) (orR A B) V)) := Lib.hid fun V u v h h' => implOr_any u v A B V hA hB h h'
  have KS : Hid (∀ V u v, SpAt V V.heap.size u A → SpAt V V.heap.size v B → Calls Try.prog 21 #[.agg #[u], .agg #[v]] V (TPost (orOk A B) (orR A B) V)) := Lib.hid fun V u v h h' => specOr_any u v A B V hA hB h h'
  have hR : (orR A B).length ≤ 1048576 := orR_len A B
  rcases ho : orOk A B
  · have hE : orR A B = [] := orR_none ho
    rw [ho, hE] at KI KS
    rw [hE] at hR
    clear ho hE
    go_wp2_with fail
    refine (KI.out _ _ _ (SB.stepAt rA (by go_grown)) (SB.stepAt rB (by go_grown))).mono ?_
    rintro e w2 ⟨u2, rfl, q2, hb⟩
    obtain ⟨a2, k2, rfl, _⟩ := id q2
    have rw2_g := (q2.mono (Nat.zero_le _)).sb
    clear q2
    have nw2 : Below w1.heap.size w1 w2 := Below.step (by go_grown) hb
    have sw2 : w1.heap.size + 2 ≤ w2.heap.size := by have := hb.size; simp at this; omega
    have cw2_0_0 : w2.cell? ⟨w1.heap.size, 0, none⟩ = some (.slice a0 A.length k0) := (hb.cell (p := ⟨w1.heap.size, 0, none⟩) (by first | (simp; done) | (simp; omega))).trans (by go_simp)
    have cw2_1_0 : w2.cell? ⟨w1.heap.size + 1, 0, none⟩ = some (.slice a1 B.length k1) := (hb.cell (p := ⟨w1.heap.size + 1, 0, none⟩) (by first | (simp; done) | (simp; omega))).trans (by go_simp)
    have rw2_A := SB.step rA (by go_grown) hb
    have rw2_B := SB.step rB (by go_grown) hb
    have bw2 := b1.trans (nw2.mono b1.size)
    clear rA rB b1 nw2 hb
    have lw2_0 : w1.heap.size < w2.heap.size := by omega
    have lw2_1 : w1.heap.size + 1 < w2.heap.size := by omega
    go_wp2_with fail
    refine (KS.out _ _ _ (SB.stepAt rw2_A (by go_grown)) (SB.stepAt rw2_B (by go_grown))).mono ?_
    rintro e w3 ⟨u3, rfl, q3, hb⟩
    obtain ⟨a3, k3, rfl, _⟩ := id q3
    have rw3_h := (q3.mono (Nat.zero_le _)).sb
    clear q3
    have nw3 : Below w2.heap.size w2 w3 := Below.step (by go_grown) hb
    have sw3 : w2.heap.size + 1 ≤ w3.heap.size := by have := hb.size; simp at this; omega
    have cw3_0_0 := (nw3.cell (p := ⟨w1.heap.size, 0, none⟩) (by show w1.heap.size < w2.heap.size; omega)).trans cw2_0_0
    have cw3_1_0 := (nw3.cell (p := ⟨w1.heap.size + 1, 0, none⟩) (by show w1.heap.size + 1 < w2.heap.size; omega)).trans cw2_1_0
    have cw3_2_0 : w3.cell? ⟨w2.heap.size, 0, none⟩ = some (.slice a2 0 k2) := (hb.cell (p := ⟨w2.heap.size, 0, none⟩) (by first | (simp; done) | (simp; omega))).trans (by go_simp)
    have rw3_A := SB.step rw2_A (by go_grown) hb
    have rw3_B := SB.step rw2_B (by go_grown) hb
    have rw3_g := SB.step rw2_g (by go_grown) hb
    have bw3 := bw2.trans (nw3.mono bw2.size)
    clear cw2_0_0 cw2_1_0 rw2_A rw2_B rw2_g bw2 lw2_0 lw2_1 nw3 hb
    have lw3_0 : w1.heap.size < w3.heap.size := by omega
    have lw3_1 : w1.heap.size + 1 < w3.heap.size := by omega
    have lw3_2 : w2.heap.size < w3.heap.size := by omega
    go_wp2_with fail
    refine (same_true hR (SB.stepAt rw3_g (by go_grown)) (SB.stepAt rw3_h (by go_grown))).mono ?_
    rintro e w4 ⟨rfl, hb⟩
    have nw4 : Below w3.heap.size w3 w4 := Below.step (by go_grown) hb
    have sw4 : w3.heap.size + 1 ≤ w4.heap.size := by have := hb.size; simp at this; omega
    have cw4_0_0 := (nw4.cell (p := ⟨w1.heap.size, 0, none⟩) (by show w1.heap.size < w3.heap.size; omega)).trans cw3_0_0
    have cw4_1_0 := (nw4.cell (p := ⟨w1.heap.size + 1, 0, none⟩) (by show w1.heap.size + 1 < w3.heap.size; omega)).trans cw3_1_0
    have cw4_2_0 := (nw4.cell (p := ⟨w2.heap.size, 0, none⟩) (by show w2.heap.size < w3.heap.size; omega)).trans cw3_2_0
    have cw4_3_0 : w4.cell? ⟨w3.heap.size, 0, none⟩ = some (.slice a3 0 k3) := (hb.cell (p := ⟨w3.heap.size, 0, none⟩) (by first | (simp; done) | (simp; omega))).trans (by go_simp)
    have rw4_A := SB.step rw3_A (by go_grown) hb
    have rw4_B := SB.step rw3_B (by go_grown) hb
    have rw4_g := SB.step rw3_g (by go_grown) hb
    have rw4_h := SB.step rw3_h (by go_grown) hb
    have bw4 := bw3.trans (nw4.mono bw3.size)
    clear cw3_0_0 cw3_1_0 cw3_2_0 rw3_A rw3_B rw3_g rw3_h bw3 lw3_0 lw3_1 lw3_2 nw4 hb
    have lw4_0 : w1.heap.size < w4.heap.size := by omega
    have lw4_1 : w1.heap.size + 1 < w4.heap.size := by omega
    have lw4_2 : w2.heap.size < w4.heap.size := by omega
    have lw4_3 : w3.heap.size < w4.heap.size := by omega
    go_wp2_with fail
    refine (alive_any _).mono ?_
    rintro e w5 ⟨rfl, hb⟩
    have nw5 : Below w4.heap.size w4 w5 := Below.step (by go_grown) hb
    have sw5 : w4.heap.size ≤ w5.heap.size := nw5.size
    have cw5_0_0 := (nw5.cell (p := ⟨w1.heap.size, 0, none⟩) (by show w1.heap.size < w4.heap.size; omega)).trans cw4_0_0
    have cw5_1_0 := (nw5.cell (p := ⟨w1.heap.size + 1, 0, none⟩) (by show w1.heap.size + 1 < w4.heap.size; omega)).trans cw4_1_0
    have cw5_2_0 := (nw5.cell (p := ⟨w2.heap.size, 0, none⟩) (by show w2.heap.size < w4.heap.size; omega)).trans cw4_2_0
    have cw5_3_0 := (nw5.cell (p := ⟨w3.heap.size, 0, none⟩) (by show w3.heap.size < w4.heap.size; omega)).trans cw4_3_0
    have rw5_A := SB.step rw4_A (by go_grown) hb
    have rw5_B := SB.step rw4_B (by go_grown) hb
    have rw5_g := SB.step rw4_g (by go_grown) hb
    have rw5_h := SB.step rw4_h (by go_grown) hb
    have bw5 := bw4.trans (nw5.mono bw4.size)
    clear cw4_0_0 cw4_1_0 cw4_2_0 cw4_3_0 rw4_A rw4_B rw4_g rw4_h bw4 lw4_0 lw4_1 lw4_2 lw4_3 nw5 hb
    have lw5_0 : w1.heap.size < w5.heap.size := by omega
    have lw5_1 : w1.heap.size + 1 < w5.heap.size := by omega
    have lw5_2 : w2.heap.size < w5.heap.size := by omega
    have lw5_3 : w3.heap.size < w5.heap.size := by omega
    go_wp2_with fail
    go_ret
    exact ⟨rfl, bw5.trans ((show Below w5.heap.size w5 _ from by go_grown).mono bw5.size)⟩
  · obtain ⟨f1, f2⟩ := or_facts ho
    have KO : Hid (∀ V u, SpAt V V.heap.size u (orR A B) → Calls Try.prog 24 #[.agg #[u]] V fun e w' => e = .returned (.bool true) ∧ Below V.heap.size V w') := Lib.hid fun V u h => rngOk_true hR f1 h
    have hX : (notR A).length ≤ 1048576 := notR_len A
    have hY : (notR B).length ≤ 1048576 := notR_len B
    have hN : (andR (notR A) (notR B)).length ≤ 1048576 := andR_len _ _
    have hT : (notR (andR (notR A) (notR B))).length ≤ 1048576 := notR_len _
    have KA : Hid (∀ V u, SpAt V V.heap.size u A → Calls Try.prog 36 #[.agg #[u]] V (TPost (notOk A) (notR A) V)) := Lib.hid fun V u h => implNot_any u A V hA h
    have KB : Hid (∀ V u, SpAt V V.heap.size u B → Calls Try.prog 36 #[.agg #[u]] V (TPost (notOk B) (notR B) V)) := Lib.hid fun V u h => implNot_any u B V hB h
    have KN : Hid (∀ V u v, SpAt V V.heap.size u (notR A) → SpAt V V.heap.size v (notR B) → Calls Try.prog 17 #[.agg #[u], .agg #[v]] V (TPost (andOk (notR A) (notR B)) (andR (notR A) (notR B)) V)) := Lib.hid fun V u v h h' => implAnd_any u v (notR A) (notR B) V hX hY h h'
    have KT : Hid (∀ V u, SpAt V V.heap.size u (andR (notR A) (notR B)) → Calls Try.prog 36 #[.agg #[u]] V (TPost (notOk (andR (notR A) (notR B))) (notR (andR (notR A) (notR B))) V)) := Lib.hid fun V u h => implNot_any u (andR (notR A) (notR B)) V hN h
    have F2 := Lib.hid f2
    rw [ho] at KI KS
    clear ho f1 f2
    generalize notR (andR (notR A) (notR B)) = T at *
    generalize hon : notOk (andR (notR A) (notR B)) = on at *
    generalize hos : andOk (notR A) (notR B) = os at *
    generalize hob : notOk B = ob at *
    generalize hoa : notOk A = oa at *
    clear hon hos hob hoa
    generalize andR (notR A) (notR B) = N at *
    generalize notR A = X at *
    generalize notR B = Y at *
    generalize orR A B = R at *
    have HEQ : (oa && ob && os && on) = true → T = R := fun h => by simp only [Bool.and_eq_true] at h; exact F2.out h.1.1.1 h.1.1.2 h.1.2 h.2
    clear F2
    cases oa
    · clear HEQ
      go_wp2_with fail
      refine (KI.out _ _ _ (SB.stepAt rA (by go_grown)) (SB.stepAt rB (by go_grown))).mono ?_
      rintro e w2 ⟨u2, rfl, q2, hb⟩
      obtain ⟨a2, k2, rfl, _⟩ := id q2
      have rw2_g := (q2.mono (Nat.zero_le _)).sb
      clear q2
      have nw2 : Below w1.heap.size w1 w2 := Below.step (by go_grown) hb
      have sw2 : w1.heap.size + 2 ≤ w2.heap.size := by have := hb.size; simp at this; omega
      have cw2_0_0 : w2.cell? ⟨w1.heap.size, 0, none⟩ = some (.slice a0 A.length k0) := (hb.cell (p := ⟨w1.heap.size, 0, none⟩) (by first | (simp; done) | (simp; omega))).trans (by go_simp)
      have cw2_1_0 : w2.cell? ⟨w1.heap.size + 1, 0, none⟩ = some (.slice a1 B.length k1) := (hb.cell (p := ⟨w1.heap.size + 1, 0, none⟩) (by first | (simp; done) | (simp; omega))).trans (by go_simp)
      have rw2_A := SB.step rA (by go_grown) hb
      have rw2_B := SB.step rB (by go_grown) hb
      have bw2 := b1.trans (nw2.mono b1.size)
      clear rA rB b1 nw2 hb
      have lw2_0 : w1.heap.size < w2.heap.size := by omega
      have lw2_1 : w1.heap.size + 1 < w2.heap.size := by omega
      go_wp2_with fail
      refine (KS.out _ _ _ (SB.stepAt rw2_A (by go_grown)) (SB.stepAt rw2_B (by go_grown))).mono ?_
      rintro e w3 ⟨u3, rfl, q3, hb⟩
      obtain ⟨a3, k3, rfl, _⟩ := id q3
      have rw3_h := (q3.mono (Nat.zero_le _)).sb
      clear q3
      have nw3 : Below w2.heap.size w2 w3 := Below.step (by go_grown) hb
      have sw3 : w2.heap.size + 1 ≤ w3.heap.size := by have := hb.size; simp at this; omega
      have cw3_0_0 := (nw3.cell (p := ⟨w1.heap.size, 0, none⟩) (by show w1.heap.size < w2.heap.size; omega)).trans cw2_0_0
      have cw3_1_0 := (nw3.cell (p := ⟨w1.heap.size + 1, 0, none⟩) (by show w1.heap.size + 1 < w2.heap.size; omega)).trans cw2_1_0
      have cw3_2_0 : w3.cell? ⟨w2.heap.size, 0, none⟩ = some (.slice a2 (R : Sps).length k2) := (hb.cell (p := ⟨w2.heap.size, 0, none⟩) (by first | (simp; done) | (simp; omega))).trans (by go_simp)
      have rw3_A := SB.step rw2_A (by go_grown) hb
      have rw3_B := SB.step rw2_B (by go_grown) hb
      have rw3_g := SB.step rw2_g (by go_grown) hb
      have bw3 := bw2.trans (nw3.mono bw2.size)
      clear cw2_0_0 cw2_1_0 rw2_A rw2_B rw2_g bw2 lw2_0 lw2_1 nw3 hb
      have lw3_0 : w1.heap.size < w3.heap.size := by omega
      have lw3_1 : w1.heap.size + 1 < w3.heap.size := by omega
      have lw3_2 : w2.heap.size < w3.heap.size := by omega
      go_wp2_with fail
      refine (same_true hR (SB.stepAt rw3_g (by go_grown)) (SB.stepAt rw3_h (by go_grown))).mono ?_
      rintro e w4 ⟨rfl, hb⟩
      have nw4 : Below w3.heap.size w3 w4 := Below.step (by go_grown) hb
      have sw4 : w3.heap.size + 1 ≤ w4.heap.size := by have := hb.size; simp at this; omega
      have cw4_0_0 := (nw4.cell (p := ⟨w1.heap.size, 0, none⟩) (by show w1.heap.size < w3.heap.size; omega)).trans cw3_0_0
      have cw4_1_0 := (nw4.cell (p := ⟨w1.heap.size + 1, 0, none⟩) (by show w1.heap.size + 1 < w3.heap.size; omega)).trans cw3_1_0
      have cw4_2_0 := (nw4.cell (p := ⟨w2.heap.size, 0, none⟩) (by show w2.heap.size < w3.heap.size; omega)).trans cw3_2_0
      have cw4_3_0 : w4.cell? ⟨w3.heap.size, 0, none⟩ = some (.slice a3 (R : Sps).length k3) := (hb.cell (p := ⟨w3.heap.size, 0, none⟩) (by first | (simp; done) | (simp; omega))).trans (by go_simp)
      have rw4_A := SB.step rw3_A (by go_grown) hb
      have rw4_B := SB.step rw3_B (by go_grown) hb
      have rw4_g := SB.step rw3_g (by go_grown) hb
      have rw4_h := SB.step rw3_h (by go_grown) hb
      have bw4 := bw3.trans (nw4.mono bw3.size)
      clear cw3_0_0 cw3_1_0 cw3_2_0 rw3_A rw3_B rw3_g rw3_h bw3 lw3_0 lw3_1 lw3_2 nw4 hb
      have lw4_0 : w1.heap.size < w4.heap.size := by omega
      have lw4_1 : w1.heap.size + 1 < w4.heap.size := by omega
      have lw4_2 : w2.heap.size < w4.heap.size := by omega
      have lw4_3 : w3.heap.size < w4.heap.size := by omega
      go_wp2_with fail
      refine (KA.out _ _ (SB.stepAt rw4_A (by go_grown))).mono ?_
      rintro e w5 ⟨u5, rfl, q5, hb⟩
      obtain ⟨a5, k5, rfl, _⟩ := id q5
      have rw5_x := (q5.mono (Nat.zero_le _)).sb
      clear q5
      have nw5 : Below w4.heap.size w4 w5 := Below.step (by go_grown) hb
      have sw5 : w4.heap.size ≤ w5.heap.size := nw5.size
      have cw5_0_0 := (nw5.cell (p := ⟨w1.heap.size, 0, none⟩) (by show w1.heap.size < w4.heap.size; omega)).trans cw4_0_0
      have cw5_1_0 := (nw5.cell (p := ⟨w1.heap.size + 1, 0, none⟩) (by show w1.heap.size + 1 < w4.heap.size; omega)).trans cw4_1_0
      have cw5_2_0 := (nw5.cell (p := ⟨w2.heap.size, 0, none⟩) (by show w2.heap.size < w4.heap.size; omega)).trans cw4_2_0
      have cw5_3_0 := (nw5.cell (p := ⟨w3.heap.size, 0, none⟩) (by show w3.heap.size < w4.heap.size; omega)).trans cw4_3_0
      have rw5_A := SB.step rw4_A (by go_grown) hb
      have rw5_B := SB.step rw4_B (by go_grown) hb
      have rw5_g := SB.step rw4_g (by go_grown) hb
      have rw5_h := SB.step rw4_h (by go_grown) hb
      have bw5 := bw4.trans (nw5.mono bw4.size)
      clear cw4_0_0 cw4_1_0 cw4_2_0 cw4_3_0 rw4_A rw4_B rw4_g rw4_h bw4 lw4_0 lw4_1 lw4_2 lw4_3 nw5 hb
      have lw5_0 : w1.heap.size < w5.heap.size := by omega
      have lw5_1 : w1.heap.size + 1 < w5.heap.size := by omega
      have lw5_2 : w2.heap.size < w5.heap.size := by omega
      have lw5_3 : w3.heap.size < w5.heap.size := by omega
      go_wp2_with fail
      refine (KB.out _ _ (SB.stepAt rw5_B (by go_grown))).mono ?_
      rintro e w6 ⟨u6, rfl, q6, hb⟩
      obtain ⟨a6, k6, rfl, _⟩ := id q6
      have rw6_y := (q6.mono (Nat.zero_le _)).sb
      clear q6
      have nw6 : Below w5.heap.size w5 w6 := Below.step (by go_grown) hb
      have sw6 : w5.heap.size + 1 ≤ w6.heap.size := by have := hb.size; simp at this; omega
      have cw6_0_0 := (nw6.cell (p := ⟨w1.heap.size, 0, none⟩) (by show w1.heap.size < w5.heap.size; omega)).trans cw5_0_0
      have cw6_1_0 := (nw6.cell (p := ⟨w1.heap.size + 1, 0, none⟩) (by show w1.heap.size + 1 < w5.heap.size; omega)).trans cw5_1_0
      have cw6_2_0 := (nw6.cell (p := ⟨w2.heap.size, 0, none⟩) (by show w2.heap.size < w5.heap.size; omega)).trans cw5_2_0
      have cw6_3_0 := (nw6.cell (p := ⟨w3.heap.size, 0, none⟩) (by show w3.heap.size < w5.heap.size; omega)).trans cw5_3_0
      have cw6_4_0 : w6.cell? ⟨w5.heap.size, 0, none⟩ = some (.slice a5 (X : Sps).length k5) := (hb.cell (p := ⟨w5.heap.size, 0, none⟩) (by first | (simp; done) | (simp; omega))).trans (by go_simp)
      have rw6_A := SB.step rw5_A (by go_grown) hb
      have rw6_B := SB.step rw5_B (by go_grown) hb
      have rw6_g := SB.step rw5_g (by go_grown) hb
      have rw6_h := SB.step rw5_h (by go_grown) hb
      have rw6_x := SB.step rw5_x (by go_grown) hb
      have bw6 := bw5.trans (nw6.mono bw5.size)
      clear cw5_0_0 cw5_1_0 cw5_2_0 cw5_3_0 rw5_A rw5_B rw5_g rw5_h rw5_x bw5 lw5_0 lw5_1 lw5_2 lw5_3 nw6 hb
      have lw6_0 : w1.heap.size < w6.heap.size := by omega
      have lw6_1 : w1.heap.size + 1 < w6.heap.size := by omega
      have lw6_2 : w2.heap.size < w6.heap.size := by omega
      have lw6_3 : w3.heap.size < w6.heap.size := by omega
      have lw6_4 : w5.heap.size < w6.heap.size := by omega
      go_wp2_with fail
      refine (KN.out _ _ _ (SB.stepAt rw6_x (by go_grown)) (SB.stepAt rw6_y (by go_grown))).mono ?_
      rintro e w7 ⟨u7, rfl, q7, hb⟩
      obtain ⟨a7, k7, rfl, _⟩ := id q7
      have rw7_n := (q7.mono (Nat.zero_le _)).sb
      clear q7
      have nw7 : Below w6.heap.size w6 w7 := Below.step (by go_grown) hb
      have sw7 : w6.heap.size + 1 ≤ w7.heap.size := by have := hb.size; simp at this; omega
      have cw7_0_0 := (nw7.cell (p := ⟨w1.heap.size, 0, none⟩) (by show w1.heap.size < w6.heap.size; omega)).trans cw6_0_0
      have cw7_1_0 := (nw7.cell (p := ⟨w1.heap.size + 1, 0, none⟩) (by show w1.heap.size + 1 < w6.heap.size; omega)).trans cw6_1_0
      have cw7_2_0 := (nw7.cell (p := ⟨w2.heap.size, 0, none⟩) (by show w2.heap.size < w6.heap.size; omega)).trans cw6_2_0
      have cw7_3_0 := (nw7.cell (p := ⟨w3.heap.size, 0, none⟩) (by show w3.heap.size < w6.heap.size; omega)).trans cw6_3_0
      have cw7_4_0 := (nw7.cell (p := ⟨w5.heap.size, 0, none⟩) (by show w5.heap.size < w6.heap.size; omega)).trans cw6_4_0
      have cw7_5_0 : w7.cell? ⟨w6.heap.size, 0, none⟩ = some (.slice a6 (Y : Sps).length k6) := (hb.cell (p := ⟨w6.heap.size, 0, none⟩) (by first | (simp; done) | (simp; omega))).trans (by go_simp)
      have rw7_A := SB.step rw6_A (by go_grown) hb
      have rw7_B := SB.step rw6_B (by go_grown) hb
      have rw7_g := SB.step rw6_g (by go_grown) hb
      have rw7_h := SB.step rw6_h (by go_grown) hb
      have rw7_x := SB.step rw6_x (by go_grown) hb
      have rw7_y := SB.step rw6_y (by go_grown) hb
      have bw7 := bw6.trans (nw7.mono bw6.size)
      clear cw6_0_0 cw6_1_0 cw6_2_0 cw6_3_0 cw6_4_0 rw6_A rw6_B rw6_g rw6_h rw6_x rw6_y bw6 lw6_0 lw6_1 lw6_2 lw6_3 lw6_4 nw7 hb
      have lw7_0 : w1.heap.size < w7.heap.size := by omega
      have lw7_1 : w1.heap.size + 1 < w7.heap.size := by omega
      have lw7_2 : w2.heap.size < w7.heap.size := by omega
      have lw7_3 : w3.heap.size < w7.heap.size := by omega
      have lw7_4 : w5.heap.size < w7.heap.size := by omega
      have lw7_5 : w6.heap.size < w7.heap.size := by omega
      go_wp2_with fail
      refine (KT.out _ _ (SB.stepAt rw7_n (by go_grown))).mono ?_
      rintro e w8 ⟨u8, rfl, q8, hb⟩
      obtain ⟨a8, k8, rfl, _⟩ := id q8
      have rw8_t := (q8.mono (Nat.zero_le _)).sb
      clear q8
      have nw8 : Below w7.heap.size w7 w8 := Below.step (by go_grown) hb
      have sw8 : w7.heap.size + 1 ≤ w8.heap.size := by have := hb.size; simp at this; omega
      have cw8_0_0 := (nw8.cell (p := ⟨w1.heap.size, 0, none⟩) (by show w1.heap.size < w7.heap.size; omega)).trans cw7_0_0
      have cw8_1_0 := (nw8.cell (p := ⟨w1.heap.size + 1, 0, none⟩) (by show w1.heap.size + 1 < w7.heap.size; omega)).trans cw7_1_0
      have cw8_2_0 := (nw8.cell (p := ⟨w2.heap.size, 0, none⟩) (by show w2.heap.size < w7.heap.size; omega)).trans cw7_2_0
      have cw8_3_0 := (nw8.cell (p := ⟨w3.heap.size, 0, none⟩) (by show w3.heap.size < w7.heap.size; omega)).trans cw7_3_0
      have cw8_4_0 := (nw8.cell (p := ⟨w5.heap.size, 0, none⟩) (by show w5.heap.size < w7.heap.size; omega)).trans cw7_4_0
      have cw8_5_0 := (nw8.cell (p := ⟨w6.heap.size, 0, none⟩) (by show w6.heap.size < w7.heap.size; omega)).trans cw7_5_0
      have cw8_6_0 : w8.cell? ⟨w7.heap.size, 0, none⟩ = some (.slice a7 (N : Sps).length k7) := (hb.cell (p := ⟨w7.heap.size, 0, none⟩) (by first | (simp; done) | (simp; omega))).trans (by go_simp)
      have rw8_A := SB.step rw7_A (by go_grown) hb
      have rw8_B := SB.step rw7_B (by go_grown) hb
      have rw8_g := SB.step rw7_g (by go_grown) hb
      have rw8_h := SB.step rw7_h (by go_grown) hb
      have rw8_x := SB.step rw7_x (by go_grown) hb
      have rw8_y := SB.step rw7_y (by go_grown) hb
      have rw8_n := SB.step rw7_n (by go_grown) hb
      have bw8 := bw7.trans (nw8.mono bw7.size)
      clear cw7_0_0 cw7_1_0 cw7_2_0 cw7_3_0 cw7_4_0 cw7_5_0 rw7_A rw7_B rw7_g rw7_h rw7_x rw7_y rw7_n bw7 lw7_0 lw7_1 lw7_2 lw7_3 lw7_4 lw7_5 nw8 hb
      have lw8_0 : w1.heap.size < w8.heap.size := by omega
      have lw8_1 : w1.heap.size + 1 < w8.heap.size := by omega
      have lw8_2 : w2.heap.size < w8.heap.size := by omega
      have lw8_3 : w3.heap.size < w8.heap.size := by omega
      have lw8_4 : w5.heap.size < w8.heap.size := by omega
      have lw8_5 : w6.heap.size < w8.heap.size := by omega
      have lw8_6 : w7.heap.size < w8.heap.size := by omega
      go_wp2_with fail
      refine (KO.out _ _ (SB.stepAt rw8_g (by go_grown))).mono ?_
      rintro e w9 ⟨rfl, hb⟩
      have nw9 : Below w8.heap.size w8 w9 := Below.step (by go_grown) hb
      have sw9 : w8.heap.size + 1 ≤ w9.heap.size := by have := hb.size; simp at this; omega
      have cw9_0_0 := (nw9.cell (p := ⟨w1.heap.size, 0, none⟩) (by show w1.heap.size < w8.heap.size; omega)).trans cw8_0_0
      have cw9_1_0 := (nw9.cell (p := ⟨w1.heap.size + 1, 0, none⟩) (by show w1.heap.size + 1 < w8.heap.size; omega)).trans cw8_1_0
      have cw9_2_0 := (nw9.cell (p := ⟨w2.heap.size, 0, none⟩) (by show w2.heap.size < w8.heap.size; omega)).trans cw8_2_0
      have cw9_3_0 := (nw9.cell (p := ⟨w3.heap.size, 0, none⟩) (by show w3.heap.size < w8.heap.size; omega)).trans cw8_3_0
      have cw9_4_0 := (nw9.cell (p := ⟨w5.heap.size, 0, none⟩) (by show w5.heap.size < w8.heap.size; omega)).trans cw8_4_0
      have cw9_5_0 := (nw9.cell (p := ⟨w6.heap.size, 0, none⟩) (by show w6.heap.size < w8.heap.size; omega)).trans cw8_5_0
      have cw9_6_0 := (nw9.cell (p := ⟨w7.heap.size, 0, none⟩) (by show w7.heap.size < w8.heap.size; omega)).trans cw8_6_0
      have cw9_7_0 : w9.cell? ⟨w8.heap.size, 0, none⟩ = some (.slice a8 (T : Sps).length k8) := (hb.cell (p := ⟨w8.heap.size, 0, none⟩) (by first | (simp; done) | (simp; omega))).trans (by go_simp)
      have rw9_A := SB.step rw8_A (by go_grown) hb
      have rw9_B := SB.step rw8_B (by go_grown) hb
      have rw9_g := SB.step rw8_g (by go_grown) hb
      have rw9_h := SB.step rw8_h (by go_grown) hb
      have rw9_x := SB.step rw8_x (by go_grown) hb
      have rw9_y := SB.step rw8_y (by go_grown) hb
      have rw9_n := SB.step rw8_n (by go_grown) hb
      have rw9_t := SB.step rw8_t (by go_grown) hb
      have bw9 := bw8.trans (nw9.mono bw8.size)
      clear cw8_0_0 cw8_1_0 cw8_2_0 cw8_3_0 cw8_4_0 cw8_5_0 cw8_6_0 rw8_A rw8_B rw8_g rw8_h rw8_x rw8_y rw8_n rw8_t bw8 lw8_0 lw8_1 lw8_2 lw8_3 lw8_4 lw8_5 lw8_6 nw9 hb
      have lw9_0 : w1.heap.size < w9.heap.size := by omega
      have lw9_1 : w1.heap.size + 1 < w9.heap.size := by omega
      have lw9_2 : w2.heap.size < w9.heap.size := by omega
      have lw9_3 : w3.heap.size < w9.heap.size := by omega
      have lw9_4 : w5.heap.size < w9.heap.size := by omega
      have lw9_5 : w6.heap.size < w9.heap.size := by omega
      have lw9_6 : w7.heap.size < w9.heap.size := by omega
      have lw9_7 : w8.heap.size < w9.heap.size := by omega
      go_wp2_with fail
      go_ret
      exact ⟨rfl, bw9.trans ((show Below w9.heap.size w9 _ from by go_grown).mono bw9.size)⟩
    · cases ob
      · clear HEQ
        go_wp2_with fail
        refine (KI.out _ _ _ (SB.stepAt rA (by go_grown)) (SB.stepAt rB (by go_grown))).mono ?_
        rintro e w2 ⟨u2, rfl, q2, hb⟩
        obtain ⟨a2, k2, rfl, _⟩ := id q2
        have rw2_g := (q2.mono (Nat.zero_le _)).sb
        clear q2
        have nw2 : Below w1.heap.size w1 w2 := Below.step (by go_grown) hb
        have sw2 : w1.heap.size + 2 ≤ w2.heap.size := by have := hb.size; simp at this; omega
        have cw2_0_0 : w2.cell? ⟨w1.heap.size, 0, none⟩ = some (.slice a0 A.length k0) := (hb.cell (p := ⟨w1.heap.size, 0, none⟩) (by first | (simp; done) | (simp; omega))).trans (by go_simp)
        have cw2_1_0 : w2.cell? ⟨w1.heap.size + 1, 0, none⟩ = some (.slice a1 B.length k1) := (hb.cell (p := ⟨w1.heap.size + 1, 0, none⟩) (by first | (simp; done) | (simp; omega))).trans (by go_simp)
        have rw2_A := SB.step rA (by go_grown) hb
        have rw2_B := SB.step rB (by go_grown) hb
        have bw2 := b1.trans (nw2.mono b1.size)
        clear rA rB b1 nw2 hb
        have lw2_0 : w1.heap.size < w2.heap.size := by omega
        have lw2_1 : w1.heap.size + 1 < w2.heap.size := by omega
        go_wp2_with fail
        refine (KS.out _ _ _ (SB.stepAt rw2_A (by go_grown)) (SB.stepAt rw2_B (by go_grown))).mono ?_
        rintro e w3 ⟨u3, rfl, q3, hb⟩
        obtain ⟨a3, k3, rfl, _⟩ := id q3
        have rw3_h := (q3.mono (Nat.zero_le _)).sb
        clear q3
        have nw3 : Below w2.heap.size w2 w3 := Below.step (by go_grown) hb
        have sw3 : w2.heap.size + 1 ≤ w3.heap.size := by have := hb.size; simp at this; omega
        have cw3_0_0 := (nw3.cell (p := ⟨w1.heap.size, 0, none⟩) (by show w1.heap.size < w2.heap.size; omega)).trans cw2_0_0
        have cw3_1_0 := (nw3.cell (p := ⟨w1.heap.size + 1, 0, none⟩) (by show w1.heap.size + 1 < w2.heap.size; omega)).trans cw2_1_0
        have cw3_2_0 : w3.cell? ⟨w2.heap.size, 0, none⟩ = some (.slice a2 (R : Sps).length k2) := (hb.cell (p := ⟨w2.heap.size, 0, none⟩) (by first | (simp; done) | (simp; omega))).trans (by go_simp)
        have rw3_A := SB.step rw2_A (by go_grown) hb
        have rw3_B := SB.step rw2_B (by go_grown) hb
        have rw3_g := SB.step rw2_g (by go_grown) hb
        have bw3 := bw2.trans (nw3.mono bw2.size)
        clear cw2_0_0 cw2_1_0 rw2_A rw2_B rw2_g bw2 lw2_0 lw2_1 nw3 hb
        have lw3_0 : w1.heap.size < w3.heap.size := by omega
        have lw3_1 : w1.heap.size + 1 < w3.heap.size := by omega
        have lw3_2 : w2.heap.size < w3.heap.size := by omega
        go_wp2_with fail
        refine (same_true hR (SB.stepAt rw3_g (by go_grown)) (SB.stepAt rw3_h (by go_grown))).mono ?_
        rintro e w4 ⟨rfl, hb⟩
        have nw4 : Below w3.heap.size w3 w4 := Below.step (by go_grown) hb
        have sw4 : w3.heap.size + 1 ≤ w4.heap.size := by have := hb.size; simp at this; omega
        have cw4_0_0 := (nw4.cell (p := ⟨w1.heap.size, 0, none⟩) (by show w1.heap.size < w3.heap.size; omega)).trans cw3_0_0
        have cw4_1_0 := (nw4.cell (p := ⟨w1.heap.size + 1, 0, none⟩) (by show w1.heap.size + 1 < w3.heap.size; omega)).trans cw3_1_0
        have cw4_2_0 := (nw4.cell (p := ⟨w2.heap.size, 0, none⟩) (by show w2.heap.size < w3.heap.size; omega)).trans cw3_2_0
        have cw4_3_0 : w4.cell? ⟨w3.heap.size, 0, none⟩ = some (.slice a3 (R : Sps).length k3) := (hb.cell (p := ⟨w3.heap.size, 0, none⟩) (by first | (simp; done) | (simp; omega))).trans (by go_simp)
        have rw4_A := SB.step rw3_A (by go_grown) hb
        have rw4_B := SB.step rw3_B (by go_grown) hb
        have rw4_g := SB.step rw3_g (by go_grown) hb
        have rw4_h := SB.step rw3_h (by go_grown) hb
        have bw4 := bw3.trans (nw4.mono bw3.size)
        clear cw3_0_0 cw3_1_0 cw3_2_0 rw3_A rw3_B rw3_g rw3_h bw3 lw3_0 lw3_1 lw3_2 nw4 hb
        have lw4_0 : w1.heap.size < w4.heap.size := by omega
        have lw4_1 : w1.heap.size + 1 < w4.heap.size := by omega
        have lw4_2 : w2.heap.size < w4.heap.size := by omega
        have lw4_3 : w3.heap.size < w4.heap.size := by omega
        go_wp2_with fail
        refine (KA.out _ _ (SB.stepAt rw4_A (by go_grown))).mono ?_
        rintro e w5 ⟨u5, rfl, q5, hb⟩
        obtain ⟨a5, k5, rfl, _⟩ := id q5
        have rw5_x := (q5.mono (Nat.zero_le _)).sb
        clear q5
        have nw5 : Below w4.heap.size w4 w5 := Below.step (by go_grown) hb
        have sw5 : w4.heap.size ≤ w5.heap.size := nw5.size
        have cw5_0_0 := (nw5.cell (p := ⟨w1.heap.size, 0, none⟩) (by show w1.heap.size < w4.heap.size; omega)).trans cw4_0_0
        have cw5_1_0 := (nw5.cell (p := ⟨w1.heap.size + 1, 0, none⟩) (by show w1.heap.size + 1 < w4.heap.size; omega)).trans cw4_1_0
        have cw5_2_0 := (nw5.cell (p := ⟨w2.heap.size, 0, none⟩) (by show w2.heap.size < w4.heap.size; omega)).trans cw4_2_0
        have cw5_3_0 := (nw5.cell (p := ⟨w3.heap.size, 0, none⟩) (by show w3.heap.size < w4.heap.size; omega)).trans cw4_3_0
        have rw5_A := SB.step rw4_A (by go_grown) hb
        have rw5_B := SB.step rw4_B (by go_grown) hb
        have rw5_g := SB.step rw4_g (by go_grown) hb
        have rw5_h := SB.step rw4_h (by go_grown) hb
        have bw5 := bw4.trans (nw5.mono bw4.size)
        clear cw4_0_0 cw4_1_0 cw4_2_0 cw4_3_0 rw4_A rw4_B rw4_g rw4_h bw4 lw4_0 lw4_1 lw4_2 lw4_3 nw5 hb
        have lw5_0 : w1.heap.size < w5.heap.size := by omega
        have lw5_1 : w1.heap.size + 1 < w5.heap.size := by omega
        have lw5_2 : w2.heap.size < w5.heap.size := by omega
        have lw5_3 : w3.heap.size < w5.heap.size := by omega
        go_wp2_with fail
        refine (KB.out _ _ (SB.stepAt rw5_B (by go_grown))).mono ?_
        rintro e w6 ⟨u6, rfl, q6, hb⟩
        obtain ⟨a6, k6, rfl, _⟩ := id q6
        have rw6_y := (q6.mono (Nat.zero_le _)).sb
        clear q6
        have nw6 : Below w5.heap.size w5 w6 := Below.step (by go_grown) hb
        have sw6 : w5.heap.size + 1 ≤ w6.heap.size := by have := hb.size; simp at this; omega
        have cw6_0_0 := (nw6.cell (p := ⟨w1.heap.size, 0, none⟩) (by show w1.heap.size < w5.heap.size; omega)).trans cw5_0_0
        have cw6_1_0 := (nw6.cell (p := ⟨w1.heap.size + 1, 0, none⟩) (by show w1.heap.size + 1 < w5.heap.size; omega)).trans cw5_1_0
        have cw6_2_0 := (nw6.cell (p := ⟨w2.heap.size, 0, none⟩) (by show w2.heap.size < w5.heap.size; omega)).trans cw5_2_0
        have cw6_3_0 := (nw6.cell (p := ⟨w3.heap.size, 0, none⟩) (by show w3.heap.size < w5.heap.size; omega)).trans cw5_3_0
        have cw6_4_0 : w6.cell? ⟨w5.heap.size, 0, none⟩ = some (.slice a5 (X : Sps).length k5) := (hb.cell (p := ⟨w5.heap.size, 0, none⟩) (by first | (simp; done) | (simp; omega))).trans (by go_simp)
        have rw6_A := SB.step rw5_A (by go_grown) hb
        have rw6_B := SB.step rw5_B (by go_grown) hb
        have rw6_g := SB.step rw5_g (by go_grown) hb
        have rw6_h := SB.step rw5_h (by go_grown) hb
        have rw6_x := SB.step rw5_x (by go_grown) hb
        have bw6 := bw5.trans (nw6.mono bw5.size)
        clear cw5_0_0 cw5_1_0 cw5_2_0 cw5_3_0 rw5_A rw5_B rw5_g rw5_h rw5_x bw5 lw5_0 lw5_1 lw5_2 lw5_3 nw6 hb
        have lw6_0 : w1.heap.size < w6.heap.size := by omega
        have lw6_1 : w1.heap.size + 1 < w6.heap.size := by omega
        have lw6_2 : w2.heap.size < w6.heap.size := by omega
        have lw6_3 : w3.heap.size < w6.heap.size := by omega
        have lw6_4 : w5.heap.size < w6.heap.size := by omega
        go_wp2_with fail
        refine (KN.out _ _ _ (SB.stepAt rw6_x (by go_grown)) (SB.stepAt rw6_y (by go_grown))).mono ?_
        rintro e w7 ⟨u7, rfl, q7, hb⟩
        obtain ⟨a7, k7, rfl, _⟩ := id q7
        have rw7_n := (q7.mono (Nat.zero_le _)).sb
        clear q7
        have nw7 : Below w6.heap.size w6 w7 := Below.step (by go_grown) hb
        have sw7 : w6.heap.size + 1 ≤ w7.heap.size := by have := hb.size; simp at this; omega
        have cw7_0_0 := (nw7.cell (p := ⟨w1.heap.size, 0, none⟩) (by show w1.heap.size < w6.heap.size; omega)).trans cw6_0_0
        have cw7_1_0 := (nw7.cell (p := ⟨w1.heap.size + 1, 0, none⟩) (by show w1.heap.size + 1 < w6.heap.size; omega)).trans cw6_1_0
        have cw7_2_0 := (nw7.cell (p := ⟨w2.heap.size, 0, none⟩) (by show w2.heap.size < w6.heap.size; omega)).trans cw6_2_0
        have cw7_3_0 := (nw7.cell (p := ⟨w3.heap.size, 0, none⟩) (by show w3.heap.size < w6.heap.size; omega)).trans cw6_3_0
        have cw7_4_0 := (nw7.cell (p := ⟨w5.heap.size, 0, none⟩) (by show w5.heap.size < w6.heap.size; omega)).trans cw6_4_0
        have cw7_5_0 : w7.cell? ⟨w6.heap.size, 0, none⟩ = some (.slice a6 (Y : Sps).length k6) := (hb.cell (p := ⟨w6.heap.size, 0, none⟩) (by first | (simp; done) | (simp; omega))).trans (by go_simp)
        have rw7_A := SB.step rw6_A (by go_grown) hb
        have rw7_B := SB.step rw6_B (by go_grown) hb
        have rw7_g := SB.step rw6_g (by go_grown) hb
        have rw7_h := SB.step rw6_h (by go_grown) hb
        have rw7_x := SB.step rw6_x (by go_grown) hb
        have rw7_y := SB.step rw6_y (by go_grown) hb
        have bw7 := bw6.trans (nw7.mono bw6.size)
        clear cw6_0_0 cw6_1_0 cw6_2_0 cw6_3_0 cw6_4_0 rw6_A rw6_B rw6_g rw6_h rw6_x rw6_y bw6 lw6_0 lw6_1 lw6_2 lw6_3 lw6_4 nw7 hb
        have lw7_0 : w1.heap.size < w7.heap.size := by omega
        have lw7_1 : w1.heap.size + 1 < w7.heap.size := by omega
        have lw7_2 : w2.heap.size < w7.heap.size := by omega
        have lw7_3 : w3.heap.size < w7.heap.size := by omega
        have lw7_4 : w5.heap.size < w7.heap.size := by omega
        have lw7_5 : w6.heap.size < w7.heap.size := by omega
        go_wp2_with fail
        refine (KT.out _ _ (SB.stepAt rw7_n (by go_grown))).mono ?_
        rintro e w8 ⟨u8, rfl, q8, hb⟩
        obtain ⟨a8, k8, rfl, _⟩ := id q8
        have rw8_t := (q8.mono (Nat.zero_le _)).sb
        clear q8
        have nw8 : Below w7.heap.size w7 w8 := Below.step (by go_grown) hb
        have sw8 : w7.heap.size + 1 ≤ w8.heap.size := by have := hb.size; simp at this; omega
        have cw8_0_0 := (nw8.cell (p := ⟨w1.heap.size, 0, none⟩) (by show w1.heap.size < w7.heap.size; omega)).trans cw7_0_0
        have cw8_1_0 := (nw8.cell (p := ⟨w1.heap.size + 1, 0, none⟩) (by show w1.heap.size + 1 < w7.heap.size; omega)).trans cw7_1_0
        have cw8_2_0 := (nw8.cell (p := ⟨w2.heap.size, 0, none⟩) (by show w2.heap.size < w7.heap.size; omega)).trans cw7_2_0
        have cw8_3_0 := (nw8.cell (p := ⟨w3.heap.size, 0, none⟩) (by show w3.heap.size < w7.heap.size; omega)).trans cw7_3_0
        have cw8_4_0 := (nw8.cell (p := ⟨w5.heap.size, 0, none⟩) (by show w5.heap.size < w7.heap.size; omega)).trans cw7_4_0
        have cw8_5_0 := (nw8.cell (p := ⟨w6.heap.size, 0, none⟩) (by show w6.heap.size < w7.heap.size; omega)).trans cw7_5_0
        have cw8_6_0 : w8.cell? ⟨w7.heap.size, 0, none⟩ = some (.slice a7 (N : Sps).length k7) := (hb.cell (p := ⟨w7.heap.size, 0, none⟩) (by first | (simp; done) | (simp; omega))).trans (by go_simp)
        have rw8_A := SB.step rw7_A (by go_grown) hb
        have rw8_B := SB.step rw7_B (by go_grown) hb
        have rw8_g := SB.step rw7_g (by go_grown) hb
        have rw8_h := SB.step rw7_h (by go_grown) hb
        have rw8_x := SB.step rw7_x (by go_grown) hb
        have rw8_y := SB.step rw7_y (by go_grown) hb
        have rw8_n := SB.step rw7_n (by go_grown) hb
        have bw8 := bw7.trans (nw8.mono bw7.size)
        clear cw7_0_0 cw7_1_0 cw7_2_0 cw7_3_0 cw7_4_0 cw7_5_0 rw7_A rw7_B rw7_g rw7_h rw7_x rw7_y rw7_n bw7 lw7_0 lw7_1 lw7_2 lw7_3 lw7_4 lw7_5 nw8 hb
        have lw8_0 : w1.heap.size < w8.heap.size := by omega
        have lw8_1 : w1.heap.size + 1 < w8.heap.size := by omega
        have lw8_2 : w2.heap.size < w8.heap.size := by omega
        have lw8_3 : w3.heap.size < w8.heap.size := by omega
        have lw8_4 : w5.heap.size < w8.heap.size := by omega
        have lw8_5 : w6.heap.size < w8.heap.size := by omega
        have lw8_6 : w7.heap.size < w8.heap.size := by omega
        go_wp2_with fail
        refine (KO.out _ _ (SB.stepAt rw8_g (by go_grown))).mono ?_
        rintro e w9 ⟨rfl, hb⟩
        have nw9 : Below w8.heap.size w8 w9 := Below.step (by go_grown) hb
        have sw9 : w8.heap.size + 1 ≤ w9.heap.size := by have := hb.size; simp at this; omega
        have cw9_0_0 := (nw9.cell (p := ⟨w1.heap.size, 0, none⟩) (by show w1.heap.size < w8.heap.size; omega)).trans cw8_0_0
        have cw9_1_0 := (nw9.cell (p := ⟨w1.heap.size + 1, 0, none⟩) (by show w1.heap.size + 1 < w8.heap.size; omega)).trans cw8_1_0
        have cw9_2_0 := (nw9.cell (p := ⟨w2.heap.size, 0, none⟩) (by show w2.heap.size < w8.heap.size; omega)).trans cw8_2_0
        have cw9_3_0 := (nw9.cell (p := ⟨w3.heap.size, 0, none⟩) (by show w3.heap.size < w8.heap.size; omega)).trans cw8_3_0
        have cw9_4_0 := (nw9.cell (p := ⟨w5.heap.size, 0, none⟩) (by show w5.heap.size < w8.heap.size; omega)).trans cw8_4_0
        have cw9_5_0 := (nw9.cell (p := ⟨w6.heap.size, 0, none⟩) (by show w6.heap.size < w8.heap.size; omega)).trans cw8_5_0
        have cw9_6_0 := (nw9.cell (p := ⟨w7.heap.size, 0, none⟩) (by show w7.heap.size < w8.heap.size; omega)).trans cw8_6_0
        have cw9_7_0 : w9.cell? ⟨w8.heap.size, 0, none⟩ = some (.slice a8 (T : Sps).length k8) := (hb.cell (p := ⟨w8.heap.size, 0, none⟩) (by first | (simp; done) | (simp; omega))).trans (by go_simp)
        have rw9_A := SB.step rw8_A (by go_grown) hb
        have rw9_B := SB.step rw8_B (by go_grown) hb
        have rw9_g := SB.step rw8_g (by go_grown) hb
        have rw9_h := SB.step rw8_h (by go_grown) hb
        have rw9_x := SB.step rw8_x (by go_grown) hb
        have rw9_y := SB.step rw8_y (by go_grown) hb
        have rw9_n := SB.step rw8_n (by go_grown) hb
        have rw9_t := SB.step rw8_t (by go_grown) hb
        have bw9 := bw8.trans (nw9.mono bw8.size)
        clear cw8_0_0 cw8_1_0 cw8_2_0 cw8_3_0 cw8_4_0 cw8_5_0 cw8_6_0 rw8_A rw8_B rw8_g rw8_h rw8_x rw8_y rw8_n rw8_t bw8 lw8_0 lw8_1 lw8_2 lw8_3 lw8_4 lw8_5 lw8_6 nw9 hb
        have lw9_0 : w1.heap.size < w9.heap.size := by omega
        have lw9_1 : w1.heap.size + 1 < w9.heap.size := by omega
        have lw9_2 : w2.heap.size < w9.heap.size := by omega
        have lw9_3 : w3.heap.size < w9.heap.size := by omega
        have lw9_4 : w5.heap.size < w9.heap.size := by omega
        have lw9_5 : w6.heap.size < w9.heap.size := by omega
        have lw9_6 : w7.heap.size < w9.heap.size := by omega
        have lw9_7 : w8.heap.size < w9.heap.size := by omega
        go_wp2_with fail
        go_ret
        exact ⟨rfl, bw9.trans ((show Below w9.heap.size w9 _ from by go_grown).mono bw9.size)⟩
      · cases os
        · clear HEQ
          go_wp2_with fail
          refine (KI.out _ _ _ (SB.stepAt rA (by go_grown)) (SB.stepAt rB (by go_grown))).mono ?_
          rintro e w2 ⟨u2, rfl, q2, hb⟩
          obtain ⟨a2, k2, rfl, _⟩ := id q2
          have rw2_g := (q2.mono (Nat.zero_le _)).sb
          clear q2
          have nw2 : Below w1.heap.size w1 w2 := Below.step (by go_grown) hb
          have sw2 : w1.heap.size + 2 ≤ w2.heap.size := by have := hb.size; simp at this; omega
          have cw2_0_0 : w2.cell? ⟨w1.heap.size, 0, none⟩ = some (.slice a0 A.length k0) := (hb.cell (p := ⟨w1.heap.size, 0, none⟩) (by first | (simp; done) | (simp; omega))).trans (by go_simp)
          have cw2_1_0 : w2.cell? ⟨w1.heap.size + 1, 0, none⟩ = some (.slice a1 B.length k1) := (hb.cell (p := ⟨w1.heap.size + 1, 0, none⟩) (by first | (simp; done) | (simp; omega))).trans (by go_simp)
          have rw2_A := SB.step rA (by go_grown) hb
          have rw2_B := SB.step rB (by go_grown) hb
          have bw2 := b1.trans (nw2.mono b1.size)
          clear rA rB b1 nw2 hb
          have lw2_0 : w1.heap.size < w2.heap.size := by omega
          have lw2_1 : w1.heap.size + 1 < w2.heap.size := by omega
          go_wp2_with fail
          refine (KS.out _ _ _ (SB.stepAt rw2_A (by go_grown)) (SB.stepAt rw2_B (by go_grown))).mono ?_
          rintro e w3 ⟨u3, rfl, q3, hb⟩
          obtain ⟨a3, k3, rfl, _⟩ := id q3
          have rw3_h := (q3.mono (Nat.zero_le _)).sb
          clear q3
          have nw3 : Below w2.heap.size w2 w3 := Below.step (by go_grown) hb
          have sw3 : w2.heap.size + 1 ≤ w3.heap.size := by have := hb.size; simp at this; omega
          have cw3_0_0 := (nw3.cell (p := ⟨w1.heap.size, 0, none⟩) (by show w1.heap.size < w2.heap.size; omega)).trans cw2_0_0
          have cw3_1_0 := (nw3.cell (p := ⟨w1.heap.size + 1, 0, none⟩) (by show w1.heap.size + 1 < w2.heap.size; omega)).trans cw2_1_0
          have cw3_2_0 : w3.cell? ⟨w2.heap.size, 0, none⟩ = some (.slice a2 (R : Sps).length k2) := (hb.cell (p := ⟨w2.heap.size, 0, none⟩) (by first | (simp; done) | (simp; omega))).trans (by go_simp)
          have rw3_A := SB.step rw2_A (by go_grown) hb
          have rw3_B := SB.step rw2_B (by go_grown) hb
          have rw3_g := SB.step rw2_g (by go_grown) hb
          have bw3 := bw2.trans (nw3.mono bw2.size)
          clear cw2_0_0 cw2_1_0 rw2_A rw2_B rw2_g bw2 lw2_0 lw2_1 nw3 hb
          have lw3_0 : w1.heap.size < w3.heap.size := by omega
          have lw3_1 : w1.heap.size + 1 < w3.heap.size := by omega
          have lw3_2 : w2.heap.size < w3.heap.size := by omega
          go_wp2_with fail
          refine (same_true hR (SB.stepAt rw3_g (by go_grown)) (SB.stepAt rw3_h (by go_grown))).mono ?_
          rintro e w4 ⟨rfl, hb⟩
          have nw4 : Below w3.heap.size w3 w4 := Below.step (by go_grown) hb
          have sw4 : w3.heap.size + 1 ≤ w4.heap.size := by have := hb.size; simp at this; omega
          have cw4_0_0 := (nw4.cell (p := ⟨w1.heap.size, 0, none⟩) (by show w1.heap.size < w3.heap.size; omega)).trans cw3_0_0
          have cw4_1_0 := (nw4.cell (p := ⟨w1.heap.size + 1, 0, none⟩) (by show w1.heap.size + 1 < w3.heap.size; omega)).trans cw3_1_0
          have cw4_2_0 := (nw4.cell (p := ⟨w2.heap.size, 0, none⟩) (by show w2.heap.size < w3.heap.size; omega)).trans cw3_2_0
          have cw4_3_0 : w4.cell? ⟨w3.heap.size, 0, none⟩ = some (.slice a3 (R : Sps).length k3) := (hb.cell (p := ⟨w3.heap.size, 0, none⟩) (by first | (simp; done) | (simp; omega))).trans (by go_simp)
          have rw4_A := SB.step rw3_A (by go_grown) hb
          have rw4_B := SB.step rw3_B (by go_grown) hb
          have rw4_g := SB.step rw3_g (by go_grown) hb
          have rw4_h := SB.step rw3_h (by go_grown) hb
          have bw4 := bw3.trans (nw4.mono bw3.size)
          clear cw3_0_0 cw3_1_0 cw3_2_0 rw3_A rw3_B rw3_g rw3_h bw3 lw3_0 lw3_1 lw3_2 nw4 hb
          have lw4_0 : w1.heap.size < w4.heap.size := by omega
          have lw4_1 : w1.heap.size + 1 < w4.heap.size := by omega
          have lw4_2 : w2.heap.size < w4.heap.size := by omega
          have lw4_3 : w3.heap.size < w4.heap.size := by omega
          go_wp2_with fail
          refine (KA.out _ _ (SB.stepAt rw4_A (by go_grown))).mono ?_
          rintro e w5 ⟨u5, rfl, q5, hb⟩
          obtain ⟨a5, k5, rfl, _⟩ := id q5
          have rw5_x := (q5.mono (Nat.zero_le _)).sb
          clear q5
          have nw5 : Below w4.heap.size w4 w5 := Below.step (by go_grown) hb
          have sw5 : w4.heap.size ≤ w5.heap.size := nw5.size
          have cw5_0_0 := (nw5.cell (p := ⟨w1.heap.size, 0, none⟩) (by show w1.heap.size < w4.heap.size; omega)).trans cw4_0_0
          have cw5_1_0 := (nw5.cell (p := ⟨w1.heap.size + 1, 0, none⟩) (by show w1.heap.size + 1 < w4.heap.size; omega)).trans cw4_1_0
          have cw5_2_0 := (nw5.cell (p := ⟨w2.heap.size, 0, none⟩) (by show w2.heap.size < w4.heap.size; omega)).trans cw4_2_0
          have cw5_3_0 := (nw5.cell (p := ⟨w3.heap.size, 0, none⟩) (by show w3.heap.size < w4.heap.size; omega)).trans cw4_3_0
          have rw5_A := SB.step rw4_A (by go_grown) hb
          have rw5_B := SB.step rw4_B (by go_grown) hb
          have rw5_g := SB.step rw4_g (by go_grown) hb
          have rw5_h := SB.step rw4_h (by go_grown) hb
          have bw5 := bw4.trans (nw5.mono bw4.size)
          clear cw4_0_0 cw4_1_0 cw4_2_0 cw4_3_0 rw4_A rw4_B rw4_g rw4_h bw4 lw4_0 lw4_1 lw4_2 lw4_3 nw5 hb
          have lw5_0 : w1.heap.size < w5.heap.size := by omega
          have lw5_1 : w1.heap.size + 1 < w5.heap.size := by omega
          have lw5_2 : w2.heap.size < w5.heap.size := by omega
          have lw5_3 : w3.heap.size < w5.heap.size := by omega
          go_wp2_with fail
          refine (KB.out _ _ (SB.stepAt rw5_B (by go_grown))).mono ?_
          rintro e w6 ⟨u6, rfl, q6, hb⟩
          obtain ⟨a6, k6, rfl, _⟩ := id q6
          have rw6_y := (q6.mono (Nat.zero_le _)).sb
          clear q6
          have nw6 : Below w5.heap.size w5 w6 := Below.step (by go_grown) hb
          have sw6 : w5.heap.size + 1 ≤ w6.heap.size := by have := hb.size; simp at this; omega
          have cw6_0_0 := (nw6.cell (p := ⟨w1.heap.size, 0, none⟩) (by show w1.heap.size < w5.heap.size; omega)).trans cw5_0_0
          have cw6_1_0 := (nw6.cell (p := ⟨w1.heap.size + 1, 0, none⟩) (by show w1.heap.size + 1 < w5.heap.size; omega)).trans cw5_1_0
          have cw6_2_0 := (nw6.cell (p := ⟨w2.heap.size, 0, none⟩) (by show w2.heap.size < w5.heap.size; omega)).trans cw5_2_0
          have cw6_3_0 := (nw6.cell (p := ⟨w3.heap.size, 0, none⟩) (by show w3.heap.size < w5.heap.size; omega)).trans cw5_3_0
          have cw6_4_0 : w6.cell? ⟨w5.heap.size, 0, none⟩ = some (.slice a5 (X : Sps).length k5) := (hb.cell (p := ⟨w5.heap.size, 0, none⟩) (by first | (simp; done) | (simp; omega))).trans (by go_simp)
          have rw6_A := SB.step rw5_A (by go_grown) hb
          have rw6_B := SB.step rw5_B (by go_grown) hb
          have rw6_g := SB.step rw5_g (by go_grown) hb
          have rw6_h := SB.step rw5_h (by go_grown) hb
          have rw6_x := SB.step rw5_x (by go_grown) hb
          have bw6 := bw5.trans (nw6.mono bw5.size)
          clear cw5_0_0 cw5_1_0 cw5_2_0 cw5_3_0 rw5_A rw5_B rw5_g rw5_h rw5_x bw5 lw5_0 lw5_1 lw5_2 lw5_3 nw6 hb
          have lw6_0 : w1.heap.size < w6.heap.size := by omega
          have lw6_1 : w1.heap.size + 1 < w6.heap.size := by omega
          have lw6_2 : w2.heap.size < w6.heap.size := by omega
          have lw6_3 : w3.heap.size < w6.heap.size := by omega
          have lw6_4 : w5.heap.size < w6.heap.size := by omega
          go_wp2_with fail
          refine (KN.out _ _ _ (SB.stepAt rw6_x (by go_grown)) (SB.stepAt rw6_y (by go_grown))).mono ?_
          rintro e w7 ⟨u7, rfl, q7, hb⟩
          obtain ⟨a7, k7, rfl, _⟩ := id q7
          have rw7_n := (q7.mono (Nat.zero_le _)).sb
          clear q7
          have nw7 : Below w6.heap.size w6 w7 := Below.step (by go_grown) hb
          have sw7 : w6.heap.size + 1 ≤ w7.heap.size := by have := hb.size; simp at this; omega
          have cw7_0_0 := (nw7.cell (p := ⟨w1.heap.size, 0, none⟩) (by show w1.heap.size < w6.heap.size; omega)).trans cw6_0_0
          have cw7_1_0 := (nw7.cell (p := ⟨w1.heap.size + 1, 0, none⟩) (by show w1.heap.size + 1 < w6.heap.size; omega)).trans cw6_1_0
          have cw7_2_0 := (nw7.cell (p := ⟨w2.heap.size, 0, none⟩) (by show w2.heap.size < w6.heap.size; omega)).trans cw6_2_0
          have cw7_3_0 := (nw7.cell (p := ⟨w3.heap.size, 0, none⟩) (by show w3.heap.size < w6.heap.size; omega)).trans cw6_3_0
          have cw7_4_0 := (nw7.cell (p := ⟨w5.heap.size, 0, none⟩) (by show w5.heap.size < w6.heap.size; omega)).trans cw6_4_0
          have cw7_5_0 : w7.cell? ⟨w6.heap.size, 0, none⟩ = some (.slice a6 (Y : Sps).length k6) := (hb.cell (p := ⟨w6.heap.size, 0, none⟩) (by first | (simp; done) | (simp; omega))).trans (by go_simp)
          have rw7_A := SB.step rw6_A (by go_grown) hb
          have rw7_B := SB.step rw6_B (by go_grown) hb
          have rw7_g := SB.step rw6_g (by go_grown) hb
          have rw7_h := SB.step rw6_h (by go_grown) hb
          have rw7_x := SB.step rw6_x (by go_grown) hb
          have rw7_y := SB.step rw6_y (by go_grown) hb
          have bw7 := bw6.trans (nw7.mono bw6.size)
          clear cw6_0_0 cw6_1_0 cw6_2_0 cw6_3_0 cw6_4_0 rw6_A rw6_B rw6_g rw6_h rw6_x rw6_y bw6 lw6_0 lw6_1 lw6_2 lw6_3 lw6_4 nw7 hb
          have lw7_0 : w1.heap.size < w7.heap.size := by omega
          have lw7_1 : w1.heap.size + 1 < w7.heap.size := by omega
          have lw7_2 : w2.heap.size < w7.heap.size := by omega
          have lw7_3 : w3.heap.size < w7.heap.size := by omega
          have lw7_4 : w5.heap.size < w7.heap.size := by omega
          have lw7_5 : w6.heap.size < w7.heap.size := by omega
          go_wp2_with fail
          refine (KT.out _ _ (SB.stepAt rw7_n (by go_grown))).mono ?_
          rintro e w8 ⟨u8, rfl, q8, hb⟩
          obtain ⟨a8, k8, rfl, _⟩ := id q8
          have rw8_t := (q8.mono (Nat.zero_le _)).sb
          clear q8
          have nw8 : Below w7.heap.size w7 w8 := Below.step (by go_grown) hb
          have sw8 : w7.heap.size + 1 ≤ w8.heap.size := by have := hb.size; simp at this; omega
          have cw8_0_0 := (nw8.cell (p := ⟨w1.heap.size, 0, none⟩) (by show w1.heap.size < w7.heap.size; omega)).trans cw7_0_0
          have cw8_1_0 := (nw8.cell (p := ⟨w1.heap.size + 1, 0, none⟩) (by show w1.heap.size + 1 < w7.heap.size; omega)).trans cw7_1_0
          have cw8_2_0 := (nw8.cell (p := ⟨w2.heap.size, 0, none⟩) (by show w2.heap.size < w7.heap.size; omega)).trans cw7_2_0
          have cw8_3_0 := (nw8.cell (p := ⟨w3.heap.size, 0, none⟩) (by show w3.heap.size < w7.heap.size; omega)).trans cw7_3_0
          have cw8_4_0 := (nw8.cell (p := ⟨w5.heap.size, 0, none⟩) (by show w5.heap.size < w7.heap.size; omega)).trans cw7_4_0
          have cw8_5_0 := (nw8.cell (p := ⟨w6.heap.size, 0, none⟩) (by show w6.heap.size < w7.heap.size; omega)).trans cw7_5_0
          have cw8_6_0 : w8.cell? ⟨w7.heap.size, 0, none⟩ = some (.slice a7 (N : Sps).length k7) := (hb.cell (p := ⟨w7.heap.size, 0, none⟩) (by first | (simp; done) | (simp; omega))).trans (by go_simp)
          have rw8_A := SB.step rw7_A (by go_grown) hb
          have rw8_B := SB.step rw7_B (by go_grown) hb
          have rw8_g := SB.step rw7_g (by go_grown) hb
          have rw8_h := SB.step rw7_h (by go_grown) hb
          have rw8_x := SB.step rw7_x (by go_grown) hb
          have rw8_y := SB.step rw7_y (by go_grown) hb
          have rw8_n := SB.step rw7_n (by go_grown) hb
          have bw8 := bw7.trans (nw8.mono bw7.size)
          clear cw7_0_0 cw7_1_0 cw7_2_0 cw7_3_0 cw7_4_0 cw7_5_0 rw7_A rw7_B rw7_g rw7_h rw7_x rw7_y rw7_n bw7 lw7_0 lw7_1 lw7_2 lw7_3 lw7_4 lw7_5 nw8 hb
          have lw8_0 : w1.heap.size < w8.heap.size := by omega
          have lw8_1 : w1.heap.size + 1 < w8.heap.size := by omega
          have lw8_2 : w2.heap.size < w8.heap.size := by omega
          have lw8_3 : w3.heap.size < w8.heap.size := by omega
          have lw8_4 : w5.heap.size < w8.heap.size := by omega
          have lw8_5 : w6.heap.size < w8.heap.size := by omega
          have lw8_6 : w7.heap.size < w8.heap.size := by omega
          go_wp2_with fail
          refine (KO.out _ _ (SB.stepAt rw8_g (by go_grown))).mono ?_
          rintro e w9 ⟨rfl, hb⟩
          have nw9 : Below w8.heap.size w8 w9 := Below.step (by go_grown) hb
          have sw9 : w8.heap.size + 1 ≤ w9.heap.size := by have := hb.size; simp at this; omega
          have cw9_0_0 := (nw9.cell (p := ⟨w1.heap.size, 0, none⟩) (by show w1.heap.size < w8.heap.size; omega)).trans cw8_0_0
          have cw9_1_0 := (nw9.cell (p := ⟨w1.heap.size + 1, 0, none⟩) (by show w1.heap.size + 1 < w8.heap.size; omega)).trans cw8_1_0
          have cw9_2_0 := (nw9.cell (p := ⟨w2.heap.size, 0, none⟩) (by show w2.heap.size < w8.heap.size; omega)).trans cw8_2_0
          have cw9_3_0 := (nw9.cell (p := ⟨w3.heap.size, 0, none⟩) (by show w3.heap.size < w8.heap.size; omega)).trans cw8_3_0
          have cw9_4_0 := (nw9.cell (p := ⟨w5.heap.size, 0, none⟩) (by show w5.heap.size < w8.heap.size; omega)).trans cw8_4_0
          have cw9_5_0 := (nw9.cell (p := ⟨w6.heap.size, 0, none⟩) (by show w6.heap.size < w8.heap.size; omega)).trans cw8_5_0
          have cw9_6_0 := (nw9.cell (p := ⟨w7.heap.size, 0, none⟩) (by show w7.heap.size < w8.heap.size; omega)).trans cw8_6_0
          have cw9_7_0 : w9.cell? ⟨w8.heap.size, 0, none⟩ = some (.slice a8 (T : Sps).length k8) := (hb.cell (p := ⟨w8.heap.size, 0, none⟩) (by first | (simp; done) | (simp; omega))).trans (by go_simp)
          have rw9_A := SB.step rw8_A (by go_grown) hb
          have rw9_B := SB.step rw8_B (by go_grown) hb
          have rw9_g := SB.step rw8_g (by go_grown) hb
          have rw9_h := SB.step rw8_h (by go_grown) hb
          have rw9_x := SB.step rw8_x (by go_grown) hb
          have rw9_y := SB.step rw8_y (by go_grown) hb
          have rw9_n := SB.step rw8_n (by go_grown) hb
          have rw9_t := SB.step rw8_t (by go_grown) hb
          have bw9 := bw8.trans (nw9.mono bw8.size)
          clear cw8_0_0 cw8_1_0 cw8_2_0 cw8_3_0 cw8_4_0 cw8_5_0 cw8_6_0 rw8_A rw8_B rw8_g rw8_h rw8_x rw8_y rw8_n rw8_t bw8 lw8_0 lw8_1 lw8_2 lw8_3 lw8_4 lw8_5 lw8_6 nw9 hb
          have lw9_0 : w1.heap.size < w9.heap.size := by omega
          have lw9_1 : w1.heap.size + 1 < w9.heap.size := by omega
          have lw9_2 : w2.heap.size < w9.heap.size := by omega
          have lw9_3 : w3.heap.size < w9.heap.size := by omega
          have lw9_4 : w5.heap.size < w9.heap.size := by omega
          have lw9_5 : w6.heap.size < w9.heap.size := by omega
          have lw9_6 : w7.heap.size < w9.heap.size := by omega
          have lw9_7 : w8.heap.size < w9.heap.size := by omega
          go_wp2_with fail
          go_ret
          exact ⟨rfl, bw9.trans ((show Below w9.heap.size w9 _ from by go_grown).mono bw9.size)⟩
        · cases on
          · clear HEQ
            go_wp2_with fail
            refine (KI.out _ _ _ (SB.stepAt rA (by go_grown)) (SB.stepAt rB (by go_grown))).mono ?_
            rintro e w2 ⟨u2, rfl, q2, hb⟩
            obtain ⟨a2, k2, rfl, _⟩ := id q2
            have rw2_g := (q2.mono (Nat.zero_le _)).sb
            clear q2
            have nw2 : Below w1.heap.size w1 w2 := Below.step (by go_grown) hb
            have sw2 : w1.heap.size + 2 ≤ w2.heap.size := by have := hb.size; simp at this; omega
            have cw2_0_0 : w2.cell? ⟨w1.heap.size, 0, none⟩ = some (.slice a0 A.length k0) := (hb.cell (p := ⟨w1.heap.size, 0, none⟩) (by first | (simp; done) | (simp; omega))).trans (by go_simp)
            have cw2_1_0 : w2.cell? ⟨w1.heap.size + 1, 0, none⟩ = some (.slice a1 B.length k1) := (hb.cell (p := ⟨w1.heap.size + 1, 0, none⟩) (by first | (simp; done) | (simp; omega))).trans (by go_simp)
            have rw2_A := SB.step rA (by go_grown) hb
            have rw2_B := SB.step rB (by go_grown) hb
            have bw2 := b1.trans (nw2.mono b1.size)
            clear rA rB b1 nw2 hb
            have lw2_0 : w1.heap.size < w2.heap.size := by omega
            have lw2_1 : w1.heap.size + 1 < w2.heap.size := by omega
            go_wp2_with fail
            refine (KS.out _ _ _ (SB.stepAt rw2_A (by go_grown)) (SB.stepAt rw2_B (by go_grown))).mono ?_
            rintro e w3 ⟨u3, rfl, q3, hb⟩
            obtain ⟨a3, k3, rfl, _⟩ := id q3
            have rw3_h := (q3.mono (Nat.zero_le _)).sb
            clear q3
            have nw3 : Below w2.heap.size w2 w3 := Below.step (by go_grown) hb
            have sw3 : w2.heap.size + 1 ≤ w3.heap.size := by have := hb.size; simp at this; omega
            have cw3_0_0 := (nw3.cell (p := ⟨w1.heap.size, 0, none⟩) (by show w1.heap.size < w2.heap.size; omega)).trans cw2_0_0
            have cw3_1_0 := (nw3.cell (p := ⟨w1.heap.size + 1, 0, none⟩) (by show w1.heap.size + 1 < w2.heap.size; omega)).trans cw2_1_0
            have cw3_2_0 : w3.cell? ⟨w2.heap.size, 0, none⟩ = some (.slice a2 (R : Sps).length k2) := (hb.cell (p := ⟨w2.heap.size, 0, none⟩) (by first | (simp; done) | (simp; omega))).trans (by go_simp)
            have rw3_A := SB.step rw2_A (by go_grown) hb
            have rw3_B := SB.step rw2_B (by go_grown) hb
            have rw3_g := SB.step rw2_g (by go_grown) hb
            have bw3 := bw2.trans (nw3.mono bw2.size)
            clear cw2_0_0 cw2_1_0 rw2_A rw2_B rw2_g bw2 lw2_0 lw2_1 nw3 hb
            have lw3_0 : w1.heap.size < w3.heap.size := by omega
            have lw3_1 : w1.heap.size + 1 < w3.heap.size := by omega
            have lw3_2 : w2.heap.size < w3.heap.size := by omega
            go_wp2_with fail
            refine (same_true hR (SB.stepAt rw3_g (by go_grown)) (SB.stepAt rw3_h (by go_grown))).mono ?_
            rintro e w4 ⟨rfl, hb⟩
            have nw4 : Below w3.heap.size w3 w4 := Below.step (by go_grown) hb
            have sw4 : w3.heap.size + 1 ≤ w4.heap.size := by have := hb.size; simp at this; omega
            have cw4_0_0 := (nw4.cell (p := ⟨w1.heap.size, 0, none⟩) (by show w1.heap.size < w3.heap.size; omega)).trans cw3_0_0
            have cw4_1_0 := (nw4.cell (p := ⟨w1.heap.size + 1, 0, none⟩) (by show w1.heap.size + 1 < w3.heap.size; omega)).trans cw3_1_0
            have cw4_2_0 := (nw4.cell (p := ⟨w2.heap.size, 0, none⟩) (by show w2.heap.size < w3.heap.size; omega)).trans cw3_2_0
            have cw4_3_0 : w4.cell? ⟨w3.heap.size, 0, none⟩ = some (.slice a3 (R : Sps).length k3) := (hb.cell (p := ⟨w3.heap.size, 0, none⟩) (by first | (simp; done) | (simp; omega))).trans (by go_simp)
            have rw4_A := SB.step rw3_A (by go_grown) hb
            have rw4_B := SB.step rw3_B (by go_grown) hb
            have rw4_g := SB.step rw3_g (by go_grown) hb
            have rw4_h := SB.step rw3_h (by go_grown) hb
            have bw4 := bw3.trans (nw4.mono bw3.size)
            clear cw3_0_0 cw3_1_0 cw3_2_0 rw3_A rw3_B rw3_g rw3_h bw3 lw3_0 lw3_1 lw3_2 nw4 hb
            have lw4_0 : w1.heap.size < w4.heap.size := by omega
            have lw4_1 : w1.heap.size + 1 < w4.heap.size := by omega
            have lw4_2 : w2.heap.size < w4.heap.size := by omega
            have lw4_3 : w3.heap.size < w4.heap.size := by omega
            go_wp2_with fail
            refine (KA.out _ _ (SB.stepAt rw4_A (by go_grown))).mono ?_
            rintro e w5 ⟨u5, rfl, q5, hb⟩
            obtain ⟨a5, k5, rfl, _⟩ := id q5
            have rw5_x := (q5.mono (Nat.zero_le _)).sb
            clear q5
            have nw5 : Below w4.heap.size w4 w5 := Below.step (by go_grown) hb
            have sw5 : w4.heap.size ≤ w5.heap.size := nw5.size
            have cw5_0_0 := (nw5.cell (p := ⟨w1.heap.size, 0, none⟩) (by show w1.heap.size < w4.heap.size; omega)).trans cw4_0_0
            have cw5_1_0 := (nw5.cell (p := ⟨w1.heap.size + 1, 0, none⟩) (by show w1.heap.size + 1 < w4.heap.size; omega)).trans cw4_1_0
            have cw5_2_0 := (nw5.cell (p := ⟨w2.heap.size, 0, none⟩) (by show w2.heap.size < w4.heap.size; omega)).trans cw4_2_0
            have cw5_3_0 := (nw5.cell (p := ⟨w3.heap.size, 0, none⟩) (by show w3.heap.size < w4.heap.size; omega)).trans cw4_3_0
            have rw5_A := SB.step rw4_A (by go_grown) hb
            have rw5_B := SB.step rw4_B (by go_grown) hb
            have rw5_g := SB.step rw4_g (by go_grown) hb
            have rw5_h := SB.step rw4_h (by go_grown) hb
            have bw5 := bw4.trans (nw5.mono bw4.size)
            clear cw4_0_0 cw4_1_0 cw4_2_0 cw4_3_0 rw4_A rw4_B rw4_g rw4_h bw4 lw4_0 lw4_1 lw4_2 lw4_3 nw5 hb
            have lw5_0 : w1.heap.size < w5.heap.size := by omega
            have lw5_1 : w1.heap.size + 1 < w5.heap.size := by omega
            have lw5_2 : w2.heap.size < w5.heap.size := by omega
            have lw5_3 : w3.heap.size < w5.heap.size := by omega
            go_wp2_with fail
            refine (KB.out _ _ (SB.stepAt rw5_B (by go_grown))).mono ?_
            rintro e w6 ⟨u6, rfl, q6, hb⟩
            obtain ⟨a6, k6, rfl, _⟩ := id q6
            have rw6_y := (q6.mono (Nat.zero_le _)).sb
            clear q6
            have nw6 : Below w5.heap.size w5 w6 := Below.step (by go_grown) hb
            have sw6 : w5.heap.size + 1 ≤ w6.heap.size := by have := hb.size; simp at this; omega
            have cw6_0_0 := (nw6.cell (p := ⟨w1.heap.size, 0, none⟩) (by show w1.heap.size < w5.heap.size; omega)).trans cw5_0_0
            have cw6_1_0 := (nw6.cell (p := ⟨w1.heap.size + 1, 0, none⟩) (by show w1.heap.size + 1 < w5.heap.size; omega)).trans cw5_1_0
            have cw6_2_0 := (nw6.cell (p := ⟨w2.heap.size, 0, none⟩) (by show w2.heap.size < w5.heap.size; omega)).trans cw5_2_0
            have cw6_3_0 := (nw6.cell (p := ⟨w3.heap.size, 0, none⟩) (by show w3.heap.size < w5.heap.size; omega)).trans cw5_3_0
            have cw6_4_0 : w6.cell? ⟨w5.heap.size, 0, none⟩ = some (.slice a5 (X : Sps).length k5) := (hb.cell (p := ⟨w5.heap.size, 0, none⟩) (by first | (simp; done) | (simp; omega))).trans (by go_simp)
            have rw6_A := SB.step rw5_A (by go_grown) hb
            have rw6_B := SB.step rw5_B (by go_grown) hb
            have rw6_g := SB.step rw5_g (by go_grown) hb
            have rw6_h := SB.step rw5_h (by go_grown) hb
            have rw6_x := SB.step rw5_x (by go_grown) hb
            have bw6 := bw5.trans (nw6.mono bw5.size)
            clear cw5_0_0 cw5_1_0 cw5_2_0 cw5_3_0 rw5_A rw5_B rw5_g rw5_h rw5_x bw5 lw5_0 lw5_1 lw5_2 lw5_3 nw6 hb
            have lw6_0 : w1.heap.size < w6.heap.size := by omega
            have lw6_1 : w1.heap.size + 1 < w6.heap.size := by omega
            have lw6_2 : w2.heap.size < w6.heap.size := by omega
            have lw6_3 : w3.heap.size < w6.heap.size := by omega
            have lw6_4 : w5.heap.size < w6.heap.size := by omega
            go_wp2_with fail
            refine (KN.out _ _ _ (SB.stepAt rw6_x (by go_grown)) (SB.stepAt rw6_y (by go_grown))).mono ?_
            rintro e w7 ⟨u7, rfl, q7, hb⟩
            obtain ⟨a7, k7, rfl, _⟩ := id q7
            have rw7_n := (q7.mono (Nat.zero_le _)).sb
            clear q7
            have nw7 : Below w6.heap.size w6 w7 := Below.step (by go_grown) hb
            have sw7 : w6.heap.size + 1 ≤ w7.heap.size := by have := hb.size; simp at this; omega
            have cw7_0_0 := (nw7.cell (p := ⟨w1.heap.size, 0, none⟩) (by show w1.heap.size < w6.heap.size; omega)).trans cw6_0_0
            have cw7_1_0 := (nw7.cell (p := ⟨w1.heap.size + 1, 0, none⟩) (by show w1.heap.size + 1 < w6.heap.size; omega)).trans cw6_1_0
            have cw7_2_0 := (nw7.cell (p := ⟨w2.heap.size, 0, none⟩) (by show w2.heap.size < w6.heap.size; omega)).trans cw6_2_0
            have cw7_3_0 := (nw7.cell (p := ⟨w3.heap.size, 0, none⟩) (by show w3.heap.size < w6.heap.size; omega)).trans cw6_3_0
            have cw7_4_0 := (nw7.cell (p := ⟨w5.heap.size, 0, none⟩) (by show w5.heap.size < w6.heap.size; omega)).trans cw6_4_0
            have cw7_5_0 : w7.cell? ⟨w6.heap.size, 0, none⟩ = some (.slice a6 (Y : Sps).length k6) := (hb.cell (p := ⟨w6.heap.size, 0, none⟩) (by first | (simp; done) | (simp; omega))).trans (by go_simp)
            have rw7_A := SB.step rw6_A (by go_grown) hb
            have rw7_B := SB.step rw6_B (by go_grown) hb
            have rw7_g := SB.step rw6_g (by go_grown) hb
            have rw7_h := SB.step rw6_h (by go_grown) hb
            have rw7_x := SB.step rw6_x (by go_grown) hb
            have rw7_y := SB.step rw6_y (by go_grown) hb
            have bw7 := bw6.trans (nw7.mono bw6.size)
            clear cw6_0_0 cw6_1_0 cw6_2_0 cw6_3_0 cw6_4_0 rw6_A rw6_B rw6_g rw6_h rw6_x rw6_y bw6 lw6_0 lw6_1 lw6_2 lw6_3 lw6_4 nw7 hb
            have lw7_0 : w1.heap.size < w7.heap.size := by omega
            have lw7_1 : w1.heap.size + 1 < w7.heap.size := by omega
            have lw7_2 : w2.heap.size < w7.heap.size := by omega
            have lw7_3 : w3.heap.size < w7.heap.size := by omega
            have lw7_4 : w5.heap.size < w7.heap.size := by omega
            have lw7_5 : w6.heap.size < w7.heap.size := by omega
            go_wp2_with fail
            refine (KT.out _ _ (SB.stepAt rw7_n (by go_grown))).mono ?_
            rintro e w8 ⟨u8, rfl, q8, hb⟩
            obtain ⟨a8, k8, rfl, _⟩ := id q8
            have rw8_t := (q8.mono (Nat.zero_le _)).sb
            clear q8
            have nw8 : Below w7.heap.size w7 w8 := Below.step (by go_grown) hb
            have sw8 : w7.heap.size + 1 ≤ w8.heap.size := by have := hb.size; simp at this; omega
            have cw8_0_0 := (nw8.cell (p := ⟨w1.heap.size, 0, none⟩) (by show w1.heap.size < w7.heap.size; omega)).trans cw7_0_0
            have cw8_1_0 := (nw8.cell (p := ⟨w1.heap.size + 1, 0, none⟩) (by show w1.heap.size + 1 < w7.heap.size; omega)).trans cw7_1_0
            have cw8_2_0 := (nw8.cell (p := ⟨w2.heap.size, 0, none⟩) (by show w2.heap.size < w7.heap.size; omega)).trans cw7_2_0
            have cw8_3_0 := (nw8.cell (p := ⟨w3.heap.size, 0, none⟩) (by show w3.heap.size < w7.heap.size; omega)).trans cw7_3_0
            have cw8_4_0 := (nw8.cell (p := ⟨w5.heap.size, 0, none⟩) (by show w5.heap.size < w7.heap.size; omega)).trans cw7_4_0
            have cw8_5_0 := (nw8.cell (p := ⟨w6.heap.size, 0, none⟩) (by show w6.heap.size < w7.heap.size; omega)).trans cw7_5_0
            have cw8_6_0 : w8.cell? ⟨w7.heap.size, 0, none⟩ = some (.slice a7 (N : Sps).length k7) := (hb.cell (p := ⟨w7.heap.size, 0, none⟩) (by first | (simp; done) | (simp; omega))).trans (by go_simp)
            have rw8_A := SB.step rw7_A (by go_grown) hb
            have rw8_B := SB.step rw7_B (by go_grown) hb
            have rw8_g := SB.step rw7_g (by go_grown) hb
            have rw8_h := SB.step rw7_h (by go_grown) hb
            have rw8_x := SB.step rw7_x (by go_grown) hb
            have rw8_y := SB.step rw7_y (by go_grown) hb
            have rw8_n := SB.step rw7_n (by go_grown) hb
            have bw8 := bw7.trans (nw8.mono bw7.size)
            clear cw7_0_0 cw7_1_0 cw7_2_0 cw7_3_0 cw7_4_0 cw7_5_0 rw7_A rw7_B rw7_g rw7_h rw7_x rw7_y rw7_n bw7 lw7_0 lw7_1 lw7_2 lw7_3 lw7_4 lw7_5 nw8 hb
            have lw8_0 : w1.heap.size < w8.heap.size := by omega
            have lw8_1 : w1.heap.size + 1 < w8.heap.size := by omega
            have lw8_2 : w2.heap.size < w8.heap.size := by omega
            have lw8_3 : w3.heap.size < w8.heap.size := by omega
            have lw8_4 : w5.heap.size < w8.heap.size := by omega
            have lw8_5 : w6.heap.size < w8.heap.size := by omega
            have lw8_6 : w7.heap.size < w8.heap.size := by omega
            go_wp2_with fail
            refine (KO.out _ _ (SB.stepAt rw8_g (by go_grown))).mono ?_
            rintro e w9 ⟨rfl, hb⟩
            have nw9 : Below w8.heap.size w8 w9 := Below.step (by go_grown) hb
            have sw9 : w8.heap.size + 1 ≤ w9.heap.size := by have := hb.size; simp at this; omega
            have cw9_0_0 := (nw9.cell (p := ⟨w1.heap.size, 0, none⟩) (by show w1.heap.size < w8.heap.size; omega)).trans cw8_0_0
            have cw9_1_0 := (nw9.cell (p := ⟨w1.heap.size + 1, 0, none⟩) (by show w1.heap.size + 1 < w8.heap.size; omega)).trans cw8_1_0
            have cw9_2_0 := (nw9.cell (p := ⟨w2.heap.size, 0, none⟩) (by show w2.heap.size < w8.heap.size; omega)).trans cw8_2_0
            have cw9_3_0 := (nw9.cell (p := ⟨w3.heap.size, 0, none⟩) (by show w3.heap.size < w8.heap.size; omega)).trans cw8_3_0
            have cw9_4_0 := (nw9.cell (p := ⟨w5.heap.size, 0, none⟩) (by show w5.heap.size < w8.heap.size; omega)).trans cw8_4_0
            have cw9_5_0 := (nw9.cell (p := ⟨w6.heap.size, 0, none⟩) (by show w6.heap.size < w8.heap.size; omega)).trans cw8_5_0
            have cw9_6_0 := (nw9.cell (p := ⟨w7.heap.size, 0, none⟩) (by show w7.heap.size < w8.heap.size; omega)).trans cw8_6_0
            have cw9_7_0 : w9.cell? ⟨w8.heap.size, 0, none⟩ = some (.slice a8 (T : Sps).length k8) := (hb.cell (p := ⟨w8.heap.size, 0, none⟩) (by first | (simp; done) | (simp; omega))).trans (by go_simp)
            have rw9_A := SB.step rw8_A (by go_grown) hb
            have rw9_B := SB.step rw8_B (by go_grown) hb
            have rw9_g := SB.step rw8_g (by go_grown) hb
            have rw9_h := SB.step rw8_h (by go_grown) hb
            have rw9_x := SB.step rw8_x (by go_grown) hb
            have rw9_y := SB.step rw8_y (by go_grown) hb
            have rw9_n := SB.step rw8_n (by go_grown) hb
            have rw9_t := SB.step rw8_t (by go_grown) hb
            have bw9 := bw8.trans (nw9.mono bw8.size)
            clear cw8_0_0 cw8_1_0 cw8_2_0 cw8_3_0 cw8_4_0 cw8_5_0 cw8_6_0 rw8_A rw8_B rw8_g rw8_h rw8_x rw8_y rw8_n rw8_t bw8 lw8_0 lw8_1 lw8_2 lw8_3 lw8_4 lw8_5 lw8_6 nw9 hb
            have lw9_0 : w1.heap.size < w9.heap.size := by omega
            have lw9_1 : w1.heap.size + 1 < w9.heap.size := by omega
            have lw9_2 : w2.heap.size < w9.heap.size := by omega
            have lw9_3 : w3.heap.size < w9.heap.size := by omega
            have lw9_4 : w5.heap.size < w9.heap.size := by omega
            have lw9_5 : w6.heap.size < w9.heap.size := by omega
            have lw9_6 : w7.heap.size < w9.heap.size := by omega
            have lw9_7 : w8.heap.size < w9.heap.size := by omega
            go_wp2_with fail
            go_ret
            exact ⟨rfl, bw9.trans ((show Below w9.heap.size w9 _ from by go_grown).mono bw9.size)⟩
          · obtain rfl : T = R := HEQ rfl
            clear HEQ
            go_wp2_with fail
            refine (KI.out _ _ _ (SB.stepAt rA (by go_grown)) (SB.stepAt rB (by go_grown))).mono ?_
            rintro e w2 ⟨u2, rfl, q2, hb⟩
            obtain ⟨a2, k2, rfl, _⟩ := id q2
            have rw2_g := (q2.mono (Nat.zero_le _)).sb
            clear q2
            have nw2 : Below w1.heap.size w1 w2 := Below.step (by go_grown) hb
            have sw2 : w1.heap.size + 2 ≤ w2.heap.size := by have := hb.size; simp at this; omega
            have cw2_0_0 : w2.cell? ⟨w1.heap.size, 0, none⟩ = some (.slice a0 A.length k0) := (hb.cell (p := ⟨w1.heap.size, 0, none⟩) (by first | (simp; done) | (simp; omega))).trans (by go_simp)
            have cw2_1_0 : w2.cell? ⟨w1.heap.size + 1, 0, none⟩ = some (.slice a1 B.length k1) := (hb.cell (p := ⟨w1.heap.size + 1, 0, none⟩) (by first | (simp; done) | (simp; omega))).trans (by go_simp)
            have rw2_A := SB.step rA (by go_grown) hb
            have rw2_B := SB.step rB (by go_grown) hb
            have bw2 := b1.trans (nw2.mono b1.size)
            clear rA rB b1 nw2 hb
            have lw2_0 : w1.heap.size < w2.heap.size := by omega
            have lw2_1 : w1.heap.size + 1 < w2.heap.size := by omega
            go_wp2_with fail
            refine (KS.out _ _ _ (SB.stepAt rw2_A (by go_grown)) (SB.stepAt rw2_B (by go_grown))).mono ?_
            rintro e w3 ⟨u3, rfl, q3, hb⟩
            obtain ⟨a3, k3, rfl, _⟩ := id q3
            have rw3_h := (q3.mono (Nat.zero_le _)).sb
            clear q3
            have nw3 : Below w2.heap.size w2 w3 := Below.step (by go_grown) hb
            have sw3 : w2.heap.size + 1 ≤ w3.heap.size := by have := hb.size; simp at this; omega
            have cw3_0_0 := (nw3.cell (p := ⟨w1.heap.size, 0, none⟩) (by show w1.heap.size < w2.heap.size; omega)).trans cw2_0_0
            have cw3_1_0 := (nw3.cell (p := ⟨w1.heap.size + 1, 0, none⟩) (by show w1.heap.size + 1 < w2.heap.size; omega)).trans cw2_1_0
            have cw3_2_0 : w3.cell? ⟨w2.heap.size, 0, none⟩ = some (.slice a2 (T : Sps).length k2) := (hb.cell (p := ⟨w2.heap.size, 0, none⟩) (by first | (simp; done) | (simp; omega))).trans (by go_simp)
            have rw3_A := SB.step rw2_A (by go_grown) hb
            have rw3_B := SB.step rw2_B (by go_grown) hb
            have rw3_g := SB.step rw2_g (by go_grown) hb
            have bw3 := bw2.trans (nw3.mono bw2.size)
            clear cw2_0_0 cw2_1_0 rw2_A rw2_B rw2_g bw2 lw2_0 lw2_1 nw3 hb
            have lw3_0 : w1.heap.size < w3.heap.size := by omega
            have lw3_1 : w1.heap.size + 1 < w3.heap.size := by omega
            have lw3_2 : w2.heap.size < w3.heap.size := by omega
            go_wp2_with fail
            refine (same_true hR (SB.stepAt rw3_g (by go_grown)) (SB.stepAt rw3_h (by go_grown))).mono ?_
            rintro e w4 ⟨rfl, hb⟩
            have nw4 : Below w3.heap.size w3 w4 := Below.step (by go_grown) hb
            have sw4 : w3.heap.size + 1 ≤ w4.heap.size := by have := hb.size; simp at this; omega
            have cw4_0_0 := (nw4.cell (p := ⟨w1.heap.size, 0, none⟩) (by show w1.heap.size < w3.heap.size; omega)).trans cw3_0_0
            have cw4_1_0 := (nw4.cell (p := ⟨w1.heap.size + 1, 0, none⟩) (by show w1.heap.size + 1 < w3.heap.size; omega)).trans cw3_1_0
            have cw4_2_0 := (nw4.cell (p := ⟨w2.heap.size, 0, none⟩) (by show w2.heap.size < w3.heap.size; omega)).trans cw3_2_0
            have cw4_3_0 : w4.cell? ⟨w3.heap.size, 0, none⟩ = some (.slice a3 (T : Sps).length k3) := (hb.cell (p := ⟨w3.heap.size, 0, none⟩) (by first | (simp; done) | (simp; omega))).trans (by go_simp)
            have rw4_A := SB.step rw3_A (by go_grown) hb
            have rw4_B := SB.step rw3_B (by go_grown) hb
            have rw4_g := SB.step rw3_g (by go_grown) hb
            have rw4_h := SB.step rw3_h (by go_grown) hb
            have bw4 := bw3.trans (nw4.mono bw3.size)
            clear cw3_0_0 cw3_1_0 cw3_2_0 rw3_A rw3_B rw3_g rw3_h bw3 lw3_0 lw3_1 lw3_2 nw4 hb
            have lw4_0 : w1.heap.size < w4.heap.size := by omega
            have lw4_1 : w1.heap.size + 1 < w4.heap.size := by omega
            have lw4_2 : w2.heap.size < w4.heap.size := by omega
            have lw4_3 : w3.heap.size < w4.heap.size := by omega
            go_wp2_with fail
            refine (KA.out _ _ (SB.stepAt rw4_A (by go_grown))).mono ?_
            rintro e w5 ⟨u5, rfl, q5, hb⟩
            obtain ⟨a5, k5, rfl, _⟩ := id q5
            have rw5_x := (q5.mono (Nat.zero_le _)).sb
            clear q5
            have nw5 : Below w4.heap.size w4 w5 := Below.step (by go_grown) hb
            have sw5 : w4.heap.size ≤ w5.heap.size := nw5.size
            have cw5_0_0 := (nw5.cell (p := ⟨w1.heap.size, 0, none⟩) (by show w1.heap.size < w4.heap.size; omega)).trans cw4_0_0
            have cw5_1_0 := (nw5.cell (p := ⟨w1.heap.size + 1, 0, none⟩) (by show w1.heap.size + 1 < w4.heap.size; omega)).trans cw4_1_0
            have cw5_2_0 := (nw5.cell (p := ⟨w2.heap.size, 0, none⟩) (by show w2.heap.size < w4.heap.size; omega)).trans cw4_2_0
            have cw5_3_0 := (nw5.cell (p := ⟨w3.heap.size, 0, none⟩) (by show w3.heap.size < w4.heap.size; omega)).trans cw4_3_0
            have rw5_A := SB.step rw4_A (by go_grown) hb
            have rw5_B := SB.step rw4_B (by go_grown) hb
            have rw5_g := SB.step rw4_g (by go_grown) hb
            have rw5_h := SB.step rw4_h (by go_grown) hb
            have bw5 := bw4.trans (nw5.mono bw4.size)
            clear cw4_0_0 cw4_1_0 cw4_2_0 cw4_3_0 rw4_A rw4_B rw4_g rw4_h bw4 lw4_0 lw4_1 lw4_2 lw4_3 nw5 hb
            have lw5_0 : w1.heap.size < w5.heap.size := by omega
            have lw5_1 : w1.heap.size + 1 < w5.heap.size := by omega
            have lw5_2 : w2.heap.size < w5.heap.size := by omega
            have lw5_3 : w3.heap.size < w5.heap.size := by omega
            go_wp2_with fail
            refine (KB.out _ _ (SB.stepAt rw5_B (by go_grown))).mono ?_
            rintro e w6 ⟨u6, rfl, q6, hb⟩
            obtain ⟨a6, k6, rfl, _⟩ := id q6
            have rw6_y := (q6.mono (Nat.zero_le _)).sb
            clear q6
            have nw6 : Below w5.heap.size w5 w6 := Below.step (by go_grown) hb
            have sw6 : w5.heap.size + 1 ≤ w6.heap.size := by have := hb.size; simp at this; omega
            have cw6_0_0 := (nw6.cell (p := ⟨w1.heap.size, 0, none⟩) (by show w1.heap.size < w5.heap.size; omega)).trans cw5_0_0
            have cw6_1_0 := (nw6.cell (p := ⟨w1.heap.size + 1, 0, none⟩) (by show w1.heap.size + 1 < w5.heap.size; omega)).trans cw5_1_0
            have cw6_2_0 := (nw6.cell (p := ⟨w2.heap.size, 0, none⟩) (by show w2.heap.size < w5.heap.size; omega)).trans cw5_2_0
            have cw6_3_0 := (nw6.cell (p := ⟨w3.heap.size, 0, none⟩) (by show w3.heap.size < w5.heap.size; omega)).trans cw5_3_0
            have cw6_4_0 : w6.cell? ⟨w5.heap.size, 0, none⟩ = some (.slice a5 (X : Sps).length k5) := (hb.cell (p := ⟨w5.heap.size, 0, none⟩) (by first | (simp; done) | (simp; omega))).trans (by go_simp)
            have rw6_A := SB.step rw5_A (by go_grown) hb
            have rw6_B := SB.step rw5_B (by go_grown) hb
            have rw6_g := SB.step rw5_g (by go_grown) hb
            have rw6_h := SB.step rw5_h (by go_grown) hb
            have rw6_x := SB.step rw5_x (by go_grown) hb
            have bw6 := bw5.trans (nw6.mono bw5.size)
            clear cw5_0_0 cw5_1_0 cw5_2_0 cw5_3_0 rw5_A rw5_B rw5_g rw5_h rw5_x bw5 lw5_0 lw5_1 lw5_2 lw5_3 nw6 hb
            have lw6_0 : w1.heap.size < w6.heap.size := by omega
            have lw6_1 : w1.heap.size + 1 < w6.heap.size := by omega
            have lw6_2 : w2.heap.size < w6.heap.size := by omega
            have lw6_3 : w3.heap.size < w6.heap.size := by omega
            have lw6_4 : w5.heap.size < w6.heap.size := by omega
            go_wp2_with fail
            refine (KN.out _ _ _ (SB.stepAt rw6_x (by go_grown)) (SB.stepAt rw6_y (by go_grown))).mono ?_
            rintro e w7 ⟨u7, rfl, q7, hb⟩
            obtain ⟨a7, k7, rfl, _⟩ := id q7
            have rw7_n := (q7.mono (Nat.zero_le _)).sb
            clear q7
            have nw7 : Below w6.heap.size w6 w7 := Below.step (by go_grown) hb
            have sw7 : w6.heap.size + 1 ≤ w7.heap.size := by have := hb.size; simp at this; omega
            have cw7_0_0 := (nw7.cell (p := ⟨w1.heap.size, 0, none⟩) (by show w1.heap.size < w6.heap.size; omega)).trans cw6_0_0
            have cw7_1_0 := (nw7.cell (p := ⟨w1.heap.size + 1, 0, none⟩) (by show w1.heap.size + 1 < w6.heap.size; omega)).trans cw6_1_0
            have cw7_2_0 := (nw7.cell (p := ⟨w2.heap.size, 0, none⟩) (by show w2.heap.size < w6.heap.size; omega)).trans cw6_2_0
            have cw7_3_0 := (nw7.cell (p := ⟨w3.heap.size, 0, none⟩) (by show w3.heap.size < w6.heap.size; omega)).trans cw6_3_0
            have cw7_4_0 := (nw7.cell (p := ⟨w5.heap.size, 0, none⟩) (by show w5.heap.size < w6.heap.size; omega)).trans cw6_4_0
            have cw7_5_0 : w7.cell? ⟨w6.heap.size, 0, none⟩ = some (.slice a6 (Y : Sps).length k6) := (hb.cell (p := ⟨w6.heap.size, 0, none⟩) (by first | (simp; done) | (simp; omega))).trans (by go_simp)
            have rw7_A := SB.step rw6_A (by go_grown) hb
            have rw7_B := SB.step rw6_B (by go_grown) hb
            have rw7_g := SB.step rw6_g (by go_grown) hb
            have rw7_h := SB.step rw6_h (by go_grown) hb
            have rw7_x := SB.step rw6_x (by go_grown) hb
            have rw7_y := SB.step rw6_y (by go_grown) hb
            have bw7 := bw6.trans (nw7.mono bw6.size)
            clear cw6_0_0 cw6_1_0 cw6_2_0 cw6_3_0 cw6_4_0 rw6_A rw6_B rw6_g rw6_h rw6_x rw6_y bw6 lw6_0 lw6_1 lw6_2 lw6_3 lw6_4 nw7 hb
            have lw7_0 : w1.heap.size < w7.heap.size := by omega
            have lw7_1 : w1.heap.size + 1 < w7.heap.size := by omega
            have lw7_2 : w2.heap.size < w7.heap.size := by omega
            have lw7_3 : w3.heap.size < w7.heap.size := by omega
            have lw7_4 : w5.heap.size < w7.heap.size := by omega
            have lw7_5 : w6.heap.size < w7.heap.size := by omega
            go_wp2_with fail
            refine (KT.out _ _ (SB.stepAt rw7_n (by go_grown))).mono ?_
            rintro e w8 ⟨u8, rfl, q8, hb⟩
            obtain ⟨a8, k8, rfl, _⟩ := id q8
            have rw8_t := (q8.mono (Nat.zero_le _)).sb
            clear q8
            have nw8 : Below w7.heap.size w7 w8 := Below.step (by go_grown) hb
            have sw8 : w7.heap.size + 1 ≤ w8.heap.size := by have := hb.size; simp at this; omega
            have cw8_0_0 := (nw8.cell (p := ⟨w1.heap.size, 0, none⟩) (by show w1.heap.size < w7.heap.size; omega)).trans cw7_0_0
            have cw8_1_0 := (nw8.cell (p := ⟨w1.heap.size + 1, 0, none⟩) (by show w1.heap.size + 1 < w7.heap.size; omega)).trans cw7_1_0
            have cw8_2_0 := (nw8.cell (p := ⟨w2.heap.size, 0, none⟩) (by show w2.heap.size < w7.heap.size; omega)).trans cw7_2_0
            have cw8_3_0 := (nw8.cell (p := ⟨w3.heap.size, 0, none⟩) (by show w3.heap.size < w7.heap.size; omega)).trans cw7_3_0
            have cw8_4_0 := (nw8.cell (p := ⟨w5.heap.size, 0, none⟩) (by show w5.heap.size < w7.heap.size; omega)).trans cw7_4_0
            have cw8_5_0 := (nw8.cell (p := ⟨w6.heap.size, 0, none⟩) (by show w6.heap.size < w7.heap.size; omega)).trans cw7_5_0
            have cw8_6_0 : w8.cell? ⟨w7.heap.size, 0, none⟩ = some (.slice a7 (N : Sps).length k7) := (hb.cell (p := ⟨w7.heap.size, 0, none⟩) (by first | (simp; done) | (simp; omega))).trans (by go_simp)
            have rw8_A := SB.step rw7_A (by go_grown) hb
            have rw8_B := SB.step rw7_B (by go_grown) hb
            have rw8_g := SB.step rw7_g (by go_grown) hb
            have rw8_h := SB.step rw7_h (by go_grown) hb
            have rw8_x := SB.step rw7_x (by go_grown) hb
            have rw8_y := SB.step rw7_y (by go_grown) hb
            have rw8_n := SB.step rw7_n (by go_grown) hb
            have bw8 := bw7.trans (nw8.mono bw7.size)
            clear cw7_0_0 cw7_1_0 cw7_2_0 cw7_3_0 cw7_4_0 cw7_5_0 rw7_A rw7_B rw7_g rw7_h rw7_x rw7_y rw7_n bw7 lw7_0 lw7_1 lw7_2 lw7_3 lw7_4 lw7_5 nw8 hb
            have lw8_0 : w1.heap.size < w8.heap.size := by omega
            have lw8_1 : w1.heap.size + 1 < w8.heap.size := by omega
            have lw8_2 : w2.heap.size < w8.heap.size := by omega
            have lw8_3 : w3.heap.size < w8.heap.size := by omega
            have lw8_4 : w5.heap.size < w8.heap.size := by omega
            have lw8_5 : w6.heap.size < w8.heap.size := by omega
            have lw8_6 : w7.heap.size < w8.heap.size := by omega
            go_wp2_with fail
            refine (KO.out _ _ (SB.stepAt rw8_g (by go_grown))).mono ?_
            rintro e w9 ⟨rfl, hb⟩
            have nw9 : Below w8.heap.size w8 w9 := Below.step (by go_grown) hb
            have sw9 : w8.heap.size + 1 ≤ w9.heap.size := by have := hb.size; simp at this; omega
            have cw9_0_0 := (nw9.cell (p := ⟨w1.heap.size, 0, none⟩) (by show w1.heap.size < w8.heap.size; omega)).trans cw8_0_0
            have cw9_1_0 := (nw9.cell (p := ⟨w1.heap.size + 1, 0, none⟩) (by show w1.heap.size + 1 < w8.heap.size; omega)).trans cw8_1_0
            have cw9_2_0 := (nw9.cell (p := ⟨w2.heap.size, 0, none⟩) (by show w2.heap.size < w8.heap.size; omega)).trans cw8_2_0
            have cw9_3_0 := (nw9.cell (p := ⟨w3.heap.size, 0, none⟩) (by show w3.heap.size < w8.heap.size; omega)).trans cw8_3_0
            have cw9_4_0 := (nw9.cell (p := ⟨w5.heap.size, 0, none⟩) (by show w5.heap.size < w8.heap.size; omega)).trans cw8_4_0
            have cw9_5_0 := (nw9.cell (p := ⟨w6.heap.size, 0, none⟩) (by show w6.heap.size < w8.heap.size; omega)).trans cw8_5_0
            have cw9_6_0 := (nw9.cell (p := ⟨w7.heap.size, 0, none⟩) (by show w7.heap.size < w8.heap.size; omega)).trans cw8_6_0
            have cw9_7_0 : w9.cell? ⟨w8.heap.size, 0, none⟩ = some (.slice a8 (T : Sps).length k8) := (hb.cell (p := ⟨w8.heap.size, 0, none⟩) (by first | (simp; done) | (simp; omega))).trans (by go_simp)
            have rw9_A := SB.step rw8_A (by go_grown) hb
            have rw9_B := SB.step rw8_B (by go_grown) hb
            have rw9_g := SB.step rw8_g (by go_grown) hb
            have rw9_h := SB.step rw8_h (by go_grown) hb
            have rw9_x := SB.step rw8_x (by go_grown) hb
            have rw9_y := SB.step rw8_y (by go_grown) hb
            have rw9_n := SB.step rw8_n (by go_grown) hb
            have rw9_t := SB.step rw8_t (by go_grown) hb
            have bw9 := bw8.trans (nw9.mono bw8.size)
            clear cw8_0_0 cw8_1_0 cw8_2_0 cw8_3_0 cw8_4_0 cw8_5_0 cw8_6_0 rw8_A rw8_B rw8_g rw8_h rw8_x rw8_y rw8_n rw8_t bw8 lw8_0 lw8_1 lw8_2 lw8_3 lw8_4 lw8_5 lw8_6 nw9 hb
            have lw9_0 : w1.heap.size < w9.heap.size := by omega
            have lw9_1 : w1.heap.size + 1 < w9.heap.size := by omega
            have lw9_2 : w2.heap.size < w9.heap.size := by omega
            have lw9_3 : w3.heap.size < w9.heap.size := by omega
            have lw9_4 : w5.heap.size < w9.heap.size := by omega
            have lw9_5 : w6.heap.size < w9.heap.size := by omega
            have lw9_6 : w7.heap.size < w9.heap.size := by omega
            have lw9_7 : w8.heap.size < w9.heap.size := by omega
            go_wp2_with fail
            refine (same_true hR (SB.stepAt rw9_t (by go_grown)) (SB.stepAt rw9_g (by go_grown))).mono ?_
            rintro e w10 ⟨rfl, hb⟩
            have nw10 : Below w9.heap.size w9 w10 := Below.step (by go_grown) hb
            have sw10 : w9.heap.size ≤ w10.heap.size := nw10.size
            have cw10_0_0 := (nw10.cell (p := ⟨w1.heap.size, 0, none⟩) (by show w1.heap.size < w9.heap.size; omega)).trans cw9_0_0
            have cw10_1_0 := (nw10.cell (p := ⟨w1.heap.size + 1, 0, none⟩) (by show w1.heap.size + 1 < w9.heap.size; omega)).trans cw9_1_0
            have cw10_2_0 := (nw10.cell (p := ⟨w2.heap.size, 0, none⟩) (by show w2.heap.size < w9.heap.size; omega)).trans cw9_2_0
            have cw10_3_0 := (nw10.cell (p := ⟨w3.heap.size, 0, none⟩) (by show w3.heap.size < w9.heap.size; omega)).trans cw9_3_0
            have cw10_4_0 := (nw10.cell (p := ⟨w5.heap.size, 0, none⟩) (by show w5.heap.size < w9.heap.size; omega)).trans cw9_4_0
            have cw10_5_0 := (nw10.cell (p := ⟨w6.heap.size, 0, none⟩) (by show w6.heap.size < w9.heap.size; omega)).trans cw9_5_0
            have cw10_6_0 := (nw10.cell (p := ⟨w7.heap.size, 0, none⟩) (by show w7.heap.size < w9.heap.size; omega)).trans cw9_6_0
            have cw10_7_0 := (nw10.cell (p := ⟨w8.heap.size, 0, none⟩) (by show w8.heap.size < w9.heap.size; omega)).trans cw9_7_0
            have rw10_A := SB.step rw9_A (by go_grown) hb
            have rw10_B := SB.step rw9_B (by go_grown) hb
            have rw10_g := SB.step rw9_g (by go_grown) hb
            have rw10_h := SB.step rw9_h (by go_grown) hb
            have rw10_x := SB.step rw9_x (by go_grown) hb
            have rw10_y := SB.step rw9_y (by go_grown) hb
            have rw10_n := SB.step rw9_n (by go_grown) hb
            have rw10_t := SB.step rw9_t (by go_grown) hb
            have bw10 := bw9.trans (nw10.mono bw9.size)
            clear cw9_0_0 cw9_1_0 cw9_2_0 cw9_3_0 cw9_4_0 cw9_5_0 cw9_6_0 cw9_7_0 rw9_A rw9_B rw9_g rw9_h rw9_x rw9_y rw9_n rw9_t bw9 lw9_0 lw9_1 lw9_2 lw9_3 lw9_4 lw9_5 lw9_6 lw9_7 nw10 hb
            have lw10_0 : w1.heap.size < w10.heap.size := by omega
            have lw10_1 : w1.heap.size + 1 < w10.heap.size := by omega
            have lw10_2 : w2.heap.size < w10.heap.size := by omega
            have lw10_3 : w3.heap.size < w10.heap.size := by omega
            have lw10_4 : w5.heap.size < w10.heap.size := by omega
            have lw10_5 : w6.heap.size < w10.heap.size := by omega
            have lw10_6 : w7.heap.size < w10.heap.size := by omega
            have lw10_7 : w8.heap.size < w10.heap.size := by omega
            go_wp2_with fail
            go_ret
            exact ⟨rfl, bw10.trans ((show Below w10.heap.size w10 _ from by go_grown).mono bw10.size)⟩

set_option maxHeartbeats 1000000 in
theorem rangeOrP_long (a : Option Addr) (len cap : Nat) (w : World) (hl : 1048576 < len) :
    Calls Try.prog 9 #[.slice a len cap] w fun e w' => e = .returned (.bool true) ∧ Below w.heap.size w w' := by
  go_enter Try.func9, Try.ntmps9
  go_wp2
  go_ret
  exact ⟨rfl, Below.refl _ _⟩

theorem rangeOrP_walk (a : Option Addr) (len cap : Nat) (w : World) (h : CodeIn w a len cap) :
    Calls Try.prog 9 #[.slice a len cap] w fun e w' => e = .returned (.bool true) ∧ Below w.heap.size w w' := by
  by_cases hl : len ≤ 1048576
  · exact rangeOrP_short a len cap w h hl
  · exact rangeOrP_long a len cap w (by omega)

theorem rangeOrP_holds : Rows.FnRangeOrSaid :=
  OpenClaim.holds_of_wide 9 Try.f9 rfl rfl rfl rfl rfl rfl rfl ⟨rfl, rfl, rfl, rfl, rfl⟩ rfl rfl rfl rfl rfl (by kernel_rfl) Try.func9 (by kernel_rfl)
    (of_decide_eq_true (by kernel_rfl)) (by unfold Func.isWrapper; rw [if_neg (by decide +kernel)]; exact ⟨rfl, rfl⟩)
    (fun os started H enc _ => law_lifted (s := Rows.fnRangeOrSpec) (tb := 4) own started laid (by kernel_rfl) Try.func9 rfl (by kernel_rfl) Try.underlying4 (by kernel_rfl)
      (fun ds h => by rw [Try.params9] at h; match ds, h with | [_], _ => rfl)
      (ChangeSpec.witness6 (enc := enc) (C := Try.checked) false ⟨#[], #[.slice none 0 0], []⟩ 8 (by kernel_rfl) (by kernel_rfl) (by kernel_rfl) (by kernel_rfl))
      (law_code Try.params9 rangeOrP_walk))
#print axioms rangeOrP_holds

end Go.Proofs.Ytflmljgmmcdniaa

/- At every code the law FnRangeLaw returns true: laying ranges together and cutting them go over each other: what comes of it is the same range in either way, and a version is in it just if it is in the first or the second, and in the third. No condition. -/
import Derived.Test.YtflmljgmmcdniaaSame
import Derived.Test.YtflmljgmmcdniaaRlaw
import Derived.Test.YtflmljgmmcdniaaImand2
import Derived.Test.YtflmljgmmcdniaaImor2
import Derived.Test.YtflmljgmmcdniaaSpand
import Derived.Test.YtflmljgmmcdniaaSpor
import Derived.Test.YtflmljgmmcdniaaHas
import Derived.Test.YtflmljgmmcdniaaStp
import Derived.Test.YtflmljgmmcdniaaSb
import Derived.Test.YtflmljgmmcdniaaDdraw
import Derived.Test.YtflmljgmmcdniaaPsm
import Derived.Test.YtflmljgmmcdniaaDrngl
import Derived.Deep.RegionHeld3
namespace Go.Proofs.Ytflmljgmmcdniaa
open Go.ChangeShapes Go.WideShapes Go.ChangeAt Go.RowKit Go.Joins Go.Sort

set_option maxRecDepth 100000 in
set_option maxHeartbeats 8000000 in
theorem rangeLawP_short (a : Option Addr) (len cap : Nat) (w : World) (h : CodeIn w a len cap) (hl : len ≤ 1048576) :
    Calls Try.prog 10 #[.slice a len cap] w fun e w' => e = .returned (.bool true) ∧ Below w.heap.size w w' := by
  go_enter Try.func10, Try.ntmps10
  go_wp2_with fail
  refine (DrawRangeLaw_any a len cap w h).mono ?_
  rintro e w1 ⟨A, B, C, u0, u1, u2, va, vb, vc, vd, rfl, q0, q1, q2, hA41, hB41, hC41, b1⟩
  obtain ⟨d0, e0, rfl, _⟩ := id q0
  have rA := (q0.mono (Nat.zero_le _)).sb
  obtain ⟨d1, e1, rfl, _⟩ := id q1
  have rB := (q1.mono (Nat.zero_le _)).sb
  obtain ⟨d2, e2, rfl, _⟩ := id q2
  have rC := (q2.mono (Nat.zero_le _)).sb
  have hA : A.length ≤ 1048576 := by omega
  have hB : B.length ≤ 1048576 := by omega
  have hC : C.length ≤ 1048576 := by omega
  have z1 := b1.size
  clear h q0 q1 q2 hA41 hB41 hC41
  have h1 : (orR A B).length ≤ 1048576 := orR_len _ _
  have h2 : (andR (orR A B) C).length ≤ 1048576 := andR_len _ _
  have h3 : (andR A C).length ≤ 1048576 := andR_len _ _
  have h4 : (andR B C).length ≤ 1048576 := andR_len _ _
  have h5 : (orR (andR A C) (andR B C)).length ≤ 1048576 := orR_len _ _
  have K1 : Hid (∀ V u v, SpAt V V.heap.size u A → SpAt V V.heap.size v B → Calls Try.prog 22 #[.agg #[u], .agg #[v]] V (TPost (orOk A B) (orR A B) V)) := Lib.hid fun V u v h h' => implOr_any u v A B V hA hB h h'
  have K2 : Hid (∀ V u v, SpAt V V.heap.size u (orR A B) → SpAt V V.heap.size v C → Calls Try.prog 17 #[.agg #[u], .agg #[v]] V (TPost (andOk (orR A B) C) (andR (orR A B) C) V)) := Lib.hid fun V u v h h' => implAnd_any u v (orR A B) C V h1 hC h h'
  have K3 : Hid (∀ V u v, SpAt V V.heap.size u A → SpAt V V.heap.size v C → Calls Try.prog 17 #[.agg #[u], .agg #[v]] V (TPost (andOk A C) (andR A C) V)) := Lib.hid fun V u v h h' => implAnd_any u v A C V hA hC h h'
  have K4 : Hid (∀ V u v, SpAt V V.heap.size u B → SpAt V V.heap.size v C → Calls Try.prog 17 #[.agg #[u], .agg #[v]] V (TPost (andOk B C) (andR B C) V)) := Lib.hid fun V u v h h' => implAnd_any u v B C V hB hC h h'
  have K5 : Hid (∀ V u v, SpAt V V.heap.size u (andR A C) → SpAt V V.heap.size v (andR B C) → Calls Try.prog 22 #[.agg #[u], .agg #[v]] V (TPost (orOk (andR A C) (andR B C)) (orR (andR A C) (andR B C)) V)) := Lib.hid fun V u v h h' => implOr_any u v (andR A C) (andR B C) V h3 h4 h h'
  have HF := Lib.hid (@law_facts A B C)
  generalize orOk (andR A C) (andR B C) = o5 at *
  generalize andOk B C = o4 at *
  generalize andOk A C = o3 at *
  generalize andOk (orR A B) C = o2 at *
  generalize orOk A B = o1 at *
  generalize orR (andR A C) (andR B C) = R5 at *
  generalize andR B C = R4 at *
  generalize andR A C = R3 at *
  generalize andR (orR A B) C = R2 at *
  generalize orR A B = R1 at *
  go_wp2_with fail
  refine (K1.out _ _ _ (SB.stepAt rA (by go_grown)) (SB.stepAt rB (by go_grown))).mono ?_
  rintro e w2 ⟨u2, rfl, q2, hb⟩
  obtain ⟨a2, k2, rfl, _⟩ := id q2
  have rw2_1 := (q2.mono (Nat.zero_le _)).sb
  clear q2
  have nw2 : Below w1.heap.size w1 w2 := Below.step (by go_grown) hb
  have sw2 : w1.heap.size + 4 ≤ w2.heap.size := by have := hb.size; simp at this; omega
  have cw2_0_0 : w2.cell? ⟨w1.heap.size, 0, none⟩ = some (.slice d0 A.length e0) := (hb.cell (p := ⟨w1.heap.size, 0, none⟩) (by first | (simp; done) | (simp; omega))).trans (by go_simp)
  have cw2_1_0 : w2.cell? ⟨w1.heap.size + 1, 0, none⟩ = some (.slice d1 B.length e1) := (hb.cell (p := ⟨w1.heap.size + 1, 0, none⟩) (by first | (simp; done) | (simp; omega))).trans (by go_simp)
  have cw2_2_0 : w2.cell? ⟨w1.heap.size + 1 + 1, 0, none⟩ = some (.slice d2 C.length e2) := (hb.cell (p := ⟨w1.heap.size + 1 + 1, 0, none⟩) (by first | (simp; done) | (simp; omega))).trans (by go_simp)
  have cw2_3_0 : w2.cell? ⟨w1.heap.size + 1 + 1 + 1, 0, none⟩ = some (.int .i64 va) := (hb.cell (p := ⟨w1.heap.size + 1 + 1 + 1, 0, none⟩) (by first | (simp; done) | (simp; omega))).trans (by go_simp)
  have cw2_3_1 : w2.cell? ⟨w1.heap.size + 1 + 1 + 1, 1, none⟩ = some (.int .i64 vb) := (hb.cell (p := ⟨w1.heap.size + 1 + 1 + 1, 1, none⟩) (by first | (simp; done) | (simp; omega))).trans (by go_simp)
  have cw2_3_2 : w2.cell? ⟨w1.heap.size + 1 + 1 + 1, 2, none⟩ = some (.int .i64 vc) := (hb.cell (p := ⟨w1.heap.size + 1 + 1 + 1, 2, none⟩) (by first | (simp; done) | (simp; omega))).trans (by go_simp)
  have cw2_3_3 : w2.cell? ⟨w1.heap.size + 1 + 1 + 1, 3, none⟩ = some (.int .i64 vd) := (hb.cell (p := ⟨w1.heap.size + 1 + 1 + 1, 3, none⟩) (by first | (simp; done) | (simp; omega))).trans (by go_simp)
  have rw2_A := SB.step rA (by go_grown) hb
  have rw2_B := SB.step rB (by go_grown) hb
  have rw2_C := SB.step rC (by go_grown) hb
  have bw2 := b1.trans (nw2.mono b1.size)
  clear rA rB rC b1 nw2 hb
  have lw2_0 : w1.heap.size < w2.heap.size := by omega
  have lw2_1 : w1.heap.size + 1 < w2.heap.size := by omega
  have lw2_2 : w1.heap.size + 1 + 1 < w2.heap.size := by omega
  have lw2_3 : w1.heap.size + 1 + 1 + 1 < w2.heap.size := by omega
  go_wp2_with fail
  refine (K2.out _ _ _ (SB.stepAt rw2_1 (by go_grown)) (SB.stepAt rw2_C (by go_grown))).mono ?_
  rintro e w3 ⟨u3, rfl, q3, hb⟩
  obtain ⟨a3, k3, rfl, _⟩ := id q3
  have rw3_2 := (q3.mono (Nat.zero_le _)).sb
  clear q3
  have nw3 : Below w2.heap.size w2 w3 := Below.step (by go_grown) hb
  have sw3 : w2.heap.size + 1 ≤ w3.heap.size := by have := hb.size; simp at this; omega
  have cw3_0_0 := (nw3.cell (p := ⟨w1.heap.size, 0, none⟩) (by show w1.heap.size < w2.heap.size; omega)).trans cw2_0_0
  have cw3_1_0 := (nw3.cell (p := ⟨w1.heap.size + 1, 0, none⟩) (by show w1.heap.size + 1 < w2.heap.size; omega)).trans cw2_1_0
  have cw3_2_0 := (nw3.cell (p := ⟨w1.heap.size + 1 + 1, 0, none⟩) (by show w1.heap.size + 1 + 1 < w2.heap.size; omega)).trans cw2_2_0
  have cw3_3_0 := (nw3.cell (p := ⟨w1.heap.size + 1 + 1 + 1, 0, none⟩) (by show w1.heap.size + 1 + 1 + 1 < w2.heap.size; omega)).trans cw2_3_0
  have cw3_3_1 := (nw3.cell (p := ⟨w1.heap.size + 1 + 1 + 1, 1, none⟩) (by show w1.heap.size + 1 + 1 + 1 < w2.heap.size; omega)).trans cw2_3_1
  have cw3_3_2 := (nw3.cell (p := ⟨w1.heap.size + 1 + 1 + 1, 2, none⟩) (by show w1.heap.size + 1 + 1 + 1 < w2.heap.size; omega)).trans cw2_3_2
  have cw3_3_3 := (nw3.cell (p := ⟨w1.heap.size + 1 + 1 + 1, 3, none⟩) (by show w1.heap.size + 1 + 1 + 1 < w2.heap.size; omega)).trans cw2_3_3
  have cw3_4_0 : w3.cell? ⟨w2.heap.size, 0, none⟩ = some (.slice a2 (R1 : Sps).length k2) := (hb.cell (p := ⟨w2.heap.size, 0, none⟩) (by first | (simp; done) | (simp; omega))).trans (by go_simp)
  have rw3_A := SB.step rw2_A (by go_grown) hb
  have rw3_B := SB.step rw2_B (by go_grown) hb
  have rw3_C := SB.step rw2_C (by go_grown) hb
  have rw3_1 := SB.step rw2_1 (by go_grown) hb
  have bw3 := bw2.trans (nw3.mono bw2.size)
  clear cw2_0_0 cw2_1_0 cw2_2_0 cw2_3_0 cw2_3_1 cw2_3_2 cw2_3_3 rw2_A rw2_B rw2_C rw2_1 bw2 lw2_0 lw2_1 lw2_2 lw2_3 nw3 hb
  have lw3_0 : w1.heap.size < w3.heap.size := by omega
  have lw3_1 : w1.heap.size + 1 < w3.heap.size := by omega
  have lw3_2 : w1.heap.size + 1 + 1 < w3.heap.size := by omega
  have lw3_3 : w1.heap.size + 1 + 1 + 1 < w3.heap.size := by omega
  have lw3_4 : w2.heap.size < w3.heap.size := by omega
  go_wp2_with fail
  refine (K3.out _ _ _ (SB.stepAt rw3_A (by go_grown)) (SB.stepAt rw3_C (by go_grown))).mono ?_
  rintro e w4 ⟨u4, rfl, q4, hb⟩
  obtain ⟨a4, k4, rfl, _⟩ := id q4
  have rw4_3 := (q4.mono (Nat.zero_le _)).sb
  clear q4
  have nw4 : Below w3.heap.size w3 w4 := Below.step (by go_grown) hb
  have sw4 : w3.heap.size + 1 ≤ w4.heap.size := by have := hb.size; simp at this; omega
  have cw4_0_0 := (nw4.cell (p := ⟨w1.heap.size, 0, none⟩) (by show w1.heap.size < w3.heap.size; omega)).trans cw3_0_0
  have cw4_1_0 := (nw4.cell (p := ⟨w1.heap.size + 1, 0, none⟩) (by show w1.heap.size + 1 < w3.heap.size; omega)).trans cw3_1_0
  have cw4_2_0 := (nw4.cell (p := ⟨w1.heap.size + 1 + 1, 0, none⟩) (by show w1.heap.size + 1 + 1 < w3.heap.size; omega)).trans cw3_2_0
  have cw4_3_0 := (nw4.cell (p := ⟨w1.heap.size + 1 + 1 + 1, 0, none⟩) (by show w1.heap.size + 1 + 1 + 1 < w3.heap.size; omega)).trans cw3_3_0
  have cw4_3_1 := (nw4.cell (p := ⟨w1.heap.size + 1 + 1 + 1, 1, none⟩) (by show w1.heap.size + 1 + 1 + 1 < w3.heap.size; omega)).trans cw3_3_1
  have cw4_3_2 := (nw4.cell (p := ⟨w1.heap.size + 1 + 1 + 1, 2, none⟩) (by show w1.heap.size + 1 + 1 + 1 < w3.heap.size; omega)).trans cw3_3_2
  have cw4_3_3 := (nw4.cell (p := ⟨w1.heap.size + 1 + 1 + 1, 3, none⟩) (by show w1.heap.size + 1 + 1 + 1 < w3.heap.size; omega)).trans cw3_3_3
  have cw4_4_0 := (nw4.cell (p := ⟨w2.heap.size, 0, none⟩) (by show w2.heap.size < w3.heap.size; omega)).trans cw3_4_0
  have cw4_5_0 : w4.cell? ⟨w3.heap.size, 0, none⟩ = some (.slice a3 (R2 : Sps).length k3) := (hb.cell (p := ⟨w3.heap.size, 0, none⟩) (by first | (simp; done) | (simp; omega))).trans (by go_simp)
  have rw4_A := SB.step rw3_A (by go_grown) hb
  have rw4_B := SB.step rw3_B (by go_grown) hb
  have rw4_C := SB.step rw3_C (by go_grown) hb
  have rw4_1 := SB.step rw3_1 (by go_grown) hb
  have rw4_2 := SB.step rw3_2 (by go_grown) hb
  have bw4 := bw3.trans (nw4.mono bw3.size)
  clear cw3_0_0 cw3_1_0 cw3_2_0 cw3_3_0 cw3_3_1 cw3_3_2 cw3_3_3 cw3_4_0 rw3_A rw3_B rw3_C rw3_1 rw3_2 bw3 lw3_0 lw3_1 lw3_2 lw3_3 lw3_4 nw4 hb
  have lw4_0 : w1.heap.size < w4.heap.size := by omega
  have lw4_1 : w1.heap.size + 1 < w4.heap.size := by omega
  have lw4_2 : w1.heap.size + 1 + 1 < w4.heap.size := by omega
  have lw4_3 : w1.heap.size + 1 + 1 + 1 < w4.heap.size := by omega
  have lw4_4 : w2.heap.size < w4.heap.size := by omega
  have lw4_5 : w3.heap.size < w4.heap.size := by omega
  go_wp2_with fail
  refine (K4.out _ _ _ (SB.stepAt rw4_B (by go_grown)) (SB.stepAt rw4_C (by go_grown))).mono ?_
  rintro e w5 ⟨u5, rfl, q5, hb⟩
  obtain ⟨a5, k5, rfl, _⟩ := id q5
  have rw5_4 := (q5.mono (Nat.zero_le _)).sb
  clear q5
  have nw5 : Below w4.heap.size w4 w5 := Below.step (by go_grown) hb
  have sw5 : w4.heap.size + 1 ≤ w5.heap.size := by have := hb.size; simp at this; omega
  have cw5_0_0 := (nw5.cell (p := ⟨w1.heap.size, 0, none⟩) (by show w1.heap.size < w4.heap.size; omega)).trans cw4_0_0
  have cw5_1_0 := (nw5.cell (p := ⟨w1.heap.size + 1, 0, none⟩) (by show w1.heap.size + 1 < w4.heap.size; omega)).trans cw4_1_0
  have cw5_2_0 := (nw5.cell (p := ⟨w1.heap.size + 1 + 1, 0, none⟩) (by show w1.heap.size + 1 + 1 < w4.heap.size; omega)).trans cw4_2_0
  have cw5_3_0 := (nw5.cell (p := ⟨w1.heap.size + 1 + 1 + 1, 0, none⟩) (by show w1.heap.size + 1 + 1 + 1 < w4.heap.size; omega)).trans cw4_3_0
  have cw5_3_1 := (nw5.cell (p := ⟨w1.heap.size + 1 + 1 + 1, 1, none⟩) (by show w1.heap.size + 1 + 1 + 1 < w4.heap.size; omega)).trans cw4_3_1
  have cw5_3_2 := (nw5.cell (p := ⟨w1.heap.size + 1 + 1 + 1, 2, none⟩) (by show w1.heap.size + 1 + 1 + 1 < w4.heap.size; omega)).trans cw4_3_2
  have cw5_3_3 := (nw5.cell (p := ⟨w1.heap.size + 1 + 1 + 1, 3, none⟩) (by show w1.heap.size + 1 + 1 + 1 < w4.heap.size; omega)).trans cw4_3_3
  have cw5_4_0 := (nw5.cell (p := ⟨w2.heap.size, 0, none⟩) (by show w2.heap.size < w4.heap.size; omega)).trans cw4_4_0
  have cw5_5_0 := (nw5.cell (p := ⟨w3.heap.size, 0, none⟩) (by show w3.heap.size < w4.heap.size; omega)).trans cw4_5_0
  have cw5_6_0 : w5.cell? ⟨w4.heap.size, 0, none⟩ = some (.slice a4 (R3 : Sps).length k4) := (hb.cell (p := ⟨w4.heap.size, 0, none⟩) (by first | (simp; done) | (simp; omega))).trans (by go_simp)
  have rw5_A := SB.step rw4_A (by go_grown) hb
  have rw5_B := SB.step rw4_B (by go_grown) hb
  have rw5_C := SB.step rw4_C (by go_grown) hb
  have rw5_1 := SB.step rw4_1 (by go_grown) hb
  have rw5_2 := SB.step rw4_2 (by go_grown) hb
  have rw5_3 := SB.step rw4_3 (by go_grown) hb
  have bw5 := bw4.trans (nw5.mono bw4.size)
  clear cw4_0_0 cw4_1_0 cw4_2_0 cw4_3_0 cw4_3_1 cw4_3_2 cw4_3_3 cw4_4_0 cw4_5_0 rw4_A rw4_B rw4_C rw4_1 rw4_2 rw4_3 bw4 lw4_0 lw4_1 lw4_2 lw4_3 lw4_4 lw4_5 nw5 hb
  have lw5_0 : w1.heap.size < w5.heap.size := by omega
  have lw5_1 : w1.heap.size + 1 < w5.heap.size := by omega
  have lw5_2 : w1.heap.size + 1 + 1 < w5.heap.size := by omega
  have lw5_3 : w1.heap.size + 1 + 1 + 1 < w5.heap.size := by omega
  have lw5_4 : w2.heap.size < w5.heap.size := by omega
  have lw5_5 : w3.heap.size < w5.heap.size := by omega
  have lw5_6 : w4.heap.size < w5.heap.size := by omega
  go_wp2_with fail
  refine (K5.out _ _ _ (SB.stepAt rw5_3 (by go_grown)) (SB.stepAt rw5_4 (by go_grown))).mono ?_
  rintro e w6 ⟨u6, rfl, q6, hb⟩
  obtain ⟨a6, k6, rfl, _⟩ := id q6
  have rw6_5 := (q6.mono (Nat.zero_le _)).sb
  clear q6
  have nw6 : Below w5.heap.size w5 w6 := Below.step (by go_grown) hb
  have sw6 : w5.heap.size + 1 ≤ w6.heap.size := by have := hb.size; simp at this; omega
  have cw6_0_0 := (nw6.cell (p := ⟨w1.heap.size, 0, none⟩) (by show w1.heap.size < w5.heap.size; omega)).trans cw5_0_0
  have cw6_1_0 := (nw6.cell (p := ⟨w1.heap.size + 1, 0, none⟩) (by show w1.heap.size + 1 < w5.heap.size; omega)).trans cw5_1_0
  have cw6_2_0 := (nw6.cell (p := ⟨w1.heap.size + 1 + 1, 0, none⟩) (by show w1.heap.size + 1 + 1 < w5.heap.size; omega)).trans cw5_2_0
  have cw6_3_0 := (nw6.cell (p := ⟨w1.heap.size + 1 + 1 + 1, 0, none⟩) (by show w1.heap.size + 1 + 1 + 1 < w5.heap.size; omega)).trans cw5_3_0
  have cw6_3_1 := (nw6.cell (p := ⟨w1.heap.size + 1 + 1 + 1, 1, none⟩) (by show w1.heap.size + 1 + 1 + 1 < w5.heap.size; omega)).trans cw5_3_1
  have cw6_3_2 := (nw6.cell (p := ⟨w1.heap.size + 1 + 1 + 1, 2, none⟩) (by show w1.heap.size + 1 + 1 + 1 < w5.heap.size; omega)).trans cw5_3_2
  have cw6_3_3 := (nw6.cell (p := ⟨w1.heap.size + 1 + 1 + 1, 3, none⟩) (by show w1.heap.size + 1 + 1 + 1 < w5.heap.size; omega)).trans cw5_3_3
  have cw6_4_0 := (nw6.cell (p := ⟨w2.heap.size, 0, none⟩) (by show w2.heap.size < w5.heap.size; omega)).trans cw5_4_0
  have cw6_5_0 := (nw6.cell (p := ⟨w3.heap.size, 0, none⟩) (by show w3.heap.size < w5.heap.size; omega)).trans cw5_5_0
  have cw6_6_0 := (nw6.cell (p := ⟨w4.heap.size, 0, none⟩) (by show w4.heap.size < w5.heap.size; omega)).trans cw5_6_0
  have cw6_7_0 : w6.cell? ⟨w5.heap.size, 0, none⟩ = some (.slice a5 (R4 : Sps).length k5) := (hb.cell (p := ⟨w5.heap.size, 0, none⟩) (by first | (simp; done) | (simp; omega))).trans (by go_simp)
  have rw6_A := SB.step rw5_A (by go_grown) hb
  have rw6_B := SB.step rw5_B (by go_grown) hb
  have rw6_C := SB.step rw5_C (by go_grown) hb
  have rw6_1 := SB.step rw5_1 (by go_grown) hb
  have rw6_2 := SB.step rw5_2 (by go_grown) hb
  have rw6_3 := SB.step rw5_3 (by go_grown) hb
  have rw6_4 := SB.step rw5_4 (by go_grown) hb
  have bw6 := bw5.trans (nw6.mono bw5.size)
  clear cw5_0_0 cw5_1_0 cw5_2_0 cw5_3_0 cw5_3_1 cw5_3_2 cw5_3_3 cw5_4_0 cw5_5_0 cw5_6_0 rw5_A rw5_B rw5_C rw5_1 rw5_2 rw5_3 rw5_4 bw5 lw5_0 lw5_1 lw5_2 lw5_3 lw5_4 lw5_5 lw5_6 nw6 hb
  have lw6_0 : w1.heap.size < w6.heap.size := by omega
  have lw6_1 : w1.heap.size + 1 < w6.heap.size := by omega
  have lw6_2 : w1.heap.size + 1 + 1 < w6.heap.size := by omega
  have lw6_3 : w1.heap.size + 1 + 1 + 1 < w6.heap.size := by omega
  have lw6_4 : w2.heap.size < w6.heap.size := by omega
  have lw6_5 : w3.heap.size < w6.heap.size := by omega
  have lw6_6 : w4.heap.size < w6.heap.size := by omega
  have lw6_7 : w5.heap.size < w6.heap.size := by omega
  cases o1
  · clear HF
    go_wp2_with fail
    refine (alive_any _).mono ?_
    rintro e w7 ⟨rfl, hb⟩
    have nw7 : Below w6.heap.size w6 w7 := Below.step (by go_grown) hb
    have sw7 : w6.heap.size + 1 ≤ w7.heap.size := by have := hb.size; simp at this; omega
    have cw7_0_0 := (nw7.cell (p := ⟨w1.heap.size, 0, none⟩) (by show w1.heap.size < w6.heap.size; omega)).trans cw6_0_0
    have cw7_1_0 := (nw7.cell (p := ⟨w1.heap.size + 1, 0, none⟩) (by show w1.heap.size + 1 < w6.heap.size; omega)).trans cw6_1_0
    have cw7_2_0 := (nw7.cell (p := ⟨w1.heap.size + 1 + 1, 0, none⟩) (by show w1.heap.size + 1 + 1 < w6.heap.size; omega)).trans cw6_2_0
    have cw7_3_0 := (nw7.cell (p := ⟨w1.heap.size + 1 + 1 + 1, 0, none⟩) (by show w1.heap.size + 1 + 1 + 1 < w6.heap.size; omega)).trans cw6_3_0
    have cw7_3_1 := (nw7.cell (p := ⟨w1.heap.size + 1 + 1 + 1, 1, none⟩) (by show w1.heap.size + 1 + 1 + 1 < w6.heap.size; omega)).trans cw6_3_1
    have cw7_3_2 := (nw7.cell (p := ⟨w1.heap.size + 1 + 1 + 1, 2, none⟩) (by show w1.heap.size + 1 + 1 + 1 < w6.heap.size; omega)).trans cw6_3_2
    have cw7_3_3 := (nw7.cell (p := ⟨w1.heap.size + 1 + 1 + 1, 3, none⟩) (by show w1.heap.size + 1 + 1 + 1 < w6.heap.size; omega)).trans cw6_3_3
    have cw7_4_0 := (nw7.cell (p := ⟨w2.heap.size, 0, none⟩) (by show w2.heap.size < w6.heap.size; omega)).trans cw6_4_0
    have cw7_5_0 := (nw7.cell (p := ⟨w3.heap.size, 0, none⟩) (by show w3.heap.size < w6.heap.size; omega)).trans cw6_5_0
    have cw7_6_0 := (nw7.cell (p := ⟨w4.heap.size, 0, none⟩) (by show w4.heap.size < w6.heap.size; omega)).trans cw6_6_0
    have cw7_7_0 := (nw7.cell (p := ⟨w5.heap.size, 0, none⟩) (by show w5.heap.size < w6.heap.size; omega)).trans cw6_7_0
    have cw7_8_0 : w7.cell? ⟨w6.heap.size, 0, none⟩ = some (.slice a6 (R5 : Sps).length k6) := (hb.cell (p := ⟨w6.heap.size, 0, none⟩) (by first | (simp; done) | (simp; omega))).trans (by go_simp)
    have rw7_A := SB.step rw6_A (by go_grown) hb
    have rw7_B := SB.step rw6_B (by go_grown) hb
    have rw7_C := SB.step rw6_C (by go_grown) hb
    have rw7_1 := SB.step rw6_1 (by go_grown) hb
    have rw7_2 := SB.step rw6_2 (by go_grown) hb
    have rw7_3 := SB.step rw6_3 (by go_grown) hb
    have rw7_4 := SB.step rw6_4 (by go_grown) hb
    have rw7_5 := SB.step rw6_5 (by go_grown) hb
    have bw7 := bw6.trans (nw7.mono bw6.size)
    clear cw6_0_0 cw6_1_0 cw6_2_0 cw6_3_0 cw6_3_1 cw6_3_2 cw6_3_3 cw6_4_0 cw6_5_0 cw6_6_0 cw6_7_0 rw6_A rw6_B rw6_C rw6_1 rw6_2 rw6_3 rw6_4 rw6_5 bw6 lw6_0 lw6_1 lw6_2 lw6_3 lw6_4 lw6_5 lw6_6 lw6_7 nw7 hb
    have lw7_0 : w1.heap.size < w7.heap.size := by omega
    have lw7_1 : w1.heap.size + 1 < w7.heap.size := by omega
    have lw7_2 : w1.heap.size + 1 + 1 < w7.heap.size := by omega
    have lw7_3 : w1.heap.size + 1 + 1 + 1 < w7.heap.size := by omega
    have lw7_4 : w2.heap.size < w7.heap.size := by omega
    have lw7_5 : w3.heap.size < w7.heap.size := by omega
    have lw7_6 : w4.heap.size < w7.heap.size := by omega
    have lw7_7 : w5.heap.size < w7.heap.size := by omega
    have lw7_8 : w6.heap.size < w7.heap.size := by omega
    go_wp2_with fail
    go_ret
    exact ⟨rfl, bw7.trans ((show Below w7.heap.size w7 _ from by go_grown).mono bw7.size)⟩
  · skip
    cases o2
    · clear HF
      go_wp2_with fail
      refine (alive_any _).mono ?_
      rintro e w7 ⟨rfl, hb⟩
      have nw7 : Below w6.heap.size w6 w7 := Below.step (by go_grown) hb
      have sw7 : w6.heap.size + 1 ≤ w7.heap.size := by have := hb.size; simp at this; omega
      have cw7_0_0 := (nw7.cell (p := ⟨w1.heap.size, 0, none⟩) (by show w1.heap.size < w6.heap.size; omega)).trans cw6_0_0
      have cw7_1_0 := (nw7.cell (p := ⟨w1.heap.size + 1, 0, none⟩) (by show w1.heap.size + 1 < w6.heap.size; omega)).trans cw6_1_0
      have cw7_2_0 := (nw7.cell (p := ⟨w1.heap.size + 1 + 1, 0, none⟩) (by show w1.heap.size + 1 + 1 < w6.heap.size; omega)).trans cw6_2_0
      have cw7_3_0 := (nw7.cell (p := ⟨w1.heap.size + 1 + 1 + 1, 0, none⟩) (by show w1.heap.size + 1 + 1 + 1 < w6.heap.size; omega)).trans cw6_3_0
      have cw7_3_1 := (nw7.cell (p := ⟨w1.heap.size + 1 + 1 + 1, 1, none⟩) (by show w1.heap.size + 1 + 1 + 1 < w6.heap.size; omega)).trans cw6_3_1
      have cw7_3_2 := (nw7.cell (p := ⟨w1.heap.size + 1 + 1 + 1, 2, none⟩) (by show w1.heap.size + 1 + 1 + 1 < w6.heap.size; omega)).trans cw6_3_2
      have cw7_3_3 := (nw7.cell (p := ⟨w1.heap.size + 1 + 1 + 1, 3, none⟩) (by show w1.heap.size + 1 + 1 + 1 < w6.heap.size; omega)).trans cw6_3_3
      have cw7_4_0 := (nw7.cell (p := ⟨w2.heap.size, 0, none⟩) (by show w2.heap.size < w6.heap.size; omega)).trans cw6_4_0
      have cw7_5_0 := (nw7.cell (p := ⟨w3.heap.size, 0, none⟩) (by show w3.heap.size < w6.heap.size; omega)).trans cw6_5_0
      have cw7_6_0 := (nw7.cell (p := ⟨w4.heap.size, 0, none⟩) (by show w4.heap.size < w6.heap.size; omega)).trans cw6_6_0
      have cw7_7_0 := (nw7.cell (p := ⟨w5.heap.size, 0, none⟩) (by show w5.heap.size < w6.heap.size; omega)).trans cw6_7_0
      have cw7_8_0 : w7.cell? ⟨w6.heap.size, 0, none⟩ = some (.slice a6 (R5 : Sps).length k6) := (hb.cell (p := ⟨w6.heap.size, 0, none⟩) (by first | (simp; done) | (simp; omega))).trans (by go_simp)
      have rw7_A := SB.step rw6_A (by go_grown) hb
      have rw7_B := SB.step rw6_B (by go_grown) hb
      have rw7_C := SB.step rw6_C (by go_grown) hb
      have rw7_1 := SB.step rw6_1 (by go_grown) hb
      have rw7_2 := SB.step rw6_2 (by go_grown) hb
      have rw7_3 := SB.step rw6_3 (by go_grown) hb
      have rw7_4 := SB.step rw6_4 (by go_grown) hb
      have rw7_5 := SB.step rw6_5 (by go_grown) hb
      have bw7 := bw6.trans (nw7.mono bw6.size)
      clear cw6_0_0 cw6_1_0 cw6_2_0 cw6_3_0 cw6_3_1 cw6_3_2 cw6_3_3 cw6_4_0 cw6_5_0 cw6_6_0 cw6_7_0 rw6_A rw6_B rw6_C rw6_1 rw6_2 rw6_3 rw6_4 rw6_5 bw6 lw6_0 lw6_1 lw6_2 lw6_3 lw6_4 lw6_5 lw6_6 lw6_7 nw7 hb
      have lw7_0 : w1.heap.size < w7.heap.size := by omega
      have lw7_1 : w1.heap.size + 1 < w7.heap.size := by omega
      have lw7_2 : w1.heap.size + 1 + 1 < w7.heap.size := by omega
      have lw7_3 : w1.heap.size + 1 + 1 + 1 < w7.heap.size := by omega
      have lw7_4 : w2.heap.size < w7.heap.size := by omega
      have lw7_5 : w3.heap.size < w7.heap.size := by omega
      have lw7_6 : w4.heap.size < w7.heap.size := by omega
      have lw7_7 : w5.heap.size < w7.heap.size := by omega
      have lw7_8 : w6.heap.size < w7.heap.size := by omega
      go_wp2_with fail
      go_ret
      exact ⟨rfl, bw7.trans ((show Below w7.heap.size w7 _ from by go_grown).mono bw7.size)⟩
    · skip
      cases o3
      · clear HF
        go_wp2_with fail
        refine (alive_any _).mono ?_
        rintro e w7 ⟨rfl, hb⟩
        have nw7 : Below w6.heap.size w6 w7 := Below.step (by go_grown) hb
        have sw7 : w6.heap.size + 1 ≤ w7.heap.size := by have := hb.size; simp at this; omega
        have cw7_0_0 := (nw7.cell (p := ⟨w1.heap.size, 0, none⟩) (by show w1.heap.size < w6.heap.size; omega)).trans cw6_0_0
        have cw7_1_0 := (nw7.cell (p := ⟨w1.heap.size + 1, 0, none⟩) (by show w1.heap.size + 1 < w6.heap.size; omega)).trans cw6_1_0
        have cw7_2_0 := (nw7.cell (p := ⟨w1.heap.size + 1 + 1, 0, none⟩) (by show w1.heap.size + 1 + 1 < w6.heap.size; omega)).trans cw6_2_0
        have cw7_3_0 := (nw7.cell (p := ⟨w1.heap.size + 1 + 1 + 1, 0, none⟩) (by show w1.heap.size + 1 + 1 + 1 < w6.heap.size; omega)).trans cw6_3_0
        have cw7_3_1 := (nw7.cell (p := ⟨w1.heap.size + 1 + 1 + 1, 1, none⟩) (by show w1.heap.size + 1 + 1 + 1 < w6.heap.size; omega)).trans cw6_3_1
        have cw7_3_2 := (nw7.cell (p := ⟨w1.heap.size + 1 + 1 + 1, 2, none⟩) (by show w1.heap.size + 1 + 1 + 1 < w6.heap.size; omega)).trans cw6_3_2
        have cw7_3_3 := (nw7.cell (p := ⟨w1.heap.size + 1 + 1 + 1, 3, none⟩) (by show w1.heap.size + 1 + 1 + 1 < w6.heap.size; omega)).trans cw6_3_3
        have cw7_4_0 := (nw7.cell (p := ⟨w2.heap.size, 0, none⟩) (by show w2.heap.size < w6.heap.size; omega)).trans cw6_4_0
        have cw7_5_0 := (nw7.cell (p := ⟨w3.heap.size, 0, none⟩) (by show w3.heap.size < w6.heap.size; omega)).trans cw6_5_0
        have cw7_6_0 := (nw7.cell (p := ⟨w4.heap.size, 0, none⟩) (by show w4.heap.size < w6.heap.size; omega)).trans cw6_6_0
        have cw7_7_0 := (nw7.cell (p := ⟨w5.heap.size, 0, none⟩) (by show w5.heap.size < w6.heap.size; omega)).trans cw6_7_0
        have cw7_8_0 : w7.cell? ⟨w6.heap.size, 0, none⟩ = some (.slice a6 (R5 : Sps).length k6) := (hb.cell (p := ⟨w6.heap.size, 0, none⟩) (by first | (simp; done) | (simp; omega))).trans (by go_simp)
        have rw7_A := SB.step rw6_A (by go_grown) hb
        have rw7_B := SB.step rw6_B (by go_grown) hb
        have rw7_C := SB.step rw6_C (by go_grown) hb
        have rw7_1 := SB.step rw6_1 (by go_grown) hb
        have rw7_2 := SB.step rw6_2 (by go_grown) hb
        have rw7_3 := SB.step rw6_3 (by go_grown) hb
        have rw7_4 := SB.step rw6_4 (by go_grown) hb
        have rw7_5 := SB.step rw6_5 (by go_grown) hb
        have bw7 := bw6.trans (nw7.mono bw6.size)
        clear cw6_0_0 cw6_1_0 cw6_2_0 cw6_3_0 cw6_3_1 cw6_3_2 cw6_3_3 cw6_4_0 cw6_5_0 cw6_6_0 cw6_7_0 rw6_A rw6_B rw6_C rw6_1 rw6_2 rw6_3 rw6_4 rw6_5 bw6 lw6_0 lw6_1 lw6_2 lw6_3 lw6_4 lw6_5 lw6_6 lw6_7 nw7 hb
        have lw7_0 : w1.heap.size < w7.heap.size := by omega
        have lw7_1 : w1.heap.size + 1 < w7.heap.size := by omega
        have lw7_2 : w1.heap.size + 1 + 1 < w7.heap.size := by omega
        have lw7_3 : w1.heap.size + 1 + 1 + 1 < w7.heap.size := by omega
        have lw7_4 : w2.heap.size < w7.heap.size := by omega
        have lw7_5 : w3.heap.size < w7.heap.size := by omega
        have lw7_6 : w4.heap.size < w7.heap.size := by omega
        have lw7_7 : w5.heap.size < w7.heap.size := by omega
        have lw7_8 : w6.heap.size < w7.heap.size := by omega
        go_wp2_with fail
        go_ret
        exact ⟨rfl, bw7.trans ((show Below w7.heap.size w7 _ from by go_grown).mono bw7.size)⟩
      · skip
        cases o4
        · clear HF
          go_wp2_with fail
          refine (alive_any _).mono ?_
          rintro e w7 ⟨rfl, hb⟩
          have nw7 : Below w6.heap.size w6 w7 := Below.step (by go_grown) hb
          have sw7 : w6.heap.size + 1 ≤ w7.heap.size := by have := hb.size; simp at this; omega
          have cw7_0_0 := (nw7.cell (p := ⟨w1.heap.size, 0, none⟩) (by show w1.heap.size < w6.heap.size; omega)).trans cw6_0_0
          have cw7_1_0 := (nw7.cell (p := ⟨w1.heap.size + 1, 0, none⟩) (by show w1.heap.size + 1 < w6.heap.size; omega)).trans cw6_1_0
          have cw7_2_0 := (nw7.cell (p := ⟨w1.heap.size + 1 + 1, 0, none⟩) (by show w1.heap.size + 1 + 1 < w6.heap.size; omega)).trans cw6_2_0
          have cw7_3_0 := (nw7.cell (p := ⟨w1.heap.size + 1 + 1 + 1, 0, none⟩) (by show w1.heap.size + 1 + 1 + 1 < w6.heap.size; omega)).trans cw6_3_0
          have cw7_3_1 := (nw7.cell (p := ⟨w1.heap.size + 1 + 1 + 1, 1, none⟩) (by show w1.heap.size + 1 + 1 + 1 < w6.heap.size; omega)).trans cw6_3_1
          have cw7_3_2 := (nw7.cell (p := ⟨w1.heap.size + 1 + 1 + 1, 2, none⟩) (by show w1.heap.size + 1 + 1 + 1 < w6.heap.size; omega)).trans cw6_3_2
          have cw7_3_3 := (nw7.cell (p := ⟨w1.heap.size + 1 + 1 + 1, 3, none⟩) (by show w1.heap.size + 1 + 1 + 1 < w6.heap.size; omega)).trans cw6_3_3
          have cw7_4_0 := (nw7.cell (p := ⟨w2.heap.size, 0, none⟩) (by show w2.heap.size < w6.heap.size; omega)).trans cw6_4_0
          have cw7_5_0 := (nw7.cell (p := ⟨w3.heap.size, 0, none⟩) (by show w3.heap.size < w6.heap.size; omega)).trans cw6_5_0
          have cw7_6_0 := (nw7.cell (p := ⟨w4.heap.size, 0, none⟩) (by show w4.heap.size < w6.heap.size; omega)).trans cw6_6_0
          have cw7_7_0 := (nw7.cell (p := ⟨w5.heap.size, 0, none⟩) (by show w5.heap.size < w6.heap.size; omega)).trans cw6_7_0
          have cw7_8_0 : w7.cell? ⟨w6.heap.size, 0, none⟩ = some (.slice a6 (R5 : Sps).length k6) := (hb.cell (p := ⟨w6.heap.size, 0, none⟩) (by first | (simp; done) | (simp; omega))).trans (by go_simp)
          have rw7_A := SB.step rw6_A (by go_grown) hb
          have rw7_B := SB.step rw6_B (by go_grown) hb
          have rw7_C := SB.step rw6_C (by go_grown) hb
          have rw7_1 := SB.step rw6_1 (by go_grown) hb
          have rw7_2 := SB.step rw6_2 (by go_grown) hb
          have rw7_3 := SB.step rw6_3 (by go_grown) hb
          have rw7_4 := SB.step rw6_4 (by go_grown) hb
          have rw7_5 := SB.step rw6_5 (by go_grown) hb
          have bw7 := bw6.trans (nw7.mono bw6.size)
          clear cw6_0_0 cw6_1_0 cw6_2_0 cw6_3_0 cw6_3_1 cw6_3_2 cw6_3_3 cw6_4_0 cw6_5_0 cw6_6_0 cw6_7_0 rw6_A rw6_B rw6_C rw6_1 rw6_2 rw6_3 rw6_4 rw6_5 bw6 lw6_0 lw6_1 lw6_2 lw6_3 lw6_4 lw6_5 lw6_6 lw6_7 nw7 hb
          have lw7_0 : w1.heap.size < w7.heap.size := by omega
          have lw7_1 : w1.heap.size + 1 < w7.heap.size := by omega
          have lw7_2 : w1.heap.size + 1 + 1 < w7.heap.size := by omega
          have lw7_3 : w1.heap.size + 1 + 1 + 1 < w7.heap.size := by omega
          have lw7_4 : w2.heap.size < w7.heap.size := by omega
          have lw7_5 : w3.heap.size < w7.heap.size := by omega
          have lw7_6 : w4.heap.size < w7.heap.size := by omega
          have lw7_7 : w5.heap.size < w7.heap.size := by omega
          have lw7_8 : w6.heap.size < w7.heap.size := by omega
          go_wp2_with fail
          go_ret
          exact ⟨rfl, bw7.trans ((show Below w7.heap.size w7 _ from by go_grown).mono bw7.size)⟩
        · skip
          cases o5
          · clear HF
            go_wp2_with fail
            refine (alive_any _).mono ?_
            rintro e w7 ⟨rfl, hb⟩
            have nw7 : Below w6.heap.size w6 w7 := Below.step (by go_grown) hb
            have sw7 : w6.heap.size + 1 ≤ w7.heap.size := by have := hb.size; simp at this; omega
            have cw7_0_0 := (nw7.cell (p := ⟨w1.heap.size, 0, none⟩) (by show w1.heap.size < w6.heap.size; omega)).trans cw6_0_0
            have cw7_1_0 := (nw7.cell (p := ⟨w1.heap.size + 1, 0, none⟩) (by show w1.heap.size + 1 < w6.heap.size; omega)).trans cw6_1_0
            have cw7_2_0 := (nw7.cell (p := ⟨w1.heap.size + 1 + 1, 0, none⟩) (by show w1.heap.size + 1 + 1 < w6.heap.size; omega)).trans cw6_2_0
            have cw7_3_0 := (nw7.cell (p := ⟨w1.heap.size + 1 + 1 + 1, 0, none⟩) (by show w1.heap.size + 1 + 1 + 1 < w6.heap.size; omega)).trans cw6_3_0
            have cw7_3_1 := (nw7.cell (p := ⟨w1.heap.size + 1 + 1 + 1, 1, none⟩) (by show w1.heap.size + 1 + 1 + 1 < w6.heap.size; omega)).trans cw6_3_1
            have cw7_3_2 := (nw7.cell (p := ⟨w1.heap.size + 1 + 1 + 1, 2, none⟩) (by show w1.heap.size + 1 + 1 + 1 < w6.heap.size; omega)).trans cw6_3_2
            have cw7_3_3 := (nw7.cell (p := ⟨w1.heap.size + 1 + 1 + 1, 3, none⟩) (by show w1.heap.size + 1 + 1 + 1 < w6.heap.size; omega)).trans cw6_3_3
            have cw7_4_0 := (nw7.cell (p := ⟨w2.heap.size, 0, none⟩) (by show w2.heap.size < w6.heap.size; omega)).trans cw6_4_0
            have cw7_5_0 := (nw7.cell (p := ⟨w3.heap.size, 0, none⟩) (by show w3.heap.size < w6.heap.size; omega)).trans cw6_5_0
            have cw7_6_0 := (nw7.cell (p := ⟨w4.heap.size, 0, none⟩) (by show w4.heap.size < w6.heap.size; omega)).trans cw6_6_0
            have cw7_7_0 := (nw7.cell (p := ⟨w5.heap.size, 0, none⟩) (by show w5.heap.size < w6.heap.size; omega)).trans cw6_7_0
            have cw7_8_0 : w7.cell? ⟨w6.heap.size, 0, none⟩ = some (.slice a6 (R5 : Sps).length k6) := (hb.cell (p := ⟨w6.heap.size, 0, none⟩) (by first | (simp; done) | (simp; omega))).trans (by go_simp)
            have rw7_A := SB.step rw6_A (by go_grown) hb
            have rw7_B := SB.step rw6_B (by go_grown) hb
            have rw7_C := SB.step rw6_C (by go_grown) hb
            have rw7_1 := SB.step rw6_1 (by go_grown) hb
            have rw7_2 := SB.step rw6_2 (by go_grown) hb
            have rw7_3 := SB.step rw6_3 (by go_grown) hb
            have rw7_4 := SB.step rw6_4 (by go_grown) hb
            have rw7_5 := SB.step rw6_5 (by go_grown) hb
            have bw7 := bw6.trans (nw7.mono bw6.size)
            clear cw6_0_0 cw6_1_0 cw6_2_0 cw6_3_0 cw6_3_1 cw6_3_2 cw6_3_3 cw6_4_0 cw6_5_0 cw6_6_0 cw6_7_0 rw6_A rw6_B rw6_C rw6_1 rw6_2 rw6_3 rw6_4 rw6_5 bw6 lw6_0 lw6_1 lw6_2 lw6_3 lw6_4 lw6_5 lw6_6 lw6_7 nw7 hb
            have lw7_0 : w1.heap.size < w7.heap.size := by omega
            have lw7_1 : w1.heap.size + 1 < w7.heap.size := by omega
            have lw7_2 : w1.heap.size + 1 + 1 < w7.heap.size := by omega
            have lw7_3 : w1.heap.size + 1 + 1 + 1 < w7.heap.size := by omega
            have lw7_4 : w2.heap.size < w7.heap.size := by omega
            have lw7_5 : w3.heap.size < w7.heap.size := by omega
            have lw7_6 : w4.heap.size < w7.heap.size := by omega
            have lw7_7 : w5.heap.size < w7.heap.size := by omega
            have lw7_8 : w6.heap.size < w7.heap.size := by omega
            go_wp2_with fail
            go_ret
            exact ⟨rfl, bw7.trans ((show Below w7.heap.size w7 _ from by go_grown).mono bw7.size)⟩
          · skip
            obtain ⟨he, hh⟩ := HF.out rfl rfl rfl rfl rfl
            subst he
            have hx := hh va vb vc vd
            clear HF hh K1 K2 K3 K4 K5
            have KHx : Hid (∀ V u, SpAt V V.heap.size u A → Calls Try.prog 30 #[.agg #[u], ver va vb vc vd] V fun e w' => e = .returned (.bool (hasL A va vb vc vd)) ∧ Below V.heap.size V w') := Lib.hid fun V u h => implHas_any u A va vb vc vd V hA h
            have KHy : Hid (∀ V u, SpAt V V.heap.size u B → Calls Try.prog 30 #[.agg #[u], ver va vb vc vd] V fun e w' => e = .returned (.bool (hasL B va vb vc vd)) ∧ Below V.heap.size V w') := Lib.hid fun V u h => implHas_any u B va vb vc vd V hB h
            have KHz : Hid (∀ V u, SpAt V V.heap.size u C → Calls Try.prog 30 #[.agg #[u], ver va vb vc vd] V fun e w' => e = .returned (.bool (hasL C va vb vc vd)) ∧ Below V.heap.size V w') := Lib.hid fun V u h => implHas_any u C va vb vc vd V hC h
            have KHr : Hid (∀ V u, SpAt V V.heap.size u R2 → Calls Try.prog 30 #[.agg #[u], ver va vb vc vd] V fun e w' => e = .returned (.bool (hasL R2 va vb vc vd)) ∧ Below V.heap.size V w') := Lib.hid fun V u h => implHas_any u R2 va vb vc vd V h2 h
            generalize hasL A va vb vc vd = x at *
            generalize hasL B va vb vc vd = y at *
            generalize hasL C va vb vc vd = z at *
            generalize hasL R2 va vb vc vd = r at *
            go_upto_region 11 with fail
            obtain ⟨w7, hw⟩ : ∃ V : World, V = w6.alloc (.cells #[.slice a6 (R2 : Sps).length k6] 28) := ⟨_, rfl⟩
            have hb : Below w6.heap.size w6 w7 := by
              rw [hw]
              exact (Below.refl _ _).alloc (Nat.le_refl _) _
            have cN : w7.cell? ⟨w6.heap.size, 0, none⟩ = some (.slice a6 (R2 : Sps).length k6) := by rw [hw]; go_simp
            have zN : w6.heap.size + 1 ≤ w7.heap.size := by rw [hw]; simp
            rw [← hw]
            clear hw
            have nw7 : Below w6.heap.size w6 w7 := Below.step (by go_grown) hb
            have sw7 : w6.heap.size ≤ w7.heap.size := nw7.size
            have cw7_0_0 := (nw7.cell (p := ⟨w1.heap.size, 0, none⟩) (by show w1.heap.size < w6.heap.size; omega)).trans cw6_0_0
            have cw7_1_0 := (nw7.cell (p := ⟨w1.heap.size + 1, 0, none⟩) (by show w1.heap.size + 1 < w6.heap.size; omega)).trans cw6_1_0
            have cw7_2_0 := (nw7.cell (p := ⟨w1.heap.size + 1 + 1, 0, none⟩) (by show w1.heap.size + 1 + 1 < w6.heap.size; omega)).trans cw6_2_0
            have cw7_3_0 := (nw7.cell (p := ⟨w1.heap.size + 1 + 1 + 1, 0, none⟩) (by show w1.heap.size + 1 + 1 + 1 < w6.heap.size; omega)).trans cw6_3_0
            have cw7_3_1 := (nw7.cell (p := ⟨w1.heap.size + 1 + 1 + 1, 1, none⟩) (by show w1.heap.size + 1 + 1 + 1 < w6.heap.size; omega)).trans cw6_3_1
            have cw7_3_2 := (nw7.cell (p := ⟨w1.heap.size + 1 + 1 + 1, 2, none⟩) (by show w1.heap.size + 1 + 1 + 1 < w6.heap.size; omega)).trans cw6_3_2
            have cw7_3_3 := (nw7.cell (p := ⟨w1.heap.size + 1 + 1 + 1, 3, none⟩) (by show w1.heap.size + 1 + 1 + 1 < w6.heap.size; omega)).trans cw6_3_3
            have cw7_4_0 := (nw7.cell (p := ⟨w2.heap.size, 0, none⟩) (by show w2.heap.size < w6.heap.size; omega)).trans cw6_4_0
            have cw7_5_0 := (nw7.cell (p := ⟨w3.heap.size, 0, none⟩) (by show w3.heap.size < w6.heap.size; omega)).trans cw6_5_0
            have cw7_6_0 := (nw7.cell (p := ⟨w4.heap.size, 0, none⟩) (by show w4.heap.size < w6.heap.size; omega)).trans cw6_6_0
            have cw7_7_0 := (nw7.cell (p := ⟨w5.heap.size, 0, none⟩) (by show w5.heap.size < w6.heap.size; omega)).trans cw6_7_0
            have rw7_A := SB.step rw6_A (by go_grown) hb
            have rw7_B := SB.step rw6_B (by go_grown) hb
            have rw7_C := SB.step rw6_C (by go_grown) hb
            have rw7_1 := SB.step rw6_1 (by go_grown) hb
            have rw7_2 := SB.step rw6_2 (by go_grown) hb
            have rw7_3 := SB.step rw6_3 (by go_grown) hb
            have rw7_4 := SB.step rw6_4 (by go_grown) hb
            have rw7_5 := SB.step rw6_5 (by go_grown) hb
            have bw7 := bw6.trans (nw7.mono bw6.size)
            clear cw6_0_0 cw6_1_0 cw6_2_0 cw6_3_0 cw6_3_1 cw6_3_2 cw6_3_3 cw6_4_0 cw6_5_0 cw6_6_0 cw6_7_0 rw6_A rw6_B rw6_C rw6_1 rw6_2 rw6_3 rw6_4 rw6_5 bw6 lw6_0 lw6_1 lw6_2 lw6_3 lw6_4 lw6_5 lw6_6 lw6_7 nw7 hb
            have lw7_0 : w1.heap.size < w7.heap.size := by omega
            have lw7_1 : w1.heap.size + 1 < w7.heap.size := by omega
            have lw7_2 : w1.heap.size + 1 + 1 < w7.heap.size := by omega
            have lw7_3 : w1.heap.size + 1 + 1 + 1 < w7.heap.size := by omega
            have lw7_4 : w2.heap.size < w7.heap.size := by omega
            have lw7_5 : w3.heap.size < w7.heap.size := by omega
            have lw7_6 : w4.heap.size < w7.heap.size := by omega
            have lw7_7 : w5.heap.size < w7.heap.size := by omega
            have lw7_8 : w6.heap.size < w7.heap.size := by omega
            go_cut [17, 18, 19] from 20 (fun s1 s2 s3 wx => s1 = .bool x ∧ s2 = .bool y ∧ s3 = .bool z ∧ Below w7.heap.size w7 wx)
            case first =>
              go_region_held3 (fun V => V.cell? ⟨w1.heap.size, 0, none⟩ = some (.slice d0 A.length e0) ∧ V.cell? ⟨w1.heap.size + 1, 0, none⟩ = some (.slice d1 B.length e1) ∧ V.cell? ⟨w1.heap.size + 1 + 1, 0, none⟩ = some (.slice d2 C.length e2) ∧ V.cell? ⟨w1.heap.size + 1 + 1 + 1, 0, none⟩ = some (.int .i64 va) ∧ V.cell? ⟨w1.heap.size + 1 + 1 + 1, 1, none⟩ = some (.int .i64 vb) ∧ V.cell? ⟨w1.heap.size + 1 + 1 + 1, 2, none⟩ = some (.int .i64 vc) ∧ V.cell? ⟨w1.heap.size + 1 + 1 + 1, 3, none⟩ = some (.int .i64 vd)) (go_keep)
      (first
      | (go_at_call_of 30 (Value.slice d0 A.length e0); refine (KHx.out _ _ (SB.stepAt rw7_A (by go_grown))).mono ?_; rintro e wv0 ⟨rfl, hb0⟩; have nn : Below w7.heap.size w7 wv0 := Below.step (by go_grown) hb0; have kwv0_0_0 := (nn.cell (p := ⟨w1.heap.size, 0, none⟩) (by show w1.heap.size < w7.heap.size; omega)).trans cw7_0_0; have kwv0_1_0 := (nn.cell (p := ⟨w1.heap.size + 1, 0, none⟩) (by show w1.heap.size + 1 < w7.heap.size; omega)).trans cw7_1_0; have kwv0_2_0 := (nn.cell (p := ⟨w1.heap.size + 1 + 1, 0, none⟩) (by show w1.heap.size + 1 + 1 < w7.heap.size; omega)).trans cw7_2_0; have kwv0_3_0 := (nn.cell (p := ⟨w1.heap.size + 1 + 1 + 1, 0, none⟩) (by show w1.heap.size + 1 + 1 + 1 < w7.heap.size; omega)).trans cw7_3_0; have kwv0_3_1 := (nn.cell (p := ⟨w1.heap.size + 1 + 1 + 1, 1, none⟩) (by show w1.heap.size + 1 + 1 + 1 < w7.heap.size; omega)).trans cw7_3_1; have kwv0_3_2 := (nn.cell (p := ⟨w1.heap.size + 1 + 1 + 1, 2, none⟩) (by show w1.heap.size + 1 + 1 + 1 < w7.heap.size; omega)).trans cw7_3_2; have kwv0_3_3 := (nn.cell (p := ⟨w1.heap.size + 1 + 1 + 1, 3, none⟩) (by show w1.heap.size + 1 + 1 + 1 < w7.heap.size; omega)).trans cw7_3_3)
      | (go_at_call_of 30 (Value.slice d1 B.length e1); refine (KHy.out _ _ (SB.stepAt rw7_B (by go_grown))).mono ?_; rintro e wv1 ⟨rfl, hb1⟩; have nn : Below w7.heap.size w7 wv1 := Below.step (by go_grown) hb1; have kwv1_0_0 := (nn.cell (p := ⟨w1.heap.size, 0, none⟩) (by show w1.heap.size < w7.heap.size; omega)).trans cw7_0_0; have kwv1_1_0 := (nn.cell (p := ⟨w1.heap.size + 1, 0, none⟩) (by show w1.heap.size + 1 < w7.heap.size; omega)).trans cw7_1_0; have kwv1_2_0 := (nn.cell (p := ⟨w1.heap.size + 1 + 1, 0, none⟩) (by show w1.heap.size + 1 + 1 < w7.heap.size; omega)).trans cw7_2_0; have kwv1_3_0 := (nn.cell (p := ⟨w1.heap.size + 1 + 1 + 1, 0, none⟩) (by show w1.heap.size + 1 + 1 + 1 < w7.heap.size; omega)).trans cw7_3_0; have kwv1_3_1 := (nn.cell (p := ⟨w1.heap.size + 1 + 1 + 1, 1, none⟩) (by show w1.heap.size + 1 + 1 + 1 < w7.heap.size; omega)).trans cw7_3_1; have kwv1_3_2 := (nn.cell (p := ⟨w1.heap.size + 1 + 1 + 1, 2, none⟩) (by show w1.heap.size + 1 + 1 + 1 < w7.heap.size; omega)).trans cw7_3_2; have kwv1_3_3 := (nn.cell (p := ⟨w1.heap.size + 1 + 1 + 1, 3, none⟩) (by show w1.heap.size + 1 + 1 + 1 < w7.heap.size; omega)).trans cw7_3_3)
      | (go_at_call_of 30 (Value.slice d2 C.length e2); refine (KHz.out _ _ (SB.stepAt rw7_C (by go_grown))).mono ?_; rintro e wv2 ⟨rfl, hb2⟩; have nn : Below w7.heap.size w7 wv2 := Below.step (by go_grown) hb2; have kwv2_0_0 := (nn.cell (p := ⟨w1.heap.size, 0, none⟩) (by show w1.heap.size < w7.heap.size; omega)).trans cw7_0_0; have kwv2_1_0 := (nn.cell (p := ⟨w1.heap.size + 1, 0, none⟩) (by show w1.heap.size + 1 < w7.heap.size; omega)).trans cw7_1_0; have kwv2_2_0 := (nn.cell (p := ⟨w1.heap.size + 1 + 1, 0, none⟩) (by show w1.heap.size + 1 + 1 < w7.heap.size; omega)).trans cw7_2_0; have kwv2_3_0 := (nn.cell (p := ⟨w1.heap.size + 1 + 1 + 1, 0, none⟩) (by show w1.heap.size + 1 + 1 + 1 < w7.heap.size; omega)).trans cw7_3_0; have kwv2_3_1 := (nn.cell (p := ⟨w1.heap.size + 1 + 1 + 1, 1, none⟩) (by show w1.heap.size + 1 + 1 + 1 < w7.heap.size; omega)).trans cw7_3_1; have kwv2_3_2 := (nn.cell (p := ⟨w1.heap.size + 1 + 1 + 1, 2, none⟩) (by show w1.heap.size + 1 + 1 + 1 < w7.heap.size; omega)).trans cw7_3_2; have kwv2_3_3 := (nn.cell (p := ⟨w1.heap.size + 1 + 1 + 1, 3, none⟩) (by show w1.heap.size + 1 + 1 + 1 < w7.heap.size; omega)).trans cw7_3_3))
              all_goals
                go_wp2_with fail
                go_meet
                case rel => exact ⟨rfl, rfl, rfl, nn⟩
            case rest =>
              rename World => w8
              obtain ⟨rfl, rfl, rfl, hb⟩ := hcut
              have nw8 : Below w7.heap.size w7 w8 := Below.step (by go_grown) hb
              have sw8 : w7.heap.size ≤ w8.heap.size := nw8.size
              have cw8_0_0 := (nw8.cell (p := ⟨w1.heap.size, 0, none⟩) (by show w1.heap.size < w7.heap.size; omega)).trans cw7_0_0
              have cw8_1_0 := (nw8.cell (p := ⟨w1.heap.size + 1, 0, none⟩) (by show w1.heap.size + 1 < w7.heap.size; omega)).trans cw7_1_0
              have cw8_2_0 := (nw8.cell (p := ⟨w1.heap.size + 1 + 1, 0, none⟩) (by show w1.heap.size + 1 + 1 < w7.heap.size; omega)).trans cw7_2_0
              have cw8_3_0 := (nw8.cell (p := ⟨w1.heap.size + 1 + 1 + 1, 0, none⟩) (by show w1.heap.size + 1 + 1 + 1 < w7.heap.size; omega)).trans cw7_3_0
              have cw8_3_1 := (nw8.cell (p := ⟨w1.heap.size + 1 + 1 + 1, 1, none⟩) (by show w1.heap.size + 1 + 1 + 1 < w7.heap.size; omega)).trans cw7_3_1
              have cw8_3_2 := (nw8.cell (p := ⟨w1.heap.size + 1 + 1 + 1, 2, none⟩) (by show w1.heap.size + 1 + 1 + 1 < w7.heap.size; omega)).trans cw7_3_2
              have cw8_3_3 := (nw8.cell (p := ⟨w1.heap.size + 1 + 1 + 1, 3, none⟩) (by show w1.heap.size + 1 + 1 + 1 < w7.heap.size; omega)).trans cw7_3_3
              have cw8_4_0 := (nw8.cell (p := ⟨w2.heap.size, 0, none⟩) (by show w2.heap.size < w7.heap.size; omega)).trans cw7_4_0
              have cw8_5_0 := (nw8.cell (p := ⟨w3.heap.size, 0, none⟩) (by show w3.heap.size < w7.heap.size; omega)).trans cw7_5_0
              have cw8_6_0 := (nw8.cell (p := ⟨w4.heap.size, 0, none⟩) (by show w4.heap.size < w7.heap.size; omega)).trans cw7_6_0
              have cw8_7_0 := (nw8.cell (p := ⟨w5.heap.size, 0, none⟩) (by show w5.heap.size < w7.heap.size; omega)).trans cw7_7_0
              have cw8_8_0 := (nw8.cell (p := ⟨w6.heap.size, 0, none⟩) (by show w6.heap.size < w7.heap.size; omega)).trans cN
              have rw8_A := SB.step rw7_A (by go_grown) hb
              have rw8_B := SB.step rw7_B (by go_grown) hb
              have rw8_C := SB.step rw7_C (by go_grown) hb
              have rw8_1 := SB.step rw7_1 (by go_grown) hb
              have rw8_2 := SB.step rw7_2 (by go_grown) hb
              have rw8_3 := SB.step rw7_3 (by go_grown) hb
              have rw8_4 := SB.step rw7_4 (by go_grown) hb
              have rw8_5 := SB.step rw7_5 (by go_grown) hb
              have bw8 := bw7.trans (nw8.mono bw7.size)
              clear cw7_0_0 cw7_1_0 cw7_2_0 cw7_3_0 cw7_3_1 cw7_3_2 cw7_3_3 cw7_4_0 cw7_5_0 cw7_6_0 cw7_7_0 cN rw7_A rw7_B rw7_C rw7_1 rw7_2 rw7_3 rw7_4 rw7_5 bw7 lw7_0 lw7_1 lw7_2 lw7_3 lw7_4 lw7_5 lw7_6 lw7_7 lw7_8 nw8 hb
              have lw8_0 : w1.heap.size < w8.heap.size := by omega
              have lw8_1 : w1.heap.size + 1 < w8.heap.size := by omega
              have lw8_2 : w1.heap.size + 1 + 1 < w8.heap.size := by omega
              have lw8_3 : w1.heap.size + 1 + 1 + 1 < w8.heap.size := by omega
              have lw8_4 : w2.heap.size < w8.heap.size := by omega
              have lw8_5 : w3.heap.size < w8.heap.size := by omega
              have lw8_6 : w4.heap.size < w8.heap.size := by omega
              have lw8_7 : w5.heap.size < w8.heap.size := by omega
              have lw8_8 : w6.heap.size < w8.heap.size := by omega
              cases x <;> cases y <;> cases z <;> cases r <;> first | (exact absurd hx (by decide)) | skip
              all_goals
                clear hx
                go_wp2_with fail
                refine (same_true h2 (SB.stepAt rw8_2 (by go_grown)) (SB.stepAt rw8_5 (by go_grown))).mono ?_
                rintro e w9 ⟨rfl, hb⟩
                have nw9 : Below w8.heap.size w8 w9 := Below.step (by go_grown) hb
                have sw9 : w8.heap.size ≤ w9.heap.size := nw9.size
                have cw9_0_0 := (nw9.cell (p := ⟨w1.heap.size, 0, none⟩) (by show w1.heap.size < w8.heap.size; omega)).trans cw8_0_0
                have cw9_1_0 := (nw9.cell (p := ⟨w1.heap.size + 1, 0, none⟩) (by show w1.heap.size + 1 < w8.heap.size; omega)).trans cw8_1_0
                have cw9_2_0 := (nw9.cell (p := ⟨w1.heap.size + 1 + 1, 0, none⟩) (by show w1.heap.size + 1 + 1 < w8.heap.size; omega)).trans cw8_2_0
                have cw9_3_0 := (nw9.cell (p := ⟨w1.heap.size + 1 + 1 + 1, 0, none⟩) (by show w1.heap.size + 1 + 1 + 1 < w8.heap.size; omega)).trans cw8_3_0
                have cw9_3_1 := (nw9.cell (p := ⟨w1.heap.size + 1 + 1 + 1, 1, none⟩) (by show w1.heap.size + 1 + 1 + 1 < w8.heap.size; omega)).trans cw8_3_1
                have cw9_3_2 := (nw9.cell (p := ⟨w1.heap.size + 1 + 1 + 1, 2, none⟩) (by show w1.heap.size + 1 + 1 + 1 < w8.heap.size; omega)).trans cw8_3_2
                have cw9_3_3 := (nw9.cell (p := ⟨w1.heap.size + 1 + 1 + 1, 3, none⟩) (by show w1.heap.size + 1 + 1 + 1 < w8.heap.size; omega)).trans cw8_3_3
                have cw9_4_0 := (nw9.cell (p := ⟨w2.heap.size, 0, none⟩) (by show w2.heap.size < w8.heap.size; omega)).trans cw8_4_0
                have cw9_5_0 := (nw9.cell (p := ⟨w3.heap.size, 0, none⟩) (by show w3.heap.size < w8.heap.size; omega)).trans cw8_5_0
                have cw9_6_0 := (nw9.cell (p := ⟨w4.heap.size, 0, none⟩) (by show w4.heap.size < w8.heap.size; omega)).trans cw8_6_0
                have cw9_7_0 := (nw9.cell (p := ⟨w5.heap.size, 0, none⟩) (by show w5.heap.size < w8.heap.size; omega)).trans cw8_7_0
                have cw9_8_0 := (nw9.cell (p := ⟨w6.heap.size, 0, none⟩) (by show w6.heap.size < w8.heap.size; omega)).trans cw8_8_0
                have rw9_A := SB.step rw8_A (by go_grown) hb
                have rw9_B := SB.step rw8_B (by go_grown) hb
                have rw9_C := SB.step rw8_C (by go_grown) hb
                have rw9_1 := SB.step rw8_1 (by go_grown) hb
                have rw9_2 := SB.step rw8_2 (by go_grown) hb
                have rw9_3 := SB.step rw8_3 (by go_grown) hb
                have rw9_4 := SB.step rw8_4 (by go_grown) hb
                have rw9_5 := SB.step rw8_5 (by go_grown) hb
                have bw9 := bw8.trans (nw9.mono bw8.size)
                clear cw8_0_0 cw8_1_0 cw8_2_0 cw8_3_0 cw8_3_1 cw8_3_2 cw8_3_3 cw8_4_0 cw8_5_0 cw8_6_0 cw8_7_0 cw8_8_0 rw8_A rw8_B rw8_C rw8_1 rw8_2 rw8_3 rw8_4 rw8_5 bw8 lw8_0 lw8_1 lw8_2 lw8_3 lw8_4 lw8_5 lw8_6 lw8_7 lw8_8 nw9 hb
                have lw9_0 : w1.heap.size < w9.heap.size := by omega
                have lw9_1 : w1.heap.size + 1 < w9.heap.size := by omega
                have lw9_2 : w1.heap.size + 1 + 1 < w9.heap.size := by omega
                have lw9_3 : w1.heap.size + 1 + 1 + 1 < w9.heap.size := by omega
                have lw9_4 : w2.heap.size < w9.heap.size := by omega
                have lw9_5 : w3.heap.size < w9.heap.size := by omega
                have lw9_6 : w4.heap.size < w9.heap.size := by omega
                have lw9_7 : w5.heap.size < w9.heap.size := by omega
                have lw9_8 : w6.heap.size < w9.heap.size := by omega
                go_wp2_with fail
                refine (KHr.out _ _ (SB.stepAt rw9_2 (by go_grown))).mono ?_
                rintro e w10 ⟨rfl, hb⟩
                have nw10 : Below w9.heap.size w9 w10 := Below.step (by go_grown) hb
                have sw10 : w9.heap.size ≤ w10.heap.size := nw10.size
                have cw10_0_0 := (nw10.cell (p := ⟨w1.heap.size, 0, none⟩) (by show w1.heap.size < w9.heap.size; omega)).trans cw9_0_0
                have cw10_1_0 := (nw10.cell (p := ⟨w1.heap.size + 1, 0, none⟩) (by show w1.heap.size + 1 < w9.heap.size; omega)).trans cw9_1_0
                have cw10_2_0 := (nw10.cell (p := ⟨w1.heap.size + 1 + 1, 0, none⟩) (by show w1.heap.size + 1 + 1 < w9.heap.size; omega)).trans cw9_2_0
                have cw10_3_0 := (nw10.cell (p := ⟨w1.heap.size + 1 + 1 + 1, 0, none⟩) (by show w1.heap.size + 1 + 1 + 1 < w9.heap.size; omega)).trans cw9_3_0
                have cw10_3_1 := (nw10.cell (p := ⟨w1.heap.size + 1 + 1 + 1, 1, none⟩) (by show w1.heap.size + 1 + 1 + 1 < w9.heap.size; omega)).trans cw9_3_1
                have cw10_3_2 := (nw10.cell (p := ⟨w1.heap.size + 1 + 1 + 1, 2, none⟩) (by show w1.heap.size + 1 + 1 + 1 < w9.heap.size; omega)).trans cw9_3_2
                have cw10_3_3 := (nw10.cell (p := ⟨w1.heap.size + 1 + 1 + 1, 3, none⟩) (by show w1.heap.size + 1 + 1 + 1 < w9.heap.size; omega)).trans cw9_3_3
                have cw10_4_0 := (nw10.cell (p := ⟨w2.heap.size, 0, none⟩) (by show w2.heap.size < w9.heap.size; omega)).trans cw9_4_0
                have cw10_5_0 := (nw10.cell (p := ⟨w3.heap.size, 0, none⟩) (by show w3.heap.size < w9.heap.size; omega)).trans cw9_5_0
                have cw10_6_0 := (nw10.cell (p := ⟨w4.heap.size, 0, none⟩) (by show w4.heap.size < w9.heap.size; omega)).trans cw9_6_0
                have cw10_7_0 := (nw10.cell (p := ⟨w5.heap.size, 0, none⟩) (by show w5.heap.size < w9.heap.size; omega)).trans cw9_7_0
                have cw10_8_0 := (nw10.cell (p := ⟨w6.heap.size, 0, none⟩) (by show w6.heap.size < w9.heap.size; omega)).trans cw9_8_0
                have rw10_A := SB.step rw9_A (by go_grown) hb
                have rw10_B := SB.step rw9_B (by go_grown) hb
                have rw10_C := SB.step rw9_C (by go_grown) hb
                have rw10_1 := SB.step rw9_1 (by go_grown) hb
                have rw10_2 := SB.step rw9_2 (by go_grown) hb
                have rw10_3 := SB.step rw9_3 (by go_grown) hb
                have rw10_4 := SB.step rw9_4 (by go_grown) hb
                have rw10_5 := SB.step rw9_5 (by go_grown) hb
                have bw10 := bw9.trans (nw10.mono bw9.size)
                clear cw9_0_0 cw9_1_0 cw9_2_0 cw9_3_0 cw9_3_1 cw9_3_2 cw9_3_3 cw9_4_0 cw9_5_0 cw9_6_0 cw9_7_0 cw9_8_0 rw9_A rw9_B rw9_C rw9_1 rw9_2 rw9_3 rw9_4 rw9_5 bw9 lw9_0 lw9_1 lw9_2 lw9_3 lw9_4 lw9_5 lw9_6 lw9_7 lw9_8 nw10 hb
                have lw10_0 : w1.heap.size < w10.heap.size := by omega
                have lw10_1 : w1.heap.size + 1 < w10.heap.size := by omega
                have lw10_2 : w1.heap.size + 1 + 1 < w10.heap.size := by omega
                have lw10_3 : w1.heap.size + 1 + 1 + 1 < w10.heap.size := by omega
                have lw10_4 : w2.heap.size < w10.heap.size := by omega
                have lw10_5 : w3.heap.size < w10.heap.size := by omega
                have lw10_6 : w4.heap.size < w10.heap.size := by omega
                have lw10_7 : w5.heap.size < w10.heap.size := by omega
                have lw10_8 : w6.heap.size < w10.heap.size := by omega
                go_wp2_with fail
                go_ret
                exact ⟨rfl, bw10.trans ((show Below w10.heap.size w10 _ from by go_grown).mono bw10.size)⟩

set_option maxHeartbeats 1000000 in
theorem rangeLawP_long (a : Option Addr) (len cap : Nat) (w : World) (hl : 1048576 < len) :
    Calls Try.prog 10 #[.slice a len cap] w fun e w' => e = .returned (.bool true) ∧ Below w.heap.size w w' := by
  go_enter Try.func10, Try.ntmps10
  go_wp2
  go_ret
  exact ⟨rfl, Below.refl _ _⟩

theorem rangeLawP_walk (a : Option Addr) (len cap : Nat) (w : World) (h : CodeIn w a len cap) :
    Calls Try.prog 10 #[.slice a len cap] w fun e w' => e = .returned (.bool true) ∧ Below w.heap.size w w' := by
  by_cases hl : len ≤ 1048576
  · exact rangeLawP_short a len cap w h hl
  · exact rangeLawP_long a len cap w (by omega)

theorem rangeLawP_holds : Rows.FnRangeLawSaid :=
  OpenClaim.holds_of_wide 10 Try.f10 rfl rfl rfl rfl rfl rfl rfl ⟨rfl, rfl, rfl, rfl, rfl⟩ rfl rfl rfl rfl rfl (by kernel_rfl) Try.func10 (by kernel_rfl)
    (of_decide_eq_true (by kernel_rfl)) (by unfold Func.isWrapper; rw [if_neg (by decide +kernel)]; exact ⟨rfl, rfl⟩)
    (fun os started H enc _ => law_lifted (s := Rows.fnRangeLawSpec) (tb := 4) own started laid (by kernel_rfl) Try.func10 rfl (by kernel_rfl) Try.underlying4 (by kernel_rfl)
      (fun ds h => by rw [Try.params10] at h; match ds, h with | [_], _ => rfl)
      (ChangeSpec.witness6 (enc := enc) (C := Try.checked) false ⟨#[], #[.slice none 0 0], []⟩ 8 (by kernel_rfl) (by kernel_rfl) (by kernel_rfl) (by kernel_rfl))
      (law_code Try.params10 rangeLawP_walk))
#print axioms rangeLawP_holds

end Go.Proofs.Ytflmljgmmcdniaa

/- At every code the law FnRangeHas returns true: the program and the model agree on whether the drawn version is in the drawn range; it is just if the range of it alone, cut with the range, is itself. No condition. -/
import Derived.Test.YtflmljgmmcdniaaSame
import Derived.Test.YtflmljgmmcdniaaRlaw
import Derived.Test.YtflmljgmmcdniaaImand2
import Derived.Test.YtflmljgmmcdniaaHas
import Derived.Test.YtflmljgmmcdniaaStp
import Derived.Test.YtflmljgmmcdniaaSb
import Derived.Test.YtflmljgmmcdniaaDdraw
import Derived.Test.YtflmljgmmcdniaaPsm
import Derived.Test.YtflmljgmmcdniaaDrngh
import Derived.Test.YtflmljgmmcdniaaImone
import Derived.Test.YtflmljgmmcdniaaTxs
import Derived.Deep.RegionHeld3
namespace Go.Proofs.Ytflmljgmmcdniaa
open Go.ChangeShapes Go.WideShapes Go.ChangeAt Go.RowKit Go.Joins Go.Sort

set_option maxRecDepth 100000 in
set_option maxHeartbeats 8000000 in
theorem rangeHasP_short (a : Option Addr) (len cap : Nat) (w : World) (h : CodeIn w a len cap) (hl : len ≤ 1048576) :
    Calls Try.prog 6 #[.slice a len cap] w fun e w' => e = .returned (.bool true) ∧ Below w.heap.size w w' := by
  go_enter Try.func6, Try.ntmps6
  go_wp2_with fail
  refine (DrawRangeHas_any a len cap w h).mono ?_
  rintro e w1 ⟨A, u0, va, vb, vc, vd, rfl, q0, hA41, b1⟩
  obtain ⟨d0, e0, rfl, _⟩ := id q0
  have rA := (q0.mono (Nat.zero_le _)).sb
  have hA : A.length ≤ 1048576 := by omega
  have z1 := b1.size
  clear h q0 hA41
  have KI : Hid (∀ V u, SpAt V V.heap.size u A → Calls Try.prog 30 #[.agg #[u], ver va vb vc vd] V fun e w' => e = .returned (.bool (hasL A va vb vc vd)) ∧ Below V.heap.size V w') := Lib.hid fun V u h => implHas_any u A va vb vc vd V hA h
  have KS : Hid (∀ V u, SpAt V V.heap.size u A → Calls Try.prog 31 #[.agg #[u], ver va vb vc vd] V fun e w' => e = .returned (.bool (hasL A va vb vc vd)) ∧ Below V.heap.size V w') := Lib.hid fun V u h => specHas_any u A va vb vc vd V hA h
  have KO : Hid (∀ V u, SpAt V V.heap.size u A → Calls Try.prog 24 #[.agg #[u]] V fun e w' => e = .returned (.bool (spOk A)) ∧ Below V.heap.size V w') := Lib.hid fun V u h => rngOk_is hA h
  have KV := Lib.hid fun V => implOk_any va vb vc vd V
  rcases hs : spOk A
  · have hf : hasL A va vb vc vd = false := by simp [hasL, hs]
    rw [hf] at KI KS
    rw [hs] at KO
    clear hf hs
    go_wp2_with fail
    refine (KI.out _ _ (SB.stepAt rA (by go_grown))).mono ?_
    rintro e w2 ⟨rfl, hb⟩
    have nw2 : Below w1.heap.size w1 w2 := Below.step (by go_grown) hb
    have sw2 : w1.heap.size + 2 ≤ w2.heap.size := by have := hb.size; simp at this; omega
    have cw2_0_0 : w2.cell? ⟨w1.heap.size, 0, none⟩ = some (.slice d0 A.length e0) := (hb.cell (p := ⟨w1.heap.size, 0, none⟩) (by first | (simp; done) | (simp; omega))).trans (by go_simp)
    have cw2_1_0 : w2.cell? ⟨w1.heap.size + 1, 0, none⟩ = some (.int .i64 va) := (hb.cell (p := ⟨w1.heap.size + 1, 0, none⟩) (by first | (simp; done) | (simp; omega))).trans (by go_simp)
    have cw2_1_1 : w2.cell? ⟨w1.heap.size + 1, 1, none⟩ = some (.int .i64 vb) := (hb.cell (p := ⟨w1.heap.size + 1, 1, none⟩) (by first | (simp; done) | (simp; omega))).trans (by go_simp)
    have cw2_1_2 : w2.cell? ⟨w1.heap.size + 1, 2, none⟩ = some (.int .i64 vc) := (hb.cell (p := ⟨w1.heap.size + 1, 2, none⟩) (by first | (simp; done) | (simp; omega))).trans (by go_simp)
    have cw2_1_3 : w2.cell? ⟨w1.heap.size + 1, 3, none⟩ = some (.int .i64 vd) := (hb.cell (p := ⟨w1.heap.size + 1, 3, none⟩) (by first | (simp; done) | (simp; omega))).trans (by go_simp)
    have rw2_A := SB.step rA (by go_grown) hb
    have bw2 := b1.trans (nw2.mono b1.size)
    clear rA b1 nw2 hb
    have lw2_0 : w1.heap.size < w2.heap.size := by omega
    have lw2_1 : w1.heap.size + 1 < w2.heap.size := by omega
    go_wp2_with fail
    refine (KS.out _ _ (SB.stepAt rw2_A (by go_grown))).mono ?_
    rintro e w3 ⟨rfl, hb⟩
    have nw3 : Below w2.heap.size w2 w3 := Below.step (by go_grown) hb
    have sw3 : w2.heap.size ≤ w3.heap.size := nw3.size
    have cw3_0_0 := (nw3.cell (p := ⟨w1.heap.size, 0, none⟩) (by show w1.heap.size < w2.heap.size; omega)).trans cw2_0_0
    have cw3_1_0 := (nw3.cell (p := ⟨w1.heap.size + 1, 0, none⟩) (by show w1.heap.size + 1 < w2.heap.size; omega)).trans cw2_1_0
    have cw3_1_1 := (nw3.cell (p := ⟨w1.heap.size + 1, 1, none⟩) (by show w1.heap.size + 1 < w2.heap.size; omega)).trans cw2_1_1
    have cw3_1_2 := (nw3.cell (p := ⟨w1.heap.size + 1, 2, none⟩) (by show w1.heap.size + 1 < w2.heap.size; omega)).trans cw2_1_2
    have cw3_1_3 := (nw3.cell (p := ⟨w1.heap.size + 1, 3, none⟩) (by show w1.heap.size + 1 < w2.heap.size; omega)).trans cw2_1_3
    have rw3_A := SB.step rw2_A (by go_grown) hb
    have bw3 := bw2.trans (nw3.mono bw2.size)
    clear cw2_0_0 cw2_1_0 cw2_1_1 cw2_1_2 cw2_1_3 rw2_A bw2 lw2_0 lw2_1 nw3 hb
    have lw3_0 : w1.heap.size < w3.heap.size := by omega
    have lw3_1 : w1.heap.size + 1 < w3.heap.size := by omega
    go_wp2_with fail
    refine (KO.out _ _ (SB.stepAt rw3_A (by go_grown))).mono ?_
    rintro e w4 ⟨rfl, hb⟩
    have nw4 : Below w3.heap.size w3 w4 := Below.step (by go_grown) hb
    have sw4 : w3.heap.size ≤ w4.heap.size := nw4.size
    have cw4_0_0 := (nw4.cell (p := ⟨w1.heap.size, 0, none⟩) (by show w1.heap.size < w3.heap.size; omega)).trans cw3_0_0
    have cw4_1_0 := (nw4.cell (p := ⟨w1.heap.size + 1, 0, none⟩) (by show w1.heap.size + 1 < w3.heap.size; omega)).trans cw3_1_0
    have cw4_1_1 := (nw4.cell (p := ⟨w1.heap.size + 1, 1, none⟩) (by show w1.heap.size + 1 < w3.heap.size; omega)).trans cw3_1_1
    have cw4_1_2 := (nw4.cell (p := ⟨w1.heap.size + 1, 2, none⟩) (by show w1.heap.size + 1 < w3.heap.size; omega)).trans cw3_1_2
    have cw4_1_3 := (nw4.cell (p := ⟨w1.heap.size + 1, 3, none⟩) (by show w1.heap.size + 1 < w3.heap.size; omega)).trans cw3_1_3
    have rw4_A := SB.step rw3_A (by go_grown) hb
    have bw4 := bw3.trans (nw4.mono bw3.size)
    clear cw3_0_0 cw3_1_0 cw3_1_1 cw3_1_2 cw3_1_3 rw3_A bw3 lw3_0 lw3_1 nw4 hb
    have lw4_0 : w1.heap.size < w4.heap.size := by omega
    have lw4_1 : w1.heap.size + 1 < w4.heap.size := by omega
    go_wp2_with fail
    refine (alive_any _).mono ?_
    rintro e w5 ⟨rfl, hb⟩
    have nw5 : Below w4.heap.size w4 w5 := Below.step (by go_grown) hb
    have sw5 : w4.heap.size ≤ w5.heap.size := nw5.size
    have cw5_0_0 := (nw5.cell (p := ⟨w1.heap.size, 0, none⟩) (by show w1.heap.size < w4.heap.size; omega)).trans cw4_0_0
    have cw5_1_0 := (nw5.cell (p := ⟨w1.heap.size + 1, 0, none⟩) (by show w1.heap.size + 1 < w4.heap.size; omega)).trans cw4_1_0
    have cw5_1_1 := (nw5.cell (p := ⟨w1.heap.size + 1, 1, none⟩) (by show w1.heap.size + 1 < w4.heap.size; omega)).trans cw4_1_1
    have cw5_1_2 := (nw5.cell (p := ⟨w1.heap.size + 1, 2, none⟩) (by show w1.heap.size + 1 < w4.heap.size; omega)).trans cw4_1_2
    have cw5_1_3 := (nw5.cell (p := ⟨w1.heap.size + 1, 3, none⟩) (by show w1.heap.size + 1 < w4.heap.size; omega)).trans cw4_1_3
    have rw5_A := SB.step rw4_A (by go_grown) hb
    have bw5 := bw4.trans (nw5.mono bw4.size)
    clear cw4_0_0 cw4_1_0 cw4_1_1 cw4_1_2 cw4_1_3 rw4_A bw4 lw4_0 lw4_1 nw5 hb
    have lw5_0 : w1.heap.size < w5.heap.size := by omega
    have lw5_1 : w1.heap.size + 1 < w5.heap.size := by omega
    go_wp2_with fail
    go_ret
    exact ⟨rfl, bw5.trans ((show Below w5.heap.size w5 _ from by go_grown).mono bw5.size)⟩
  · rcases hv : vOk va vb vc vd
    · have hf : hasL A va vb vc vd = false := by simp [hasL, hv]
      rw [hf] at KI KS
      rw [hs] at KO
      rw [hv] at KV
      clear hf hs hv
      go_wp2_with fail
      refine (KI.out _ _ (SB.stepAt rA (by go_grown))).mono ?_
      rintro e w2 ⟨rfl, hb⟩
      have nw2 : Below w1.heap.size w1 w2 := Below.step (by go_grown) hb
      have sw2 : w1.heap.size + 2 ≤ w2.heap.size := by have := hb.size; simp at this; omega
      have cw2_0_0 : w2.cell? ⟨w1.heap.size, 0, none⟩ = some (.slice d0 A.length e0) := (hb.cell (p := ⟨w1.heap.size, 0, none⟩) (by first | (simp; done) | (simp; omega))).trans (by go_simp)
      have cw2_1_0 : w2.cell? ⟨w1.heap.size + 1, 0, none⟩ = some (.int .i64 va) := (hb.cell (p := ⟨w1.heap.size + 1, 0, none⟩) (by first | (simp; done) | (simp; omega))).trans (by go_simp)
      have cw2_1_1 : w2.cell? ⟨w1.heap.size + 1, 1, none⟩ = some (.int .i64 vb) := (hb.cell (p := ⟨w1.heap.size + 1, 1, none⟩) (by first | (simp; done) | (simp; omega))).trans (by go_simp)
      have cw2_1_2 : w2.cell? ⟨w1.heap.size + 1, 2, none⟩ = some (.int .i64 vc) := (hb.cell (p := ⟨w1.heap.size + 1, 2, none⟩) (by first | (simp; done) | (simp; omega))).trans (by go_simp)
      have cw2_1_3 : w2.cell? ⟨w1.heap.size + 1, 3, none⟩ = some (.int .i64 vd) := (hb.cell (p := ⟨w1.heap.size + 1, 3, none⟩) (by first | (simp; done) | (simp; omega))).trans (by go_simp)
      have rw2_A := SB.step rA (by go_grown) hb
      have bw2 := b1.trans (nw2.mono b1.size)
      clear rA b1 nw2 hb
      have lw2_0 : w1.heap.size < w2.heap.size := by omega
      have lw2_1 : w1.heap.size + 1 < w2.heap.size := by omega
      go_wp2_with fail
      refine (KS.out _ _ (SB.stepAt rw2_A (by go_grown))).mono ?_
      rintro e w3 ⟨rfl, hb⟩
      have nw3 : Below w2.heap.size w2 w3 := Below.step (by go_grown) hb
      have sw3 : w2.heap.size ≤ w3.heap.size := nw3.size
      have cw3_0_0 := (nw3.cell (p := ⟨w1.heap.size, 0, none⟩) (by show w1.heap.size < w2.heap.size; omega)).trans cw2_0_0
      have cw3_1_0 := (nw3.cell (p := ⟨w1.heap.size + 1, 0, none⟩) (by show w1.heap.size + 1 < w2.heap.size; omega)).trans cw2_1_0
      have cw3_1_1 := (nw3.cell (p := ⟨w1.heap.size + 1, 1, none⟩) (by show w1.heap.size + 1 < w2.heap.size; omega)).trans cw2_1_1
      have cw3_1_2 := (nw3.cell (p := ⟨w1.heap.size + 1, 2, none⟩) (by show w1.heap.size + 1 < w2.heap.size; omega)).trans cw2_1_2
      have cw3_1_3 := (nw3.cell (p := ⟨w1.heap.size + 1, 3, none⟩) (by show w1.heap.size + 1 < w2.heap.size; omega)).trans cw2_1_3
      have rw3_A := SB.step rw2_A (by go_grown) hb
      have bw3 := bw2.trans (nw3.mono bw2.size)
      clear cw2_0_0 cw2_1_0 cw2_1_1 cw2_1_2 cw2_1_3 rw2_A bw2 lw2_0 lw2_1 nw3 hb
      have lw3_0 : w1.heap.size < w3.heap.size := by omega
      have lw3_1 : w1.heap.size + 1 < w3.heap.size := by omega
      go_wp2_with fail
      refine (KO.out _ _ (SB.stepAt rw3_A (by go_grown))).mono ?_
      rintro e w4 ⟨rfl, hb⟩
      have nw4 : Below w3.heap.size w3 w4 := Below.step (by go_grown) hb
      have sw4 : w3.heap.size ≤ w4.heap.size := nw4.size
      have cw4_0_0 := (nw4.cell (p := ⟨w1.heap.size, 0, none⟩) (by show w1.heap.size < w3.heap.size; omega)).trans cw3_0_0
      have cw4_1_0 := (nw4.cell (p := ⟨w1.heap.size + 1, 0, none⟩) (by show w1.heap.size + 1 < w3.heap.size; omega)).trans cw3_1_0
      have cw4_1_1 := (nw4.cell (p := ⟨w1.heap.size + 1, 1, none⟩) (by show w1.heap.size + 1 < w3.heap.size; omega)).trans cw3_1_1
      have cw4_1_2 := (nw4.cell (p := ⟨w1.heap.size + 1, 2, none⟩) (by show w1.heap.size + 1 < w3.heap.size; omega)).trans cw3_1_2
      have cw4_1_3 := (nw4.cell (p := ⟨w1.heap.size + 1, 3, none⟩) (by show w1.heap.size + 1 < w3.heap.size; omega)).trans cw3_1_3
      have rw4_A := SB.step rw3_A (by go_grown) hb
      have bw4 := bw3.trans (nw4.mono bw3.size)
      clear cw3_0_0 cw3_1_0 cw3_1_1 cw3_1_2 cw3_1_3 rw3_A bw3 lw3_0 lw3_1 nw4 hb
      have lw4_0 : w1.heap.size < w4.heap.size := by omega
      have lw4_1 : w1.heap.size + 1 < w4.heap.size := by omega
      go_wp2_with fail
      refine (KV.out _).mono ?_
      rintro e w5 ⟨rfl, hb⟩
      have nw5 : Below w4.heap.size w4 w5 := Below.step (by go_grown) hb
      have sw5 : w4.heap.size ≤ w5.heap.size := nw5.size
      have cw5_0_0 := (nw5.cell (p := ⟨w1.heap.size, 0, none⟩) (by show w1.heap.size < w4.heap.size; omega)).trans cw4_0_0
      have cw5_1_0 := (nw5.cell (p := ⟨w1.heap.size + 1, 0, none⟩) (by show w1.heap.size + 1 < w4.heap.size; omega)).trans cw4_1_0
      have cw5_1_1 := (nw5.cell (p := ⟨w1.heap.size + 1, 1, none⟩) (by show w1.heap.size + 1 < w4.heap.size; omega)).trans cw4_1_1
      have cw5_1_2 := (nw5.cell (p := ⟨w1.heap.size + 1, 2, none⟩) (by show w1.heap.size + 1 < w4.heap.size; omega)).trans cw4_1_2
      have cw5_1_3 := (nw5.cell (p := ⟨w1.heap.size + 1, 3, none⟩) (by show w1.heap.size + 1 < w4.heap.size; omega)).trans cw4_1_3
      have rw5_A := SB.step rw4_A (by go_grown) hb
      have bw5 := bw4.trans (nw5.mono bw4.size)
      clear cw4_0_0 cw4_1_0 cw4_1_1 cw4_1_2 cw4_1_3 rw4_A bw4 lw4_0 lw4_1 nw5 hb
      have lw5_0 : w1.heap.size < w5.heap.size := by omega
      have lw5_1 : w1.heap.size + 1 < w5.heap.size := by omega
      go_wp2_with fail
      refine (alive_any _).mono ?_
      rintro e w6 ⟨rfl, hb⟩
      have nw6 : Below w5.heap.size w5 w6 := Below.step (by go_grown) hb
      have sw6 : w5.heap.size ≤ w6.heap.size := nw6.size
      have cw6_0_0 := (nw6.cell (p := ⟨w1.heap.size, 0, none⟩) (by show w1.heap.size < w5.heap.size; omega)).trans cw5_0_0
      have cw6_1_0 := (nw6.cell (p := ⟨w1.heap.size + 1, 0, none⟩) (by show w1.heap.size + 1 < w5.heap.size; omega)).trans cw5_1_0
      have cw6_1_1 := (nw6.cell (p := ⟨w1.heap.size + 1, 1, none⟩) (by show w1.heap.size + 1 < w5.heap.size; omega)).trans cw5_1_1
      have cw6_1_2 := (nw6.cell (p := ⟨w1.heap.size + 1, 2, none⟩) (by show w1.heap.size + 1 < w5.heap.size; omega)).trans cw5_1_2
      have cw6_1_3 := (nw6.cell (p := ⟨w1.heap.size + 1, 3, none⟩) (by show w1.heap.size + 1 < w5.heap.size; omega)).trans cw5_1_3
      have rw6_A := SB.step rw5_A (by go_grown) hb
      have bw6 := bw5.trans (nw6.mono bw5.size)
      clear cw5_0_0 cw5_1_0 cw5_1_1 cw5_1_2 cw5_1_3 rw5_A bw5 lw5_0 lw5_1 nw6 hb
      have lw6_0 : w1.heap.size < w6.heap.size := by omega
      have lw6_1 : w1.heap.size + 1 < w6.heap.size := by omega
      go_wp2_with fail
      go_ret
      exact ⟨rfl, bw6.trans ((show Below w6.heap.size w6 _ from by go_grown).mono bw6.size)⟩
    · obtain ⟨f1, f2, f3, f4⟩ := has_facts hs hv
      rw [hs] at KO
      rw [hv] at KV
      have hO : (oneL va vb vc vd).length ≤ 1048576 := by unfold oneL; split <;> simp
      have hR : (andR A (oneL va vb vc vd)).length ≤ 1048576 := andR_len _ _
      have KA : Hid (∀ V u v, SpAt V V.heap.size u A → SpAt V V.heap.size v (oneL va vb vc vd) → Calls Try.prog 17 #[.agg #[u], .agg #[v]] V (TPost true (andR A (oneL va vb vc vd)) V)) := Lib.hid fun V u v h h' => by have := implAnd_any u v A (oneL va vb vc vd) V hA hO h h'; rwa [f1] at this
      have KE : Hid (∀ V u v, SpAt V V.heap.size u (andR A (oneL va vb vc vd)) → SpAt V V.heap.size v (oneL va vb vc vd) → Calls Try.prog 26 #[.agg #[u], .agg #[v]] V fun e w' => e = .returned (.bool (hasL A va vb vc vd)) ∧ Below V.heap.size V w') := Lib.hid fun V u v h h' => by have := sameRange_any u v (andR A (oneL va vb vc vd)) (oneL va vb vc vd) V hR hO h h'; rwa [← f2] at this
      have KL : Hid (∀ V u, SpAt V V.heap.size u [(0, 9999999)] → Calls Try.prog 30 #[.agg #[u], ver va vb vc vd] V fun e w' => e = .returned (.bool true) ∧ Below V.heap.size V w') := Lib.hid fun V u h => by have := implHas_any u [(0, 9999999)] va vb vc vd V (by simp) h; rwa [f3] at this
      have KN : Hid (∀ V, Calls Try.prog 30 #[.agg #[.slice none 0 0], ver va vb vc vd] V fun e w' => e = .returned (.bool false) ∧ Below V.heap.size V w') := Lib.hid fun V => by have := implHas_any (.slice none 0 0) [] va vb vc vd V (by simp) ⟨_, _, rfl, .inl rfl⟩; rwa [f4] at this
      have K1 : Hid (∀ V, Calls Try.prog 34 #[ver va vb vc vd] V (RP (oneL va vb vc vd) V)) := Lib.hid fun V => implOne_any va vb vc vd V
      clear f1 f2 f3 f4 hs hv
      generalize hasL A va vb vc vd = hv at *
      generalize andR A (oneL va vb vc vd) = R at *
      generalize oneL va vb vc vd = O at *
      cases hv
      · go_wp2_with fail
        refine (KI.out _ _ (SB.stepAt rA (by go_grown))).mono ?_
        rintro e w2 ⟨rfl, hb⟩
        have nw2 : Below w1.heap.size w1 w2 := Below.step (by go_grown) hb
        have sw2 : w1.heap.size + 2 ≤ w2.heap.size := by have := hb.size; simp at this; omega
        have cw2_0_0 : w2.cell? ⟨w1.heap.size, 0, none⟩ = some (.slice d0 A.length e0) := (hb.cell (p := ⟨w1.heap.size, 0, none⟩) (by first | (simp; done) | (simp; omega))).trans (by go_simp)
        have cw2_1_0 : w2.cell? ⟨w1.heap.size + 1, 0, none⟩ = some (.int .i64 va) := (hb.cell (p := ⟨w1.heap.size + 1, 0, none⟩) (by first | (simp; done) | (simp; omega))).trans (by go_simp)
        have cw2_1_1 : w2.cell? ⟨w1.heap.size + 1, 1, none⟩ = some (.int .i64 vb) := (hb.cell (p := ⟨w1.heap.size + 1, 1, none⟩) (by first | (simp; done) | (simp; omega))).trans (by go_simp)
        have cw2_1_2 : w2.cell? ⟨w1.heap.size + 1, 2, none⟩ = some (.int .i64 vc) := (hb.cell (p := ⟨w1.heap.size + 1, 2, none⟩) (by first | (simp; done) | (simp; omega))).trans (by go_simp)
        have cw2_1_3 : w2.cell? ⟨w1.heap.size + 1, 3, none⟩ = some (.int .i64 vd) := (hb.cell (p := ⟨w1.heap.size + 1, 3, none⟩) (by first | (simp; done) | (simp; omega))).trans (by go_simp)
        have rw2_A := SB.step rA (by go_grown) hb
        have bw2 := b1.trans (nw2.mono b1.size)
        clear rA b1 nw2 hb
        have lw2_0 : w1.heap.size < w2.heap.size := by omega
        have lw2_1 : w1.heap.size + 1 < w2.heap.size := by omega
        go_wp2_with fail
        refine (KS.out _ _ (SB.stepAt rw2_A (by go_grown))).mono ?_
        rintro e w3 ⟨rfl, hb⟩
        have nw3 : Below w2.heap.size w2 w3 := Below.step (by go_grown) hb
        have sw3 : w2.heap.size ≤ w3.heap.size := nw3.size
        have cw3_0_0 := (nw3.cell (p := ⟨w1.heap.size, 0, none⟩) (by show w1.heap.size < w2.heap.size; omega)).trans cw2_0_0
        have cw3_1_0 := (nw3.cell (p := ⟨w1.heap.size + 1, 0, none⟩) (by show w1.heap.size + 1 < w2.heap.size; omega)).trans cw2_1_0
        have cw3_1_1 := (nw3.cell (p := ⟨w1.heap.size + 1, 1, none⟩) (by show w1.heap.size + 1 < w2.heap.size; omega)).trans cw2_1_1
        have cw3_1_2 := (nw3.cell (p := ⟨w1.heap.size + 1, 2, none⟩) (by show w1.heap.size + 1 < w2.heap.size; omega)).trans cw2_1_2
        have cw3_1_3 := (nw3.cell (p := ⟨w1.heap.size + 1, 3, none⟩) (by show w1.heap.size + 1 < w2.heap.size; omega)).trans cw2_1_3
        have rw3_A := SB.step rw2_A (by go_grown) hb
        have bw3 := bw2.trans (nw3.mono bw2.size)
        clear cw2_0_0 cw2_1_0 cw2_1_1 cw2_1_2 cw2_1_3 rw2_A bw2 lw2_0 lw2_1 nw3 hb
        have lw3_0 : w1.heap.size < w3.heap.size := by omega
        have lw3_1 : w1.heap.size + 1 < w3.heap.size := by omega
        go_wp2_with fail
        refine (KO.out _ _ (SB.stepAt rw3_A (by go_grown))).mono ?_
        rintro e w4 ⟨rfl, hb⟩
        have nw4 : Below w3.heap.size w3 w4 := Below.step (by go_grown) hb
        have sw4 : w3.heap.size ≤ w4.heap.size := nw4.size
        have cw4_0_0 := (nw4.cell (p := ⟨w1.heap.size, 0, none⟩) (by show w1.heap.size < w3.heap.size; omega)).trans cw3_0_0
        have cw4_1_0 := (nw4.cell (p := ⟨w1.heap.size + 1, 0, none⟩) (by show w1.heap.size + 1 < w3.heap.size; omega)).trans cw3_1_0
        have cw4_1_1 := (nw4.cell (p := ⟨w1.heap.size + 1, 1, none⟩) (by show w1.heap.size + 1 < w3.heap.size; omega)).trans cw3_1_1
        have cw4_1_2 := (nw4.cell (p := ⟨w1.heap.size + 1, 2, none⟩) (by show w1.heap.size + 1 < w3.heap.size; omega)).trans cw3_1_2
        have cw4_1_3 := (nw4.cell (p := ⟨w1.heap.size + 1, 3, none⟩) (by show w1.heap.size + 1 < w3.heap.size; omega)).trans cw3_1_3
        have rw4_A := SB.step rw3_A (by go_grown) hb
        have bw4 := bw3.trans (nw4.mono bw3.size)
        clear cw3_0_0 cw3_1_0 cw3_1_1 cw3_1_2 cw3_1_3 rw3_A bw3 lw3_0 lw3_1 nw4 hb
        have lw4_0 : w1.heap.size < w4.heap.size := by omega
        have lw4_1 : w1.heap.size + 1 < w4.heap.size := by omega
        go_wp2_with fail
        refine (KV.out _).mono ?_
        rintro e w5 ⟨rfl, hb⟩
        have nw5 : Below w4.heap.size w4 w5 := Below.step (by go_grown) hb
        have sw5 : w4.heap.size ≤ w5.heap.size := nw5.size
        have cw5_0_0 := (nw5.cell (p := ⟨w1.heap.size, 0, none⟩) (by show w1.heap.size < w4.heap.size; omega)).trans cw4_0_0
        have cw5_1_0 := (nw5.cell (p := ⟨w1.heap.size + 1, 0, none⟩) (by show w1.heap.size + 1 < w4.heap.size; omega)).trans cw4_1_0
        have cw5_1_1 := (nw5.cell (p := ⟨w1.heap.size + 1, 1, none⟩) (by show w1.heap.size + 1 < w4.heap.size; omega)).trans cw4_1_1
        have cw5_1_2 := (nw5.cell (p := ⟨w1.heap.size + 1, 2, none⟩) (by show w1.heap.size + 1 < w4.heap.size; omega)).trans cw4_1_2
        have cw5_1_3 := (nw5.cell (p := ⟨w1.heap.size + 1, 3, none⟩) (by show w1.heap.size + 1 < w4.heap.size; omega)).trans cw4_1_3
        have rw5_A := SB.step rw4_A (by go_grown) hb
        have bw5 := bw4.trans (nw5.mono bw4.size)
        clear cw4_0_0 cw4_1_0 cw4_1_1 cw4_1_2 cw4_1_3 rw4_A bw4 lw4_0 lw4_1 nw5 hb
        have lw5_0 : w1.heap.size < w5.heap.size := by omega
        have lw5_1 : w1.heap.size + 1 < w5.heap.size := by omega
        go_wp2_with fail
        go_cut [6, 7] from 38 (fun p q wx => ∃ a g k, p = .pointer (some ⟨g, 0, none⟩) ∧ q = .bool true ∧ w5.heap.size ≤ g ∧ g < wx.heap.size ∧ wx.cell? ⟨g, 0, none⟩ = some (.slice a R.length k) ∧ SB R w5.heap.size wx.heap.size (.slice a R.length k) wx ∧ Below w5.heap.size w5 wx)
        case first =>
          have da0 : w1.heap.size ≠ w5.heap.size := by omega
          have db0 : w5.heap.size ≠ w1.heap.size := by omega
          have da1 : w1.heap.size + 1 ≠ w5.heap.size := by omega
          have db1 : w5.heap.size ≠ w1.heap.size + 1 := by omega
          go_region_held3 (fun V => V.cell? ⟨w1.heap.size, 0, none⟩ = some (.slice d0 A.length e0) ∧ V.cell? ⟨w1.heap.size + 1, 0, none⟩ = some (.int .i64 va) ∧ V.cell? ⟨w1.heap.size + 1, 1, none⟩ = some (.int .i64 vb) ∧ V.cell? ⟨w1.heap.size + 1, 2, none⟩ = some (.int .i64 vc) ∧ V.cell? ⟨w1.heap.size + 1, 3, none⟩ = some (.int .i64 vd)) (go_keep)
          (first
          | (go_at_call 34; refine (K1.out _).mono ?_; rintro e wx ⟨ux, rfl, qx, hbwx⟩; obtain ⟨ax, cx, rfl, _⟩ := id qx; have nL : Below w5.heap.size w5 wx := Below.step (by go_grown) hbwx; have kwx_0_0 := (nL.cell (p := ⟨w1.heap.size, 0, none⟩) (by show w1.heap.size < w5.heap.size; omega)).trans cw5_0_0; have kwx_1_0 := (nL.cell (p := ⟨w1.heap.size + 1, 0, none⟩) (by show w1.heap.size + 1 < w5.heap.size; omega)).trans cw5_1_0; have kwx_1_1 := (nL.cell (p := ⟨w1.heap.size + 1, 1, none⟩) (by show w1.heap.size + 1 < w5.heap.size; omega)).trans cw5_1_1; have kwx_1_2 := (nL.cell (p := ⟨w1.heap.size + 1, 2, none⟩) (by show w1.heap.size + 1 < w5.heap.size; omega)).trans cw5_1_2; have kwx_1_3 := (nL.cell (p := ⟨w1.heap.size + 1, 3, none⟩) (by show w1.heap.size + 1 < w5.heap.size; omega)).trans cw5_1_3; have rO := (qx.mono (Nat.zero_le _)).sb; obtain ⟨hcwx, hfwx⟩ := bcell hbwx; have szwx := hbwx.size; (try simp at szwx); have slwx := nL.size; have dawx0 : w1.heap.size ≠ wx.heap.size := (by omega); have dbwx0 : wx.heap.size ≠ w1.heap.size := (by omega); have dawx1 : w1.heap.size + 1 ≠ wx.heap.size := (by omega); have dbwx1 : wx.heap.size ≠ w1.heap.size + 1 := (by omega); (try (have lzwxc : w5.heap.size < wx.heap.size := (by omega))); clear qx)
          | (go_at_call 17; refine (KA.out _ _ _ (SB.stepAt rw5_A (by go_grown)) (SB.stepAt rO (by go_grown))).mono ?_; rintro e wz ⟨uz, rfl, qz, hbwz⟩; obtain ⟨az, kz, rfl, _⟩ := id qz; have nL : Below w5.heap.size w5 wz := Below.step (by go_grown) hbwz; have kwz_0_0 := (nL.cell (p := ⟨w1.heap.size, 0, none⟩) (by show w1.heap.size < w5.heap.size; omega)).trans cw5_0_0; have kwz_1_0 := (nL.cell (p := ⟨w1.heap.size + 1, 0, none⟩) (by show w1.heap.size + 1 < w5.heap.size; omega)).trans cw5_1_0; have kwz_1_1 := (nL.cell (p := ⟨w1.heap.size + 1, 1, none⟩) (by show w1.heap.size + 1 < w5.heap.size; omega)).trans cw5_1_1; have kwz_1_2 := (nL.cell (p := ⟨w1.heap.size + 1, 2, none⟩) (by show w1.heap.size + 1 < w5.heap.size; omega)).trans cw5_1_2; have kwz_1_3 := (nL.cell (p := ⟨w1.heap.size + 1, 3, none⟩) (by show w1.heap.size + 1 < w5.heap.size; omega)).trans cw5_1_3; obtain ⟨hcwz, hfwz⟩ := bcell hbwz; have szwz := hbwz.size; (try simp at szwz); have slwz := nL.size; have dawz0 : w1.heap.size ≠ wz.heap.size := (by omega); have dbwz0 : wz.heap.size ≠ w1.heap.size := (by omega); have dawz1 : w1.heap.size + 1 ≠ wz.heap.size := (by omega); have dbwz1 : wz.heap.size ≠ w1.heap.size + 1 := (by omega); (try (have lzwzc : w5.heap.size < wz.heap.size := (by omega))); (try (have lzwzwx : wx.heap.size < wz.heap.size := (by omega)))))
          all_goals
            go_wp2_with fail
            go_meet
            case rel => exact ⟨az, _, kz, rfl, rfl, (by first | omega | (simp; omega)), (by first | omega | (simp; done) | (simp; omega)), (by go_simp), (by first | (refine qz.after2 ?_ ?_ <;> first | omega | (simp; done) | (simp; omega)) | (refine qz.after ?_ ?_ <;> first | omega | go_grown | (simp; done) | (simp; omega))), (by go_grown)⟩
        case rest =>
          rename World => w6
          obtain ⟨a3, g3, k3, rfl, rfl, hg3, hl3, cg3, rg3, hb⟩ := hcut
          have nw6 : Below w5.heap.size w5 w6 := Below.step (by go_grown) hb
          have sw6 : w5.heap.size ≤ w6.heap.size := nw6.size
          have cw6_0_0 := (nw6.cell (p := ⟨w1.heap.size, 0, none⟩) (by show w1.heap.size < w5.heap.size; omega)).trans cw5_0_0
          have cw6_1_0 := (nw6.cell (p := ⟨w1.heap.size + 1, 0, none⟩) (by show w1.heap.size + 1 < w5.heap.size; omega)).trans cw5_1_0
          have cw6_1_1 := (nw6.cell (p := ⟨w1.heap.size + 1, 1, none⟩) (by show w1.heap.size + 1 < w5.heap.size; omega)).trans cw5_1_1
          have cw6_1_2 := (nw6.cell (p := ⟨w1.heap.size + 1, 2, none⟩) (by show w1.heap.size + 1 < w5.heap.size; omega)).trans cw5_1_2
          have cw6_1_3 := (nw6.cell (p := ⟨w1.heap.size + 1, 3, none⟩) (by show w1.heap.size + 1 < w5.heap.size; omega)).trans cw5_1_3
          have rw6_A := SB.step rw5_A (by go_grown) hb
          have bw6 := bw5.trans (nw6.mono bw5.size)
          clear cw5_0_0 cw5_1_0 cw5_1_1 cw5_1_2 cw5_1_3 rw5_A bw5 lw5_0 lw5_1 nw6 hb
          have lw6_0 : w1.heap.size < w6.heap.size := by omega
          have lw6_1 : w1.heap.size + 1 < w6.heap.size := by omega
          go_wp2_with fail
          go_region_held3 (fun V => V.cell? ⟨w1.heap.size + 1, 0, none⟩ = some (.int .i64 va) ∧ V.cell? ⟨w1.heap.size + 1, 1, none⟩ = some (.int .i64 vb) ∧ V.cell? ⟨w1.heap.size + 1, 2, none⟩ = some (.int .i64 vc) ∧ V.cell? ⟨w1.heap.size + 1, 3, none⟩ = some (.int .i64 vd) ∧ V.cell? ⟨g3, 0, none⟩ = some (.slice a3 R.length k3)) (go_keep)
          (first
          | (go_at_call 34; refine (K1.out _).mono ?_; rintro e wx ⟨ux, rfl, qx, hbx⟩; obtain ⟨ax, cx, rfl, _⟩ := id qx; have nL : Below w6.heap.size w6 wx := Below.step (by go_grown) hbx; have kwx_0_0 := (nL.cell (p := ⟨w1.heap.size + 1, 0, none⟩) (by show w1.heap.size + 1 < w6.heap.size; omega)).trans cw6_1_0; have kwx_0_1 := (nL.cell (p := ⟨w1.heap.size + 1, 1, none⟩) (by show w1.heap.size + 1 < w6.heap.size; omega)).trans cw6_1_1; have kwx_0_2 := (nL.cell (p := ⟨w1.heap.size + 1, 2, none⟩) (by show w1.heap.size + 1 < w6.heap.size; omega)).trans cw6_1_2; have kwx_0_3 := (nL.cell (p := ⟨w1.heap.size + 1, 3, none⟩) (by show w1.heap.size + 1 < w6.heap.size; omega)).trans cw6_1_3; have kwx_1_0 := (nL.cell (p := ⟨g3, 0, none⟩) (by show g3 < w6.heap.size; omega)).trans cg3; have rO := (qx.mono (Nat.zero_le _)).sb; clear qx)
          | (go_at_call 26; refine (KE.out _ _ _ (SB.stepAt rg3 (by go_grown)) (SB.stepAt rO (by go_grown))).mono ?_; rintro e wy ⟨rfl, hby⟩; have nL : Below w6.heap.size w6 wy := Below.step (by go_grown) hby; have kwy_0_0 := (nL.cell (p := ⟨w1.heap.size + 1, 0, none⟩) (by show w1.heap.size + 1 < w6.heap.size; omega)).trans cw6_1_0; have kwy_0_1 := (nL.cell (p := ⟨w1.heap.size + 1, 1, none⟩) (by show w1.heap.size + 1 < w6.heap.size; omega)).trans cw6_1_1; have kwy_0_2 := (nL.cell (p := ⟨w1.heap.size + 1, 2, none⟩) (by show w1.heap.size + 1 < w6.heap.size; omega)).trans cw6_1_2; have kwy_0_3 := (nL.cell (p := ⟨w1.heap.size + 1, 3, none⟩) (by show w1.heap.size + 1 < w6.heap.size; omega)).trans cw6_1_3; have kwy_1_0 := (nL.cell (p := ⟨g3, 0, none⟩) (by show g3 < w6.heap.size; omega)).trans cg3)
          | (go_at_call 27; refine (implAll_any _).mono ?_; rintro e wq ⟨uq, rfl, qq, hbq⟩; obtain ⟨aq, cq, rfl, _⟩ := id qq; have nL : Below w6.heap.size w6 wq := Below.step (by go_grown) hbq; have kwq_0_0 := (nL.cell (p := ⟨w1.heap.size + 1, 0, none⟩) (by show w1.heap.size + 1 < w6.heap.size; omega)).trans cw6_1_0; have kwq_0_1 := (nL.cell (p := ⟨w1.heap.size + 1, 1, none⟩) (by show w1.heap.size + 1 < w6.heap.size; omega)).trans cw6_1_1; have kwq_0_2 := (nL.cell (p := ⟨w1.heap.size + 1, 2, none⟩) (by show w1.heap.size + 1 < w6.heap.size; omega)).trans cw6_1_2; have kwq_0_3 := (nL.cell (p := ⟨w1.heap.size + 1, 3, none⟩) (by show w1.heap.size + 1 < w6.heap.size; omega)).trans cw6_1_3; have kwq_1_0 := (nL.cell (p := ⟨g3, 0, none⟩) (by show g3 < w6.heap.size; omega)).trans cg3; have rQ := (qq.mono (Nat.zero_le _)).sb; clear qq)
          | (go_at_call_of 30 (Value.slice none 0 0); refine (KN.out _).mono ?_; rintro e wr ⟨rfl, hbr⟩; have nL : Below w6.heap.size w6 wr := Below.step (by go_grown) hbr; have kwr_0_0 := (nL.cell (p := ⟨w1.heap.size + 1, 0, none⟩) (by show w1.heap.size + 1 < w6.heap.size; omega)).trans cw6_1_0; have kwr_0_1 := (nL.cell (p := ⟨w1.heap.size + 1, 1, none⟩) (by show w1.heap.size + 1 < w6.heap.size; omega)).trans cw6_1_1; have kwr_0_2 := (nL.cell (p := ⟨w1.heap.size + 1, 2, none⟩) (by show w1.heap.size + 1 < w6.heap.size; omega)).trans cw6_1_2; have kwr_0_3 := (nL.cell (p := ⟨w1.heap.size + 1, 3, none⟩) (by show w1.heap.size + 1 < w6.heap.size; omega)).trans cw6_1_3; have kwr_1_0 := (nL.cell (p := ⟨g3, 0, none⟩) (by show g3 < w6.heap.size; omega)).trans cg3)
          | (go_at_call 30; refine (KL.out _ _ (SB.stepAt rQ (by go_grown))).mono ?_; rintro e ws ⟨rfl, hbs⟩; have nL : Below w6.heap.size w6 ws := Below.step (by go_grown) hbs; have kws_0_0 := (nL.cell (p := ⟨w1.heap.size + 1, 0, none⟩) (by show w1.heap.size + 1 < w6.heap.size; omega)).trans cw6_1_0; have kws_0_1 := (nL.cell (p := ⟨w1.heap.size + 1, 1, none⟩) (by show w1.heap.size + 1 < w6.heap.size; omega)).trans cw6_1_1; have kws_0_2 := (nL.cell (p := ⟨w1.heap.size + 1, 2, none⟩) (by show w1.heap.size + 1 < w6.heap.size; omega)).trans cw6_1_2; have kws_0_3 := (nL.cell (p := ⟨w1.heap.size + 1, 3, none⟩) (by show w1.heap.size + 1 < w6.heap.size; omega)).trans cw6_1_3; have kws_1_0 := (nL.cell (p := ⟨g3, 0, none⟩) (by show g3 < w6.heap.size; omega)).trans cg3))
          all_goals
            go_wp2_with fail
            go_ret
            exact ⟨rfl, bw6.trans (nL.mono bw6.size)⟩
      · go_wp2_with fail
        refine (KI.out _ _ (SB.stepAt rA (by go_grown))).mono ?_
        rintro e w2 ⟨rfl, hb⟩
        have nw2 : Below w1.heap.size w1 w2 := Below.step (by go_grown) hb
        have sw2 : w1.heap.size + 2 ≤ w2.heap.size := by have := hb.size; simp at this; omega
        have cw2_0_0 : w2.cell? ⟨w1.heap.size, 0, none⟩ = some (.slice d0 A.length e0) := (hb.cell (p := ⟨w1.heap.size, 0, none⟩) (by first | (simp; done) | (simp; omega))).trans (by go_simp)
        have cw2_1_0 : w2.cell? ⟨w1.heap.size + 1, 0, none⟩ = some (.int .i64 va) := (hb.cell (p := ⟨w1.heap.size + 1, 0, none⟩) (by first | (simp; done) | (simp; omega))).trans (by go_simp)
        have cw2_1_1 : w2.cell? ⟨w1.heap.size + 1, 1, none⟩ = some (.int .i64 vb) := (hb.cell (p := ⟨w1.heap.size + 1, 1, none⟩) (by first | (simp; done) | (simp; omega))).trans (by go_simp)
        have cw2_1_2 : w2.cell? ⟨w1.heap.size + 1, 2, none⟩ = some (.int .i64 vc) := (hb.cell (p := ⟨w1.heap.size + 1, 2, none⟩) (by first | (simp; done) | (simp; omega))).trans (by go_simp)
        have cw2_1_3 : w2.cell? ⟨w1.heap.size + 1, 3, none⟩ = some (.int .i64 vd) := (hb.cell (p := ⟨w1.heap.size + 1, 3, none⟩) (by first | (simp; done) | (simp; omega))).trans (by go_simp)
        have rw2_A := SB.step rA (by go_grown) hb
        have bw2 := b1.trans (nw2.mono b1.size)
        clear rA b1 nw2 hb
        have lw2_0 : w1.heap.size < w2.heap.size := by omega
        have lw2_1 : w1.heap.size + 1 < w2.heap.size := by omega
        go_wp2_with fail
        refine (KS.out _ _ (SB.stepAt rw2_A (by go_grown))).mono ?_
        rintro e w3 ⟨rfl, hb⟩
        have nw3 : Below w2.heap.size w2 w3 := Below.step (by go_grown) hb
        have sw3 : w2.heap.size ≤ w3.heap.size := nw3.size
        have cw3_0_0 := (nw3.cell (p := ⟨w1.heap.size, 0, none⟩) (by show w1.heap.size < w2.heap.size; omega)).trans cw2_0_0
        have cw3_1_0 := (nw3.cell (p := ⟨w1.heap.size + 1, 0, none⟩) (by show w1.heap.size + 1 < w2.heap.size; omega)).trans cw2_1_0
        have cw3_1_1 := (nw3.cell (p := ⟨w1.heap.size + 1, 1, none⟩) (by show w1.heap.size + 1 < w2.heap.size; omega)).trans cw2_1_1
        have cw3_1_2 := (nw3.cell (p := ⟨w1.heap.size + 1, 2, none⟩) (by show w1.heap.size + 1 < w2.heap.size; omega)).trans cw2_1_2
        have cw3_1_3 := (nw3.cell (p := ⟨w1.heap.size + 1, 3, none⟩) (by show w1.heap.size + 1 < w2.heap.size; omega)).trans cw2_1_3
        have rw3_A := SB.step rw2_A (by go_grown) hb
        have bw3 := bw2.trans (nw3.mono bw2.size)
        clear cw2_0_0 cw2_1_0 cw2_1_1 cw2_1_2 cw2_1_3 rw2_A bw2 lw2_0 lw2_1 nw3 hb
        have lw3_0 : w1.heap.size < w3.heap.size := by omega
        have lw3_1 : w1.heap.size + 1 < w3.heap.size := by omega
        go_wp2_with fail
        refine (KO.out _ _ (SB.stepAt rw3_A (by go_grown))).mono ?_
        rintro e w4 ⟨rfl, hb⟩
        have nw4 : Below w3.heap.size w3 w4 := Below.step (by go_grown) hb
        have sw4 : w3.heap.size ≤ w4.heap.size := nw4.size
        have cw4_0_0 := (nw4.cell (p := ⟨w1.heap.size, 0, none⟩) (by show w1.heap.size < w3.heap.size; omega)).trans cw3_0_0
        have cw4_1_0 := (nw4.cell (p := ⟨w1.heap.size + 1, 0, none⟩) (by show w1.heap.size + 1 < w3.heap.size; omega)).trans cw3_1_0
        have cw4_1_1 := (nw4.cell (p := ⟨w1.heap.size + 1, 1, none⟩) (by show w1.heap.size + 1 < w3.heap.size; omega)).trans cw3_1_1
        have cw4_1_2 := (nw4.cell (p := ⟨w1.heap.size + 1, 2, none⟩) (by show w1.heap.size + 1 < w3.heap.size; omega)).trans cw3_1_2
        have cw4_1_3 := (nw4.cell (p := ⟨w1.heap.size + 1, 3, none⟩) (by show w1.heap.size + 1 < w3.heap.size; omega)).trans cw3_1_3
        have rw4_A := SB.step rw3_A (by go_grown) hb
        have bw4 := bw3.trans (nw4.mono bw3.size)
        clear cw3_0_0 cw3_1_0 cw3_1_1 cw3_1_2 cw3_1_3 rw3_A bw3 lw3_0 lw3_1 nw4 hb
        have lw4_0 : w1.heap.size < w4.heap.size := by omega
        have lw4_1 : w1.heap.size + 1 < w4.heap.size := by omega
        go_wp2_with fail
        refine (KV.out _).mono ?_
        rintro e w5 ⟨rfl, hb⟩
        have nw5 : Below w4.heap.size w4 w5 := Below.step (by go_grown) hb
        have sw5 : w4.heap.size ≤ w5.heap.size := nw5.size
        have cw5_0_0 := (nw5.cell (p := ⟨w1.heap.size, 0, none⟩) (by show w1.heap.size < w4.heap.size; omega)).trans cw4_0_0
        have cw5_1_0 := (nw5.cell (p := ⟨w1.heap.size + 1, 0, none⟩) (by show w1.heap.size + 1 < w4.heap.size; omega)).trans cw4_1_0
        have cw5_1_1 := (nw5.cell (p := ⟨w1.heap.size + 1, 1, none⟩) (by show w1.heap.size + 1 < w4.heap.size; omega)).trans cw4_1_1
        have cw5_1_2 := (nw5.cell (p := ⟨w1.heap.size + 1, 2, none⟩) (by show w1.heap.size + 1 < w4.heap.size; omega)).trans cw4_1_2
        have cw5_1_3 := (nw5.cell (p := ⟨w1.heap.size + 1, 3, none⟩) (by show w1.heap.size + 1 < w4.heap.size; omega)).trans cw4_1_3
        have rw5_A := SB.step rw4_A (by go_grown) hb
        have bw5 := bw4.trans (nw5.mono bw4.size)
        clear cw4_0_0 cw4_1_0 cw4_1_1 cw4_1_2 cw4_1_3 rw4_A bw4 lw4_0 lw4_1 nw5 hb
        have lw5_0 : w1.heap.size < w5.heap.size := by omega
        have lw5_1 : w1.heap.size + 1 < w5.heap.size := by omega
        go_wp2_with fail
        go_cut [6, 7] from 38 (fun p q wx => ∃ a g k, p = .pointer (some ⟨g, 0, none⟩) ∧ q = .bool true ∧ w5.heap.size ≤ g ∧ g < wx.heap.size ∧ wx.cell? ⟨g, 0, none⟩ = some (.slice a R.length k) ∧ SB R w5.heap.size wx.heap.size (.slice a R.length k) wx ∧ Below w5.heap.size w5 wx)
        case first =>
          have da0 : w1.heap.size ≠ w5.heap.size := by omega
          have db0 : w5.heap.size ≠ w1.heap.size := by omega
          have da1 : w1.heap.size + 1 ≠ w5.heap.size := by omega
          have db1 : w5.heap.size ≠ w1.heap.size + 1 := by omega
          go_region_held3 (fun V => V.cell? ⟨w1.heap.size, 0, none⟩ = some (.slice d0 A.length e0) ∧ V.cell? ⟨w1.heap.size + 1, 0, none⟩ = some (.int .i64 va) ∧ V.cell? ⟨w1.heap.size + 1, 1, none⟩ = some (.int .i64 vb) ∧ V.cell? ⟨w1.heap.size + 1, 2, none⟩ = some (.int .i64 vc) ∧ V.cell? ⟨w1.heap.size + 1, 3, none⟩ = some (.int .i64 vd)) (go_keep)
          (first
          | (go_at_call 34; refine (K1.out _).mono ?_; rintro e wx ⟨ux, rfl, qx, hbwx⟩; obtain ⟨ax, cx, rfl, _⟩ := id qx; have nL : Below w5.heap.size w5 wx := Below.step (by go_grown) hbwx; have kwx_0_0 := (nL.cell (p := ⟨w1.heap.size, 0, none⟩) (by show w1.heap.size < w5.heap.size; omega)).trans cw5_0_0; have kwx_1_0 := (nL.cell (p := ⟨w1.heap.size + 1, 0, none⟩) (by show w1.heap.size + 1 < w5.heap.size; omega)).trans cw5_1_0; have kwx_1_1 := (nL.cell (p := ⟨w1.heap.size + 1, 1, none⟩) (by show w1.heap.size + 1 < w5.heap.size; omega)).trans cw5_1_1; have kwx_1_2 := (nL.cell (p := ⟨w1.heap.size + 1, 2, none⟩) (by show w1.heap.size + 1 < w5.heap.size; omega)).trans cw5_1_2; have kwx_1_3 := (nL.cell (p := ⟨w1.heap.size + 1, 3, none⟩) (by show w1.heap.size + 1 < w5.heap.size; omega)).trans cw5_1_3; have rO := (qx.mono (Nat.zero_le _)).sb; obtain ⟨hcwx, hfwx⟩ := bcell hbwx; have szwx := hbwx.size; (try simp at szwx); have slwx := nL.size; have dawx0 : w1.heap.size ≠ wx.heap.size := (by omega); have dbwx0 : wx.heap.size ≠ w1.heap.size := (by omega); have dawx1 : w1.heap.size + 1 ≠ wx.heap.size := (by omega); have dbwx1 : wx.heap.size ≠ w1.heap.size + 1 := (by omega); (try (have lzwxc : w5.heap.size < wx.heap.size := (by omega))); clear qx)
          | (go_at_call 17; refine (KA.out _ _ _ (SB.stepAt rw5_A (by go_grown)) (SB.stepAt rO (by go_grown))).mono ?_; rintro e wz ⟨uz, rfl, qz, hbwz⟩; obtain ⟨az, kz, rfl, _⟩ := id qz; have nL : Below w5.heap.size w5 wz := Below.step (by go_grown) hbwz; have kwz_0_0 := (nL.cell (p := ⟨w1.heap.size, 0, none⟩) (by show w1.heap.size < w5.heap.size; omega)).trans cw5_0_0; have kwz_1_0 := (nL.cell (p := ⟨w1.heap.size + 1, 0, none⟩) (by show w1.heap.size + 1 < w5.heap.size; omega)).trans cw5_1_0; have kwz_1_1 := (nL.cell (p := ⟨w1.heap.size + 1, 1, none⟩) (by show w1.heap.size + 1 < w5.heap.size; omega)).trans cw5_1_1; have kwz_1_2 := (nL.cell (p := ⟨w1.heap.size + 1, 2, none⟩) (by show w1.heap.size + 1 < w5.heap.size; omega)).trans cw5_1_2; have kwz_1_3 := (nL.cell (p := ⟨w1.heap.size + 1, 3, none⟩) (by show w1.heap.size + 1 < w5.heap.size; omega)).trans cw5_1_3; obtain ⟨hcwz, hfwz⟩ := bcell hbwz; have szwz := hbwz.size; (try simp at szwz); have slwz := nL.size; have dawz0 : w1.heap.size ≠ wz.heap.size := (by omega); have dbwz0 : wz.heap.size ≠ w1.heap.size := (by omega); have dawz1 : w1.heap.size + 1 ≠ wz.heap.size := (by omega); have dbwz1 : wz.heap.size ≠ w1.heap.size + 1 := (by omega); (try (have lzwzc : w5.heap.size < wz.heap.size := (by omega))); (try (have lzwzwx : wx.heap.size < wz.heap.size := (by omega)))))
          all_goals
            go_wp2_with fail
            go_meet
            case rel => exact ⟨az, _, kz, rfl, rfl, (by first | omega | (simp; omega)), (by first | omega | (simp; done) | (simp; omega)), (by go_simp), (by first | (refine qz.after2 ?_ ?_ <;> first | omega | (simp; done) | (simp; omega)) | (refine qz.after ?_ ?_ <;> first | omega | go_grown | (simp; done) | (simp; omega))), (by go_grown)⟩
        case rest =>
          rename World => w6
          obtain ⟨a3, g3, k3, rfl, rfl, hg3, hl3, cg3, rg3, hb⟩ := hcut
          have nw6 : Below w5.heap.size w5 w6 := Below.step (by go_grown) hb
          have sw6 : w5.heap.size ≤ w6.heap.size := nw6.size
          have cw6_0_0 := (nw6.cell (p := ⟨w1.heap.size, 0, none⟩) (by show w1.heap.size < w5.heap.size; omega)).trans cw5_0_0
          have cw6_1_0 := (nw6.cell (p := ⟨w1.heap.size + 1, 0, none⟩) (by show w1.heap.size + 1 < w5.heap.size; omega)).trans cw5_1_0
          have cw6_1_1 := (nw6.cell (p := ⟨w1.heap.size + 1, 1, none⟩) (by show w1.heap.size + 1 < w5.heap.size; omega)).trans cw5_1_1
          have cw6_1_2 := (nw6.cell (p := ⟨w1.heap.size + 1, 2, none⟩) (by show w1.heap.size + 1 < w5.heap.size; omega)).trans cw5_1_2
          have cw6_1_3 := (nw6.cell (p := ⟨w1.heap.size + 1, 3, none⟩) (by show w1.heap.size + 1 < w5.heap.size; omega)).trans cw5_1_3
          have rw6_A := SB.step rw5_A (by go_grown) hb
          have bw6 := bw5.trans (nw6.mono bw5.size)
          clear cw5_0_0 cw5_1_0 cw5_1_1 cw5_1_2 cw5_1_3 rw5_A bw5 lw5_0 lw5_1 nw6 hb
          have lw6_0 : w1.heap.size < w6.heap.size := by omega
          have lw6_1 : w1.heap.size + 1 < w6.heap.size := by omega
          go_wp2_with fail
          go_region_held3 (fun V => V.cell? ⟨w1.heap.size + 1, 0, none⟩ = some (.int .i64 va) ∧ V.cell? ⟨w1.heap.size + 1, 1, none⟩ = some (.int .i64 vb) ∧ V.cell? ⟨w1.heap.size + 1, 2, none⟩ = some (.int .i64 vc) ∧ V.cell? ⟨w1.heap.size + 1, 3, none⟩ = some (.int .i64 vd) ∧ V.cell? ⟨g3, 0, none⟩ = some (.slice a3 R.length k3)) (go_keep)
          (first
          | (go_at_call 34; refine (K1.out _).mono ?_; rintro e wx ⟨ux, rfl, qx, hbx⟩; obtain ⟨ax, cx, rfl, _⟩ := id qx; have nL : Below w6.heap.size w6 wx := Below.step (by go_grown) hbx; have kwx_0_0 := (nL.cell (p := ⟨w1.heap.size + 1, 0, none⟩) (by show w1.heap.size + 1 < w6.heap.size; omega)).trans cw6_1_0; have kwx_0_1 := (nL.cell (p := ⟨w1.heap.size + 1, 1, none⟩) (by show w1.heap.size + 1 < w6.heap.size; omega)).trans cw6_1_1; have kwx_0_2 := (nL.cell (p := ⟨w1.heap.size + 1, 2, none⟩) (by show w1.heap.size + 1 < w6.heap.size; omega)).trans cw6_1_2; have kwx_0_3 := (nL.cell (p := ⟨w1.heap.size + 1, 3, none⟩) (by show w1.heap.size + 1 < w6.heap.size; omega)).trans cw6_1_3; have kwx_1_0 := (nL.cell (p := ⟨g3, 0, none⟩) (by show g3 < w6.heap.size; omega)).trans cg3; have rO := (qx.mono (Nat.zero_le _)).sb; clear qx)
          | (go_at_call 26; refine (KE.out _ _ _ (SB.stepAt rg3 (by go_grown)) (SB.stepAt rO (by go_grown))).mono ?_; rintro e wy ⟨rfl, hby⟩; have nL : Below w6.heap.size w6 wy := Below.step (by go_grown) hby; have kwy_0_0 := (nL.cell (p := ⟨w1.heap.size + 1, 0, none⟩) (by show w1.heap.size + 1 < w6.heap.size; omega)).trans cw6_1_0; have kwy_0_1 := (nL.cell (p := ⟨w1.heap.size + 1, 1, none⟩) (by show w1.heap.size + 1 < w6.heap.size; omega)).trans cw6_1_1; have kwy_0_2 := (nL.cell (p := ⟨w1.heap.size + 1, 2, none⟩) (by show w1.heap.size + 1 < w6.heap.size; omega)).trans cw6_1_2; have kwy_0_3 := (nL.cell (p := ⟨w1.heap.size + 1, 3, none⟩) (by show w1.heap.size + 1 < w6.heap.size; omega)).trans cw6_1_3; have kwy_1_0 := (nL.cell (p := ⟨g3, 0, none⟩) (by show g3 < w6.heap.size; omega)).trans cg3)
          | (go_at_call 27; refine (implAll_any _).mono ?_; rintro e wq ⟨uq, rfl, qq, hbq⟩; obtain ⟨aq, cq, rfl, _⟩ := id qq; have nL : Below w6.heap.size w6 wq := Below.step (by go_grown) hbq; have kwq_0_0 := (nL.cell (p := ⟨w1.heap.size + 1, 0, none⟩) (by show w1.heap.size + 1 < w6.heap.size; omega)).trans cw6_1_0; have kwq_0_1 := (nL.cell (p := ⟨w1.heap.size + 1, 1, none⟩) (by show w1.heap.size + 1 < w6.heap.size; omega)).trans cw6_1_1; have kwq_0_2 := (nL.cell (p := ⟨w1.heap.size + 1, 2, none⟩) (by show w1.heap.size + 1 < w6.heap.size; omega)).trans cw6_1_2; have kwq_0_3 := (nL.cell (p := ⟨w1.heap.size + 1, 3, none⟩) (by show w1.heap.size + 1 < w6.heap.size; omega)).trans cw6_1_3; have kwq_1_0 := (nL.cell (p := ⟨g3, 0, none⟩) (by show g3 < w6.heap.size; omega)).trans cg3; have rQ := (qq.mono (Nat.zero_le _)).sb; clear qq)
          | (go_at_call_of 30 (Value.slice none 0 0); refine (KN.out _).mono ?_; rintro e wr ⟨rfl, hbr⟩; have nL : Below w6.heap.size w6 wr := Below.step (by go_grown) hbr; have kwr_0_0 := (nL.cell (p := ⟨w1.heap.size + 1, 0, none⟩) (by show w1.heap.size + 1 < w6.heap.size; omega)).trans cw6_1_0; have kwr_0_1 := (nL.cell (p := ⟨w1.heap.size + 1, 1, none⟩) (by show w1.heap.size + 1 < w6.heap.size; omega)).trans cw6_1_1; have kwr_0_2 := (nL.cell (p := ⟨w1.heap.size + 1, 2, none⟩) (by show w1.heap.size + 1 < w6.heap.size; omega)).trans cw6_1_2; have kwr_0_3 := (nL.cell (p := ⟨w1.heap.size + 1, 3, none⟩) (by show w1.heap.size + 1 < w6.heap.size; omega)).trans cw6_1_3; have kwr_1_0 := (nL.cell (p := ⟨g3, 0, none⟩) (by show g3 < w6.heap.size; omega)).trans cg3)
          | (go_at_call 30; refine (KL.out _ _ (SB.stepAt rQ (by go_grown))).mono ?_; rintro e ws ⟨rfl, hbs⟩; have nL : Below w6.heap.size w6 ws := Below.step (by go_grown) hbs; have kws_0_0 := (nL.cell (p := ⟨w1.heap.size + 1, 0, none⟩) (by show w1.heap.size + 1 < w6.heap.size; omega)).trans cw6_1_0; have kws_0_1 := (nL.cell (p := ⟨w1.heap.size + 1, 1, none⟩) (by show w1.heap.size + 1 < w6.heap.size; omega)).trans cw6_1_1; have kws_0_2 := (nL.cell (p := ⟨w1.heap.size + 1, 2, none⟩) (by show w1.heap.size + 1 < w6.heap.size; omega)).trans cw6_1_2; have kws_0_3 := (nL.cell (p := ⟨w1.heap.size + 1, 3, none⟩) (by show w1.heap.size + 1 < w6.heap.size; omega)).trans cw6_1_3; have kws_1_0 := (nL.cell (p := ⟨g3, 0, none⟩) (by show g3 < w6.heap.size; omega)).trans cg3))
          all_goals
            go_wp2_with fail
            go_ret
            exact ⟨rfl, bw6.trans (nL.mono bw6.size)⟩

set_option maxHeartbeats 1000000 in
theorem rangeHasP_long (a : Option Addr) (len cap : Nat) (w : World) (hl : 1048576 < len) :
    Calls Try.prog 6 #[.slice a len cap] w fun e w' => e = .returned (.bool true) ∧ Below w.heap.size w w' := by
  go_enter Try.func6, Try.ntmps6
  go_wp2
  go_ret
  exact ⟨rfl, Below.refl _ _⟩

theorem rangeHasP_walk (a : Option Addr) (len cap : Nat) (w : World) (h : CodeIn w a len cap) :
    Calls Try.prog 6 #[.slice a len cap] w fun e w' => e = .returned (.bool true) ∧ Below w.heap.size w w' := by
  by_cases hl : len ≤ 1048576
  · exact rangeHasP_short a len cap w h hl
  · exact rangeHasP_long a len cap w (by omega)

theorem rangeHasP_holds : Rows.FnRangeHasSaid :=
  OpenClaim.holds_of_wide 6 Try.f6 rfl rfl rfl rfl rfl rfl rfl ⟨rfl, rfl, rfl, rfl, rfl⟩ rfl rfl rfl rfl rfl (by kernel_rfl) Try.func6 (by kernel_rfl)
    (of_decide_eq_true (by kernel_rfl)) (by unfold Func.isWrapper; rw [if_neg (by decide +kernel)]; exact ⟨rfl, rfl⟩)
    (fun os started H enc _ => law_lifted (s := Rows.fnRangeHasSpec) (tb := 4) own started laid (by kernel_rfl) Try.func6 rfl (by kernel_rfl) Try.underlying4 (by kernel_rfl)
      (fun ds h => by rw [Try.params6] at h; match ds, h with | [_], _ => rfl)
      (ChangeSpec.witness6 (enc := enc) (C := Try.checked) false ⟨#[], #[.slice none 0 0], []⟩ 8 (by kernel_rfl) (by kernel_rfl) (by kernel_rfl) (by kernel_rfl))
      (law_code Try.params6 rangeHasP_walk))
#print axioms rangeHasP_holds

end Go.Proofs.Ytflmljgmmcdniaa

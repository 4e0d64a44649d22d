/- At every code the law FnRangeText returns true: the program and the model write the drawn range alike; what is no range is written as nothing, and only no spans as a dash. No condition. -/
import Derived.Test.YtflmljgmmcdniaaDrngd
import Derived.Test.YtflmljgmmcdniaaSame
import Derived.Test.YtflmljgmmcdniaaStp
import Derived.Test.YtflmljgmmcdniaaSb
import Derived.Test.YtflmljgmmcdniaaDdraw
import Derived.Test.YtflmljgmmcdniaaPsm
import Derived.Test.YtflmljgmmcdniaaImtext
import Derived.Test.YtflmljgmmcdniaaSptext
import Derived.Test.YtflmljgmmcdniaaTxs
import Derived.Deep.RegionHeld3
namespace Go.Proofs.Ytflmljgmmcdniaa
open Go.ChangeShapes Go.WideShapes Go.ChangeAt Go.RowKit Go.Joins Go.Sort

set_option maxRecDepth 100000 in
set_option maxHeartbeats 8000000 in
theorem rangeTextP_short (a : Option Addr) (len cap : Nat) (w : World) (h : CodeIn w a len cap) (hl : len ≤ 1048576) :
    Calls Try.prog 13 #[.slice a len cap] w fun e w' => e = .returned (.bool true) ∧ Below w.heap.size w w' := by
  go_enter Try.func13, Try.ntmps13
  go_wp2_with fail
  refine (DrawRangeText_any a len cap w h).mono ?_
  rintro e w1 ⟨A, u0, rfl, q0, hA41, b1⟩
  obtain ⟨d0, e0, rfl, _⟩ := id q0
  have rA := (q0.mono (Nat.zero_le _)).sb
  have hA : A.length ≤ 1048576 := by omega
  have z1 := b1.size
  clear h q0 hA41
  have KI : Hid (∀ V u, SpAt V V.heap.size u A → Calls Try.prog 47 #[.agg #[u]] V fun e w' => e = .returned (.string (textR A)) ∧ Below V.heap.size V w') := Lib.hid fun V u h => implRangeText_any u A V hA h
  have KS : Hid (∀ V u, SpAt V V.heap.size u A → Calls Try.prog 48 #[.agg #[u]] V fun e w' => e = .returned (.string (textR A)) ∧ Below V.heap.size V w') := Lib.hid fun V u h => specRangeText_any u A V hA h
  have KO : Hid (∀ V u, SpAt V V.heap.size u A → Calls Try.prog 24 #[.agg #[u]] V fun e w' => e = .returned (.bool (spOk A)) ∧ Below V.heap.size V w') := Lib.hid fun V u h => rngOk_is hA h
  rcases ho : spOk A
  · have hs : textR A = ⟨#[]⟩ := by simp [textR, ho]
    rw [hs] at KI KS
    rw [ho] at KO
    clear hs ho
    go_wp2_with fail
    refine (KI.out _ _ (SB.stepAt rA (by go_grown))).mono ?_
    rintro e w2 ⟨rfl, hb⟩
    have nw2 : Below w1.heap.size w1 w2 := Below.step (by go_grown) hb
    have sw2 : w1.heap.size + 1 ≤ w2.heap.size := by have := hb.size; simp at this; omega
    have cw2_0_0 : w2.cell? ⟨w1.heap.size, 0, none⟩ = some (.slice d0 A.length e0) := (hb.cell (p := ⟨w1.heap.size, 0, none⟩) (by first | (simp; done) | (simp; omega))).trans (by go_simp)
    have rw2_A := SB.step rA (by go_grown) hb
    have bw2 := b1.trans (nw2.mono b1.size)
    clear rA b1 nw2 hb
    have lw2_0 : w1.heap.size < w2.heap.size := by omega
    go_wp2_with fail
    refine (KS.out _ _ (SB.stepAt rw2_A (by go_grown))).mono ?_
    rintro e w3 ⟨rfl, hb⟩
    have nw3 : Below w2.heap.size w2 w3 := Below.step (by go_grown) hb
    have sw3 : w2.heap.size ≤ w3.heap.size := nw3.size
    have cw3_0_0 := (nw3.cell (p := ⟨w1.heap.size, 0, none⟩) (by show w1.heap.size < w2.heap.size; omega)).trans cw2_0_0
    have rw3_A := SB.step rw2_A (by go_grown) hb
    have bw3 := bw2.trans (nw3.mono bw2.size)
    clear cw2_0_0 rw2_A bw2 lw2_0 nw3 hb
    have lw3_0 : w1.heap.size < w3.heap.size := by omega
    go_wp2_with fail
    refine (KO.out _ _ (SB.stepAt rw3_A (by go_grown))).mono ?_
    rintro e w4 ⟨rfl, hb⟩
    have nw4 : Below w3.heap.size w3 w4 := Below.step (by go_grown) hb
    have sw4 : w3.heap.size ≤ w4.heap.size := nw4.size
    have cw4_0_0 := (nw4.cell (p := ⟨w1.heap.size, 0, none⟩) (by show w1.heap.size < w3.heap.size; omega)).trans cw3_0_0
    have rw4_A := SB.step rw3_A (by go_grown) hb
    have bw4 := bw3.trans (nw4.mono bw3.size)
    clear cw3_0_0 rw3_A bw3 lw3_0 nw4 hb
    have lw4_0 : w1.heap.size < w4.heap.size := by omega
    go_wp2_with fail
    refine (KO.out _ _ (SB.stepAt rw4_A (by go_grown))).mono ?_
    rintro e w5 ⟨rfl, hb⟩
    have nw5 : Below w4.heap.size w4 w5 := Below.step (by go_grown) hb
    have sw5 : w4.heap.size ≤ w5.heap.size := nw5.size
    have cw5_0_0 := (nw5.cell (p := ⟨w1.heap.size, 0, none⟩) (by show w1.heap.size < w4.heap.size; omega)).trans cw4_0_0
    have rw5_A := SB.step rw4_A (by go_grown) hb
    have bw5 := bw4.trans (nw5.mono bw4.size)
    clear cw4_0_0 rw4_A bw4 lw4_0 nw5 hb
    have lw5_0 : w1.heap.size < w5.heap.size := by omega
    go_wp2_with fail
    refine (alive_any _).mono ?_
    rintro e w6 ⟨rfl, hb⟩
    have nw6 : Below w5.heap.size w5 w6 := Below.step (by go_grown) hb
    have sw6 : w5.heap.size ≤ w6.heap.size := nw6.size
    have cw6_0_0 := (nw6.cell (p := ⟨w1.heap.size, 0, none⟩) (by show w1.heap.size < w5.heap.size; omega)).trans cw5_0_0
    have rw6_A := SB.step rw5_A (by go_grown) hb
    have bw6 := bw5.trans (nw6.mono bw5.size)
    clear cw5_0_0 rw5_A bw5 lw5_0 nw6 hb
    have lw6_0 : w1.heap.size < w6.heap.size := by omega
    go_wp2_with fail
    go_ret
    exact ⟨rfl, bw6.trans ((show Below w6.heap.size w6 _ from by go_grown).mono bw6.size)⟩
  · rcases A with _ | ⟨⟨x, y⟩, t⟩
    · have hs : textR [] = ⟨#[45]⟩ := by rw [textR, if_pos ho]; rfl
      rw [hs] at KI KS
      rw [ho] at KO
      clear hs ho
      go_wp2_with fail
      refine (KI.out _ _ (SB.stepAt rA (by go_grown))).mono ?_
      rintro e w2 ⟨rfl, hb⟩
      have nw2 : Below w1.heap.size w1 w2 := Below.step (by go_grown) hb
      have sw2 : w1.heap.size + 1 ≤ w2.heap.size := by have := hb.size; simp at this; omega
      have cw2_0_0 : w2.cell? ⟨w1.heap.size, 0, none⟩ = some (.slice d0 0 e0) := (hb.cell (p := ⟨w1.heap.size, 0, none⟩) (by first | (simp; done) | (simp; omega))).trans (by go_simp)
      have rw2_A := SB.step rA (by go_grown) hb
      have bw2 := b1.trans (nw2.mono b1.size)
      clear rA b1 nw2 hb
      have lw2_0 : w1.heap.size < w2.heap.size := by omega
      go_wp2_with fail
      refine (KS.out _ _ (SB.stepAt rw2_A (by go_grown))).mono ?_
      rintro e w3 ⟨rfl, hb⟩
      have nw3 : Below w2.heap.size w2 w3 := Below.step (by go_grown) hb
      have sw3 : w2.heap.size ≤ w3.heap.size := nw3.size
      have cw3_0_0 := (nw3.cell (p := ⟨w1.heap.size, 0, none⟩) (by show w1.heap.size < w2.heap.size; omega)).trans cw2_0_0
      have rw3_A := SB.step rw2_A (by go_grown) hb
      have bw3 := bw2.trans (nw3.mono bw2.size)
      clear cw2_0_0 rw2_A bw2 lw2_0 nw3 hb
      have lw3_0 : w1.heap.size < w3.heap.size := by omega
      go_wp2_with fail
      refine (KO.out _ _ (SB.stepAt rw3_A (by go_grown))).mono ?_
      rintro e w4 ⟨rfl, hb⟩
      have nw4 : Below w3.heap.size w3 w4 := Below.step (by go_grown) hb
      have sw4 : w3.heap.size ≤ w4.heap.size := nw4.size
      have cw4_0_0 := (nw4.cell (p := ⟨w1.heap.size, 0, none⟩) (by show w1.heap.size < w3.heap.size; omega)).trans cw3_0_0
      have rw4_A := SB.step rw3_A (by go_grown) hb
      have bw4 := bw3.trans (nw4.mono bw3.size)
      clear cw3_0_0 rw3_A bw3 lw3_0 nw4 hb
      have lw4_0 : w1.heap.size < w4.heap.size := by omega
      go_wp2_with fail
      refine (KO.out _ _ (SB.stepAt rw4_A (by go_grown))).mono ?_
      rintro e w5 ⟨rfl, hb⟩
      have nw5 : Below w4.heap.size w4 w5 := Below.step (by go_grown) hb
      have sw5 : w4.heap.size ≤ w5.heap.size := nw5.size
      have cw5_0_0 := (nw5.cell (p := ⟨w1.heap.size, 0, none⟩) (by show w1.heap.size < w4.heap.size; omega)).trans cw4_0_0
      have rw5_A := SB.step rw4_A (by go_grown) hb
      have bw5 := bw4.trans (nw5.mono bw4.size)
      clear cw4_0_0 rw4_A bw4 lw4_0 nw5 hb
      have lw5_0 : w1.heap.size < w5.heap.size := by omega
      go_wp2_with fail
      refine (alive_any _).mono ?_
      rintro e w6 ⟨rfl, hb⟩
      have nw6 : Below w5.heap.size w5 w6 := Below.step (by go_grown) hb
      have sw6 : w5.heap.size ≤ w6.heap.size := nw6.size
      have cw6_0_0 := (nw6.cell (p := ⟨w1.heap.size, 0, none⟩) (by show w1.heap.size < w5.heap.size; omega)).trans cw5_0_0
      have rw6_A := SB.step rw5_A (by go_grown) hb
      have bw6 := bw5.trans (nw6.mono bw5.size)
      clear cw5_0_0 rw5_A bw5 lw5_0 nw6 hb
      have lw6_0 : w1.heap.size < w6.heap.size := by omega
      go_wp2_with fail
      go_ret
      exact ⟨rfl, bw6.trans ((show Below w6.heap.size w6 _ from by go_grown).mono bw6.size)⟩
    · have hz := textR_long ho
      obtain ⟨s1, s2, s3, s4⟩ := long_facts hz
      clear hz
      rw [ho] at KO
      clear ho
      generalize textR ((x, y) :: t) = s at *
      have hn : (0 : Int) < ((((x, y) :: t : Sps).length : Nat) : Int) := by simp only [List.length_cons]; omega
      have hn1 : (((((x, y) :: t : Sps).length : Nat) : Int) == 0) = false := by rw [beq_eq_false_iff_ne]; omega
      generalize (x, y) :: t = A at *
      go_wp2_with fail
      refine (KI.out _ _ (SB.stepAt rA (by go_grown))).mono ?_
      rintro e w2 ⟨rfl, hb⟩
      have nw2 : Below w1.heap.size w1 w2 := Below.step (by go_grown) hb
      have sw2 : w1.heap.size + 1 ≤ w2.heap.size := by have := hb.size; simp at this; omega
      have cw2_0_0 : w2.cell? ⟨w1.heap.size, 0, none⟩ = some (.slice d0 A.length e0) := (hb.cell (p := ⟨w1.heap.size, 0, none⟩) (by first | (simp; done) | (simp; omega))).trans (by go_simp)
      have rw2_A := SB.step rA (by go_grown) hb
      have bw2 := b1.trans (nw2.mono b1.size)
      clear rA b1 nw2 hb
      have lw2_0 : w1.heap.size < w2.heap.size := by omega
      go_wp2_with fail
      refine (KS.out _ _ (SB.stepAt rw2_A (by go_grown))).mono ?_
      rintro e w3 ⟨rfl, hb⟩
      have nw3 : Below w2.heap.size w2 w3 := Below.step (by go_grown) hb
      have sw3 : w2.heap.size ≤ w3.heap.size := nw3.size
      have cw3_0_0 := (nw3.cell (p := ⟨w1.heap.size, 0, none⟩) (by show w1.heap.size < w2.heap.size; omega)).trans cw2_0_0
      have rw3_A := SB.step rw2_A (by go_grown) hb
      have bw3 := bw2.trans (nw3.mono bw2.size)
      clear cw2_0_0 rw2_A bw2 lw2_0 nw3 hb
      have lw3_0 : w1.heap.size < w3.heap.size := by omega
      go_wp2_with fail
      refine (KO.out _ _ (SB.stepAt rw3_A (by go_grown))).mono ?_
      rintro e w4 ⟨rfl, hb⟩
      have nw4 : Below w3.heap.size w3 w4 := Below.step (by go_grown) hb
      have sw4 : w3.heap.size ≤ w4.heap.size := nw4.size
      have cw4_0_0 := (nw4.cell (p := ⟨w1.heap.size, 0, none⟩) (by show w1.heap.size < w3.heap.size; omega)).trans cw3_0_0
      have rw4_A := SB.step rw3_A (by go_grown) hb
      have bw4 := bw3.trans (nw4.mono bw3.size)
      clear cw3_0_0 rw3_A bw3 lw3_0 nw4 hb
      have lw4_0 : w1.heap.size < w4.heap.size := by omega
      go_wp2_with fail
      refine (KO.out _ _ (SB.stepAt rw4_A (by go_grown))).mono ?_
      rintro e w5 ⟨rfl, hb⟩
      have nw5 : Below w4.heap.size w4 w5 := Below.step (by go_grown) hb
      have sw5 : w4.heap.size ≤ w5.heap.size := nw5.size
      have cw5_0_0 := (nw5.cell (p := ⟨w1.heap.size, 0, none⟩) (by show w1.heap.size < w4.heap.size; omega)).trans cw4_0_0
      have rw5_A := SB.step rw4_A (by go_grown) hb
      have bw5 := bw4.trans (nw5.mono bw4.size)
      clear cw4_0_0 rw4_A bw4 lw4_0 nw5 hb
      have lw5_0 : w1.heap.size < w5.heap.size := by omega
      go_wp2_with fail
      refine (alive_any _).mono ?_
      rintro e w6 ⟨rfl, hb⟩
      have nw6 : Below w5.heap.size w5 w6 := Below.step (by go_grown) hb
      have sw6 : w5.heap.size ≤ w6.heap.size := nw6.size
      have cw6_0_0 := (nw6.cell (p := ⟨w1.heap.size, 0, none⟩) (by show w1.heap.size < w5.heap.size; omega)).trans cw5_0_0
      have rw6_A := SB.step rw5_A (by go_grown) hb
      have bw6 := bw5.trans (nw6.mono bw5.size)
      clear cw5_0_0 rw5_A bw5 lw5_0 nw6 hb
      have lw6_0 : w1.heap.size < w6.heap.size := by omega
      go_wp2_with fail
      go_ret
      exact ⟨rfl, bw6.trans ((show Below w6.heap.size w6 _ from by go_grown).mono bw6.size)⟩

set_option maxHeartbeats 1000000 in
theorem rangeTextP_long (a : Option Addr) (len cap : Nat) (w : World) (hl : 1048576 < len) :
    Calls Try.prog 13 #[.slice a len cap] w fun e w' => e = .returned (.bool true) ∧ Below w.heap.size w w' := by
  go_enter Try.func13, Try.ntmps13
  go_wp2
  go_ret
  exact ⟨rfl, Below.refl _ _⟩

theorem rangeTextP_walk (a : Option Addr) (len cap : Nat) (w : World) (h : CodeIn w a len cap) :
    Calls Try.prog 13 #[.slice a len cap] w fun e w' => e = .returned (.bool true) ∧ Below w.heap.size w w' := by
  by_cases hl : len ≤ 1048576
  · exact rangeTextP_short a len cap w h hl
  · exact rangeTextP_long a len cap w (by omega)

theorem rangeTextP_holds : Rows.FnRangeTextSaid :=
  OpenClaim.holds_of_wide 13 Try.f13 rfl rfl rfl rfl rfl rfl rfl ⟨rfl, rfl, rfl, rfl, rfl⟩ rfl rfl rfl rfl rfl (by kernel_rfl) Try.func13 (by kernel_rfl)
    (of_decide_eq_true (by kernel_rfl)) (by unfold Func.isWrapper; rw [if_neg (by decide +kernel)]; exact ⟨rfl, rfl⟩)
    (fun os started H enc _ => law_lifted (s := Rows.fnRangeTextSpec) (tb := 4) own started laid (by kernel_rfl) Try.func13 rfl (by kernel_rfl) Try.underlying4 (by kernel_rfl)
      (fun ds h => by rw [Try.params13] at h; match ds, h with | [_], _ => rfl)
      (ChangeSpec.witness6 (enc := enc) (C := Try.checked) false ⟨#[], #[.slice none 0 0], []⟩ 8 (by kernel_rfl) (by kernel_rfl) (by kernel_rfl) (by kernel_rfl))
      (law_code Try.params13 rangeTextP_walk))
#print axioms rangeTextP_holds

end Go.Proofs.Ytflmljgmmcdniaa

/- At every code the law FnPickOf returns true: the program and the model find the same version in the drawn picks, and in fine picks each pick is found by its name. No condition. -/
import Derived.BigFrame
import Derived.Test.YtblecmmebmfhiaaDpicks
import Derived.Test.YtblecmmebmfhiaaPkfact
import Derived.Test.YtblecmmebmfhiaaGe
namespace Go.Proofs.Ytblecmmebmfhiaa
open Go.ChangeShapes Go.WideShapes Go.ChangeAt Go.RowKit Go.Joins Go.Sort

namespace Ppo
open Foot Dsh Dpk
def AnyPickOf (w : World) (e : Ending) (w' : World) : Prop := ∃ A va ca, ∃ n : Int, e = .returned (.tuple #[.slice va A.length ca, .int .i64 n]) ∧ PkAt w' w'.heap.size (.slice va A.length ca) A ∧ A.length ≤ 7 ∧ Below w.heap.size w w'

set_option maxRecDepth 100000 in
set_option maxHeartbeats 2000000 in
theorem DrawPickOf_any (a : Option Addr) (len cap : Nat) (w : World) (h : CodeIn w a len cap) : Calls Try.prog 20 #[.slice a len cap] w (AnyPickOf w) := by
  go_enter Try.func20, Try.ntmps20
  go_wp2_with fail
  refine (open_any a len cap _ h).mono ?_
  rintro e w1 ⟨rfl, hr1, hb1⟩
  have hz := rdAt_lt hr1
  have z1 := hb1.size
  go_wp2_with fail
  refine (l20Shelf_any _ 0 4 0 w1 (by omega) hr1 (by omega) (by omega) (by omega)).mono ?_
  rintro e w2 ⟨S, v, fs, rfl, hg, hl, hsz, hd⟩
  have b2 := drawn_below hd hb1 (Nat.le_refl _)
  obtain ⟨sa, caps, rfl, hform, hcap⟩ := hg.form
  obtain ⟨q, hq0, hq1, hr2, hg2⟩ := hd
  have HG := Lib.hid hg
  have z2 := b2.size
  have z12 := hg2.size
  clear hg hr1 hg2 hb1
  go_wp2_with fail
  refine (l20Picks_any _ q w1.heap.size 12 sa caps S fs w2 hr2 (by omega) (by omega) (by omega) HG.out (by omega) hl).mono ?_
  rintro e w3 ⟨A, v, rfl, ho, hA, hd⟩
  have b3 := drawn_below hd b2 (Nat.le_refl _)
  obtain ⟨q3, hq30, hq31, hr3, hg3⟩ := hd
  obtain ⟨va, ca, rfl⟩ := ho.form
  have HO := Lib.hid ho
  have z23 := hg3.size
  clear ho hr2 b2 hg3
  go_wp2_with fail
  refine (pick_any _ q3 9 _ hr3 (by omega)).mono ?_
  rintro e w4 ⟨k4, rfl, a0, a1, y1, hr4, hg4⟩
  have b4 := b3.grown hg4 b3.size (fun k hk => by injection hk with hk; omega)
  have HO4 := Lib.hid (HO.out.drawn hg4 (by omega))
  have z34 := hg4.size
  have a2 : k4 < 9 := a1 (by omega)
  clear y1 hr3 hg4 b3 a1
  go_wp2_with fail
  refine (pick_any _ (q3 + 1) 9 _ hr4 (by omega)).mono ?_
  rintro e w5 ⟨k5, rfl, c0, c1, y1, hr5, hg5⟩
  have b5 := b4.grown hg5 b4.size (fun k hk => by injection hk with hk; omega)
  have HAT := Lib.hid (HO4.out.drawn hg5 (by omega)).at
  have c2 : k5 < 9 := c1 (by omega)
  clear y1 hr4 hg5 b4 c1 hr5
  have m0 : 0 ≤ k5 / 8 := by omega
  have m1 : k5 / 8 ≤ 1 := by omega
  go_wp2_with fail
  exact bodyPost_ret (v := .tuple #[.slice va A.length ca, .int .i64 (k4 - k5 / 8)]) (by simp [results, Try.results20, go_sem]) rfl
    ⟨A, va, ca, _, rfl, HAT.out, hA, b5⟩

set_option maxRecDepth 100000 in
set_option maxHeartbeats 8000000 in
theorem pickOfP_short (a : Option Addr) (len cap : Nat) (w : World) (h : CodeIn w a len cap) (hl : len ≤ 1048576) :
    Calls Try.prog 5 #[.slice a len cap] w fun e w' => e = .returned (.bool true) ∧ Below w.heap.size w w' := by
  go_enter Try.func5, Try.ntmps5
  go_wp2_with fail
  refine (DrawPickOf_any a len cap w h).mono ?_
  rintro e w1 ⟨A, va, ca, n, rfl, hatA, hA7, b1⟩
  have hA : A.length ≤ 1048576 := by omega
  obtain ⟨g1, g2, g3, g4, gb, hgot⟩ : ∃ g1 g2 g3 g4 : Int, ∃ gb : Bool, got (pkOf A n) = .tuple #[ver g1 g2 g3 g4, .bool gb] := by
    rcases pkOf A n with _ | ⟨p, q, r, s⟩
    · exact ⟨0, 0, 0, 0, false, rfl⟩
    · exact ⟨p, q, r, s, true, rfl⟩
  have KI : Hid (∀ V, PkAt V V.heap.size (.slice va A.length ca) A → Calls Try.prog 21 #[.slice va A.length ca, .int .i64 n] V fun e w' => e = .returned (got (pkOf A n)) ∧ Below V.heap.size V w') := Lib.hid fun V g => implPickOf_any _ A n V hA g
  have KS : Hid (∀ V, PkAt V V.heap.size (.slice va A.length ca) A → Calls Try.prog 22 #[.slice va A.length ca, .int .i64 n] V fun e w' => e = .returned (got (pkOf A n)) ∧ Below V.heap.size V w') := Lib.hid fun V g => specPickOf_any _ A n V hA g
  have KA : Hid (∀ V, PkAt V V.heap.size (.slice va A.length ca) A → Calls Try.prog 23 #[.slice va A.length ca] V fun e w' => e = .returned (.bool (pkOk A)) ∧ Below V.heap.size V w') := Lib.hid fun V g => implPicksOk_any _ A V hA g
  have KK : Hid (pkOk A = true → ∀ V, PkAt V V.heap.size (.slice va A.length ca) A → ∀ (k : Nat) (x p q r s : Int), A[k]? = some (x, p, q, r, s) → Calls Try.prog 21 #[.slice va A.length ca, .int .i64 x] V fun e w' => e = .returned (.tuple #[ver p q r s, .bool true]) ∧ Below V.heap.size V w') := Lib.hid fun ho V g k x p q r s hk => by
    have e : pkOf A x = some (p, q, r, s) := by unfold pkOf; rw [if_pos ho]; exact Pkf.get_here ho hk
    have := implPickOf_any _ A x V hA g
    rw [e] at this
    exact this
  rw [hgot] at KI KS
  clear hgot
  have H := Lib.hid hatA
  clear hatA h
  cases gb
  all_goals
    go_wp2_with fail
    refine (KI.out _ H.out).mono ?_
    rintro e w2 ⟨rfl, hb⟩
    have n2 := hb
    clear hb
    obtain ⟨w3, hw3⟩ : ∃ V : World, V = w2.alloc (.cells #[.int .i64 g1, .int .i64 g2, .int .i64 g3, .int .i64 g4] 25) := ⟨_, rfl⟩
    have b3 : Below w2.heap.size w2 w3 := by rw [hw3]; exact (Below.refl _ _).alloc (Nat.le_refl _) _
    have n3 := n2.trans (b3.mono n2.size)
    have z23 : w2.heap.size + 1 ≤ w3.heap.size := by rw [hw3]; simp
    have c0 : w3.cell? ⟨w2.heap.size, 0, none⟩ = some (.int .i64 g1) := by rw [hw3]; go_simp
    have c1 : w3.cell? ⟨w2.heap.size, 1, none⟩ = some (.int .i64 g2) := by rw [hw3]; go_simp
    have c2 : w3.cell? ⟨w2.heap.size, 2, none⟩ = some (.int .i64 g3) := by rw [hw3]; go_simp
    have c3 : w3.cell? ⟨w2.heap.size, 3, none⟩ = some (.int .i64 g4) := by rw [hw3]; go_simp
    go_upto_region 5 with fail
    rw [← hw3]
    clear hw3 b3
    go_wp2_with fail
    refine (KS.out _ (H.out.stepAt n3)).mono ?_
    rintro e w4 ⟨rfl, hb⟩
    have n4 := n3.trans (hb.mono n3.size)
    have z24 : w2.heap.size < w4.heap.size := by have := hb.size; omega
    have e0 := cell_alloc ((hb.cell (p := ⟨w2.heap.size, 0, none⟩) (by show w2.heap.size < w3.heap.size; omega)).trans c0) (.cells #[.int .i64 g1, .int .i64 g2, .int .i64 g3, .int .i64 g4] 25)
    have e1 := cell_alloc ((hb.cell (p := ⟨w2.heap.size, 1, none⟩) (by show w2.heap.size < w3.heap.size; omega)).trans c1) (.cells #[.int .i64 g1, .int .i64 g2, .int .i64 g3, .int .i64 g4] 25)
    have e2 := cell_alloc ((hb.cell (p := ⟨w2.heap.size, 2, none⟩) (by show w2.heap.size < w3.heap.size; omega)).trans c2) (.cells #[.int .i64 g1, .int .i64 g2, .int .i64 g3, .int .i64 g4] 25)
    have e3 := cell_alloc ((hb.cell (p := ⟨w2.heap.size, 3, none⟩) (by show w2.heap.size < w3.heap.size; omega)).trans c3) (.cells #[.int .i64 g1, .int .i64 g2, .int .i64 g3, .int .i64 g4] 25)
    obtain ⟨w5, hw5⟩ : ∃ V : World, V = w4.alloc (.cells #[.int .i64 g1, .int .i64 g2, .int .i64 g3, .int .i64 g4] 25) := ⟨_, rfl⟩
    have b5 : Below w4.heap.size w4 w5 := by rw [hw5]; exact (Below.refl _ _).alloc (Nat.le_refl _) _
    have n5 := n4.trans (b5.mono n4.size)
    have z45 : w4.heap.size + 1 ≤ w5.heap.size := by rw [hw5]; simp
    have f0 : w5.cell? ⟨w4.heap.size, 0, none⟩ = some (.int .i64 g1) := by rw [hw5]; go_simp
    have f1 : w5.cell? ⟨w4.heap.size, 1, none⟩ = some (.int .i64 g2) := by rw [hw5]; go_simp
    have f2 : w5.cell? ⟨w4.heap.size, 2, none⟩ = some (.int .i64 g3) := by rw [hw5]; go_simp
    have f3 : w5.cell? ⟨w4.heap.size, 3, none⟩ = some (.int .i64 g4) := by rw [hw5]; go_simp
    rw [← hw5] at e0 e1 e2 e3
    go_upto_region 6 with fail
    rw [← hw5]
    clear hw5 b5 hb c0 c1 c2 c3
    have hN := verN_alike g1 g2 g3 g4
    go_wp2_with fail
    go_loopw [9] (fun i wr => ∃ k : Nat, k ≤ A.length ∧ i = .int .i64 (k : Int) ∧ Below w1.heap.size w1 wr) (fun i _ => A.length - (intOf i).toNat)
    case atStart => exact ⟨0, Nat.zero_le _, rfl, n5⟩
    case round =>
      obtain ⟨k, hk, rfl, hb⟩ := hrel
      clear e0 e1 e2 e3 f0 f1 f2 f3 hN n5 z45
      have HAT := Lib.hid (H.out.stepAt hb)
      by_cases hlt : k < A.length
      · rcases hoA : pkOk A
        · rw [hoA] at KA
          clear KK hoA
          go_wp2_with fail
          refine (KA.out _ HAT.out).mono ?_
          rintro e w7 ⟨rfl, hb7⟩
          have n7 := hb.trans (hb7.mono hb.size)
          clear hb7
          go_wp2_with fail
          refine (alive_any _).mono ?_
          rintro e w8 ⟨rfl, hb8⟩
          have n8 := n7.trans (hb8.mono n7.size)
          clear hb8
          go_wp2_with fail
          go_ret
          exact ⟨rfl, b1.trans (n8.mono b1.size)⟩
        · have KK2 := Lib.hid (KK.out hoA)
          rw [hoA] at KA
          clear KK hoA
          obtain ⟨gb', go', hva, hB, hc⟩ : ∃ b o, va = some ⟨b, o, none⟩ ∧ b < w1.heap.size ∧ ∀ i (h : i < A.length), PkC w1 b (o + i * 5) A[i] := by
            obtain ⟨a', c', e, hh⟩ := H.out
            simp only [Value.slice.injEq] at e
            obtain ⟨rfl, _, _⟩ := e
            rcases hh with rfl | hh
            · simp at hlt
            · exact hh
          subst hva
          obtain ⟨x, p1, p2, p3, p4, hxy⟩ : ∃ x a b c d, A[k] = (x, a, b, c, d) := ⟨_, _, _, _, _, rfl⟩
          have m1 := (hc k hlt).below hb hB
          rw [hxy] at m1
          obtain ⟨k0, k1, k2, k3, k4⟩ := m1
          simp only at k0 k1 k2 k3 k4
          have HX := Lib.hid (show A[k]? = some (x, p1, p2, p3, p4) by rw [List.getElem?_eq_getElem hlt, hxy])
          clear hxy hc
          rename World => wr
          have zr := hb.size
          have j0 : (0 : Int) ≤ (k : Int) := by omega
          have j1 : (k : Int) < (A.length : Int) := by omega
          go_wp2_with fail
          refine (KA.out _ HAT.out).mono ?_
          rintro e w7 ⟨rfl, hb7⟩
          have n7 := hb.trans (hb7.mono hb.size)
          have l0 := (hb7.cell (p := ⟨gb', go' + k * 5, none⟩) (by show gb' < wr.heap.size; omega)).trans k0
          have l1 := (hb7.cell (p := ⟨gb', go' + k * 5 + 1, none⟩) (by show gb' < wr.heap.size; omega)).trans k1
          have l2 := (hb7.cell (p := ⟨gb', go' + k * 5 + 2, none⟩) (by show gb' < wr.heap.size; omega)).trans k2
          have l3 := (hb7.cell (p := ⟨gb', go' + k * 5 + 3, none⟩) (by show gb' < wr.heap.size; omega)).trans k3
          have l4 := (hb7.cell (p := ⟨gb', go' + k * 5 + 4, none⟩) (by show gb' < wr.heap.size; omega)).trans k4
          have z7 := n7.size
          clear hb7 k0 k1 k2 k3 k4
          go_wp2_with fail
          refine (KK2.out _ (H.out.stepAt n7) k x p1 p2 p3 p4 HX.out).mono ?_
          rintro e w8 ⟨rfl, hb8⟩
          have n8 := n7.trans (hb8.mono n7.size)
          have z8 := n8.size
          obtain ⟨w9, hw9⟩ : ∃ V : World, V = w8.alloc (.cells #[.int .i64 p1, .int .i64 p2, .int .i64 p3, .int .i64 p4] 25) := ⟨_, rfl⟩
          have b9 : Below w8.heap.size w8 w9 := by rw [hw9]; exact (Below.refl _ _).alloc (Nat.le_refl _) _
          have z89 : w8.heap.size + 1 ≤ w9.heap.size := by rw [hw9]; simp
          have n9 := n8.trans (b9.mono n8.size)
          have s1 := (b9.cell (p := ⟨gb', go' + k * 5 + 1, none⟩) (by show gb' < w8.heap.size; omega)).trans ((hb8.cell (p := ⟨gb', go' + k * 5 + 1, none⟩) (by show gb' < w7.heap.size; omega)).trans l1)
          have s2 := (b9.cell (p := ⟨gb', go' + k * 5 + 2, none⟩) (by show gb' < w8.heap.size; omega)).trans ((hb8.cell (p := ⟨gb', go' + k * 5 + 2, none⟩) (by show gb' < w7.heap.size; omega)).trans l2)
          have s3 := (b9.cell (p := ⟨gb', go' + k * 5 + 3, none⟩) (by show gb' < w8.heap.size; omega)).trans ((hb8.cell (p := ⟨gb', go' + k * 5 + 3, none⟩) (by show gb' < w7.heap.size; omega)).trans l3)
          have s4 := (b9.cell (p := ⟨gb', go' + k * 5 + 4, none⟩) (by show gb' < w8.heap.size; omega)).trans ((hb8.cell (p := ⟨gb', go' + k * 5 + 4, none⟩) (by show gb' < w7.heap.size; omega)).trans l4)
          have d0 : w9.cell? ⟨w8.heap.size, 0, none⟩ = some (.int .i64 p1) := by rw [hw9]; go_simp
          have d1 : w9.cell? ⟨w8.heap.size, 1, none⟩ = some (.int .i64 p2) := by rw [hw9]; go_simp
          have d2 : w9.cell? ⟨w8.heap.size, 2, none⟩ = some (.int .i64 p3) := by rw [hw9]; go_simp
          have d3 : w9.cell? ⟨w8.heap.size, 3, none⟩ = some (.int .i64 p4) := by rw [hw9]; go_simp
          go_upto_region 12 with fail
          rw [← hw9]
          clear hw9 b9 hb8 l0 l1 l2 l3 l4
          have t1 := cell_regrown s1
          have t2 := cell_regrown s2
          have t3 := cell_regrown s3
          have t4 := cell_regrown s4
          have u0 := cell_regrown d0
          have u1 := cell_regrown d1
          have u2 := cell_regrown d2
          have u3 := cell_regrown d3
          have hN := verN_alike p1 p2 p3 p4
          clear s1 s2 s3 s4 d0 d1 d2 d3
          refine wp_region_quiet_below (by kernel_rfl) (by kernel_rfl) ?_
          repeat (any_goals (first | go_big_quiet_step (fail) | quiet_step (fail)))
          refine wpQuiet_nil ?_
          intro W2 hw2
          have nn := quiet_end hw2
          clear hw2 t1 t2 t3 t4 u0 u1 u2 u3 hN
          have HN := Lib.hid (n9.trans (nn.mono n9.size))
          go_wp2_with fail
          go_roundw
          case rel => exact ⟨k + 1, by omega, by go_num, HN.out⟩
          case measure => simp [intOf]; omega
      · have hltD : decide ((k : Int) < (A.length : Int)) = false := decide_eq_false (by omega)
        go_wp2_with fail
        refine (alive_any _).mono ?_
        rintro e w8 ⟨rfl, hb8⟩
        have n8 := hb.trans (hb8.mono hb.size)
        clear hb8
        go_wp2_with fail
        go_ret
        exact ⟨rfl, b1.trans (n8.mono b1.size)⟩

set_option maxRecDepth 100000 in
set_option maxHeartbeats 1000000 in
theorem pickOfP_long (a : Option Addr) (len cap : Nat) (w : World) (hl : 1048576 < len) :
    Calls Try.prog 5 #[.slice a len cap] w fun e w' => e = .returned (.bool true) ∧ Below w.heap.size w w' := by
  go_enter Try.func5, Try.ntmps5
  go_wp2
  go_ret
  exact ⟨rfl, Below.refl _ _⟩

theorem pickOfP_walk (a : Option Addr) (len cap : Nat) (w : World) (h : CodeIn w a len cap) :
    Calls Try.prog 5 #[.slice a len cap] w fun e w' => e = .returned (.bool true) ∧ Below w.heap.size w w' := by
  by_cases hl : len ≤ 1048576
  · exact pickOfP_short a len cap w h hl
  · exact pickOfP_long a len cap w (by omega)
end Ppo

set_option maxRecDepth 100000 in
theorem pickOfP_holds : Rows.FnPickOfSaid :=
  OpenClaim.holds_of_wide 5 Try.f5 rfl rfl rfl rfl rfl rfl rfl ⟨rfl, rfl, rfl, rfl, rfl⟩ rfl rfl rfl rfl rfl (by kernel_rfl) Try.func5 (by kernel_rfl)
    (of_decide_eq_true (by kernel_rfl)) (by unfold Func.isWrapper; rw [if_neg (by decide +kernel)]; exact ⟨rfl, rfl⟩)
    (fun os started H enc _ => law_lifted (s := Rows.fnPickOfSpec) (tb := 4) own started laid (by kernel_rfl) Try.func5 rfl (by kernel_rfl) Try.underlying4 (by kernel_rfl)
      (fun ds h => by rw [Try.params5] at h; match ds, h with | [_], _ => rfl)
      (ChangeSpec.witness6 (enc := enc) (C := Try.checked) false ⟨#[], #[.slice none 0 0], []⟩ 8 (by kernel_rfl) (by kernel_rfl) (by kernel_rfl) (by kernel_rfl))
      (law_code Try.params5 Ppo.pickOfP_walk))
#print axioms pickOfP_holds

end Go.Proofs.Ytblecmmebmfhiaa

/- At every code the law FnSolveBest returns true: whatever is drawn as picks, if nothing is wrong with it, the program finds a choice that is right and not less good. No condition. -/
import Derived.BigFrame
import Derived.Test.YtgenjbeamlffmaaGl
import Derived.Test.YtgenjbeamlffmaaGj
import Derived.Test.YtgenjbeamlffmaaGe
namespace Go.Proofs.Ytgenjbeamlffmaa
open Go.ChangeShapes Go.WideShapes Go.ChangeAt Go.RowKit Go.Joins Go.Sort

namespace Psb
open Foot Dsh Dpk Copy Nup Cpu Cfa Rch Svp
set_option maxRecDepth 100000 in
set_option maxHeartbeats 4000000 in
theorem bestP_short (a : Option Addr) (len cap : Nat) (w : World) (h : CodeIn w a len cap) (hl : len ≤ 1048576) :
    Calls Try.prog 11 #[.slice a len cap] w fun e w' => e = .returned (.bool true) ∧ Below w.heap.size w w' := by
  go_enter Try.func11, Try.ntmps11
  go_wp2_with fail
  refine (Dcr.DrawSolveBest_any a len cap w h).mono ?_
  rintro e w1 ⟨S, sa, caps, M, na, ncap, D, da, dc, C, pa, pc, rfl, hat1, hnd1, hd1, hpk1, hl31, hsz, hM9, hM41, hD30, hC30, b1⟩
  have hl' : S.length ≤ 1048576 := by omega
  have hq := hsz.big
  have hm' : M.length ≤ 1048576 := by omega
  have hmq : ∀ q ∈ M, q.2.length ≤ 1048576 := fun q hq => by have := hM41 q hq; omega
  have hd' : D.length ≤ 1048576 := by omega
  have hc' : C.length ≤ 1048576 := by omega
  have KI : Hid (∀ V, RlAt V V.heap.size (.slice sa S.length caps) S → NdAt V V.heap.size (.slice na M.length ncap) M → PkAt V V.heap.size (.slice da D.length dc) D → Calls Try.prog 20 #[.slice sa S.length caps, .slice na M.length ncap, .slice da D.length dc] V (SolvePost (solveL S M D) V)) := Lib.hid fun V g g' g2 => implSolve_any _ _ _ S M D V hl' hq hm' hmq hd' g g' g2
  have KF : Hid (∀ V, RlAt V V.heap.size (.slice sa S.length caps) S → NdAt V V.heap.size (.slice na M.length ncap) M → PkAt V V.heap.size (.slice da D.length dc) D → PkAt V V.heap.size (.slice pa C.length pc) C → Calls Try.prog 57 #[.slice sa S.length caps, .slice na M.length ncap, .slice da D.length dc, .slice pa C.length pc] V fun e w' => e = .returned (.int .i64 (faultF S M D C)) ∧ Below V.heap.size V w') := Lib.hid fun V g g' g2 g3 => implFault_any _ _ _ _ S M D C V hl' hq hm' hmq hd' hc' g g' g2 g3
  have H := Lib.hid hat1
  have HN := Lib.hid hnd1
  have HD := Lib.hid hd1
  have HC := Lib.hid hpk1
  by_cases hf : faultF S M D C = 0
  · rcases hr : solveL S M D with _ | B
    · exact absurd hf (solveL_none hr C)
    obtain ⟨h0, hbt⟩ := solveL_some hr
    have hB8 : B.length ≤ 8 := pk_len (Fine.of (.inr h0)).pk
    have hbf : pkBetter C B = false := by
      rcases hbt C hf with k | k
      · rw [k]
        have := (Pkf.better_law (Fine.of (.inr h0)).pk (Fine.of (.inr h0)).pk).2
        simpa using this
      · have := (Pkf.better_law (Fine.of (.inr h0)).pk (Fine.of (.inr hf)).pk).2
        rw [k, Bool.true_and] at this
        exact this
    have KB : Hid (∀ V u, RlAt V V.heap.size (.slice sa S.length caps) S → NdAt V V.heap.size (.slice na M.length ncap) M → PkAt V V.heap.size (.slice da D.length dc) D → PkAt V V.heap.size u B → Calls Try.prog 57 #[.slice sa S.length caps, .slice na M.length ncap, .slice da D.length dc, u] V fun e w' => e = .returned (.int .i64 0) ∧ Below V.heap.size V w') := Lib.hid fun V u g g' g2 g3 => by
      have := implFault_any _ _ _ u S M D B V hl' hq hm' hmq hd' (by omega) g g' g2 g3
      rwa [h0] at this
    have KC : Hid (∀ V u, PkAt V V.heap.size (.slice pa C.length pc) C → PkAt V V.heap.size u B → Calls Try.prog 59 #[.slice pa C.length pc, u] V fun e w' => e = .returned (.bool false) ∧ Below V.heap.size V w') := Lib.hid fun V u g g' => by
      have := implBetter_any (.slice pa C.length pc) u C B V hc' (by omega) g g'
      rwa [hbf] at this
    rw [hr] at KI
    rw [hf] at KF
    clear hat1 hnd1 hd1 hpk1 h hsz hM41 hq hmq hr h0 hbt hbf hf
    go_wp2_with fail
    refine (KI.out _ H.out HN.out HD.out).mono ?_
    rintro e w2 ⟨v2, rfl, pb2, b2⟩
    have pb2' : PB B w1.heap.size w2.heap.size v2 w2 := pb2
    obtain ⟨ta, tc, rfl, hx⟩ := id pb2'
    have T2 := Lib.hid pb2'.at
    clear hx pb2 pb2'
    go_wp2_with fail
    refine (KF.out _ (H.out.stepAt b2) (HN.out.stepAt b2) (HD.out.stepAt b2) (HC.out.stepAt b2)).mono ?_
    rintro e w3 ⟨rfl, hb⟩
    have b3 := b2.trans (hb.mono b2.size)
    have T3 := Lib.hid (T2.out.stepAt hb)
    clear hb T2 b2
    go_wp2_with fail
    refine (KB.out _ _ (H.out.stepAt b3) (HN.out.stepAt b3) (HD.out.stepAt b3) T3.out).mono ?_
    rintro e w4 ⟨rfl, hb⟩
    have b4 := b3.trans (hb.mono b3.size)
    have T4 := Lib.hid (T3.out.stepAt hb)
    clear hb T3 b3
    go_wp2_with fail
    refine (KC.out _ _ (HC.out.stepAt b4) T4.out).mono ?_
    rintro e w5 ⟨rfl, hb⟩
    have b5 := b4.trans (hb.mono b4.size)
    clear hb T4 b4
    go_wp2_with fail
    refine (alive_any _).mono ?_
    rintro e w9 ⟨rfl, hb⟩
    have b9 := b5.trans (hb.mono b5.size)
    clear hb
    go_wp2_with fail
    go_ret
    exact ⟨rfl, b1.trans (b9.mono b1.size)⟩
  · obtain ⟨f, hff⟩ : ∃ f, faultF S M D C = f := ⟨_, rfl⟩
    rw [hff] at KF hf
    have hfb : (f != 0) = true := by rw [bne_iff_ne]; exact hf
    obtain ⟨R, hR⟩ : ∃ R, solveL S M D = R := ⟨_, rfl⟩
    rw [hR] at KI
    clear hat1 hnd1 hd1 hpk1 h hsz hM41 hq hmq hff hf hR
    go_wp2_with fail
    refine (KI.out _ H.out HN.out HD.out).mono ?_
    rintro e w2 ⟨v2, rfl, pb2, b2⟩
    obtain ⟨ta, tc, rfl, hx⟩ := id pb2
    clear hx pb2
    go_wp2_with fail
    refine (KF.out _ (H.out.stepAt b2) (HN.out.stepAt b2) (HD.out.stepAt b2) (HC.out.stepAt b2)).mono ?_
    rintro e w3 ⟨rfl, hb⟩
    have b3 := b2.trans (hb.mono b2.size)
    clear hb b2
    go_wp2_with fail
    refine (alive_any _).mono ?_
    rintro e w9 ⟨rfl, hb⟩
    have b9 := b3.trans (hb.mono b3.size)
    clear hb
    go_wp2_with fail
    go_ret
    exact ⟨rfl, b1.trans (b9.mono b1.size)⟩

set_option maxRecDepth 100000 in
set_option maxHeartbeats 1000000 in
theorem bestP_long (a : Option Addr) (len cap : Nat) (w : World) (hl : 1048576 < len) :
    Calls Try.prog 11 #[.slice a len cap] w fun e w' => e = .returned (.bool true) ∧ Below w.heap.size w w' := by
  go_enter Try.func11, Try.ntmps11
  go_wp2
  go_ret
  exact ⟨rfl, Below.refl _ _⟩

theorem bestP_walk (a : Option Addr) (len cap : Nat) (w : World) (h : CodeIn w a len cap) :
    Calls Try.prog 11 #[.slice a len cap] w fun e w' => e = .returned (.bool true) ∧ Below w.heap.size w w' := by
  by_cases hl : len ≤ 1048576
  · exact bestP_short a len cap w h hl
  · exact bestP_long a len cap w (by omega)
end Psb

set_option maxRecDepth 100000 in
theorem solveBestP_holds : Rows.FnSolveBestSaid :=
  OpenClaim.holds_of_wide 11 Try.f11 rfl rfl rfl rfl rfl rfl rfl ⟨rfl, rfl, rfl, rfl, rfl⟩ rfl rfl rfl rfl rfl (by kernel_rfl) Try.func11 (by kernel_rfl)
    (of_decide_eq_true (by kernel_rfl)) (by unfold Func.isWrapper; rw [if_neg (by decide +kernel)]; exact ⟨rfl, rfl⟩)
    (fun os started H enc _ => law_lifted (s := Rows.fnSolveBestSpec) (tb := 4) own started laid (by kernel_rfl) Try.func11 rfl (by kernel_rfl) Try.underlying4 (by kernel_rfl)
      (fun ds h => by rw [Try.params11] at h; match ds, h with | [_], _ => rfl)
      (ChangeSpec.witness6 (enc := enc) (C := Try.checked) false ⟨#[], #[.slice none 0 0], []⟩ 8 (by kernel_rfl) (by kernel_rfl) (by kernel_rfl) (by kernel_rfl))
      (law_code Try.params11 Psb.bestP_walk))
#print axioms solveBestP_holds

end Go.Proofs.Ytgenjbeamlffmaa

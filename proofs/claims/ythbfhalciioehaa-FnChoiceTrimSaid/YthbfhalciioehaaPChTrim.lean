/- At every code the law FnChoiceTrim returns true: the program and the model leave out the same picks; what is left of picks that meet all needs is a choice that is fine, and of it nothing more is left out. No condition. -/
import Derived.BigFrame
import Derived.Test.YthbfhalciioehaaDcr
import Derived.Test.YthbfhalciioehaaCrf
import Derived.Test.YthbfhalciioehaaSamep
import Derived.Test.YthbfhalciioehaaCpt
import Derived.Test.YthbfhalciioehaaGe
namespace Go.Proofs.Ythbfhalciioehaa
open Go.ChangeShapes Go.WideShapes Go.ChangeAt Go.RowKit Go.Joins Go.Sort

namespace Pct
open Foot Dsh Dpk Copy Nup Cpu Cfa Rch
set_option maxRecDepth 100000 in
set_option maxHeartbeats 8000000 in
theorem trimP_short (a : Option Addr) (len cap : Nat) (w : World) (h : CodeIn w a len cap) (hl : len ≤ 1048576) :
    Calls Try.prog 9 #[.slice a len cap] w fun e w' => e = .returned (.bool true) ∧ Below w.heap.size w w' := by
  go_enter Try.func9, Try.ntmps9
  go_wp2_with fail
  refine (Dcr.DrawChoiceTrim_any a len cap w h).mono ?_
  rintro e w1 ⟨S, sa, caps, M, na, ncap, C, pa, pc, rfl, hat1, hnd1, hpk1, hl31, hsz, hM9, hM41, hC30, hMc, hCc, b1⟩
  have hl' : S.length ≤ 1048576 := by omega
  have hq := hsz.big
  have hm' : M.length ≤ 1048576 := by omega
  have hmq : ∀ q ∈ M, q.2.length ≤ 1048576 := fun q hq => by have := hM41 q hq; omega
  have hc' : C.length ≤ 1048576 := by omega
  have KI : Hid (∀ V, RlAt V V.heap.size (.slice sa S.length caps) S → NdAt V V.heap.size (.slice na M.length ncap) M → PkAt V V.heap.size (.slice pa C.length pc) C → Calls Try.prog 51 #[.slice sa S.length caps, .slice na M.length ncap, .slice pa C.length pc] V (PbPost (trimL S M C) V)) := Lib.hid fun V g g' g2 => implTrim_any _ _ _ S M C V hl' hq hm' hmq hc' g g' g2
  have KS : Hid (∀ V, RlAt V V.heap.size (.slice sa S.length caps) S → NdAt V V.heap.size (.slice na M.length ncap) M → PkAt V V.heap.size (.slice pa C.length pc) C → Calls Try.prog 53 #[.slice sa S.length caps, .slice na M.length ncap, .slice pa C.length pc] V (PbPost (trimL S M C) V)) := Lib.hid fun V g g' g2 => specTrim_any _ _ _ S M C V hl' hq hm' hmq hc' g g' g2
  have hT30 : (trimL S M C).length ≤ 30 := Nat.le_trans (trimL_len S M C) hC30
  have KT : Hid (∀ V u, RlAt V V.heap.size (.slice sa S.length caps) S → NdAt V V.heap.size (.slice na M.length ncap) M → PkAt V V.heap.size u (trimL S M C) → Calls Try.prog 51 #[.slice sa S.length caps, .slice na M.length ncap, u] V (PbPost (trimL S M C) V)) := Lib.hid fun V u g g' g2 => by
    have := implTrim_any _ _ u S M (trimL S M C) V hl' hq hm' hmq (by omega) g g' g2
    rwa [trim_twice] at this
  have KF : Hid (∀ V, RlAt V V.heap.size (.slice sa S.length caps) S → NdAt V V.heap.size (.slice na M.length ncap) M → PkAt V V.heap.size (.slice pa C.length pc) C → Calls Try.prog 34 #[.slice sa S.length caps, .slice na M.length ncap, .slice pa C.length pc, .slice pa C.length pc] V fun e w' => e = .returned (.int .i64 (faultF S M C C)) ∧ Below V.heap.size V w') := Lib.hid fun V g g' g2 => implFault_any _ _ _ _ S M C C V hl' hq hm' hmq hc' hc' g g' g2 g2
  have KZ : Hid (faultF S M C C = 6 → ∀ V u, RlAt V V.heap.size (.slice sa S.length caps) S → NdAt V V.heap.size (.slice na M.length ncap) M → PkAt V V.heap.size (.slice pa C.length pc) C → PkAt V V.heap.size u (trimL S M C) → Calls Try.prog 34 #[.slice sa S.length caps, .slice na M.length ncap, .slice pa C.length pc, u] V fun e w' => e = .returned (.int .i64 0) ∧ Below V.heap.size V w') := Lib.hid fun h6 V u g g' g2 g3 => by
    have := implFault_any _ _ _ u S M C (trimL S M C) V hl' hq hm' hmq hc' (by omega) g g' g2 g3
    rwa [trim_fine h6] at this
  have H := Lib.hid hat1
  have HN := Lib.hid hnd1
  have HC := Lib.hid hpk1
  generalize trimL S M C = T at KI KS KT KZ hT30
  generalize faultF S M C C = f at KF KZ
  have KE : Hid (∀ V u u', PkAt V V.heap.size u T → PkAt V V.heap.size u' T → Calls Try.prog 52 #[u, u'] V fun e w' => e = .returned (.bool true) ∧ Below V.heap.size V w') := Lib.hid fun V u u' g g' => by
    have := Smp.samePicks_any u u' T T V (by omega) (by omega) g g'
    rwa [decide_eq_true rfl] at this
  clear hat1 hnd1 hpk1 h hsz hM41 hq hmq
  go_wp2_with fail
  refine (KI.out _ H.out HN.out HC.out).mono ?_
  rintro e w2 ⟨v2, rfl, pb2, b2⟩
  obtain ⟨ta, tc, rfl, hx⟩ := id pb2
  have T2 := Lib.hid pb2.at
  clear hx pb2
  go_wp2_with fail
  refine (KS.out _ (H.out.stepAt b2) (HN.out.stepAt b2) (HC.out.stepAt b2)).mono ?_
  rintro e w3 ⟨v3, rfl, pb3, hb⟩
  have b3 := b2.trans (hb.mono b2.size)
  obtain ⟨ja, jc, rfl, hx⟩ := id pb3
  have T3 := Lib.hid (T2.out.stepAt hb)
  have J3 := Lib.hid pb3.at
  clear hx pb3 hb T2 b2
  go_wp2_with fail
  refine (KE.out _ _ _ T3.out J3.out).mono ?_
  rintro e w4 ⟨rfl, hb⟩
  have b4 := b3.trans (hb.mono b3.size)
  have T4 := Lib.hid (T3.out.stepAt hb)
  clear hb T3 J3 b3 KS KI
  by_cases hf : f = 6
  · subst hf
    have KY : Hid (∀ V, RlAt V V.heap.size (.slice sa S.length caps) S → NdAt V V.heap.size (.slice na M.length ncap) M → PkAt V V.heap.size (.slice pa C.length pc) C → PkAt V V.heap.size (.slice ta T.length tc) T → Calls Try.prog 34 #[.slice sa S.length caps, .slice na M.length ncap, .slice pa C.length pc, .slice ta T.length tc] V fun e w' => e = .returned (.int .i64 0) ∧ Below V.heap.size V w') := Lib.hid fun V g g' g2 g3 => KZ.out rfl V _ g g' g2 g3
    clear KZ
    go_wp2_with fail
    refine (KF.out _ (H.out.stepAt b4) (HN.out.stepAt b4) (HC.out.stepAt b4)).mono ?_
    rintro e w5 ⟨rfl, hb⟩
    have b5 := b4.trans (hb.mono b4.size)
    have T5 := Lib.hid (T4.out.stepAt hb)
    clear hb T4 b4
    go_wp2_with fail
    refine (KY.out _ (H.out.stepAt b5) (HN.out.stepAt b5) (HC.out.stepAt b5) T5.out).mono ?_
    rintro e w6 ⟨rfl, hb⟩
    have b6 := b5.trans (hb.mono b5.size)
    have T6 := Lib.hid (T5.out.stepAt hb)
    clear hb T5 b5
    go_wp2_with fail
    refine (KT.out _ _ (H.out.stepAt b6) (HN.out.stepAt b6) T6.out).mono ?_
    rintro e w7 ⟨v7, rfl, pb7, hb⟩
    have b7 := b6.trans (hb.mono b6.size)
    obtain ⟨ja, jc, rfl, hx⟩ := id pb7
    have T7 := Lib.hid (T6.out.stepAt hb)
    have J7 := Lib.hid pb7.at
    clear hx pb7 hb T6 b6
    go_wp2_with fail
    refine (KE.out _ _ _ J7.out T7.out).mono ?_
    rintro e w8 ⟨rfl, hb⟩
    have b8 := b7.trans (hb.mono b7.size)
    clear hb
    go_wp2_with fail
    refine (alive_any _).mono ?_
    rintro e w9 ⟨rfl, hb⟩
    have b9 := b8.trans (hb.mono b8.size)
    clear hb
    go_wp2_with fail
    go_ret
    exact ⟨rfl, b1.trans (b9.mono b1.size)⟩
  · have hfb : (f != 6) = true := by rw [bne_iff_ne]; exact hf
    clear KZ hf
    go_wp2_with fail
    refine (KF.out _ (H.out.stepAt b4) (HN.out.stepAt b4) (HC.out.stepAt b4)).mono ?_
    rintro e w6 ⟨rfl, hb⟩
    have b6 := b4.trans (hb.mono b4.size)
    have T6 := Lib.hid (T4.out.stepAt hb)
    clear hb T4 b4
    go_wp2_with fail
    refine (KT.out _ _ (H.out.stepAt b6) (HN.out.stepAt b6) T6.out).mono ?_
    rintro e w7 ⟨v7, rfl, pb7, hb⟩
    have b7 := b6.trans (hb.mono b6.size)
    obtain ⟨ja, jc, rfl, hx⟩ := id pb7
    have T7 := Lib.hid (T6.out.stepAt hb)
    have J7 := Lib.hid pb7.at
    clear hx pb7 hb T6 b6
    go_wp2_with fail
    refine (KE.out _ _ _ J7.out T7.out).mono ?_
    rintro e w8 ⟨rfl, hb⟩
    have b8 := b7.trans (hb.mono b7.size)
    clear hb
    go_wp2_with fail
    refine (alive_any _).mono ?_
    rintro e w9 ⟨rfl, hb⟩
    have b9 := b8.trans (hb.mono b8.size)
    clear hb
    go_wp2_with fail
    go_ret
    exact ⟨rfl, b1.trans (b9.mono b1.size)⟩

set_option maxRecDepth 100000 in
set_option maxHeartbeats 1000000 in
theorem trimP_long (a : Option Addr) (len cap : Nat) (w : World) (hl : 1048576 < len) :
    Calls Try.prog 9 #[.slice a len cap] w fun e w' => e = .returned (.bool true) ∧ Below w.heap.size w w' := by
  go_enter Try.func9, Try.ntmps9
  go_wp2
  go_ret
  exact ⟨rfl, Below.refl _ _⟩

theorem trimP_walk (a : Option Addr) (len cap : Nat) (w : World) (h : CodeIn w a len cap) :
    Calls Try.prog 9 #[.slice a len cap] w fun e w' => e = .returned (.bool true) ∧ Below w.heap.size w w' := by
  by_cases hl : len ≤ 1048576
  · exact trimP_short a len cap w h hl
  · exact trimP_long a len cap w (by omega)
end Pct

set_option maxRecDepth 100000 in
theorem choiceTrimP_holds : Rows.FnChoiceTrimSaid :=
  OpenClaim.holds_of_wide 9 Try.f9 rfl rfl rfl rfl rfl rfl rfl ⟨rfl, rfl, rfl, rfl, rfl⟩ rfl rfl rfl rfl rfl (by kernel_rfl) Try.func9 (by kernel_rfl)
    (of_decide_eq_true (by kernel_rfl)) (by unfold Func.isWrapper; rw [if_neg (by decide +kernel)]; exact ⟨rfl, rfl⟩)
    (fun os started H enc _ => law_lifted (s := Rows.fnChoiceTrimSpec) (tb := 4) own started laid (by kernel_rfl) Try.func9 rfl (by kernel_rfl) Try.underlying4 (by kernel_rfl)
      (fun ds h => by rw [Try.params9] at h; match ds, h with | [_], _ => rfl)
      (ChangeSpec.witness6 (enc := enc) (C := Try.checked) false ⟨#[], #[.slice none 0 0], []⟩ 8 (by kernel_rfl) (by kernel_rfl) (by kernel_rfl) (by kernel_rfl))
      (law_code Try.params9 Pct.trimP_walk))
#print axioms choiceTrimP_holds

end Go.Proofs.Ythbfhalciioehaa

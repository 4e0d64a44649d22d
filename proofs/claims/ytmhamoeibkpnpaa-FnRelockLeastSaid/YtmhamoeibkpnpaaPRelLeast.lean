/- At every code the law FnRelockLeast returns true: if there is a choice in which nothing is wrong, one is found; it has not more changes, and if it has as many, the other one is not better. No condition. -/
import Derived.Test.YtmhamoeibkpnpaaDlk
import Derived.Test.YtmhamoeibkpnpaaRlr
import Derived.Test.YtmhamoeibkpnpaaRlq
import Derived.Test.YtmhamoeibkpnpaaSamep
import Derived.Test.YtmhamoeibkpnpaaCft
import Derived.Test.YtmhamoeibkpnpaaGu
import Derived.Test.YtmhamoeibkpnpaaGe
namespace Go.Proofs.Ytmhamoeibkpnpaa
open Go.ChangeShapes Go.WideShapes Go.ChangeAt Go.RowKit Go.Joins Go.Sort

namespace Prm
open Foot Dsh Dpk Dch Dfr Dlk Copy Nup Cpu Cfa Rch Smp Svp Lkc Rlk
def AnyLeast (w : World) (e : Ending) (w' : World) : Prop := ∃ S sa caps M na ncap D da dc F vf C vc, e = .returned (.tuple #[.slice sa S.length caps, .slice na M.length ncap, .slice da D.length dc, vf, vc]) ∧ RlAt w' w'.heap.size (.slice sa S.length caps) S ∧ NdAt w' w'.heap.size (.slice na M.length ncap) M ∧ PkAt w' w'.heap.size (.slice da D.length dc) D ∧ InAt w' w'.heap.size vf F ∧ PkAt w' w'.heap.size vc C ∧ S.length ≤ 31 ∧ SzOk S ∧ M.length ≤ 9 ∧ (∀ q ∈ M, q.2.length ≤ 41) ∧ D.length ≤ 30 ∧ F.length ≤ 3 ∧ C.length ≤ 30 ∧ Below w.heap.size w w'
set_option maxRecDepth 100000 in
set_option maxHeartbeats 2000000 in
theorem DrawRelockLeast_any (a : Option Addr) (len cap : Nat) (w : World) (h : CodeIn w a len cap) : Calls Try.prog 18 #[.slice a len cap] w (AnyLeast w) := by
  go_enter Try.func18, Try.ntmps18
  go_wp2_with fail
  refine (open_any a len cap _ h).mono ?_
  rintro e w2 ⟨rfl, hr2, hb2⟩
  have hz2 := rdAt_lt hr2
  go_wp2_with fail
  refine (l20Lock_any _ 0 0 w2 hr2 (by omega) (by omega) (by omega)).mono ?_
  rintro e w3 ⟨S, sa, caps, M, na, ncap, D, da, dc, lo, hi, rfl, hL, hlo, hP, hl, hsz, hm, hm2, hC⟩
  obtain ⟨q3, hq0, hq1, hr3⟩ := hL.rd
  have HL := Lib.hid hL
  have HP := Lib.hid hP
  have b3 := hb2.grown hL.gr hb2.size (fun k hk => by injection hk with hk; omega)
  have z23 := hL.gr.size
  clear hL hP hr2 hb2
  go_wp2_with fail
  refine (l20Freed_any _ q3 w3 hr3 (by omega)).mono ?_
  rintro e w4 ⟨F, vf, rfl, hf, hF, hd⟩
  have b4 := drawn_below hd b3 (by omega)
  obtain ⟨q4, hq40, hq41, hr4, hg4⟩ := hd
  obtain ⟨B, fs, hB, hs⟩ := HL.out.sh
  obtain ⟨B2, lo2, hB2, hlo2, hn⟩ := HL.out.nd
  have HA := Lib.hid (hs.drawn hg4 hB)
  have HN := Lib.hid (hn.drawn hg4 hB2 hlo2)
  have HC := Lib.hid (pb_drawn HP.out hg4 hlo)
  have HFF := Lib.hid hf
  have z34 := hg4.size
  clear hs hn hg4 hf hr3 b3
  go_wp2_with fail
  refine (l20Chosen_any _ q4 B sa na caps ncap S fs M w4 hr4 (by omega) HA.out hB hl hsz HN.out.at hm hm2).mono ?_
  rintro e w5 ⟨C, vc, rfl, ho, hC5, hd⟩
  have b5 := drawn_below hd b4 (by omega)
  obtain ⟨q5, _, _, _, hg5⟩ := hd
  have HA5 := Lib.hid (HA.out.drawn hg5 hB).at
  have HN5 := Lib.hid (HN.out.drawn hg5 hB2 hlo2).at
  have HC5 := Lib.hid (pb_drawn HC.out hg5 hlo).at
  have HF5 := Lib.hid (IOwn.ib (io_drawn HFF.out hg5 (by omega))).at
  have HO5 := Lib.hid ho.at
  clear hg5 ho hr4 b4
  go_wp2_with fail
  exact bodyPost_ret (v := .tuple #[.slice sa S.length caps, .slice na M.length ncap, .slice da D.length dc, vf, vc]) (by simp [results, Try.results18, go_sem]) rfl ⟨S, sa, caps, M, na, ncap, D, da, dc, F, vf, C, vc, rfl, HA5.out, HN5.out, HC5.out, HF5.out, HO5.out, hl, hsz, hm, hm2, hC, hF, hC5, b5⟩

set_option maxRecDepth 100000 in
set_option maxHeartbeats 4000000 in
theorem short (a : Option Addr) (len cap : Nat) (w : World) (h : CodeIn w a len cap) (hl : len ≤ 1048576) :
    Calls Try.prog 5 #[.slice a len cap] w fun e w' => e = .returned (.bool true) ∧ Below w.heap.size w w' := by
  go_enter Try.func5, Try.ntmps5
  go_wp2_with fail
  refine (DrawRelockLeast_any a len cap w h).mono ?_
  rintro e w1 ⟨S, sa, caps, M, na, ncap, D, da, dc, F, vf, C, vc, rfl, hA, hN, hD, hF, hC, lS, hsz, lM, hm2, lD, lF, lC, b1⟩
  have z1 := b1.size
  have mS : S.length ≤ 1048576 := by omega
  have mM : M.length ≤ 1048576 := by omega
  have mD : D.length ≤ 1048576 := by omega
  have mF : F.length ≤ 1048576 := by omega
  have mC : C.length ≤ 1048576 := by omega
  have qS := hsz.big
  have qM : ∀ q ∈ M, q.2.length ≤ 1048576 := fun q hq => by have := hm2 q hq; omega
  have HA := Lib.hid hA
  have HN := Lib.hid hN
  have HD := Lib.hid hD
  have HF := Lib.hid hF
  have HC := Lib.hid hC
  clear hA hN hD hF hC h hsz hm2
  have KI := Lib.hid fun V (g : Below w1.heap.size w1 V) => implRelock_any _ _ _ vf S M D F V mS qS mM qM mD mF (HA.out.stepAt g) (HN.out.stepAt g) (HD.out.stepAt g) (HF.out.stepAt g)
  have hlen := relock_len S M D F
  have mL : ((relockL S M D F).getD []).length ≤ 1048576 := by omega
  have KF : Hid (∀ V, Below w1.heap.size w1 V → Calls Try.prog 17 #[.slice sa S.length caps, .slice na M.length ncap, .slice da D.length dc, vc] V fun e w' => e = .returned (.int .i64 (Cfa.faultF S M D C)) ∧ Below V.heap.size V w') := Lib.hid fun V g => Cfa.implFault_any _ _ _ _ S M D C V mS qS mM qM mD mC (HA.out.stepAt g) (HN.out.stepAt g) (HD.out.stepAt g) (HC.out.stepAt g)
  by_cases h0 : Cfa.faultF S M D C = 0
  · rw [h0] at KF
    match hR : relockL S M D F with
    | none => exact absurd h0 (relock_none hR C)
    | some L =>
      rw [hR] at KI mL
      simp only [Option.getD_some] at mL
      obtain ⟨hfine, hbest⟩ := relock_some hR
      have hb := hbest C h0
      have FL := Fine.of (.inr hfine)
      have FC := Fine.of (.inr h0)
      have KL : Hid (∀ V aa cc, Below w1.heap.size w1 V → PkAt V V.heap.size (.slice aa L.length cc) L → Calls Try.prog 17 #[.slice sa S.length caps, .slice na M.length ncap, .slice da D.length dc, .slice aa L.length cc] V fun e w' => e = .returned (.int .i64 0) ∧ Below V.heap.size V w') := Lib.hid fun V aa cc g gl => by
        have := Cfa.implFault_any _ _ _ _ S M D L V mS qS mM qM mD mL (HA.out.stepAt g) (HN.out.stepAt g) (HD.out.stepAt g) gl
        rwa [hfine] at this
      have K1 : Hid (∀ V aa cc, Below w1.heap.size w1 V → PkAt V V.heap.size (.slice aa L.length cc) L → Calls Try.prog 9 #[.slice da D.length dc, vf, .slice aa L.length cc] V fun e w' => e = .returned (.int .i64 (cost (keptL D F) L : Int)) ∧ Below V.heap.size V w') := Lib.hid fun V aa cc g gl => by
        have := implChanges_any _ _ _ D F L V mD mF mL (HD.out.stepAt g) (HF.out.stepAt g) gl
        rwa [change_cost F FL.held FL.pk] at this
      have K2 : Hid (∀ V, Below w1.heap.size w1 V → Calls Try.prog 9 #[.slice da D.length dc, vf, vc] V fun e w' => e = .returned (.int .i64 (cost (keptL D F) C : Int)) ∧ Below V.heap.size V w') := Lib.hid fun V g => by
        have := implChanges_any _ _ _ D F C V mD mF mC (HD.out.stepAt g) (HF.out.stepAt g) (HC.out.stepAt g)
        rwa [change_cost F FC.held FC.pk] at this
      have K3 : Hid (∀ V aa cc, cost (keptL D F) L = cost (keptL D F) C → Below w1.heap.size w1 V → PkAt V V.heap.size (.slice aa L.length cc) L → Calls Try.prog 19 #[vc, .slice aa L.length cc] V fun e w' => e = .returned (.bool false) ∧ Below V.heap.size V w') := Lib.hid fun V aa cc he g gl => by
        have := implBetter_any _ _ C L V mC mL (HC.out.stepAt g) gl
        have hn : pkBetter C L = false := by
          have hlaw := Pkf.better_law FC.pk FL.pk
          rcases hb with k | ⟨_, k | k⟩
          · omega
          · rw [decide_eq_true k] at hlaw
            have := hlaw.1.symm
            rw [Bool.and_eq_true] at this
            simpa using this.1
          · have := hlaw.2
            rw [k, Bool.and_true] at this
            exact this
        rwa [hn] at this
      have hle : cost (keptL D F) L < cost (keptL D F) C ∨ cost (keptL D F) L = cost (keptL D F) C := by
        rcases hb with k | ⟨k, _⟩
        · exact .inl k
        · exact .inr k
      obtain ⟨x, hx⟩ : ∃ x, cost (keptL D F) L = x := ⟨_, rfl⟩
      obtain ⟨y, hy⟩ : ∃ y, cost (keptL D F) C = y := ⟨_, rfl⟩
      rw [hx] at K1 K3 hle
      rw [hy] at K2 K3 hle
      clear hx hy hb hbest hfine FL FC hR h0
      rcases hle with hlt | heq
      · have hI : (x : Int) < (y : Int) := by omega
        clear K3
        go_wp2_with fail
        refine (KI.out _ (Below.refl _ _)).mono ?_
        rintro e w2 ⟨v2, rfl, p2, hb⟩
        obtain ⟨a2, c2, rfl, _⟩ := id p2.at
        have n2 := hb
        clear hb
        go_wp2_with fail
        refine (KF.out _ n2).mono ?_
        rintro e w3 ⟨rfl, hb⟩
        have n3 := n2.trans (hb.mono n2.size)
        have p3 := p2.below hb
        clear hb n2 p2
        go_wp2_with fail
        refine (K1.out _ _ _ n3 p3.at).mono ?_
        rintro e w4 ⟨rfl, hb⟩
        have n4 := n3.trans (hb.mono n3.size)
        have p4 := p3.below hb
        clear hb n3 p3
        go_wp2_with fail
        refine (K2.out _ n4).mono ?_
        rintro e w5 ⟨rfl, hb⟩
        have n5 := n4.trans (hb.mono n4.size)
        have p5 := p4.below hb
        clear hb n4 p4
        go_wp2_with fail
        refine (KL.out _ _ _ n5 p5.at).mono ?_
        rintro e w6 ⟨rfl, hb⟩
        have n6 := n5.trans (hb.mono n5.size)
        have p6 := p5.below hb
        clear hb n5 p5
        go_wp2_with fail
        refine (alive_any _).mono ?_
        rintro e w7 ⟨rfl, hb⟩
        have n7 := n6.trans (hb.mono n6.size)
        clear hb n6 
        go_wp2_with fail
        go_ret
        exact ⟨rfl, b1.trans (n7.mono z1)⟩
      · subst heq
        have hI : ¬ (x : Int) < (x : Int) := by omega
        go_wp2_with fail
        refine (KI.out _ (Below.refl _ _)).mono ?_
        rintro e w2 ⟨v2, rfl, p2, hb⟩
        obtain ⟨a2, c2, rfl, _⟩ := id p2.at
        have n2 := hb
        clear hb
        go_wp2_with fail
        refine (KF.out _ n2).mono ?_
        rintro e w3 ⟨rfl, hb⟩
        have n3 := n2.trans (hb.mono n2.size)
        have p3 := p2.below hb
        clear hb n2 p2
        go_wp2_with fail
        refine (K1.out _ _ _ n3 p3.at).mono ?_
        rintro e w4 ⟨rfl, hb⟩
        have n4 := n3.trans (hb.mono n3.size)
        have p4 := p3.below hb
        clear hb n3 p3
        go_wp2_with fail
        refine (K2.out _ n4).mono ?_
        rintro e w5 ⟨rfl, hb⟩
        have n5 := n4.trans (hb.mono n4.size)
        have p5 := p4.below hb
        clear hb n4 p4
        go_wp2_with fail
        refine (KL.out _ _ _ n5 p5.at).mono ?_
        rintro e w6 ⟨rfl, hb⟩
        have n6 := n5.trans (hb.mono n5.size)
        have p6 := p5.below hb
        clear hb n5 p5
        go_wp2_with fail
        refine (K3.out _ _ _ (by trivial) n6 p6.at).mono ?_
        rintro e w7 ⟨rfl, hb⟩
        have n7 := n6.trans (hb.mono n6.size)
        have p7 := p6.below hb
        clear hb n6 p6
        go_wp2_with fail
        refine (alive_any _).mono ?_
        rintro e w8 ⟨rfl, hb⟩
        have n8 := n7.trans (hb.mono n7.size)
        clear hb n7 
        go_wp2_with fail
        go_ret
        exact ⟨rfl, b1.trans (n8.mono z1)⟩
  · obtain ⟨R, hR⟩ : ∃ R, relockL S M D F = R := ⟨_, rfl⟩
    rw [hR] at KI
    obtain ⟨ff, hff⟩ : ∃ ff, Cfa.faultF S M D C = ff := ⟨_, rfl⟩
    rw [hff] at KF h0
    have hfb : (ff != 0) = true := by simpa [bne_iff_ne] using h0
    clear hR hff h0 hlen mL
    go_wp2_with fail
    refine (KI.out _ (Below.refl _ _)).mono ?_
    rintro e w2 ⟨v2, rfl, p2, hb⟩
    obtain ⟨a2, c2, rfl, _⟩ := id p2.at
    have n2 := hb
    clear hb p2
    generalize R.isSome = rs
    generalize (R.getD []).length = rl
    go_wp2_with fail
    refine (KF.out _ n2).mono ?_
    rintro e w3 ⟨rfl, hb⟩
    have n3 := n2.trans (hb.mono n2.size)
    clear hb n2
    go_wp2_with fail
    refine (alive_any _).mono ?_
    rintro e w4 ⟨rfl, hb⟩
    have n4 := n3.trans (hb.mono n3.size)
    clear hb n3
    go_wp2_with fail
    go_ret
    exact ⟨rfl, b1.trans (n4.mono z1)⟩

set_option maxRecDepth 100000 in
set_option maxHeartbeats 1000000 in
theorem long (a : Option Addr) (len cap : Nat) (w : World) (hl : 1048576 < len) :
    Calls Try.prog 5 #[.slice a len cap] w fun e w' => e = .returned (.bool true) ∧ Below w.heap.size w w' := by
  go_enter Try.func5, Try.ntmps5
  go_wp2
  go_ret
  exact ⟨rfl, Below.refl _ _⟩
theorem walk (a : Option Addr) (len cap : Nat) (w : World) (h : CodeIn w a len cap) :
    Calls Try.prog 5 #[.slice a len cap] w fun e w' => e = .returned (.bool true) ∧ Below w.heap.size w w' := by
  by_cases hl : len ≤ 1048576
  · exact short a len cap w h hl
  · exact long a len cap w (by omega)
end Prm

set_option maxRecDepth 100000 in
theorem relockLeast_holds : Rows.FnRelockLeastSaid :=
  OpenClaim.holds_of_wide 5 Try.f5 rfl rfl rfl rfl rfl rfl rfl ⟨rfl, rfl, rfl, rfl, rfl⟩ rfl rfl rfl rfl rfl (by kernel_rfl) Try.func5 (by kernel_rfl)
    (of_decide_eq_true (by kernel_rfl)) (by unfold Func.isWrapper; rw [if_neg (by decide +kernel)]; exact ⟨rfl, rfl⟩)
    (fun os started H enc _ => law_lifted (s := Rows.fnRelockLeastSpec) (tb := 4) own started laid (by kernel_rfl) Try.func5 rfl (by kernel_rfl) Try.underlying4 (by kernel_rfl)
      (fun ds h => by rw [Try.params5] at h; match ds, h with | [_], _ => rfl)
      (ChangeSpec.witness6 (enc := enc) (C := Try.checked) false ⟨#[], #[.slice none 0 0], []⟩ 8 (by kernel_rfl) (by kernel_rfl) (by kernel_rfl) (by kernel_rfl))
      (law_code Try.params5 Prm.walk))
#print axioms relockLeast_holds
end Go.Proofs.Ytmhamoeibkpnpaa

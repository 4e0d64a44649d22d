/- At every code the law FnRelock returns true: the program and the model lock again alike; a lock that is right stays as it is, if nothing is set free; and locking again what was locked changes nothing. No condition. -/
import Derived.Test.YtmhamoeibkpnpaaDlk
import Derived.Test.YtmhamoeibkpnpaaRlr
import Derived.Test.YtmhamoeibkpnpaaRlq
import Derived.Test.YtmhamoeibkpnpaaSamep
import Derived.Test.YtmhamoeibkpnpaaCft
import Derived.Test.YtmhamoeibkpnpaaGu
import Derived.Test.YtmhamoeibkpnpaaGe
namespace Go.Proofs.Ytmhamoeibkpnpaa
open Go.ChangeShapes Go.WideShapes Go.ChangeAt Go.RowKit Go.Joins Go.Sort

namespace Prl
open Foot Dsh Dpk Dch Dfr Dlk Copy Nup Cpu Cfa Rch Smp Svp Lkc Rlk
def AnyRelock (w : World) (e : Ending) (w' : World) : Prop := ∃ S sa caps M na ncap C pa pc F vf, e = .returned (.tuple #[.slice sa S.length caps, .slice na M.length ncap, .slice pa C.length pc, vf]) ∧ RlAt w' w'.heap.size (.slice sa S.length caps) S ∧ NdAt w' w'.heap.size (.slice na M.length ncap) M ∧ PkAt w' w'.heap.size (.slice pa C.length pc) C ∧ InAt w' w'.heap.size vf F ∧ S.length ≤ 31 ∧ SzOk S ∧ M.length ≤ 9 ∧ (∀ q ∈ M, q.2.length ≤ 41) ∧ C.length ≤ 30 ∧ F.length ≤ 3 ∧ Below w.heap.size w w'
set_option maxRecDepth 100000 in
set_option maxHeartbeats 2000000 in
theorem DrawRelock_any (a : Option Addr) (len cap : Nat) (w : World) (h : CodeIn w a len cap) : Calls Try.prog 13 #[.slice a len cap] w (AnyRelock w) := by
  go_enter Try.func13, Try.ntmps13
  go_wp2_with fail
  refine (open_any a len cap _ h).mono ?_
  rintro e w2 ⟨rfl, hr2, hb2⟩
  have hz2 := rdAt_lt hr2
  go_wp2_with fail
  refine (l20Lock_any _ 0 20 w2 hr2 (by omega) (by omega) (by omega)).mono ?_
  rintro e w3 ⟨S, sa, caps, M, na, ncap, C, pa, pc, lo, hi, rfl, hL, hlo, hP, hl, hsz, hm, hm2, hC⟩
  obtain ⟨q3, hq0, hq1, hr3⟩ := hL.rd
  have HL := Lib.hid hL
  have HP := Lib.hid hP
  have b3 := hb2.grown hL.gr hb2.size (fun k hk => by injection hk with hk; omega)
  have z23 := hL.gr.size
  clear hL hP hr2 hb2
  go_wp2_with fail
  refine (l20Freed_any _ q3 w3 hr3 (by omega)).mono ?_
  rintro e w4 ⟨F, vf, rfl, hf, hF, hd⟩
  have b4 := drawn_below hd b3 (by omega)
  obtain ⟨q4, _, _, _, hg4⟩ := hd
  obtain ⟨B, fs, hB, hs⟩ := HL.out.sh
  obtain ⟨B2, lo2, hB2, hlo2, hn⟩ := HL.out.nd
  have HA := Lib.hid (hs.drawn hg4 hB).at
  have HN := Lib.hid (hn.drawn hg4 hB2 hlo2).at
  have HC := Lib.hid (pb_drawn HP.out hg4 hlo).at
  have HFF := Lib.hid (IOwn.ib hf).at
  clear hs hn hg4 hf hr3 b3
  go_wp2_with fail
  exact bodyPost_ret (v := .tuple #[.slice sa S.length caps, .slice na M.length ncap, .slice pa C.length pc, vf]) (by simp [results, Try.results13, go_sem]) rfl ⟨S, sa, caps, M, na, ncap, C, pa, pc, F, vf, rfl, HA.out, HN.out, HC.out, HFF.out, hl, hsz, hm, hm2, hC, hF, b4⟩

set_option maxRecDepth 100000 in
set_option maxHeartbeats 4000000 in
theorem short (a : Option Addr) (len cap : Nat) (w : World) (h : CodeIn w a len cap) (hl : len ≤ 1048576) :
    Calls Try.prog 4 #[.slice a len cap] w fun e w' => e = .returned (.bool true) ∧ Below w.heap.size w w' := by
  go_enter Try.func4, Try.ntmps4
  go_wp2_with fail
  refine (DrawRelock_any a len cap w h).mono ?_
  rintro e w1 ⟨S, sa, caps, M, na, ncap, D, da, dc, F, vf, rfl, hA, hN, hD, hF, lS, hsz, lM, hm2, lD, lF, b1⟩
  have z1 := b1.size
  have mS : S.length ≤ 1048576 := by omega
  have mM : M.length ≤ 1048576 := by omega
  have mD : D.length ≤ 1048576 := by omega
  have mF : F.length ≤ 1048576 := by omega
  have qS := hsz.big
  have qM : ∀ q ∈ M, q.2.length ≤ 1048576 := fun q hq => by have := hm2 q hq; omega
  have HA := Lib.hid hA
  have HN := Lib.hid hN
  have HD := Lib.hid hD
  have HF := Lib.hid hF
  clear hA hN hD hF h hsz hm2
  have KI := Lib.hid fun V (g : Below w1.heap.size w1 V) => implRelock_any _ _ _ vf S M D F V mS qS mM qM mD mF (HA.out.stepAt g) (HN.out.stepAt g) (HD.out.stepAt g) (HF.out.stepAt g)
  have KS := Lib.hid fun V (g : Below w1.heap.size w1 V) => specRelock_any _ _ _ vf S M D F V mS qS mM qM mD mF (HA.out.stepAt g) (HN.out.stepAt g) (HD.out.stepAt g) (HF.out.stepAt g)
  have hlen := relock_len S M D F
  match hR : relockL S M D F with
  | none =>
    rw [hR] at KI KS hlen
    simp only [Option.getD_none] at hlen
    clear hR
    go_wp2_with fail
    refine (KI.out _ (Below.refl _ _)).mono ?_
    rintro e w2 ⟨v2, rfl, p2, hb⟩
    obtain ⟨a2, c2, rfl, _⟩ := id p2.at
    have n2 := hb
    clear hb
    go_wp2_with fail
    refine (KS.out _ n2).mono ?_
    rintro e w3 ⟨v3, rfl, r3, hb⟩
    obtain ⟨a3, c3, rfl, _⟩ := id r3.at
    have n3 := n2.trans (hb.mono n2.size)
    have p3 := p2.below hb
    clear hb n2 p2
    go_wp2_with fail
    refine (samePicks_any _ _ _ _ _ (by simp) (by simp) p3.at r3.at).mono ?_
    rintro e w4 ⟨rfl, hb⟩
    have n4 := n3.trans (hb.mono n3.size)
    clear hb n3 
    clear p3 r3
    go_wp2_with fail
    refine (alive_any _).mono ?_
    rintro e w5 ⟨rfl, hb⟩
    have n5 := n4.trans (hb.mono n4.size)
    clear hb n4 
    go_wp2_with fail
    go_ret
    exact ⟨rfl, b1.trans (n5.mono z1)⟩
  | some L =>
    rw [hR] at KI KS hlen
    simp only [Option.getD_some] at hlen
    have mL : L.length ≤ 1048576 := by omega
    have hfine := (relock_some hR).1
    have Fi : pkOk D = true ∧ pkOk L = true := ⟨(Fine.of (.inr hfine)).held, (Fine.of (.inr hfine)).pk⟩
    have KA : Hid (∀ V aa cc, Below w1.heap.size w1 V → PkAt V V.heap.size (.slice aa L.length cc) L → Calls Try.prog 14 #[.slice sa S.length caps, .slice na M.length ncap, .slice aa L.length cc, .slice none 0 0] V (RePost (some L) V)) := Lib.hid fun V aa cc g gl => by
      have := implRelock_any _ _ _ (.slice none 0 0) S M L [] V mS qS mM qM mL (by simp) (HA.out.stepAt g) (HN.out.stepAt g) gl ⟨_, _, rfl, .inl rfl⟩
      rwa [relock_again hR] at this
    have KF : Hid (∀ V aa cc, Below w1.heap.size w1 V → PkAt V V.heap.size (.slice aa L.length cc) L → Calls Try.prog 17 #[.slice sa S.length caps, .slice na M.length ncap, .slice da D.length dc, .slice aa L.length cc] V fun e w' => e = .returned (.int .i64 0) ∧ Below V.heap.size V w') := Lib.hid fun V aa cc g gl => by
      have := Cfa.implFault_any _ _ _ _ S M D L V mS qS mM qM mD mL (HA.out.stepAt g) (HN.out.stepAt g) (HD.out.stepAt g) gl
      rwa [hfine] at this
    have KG : Hid (∀ V, Below w1.heap.size w1 V → Calls Try.prog 17 #[.slice sa S.length caps, .slice na M.length ncap, .slice da D.length dc, .slice da D.length dc] V fun e w' => e = .returned (.int .i64 (Cfa.faultF S M D D)) ∧ Below V.heap.size V w') := Lib.hid fun V g => Cfa.implFault_any _ _ _ _ S M D D V mS qS mM qM mD mD (HA.out.stepAt g) (HN.out.stepAt g) (HD.out.stepAt g) (HD.out.stepAt g)
    have KC : Hid (∀ V aa cc, Cfa.faultF S M D D = 0 → Below w1.heap.size w1 V → PkAt V V.heap.size (.slice aa L.length cc) L → Calls Try.prog 9 #[.slice da D.length dc, vf, .slice aa L.length cc] V fun e w' => e = .returned (.int .i64 0) ∧ Below V.heap.size V w') := Lib.hid fun V aa cc h0 g gl => by
      have := implChanges_any _ _ _ D F L V mD mF mL (HD.out.stepAt g) (HF.out.stepAt g) gl
      rwa [change_cost F Fi.1 Fi.2, relock_stays hR h0] at this
    obtain ⟨ff, hff⟩ : ∃ ff, Cfa.faultF S M D D = ff := ⟨_, rfl⟩
    rw [hff] at KG KC
    clear hR hfine Fi hff
    by_cases hf0 : ff = 0
    · subst hf0
      go_wp2_with fail
      refine (KI.out _ (Below.refl _ _)).mono ?_
      rintro e w2 ⟨v2, rfl, p2, hb⟩
      obtain ⟨a2, c2, rfl, _⟩ := id p2.at
      have n2 := hb
      clear hb
      go_wp2_with fail
      refine (KS.out _ n2).mono ?_
      rintro e w3 ⟨v3, rfl, r3, hb⟩
      obtain ⟨a3, c3, rfl, _⟩ := id r3.at
      have n3 := n2.trans (hb.mono n2.size)
      have p3 := p2.below hb
      clear hb n2 p2
      go_wp2_with fail
      refine (samePicks_any _ _ L L _ mL mL p3.at r3.at).mono ?_
      rintro e w4 ⟨rfl, hb⟩
      have n4 := n3.trans (hb.mono n3.size)
      have p4 := p3.below hb
      clear hb n3 p3
      clear r3
      go_wp2_with fail
      refine (KA.out _ _ _ n4 p4.at).mono ?_
      rintro e w5 ⟨vs, rfl, s5, hb⟩
      obtain ⟨aq, cs, rfl, _⟩ := id s5.at
      have n5 := n4.trans (hb.mono n4.size)
      have p5 := p4.below hb
      clear hb n4 p4
      go_wp2_with fail
      refine (KF.out _ _ _ n5 p5.at).mono ?_
      rintro e w6 ⟨rfl, hb⟩
      have n6 := n5.trans (hb.mono n5.size)
      have p6 := p5.below hb
      have s6 := s5.below hb
      clear hb n5 p5 s5
      go_wp2_with fail
      refine (KG.out _ n6).mono ?_
      rintro e w7 ⟨rfl, hb⟩
      have n7 := n6.trans (hb.mono n6.size)
      have p7 := p6.below hb
      have s7 := s6.below hb
      clear hb n6 p6 s6
      go_wp2_with fail
      refine (KC.out _ _ _ (by trivial) n7 p7.at).mono ?_
      rintro e w8 ⟨rfl, hb⟩
      have n8 := n7.trans (hb.mono n7.size)
      have p8 := p7.below hb
      have s8 := s7.below hb
      clear hb n7 p7 s7
      go_wp2_with fail
      refine (samePicks_any _ _ L L _ mL mL s8.at p8.at).mono ?_
      rintro e w9 ⟨rfl, hb⟩
      have n9 := n8.trans (hb.mono n8.size)
      have p9 := p8.below hb
      have s9 := s8.below hb
      clear hb n8 p8 s8
      go_wp2_with fail
      go_ret
      exact ⟨rfl, b1.trans (n9.mono z1)⟩
    · have hfb : (ff != 0) = true := by simpa [bne_iff_ne] using hf0
      clear hf0 KC
      go_wp2_with fail
      refine (KI.out _ (Below.refl _ _)).mono ?_
      rintro e w2 ⟨v2, rfl, p2, hb⟩
      obtain ⟨a2, c2, rfl, _⟩ := id p2.at
      have n2 := hb
      clear hb
      go_wp2_with fail
      refine (KS.out _ n2).mono ?_
      rintro e w3 ⟨v3, rfl, r3, hb⟩
      obtain ⟨a3, c3, rfl, _⟩ := id r3.at
      have n3 := n2.trans (hb.mono n2.size)
      have p3 := p2.below hb
      clear hb n2 p2
      go_wp2_with fail
      refine (samePicks_any _ _ L L _ mL mL p3.at r3.at).mono ?_
      rintro e w4 ⟨rfl, hb⟩
      have n4 := n3.trans (hb.mono n3.size)
      have p4 := p3.below hb
      clear hb n3 p3
      clear r3
      go_wp2_with fail
      refine (KA.out _ _ _ n4 p4.at).mono ?_
      rintro e w5 ⟨vs, rfl, s5, hb⟩
      obtain ⟨aq, cs, rfl, _⟩ := id s5.at
      have n5 := n4.trans (hb.mono n4.size)
      have p5 := p4.below hb
      clear hb n4 p4
      go_wp2_with fail
      refine (KF.out _ _ _ n5 p5.at).mono ?_
      rintro e w6 ⟨rfl, hb⟩
      have n6 := n5.trans (hb.mono n5.size)
      have p6 := p5.below hb
      have s6 := s5.below hb
      clear hb n5 p5 s5
      go_wp2_with fail
      refine (KG.out _ n6).mono ?_
      rintro e w7 ⟨rfl, hb⟩
      have n7 := n6.trans (hb.mono n6.size)
      have p7 := p6.below hb
      have s7 := s6.below hb
      clear hb n6 p6 s6
      go_wp2_with fail
      refine (samePicks_any _ _ L L _ mL mL s7.at p7.at).mono ?_
      rintro e w8 ⟨rfl, hb⟩
      have n8 := n7.trans (hb.mono n7.size)
      have p8 := p7.below hb
      have s8 := s7.below hb
      clear hb n7 p7 s7
      go_wp2_with fail
      go_ret
      exact ⟨rfl, b1.trans (n8.mono z1)⟩

set_option maxRecDepth 100000 in
set_option maxHeartbeats 1000000 in
theorem long (a : Option Addr) (len cap : Nat) (w : World) (hl : 1048576 < len) :
    Calls Try.prog 4 #[.slice a len cap] w fun e w' => e = .returned (.bool true) ∧ Below w.heap.size w w' := by
  go_enter Try.func4, Try.ntmps4
  go_wp2
  go_ret
  exact ⟨rfl, Below.refl _ _⟩
theorem walk (a : Option Addr) (len cap : Nat) (w : World) (h : CodeIn w a len cap) :
    Calls Try.prog 4 #[.slice a len cap] w fun e w' => e = .returned (.bool true) ∧ Below w.heap.size w w' := by
  by_cases hl : len ≤ 1048576
  · exact short a len cap w h hl
  · exact long a len cap w (by omega)
end Prl

set_option maxRecDepth 100000 in
theorem relock_holds : Rows.FnRelockSaid :=
  OpenClaim.holds_of_wide 4 Try.f4 rfl rfl rfl rfl rfl rfl rfl ⟨rfl, rfl, rfl, rfl, rfl⟩ rfl rfl rfl rfl rfl (by kernel_rfl) Try.func4 (by kernel_rfl)
    (of_decide_eq_true (by kernel_rfl)) (by unfold Func.isWrapper; rw [if_neg (by decide +kernel)]; exact ⟨rfl, rfl⟩)
    (fun os started H enc _ => law_lifted (s := Rows.fnRelockSpec) (tb := 4) own started laid (by kernel_rfl) Try.func4 rfl (by kernel_rfl) Try.underlying4 (by kernel_rfl)
      (fun ds h => by rw [Try.params4] at h; match ds, h with | [_], _ => rfl)
      (ChangeSpec.witness6 (enc := enc) (C := Try.checked) false ⟨#[], #[.slice none 0 0], []⟩ 8 (by kernel_rfl) (by kernel_rfl) (by kernel_rfl) (by kernel_rfl))
      (law_code Try.params4 Prl.walk))
#print axioms relock_holds
end Go.Proofs.Ytmhamoeibkpnpaa

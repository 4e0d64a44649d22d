/- One step of the model's search for the choice with the fewest changes (l7Search), over this seat's translation, if the later steps are as told: the first one of the choices that are fine that has the fewest changes, fewer than so many; nothing that was there before a call has changed. Condition: a shelf, needs and held picks that are fine. -/
import Derived.Test.YtmhamoeibkpnpaaRlp
import Derived.Test.YtmhamoeibkpnpaaGk
import Derived.Test.YtmhamoeibkpnpaaInto
namespace Go.Proofs.Ytmhamoeibkpnpaa
open Go.RowKit Go.Sort

namespace Rlk
open Foot Copy Nup Cpu Cfa Rch Gof Pof Svp Lkc
def lst (fw : Nat) (st : List Pk × Nat) : Int := if st.2 < fw then (st.2 : Int) else 0
def S7Post (fw : Nat) (st : List Pk × Nat) (w : World) (e : Ending) (w' : World) : Prop := ∃ v, e = .returned (.tuple #[v, .int .i64 (lst fw st), .bool (decide (st.2 < fw))]) ∧ PB st.1 w.heap.size w'.heap.size v w' ∧ Below w.heap.size w w'
theorem s7_none {fw : Nat} {w w' : World} {a : Option Addr} {c : Nat} (hb : Below w.heap.size w w') : S7Post fw ([], fw) w (.returned (.tuple #[.slice a 0 c, .int .i64 0, .bool false])) w' :=
  ⟨_, by simp [lst], ⟨a, c, rfl, .inl rfl⟩, hb⟩
theorem s7_some {fw : Nat} {st : List Pk × Nat} {w w' : World} {v : Value} (hlt : st.2 < fw) (hp : PB st.1 w.heap.size w'.heap.size v w') (hb : Below w.heap.size w w') : S7Post fw st w (.returned (.tuple #[v, .int .i64 (st.2 : Int), .bool true])) w' :=
  ⟨_, by unfold lst; rw [if_pos hlt, decide_eq_true hlt], hp, hb⟩
theorem change_cost {D C : List Pk} (F : List Int) (hD : pkOk D = true) (hC : pkOk C = true) : changesL D F C = (cost (keptL D F) C : Int) := by
  unfold changesL cost
  rw [hD, hC]
  rfl
theorem flat_more {α β : Type} (f : α → List β) {Q : List α} {k : Nat} {q : α} (hq : Q[k]? = some q) : (Q.take (k + 1)).flatMap f = (Q.take k).flatMap f ++ f q := by
  rw [List.take_add_one, hq, List.flatMap_append]
  simp
theorem pb_up {L : List Pk} {lo hi hi' : Nat} {v : Value} {w : World} (h : PB L lo hi v w) (hh : hi ≤ hi') : PB L lo hi' v w := by
  obtain ⟨a, cap, rfl, h⟩ := h
  refine ⟨_, _, rfl, ?_⟩
  rcases h with h | ⟨g, m, rfl, hk, h1, h2⟩
  · exact .inl h
  · exact .inr ⟨g, m, rfl, hk, h1, by omega⟩
theorem pb_form {L : List Pk} {lo hi : Nat} {v : Value} {w : World} (h : PB L lo hi v w) : ∃ a c, v = .slice a L.length c := by
  obtain ⟨a, c, e, _⟩ := h
  exact ⟨a, c, e⟩

set_option maxRecDepth 100000 in
set_option maxHeartbeats 8000000 in
theorem search7_walk (sa na da fa : Option Addr) (caps ncap dc fc : Nat) (S : List Rel) (N : List Nd) (D : List Pk) (F : List Int) (hS : shOk S = true) (hN : ndOk N = true) (hD : pkOk D = true) (hq : ∀ q ∈ S, q.2.2.2.length ≤ 1048576 ∧ ∀ p ∈ q.2.2.2, p.2.length ≤ 1048576) (hNq : ∀ q ∈ N, q.2.length ≤ 1048576) (hF : F.length ≤ 1048576)
    (nm : Nat) (h8 : nm ≤ 8) (C : List Pk) (vc : Value) (fw : Nat) (mo : Int) (w : World)
    (IH : nm < 8 → ∀ (C' : List Pk) (vc' : Value) (fw' : Nat) (mo' : Int) (w' : World), mo' + 1 = (fw' : Int) → fw' ≤ 100 → Svp.Good S D C' (partL (openL S D) ((nm : Int) + 1)) → RlAt w' w'.heap.size (.slice sa S.length caps) S → NdAt w' w'.heap.size (.slice na N.length ncap) N → PkAt w' w'.heap.size (.slice da D.length dc) D → InAt w' w'.heap.size (.slice fa F.length fc) F → PkAt w' w'.heap.size vc' C' → (∃ b o c, vc' = .slice (some ⟨b, o, none⟩) C'.length c) →
      Calls Try.prog 53 #[.slice sa S.length caps, .slice na N.length ncap, .slice da D.length dc, .slice fa F.length fc, vc', .int .i64 ((nm : Int) + 1), .int .i64 mo'] w' (S7Post fw' (scan (keptL D F) ([], fw') (bestL S N D C' (partL (openL S D) ((nm : Int) + 1)))) w'))
    (hmo : mo + 1 = (fw : Int)) (hfw : fw ≤ 100)
    (hG : Svp.Good S D C (partL (openL S D) (nm : Int))) (h : RlAt w w.heap.size (.slice sa S.length caps) S) (h' : NdAt w w.heap.size (.slice na N.length ncap) N) (h1 : PkAt w w.heap.size (.slice da D.length dc) D) (hfr : InAt w w.heap.size (.slice fa F.length fc) F) (h2 : PkAt w w.heap.size vc C) (hvc : ∃ b o c, vc = .slice (some ⟨b, o, none⟩) C.length c) :
    Calls Try.prog 53 #[.slice sa S.length caps, .slice na N.length ncap, .slice da D.length dc, .slice fa F.length fc, vc, .int .i64 ((nm : Int)), .int .i64 mo] w (S7Post fw (scan (keptL D F) ([], fw) (bestL S N D C (partL (openL S D) (nm : Int)))) w) := by
  obtain ⟨i0, hi, hz0, hz1, hz2⟩ := info_parts infoPick
  obtain ⟨cb, co, pc, rfl⟩ := hvc
  obtain ⟨pa, hpa⟩ : ∃ pa : Option Addr, pa = some ⟨cb, co, none⟩ := ⟨_, rfl⟩
  rw [← hpa] at h2 ⊢
  have HPA := Lib.hid hpa
  clear hpa
  have hm0 : -1 ≤ mo := by omega
  have hm1 : mo ≤ 99 := by omega
  have HMO := Lib.hid hmo
  clear hmo
  have hC8 := pk_len hG.pk
  have hS30 := sh_len hS
  have hN5 := nd_len hN
  have hD8 := pk_len hD
  have hThere : ∀ x ∈ C, thereP S x = true := fun x hx => (open_there hS (hG.sub x (List.mem_append_left _ hx))).1
  have KC : Hid (∀ V, Below w.heap.size w V → Calls Try.prog 88 #[.slice sa S.length caps, .slice na N.length ncap, .slice pa C.length pc, .int .i64 (nm : Int)] V fun e w' => e = .returned (.bool (confB S N C (nm : Int))) ∧ Below V.heap.size V w') := Lib.hid fun V g => specConf_any _ _ _ S N C (nm : Int) V hS hq (by omega) hNq (by omega) hG.pk hThere (h.stepAt g) (h'.stepAt g) (h2.stepAt g)
  have KF : Hid (∀ V, Below w.heap.size w V → Calls Try.prog 89 #[.slice sa S.length caps, .slice na N.length ncap, .slice da D.length dc, .slice pa C.length pc] V fun e w' => e = .returned (.int .i64 (faultF S N D C)) ∧ Below V.heap.size V w') := Lib.hid fun V g => specFault_any _ _ _ _ S N D C V (by omega) hq (by omega) hNq (by omega) (by omega) (h.stepAt g) (h'.stepAt g) (h1.stepAt g) (h2.stepAt g)
  have KL : Hid (∀ V, Below w.heap.size w V → Calls Try.prog 10 #[.slice da D.length dc, .slice fa F.length fc, .slice pa C.length pc] V fun e w' => e = .returned (.int .i64 (cost (keptL D F) C : Int)) ∧ Below V.heap.size V w') := Lib.hid fun V g => by
    have := specChanges_any _ _ _ D F C V (by omega) hF (by omega) (h1.stepAt g) (hfr.stepAt g) (h2.stepAt g)
    rwa [change_cost F hD hG.pk] at this
  have hcl : cost (keptL D F) C ≤ D.length := Nat.le_trans (cost_le _ _) (kept_len _ _)
  have H := Lib.hid h
  have H' := Lib.hid h'
  have H1 := Lib.hid h1
  have HFR := Lib.hid hfr
  have H2 := Lib.hid h2
  have HIH := Lib.hid IH
  have HGG := Lib.hid hG
  have HCN := Lib.hid (fun hh => conf_none (N := N) (H := D) hS hG (fun y hy => (part_mem.1 hy).2) hh)
  clear h h' h1 h2 hfr IH hThere
  rcases hcf : confB S N C (nm : Int)
  all_goals
    rw [hcf] at KC
    have HCF := Lib.hid hcf
    clear hcf
    go_enter Try.func53, Try.ntmps53
    go_wp2_with fail
    refine (KC.out _ (Below.refl _ _)).mono ?_
    rintro e w2 ⟨rfl, b2⟩
  rotate_left
  · have HE := Lib.hid (show scan (keptL D F) ([], fw) (bestL S N D C (partL (openL S D) (nm : Int))) = ([], fw) by rw [HCN.out HCF.out]; rfl)
    have BE := Lib.hid (b2.trans (((Below.refl _ _).alloc (Nat.le_refl _) (.cells #[] 71)).mono b2.size))
    go_wp2_with fail
    exact bodyPost_ret (v := .tuple #[.slice (some ⟨w2.heap.size, 0, none⟩) 0 0, .int .i64 0, .bool false]) (by simp [results, Try.results53, go_sem]) rfl (by rw [HE.out]; exact s7_none BE.out)
  by_cases hn8 : nm = 8
  · subst hn8
    have HP0 := Lib.hid (part_none (H := D) hS)
    have hgt : decide ((7 : Int) < ((8 : Nat) : Int)) = true := by decide
    have HX := Lib.hid (show bestL S N D C (partL (openL S D) ((8 : Nat) : Int)) = if faultF S N D C = 0 then [C] else [] by
      rw [show partL (openL S D) ((8 : Nat) : Int) = [] from HP0.out, best_last])
    obtain ⟨cc, hcc⟩ : ∃ cc, cost (keptL D F) C = cc := ⟨_, rfl⟩
    rw [hcc] at KL hcl
    have HCC := Lib.hid hcc
    clear hcc HIH
    go_wp2_with fail
    refine (KL.out _ b2).mono ?_
    rintro e w3 ⟨rfl, hb⟩
    have b3 := b2.trans (hb.mono b2.size)
    clear hb b2
    by_cases hcm : mo < (cc : Int)
    · have HE := Lib.hid (show scan (keptL D F) ([], fw) (bestL S N D C (partL (openL S D) ((8 : Nat) : Int))) = ([], fw) by
        rw [HX.out]
        refine scan_none fun d hd => ?_
        split at hd
        · rw [List.mem_singleton.1 hd, HCC.out]
          have := HMO.out
          show fw ≤ cc
          omega
        · simp at hd)
      have BE := Lib.hid (b3.trans (((Below.refl _ _).alloc (Nat.le_refl _) (.cells #[] 71)).mono b3.size))
      clear KF
      go_wp2_with fail
      exact bodyPost_ret (v := .tuple #[.slice (some ⟨w3.heap.size, 0, none⟩) 0 0, .int .i64 0, .bool false]) (by simp [results, Try.results53, go_sem]) rfl (by rw [HE.out]; exact s7_none BE.out)
    obtain ⟨ff, hff⟩ : ∃ ff, faultF S N D C = ff := ⟨_, rfl⟩
    rw [hff] at KF HX
    clear hff
    have hcm2 : (cc : Int) ≤ mo := by omega
    by_cases hf0 : ff = 0
    · have HE := Lib.hid (show scan (keptL D F) ([], fw) (bestL S N D C (partL (openL S D) ((8 : Nat) : Int))) = (C, cc) by
        rw [HX.out, if_pos hf0]
        have := scan_one (K := keptL D F) (c := C) (f := fw) (by have := HMO.out; have h2 : lostL (keptL D F) C [] = cc := HCC.out; omega)
        rw [this]
        have h2 : lostL (keptL D F) C [] = cc := HCC.out
        rw [h2])
      have hcw := Lib.hid (show cc < fw by have := HMO.out; omega)
      subst hf0
      go_wp2_with fail
      refine (KF.out _ b3).mono ?_
      rintro e w4 ⟨rfl, hb⟩
      have b4 := b3.trans (hb.mono b3.size)
      have bn : Below w4.heap.size w4 (w4.alloc (.cells #[] 71)) := (Below.refl _ _).alloc (Nat.le_refl _) _
      have HON := Lib.hid (show (w4.alloc (.cells #[] 71)).ownsRow w4.heap.size 71 5 (.slice (some ⟨w4.heap.size, 0, none⟩) 0 0) 0 [] from ⟨rfl, .inr ⟨w4.heap.size, 0, #[], rfl, Nat.le_refl _, heap_alloc_new w4 _, Nat.le_refl _, by unfold maxLen; omega, rfl, rfl⟩⟩)
      obtain ⟨l1, l2, l3⟩ := pk_rows ((H2.out.stepAt b4).stepAt bn)
      have L3 := Lib.hid l3
      have BN := Lib.hid bn
      clear l3 bn hb b3
      go_wp2_with (at_builtin; refine Ap2.wpList_append _ rfl (.tmp 50) (.tmp 51) 23 rfl w4.heap.size 71 i0 (.agg #[.int .i64 0, .int .i64 0, .int .i64 0, .int .i64 0, .int .i64 0]) 5 40 Try.underlying23 hi hz0 hz1 hz2 rfl (by decide) _ 0 [] rfl HON.out pa C.length pc (pcl C) (by rfl) l1 l2 L3.out (pcl_ones C) (by unfold maxLen; omega) (by omega) (by first | omega | (simp; done) | (simp; omega)) ?_)
      intro a5 c5 w5 own5 grow5 at5
      have o5 : KOwn w5 w4.heap.size (.slice a5 C.length c5) C := KOwn.of own5 rfl (by simp)
      have n5 : Below w4.heap.size w4 w5 := BN.out.grown grow5 (by simp) (fun k e => (World.ownsRow.lt HON.out k e).1)
      have b5 := b4.trans (n5.mono b4.size)
      have HPB := Lib.hid ((KOwn.pb o5).mono b4.size)
      clear own5 grow5 at5 o5 n5
      go_wp2_with fail
      exact bodyPost_ret (v := .tuple #[.slice a5 C.length c5, .int .i64 (cc : Int), .bool true]) (by simp [results, Try.results53, go_sem]) rfl (by rw [HE.out]; exact s7_some (st := (C, cc)) hcw.out HPB.out b5)
    · have hfb : (ff != 0) = true := by simpa [bne_iff_ne] using hf0
      have HE := Lib.hid (show scan (keptL D F) ([], fw) (bestL S N D C (partL (openL S D) ((8 : Nat) : Int))) = ([], fw) by rw [HX.out, if_neg hf0]; rfl)
      clear hf0
      go_wp2_with fail
      refine (KF.out _ b3).mono ?_
      rintro e w4 ⟨rfl, hb⟩
      have b4 := b3.trans (hb.mono b3.size)
      have BE := Lib.hid (b4.trans (((Below.refl _ _).alloc (Nat.le_refl _) (.cells #[] 71)).mono b4.size))
      clear hb b3
      go_wp2_with fail
      exact bodyPost_ret (v := .tuple #[.slice (some ⟨w4.heap.size, 0, none⟩) 0 0, .int .i64 0, .bool false]) (by simp [results, Try.results53, go_sem]) rfl (by rw [HE.out]; exact s7_none BE.out)
  · have hgt : decide ((7 : Int) < (nm : Int)) = false := decide_eq_false (by omega)
    have nw : IntKind.i64.wrap ((nm : Int) + 1) = (nm : Int) + 1 := IntWalk.i64_in _ (by omega)
    have HBN := Lib.hid (best_name (S := S) (N := N) (H := D) (c := C) (nm : Int) (good_start D hS).mono)
    obtain ⟨X0, hX0⟩ : ∃ X0, bestL S N D C (partL (openL S D) ((nm : Int) + 1)) = X0 := ⟨_, rfl⟩
    obtain ⟨Q, hQ⟩ : ∃ Q, (optL (openL S D) (nm : Int)).reverse = Q := ⟨_, rfl⟩
    have HE0 := Lib.hid (show bestL S N D C (partL (openL S D) (nm : Int)) = X0 ++ Q.flatMap fun q => bestL S N D (C ++ [q]) (partL (openL S D) ((nm : Int) + 1)) by rw [HBN.out, hQ, hX0])
    have HQM := Lib.hid (show ∀ q ∈ Q, q ∈ optL (openL S D) (nm : Int) from fun q hq => by rw [← hQ] at hq; exact List.mem_reverse.1 hq)
    have HV := Lib.hid (show verL S D (nm : Int) = Q.map (·.2) by unfold verL; rw [hQ])
    have hQ30 : Q.length ≤ 30 := by
      rw [← hQ, List.length_reverse]
      unfold optL
      exact Nat.le_trans (List.length_filter_le _ _) (Nat.le_trans (open_len S D) hS30)
    obtain ⟨s0, hs0⟩ : ∃ s0, scan (keptL D F) ([], fw) X0 = s0 := ⟨_, rfl⟩
    have hs0le := scan_le (keptL D F) X0 ([], fw)
    rw [hs0] at hs0le
    simp only at hs0le
    have HSTL := Lib.hid (show s0.2 < fw ∨ s0 = ([], fw) by have := scan_still (keptL D F) fw X0; rwa [hs0] at this)
    have KI0 : Hid (∀ V, Below w.heap.size w V → Calls Try.prog 53 #[.slice sa S.length caps, .slice na N.length ncap, .slice da D.length dc, .slice fa F.length fc, .slice pa C.length pc, .int .i64 ((nm : Int) + 1), .int .i64 mo] V (S7Post fw s0 V)) := Lib.hid fun V g => by
      have := HIH.out (by omega) C _ fw mo V HMO.out hfw (good_skip hS HGG.out) (H.out.stepAt g) (H'.out.stepAt g) (H1.out.stepAt g) (HFR.out.stepAt g) (H2.out.stepAt g) ⟨cb, co, pc, by rw [HPA.out]⟩
      rwa [hX0, hs0] at this
    have HS0 := Lib.hid hs0
    clear hX0 hQ hs0 KC KF KL HBN
    go_wp2_with fail
    refine (KI0.out _ b2).mono ?_
    rintro e w3 ⟨v3, rfl, hp3, hb⟩
    have b3 := b2.trans (hb.mono b2.size)
    obtain ⟨za, zc, rfl⟩ := pb_form hp3
    have HP3 := Lib.hid (hp3.mono b2.size)
    clear hb hp3 b2 KI0
    -- what the loop begins with, in both ways
    have HREL : Hid (∃ mv : Int, (if s0.2 < fw then (s0.2 : Int) - 1 else mo) = mv ∧ mv + 1 = (s0.2 : Int)) := Lib.hid (by
      rcases HSTL.out with hh | hh
      · exact ⟨_, rfl, by rw [if_pos hh]; omega⟩
      · refine ⟨_, rfl, ?_⟩
        rw [hh]
        simp only [Nat.lt_irrefl, if_false]
        exact HMO.out)
    have hcase : s0.2 < fw ∨ ¬ s0.2 < fw := by omega
    rcases hcase with hfd | hfd
    all_goals
      have HFD := Lib.hid hfd
      have hl0 : lst fw s0 = (if s0.2 < fw then (s0.2 : Int) else 0) := rfl
      obtain ⟨mv, hmv, hmv1⟩ := HREL.out
      first
        | (rw [if_pos hfd] at hmv hl0; rw [hl0, decide_eq_true hfd])
        | (rw [if_neg hfd] at hmv hl0; rw [hl0, decide_eq_false hfd])
      clear hl0 hfd HREL
      have hmvb : -1 ≤ mv := by omega
      have hmvt : mv ≤ 99 := by omega
      have HMV := Lib.hid hmv
      have HMV1 := Lib.hid hmv1
      clear hmv hmv1
      go_wp2_with fail
      refine (specOptions_any _ _ S D (nm : Int) _ (by omega) (by omega) hD (H.out.stepAt b3) (H1.out.stepAt b3)).mono ?_
      rintro e w4 ⟨v4, rfl, vr4, hb4⟩
      have b4 := b3.trans (hb4.mono b3.size)
      have HP4 := Lib.hid (pb_up (HP3.out.below hb4) hb4.size)
      rw [HV.out] at vr4
      obtain ⟨oa, oc, rfl⟩ := vr4.form
      have hlm : (Q.map (·.2)).length = Q.length := List.length_map _
      rw [hlm] at vr4 ⊢
      have VR := Lib.hid vr4
      clear vr4 hb4 hlm
      go_wp2_with fail
      go_loopw [6, 18, 19, 20, 22] (fun ms bv lv fv i wr => ∃ (k : Nat) (st : List Pk × Nat) (mv : Int), k ≤ Q.length ∧ i = .int .i64 (k : Int) ∧ scan (keptL D F) ([], fw) (X0 ++ (Q.take k).flatMap fun q => bestL S N D (C ++ [q]) (partL (openL S D) ((nm : Int) + 1))) = st ∧ ms = .int .i64 mv ∧ mv + 1 = (st.2 : Int) ∧ lv = .int .i64 (lst fw st) ∧ fv = .bool (decide (st.2 < fw)) ∧ PB st.1 w.heap.size wr.heap.size bv wr ∧ Below w4.heap.size w4 wr) (fun _ _ _ _ i _ => Q.length - (intOf i).toNat)
      case atStart =>
        refine ⟨0, s0, mv, Nat.zero_le _, rfl, by rw [List.take_zero]; simpa using HS0.out, ?_, HMV1.out, ?_, ?_, HP4.out, Below.refl _ _⟩
        · rw [← HMV.out]
        · unfold lst; first | rw [if_pos HFD.out] | rw [if_neg HFD.out]
        · first | rw [decide_eq_true HFD.out] | rw [decide_eq_false HFD.out]
      case round =>
        clear HMV HMV1 HP4 HP3 hmvb hmvt
        clear mv
        obtain ⟨k, st, mv, hk, rfl, hst, rfl, hmv1, rfl, rfl, hpb, hb⟩ := hrel
        have hstle := scan_le (keptL D F) (X0 ++ (Q.take k).flatMap fun q => bestL S N D (C ++ [q]) (partL (openL S D) ((nm : Int) + 1))) ([], fw)
        rw [hst] at hstle
        simp only at hstle
        have hmvb : -1 ≤ mv := by omega
        have hmvt : mv ≤ 99 := by omega
        have HMV1 := Lib.hid hmv1
        have HST := Lib.hid hst
        have br := b4.trans (hb.mono b4.size)
        obtain ⟨ya, yc, rfl⟩ := pb_form hpb
        have HPB := Lib.hid hpb
        obtain ⟨ls, hls⟩ : ∃ ls, lst fw st = ls := ⟨_, rfl⟩
        obtain ⟨fd, hfd2⟩ : ∃ fd, decide (st.2 < fw) = fd := ⟨_, rfl⟩
        rw [hls, hfd2]
        have HLS := Lib.hid hls
        have HFD2 := Lib.hid hfd2
        clear hmv1 hst hpb hls hfd2
        by_cases hgo : k < Q.length ∧ 0 ≤ mv
        · obtain ⟨hlt, hmvp⟩ := hgo
          obtain ⟨x, a, b, c, d, hxy⟩ : ∃ x a b c d, Q[k] = (x, a, b, c, d) := ⟨_, _, _, _, _, rfl⟩
          have hqm := HQM.out _ (List.getElem_mem hlt)
          rw [hxy] at hqm
          obtain rfl : x = (nm : Int) := (opt_mem.1 hqm).2
          have HGN := Lib.hid (good_next hS HGG.out hqm)
          have HQK := Lib.hid (show Q[k]? = some ((nm : Int), a, b, c, d) by rw [List.getElem?_eq_getElem hlt, hxy])
          obtain ⟨g, hoa, hgl, s0', s1, s2, s3⟩ := ver_cells (n := (Q.map (·.2)).length) (V := Q.map (·.2)) VR.out (k := k) (a := a) (b := b) (c := c) (d := d) (by simpa using hlt) (by simp [hxy])
          subst hoa
          have u0 := (hb.cell (p := ⟨g, k * 4, none⟩) hgl).trans s0'
          have u1 := (hb.cell (p := ⟨g, k * 4 + 1, none⟩) hgl).trans s1
          have u2 := (hb.cell (p := ⟨g, k * 4 + 2, none⟩) hgl).trans s2
          have u3 := (hb.cell (p := ⟨g, k * 4 + 3, none⟩) hgl).trans s3
          have hgr : g < wr.heap.size := Nat.lt_of_lt_of_le hgl hb.size
          have k0 : (0 : Int) ≤ (k : Int) := by omega
          have k1 : (k : Int) < (Q.length : Int) := by omega
          have L1 := Lib.hid (pcl_len C)
          have G1 := Lib.hid (show ∀ V, Below wr.heap.size wr V → ∀ j u, (pcl C)[j]? = some u → V.cell? ((⟨cb, co, none⟩ : Addr).add j) = some u from fun V hV j u hu => (pk_rows ((H2.out.stepAt br).stepAt hV)).2.2 _ HPA.out j u hu)
          have HOA := Lib.hid (show (wr.alloc (.cells #[] 71)).ownsRow wr.heap.size 71 5 (.slice (some ⟨wr.heap.size, 0, none⟩) 0 0) 0 [] from own_made (heap_alloc_new wr _) (Nat.le_refl _))
          have HOB := Lib.hid (HOA.out.alloc (.cells #[.int .i64 (nm : Int), .int .i64 a, .int .i64 b, .int .i64 c, .int .i64 d] 71))
          have HOC := Lib.hid (show ((wr.alloc (.cells #[.int .i64 (nm : Int), .int .i64 a, .int .i64 b, .int .i64 c, .int .i64 d] 71)).alloc (.cells #[] 71)).ownsRow wr.heap.size 71 5 (.slice (some ⟨wr.heap.size + 1, 0, none⟩) 0 0) 0 [] from own_made (by simpa using heap_alloc_new (wr.alloc (.cells #[.int .i64 (nm : Int), .int .i64 a, .int .i64 b, .int .i64 c, .int .i64 d] 71)) (.cells #[] 71)) (by omega))
          have HXB := Lib.hid (show ((wr.alloc (.cells #[] 71)).alloc (.cells #[.int .i64 (nm : Int), .int .i64 a, .int .i64 b, .int .i64 c, .int .i64 d] 71)).heap[wr.heap.size + 1]? = some (.cells #[.int .i64 (nm : Int), .int .i64 a, .int .i64 b, .int .i64 c, .int .i64 d] 71 (0, 0)) by simpa using heap_alloc_new (wr.alloc (.cells #[] 71)) (.cells #[.int .i64 (nm : Int), .int .i64 a, .int .i64 b, .int .i64 c, .int .i64 d] 71))
          have HXC := Lib.hid (show ((wr.alloc (.cells #[.int .i64 (nm : Int), .int .i64 a, .int .i64 b, .int .i64 c, .int .i64 d] 71)).alloc (.cells #[] 71)).heap[wr.heap.size]? = some (.cells #[.int .i64 (nm : Int), .int .i64 a, .int .i64 b, .int .i64 c, .int .i64 d] 71 (0, 0)) from (Below.heap_alloc _ _ _ (by simp)).trans (heap_alloc_new wr _))
          have hn7 : nm < 8 := by omega
          obtain ⟨Y, hY⟩ : ∃ Y, bestL S N D (C ++ [((nm : Int), a, b, c, d)]) (partL (openL S D) ((nm : Int) + 1)) = Y := ⟨_, rfl⟩
          obtain ⟨su, hsu⟩ : ∃ su, scan (keptL D F) ([], st.2) Y = su := ⟨_, rfl⟩
          have HSK := Lib.hid (show scan (keptL D F) ([], fw) (X0 ++ (Q.take (k + 1)).flatMap fun q => bestL S N D (C ++ [q]) (partL (openL S D) ((nm : Int) + 1))) = if su.2 < st.2 then su else st by
            rw [flat_more _ HQK.out, ← List.append_assoc]
            have := scan_more (keptL D F) fw (X0 ++ (Q.take k).flatMap fun q => bestL S N D (C ++ [q]) (partL (openL S D) ((nm : Int) + 1))) Y
            rw [HST.out, hsu] at this
            rw [hY]
            exact this)
          have KX : Hid (∀ V a' n' c', n' = C.length + 1 → Below w.heap.size w V → PkAt V V.heap.size (.slice a' n' c') (C ++ [((nm : Int), a, b, c, d)]) → (∃ b o, a' = some ⟨b, o, none⟩) → Calls Try.prog 53 #[.slice sa S.length caps, .slice na N.length ncap, .slice da D.length dc, .slice fa F.length fc, .slice a' n' c', .int .i64 ((nm : Int) + 1), .int .i64 mv] V (S7Post st.2 su V)) := Lib.hid fun V a' n' c' hn' g0 g4 g5 => by
            subst hn'
            obtain ⟨b', o', rfl⟩ := g5
            have := HIH.out hn7 (C ++ [((nm : Int), a, b, c, d)]) _ st.2 mv V HMV1.out (by omega) HGN.out (H.out.stepAt g0) (H'.out.stepAt g0) (H1.out.stepAt g0) (HFR.out.stepAt g0) g4 ⟨b', o', c', by simp⟩
            rwa [hY, hsu] at this
          clear hxy hqm s0' s1 s2 s3 hY hsu
          have hpa := HPA.out
          clear HPA
          subst hpa
          go_wp2_with fail
          go_cut [23, 24, 25] from 85 to 106 (fun ov nv ok wx => ∃ v6, ov = v6 ∧ nv = .int .i64 (lst st.2 su) ∧ ok = .bool (decide (su.2 < st.2)) ∧ PB su.1 wr.heap.size wx.heap.size v6 wx ∧ Below wr.heap.size wr wx)
          case first =>
            clear HSK HQK HGN HIH HGG VR HE0 HQM HV HCN hS30 hN5 hD8 hQ30 HST HLS HFD2 HFD HS0 HSTL
            go_region_held3 (fun V => V.cell? ⟨g, k * 4, none⟩ = some (.int .i64 a) ∧ V.cell? ⟨g, k * 4 + 1, none⟩ = some (.int .i64 b) ∧ V.cell? ⟨g, k * 4 + 2, none⟩ = some (.int .i64 c) ∧ V.cell? ⟨g, k * 4 + 3, none⟩ = some (.int .i64 d)) (go_keep)
              (first
                | (refine step_append_rows _ rfl (.tmp 89) (.tmp 90) 23 rfl wr.heap.size 71 i0 (.agg #[.int .i64 0, .int .i64 0, .int .i64 0, .int .i64 0, .int .i64 0]) 5 40 Try.underlying23 hi hz0 hz1 hz2 rfl (by decide) _ _ [] (by rfl) (by first | exact HOA.out | exact HOB.out | exact HOC.out) (some ⟨cb, co, none⟩) C.length pc (pcl C) (by rfl) L1.out (fun e => by cases e) (fun ad e j u hu => by cases e; exact G1.out _ (by go_grown) j u hu) (pcl_ones C) (by unfold maxLen; omega) (by omega) (by first | omega | (simp; done) | (simp; omega)) ?_; intro a4 c4 x4 hown4 hgrow4 hat4; have n4 : Below wr.heap.size wr x4 := Below.grown (by go_grown) hgrow4 (by first | omega | (simp; done) | (simp; omega)) (fun k' e => by first | (have e' : some wr.heap.size = some k' := e; injection e' with e'; omega) | (have e' : some (wr.heap.size + 1) = some k' := e; injection e' with e'; omega)); have z4 := n4.size; have r40 := (n4.cell (p := ⟨g, k * 4, none⟩) (by show g < wr.heap.size; omega)).trans u0; have r41 := (n4.cell (p := ⟨g, k * 4 + 1, none⟩) (by show g < wr.heap.size; omega)).trans u1; have r42 := (n4.cell (p := ⟨g, k * 4 + 2, none⟩) (by show g < wr.heap.size; omega)).trans u2; have r43 := (n4.cell (p := ⟨g, k * 4 + 3, none⟩) (by show g < wr.heap.size; omega)).trans u3; (try (have X4 : x4.heap[wr.heap.size + 1]? = some (.cells #[.int .i64 (nm : Int), .int .i64 a, .int .i64 b, .int .i64 c, .int .i64 d] 71 (0, 0)) := (hgrow4.block _ (by simp) (by intro e; have e' : some (wr.heap.size + 1) = some wr.heap.size := e; simp at e')).trans HXB.out)); (try (have X4 : x4.heap[wr.heap.size]? = some (.cells #[.int .i64 (nm : Int), .int .i64 a, .int .i64 b, .int .i64 c, .int .i64 d] 71 (0, 0)) := (hgrow4.block _ (by simp; omega) (by intro e; have e' : some wr.heap.size = some (wr.heap.size + 1) := e; simp at e')).trans HXC.out)))
                | (refine step_append_rows _ rfl (.tmp 91) (.tmp 98) 23 rfl wr.heap.size 71 i0 (.agg #[.int .i64 0, .int .i64 0, .int .i64 0, .int .i64 0, .int .i64 0]) 5 40 Try.underlying23 hi hz0 hz1 hz2 rfl (by decide) (.slice a4 (0 + C.length) c4) (0 + C.length) ([] ++ pcl C) (by first | rfl | (rw [Nat.zero_add]; rfl) | (simp only [Nat.zero_add]; rfl) | simp [Act.eval]) (by first | exact hown4 | exact hown4.alloc _) _ 1 1 [.int .i64 (nm : Int), .int .i64 a, .int .i64 b, .int .i64 c, .int .i64 d] (by rfl) rfl (fun e => by cases e) (fun ad e j u hu => by cases e; first | exact World.news_of_block X4 j u hu | exact pick_new x4 (nm : Int) a b c d j u hu) (pick_one _ _ _ _ _) (by unfold maxLen; omega) (by omega) (by first | omega | (simp; done) | (simp; omega)) ?_; intro a5 c5 x5 hown5 hgrow5 hat5; have n5 : Below wr.heap.size wr x5 := Below.grown (by go_grown) hgrow5 (by first | omega | (simp; done) | (simp; omega)) (fun k' e => (World.ownsRow.lt hown4 k' e).1); have z5 := n5.size; have A5 := Lib.hid (own_addr hown5 (by omega)); have PK5 := Lib.hid (KOwn.pb (search_row hown5)).at; have r50 := (n5.cell (p := ⟨g, k * 4, none⟩) (by show g < wr.heap.size; omega)).trans u0; have r51 := (n5.cell (p := ⟨g, k * 4 + 1, none⟩) (by show g < wr.heap.size; omega)).trans u1; have r52 := (n5.cell (p := ⟨g, k * 4 + 2, none⟩) (by show g < wr.heap.size; omega)).trans u2; have r53 := (n5.cell (p := ⟨g, k * 4 + 3, none⟩) (by show g < wr.heap.size; omega)).trans u3; skip)
                | (go_at_call 53; refine (KX.out _ a5 (C.length + 1) c5 rfl (br.trans (n5.mono br.size)) (search_at PK5.out) A5.out).mono ?_; rintro e x6 ⟨v6, rfl, hs6, hb6⟩; have n6 : Below wr.heap.size wr x6 := n5.trans (hb6.mono n5.size); have r60 := (n6.cell (p := ⟨g, k * 4, none⟩) (by show g < wr.heap.size; omega)).trans u0; have r61 := (n6.cell (p := ⟨g, k * 4 + 1, none⟩) (by show g < wr.heap.size; omega)).trans u1; have r62 := (n6.cell (p := ⟨g, k * 4 + 2, none⟩) (by show g < wr.heap.size; omega)).trans u2; have r63 := (n6.cell (p := ⟨g, k * 4 + 3, none⟩) (by show g < wr.heap.size; omega)).trans u3; skip)
                | fail)
            all_goals
              have HS6 := Lib.hid (hs6.mono z5)
              have N6 := Lib.hid n6
              clear hs6 hb6
              go_wp2_with fail
              go_meet
              case rel => exact ⟨_, rfl, rfl, rfl, HS6.out, N6.out⟩
          case rest =>
          rename World => w6
          obtain ⟨v6, rfl, rfl, rfl, hp6, n6⟩ := hcut
          have bw6 := hb.trans (n6.mono hb.size)
          obtain ⟨xa, xc, rfl⟩ := pb_form hp6
          by_cases hlt2 : su.2 < st.2
          · have hl2 : lst st.2 su = (su.2 : Int) := by unfold lst; rw [if_pos hlt2]
            have HQ := Lib.hid (HSK.out.trans (if_pos hlt2))
            have HP6 := Lib.hid (hp6.mono br.size)
            have HL6 := Lib.hid (show lst fw su = (su.2 : Int) by unfold lst; rw [if_pos (by omega)])
            have HF6 := Lib.hid (show decide (su.2 < fw) = true from decide_eq_true (by omega))
            have hsb : (su.2 : Int) ≤ 100 := by omega
            rw [hl2, decide_eq_true hlt2]
            clear hl2 hp6 n6
            go_wp2_with fail
            go_roundw
            case rel => exact ⟨k + 1, su, (su.2 : Int) - 1, by omega, by go_num, HQ.out, rfl, by omega, by rw [HL6.out], by rw [HF6.out], HP6.out, bw6⟩
            case measure => simp [intOf]; omega
          · have HQ := Lib.hid (HSK.out.trans (if_neg hlt2))
            have HP6 := Lib.hid (pb_up (HPB.out.below n6) n6.size)
            rw [decide_eq_false hlt2]
            generalize lst st.2 su = lsu
            clear hp6 n6
            go_wp2_with fail
            go_roundw
            case rel => exact ⟨k + 1, st, mv, by omega, by go_num, HQ.out, rfl, HMV1.out, by rw [HLS.out], by rw [HFD2.out], HP6.out, bw6⟩
            case measure => simp [intOf]; omega
        · have HF := Lib.hid (show scan (keptL D F) ([], fw) (bestL S N D C (partL (openL S D) (nm : Int))) = st by
            rw [HE0.out]
            by_cases hkq : k < Q.length
            · have hm : mv < 0 := by omega
              have hz : st.2 = 0 := by have := HMV1.out; omega
              have e : (Q.flatMap fun q => bestL S N D (C ++ [q]) (partL (openL S D) ((nm : Int) + 1))) = ((Q.take k).flatMap fun q => bestL S N D (C ++ [q]) (partL (openL S D) ((nm : Int) + 1))) ++ (Q.drop k).flatMap fun q => bestL S N D (C ++ [q]) (partL (openL S D) ((nm : Int) + 1)) := by
                rw [← List.flatMap_append, List.take_append_drop]
              rw [e, ← List.append_assoc, scan_app, HST.out]
              exact scan_zero hz _
            · have := HST.out
              rwa [List.take_of_length_le (by omega)] at this)
          have HEN := Lib.hid (show S7Post fw st w (.returned (.tuple #[.slice ya st.1.length yc, .int .i64 ls, .bool fd])) wr from ⟨_, by rw [HLS.out, HFD2.out], HPB.out, br⟩)
          by_cases hkq : k < Q.length
          · have hm : mv < 0 := by omega
            clear hgo
            go_wp2_with fail
            exact bodyPost_ret (v := .tuple #[.slice ya st.1.length yc, .int .i64 ls, .bool fd]) (by simp [results, Try.results53, go_sem]) rfl (by rw [HF.out]; exact HEN.out)
          · obtain rfl : k = Q.length := by omega
            clear hgo
            go_wp2_with fail
            exact bodyPost_ret (v := .tuple #[.slice ya st.1.length yc, .int .i64 ls, .bool fd]) (by simp [results, Try.results53, go_sem]) rfl (by rw [HF.out]; exact HEN.out)
end Rlk
end Go.Proofs.Ytmhamoeibkpnpaa

/- The contract of the model's l5All, over this seat's translation: the first ones of all choices that picks can be made up to and that are fine, the better one first, in rows of their own; nothing that was there before a call has changed. Condition: the shelf and the needs are fine; at most 1048576 of each row. -/
import Derived.Test.YtgenjbeamlffmaaGk
namespace Go.Proofs.Ytgenjbeamlffmaa
open Go.RowKit Go.Sort

namespace Svp
open Foot Copy Nup Cpu Cfa Rch Gof Pof
theorem REls.low {w : World} {B B' : Nat} {cs : List Value} {Ls : List (List Pk)} (h : REls w B cs Ls) (hB : B' ≤ B) : REls w B' cs Ls := fun i hi => by
  obtain ⟨z, h1, h2⟩ := h i hi
  exact ⟨z, h1, kown_mono h2 hB⟩
theorem LOwn.low {w : World} {B B' base base' : Nat} {v : Value} {Ls : List (List Pk)} (h : LOwn w B base v Ls) (hB : B' ≤ B) (hb : base' ≤ base) : LOwn w B' base' v Ls := by
  obtain ⟨cs, ho, he⟩ := h.mono hb
  exact ⟨cs, ho, he.low hB⟩
theorem LOwn.made {w V : World} {B base : Nat} (hV : V.heap = (w.alloc (.cells #[] 28)).heap) (hb : base ≤ w.heap.size) : LOwn V B base (.slice (some ⟨w.heap.size, 0, none⟩) 0 0) [] :=
  ⟨[], ⟨rfl, .inr ⟨w.heap.size, 0, #[], rfl, hb, by rw [hV]; exact heap_alloc_new w _, Nat.le_refl _, by unfold maxLen; omega, rfl, rfl⟩⟩, fun i hi => absurd hi (by simp)⟩
/-- Rows of versions and rows of rows of picks never lie on one block. -/
theorem apart3 {w : World} {B B' n m : Nat} {u v : Value} {cs ds : List Value} (h : w.ownsRow B 79 4 u n cs) (h' : w.ownsRow B' 28 1 v m ds) : u.ownBlock = none ∨ u.ownBlock ≠ v.ownBlock := by
  rcases h.2 with ⟨rfl, _⟩ | ⟨g, cap, cur, rfl, _, hg, _⟩
  · exact .inl rfl
  · right
    intro e
    rcases h'.2 with ⟨rfl, _⟩ | ⟨g', cap', cur', rfl, _, hg', _⟩
    · cases e
    · have e' : some g = some g' := e
      injection e' with e'
      subst e'
      rw [hg] at hg'
      simp at hg'
theorem row_news2 {w : World} {base n c : Nat} {ao : Option Addr} {cs : List Value} (h : w.ownsRow base 28 1 (.slice ao n c) n cs) : ao = none → n = 0 ∧ c = 0 := by
  intro e
  rcases h.2 with ⟨hv, hn⟩ | ⟨g, cap, cur, hv, _⟩
  · simp only [Value.slice.injEq] at hv
    exact ⟨hn, hv.2.2⟩
  · simp only [Value.slice.injEq] at hv
    rw [e] at hv
    cases hv.1
theorem cell_block {w w' : World} {b o : Nat} (h : w'.heap[b]? = w.heap[b]?) : w'.cell? ⟨b, o, none⟩ = w.cell? ⟨b, o, none⟩ := by
  unfold World.cell?
  rw [h]
theorem take_all {α : Type} (X A : List α) (m : Nat) (h : X.length ≤ m) : X ++ A.take (m - X.length) = (X ++ A).take m := by
  rw [List.take_append, List.take_of_length_le h]

set_option maxRecDepth 100000 in
set_option maxHeartbeats 8000000 in
theorem all_walk (sa na : Option Addr) (caps ncap : Nat) (S : List Rel) (N : List Nd) (hS : shOk S = true) (hN : ndOk N = true) (hq : ∀ q ∈ S, q.2.2.2.length ≤ 1048576 ∧ ∀ p ∈ q.2.2.2, p.2.length ≤ 1048576) (hNq : ∀ q ∈ N, q.2.length ≤ 1048576)
    (nm : Nat) (h8 : nm ≤ 8) (C : List Pk) (vc : Value) (mo : Int) (hm0 : 0 ≤ mo) (hm1 : mo ≤ 50) (w : World)
    (IH : nm < 8 → ∀ (C' : List Pk) (vc' : Value) (mo' : Int) (w' : World), 0 ≤ mo' → mo' ≤ 50 → Good S [] C' (partL (openL S []) ((nm : Int) + 1)) → RlAt w' w'.heap.size (.slice sa S.length caps) S → NdAt w' w'.heap.size (.slice na N.length ncap) N → PkAt w' w'.heap.size vc' C' → (∃ b o c, vc' = .slice (some ⟨b, o, none⟩) C'.length c) →
      Calls Try.prog 80 #[.slice sa S.length caps, .slice na N.length ncap, vc', .int .i64 ((nm : Int) + 1), .int .i64 mo'] w' (BestPost w'.heap.size ((bestL S N [] C' (partL (openL S []) ((nm : Int) + 1))).take mo'.toNat) w'))
    (hG : Good S [] C (partL (openL S []) (nm : Int))) (h : RlAt w w.heap.size (.slice sa S.length caps) S) (h' : NdAt w w.heap.size (.slice na N.length ncap) N) (h2 : PkAt w w.heap.size vc C) (hvc : ∃ b o c, vc = .slice (some ⟨b, o, none⟩) C.length c) :
    Calls Try.prog 80 #[.slice sa S.length caps, .slice na N.length ncap, vc, .int .i64 (nm : Int), .int .i64 mo] w (BestPost w.heap.size ((bestL S N [] C (partL (openL S []) (nm : Int))).take mo.toNat) w) := by
  obtain ⟨i0, hi, hz0, hz1, hz2⟩ := info_parts infoPick
  obtain ⟨r0, hr, hy0, hy1, hy2⟩ := info_parts infoRow
  obtain ⟨cb, co, pc, rfl⟩ := hvc
  obtain ⟨pa, hpa⟩ : ∃ pa : Option Addr, pa = some ⟨cb, co, none⟩ := ⟨_, rfl⟩
  rw [← hpa] at h2 ⊢
  have HPA := Lib.hid hpa
  clear hpa
  have hC8 := pk_len hG.pk
  have hS30 := sh_len hS
  have hN5 := nd_len hN
  have hThere : ∀ x ∈ C, thereP S x = true := fun x hx => (open_there hS (hG.sub x (List.mem_append_left _ hx))).1
  have KC : Hid (∀ V, RlAt V V.heap.size (.slice sa S.length caps) S → NdAt V V.heap.size (.slice na N.length ncap) N → PkAt V V.heap.size (.slice pa C.length pc) C → Calls Try.prog 119 #[.slice sa S.length caps, .slice na N.length ncap, .slice pa C.length pc, .int .i64 (nm : Int)] V fun e w' => e = .returned (.bool (confB S N C (nm : Int))) ∧ Below V.heap.size V w') := Lib.hid fun V g g' g2 => specConf_any _ _ _ S N C (nm : Int) V hS hq (by omega) hNq (by omega) hG.pk hThere g g' g2
  have KF : Hid (∀ V u, RlAt V V.heap.size (.slice sa S.length caps) S → NdAt V V.heap.size (.slice na N.length ncap) N → PkAt V V.heap.size u [] → PkAt V V.heap.size (.slice pa C.length pc) C → Calls Try.prog 120 #[.slice sa S.length caps, .slice na N.length ncap, u, .slice pa C.length pc] V fun e w' => e = .returned (.int .i64 (faultF S N [] C)) ∧ Below V.heap.size V w') := Lib.hid fun V u g g' g2 g3 => specFault_any _ _ u _ S N [] C V (by omega) hq (by omega) hNq (by simp) (by omega) g g' g2 g3
  have H := Lib.hid h
  have H' := Lib.hid h'
  have H2 := Lib.hid h2
  have HIH := Lib.hid IH
  have HGG := Lib.hid hG
  have HCN := Lib.hid (fun hh => conf_none (N := N) (H := []) hS hG (fun y hy => (part_mem.1 hy).2) hh)
  clear h h' h2 IH hThere
  have bm : Below w.heap.size w (w.alloc (.cells #[] 28)) := (Below.refl _ _).alloc (Nat.le_refl _) _
  have HM := Lib.hid (LOwn.made (w := w) (V := w.alloc (.cells #[] 28)) (B := w.heap.size) (base := w.heap.size) rfl (Nat.le_refl _))
  by_cases hmz : mo = 0
  · subst hmz
    have HE := Lib.hid (show (bestL S N [] C (partL (openL S []) (nm : Int))).take (0 : Int).toNat = [] by simp)
    go_enter Try.func80, Try.ntmps80
    go_wp2_with fail
    go_ret
    exact ⟨_, rfl, by rw [HE.out]; exact HM.out, bm⟩
  have hmb : (mo == 0) = false := by rw [beq_eq_false_iff_ne]; exact hmz
  have hmn : 1 ≤ mo.toNat := by omega
  rcases hcf : confB S N C (nm : Int)
  all_goals
    rw [hcf] at KC
    have HCF := Lib.hid hcf
    clear hcf hmz
    go_enter Try.func80, Try.ntmps80
    go_wp2_with fail
    refine (KC.out _ (H.out.stepAt bm) (H'.out.stepAt bm) (H2.out.stepAt bm)).mono ?_
    rintro e w2 ⟨rfl, hb2⟩
    have b2 := bm.trans (hb2.mono bm.size)
    have HM2 := Lib.hid (HM.out.below hb2)
    clear hb2 HM
  rotate_left
  · have HE := Lib.hid (show (bestL S N [] C (partL (openL S []) (nm : Int))).take mo.toNat = [] by rw [HCN.out HCF.out]; simp)
    go_wp2_with fail
    go_ret
    exact ⟨_, rfl, by rw [HE.out]; exact HM2.out, b2⟩
  by_cases hn8 : nm = 8
  · subst hn8
    have HP0 := Lib.hid (part_none (H := []) hS)
    have hgt : decide ((7 : Int) < ((8 : Nat) : Int)) = true := by decide
    have HE := Lib.hid (show (bestL S N [] C (partL (openL S []) ((8 : Nat) : Int))).take mo.toNat = if faultF S N [] C = 0 then [C] else [] by
      rw [show partL (openL S []) ((8 : Nat) : Int) = [] from HP0.out, best_last]
      split
      · exact List.take_of_length_le (by simp; omega)
      · simp)
    have bn : Below w2.heap.size w2 (w2.alloc (.cells #[] 114)) := (Below.refl _ _).alloc (Nat.le_refl _) _
    have b3 := b2.trans (bn.mono b2.size)
    have HM3 := Lib.hid (HM2.out.below bn)
    go_wp2_with fail
    refine (KF.out _ _ (H.out.stepAt b3) (H'.out.stepAt b3) ⟨_, _, rfl, .inl rfl⟩ (H2.out.stepAt b3)).mono ?_
    rintro e w4 ⟨rfl, hb4⟩
    have b4 := b3.trans (hb4.mono b3.size)
    have HM4 := Lib.hid (HM3.out.below hb4)
    obtain ⟨ff, hff⟩ : ∃ ff, faultF S N [] C = ff := ⟨_, rfl⟩
    rw [hff] at HE ⊢
    clear hb4 hff HM3 HM2 bn
    by_cases hf0 : ff = 0
    · have HE1 := Lib.hid (HE.out.trans (if_pos hf0))
      subst hf0
      have bn : Below w4.heap.size w4 (w4.alloc (.cells #[] 114)) := (Below.refl _ _).alloc (Nat.le_refl _) _
      have HON := Lib.hid (show (w4.alloc (.cells #[] 114)).ownsRow w4.heap.size 114 5 (.slice (some ⟨w4.heap.size, 0, none⟩) 0 0) 0 [] from own_made (heap_alloc_new w4 _) (Nat.le_refl _))
      obtain ⟨l1, l2, l3⟩ := pk_rows ((H2.out.stepAt b4).stepAt bn)
      have L3 := Lib.hid l3
      have BN := Lib.hid bn
      clear l3 bn
      go_wp2_with (at_builtin; refine Ap2.wpList_append _ rfl (.tmp 34) (.tmp 35) 28 rfl w4.heap.size 114 i0 (.agg #[.int .i64 0, .int .i64 0, .int .i64 0, .int .i64 0, .int .i64 0]) 5 40 Try.underlying28 hi hz0 hz1 hz2 rfl (by decide) _ 0 [] rfl HON.out pa C.length pc (pcl C) (by rfl) l1 l2 L3.out (pcl_ones C) (by unfold maxLen; omega) (by omega) (by first | omega | (simp; done) | (simp; omega)) ?_)
      intro a5 c5 w5 own5 grow5 at5
      have o5 : KOwn w5 w4.heap.size (.slice a5 C.length c5) C := KOwn.of own5 rfl (by simp)
      have n5 : Below w4.heap.size w4 w5 := BN.out.grown grow5 (by simp) (fun k e => (World.ownsRow.lt HON.out k e).1)
      have b5 := b4.trans (n5.mono b4.size)
      have bx : Below w5.heap.size w5 (w5.alloc (.cells #[.slice a5 C.length c5] 28)) := (Below.refl _ _).alloc (Nat.le_refl _) _
      have HK5 := Lib.hid (kown_mono (KOwn.below o5 bx) b4.size)
      have HM5 := Lib.hid ((HM4.out.below n5).below bx)
      have HB5 := Lib.hid (b5.trans (bx.mono b5.size))
      obtain ⟨cs, hown, hels⟩ := HM5.out
      have hcs : cs = [] := List.eq_nil_of_length_eq_zero (by have := hown.1; simpa using this)
      subst hcs
      have HOW := Lib.hid hown
      have HEL := Lib.hid hels
      clear own5 grow5 at5 o5 n5 bx hown hels
      go_wp2_with (at_builtin; refine Ap2.wpList_append _ rfl (.tmp 33) (.tmp 37) 43 rfl w.heap.size 28 r0 (.slice none 0 0) 1 24 Try.underlying43 hr hy0 hy1 hy2 rfl (by decide) _ 0 [] rfl HOW.out (some ⟨w5.heap.size, 0, none⟩) 1 1 [.slice a5 C.length c5] (by rfl) rfl (fun e => by cases e) (fun ad e j u hu => by cases e; exact World.news_of_block (heap_alloc_new w5 _) j u hu) (by intro u hu; simp at hu; subst hu; rfl) (by unfold maxLen; omega) (by omega) (by have := HB5.out.size; omega) ?_)
      intro a7 c7 w7 hown7 hgrow7 hat7
      have n7 : Below w.heap.size w w7 := HB5.out.grown hgrow7 HB5.out.size (fun k e => (World.ownsRow.lt HOW.out k e).1)
      have HJ := Lib.hid (show LOwn w7 w.heap.size w.heap.size (.slice a7 1 c7) ([] ++ [C]) from LOwn.join (Ls := []) (Ms := [C]) (n := 1) HOW.out HEL.out (fun i hi => by
        obtain rfl : i = 0 := by simpa using hi
        exact ⟨_, rfl, HK5.out⟩) rfl hown7 hgrow7)
      clear hown7 hgrow7 hat7
      go_wp2_with fail
      go_ret
      exact ⟨_, rfl, by rw [HE1.out]; exact HJ.out, n7⟩
    · have hfb : (ff == 0) = false := by rw [beq_eq_false_iff_ne]; exact hf0
      have HE2 := Lib.hid (HE.out.trans (if_neg hf0))
      clear hf0
      go_wp2_with fail
      go_ret
      exact ⟨_, rfl, by rw [HE2.out]; exact HM4.out, b4⟩
  · have hgt : decide ((7 : Int) < (nm : Int)) = false := decide_eq_false (by omega)
    have nw : IntKind.i64.wrap ((nm : Int) + 1) = (nm : Int) + 1 := IntWalk.i64_in _ (by omega)
    have HBN := Lib.hid (best_name (S := S) (N := N) (H := []) (c := C) (nm : Int) (good_start [] hS).mono)
    clear KF HM2
    go_wp2_with fail
    refine (HIH.out (by omega) C _ mo _ hm0 hm1 (good_skip hS HGG.out) (H.out.stepAt b2) (H'.out.stepAt b2) (H2.out.stepAt b2) ⟨cb, co, pc, by rw [HPA.out]⟩).mono ?_
    rintro e w3 ⟨v3, rfl, lo3, hb3⟩
    have b3 := b2.trans (hb3.mono b2.size)
    have HL3 := Lib.hid (lo3.low (B' := w.heap.size) (base' := w.heap.size) b2.size b2.size)
    obtain ⟨Q, hQ⟩ : ∃ Q, (optL (openL S []) (nm : Int)).reverse = Q := ⟨_, rfl⟩
    obtain ⟨X0, hX0⟩ : ∃ X0, bestL S N [] C (partL (openL S []) ((nm : Int) + 1)) = X0 := ⟨_, rfl⟩
    have HE0 := Lib.hid (show bestL S N [] C (partL (openL S []) (nm : Int)) = X0 ++ Q.flatMap fun q => bestL S N [] (C ++ [q]) (partL (openL S []) ((nm : Int) + 1)) by rw [HBN.out, hX0, hQ])
    have HQM := Lib.hid (show ∀ q ∈ Q, q ∈ optL (openL S []) (nm : Int) from fun q hq => by rw [← hQ] at hq; exact List.mem_reverse.1 hq)
    have HV := Lib.hid (show verL S [] (nm : Int) = Q.map (·.2) by unfold verL; rw [hQ])
    have hQ30 : Q.length ≤ 30 := by
      rw [← hQ, List.length_reverse]
      unfold optL
      exact Nat.le_trans (List.length_filter_le _ _) (Nat.le_trans (open_len S []) hS30)
    rw [hX0] at HL3
    obtain ⟨la0, lc0, hlf⟩ := HL3.out.form
    subst hlf
    have bn : Below w3.heap.size w3 (w3.alloc (.cells #[] 114)) := (Below.refl _ _).alloc (Nat.le_refl _) _
    have b3' := b3.trans (bn.mono b3.size)
    have HL3' := Lib.hid (HL3.out.below bn)
    clear lo3 hb3 hQ hX0 bn HL3
    go_wp2_with fail
    refine (specOptions_any _ (.slice (some ⟨w3.heap.size, 0, none⟩) 0 0) S [] (nm : Int) _ (by omega) (by simp) rfl (H.out.stepAt b3') ⟨_, _, rfl, .inl rfl⟩).mono ?_
    rintro e w4 ⟨v4, rfl, vr4, hb4⟩
    have b4 := b3'.trans (hb4.mono b3'.size)
    have HL4 := Lib.hid (HL3'.out.below hb4)
    rw [HV.out] at vr4
    obtain ⟨oa, oc, rfl⟩ := vr4.form
    have hlm : (Q.map (·.2)).length = Q.length := List.length_map _
    rw [hlm] at vr4 ⊢
    have VR := Lib.hid vr4
    clear vr4 hb4 hlm b3' HL3'
    go_wp2_with fail
    go_loopw [11, 13] (fun ov i wr => ∃ k : Nat, k ≤ Q.length ∧ i = .int .i64 (k : Int) ∧ LOwn wr w.heap.size w.heap.size ov ((X0 ++ (Q.take k).flatMap fun q => bestL S N [] (C ++ [q]) (partL (openL S []) ((nm : Int) + 1))).take mo.toNat) ∧ VRow wr (w3.alloc (.cells #[] 114)).heap.size (.slice oa Q.length oc) (Q.map (·.2)) ∧ Below w.heap.size w wr) (fun _ i _ => Q.length - (intOf i).toNat)
    case atStart => exact ⟨0, Nat.zero_le _, rfl, by simpa using HL4.out, VR.out, b4⟩
    case round =>
      clear HL4 VR
      obtain ⟨k, hk, rfl, hL, hvr, hb⟩ := hrel
      by_cases hlt : k < Q.length
      · obtain ⟨x, a, b, c, d, hxy⟩ : ∃ x a b c d, Q[k] = (x, a, b, c, d) := ⟨_, _, _, _, _, rfl⟩
        have hqm := HQM.out _ (List.getElem_mem hlt)
        rw [hxy] at hqm
        obtain rfl : x = (nm : Int) := (opt_mem.1 hqm).2
        have HGN := Lib.hid (good_next hS HGG.out hqm)
        have HQK := Lib.hid (show Q[k]? = some ((nm : Int), a, b, c, d) by rw [List.getElem?_eq_getElem hlt, hxy])
        obtain ⟨X, hX⟩ : ∃ X, (X0 ++ (Q.take k).flatMap fun q => bestL S N [] (C ++ [q]) (partL (openL S []) ((nm : Int) + 1))).take mo.toNat = X := ⟨_, rfl⟩
        have hXl : X.length ≤ mo.toNat := by rw [← hX, List.length_take]; omega
        have HXX := Lib.hid hX
        rw [hX] at hL
        obtain ⟨la, lcap, hlf⟩ := hL.form
        subst hlf
        have HL := Lib.hid hL
        have HVR := Lib.hid hvr
        obtain ⟨g, hoa, hgl, u0, u1, u2, u3⟩ := ver_cells (n := (Q.map (·.2)).length) (V := Q.map (·.2)) hvr (k := k) (a := a) (b := b) (c := c) (d := d) (by simpa using hlt) (by simp [hxy])
        subst hoa
        have k0 : (0 : Int) ≤ (k : Int) := by omega
        have k1 : (k : Int) < (Q.length : Int) := by omega
        have mw2 : IntKind.i64.wrap (mo - (X.length : Int)) = mo - (X.length : Int) := IntWalk.i64_in _ (by omega)
        have L1 := Lib.hid (pcl_len C)
        have G1 := Lib.hid (show ∀ V, Below wr.heap.size wr V → ∀ j u, (pcl C)[j]? = some u → V.cell? ((⟨cb, co, none⟩ : Addr).add j) = some u from fun V hV j u hu => (pk_rows ((H2.out.stepAt hb).stepAt hV)).2.2 _ HPA.out j u hu)
        have HOA := Lib.hid (show (wr.alloc (.cells #[] 114)).ownsRow wr.heap.size 114 5 (.slice (some ⟨wr.heap.size, 0, none⟩) 0 0) 0 [] from own_made (heap_alloc_new wr _) (Nat.le_refl _))
        have HOB := Lib.hid (HOA.out.alloc (.cells #[.int .i64 (nm : Int), .int .i64 a, .int .i64 b, .int .i64 c, .int .i64 d] 114))
        have HOC := Lib.hid (show ((wr.alloc (.cells #[.int .i64 (nm : Int), .int .i64 a, .int .i64 b, .int .i64 c, .int .i64 d] 114)).alloc (.cells #[] 114)).ownsRow wr.heap.size 114 5 (.slice (some ⟨wr.heap.size + 1, 0, none⟩) 0 0) 0 [] from own_made (by simpa using heap_alloc_new (wr.alloc (.cells #[.int .i64 (nm : Int), .int .i64 a, .int .i64 b, .int .i64 c, .int .i64 d] 114)) (.cells #[] 114)) (by omega))
        have HXB := Lib.hid (show ((wr.alloc (.cells #[] 114)).alloc (.cells #[.int .i64 (nm : Int), .int .i64 a, .int .i64 b, .int .i64 c, .int .i64 d] 114)).heap[wr.heap.size + 1]? = some (.cells #[.int .i64 (nm : Int), .int .i64 a, .int .i64 b, .int .i64 c, .int .i64 d] 114 (0, 0)) by simpa using heap_alloc_new (wr.alloc (.cells #[] 114)) (.cells #[.int .i64 (nm : Int), .int .i64 a, .int .i64 b, .int .i64 c, .int .i64 d] 114))
        have HXC := Lib.hid (show ((wr.alloc (.cells #[.int .i64 (nm : Int), .int .i64 a, .int .i64 b, .int .i64 c, .int .i64 d] 114)).alloc (.cells #[] 114)).heap[wr.heap.size]? = some (.cells #[.int .i64 (nm : Int), .int .i64 a, .int .i64 b, .int .i64 c, .int .i64 d] 114 (0, 0)) from (Below.heap_alloc _ _ _ (by simp)).trans (heap_alloc_new wr _))
        have hn7 : nm < 8 := by omega
        obtain ⟨Y, hY⟩ : ∃ Y, (bestL S N [] (C ++ [((nm : Int), a, b, c, d)]) (partL (openL S []) ((nm : Int) + 1))).take (mo - (X.length : Int)).toNat = Y := ⟨_, rfl⟩
        have hYl : Y.length ≤ (mo - (X.length : Int)).toNat := by rw [← hY, List.length_take]; omega
        have KX : Hid (∀ V a' n' c', n' = C.length + 1 → RlAt V V.heap.size (.slice sa S.length caps) S → NdAt V V.heap.size (.slice na N.length ncap) N → PkAt V V.heap.size (.slice a' n' c') (C ++ [((nm : Int), a, b, c, d)]) → (∃ b o, a' = some ⟨b, o, none⟩) → Calls Try.prog 80 #[.slice sa S.length caps, .slice na N.length ncap, .slice a' n' c', .int .i64 ((nm : Int) + 1), .int .i64 (mo - (X.length : Int))] V (BestPost V.heap.size Y V)) := Lib.hid fun V a' n' c' hn' g1 g2 g4 g5 => by
          subst hn'
          obtain ⟨b', o', rfl⟩ := g5
          have := HIH.out hn7 (C ++ [((nm : Int), a, b, c, d)]) _ (mo - (X.length : Int)) V (by omega) (by omega) HGN.out g1 g2 g4 ⟨b', o', c', by simp⟩
          rwa [hY] at this
        have HXY := Lib.hid (show X ++ Y = (X0 ++ (Q.take (k + 1)).flatMap fun q => bestL S N [] (C ++ [q]) (partL (openL S []) ((nm : Int) + 1))).take mo.toNat by
          rw [List.take_add_one, HQK.out, List.flatMap_append, ← List.append_assoc, ← take_two, HXX.out, ← hY, show mo.toNat - X.length = (mo - (X.length : Int)).toNat by omega]
          simp)
        have hpa := HPA.out
        clear HPA hxy hqm hX hL hvr hY
        subst hpa
        go_wp2_with fail
        clear HXX HQK HGN HIH HGG HE0 HQM HV HBN HCN KC
        go_region_held3 (fun V => V.cell? ⟨g, k * 4, none⟩ = some (.int .i64 a) ∧ V.cell? ⟨g, k * 4 + 1, none⟩ = some (.int .i64 b) ∧ V.cell? ⟨g, k * 4 + 2, none⟩ = some (.int .i64 c) ∧ V.cell? ⟨g, k * 4 + 3, none⟩ = some (.int .i64 d)) (go_keep)
            (first
              | (refine step_append_rows _ rfl (.tmp 60) (.tmp 61) 28 rfl wr.heap.size 114 i0 (.agg #[.int .i64 0, .int .i64 0, .int .i64 0, .int .i64 0, .int .i64 0]) 5 40 Try.underlying28 hi hz0 hz1 hz2 rfl (by decide) _ _ [] (by rfl) (by first | exact HOA.out | exact HOB.out | exact HOC.out) (some ⟨cb, co, none⟩) C.length pc (pcl C) (by rfl) L1.out (fun e => by cases e) (fun ad e j u hu => by cases e; exact G1.out _ (by go_grown) j u hu) (pcl_ones C) (by unfold maxLen; omega) (by omega) (by first | omega | (simp; done) | (simp; omega)) ?_; intro a4 c4 x4 hown4 hgrow4 hat4; have n4 : Below wr.heap.size wr x4 := Below.grown (by go_grown) hgrow4 (by first | omega | (simp; done) | (simp; omega)) (fun k' e => by first | (have e' : some wr.heap.size = some k' := e; injection e' with e'; omega) | (have e' : some (wr.heap.size + 1) = some k' := e; injection e' with e'; omega)); have z4 := n4.size; have r40 := (n4.cell (p := ⟨g, k * 4, none⟩) (by show g < wr.heap.size; omega)).trans u0; have r41 := (n4.cell (p := ⟨g, k * 4 + 1, none⟩) (by show g < wr.heap.size; omega)).trans u1; have r42 := (n4.cell (p := ⟨g, k * 4 + 2, none⟩) (by show g < wr.heap.size; omega)).trans u2; have r43 := (n4.cell (p := ⟨g, k * 4 + 3, none⟩) (by show g < wr.heap.size; omega)).trans u3; (try (have X4 : x4.heap[wr.heap.size + 1]? = some (.cells #[.int .i64 (nm : Int), .int .i64 a, .int .i64 b, .int .i64 c, .int .i64 d] 114 (0, 0)) := (hgrow4.block _ (by simp) (by intro e; have e' : some (wr.heap.size + 1) = some wr.heap.size := e; simp at e')).trans HXB.out)); (try (have X4 : x4.heap[wr.heap.size]? = some (.cells #[.int .i64 (nm : Int), .int .i64 a, .int .i64 b, .int .i64 c, .int .i64 d] 114 (0, 0)) := (hgrow4.block _ (by simp; omega) (by intro e; have e' : some wr.heap.size = some (wr.heap.size + 1) := e; simp at e')).trans HXC.out)))
              | (refine step_append_rows _ rfl (.tmp 62) (.tmp 69) 28 rfl wr.heap.size 114 i0 (.agg #[.int .i64 0, .int .i64 0, .int .i64 0, .int .i64 0, .int .i64 0]) 5 40 Try.underlying28 hi hz0 hz1 hz2 rfl (by decide) (.slice a4 (0 + C.length) c4) (0 + C.length) ([] ++ pcl C) (by first | rfl | (rw [Nat.zero_add]; rfl) | (simp only [Nat.zero_add]; rfl) | simp [Act.eval]) (by first | exact hown4 | exact hown4.alloc _) _ 1 1 [.int .i64 (nm : Int), .int .i64 a, .int .i64 b, .int .i64 c, .int .i64 d] (by rfl) rfl (fun e => by cases e) (fun ad e j u hu => by cases e; first | exact World.news_of_block X4 j u hu | exact pick_new x4 (nm : Int) a b c d j u hu) (pick_one _ _ _ _ _) (by unfold maxLen; omega) (by omega) (by first | omega | (simp; done) | (simp; omega)) ?_; intro a5 c5 x5 hown5 hgrow5 hat5; have n5 : Below wr.heap.size wr x5 := Below.grown (by go_grown) hgrow5 (by first | omega | (simp; done) | (simp; omega)) (fun k' e => (World.ownsRow.lt hown4 k' e).1); have z5 := n5.size; have A5 := Lib.hid (own_addr hown5 (by omega)); have PK5 := Lib.hid (KOwn.pb (search_row hown5)).at; have r50 := (n5.cell (p := ⟨g, k * 4, none⟩) (by show g < wr.heap.size; omega)).trans u0; have r51 := (n5.cell (p := ⟨g, k * 4 + 1, none⟩) (by show g < wr.heap.size; omega)).trans u1; have r52 := (n5.cell (p := ⟨g, k * 4 + 2, none⟩) (by show g < wr.heap.size; omega)).trans u2; have r53 := (n5.cell (p := ⟨g, k * 4 + 3, none⟩) (by show g < wr.heap.size; omega)).trans u3; skip)
              | (go_at_call 80; refine (KX.out _ a5 (C.length + 1) c5 rfl (H.out.stepAt (hb.trans (n5.mono hb.size))) (H'.out.stepAt (hb.trans (n5.mono hb.size))) (search_at PK5.out) A5.out).mono ?_; rintro e x6 ⟨v6, rfl, lo6, hb6⟩; have n6 : Below wr.heap.size wr x6 := n5.trans (hb6.mono n5.size); have z6 := n6.size; obtain ⟨ya, yc, rfl⟩ := lo6.form; obtain ⟨cs, hown, he⟩ := HL.out.below n6; obtain ⟨ds, hown', he'⟩ := lo6.low (B' := w.heap.size) (Nat.le_trans hb.size z5) (Nat.le_refl _); have HOW := Lib.hid hown; have HE1 := Lib.hid he; have HE2 := Lib.hid he'; have L2 := Lib.hid (row_news2 hown'); have L3 := Lib.hid (row_news hown').2; have hdl : ds.length = Y.length * 1 := hown'.1; have L4 := Lib.hid (rels_ones he' (by omega)); have HV6 := Lib.hid (HVR.out.below n6); have HB6 := Lib.hid (hb.trans (n6.mono hb.size)); have r60 := (n6.cell (p := ⟨g, k * 4, none⟩) (by show g < wr.heap.size; omega)).trans u0; have r61 := (n6.cell (p := ⟨g, k * 4 + 1, none⟩) (by show g < wr.heap.size; omega)).trans u1; have r62 := (n6.cell (p := ⟨g, k * 4 + 2, none⟩) (by show g < wr.heap.size; omega)).trans u2; have r63 := (n6.cell (p := ⟨g, k * 4 + 3, none⟩) (by show g < wr.heap.size; omega)).trans u3; skip)
              | (refine step_append_rows _ rfl (.tmp 57) (.tmp 77) 43 rfl w.heap.size 28 r0 (.slice none 0 0) 1 24 Try.underlying43 hr hy0 hy1 hy2 rfl (by decide) _ X.length cs (by rfl) HOW.out ya Y.length yc ds (by rfl) hdl L2.out L3.out L4.out (by unfold maxLen; omega) (by omega) (by have := HB6.out.size; omega) ?_; intro a7 c7 x7 hown7 hgrow7 hat7; have n7 : Below w.heap.size w x7 := HB6.out.grown hgrow7 HB6.out.size (fun k' e => (World.ownsRow.lt HOW.out k' e).1); have V7 : VRow x7 (w3.alloc (.cells #[] 114)).heap.size (.slice (some ⟨g, 0, none⟩) Q.length oc) (Q.map (·.2)) := World.ownsRow.kept HV6.out hgrow7 (apart3 HV6.out HOW.out); have g7 : x7.heap[g]? = x6.heap[g]? := hgrow7.block g (by omega) (fun e => by rcases apart3 HV6.out HOW.out with e' | e'; cases e'; exact e' e); have r70 := (cell_block (o := k * 4) g7).trans r60; have r71 := (cell_block (o := k * 4 + 1) g7).trans r61; have r72 := (cell_block (o := k * 4 + 2) g7).trans r62; have r73 := (cell_block (o := k * 4 + 3) g7).trans r63; skip)
              | fail)
        all_goals
          have HJ := Lib.hid (show LOwn x7 w.heap.size w.heap.size (.slice a7 (X.length + Y.length) c7) (X ++ Y) from LOwn.join HOW.out HE1.out HE2.out (by rw [List.length_append]) hown7 hgrow7)
          have V8 := Lib.hid V7
          have N7 := Lib.hid n7
          clear lo6 hown he hown' he' hown7 hgrow7 hat7 V7 n7
          rw [HXY.out] at HJ
          go_wp2_with fail
          go_roundw
          case rel => exact ⟨k + 1, by omega, by go_num, HJ.out, V8.out, N7.out⟩
          case measure => simp [intOf]; omega
      · obtain rfl : k = Q.length := by omega
        rw [List.take_length, ← HE0.out] at hL
        have HF := Lib.hid hL
        clear hL hvr
        go_wp2_with fail
        go_ret
        exact ⟨_, rfl, HF.out, hb⟩

theorem all_any (sa na : Option Addr) (caps ncap : Nat) (S : List Rel) (N : List Nd) (hS : shOk S = true) (hN : ndOk N = true) (hq : ∀ q ∈ S, q.2.2.2.length ≤ 1048576 ∧ ∀ p ∈ q.2.2.2, p.2.length ≤ 1048576) (hNq : ∀ q ∈ N, q.2.length ≤ 1048576) :
    ∀ (m nm : Nat), nm + m = 8 → ∀ (C : List Pk) (vc : Value) (mo : Int) (w : World), 0 ≤ mo → mo ≤ 50 → Good S [] C (partL (openL S []) (nm : Int)) → RlAt w w.heap.size (.slice sa S.length caps) S → NdAt w w.heap.size (.slice na N.length ncap) N → PkAt w w.heap.size vc C → (∃ b o c, vc = .slice (some ⟨b, o, none⟩) C.length c) →
      Calls Try.prog 80 #[.slice sa S.length caps, .slice na N.length ncap, vc, .int .i64 (nm : Int), .int .i64 mo] w (BestPost w.heap.size ((bestL S N [] C (partL (openL S []) (nm : Int))).take mo.toNat) w)
  | 0, nm, he, C, vc, mo, w, m0, m1, hG, h, h', h2, hvc => all_walk sa na caps ncap S N hS hN hq hNq nm (by omega) C vc mo m0 m1 w (fun hlt => absurd hlt (by omega)) hG h h' h2 hvc
  | m + 1, nm, he, C, vc, mo, w, m0, m1, hG, h, h', h2, hvc => all_walk sa na caps ncap S N hS hN hq hNq nm (by omega) C vc mo m0 m1 w (fun _ C' vc' mo' w' k0 k1 g1 g2 g3 g5 g6 => by
      have := all_any sa na caps ncap S N hS hN hq hNq m (nm + 1) (by omega) C' vc' mo' w' k0 k1 (by rw [show ((nm + 1 : Nat) : Int) = (nm : Int) + 1 from rfl]; exact g1) g2 g3 g5 g6
      rwa [show ((nm + 1 : Nat) : Int) = (nm : Int) + 1 from rfl] at this) hG h h' h2 hvc
end Svp
end Go.Proofs.Ytgenjbeamlffmaa

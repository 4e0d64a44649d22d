/- One step of the model's l5Search, over this seat's translation: where the shorter searches answer the first fine one of what picks can be made up to, this one does; nothing that was there before a call has changed. Condition: the shelf, the needs and what is held are fine; at most 1048576 of each row. -/
import Derived.Test.YtgenjbeamlffmaaSvr
namespace Go.Proofs.Ytgenjbeamlffmaa
open Go.RowKit Go.Sort

namespace Svp
open Foot Copy Nup Cpu Cfa Rch Gof Pof
theorem vcs_at : ∀ (A : List V4) (i : Nat) (h : i < A.length), (vcs A)[i * 4]? = some (.int .i64 A[i].1) ∧ (vcs A)[i * 4 + 1]? = some (.int .i64 A[i].2.1) ∧ (vcs A)[i * 4 + 2]? = some (.int .i64 A[i].2.2.1) ∧ (vcs A)[i * 4 + 3]? = some (.int .i64 A[i].2.2.2)
  | x :: t, 0, _ => ⟨rfl, rfl, rfl, rfl⟩
  | x :: t, i + 1, h => by
    have ih := vcs_at t i (by simpa using h)
    have e : ∀ j, (vcs (x :: t))[(i + 1) * 4 + j]? = (vcs t)[i * 4 + j]? := fun j => by
      show ([Value.int .i64 x.1, .int .i64 x.2.1, .int .i64 x.2.2.1, .int .i64 x.2.2.2] ++ vcs t)[(i + 1) * 4 + j]? = _
      rw [List.getElem?_append_right (by simp; omega)]
      congr 1
      simp
      omega
    have e0 := e 0
    simp only [Nat.add_zero] at e0
    exact ⟨by rw [e0]; exact ih.1, by rw [e 1]; exact ih.2.1, by rw [e 2]; exact ih.2.2.1, by rw [e 3]; exact ih.2.2.2⟩
theorem ver_cells {w : World} {B n m oc k : Nat} {oa : Option Addr} {V : List V4} {a b c d : Int} (h : w.ownsRow B 79 4 (.slice oa m oc) n (vcs V)) (hk : k < V.length) (hV : V[k] = (a, b, c, d)) : ∃ g, oa = some ⟨g, 0, none⟩ ∧ g < w.heap.size ∧ w.cell? ⟨g, k * 4, none⟩ = some (.int .i64 a) ∧ w.cell? ⟨g, k * 4 + 1, none⟩ = some (.int .i64 b) ∧ w.cell? ⟨g, k * 4 + 2, none⟩ = some (.int .i64 c) ∧ w.cell? ⟨g, k * 4 + 3, none⟩ = some (.int .i64 d) := by
  obtain ⟨v0, v1, v2, v3⟩ := vcs_at V k hk
  rw [hV] at v0 v1 v2 v3
  rcases h.2 with ⟨e, h0⟩ | ⟨g, cap, cur, e, hb, hg, rest⟩
  · have := h.1
    rw [vcs_len, h0] at this
    omega
  · simp only [Value.slice.injEq] at e
    obtain ⟨rfl, _, rfl⟩ := e
    have hadd : ∀ j, (⟨g, 0, none⟩ : Addr).add j = ⟨g, j, none⟩ := fun j => by unfold Addr.add; split <;> simp_all
    have cc := fun j u hu => World.ownsRow.cells h (g := g) rfl j u hu
    simp only [hadd] at cc
    exact ⟨g, rfl, (Array.getElem?_eq_some_iff.1 hg).1, cc _ _ v0, cc _ _ v1, cc _ _ v2, cc _ _ v3⟩
theorem own_made {V : World} {B g : Nat} (hg : V.heap[g]? = some (.cells #[] 114 (0, 0))) (hB : B ≤ g) : V.ownsRow B 114 5 (.slice (some ⟨g, 0, none⟩) 0 0) 0 [] :=
  ⟨rfl, .inr ⟨g, 0, #[], rfl, hB, hg, Nat.le_refl _, by unfold maxLen; omega, rfl, rfl⟩⟩

theorem search_row {w : World} {B cap : Nat} {a : Option Addr} {C : List Pk} {x p q r t : Int} (h : w.ownsRow B 114 5 (.slice a (0 + C.length + 1) cap) (0 + C.length + 1) ([] ++ pcl C ++ [.int .i64 x, .int .i64 p, .int .i64 q, .int .i64 r, .int .i64 t])) : KOwn w B (.slice a (0 + C.length + 1) cap) (C ++ [(x, p, q, r, t)]) := KOwn.of h (by simp) (by rw [pcl_app]; rfl)
theorem search_at {w : World} {B cap n : Nat} {a : Option Addr} {L : List Pk} (h : PkAt w B (.slice a (0 + n + 1) cap) L) : PkAt w B (.slice a (n + 1) cap) L := by rwa [Nat.zero_add] at h
theorem own_addr {w : World} {B t s n m c : Nat} {a : Option Addr} {xs : List Value} (h : w.ownsRow B t s (.slice a m c) n xs) (hn : 0 < n) : ∃ b o, a = some ⟨b, o, none⟩ := by
  rcases h.2 with ⟨e, h0⟩ | ⟨g, cap, cur, e, _⟩
  · omega
  · simp only [Value.slice.injEq] at e
    obtain ⟨rfl, _, _⟩ := e
    exact ⟨_, _, rfl⟩

set_option maxRecDepth 100000 in
set_option maxHeartbeats 8000000 in
theorem search_walk (sa na da : Option Addr) (caps ncap dc : Nat) (S : List Rel) (N : List Nd) (D : List Pk) (hS : shOk S = true) (hN : ndOk N = true) (hD : pkOk D = true) (hq : ∀ q ∈ S, q.2.2.2.length ≤ 1048576 ∧ ∀ p ∈ q.2.2.2, p.2.length ≤ 1048576) (hNq : ∀ q ∈ N, q.2.length ≤ 1048576)
    (nm : Nat) (h8 : nm ≤ 8) (C : List Pk) (vc : Value) (w : World)
    (IH : nm < 8 → ∀ (C' : List Pk) (vc' : Value) (w' : World), Good S D C' (partL (openL S D) ((nm : Int) + 1)) → RlAt w' w'.heap.size (.slice sa S.length caps) S → NdAt w' w'.heap.size (.slice na N.length ncap) N → PkAt w' w'.heap.size (.slice da D.length dc) D → PkAt w' w'.heap.size vc' C' → (∃ b o c, vc' = .slice (some ⟨b, o, none⟩) C'.length c) →
      Calls Try.prog 66 #[.slice sa S.length caps, .slice na N.length ncap, .slice da D.length dc, vc', .int .i64 ((nm : Int) + 1)] w' (SearchPost (nm + 1) ((bestL S N D C' (partL (openL S D) ((nm : Int) + 1))).head?) w'))
    (hG : Good S D C (partL (openL S D) (nm : Int))) (h : RlAt w w.heap.size (.slice sa S.length caps) S) (h' : NdAt w w.heap.size (.slice na N.length ncap) N) (h1 : PkAt w w.heap.size (.slice da D.length dc) D) (h2 : PkAt w w.heap.size vc C) (hvc : ∃ b o c, vc = .slice (some ⟨b, o, none⟩) C.length c) :
    Calls Try.prog 66 #[.slice sa S.length caps, .slice na N.length ncap, .slice da D.length dc, vc, .int .i64 (nm : Int)] w (SearchPost nm ((bestL S N D C (partL (openL S D) (nm : Int))).head?) w) := by
  obtain ⟨i0, hi, hz0, hz1, hz2⟩ := info_parts infoPick
  obtain ⟨cb, co, pc, rfl⟩ := hvc
  obtain ⟨pa, hpa⟩ : ∃ pa : Option Addr, pa = some ⟨cb, co, none⟩ := ⟨_, rfl⟩
  rw [← hpa] at h2 ⊢
  have HPA := Lib.hid hpa
  clear hpa
  have hC8 := pk_len hG.pk
  have hS30 := sh_len hS
  have hN5 := nd_len hN
  have hD8 := pk_len hD
  have hThere : ∀ x ∈ C, thereP S x = true := fun x hx => (open_there hS (hG.sub x (List.mem_append_left _ hx))).1
  have KC : Hid (∀ V, RlAt V V.heap.size (.slice sa S.length caps) S → NdAt V V.heap.size (.slice na N.length ncap) N → PkAt V V.heap.size (.slice pa C.length pc) C → Calls Try.prog 119 #[.slice sa S.length caps, .slice na N.length ncap, .slice pa C.length pc, .int .i64 (nm : Int)] V fun e w' => e = .returned (.bool (confB S N C (nm : Int))) ∧ Below V.heap.size V w') := Lib.hid fun V g g' g2 => specConf_any _ _ _ S N C (nm : Int) V hS hq (by omega) hNq (by omega) hG.pk hThere g g' g2
  have KF : Hid (∀ V, RlAt V V.heap.size (.slice sa S.length caps) S → NdAt V V.heap.size (.slice na N.length ncap) N → PkAt V V.heap.size (.slice da D.length dc) D → PkAt V V.heap.size (.slice pa C.length pc) C → Calls Try.prog 120 #[.slice sa S.length caps, .slice na N.length ncap, .slice da D.length dc, .slice pa C.length pc] V fun e w' => e = .returned (.int .i64 (faultF S N D C)) ∧ Below V.heap.size V w') := Lib.hid fun V g g' g2 g3 => specFault_any _ _ _ _ S N D C V (by omega) hq (by omega) hNq (by omega) (by omega) g g' g2 g3
  have H := Lib.hid h
  have H' := Lib.hid h'
  have H1 := Lib.hid h1
  have H2 := Lib.hid h2
  have HIH := Lib.hid IH
  have HGG := Lib.hid hG
  have HCN := Lib.hid (fun hh => conf_none (N := N) (H := D) hS hG (fun y hy => (part_mem.1 hy).2) hh)
  clear h h' h1 h2 IH hThere
  rcases hcf : confB S N C (nm : Int)
  all_goals
    rw [hcf] at KC
    have HCF := Lib.hid hcf
    clear hcf
    go_enter Try.func66, Try.ntmps66
    go_wp2_with fail
    refine (KC.out _ H.out H'.out H2.out).mono ?_
    rintro e w2 ⟨rfl, b2⟩
  rotate_left
  · have HE := Lib.hid (show (bestL S N D C (partL (openL S D) (nm : Int))).head? = none by rw [HCN.out HCF.out]; rfl)
    go_wp2_with fail
    exact bodyPost_ret (v := .tuple #[.slice (some ⟨w2.heap.size, 0, none⟩) 0 0, .bool false]) (by simp [results, Try.results66, go_sem]) rfl ⟨_, by rw [HE.out]; rfl, fun L hL => (by rw [HE.out] at hL; cases hL), fun _ _ => ⟨_, 0, rfl, .inl rfl⟩, b2.trans (((Below.refl _ _).alloc (Nat.le_refl _) _).mono b2.size)⟩
  by_cases hn8 : nm = 8
  · subst hn8
    have HP0 := Lib.hid (part_none (H := D) hS)
    have hgt : decide ((7 : Int) < ((8 : Nat) : Int)) = true := by decide
    have HE := Lib.hid (show (bestL S N D C (partL (openL S D) ((8 : Nat) : Int))).head? = if faultF S N D C = 0 then some C else none by
      rw [show partL (openL S D) ((8 : Nat) : Int) = [] from HP0.out, best_last]
      split <;> rfl)
    have bn : Below w2.heap.size w2 (w2.alloc (.cells #[] 114)) := (Below.refl _ _).alloc (Nat.le_refl _) _
    have HON := Lib.hid (show (w2.alloc (.cells #[] 114)).ownsRow w2.heap.size 114 5 (.slice (some ⟨w2.heap.size, 0, none⟩) 0 0) 0 [] from ⟨rfl, .inr ⟨w2.heap.size, 0, #[], rfl, Nat.le_refl _, heap_alloc_new w2 _, Nat.le_refl _, by unfold maxLen; omega, rfl, rfl⟩⟩)
    obtain ⟨l1, l2, l3⟩ := pk_rows ((H2.out.stepAt b2).stepAt bn)
    have L3 := Lib.hid l3
    have BN := Lib.hid bn
    clear l3 bn
    go_wp2_with (at_builtin; refine Ap2.wpList_append _ rfl (.tmp 24) (.tmp 25) 28 rfl w2.heap.size 114 i0 (.agg #[.int .i64 0, .int .i64 0, .int .i64 0, .int .i64 0, .int .i64 0]) 5 40 Try.underlying28 hi hz0 hz1 hz2 rfl (by decide) _ 0 [] rfl HON.out pa C.length pc (pcl C) (by rfl) l1 l2 L3.out (pcl_ones C) (by unfold maxLen; omega) (by omega) (by first | omega | (simp; done) | (simp; omega)) ?_)
    intro a3 c3 w3 own3 grow3 at3
    have o3 : KOwn w3 w2.heap.size (.slice a3 C.length c3) C := KOwn.of own3 rfl (by simp)
    have n3 : Below w2.heap.size w2 w3 := BN.out.grown grow3 (by simp) (fun k e => (World.ownsRow.lt HON.out k e).1)
    have b3 := b2.trans (n3.mono b2.size)
    have HO3 := Lib.hid o3
    clear own3 grow3 at3 o3 n3
    go_wp2_with fail
    refine (KF.out _ (H.out.stepAt b3) (H'.out.stepAt b3) (H1.out.stepAt b3) (H2.out.stepAt b3)).mono ?_
    rintro e w4 ⟨rfl, hb4⟩
    have b4 := b3.trans (hb4.mono b3.size)
    have HPB := Lib.hid (((KOwn.pb (KOwn.below HO3.out hb4))).mono b2.size)
    obtain ⟨ff, hff⟩ : ∃ ff, faultF S N D C = ff := ⟨_, rfl⟩
    rw [hff] at HE ⊢
    clear hb4 hff HO3
    by_cases hf0 : ff = 0
    · have HE1 := Lib.hid (HE.out.trans (if_pos hf0))
      subst hf0
      go_wp2_with fail
      exact bodyPost_ret (v := .tuple #[.slice a3 C.length c3, .bool true]) (by simp [results, Try.results66, go_sem]) rfl ⟨_, by rw [HE1.out]; rfl, fun L' hL' => (by rw [HE1.out] at hL'; injection hL' with hL'; subst hL'; exact HPB.out), fun h7 _ => by omega, b4⟩
    · have hfb : (ff == 0) = false := by rw [beq_eq_false_iff_ne]; exact hf0
      have HE2 := Lib.hid (HE.out.trans (if_neg hf0))
      clear hf0
      go_wp2_with fail
      exact bodyPost_ret (v := .tuple #[.slice a3 C.length c3, .bool false]) (by simp [results, Try.results66, go_sem]) rfl ⟨_, by rw [HE2.out]; rfl, fun L' hL' => (by rw [HE2.out] at hL'; cases hL'), fun h7 _ => by omega, b4⟩
  · have hgt : decide ((7 : Int) < (nm : Int)) = false := decide_eq_false (by omega)
    have nw : IntKind.i64.wrap ((nm : Int) + 1) = (nm : Int) + 1 := IntWalk.i64_in _ (by omega)
    have HBN := Lib.hid (best_name (S := S) (N := N) (H := D) (c := C) (nm : Int) (good_start D hS).mono)
    go_wp2_with fail
    refine (HIH.out (by omega) C _ _ (good_skip hS HGG.out) (H.out.stepAt b2) (H'.out.stepAt b2) (H1.out.stepAt b2) (H2.out.stepAt b2) ⟨cb, co, pc, by rw [HPA.out]⟩).mono ?_
    rintro e w3 ⟨v3, rfl, hs3, hnn3, hb3⟩
    have b3 := b2.trans (hb3.mono b2.size)
    rcases hr : (bestL S N D C (partL (openL S D) ((nm : Int) + 1))).head? with _ | L
    · have HHR := Lib.hid hr
      obtain ⟨Q, hQ⟩ : ∃ Q, (optL (openL S D) (nm : Int)).reverse = Q := ⟨_, rfl⟩
      have HE0 := Lib.hid (show (bestL S N D C (partL (openL S D) (nm : Int))).head? = (Q.flatMap fun q => bestL S N D (C ++ [q]) (partL (openL S D) ((nm : Int) + 1))).head? by rw [HBN.out, head_two, hr, hQ]; rfl)
      have HQM := Lib.hid (show ∀ q ∈ Q, q ∈ optL (openL S D) (nm : Int) from fun q hq => by rw [← hQ] at hq; exact List.mem_reverse.1 hq)
      have HV := Lib.hid (show verL S D (nm : Int) = Q.map (·.2) by unfold verL; rw [hQ])
      have hQ30 : Q.length ≤ 30 := by
        rw [← hQ, List.length_reverse]
        unfold optL
        exact Nat.le_trans (List.length_filter_le _ _) (Nat.le_trans (open_len S D) hS30)
      clear hs3 hnn3 hb3 hr hQ
      go_wp2_with fail
      refine (specOptions_any _ _ S D (nm : Int) _ (by omega) (by omega) hD (H.out.stepAt b3) (H1.out.stepAt b3)).mono ?_
      rintro e w4 ⟨v4, rfl, vr4, hb4⟩
      have b4 := b3.trans (hb4.mono b3.size)
      rw [HV.out] at vr4
      obtain ⟨oa, oc, rfl⟩ := vr4.form
      have hlm : (Q.map (·.2)).length = Q.length := List.length_map _
      rw [hlm] at vr4 ⊢
      have VR := Lib.hid vr4
      clear vr4 hb4 hlm
      go_wp2_with fail
      go_loopw [15] (fun i wr => ∃ k : Nat, k ≤ Q.length ∧ i = .int .i64 (k : Int) ∧ ((Q.take k).flatMap fun q => bestL S N D (C ++ [q]) (partL (openL S D) ((nm : Int) + 1))) = [] ∧ Below w4.heap.size w4 wr) (fun i _ => Q.length - (intOf i).toNat)
      case atStart => exact ⟨0, Nat.zero_le _, rfl, rfl, Below.refl _ _⟩
      case round =>
        obtain ⟨k, hk, rfl, hno, hb⟩ := hrel
        have HNO := Lib.hid hno
        have br := b4.trans (hb.mono b4.size)
        clear hno
        by_cases hlt : k < Q.length
        · obtain ⟨x, a, b, c, d, hxy⟩ : ∃ x a b c d, Q[k] = (x, a, b, c, d) := ⟨_, _, _, _, _, rfl⟩
          have hqm := HQM.out _ (List.getElem_mem hlt)
          rw [hxy] at hqm
          obtain rfl : x = (nm : Int) := (opt_mem.1 hqm).2
          have HGN := Lib.hid (good_next hS HGG.out hqm)
          have HQK := Lib.hid (show Q[k]? = some ((nm : Int), a, b, c, d) by rw [List.getElem?_eq_getElem hlt, hxy])
          obtain ⟨g, hoa, hgl, s0, s1, s2, s3⟩ := ver_cells (n := (Q.map (·.2)).length) (V := Q.map (·.2)) VR.out (k := k) (a := a) (b := b) (c := c) (d := d) (by simpa using hlt) (by simp [hxy])
          subst hoa
          have u0 := (hb.cell (p := ⟨g, k * 4, none⟩) hgl).trans s0
          have u1 := (hb.cell (p := ⟨g, k * 4 + 1, none⟩) hgl).trans s1
          have u2 := (hb.cell (p := ⟨g, k * 4 + 2, none⟩) hgl).trans s2
          have u3 := (hb.cell (p := ⟨g, k * 4 + 3, none⟩) hgl).trans s3
          have hgr : g < wr.heap.size := Nat.lt_of_lt_of_le hgl hb.size
          have k0 : (0 : Int) ≤ (k : Int) := by omega
          have k1 : (k : Int) < (Q.length : Int) := by omega
          have L1 := Lib.hid (pcl_len C)
          have G1 := Lib.hid (show ∀ V, Below wr.heap.size wr V → ∀ j u, (pcl C)[j]? = some u → V.cell? ((⟨cb, co, none⟩ : Addr).add j) = some u from fun V hV j u hu => (pk_rows ((H2.out.stepAt br).stepAt hV)).2.2 _ HPA.out j u hu)
          have HOA := Lib.hid (show (wr.alloc (.cells #[] 114)).ownsRow wr.heap.size 114 5 (.slice (some ⟨wr.heap.size, 0, none⟩) 0 0) 0 [] from own_made (heap_alloc_new wr _) (Nat.le_refl _))
          have HOB := Lib.hid (HOA.out.alloc (.cells #[.int .i64 (nm : Int), .int .i64 a, .int .i64 b, .int .i64 c, .int .i64 d] 114))
          have HOC := Lib.hid (show ((wr.alloc (.cells #[.int .i64 (nm : Int), .int .i64 a, .int .i64 b, .int .i64 c, .int .i64 d] 114)).alloc (.cells #[] 114)).ownsRow wr.heap.size 114 5 (.slice (some ⟨wr.heap.size + 1, 0, none⟩) 0 0) 0 [] from own_made (by simpa using heap_alloc_new (wr.alloc (.cells #[.int .i64 (nm : Int), .int .i64 a, .int .i64 b, .int .i64 c, .int .i64 d] 114)) (.cells #[] 114)) (by omega))
          have HXB := Lib.hid (show ((wr.alloc (.cells #[] 114)).alloc (.cells #[.int .i64 (nm : Int), .int .i64 a, .int .i64 b, .int .i64 c, .int .i64 d] 114)).heap[wr.heap.size + 1]? = some (.cells #[.int .i64 (nm : Int), .int .i64 a, .int .i64 b, .int .i64 c, .int .i64 d] 114 (0, 0)) by simpa using heap_alloc_new (wr.alloc (.cells #[] 114)) (.cells #[.int .i64 (nm : Int), .int .i64 a, .int .i64 b, .int .i64 c, .int .i64 d] 114))
          have HXC := Lib.hid (show ((wr.alloc (.cells #[.int .i64 (nm : Int), .int .i64 a, .int .i64 b, .int .i64 c, .int .i64 d] 114)).alloc (.cells #[] 114)).heap[wr.heap.size]? = some (.cells #[.int .i64 (nm : Int), .int .i64 a, .int .i64 b, .int .i64 c, .int .i64 d] 114 (0, 0)) from (Below.heap_alloc _ _ _ (by simp)).trans (heap_alloc_new wr _))
          have hn7 : nm < 8 := by omega
          obtain ⟨R, hR⟩ : ∃ R, (bestL S N D (C ++ [((nm : Int), a, b, c, d)]) (partL (openL S D) ((nm : Int) + 1))).head? = R := ⟨_, rfl⟩
          have KX : Hid (∀ V a' n' c', n' = C.length + 1 → RlAt V V.heap.size (.slice sa S.length caps) S → NdAt V V.heap.size (.slice na N.length ncap) N → PkAt V V.heap.size (.slice da D.length dc) D → PkAt V V.heap.size (.slice a' n' c') (C ++ [((nm : Int), a, b, c, d)]) → (∃ b o, a' = some ⟨b, o, none⟩) → Calls Try.prog 66 #[.slice sa S.length caps, .slice na N.length ncap, .slice da D.length dc, .slice a' n' c', .int .i64 ((nm : Int) + 1)] V (SearchPost (nm + 1) R V)) := Lib.hid fun V a' n' c' hn' g1 g2 g3 g4 g5 => by
            subst hn'
            obtain ⟨b', o', rfl⟩ := g5
            have := HIH.out hn7 (C ++ [((nm : Int), a, b, c, d)]) _ V HGN.out g1 g2 g3 g4 ⟨b', o', c', by simp⟩
            rwa [hR] at this
          have HFL := Lib.hid (flat_head (fun q => bestL S N D (C ++ [q]) (partL (openL S D) ((nm : Int) + 1))) HQK.out HNO.out)
          have HRR := Lib.hid hR
          clear hxy hqm s0 s1 s2 s3 hR
          have hpa := HPA.out
          clear HPA
          subst hpa
          go_wp2_with fail
          go_cut [12, 13] from 49 to 76 (fun ov fv wx => ∃ v6, ov = v6 ∧ fv = .bool R.isSome ∧ (∀ L, R = some L → PB L wr.heap.size wx.heap.size v6 wx) ∧ Below wr.heap.size wr wx)
          case first =>
            clear HFL HRR HNO HQK HGN HIH HGG VR HE0 HQM HV HBN KF HCN hS30 hN5 hD8 hQ30
            go_region_held3 (fun V => V.cell? ⟨g, k * 4, none⟩ = some (.int .i64 a) ∧ V.cell? ⟨g, k * 4 + 1, none⟩ = some (.int .i64 b) ∧ V.cell? ⟨g, k * 4 + 2, none⟩ = some (.int .i64 c) ∧ V.cell? ⟨g, k * 4 + 3, none⟩ = some (.int .i64 d)) (go_keep)
              (first
                | (refine step_append_rows _ rfl (.tmp 59) (.tmp 60) 28 rfl wr.heap.size 114 i0 (.agg #[.int .i64 0, .int .i64 0, .int .i64 0, .int .i64 0, .int .i64 0]) 5 40 Try.underlying28 hi hz0 hz1 hz2 rfl (by decide) _ _ [] (by rfl) (by first | exact HOA.out | exact HOB.out | exact HOC.out) (some ⟨cb, co, none⟩) C.length pc (pcl C) (by rfl) L1.out (fun e => by cases e) (fun ad e j u hu => by cases e; exact G1.out _ (by go_grown) j u hu) (pcl_ones C) (by unfold maxLen; omega) (by omega) (by first | omega | (simp; done) | (simp; omega)) ?_; intro a4 c4 x4 hown4 hgrow4 hat4; have n4 : Below wr.heap.size wr x4 := Below.grown (by go_grown) hgrow4 (by first | omega | (simp; done) | (simp; omega)) (fun k' e => by first | (have e' : some wr.heap.size = some k' := e; injection e' with e'; omega) | (have e' : some (wr.heap.size + 1) = some k' := e; injection e' with e'; omega)); have z4 := n4.size; have r40 := (n4.cell (p := ⟨g, k * 4, none⟩) (by show g < wr.heap.size; omega)).trans u0; have r41 := (n4.cell (p := ⟨g, k * 4 + 1, none⟩) (by show g < wr.heap.size; omega)).trans u1; have r42 := (n4.cell (p := ⟨g, k * 4 + 2, none⟩) (by show g < wr.heap.size; omega)).trans u2; have r43 := (n4.cell (p := ⟨g, k * 4 + 3, none⟩) (by show g < wr.heap.size; omega)).trans u3; (try (have X4 : x4.heap[wr.heap.size + 1]? = some (.cells #[.int .i64 (nm : Int), .int .i64 a, .int .i64 b, .int .i64 c, .int .i64 d] 114 (0, 0)) := (hgrow4.block _ (by simp) (by intro e; have e' : some (wr.heap.size + 1) = some wr.heap.size := e; simp at e')).trans HXB.out)); (try (have X4 : x4.heap[wr.heap.size]? = some (.cells #[.int .i64 (nm : Int), .int .i64 a, .int .i64 b, .int .i64 c, .int .i64 d] 114 (0, 0)) := (hgrow4.block _ (by simp; omega) (by intro e; have e' : some wr.heap.size = some (wr.heap.size + 1) := e; simp at e')).trans HXC.out)))
                | (refine step_append_rows _ rfl (.tmp 61) (.tmp 68) 28 rfl wr.heap.size 114 i0 (.agg #[.int .i64 0, .int .i64 0, .int .i64 0, .int .i64 0, .int .i64 0]) 5 40 Try.underlying28 hi hz0 hz1 hz2 rfl (by decide) (.slice a4 (0 + C.length) c4) (0 + C.length) ([] ++ pcl C) (by first | rfl | (rw [Nat.zero_add]; rfl) | (simp only [Nat.zero_add]; rfl) | simp [Act.eval]) (by first | exact hown4 | exact hown4.alloc _) _ 1 1 [.int .i64 (nm : Int), .int .i64 a, .int .i64 b, .int .i64 c, .int .i64 d] (by rfl) rfl (fun e => by cases e) (fun ad e j u hu => by cases e; first | exact World.news_of_block X4 j u hu | exact pick_new x4 (nm : Int) a b c d j u hu) (pick_one _ _ _ _ _) (by unfold maxLen; omega) (by omega) (by first | omega | (simp; done) | (simp; omega)) ?_; intro a5 c5 x5 hown5 hgrow5 hat5; have n5 : Below wr.heap.size wr x5 := Below.grown (by go_grown) hgrow5 (by first | omega | (simp; done) | (simp; omega)) (fun k' e => (World.ownsRow.lt hown4 k' e).1); have z5 := n5.size; have A5 := Lib.hid (own_addr hown5 (by omega)); have PK5 := Lib.hid (KOwn.pb (search_row hown5)).at; have r50 := (n5.cell (p := ⟨g, k * 4, none⟩) (by show g < wr.heap.size; omega)).trans u0; have r51 := (n5.cell (p := ⟨g, k * 4 + 1, none⟩) (by show g < wr.heap.size; omega)).trans u1; have r52 := (n5.cell (p := ⟨g, k * 4 + 2, none⟩) (by show g < wr.heap.size; omega)).trans u2; have r53 := (n5.cell (p := ⟨g, k * 4 + 3, none⟩) (by show g < wr.heap.size; omega)).trans u3; skip)
                | (go_at_call 66; refine (KX.out _ a5 (C.length + 1) c5 rfl (H.out.stepAt (br.trans (n5.mono br.size))) (H'.out.stepAt (br.trans (n5.mono br.size))) (H1.out.stepAt (br.trans (n5.mono br.size))) (search_at PK5.out) A5.out).mono ?_; rintro e x6 ⟨v6, rfl, hs6, hnn6, hb6⟩; have n6 : Below wr.heap.size wr x6 := n5.trans (hb6.mono n5.size); have r60 := (n6.cell (p := ⟨g, k * 4, none⟩) (by show g < wr.heap.size; omega)).trans u0; have r61 := (n6.cell (p := ⟨g, k * 4 + 1, none⟩) (by show g < wr.heap.size; omega)).trans u1; have r62 := (n6.cell (p := ⟨g, k * 4 + 2, none⟩) (by show g < wr.heap.size; omega)).trans u2; have r63 := (n6.cell (p := ⟨g, k * 4 + 3, none⟩) (by show g < wr.heap.size; omega)).trans u3; skip)
                | fail)
            all_goals
              have HS6 := Lib.hid (fun L (hL : R = some L) => (hs6 L hL).mono z5)
              have N6 := Lib.hid n6
              clear hs6 hnn6 hb6
              go_wp2_with fail
              go_meet
              case rel => exact ⟨_, rfl, rfl, HS6.out, N6.out⟩
          case rest =>
          rename World => w6
          obtain ⟨v6, rfl, rfl, hs6, n6⟩ := hcut
          have br6 := br.trans (n6.mono br.size)
          have bw6 := hb.trans (n6.mono hb.size)
          rcases R with _ | L
          · have HNE := Lib.hid (show ((Q.take (k + 1)).flatMap fun q => bestL S N D (C ++ [q]) (partL (openL S D) ((nm : Int) + 1))) = [] by rw [HFL.out]; exact List.head?_eq_none_iff.1 HRR.out)
            clear hs6
            go_wp2_with fail
            go_roundw
            case rel => exact ⟨k + 1, by omega, by go_num, HNE.out, bw6⟩
            case measure => simp [intOf]; omega
          · have HE := Lib.hid (show (bestL S N D C (partL (openL S D) (nm : Int))).head? = some L by rw [HE0.out]; exact flat_found _ (k := k + 1) (by rw [HFL.out]; exact HRR.out))
            obtain ⟨za, zc, hv6, hzz⟩ := id (hs6 L rfl)
            have HPB := Lib.hid ((hs6 L rfl).mono br.size)
            subst hv6
            clear hs6 hzz
            go_wp2_with fail
            exact bodyPost_ret (v := .tuple #[.slice za L.length zc, .bool true]) (by simp [results, Try.results66, go_sem]) rfl ⟨_, by rw [HE.out]; rfl, fun L' hL' => (by rw [HE.out] at hL'; injection hL' with hL'; subst hL'; exact HPB.out), fun _ hx => (by rw [HE.out] at hx; cases hx), br6⟩
        · obtain rfl : k = Q.length := by omega
          have HF := Lib.hid (show (bestL S N D C (partL (openL S D) (nm : Int))).head? = none by rw [HE0.out]; have := HNO.out; rw [List.take_length] at this; rw [this]; rfl)
          go_wp2_with fail
          exact bodyPost_ret (v := .tuple #[.slice (some ⟨wr.heap.size, 0, none⟩) 0 0, .bool false]) (by simp [results, Try.results66, go_sem]) rfl ⟨_, by rw [HF.out]; rfl, fun L hL => (by rw [HF.out] at hL; cases hL), fun _ _ => ⟨_, 0, rfl, .inl rfl⟩, br.trans (((Below.refl _ _).alloc (Nat.le_refl _) _).mono br.size)⟩
    · have HE := Lib.hid (show (bestL S N D C (partL (openL S D) (nm : Int))).head? = some L by rw [HBN.out, head_two, hr]; rfl)
      obtain ⟨za, zc, rfl, hzz⟩ := id (hs3 L hr)
      have HPB := Lib.hid ((hs3 L hr).mono b2.size)
      clear hs3 hnn3 hr hzz
      go_wp2_with fail
      exact bodyPost_ret (v := .tuple #[.slice za L.length zc, .bool true]) (by simp [results, Try.results66, go_sem]) rfl ⟨_, by rw [HE.out]; rfl, fun L' hL' => (by rw [HE.out] at hL'; injection hL' with hL'; subst hL'; exact HPB.out), fun _ hx => (by rw [HE.out] at hx; cases hx), b3⟩
end Svp
end Go.Proofs.Ytgenjbeamlffmaa

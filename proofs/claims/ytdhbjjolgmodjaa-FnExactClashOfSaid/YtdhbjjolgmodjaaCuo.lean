/- The contract of the model's ClashOf for a step that tells a release and a need of it, over this seat's translation. Nothing that was there before a call has changed. Condition: a shelf, needs. -/
import Derived.BigQuiet
import Derived.BigRegion
import Derived.Deep.RegionHeld3
import Derived.Test.YtdhbjjolgmodjaaCui
import Derived.Test.YtdhbjjolgmodjaaSpnot
import Derived.Test.YtdhbjjolgmodjaaSpone
namespace Go.Proofs.Ytdhbjjolgmodjaa
open Go.RowKit Go.Sort

namespace Tmc
open Foot
theorem rk_full {w : World} {sa : Option Addr} {sc : Nat} {S : List Rel} (h : RlAt w w.heap.size (.slice sa S.length sc) S) {k : Nat} (hk : k < S.length) :
    ∃ b o x va vb vc vd g Q na nc, sa = some ⟨b, o, none⟩ ∧ b < w.heap.size ∧ S[k]? = some (x, (va, vb, vc, vd), g, Q) ∧ NdAt w w.heap.size (.slice na Q.length nc) Q ∧ ∀ V, Below w.heap.size w V → V.cell? ⟨b, o + k * 7, none⟩ = some (.int .i64 x) ∧ V.cell? ⟨b, o + k * 7 + 1, none⟩ = some (.int .i64 va) ∧ V.cell? ⟨b, o + k * 7 + 2, none⟩ = some (.int .i64 vb) ∧ V.cell? ⟨b, o + k * 7 + 3, none⟩ = some (.int .i64 vc) ∧ V.cell? ⟨b, o + k * 7 + 4, none⟩ = some (.int .i64 vd) ∧ V.cell? ⟨b, o + k * 7 + 6, none⟩ = some (.slice na Q.length nc) := by
  obtain ⟨a, cap, hv, h⟩ := h
  injection hv with e1 _ e2
  subst e1
  subst e2
  rcases h with h | ⟨b, o, rfl, hB, hc⟩
  · subst h
    simp at hk
  obtain ⟨x, va, vb, vc, vd, g, Q, hx⟩ : ∃ x va vb vc vd g Q, S[k] = (x, (va, vb, vc, vd), g, Q) := ⟨_, _, _, _, _, _, _, rfl⟩
  have c := hc k hk
  rw [hx] at c
  obtain ⟨⟨c0, c1, c2, c3, c4, _⟩, na, nc, c6, hn⟩ := c
  exact ⟨b, o, x, va, vb, vc, vd, g, Q, na, nc, rfl, hB, by rw [List.getElem?_eq_getElem hk, hx], hn, fun V hb => ⟨(hb.cell (p := ⟨b, o + k * 7, none⟩) hB).trans c0, (hb.cell (p := ⟨b, o + k * 7 + 1, none⟩) hB).trans c1, (hb.cell (p := ⟨b, o + k * 7 + 2, none⟩) hB).trans c2, (hb.cell (p := ⟨b, o + k * 7 + 3, none⟩) hB).trans c3, (hb.cell (p := ⟨b, o + k * 7 + 4, none⟩) hB).trans c4, (hb.cell (p := ⟨b, o + k * 7 + 6, none⟩) hB).trans c6⟩⟩
theorem nk_get {w : World} {na : Option Addr} {nc : Nat} {Q : List Nd} (h : NdAt w w.heap.size (.slice na Q.length nc) Q) {j : Nat} (hj : j < Q.length) :
    ∃ b o y L la lc, na = some ⟨b, o, none⟩ ∧ b < w.heap.size ∧ Q[j]? = some (y, L) ∧ ∀ V, Below w.heap.size w V → V.cell? ⟨b, o + j * 2, none⟩ = some (.int .i64 y) ∧ V.cell? ⟨b, o + j * 2 + 1, none⟩ = some (.slice la L.length lc) ∧ SpAt V w.heap.size (.slice la L.length lc) L := by
  obtain ⟨a, cap, hv, h⟩ := h
  injection hv with e1 _ e2
  subst e1
  subst e2
  rcases h with h | ⟨b, o, rfl, hB, hc⟩
  · subst h
    simp at hj
  obtain ⟨y, L, hx⟩ : ∃ y L, Q[j] = (y, L) := ⟨_, _, rfl⟩
  have c := hc j hj
  rw [hx] at c
  obtain ⟨c0, la, lc, c1, hs⟩ := c
  exact ⟨b, o, y, L, la, lc, rfl, hB, by rw [List.getElem?_eq_getElem hj, hx], fun V hb => ⟨(hb.cell (p := ⟨b, o + j * 2, none⟩) hB).trans c0, (hb.cell (p := ⟨b, o + j * 2 + 1, none⟩) hB).trans c1, hs.below hb⟩⟩
theorem cofR_off {S : List Rel} {A B N : Int} (h : inB A 0 ((S.length : Int) - 1) = false) : cofR S A B N = none := by
  unfold cofR
  rw [if_neg]
  rintro ⟨h1, h2, _⟩
  rw [inB_iff.2 ⟨h1, by omega⟩] at h
  cases h
theorem cofR_name {S : List Rel} {A B N : Int} (h : N ≠ 0) : cofR S A B N = none := by
  unfold cofR
  rw [if_neg]
  exact fun k => h k.2.2
theorem cofR_need {S : List Rel} {k : Nat} {x : Int} {a b c d : Int} {g : Bool} {Q : List Nd} {B N : Int} (h : S[k]? = some (x, (a, b, c, d), g, Q)) (hJ : inB B 0 ((Q.length : Int) - 1) = false) : cofR S (k : Int) B N = none := by
  by_cases hN : N = 0
  · subst hN
    rw [cofR_at h, if_neg]
    rintro ⟨h1, h2⟩
    rw [inB_iff.2 ⟨h1, by omega⟩] at hJ
    cases hJ
  · exact cofR_name hN
set_option maxRecDepth 100000 in
set_option maxHeartbeats 16000000 in
theorem specClashOf_rel (u v : Value) (S : List Rel) (M : List Nd) (A B N : Int) (w : World) (hS : S.length ≤ 1048576) (hq : ∀ q ∈ S, q.2.2.2.length ≤ 1048576 ∧ ∀ p ∈ q.2.2.2, p.2.length ≤ 1048576) (hM : M.length ≤ 1048576) (hm : ∀ q ∈ M, q.2.length ≤ 1048576)
    (hs : shOk S = true) (hn : ndOk M = true) (h : RlAt w w.heap.size u S) (h2 : NdAt w w.heap.size v M) :
    Calls Try.prog 23 #[u, v, stepV 1 A B N] w (TbPost (cofR S A B N) w) := by
  obtain ⟨a, cap, rfl, hx⟩ := id h
  clear hx
  obtain ⟨a', cap', rfl, hN⟩ := id h2
  have b1 := (Below.refl w.heap.size w).alloc (Nat.le_refl _) (.cells #[.int .i64 1, .int .i64 A, .int .i64 B, .int .i64 N] 48)
  have hz : w.heap.size < (w.alloc (.cells #[.int .i64 1, .int .i64 A, .int .i64 B, .int .i64 N] 48)).heap.size := by simp
  have x0 : (w.alloc (.cells #[.int .i64 1, .int .i64 A, .int .i64 B, .int .i64 N] 48)).cell? ⟨w.heap.size, 0, none⟩ = some (.int .i64 1) := by go_simp
  have x1 : (w.alloc (.cells #[.int .i64 1, .int .i64 A, .int .i64 B, .int .i64 N] 48)).cell? ⟨w.heap.size, 1, none⟩ = some (.int .i64 A) := by go_simp
  have x2 : (w.alloc (.cells #[.int .i64 1, .int .i64 A, .int .i64 B, .int .i64 N] 48)).cell? ⟨w.heap.size, 2, none⟩ = some (.int .i64 B) := by go_simp
  have x3 : (w.alloc (.cells #[.int .i64 1, .int .i64 A, .int .i64 B, .int .i64 N] 48)).cell? ⟨w.heap.size, 3, none⟩ = some (.int .i64 N) := by go_simp
  have H1 := Lib.hid ((h.below b1).mono b1.size)
  have H2 := Lib.hid ((h2.below b1).mono b1.size)
  have HB := Lib.hid b1
  have HX := Lib.hid (And.intro x0 (And.intro x1 (And.intro x2 (And.intro x3 hz))))
  have KS : Hid (∀ V, RlAt V V.heap.size (.slice a S.length cap) S → Calls Try.prog 65 #[.slice a S.length cap] V fun e w' => e = .returned (.bool true) ∧ Below V.heap.size V w') := Lib.hid fun V g => by rw [← hs]; exact specShelfOk_any _ S V hS hq g
  have KN : Hid (∀ V, NdAt V V.heap.size (.slice a' M.length cap') M → Calls Try.prog 66 #[.slice a' M.length cap'] V fun e w' => e = .returned (.bool true) ∧ Below V.heap.size V w') := Lib.hid fun V g => by rw [← hn]; exact specNeedsOk_any _ M V hM hm g
  have HRL := Lib.hid h
  have hS30 := shOk_le hs
  have HQ := Lib.hid hq
  clear hN
  clear h h2 b1 x0 x1 x2 x3 hz hs hn
  go_enter Try.func23, Try.ntmps23
  go_wp2_with fail
  refine (KS.out _ H1.out).mono ?_
  rintro e w2 ⟨rfl, hb⟩
  have H3 := Lib.hid ((H2.out.below hb).mono hb.size)
  have HB2 := Lib.hid (HB.out.trans (hb.mono HB.out.size))
  have n2 := Lib.hid hb
  clear hb
  go_wp2_with fail
  refine (KN.out _ H3.out).mono ?_
  rintro e w3 ⟨rfl, hb⟩
  have HB3 := Lib.hid (HB2.out.trans (hb.mono HB2.out.size))
  have n3 := n2.out.trans (hb.mono n2.out.size)
  have c0 := (n3.cell (p := ⟨w.heap.size, 0, none⟩) HX.out.2.2.2.2).trans HX.out.1
  have c1 := (n3.cell (p := ⟨w.heap.size, 1, none⟩) HX.out.2.2.2.2).trans HX.out.2.1
  have c2 := (n3.cell (p := ⟨w.heap.size, 2, none⟩) HX.out.2.2.2.2).trans HX.out.2.2.1
  have c3 := (n3.cell (p := ⟨w.heap.size, 3, none⟩) HX.out.2.2.2.2).trans HX.out.2.2.2.1
  have z3 : w.heap.size < w3.heap.size := by have := n3.size; have := HX.out.2.2.2.2; omega
  clear hb n3
  have b3 := HB3.out
  have v0 := cell_regrown c0
  have v1 := cell_regrown c1
  rcases hI : inB A 0 ((S.length : Int) - 1)
  · have KA : Hid (∀ V, Calls Try.prog 67 #[.int .i64 A, .int .i64 0, .int .i64 ((S.length : Int) - 1)] V fun e w' => e = .returned (.bool false) ∧ Below V.heap.size V w') := Lib.hid fun V => by rw [← hI]; exact l1In_below _ _ _ V
    have HO := Lib.hid (show cofR S A B N = none from cofR_off hI)
    clear hI
    go_wp2_with fail
    refine wp_region_quiet_below (by kernel_rfl) (by kernel_rfl) ?_
    repeat (any_goals (first | go_big_quiet_step ((go_at_call 67; exact Calls.regrown_of (KA.out _))) | quiet_step ((go_at_call 67; exact Calls.regrown_of (KA.out _)))))
    refine wpQuiet_nil ?_
    intro w5 hw5
    have nn := quiet_end hw5
    clear hw5 v0 v1
    have e0 := (nn.cell (p := ⟨w.heap.size, 0, none⟩) z3).trans c0
    have e1 := (nn.cell (p := ⟨w.heap.size, 1, none⟩) z3).trans c1
    have e2 := (nn.cell (p := ⟨w.heap.size, 2, none⟩) z3).trans c2
    have b5 := b3.trans (nn.mono b3.size)
    have z5 : w.heap.size < w5.heap.size := by have := nn.size; omega
    clear nn c0 c1 c2 c3 b3
    clear e1 e2
    go_wp2_with fail
    exact bodyPost_ret (v := .tuple #[.slice (some ⟨w5.heap.size, 0, none⟩) 0 0, .bool false]) (by simp [results, Try.results23, go_sem]) rfl ⟨_, by rw [HO.out]; rfl, by rw [HO.out]; exact TmB.nil _ _ _ _ _, b5.alloc b5.size _⟩
  have KA : Hid (∀ V, Calls Try.prog 67 #[.int .i64 A, .int .i64 0, .int .i64 ((S.length : Int) - 1)] V fun e w' => e = .returned (.bool true) ∧ Below V.heap.size V w') := Lib.hid fun V => by rw [← hI]; exact l1In_below _ _ _ V
  obtain ⟨k, rfl⟩ : ∃ k : Nat, A = (k : Int) := ⟨A.toNat, by have := inB_iff.1 hI; omega⟩
  have hk : k < S.length := by have := inB_iff.1 hI; omega
  clear hI
  obtain ⟨b, o, x, va, vb, vc, vd, g, Q, na, nc, rfl, hB, hxy, hnd, hc⟩ := rk_full HRL.out hk
  have HXY := Lib.hid hxy
  have CC := Lib.hid hc
  have HND := Lib.hid hnd
  have hQ := HQ.out _ (List.mem_of_getElem? hxy)
  have hQl := hQ.1
  have HQQ := Lib.hid hQ.2
  simp only at hQl
  clear hxy hc hnd hQ
  have i0 : (0 : Int) ≤ (k : Int) := by omega
  have i1 : (k : Int) < (S.length : Int) := by omega
  have v2 := cell_regrown c2
  have v6 := cell_regrown (CC.out w3 b3).2.2.2.2.2
  have zb3 : b < w3.heap.size := by have := b3.size; omega
  rcases hJ : inB B 0 ((Q.length : Int) - 1)
  · have KB : Hid (∀ V, Calls Try.prog 67 #[.int .i64 B, .int .i64 0, .int .i64 ((Q.length : Int) - 1)] V fun e w' => e = .returned (.bool false) ∧ Below V.heap.size V w') := Lib.hid fun V => by rw [← hJ]; exact l1In_below _ _ _ V
    have HO := Lib.hid (show cofR S (k : Int) B N = none from cofR_need HXY.out hJ)
    clear hJ
    go_wp2_with fail
    refine wp_region_quiet_below (by kernel_rfl) (by kernel_rfl) ?_
    repeat (any_goals (first | go_big_quiet_step ((first | (go_at_call 67; with_reducible exact Calls.regrown_of (KA.out _)) | (go_at_call 67; with_reducible exact Calls.regrown_of (KB.out _)))) | quiet_step ((first | (go_at_call 67; with_reducible exact Calls.regrown_of (KA.out _)) | (go_at_call 67; with_reducible exact Calls.regrown_of (KB.out _))))))
    refine wpQuiet_nil ?_
    intro w5 hw5
    have nn := quiet_end hw5
    clear hw5 v0 v1 v2 v6
    have e0 := (nn.cell (p := ⟨w.heap.size, 0, none⟩) z3).trans c0
    have e1 := (nn.cell (p := ⟨w.heap.size, 1, none⟩) z3).trans c1
    have e2 := (nn.cell (p := ⟨w.heap.size, 2, none⟩) z3).trans c2
    have b5 := b3.trans (nn.mono b3.size)
    have z5 : w.heap.size < w5.heap.size := by have := nn.size; omega
    clear nn c0 c1 c2 c3 b3
    clear e1 e2
    go_wp2_with fail
    exact bodyPost_ret (v := .tuple #[.slice (some ⟨w5.heap.size, 0, none⟩) 0 0, .bool false]) (by simp [results, Try.results23, go_sem]) rfl ⟨_, by rw [HO.out]; rfl, by rw [HO.out]; exact TmB.nil _ _ _ _ _, b5.alloc b5.size _⟩
  have KB : Hid (∀ V, Calls Try.prog 67 #[.int .i64 B, .int .i64 0, .int .i64 ((Q.length : Int) - 1)] V fun e w' => e = .returned (.bool true) ∧ Below V.heap.size V w') := Lib.hid fun V => by rw [← hJ]; exact l1In_below _ _ _ V
  obtain ⟨j, rfl⟩ : ∃ j : Nat, B = (j : Int) := ⟨B.toNat, by have := inB_iff.1 hJ; omega⟩
  have hj : j < Q.length := by have := inB_iff.1 hJ; omega
  clear hJ
  have j0 : (0 : Int) ≤ (j : Int) := by omega
  have j1 : (j : Int) < (Q.length : Int) := by omega
  have v3 := cell_regrown c3
  by_cases hN : N = 0
  case neg =>
    have HO := Lib.hid (show cofR S (k : Int) (j : Int) N = none from cofR_name hN)
    have hNb : (N == 0) = false := beq_eq_false_iff_ne.2 hN
    clear hN
    go_wp2_with fail
    refine wp_region_quiet_below (by kernel_rfl) (by kernel_rfl) ?_
    repeat (any_goals (first | go_big_quiet_step ((first | (go_at_call 67; with_reducible exact Calls.regrown_of (KA.out _)) | (go_at_call 67; with_reducible exact Calls.regrown_of (KB.out _)))) | quiet_step ((first | (go_at_call 67; with_reducible exact Calls.regrown_of (KA.out _)) | (go_at_call 67; with_reducible exact Calls.regrown_of (KB.out _))))))
    refine wpQuiet_nil ?_
    intro w5 hw5
    have nn := quiet_end hw5
    clear hw5 v0 v1 v2 v3 v6
    have e0 := (nn.cell (p := ⟨w.heap.size, 0, none⟩) z3).trans c0
    have e1 := (nn.cell (p := ⟨w.heap.size, 1, none⟩) z3).trans c1
    have e2 := (nn.cell (p := ⟨w.heap.size, 2, none⟩) z3).trans c2
    have b5 := b3.trans (nn.mono b3.size)
    have z5 : w.heap.size < w5.heap.size := by have := nn.size; omega
    clear nn c0 c1 c2 c3 b3
    clear e1 e2
    go_wp2_with fail
    exact bodyPost_ret (v := .tuple #[.slice (some ⟨w5.heap.size, 0, none⟩) 0 0, .bool false]) (by simp [results, Try.results23, go_sem]) rfl ⟨_, by rw [HO.out]; rfl, by rw [HO.out]; exact TmB.nil _ _ _ _ _, b5.alloc b5.size _⟩
  subst hN
  go_wp2_with fail
  refine wp_region_quiet_below (by kernel_rfl) (by kernel_rfl) ?_
  repeat (any_goals (first | go_big_quiet_step ((first | (go_at_call 67; with_reducible exact Calls.regrown_of (KA.out _)) | (go_at_call 67; with_reducible exact Calls.regrown_of (KB.out _)))) | quiet_step ((first | (go_at_call 67; with_reducible exact Calls.regrown_of (KA.out _)) | (go_at_call 67; with_reducible exact Calls.regrown_of (KB.out _))))))
  refine wpQuiet_nil ?_
  intro w5 hw5
  have nn := quiet_end hw5
  clear hw5 v0 v1 v2 v3 v6
  have e0 := (nn.cell (p := ⟨w.heap.size, 0, none⟩) z3).trans c0
  have e1 := (nn.cell (p := ⟨w.heap.size, 1, none⟩) z3).trans c1
  have e2 := (nn.cell (p := ⟨w.heap.size, 2, none⟩) z3).trans c2
  have b5 := b3.trans (nn.mono b3.size)
  have z5 : w.heap.size < w5.heap.size := by have := nn.size; omega
  clear nn c0 c1 c2 c3 b3
  obtain ⟨nb, no, y, L, la, lc, rfl, hnB, hyl, hnc⟩ := nk_get HND.out hj
  have hL : L.length ≤ 1048576 := HQQ.out _ (List.mem_of_getElem? hyl)
  have HYL := Lib.hid hyl
  have CN := Lib.hid hnc
  clear hyl hnc
  have HCR := Lib.hid (show cofR S (k : Int) (j : Int) 0 = (unm (y, L)).map fun t => twoL (x, oneL va vb vc vd, false) t by
    rw [cofR_at HXY.out, if_pos ⟨j0, j1⟩, show ((j : Int)).toNat = j by omega, HYL.out]; rfl)
  obtain ⟨_, _, _, _, _, a6⟩ := CC.out w5 b5
  obtain ⟨n0, n1, ns⟩ := CN.out w5 b5
  have HNS := Lib.hid ns
  have zb5 : b < w5.heap.size := by have := b5.size; omega
  have zn5 : nb < w5.heap.size := by have := b5.size; omega
  have B5 := Lib.hid b5
  clear ns b5 e0
  go_upto_region 9 with fail
  go_cut [10] from 17 (fun p wx => p = .pointer (some ⟨w5.heap.size, 0, none⟩) ∧ wx.cell? ⟨w5.heap.size, 0, none⟩ = some (.int .i64 y) ∧ wx.cell? ⟨w5.heap.size, 1, none⟩ = some (.slice la L.length lc) ∧ w5.heap.size < wx.heap.size ∧ Below w5.heap.size w5 wx)
  case first =>
    go_region
    all_goals
      go_wp2_with fail
      go_meet
      case rel => exact ⟨rfl, by go_simp, by go_simp, by simp, by go_grown⟩
  case rest =>
    rename World => w6
    obtain ⟨rfl, y0, y1, yz, n6⟩ := hcut
    have b6 := B5.out.trans (n6.mono B5.out.size)
    have e1' := (n6.cell (p := ⟨w.heap.size, 1, none⟩) z5).trans e1
    have HNS6 := Lib.hid (HNS.out.below (w' := w6) (n6.mono (by have := B5.out.size; omega)))
    have z6 : w.heap.size < w6.heap.size := by omega
    clear e1 e2 a6 n0 n1 n6
    rcases hok : notOk L
    · have HU := Lib.hid (show cofR S (k : Int) (j : Int) 0 = none by rw [HCR.out]; unfold unm; simp only; rw [hok]; rfl)
      have KR : Hid (∀ V, SpAt V V.heap.size (.slice la L.length lc) L → Calls Try.prog 68 #[.agg #[.slice la L.length lc]] V (TPost false (notR L) V)) := Lib.hid fun V g => by rw [← hok]; exact specNot_any _ L V hL g
      clear hok y0
      go_wp2_with fail
      refine (KR.out _ (HNS6.out.mono (by omega))).mono ?_
      rintro e w7 ⟨v7, rfl, q7, hb7⟩
      obtain ⟨pa, pc, rfl, _⟩ := id q7
      have b7 := b6.trans (hb7.mono b6.size)
      clear q7 hb7
      go_wp2_with fail
      exact bodyPost_ret (v := .tuple #[.slice (some ⟨w7.heap.size + 1, 0, none⟩) 0 0, .bool false]) (by simp [results, Try.results23, go_sem]) rfl ⟨_, by rw [HU.out]; rfl, by rw [HU.out]; exact TmB.nil _ _ _ _ _, (b7.alloc b7.size _).alloc (by have := b7.size; simp; omega) _⟩
    · have HU := Lib.hid (show cofR S (k : Int) (j : Int) 0 = some (twoL (x, oneL va vb vc vd, false) (y, notR L, true)) by rw [HCR.out]; unfold unm; simp only; rw [hok]; rfl)
      have KR : Hid (∀ V, SpAt V V.heap.size (.slice la L.length lc) L → Calls Try.prog 68 #[.agg #[.slice la L.length lc]] V (TPost true (notR L) V)) := Lib.hid fun V g => by rw [← hok]; exact specNot_any _ L V hL g
      clear hok
      go_wp2_with fail
      refine (KR.out _ (HNS6.out.mono (by omega))).mono ?_
      rintro e w7 ⟨v7, rfl, q7, hb7⟩
      obtain ⟨pa, pc, rfl, _⟩ := id q7
      have b7 := b6.trans (hb7.mono b6.size)
      have s7 := hb7.size
      have m1 := (hb7.cell (p := ⟨w.heap.size, 1, none⟩) z6).trans e1'
      have my := (hb7.cell (p := ⟨w5.heap.size, 0, none⟩) yz).trans y0
      obtain ⟨w8, hw8⟩ : ∃ V : World, V = w7.alloc (.cells #[.slice pa (notR L).length pc] 81) := ⟨_, rfl⟩
      have n78 : Below w7.heap.size w7 w8 := by rw [hw8]; exact (Below.refl _ _).alloc (Nat.le_refl _) _
      have z78 : w7.heap.size < w8.heap.size := by rw [hw8]; simp
      have g1 := (n78.cell (p := ⟨w.heap.size, 1, none⟩) (by show w.heap.size < w7.heap.size; omega)).trans m1
      have gy := (n78.cell (p := ⟨w5.heap.size, 0, none⟩) (by show w5.heap.size < w7.heap.size; omega)).trans my
      have gp : w8.cell? ⟨w7.heap.size, 0, none⟩ = some (.slice pa (notR L).length pc) := by rw [hw8]; go_simp
      have b8 := b7.trans (n78.mono b7.size)
      obtain ⟨F2, hF2, lo2⟩ := SpF.of (q7.below n78)
      have HF2 := Lib.hid hF2
      have HL2 := Lib.hid lo2
      have HLT := Lib.hid hF2.lt
      obtain ⟨a0, a1, a2, a3, a4, _⟩ := CC.out w8 b8
      have B8 := Lib.hid b8
      have zb8 : b < w8.heap.size := by omega
      have zs8 : w.heap.size < w8.heap.size := by omega
      have zy8 : w5.heap.size < w8.heap.size := by omega
      have HC := Lib.hid (show ∀ V, Below w8.heap.size w8 V → V.cell? ⟨w.heap.size, 1, none⟩ = some (.int .i64 (k : Int)) ∧ V.cell? ⟨b, o + k * 7, none⟩ = some (.int .i64 x) ∧ V.cell? ⟨b, o + k * 7 + 1, none⟩ = some (.int .i64 va) ∧ V.cell? ⟨b, o + k * 7 + 2, none⟩ = some (.int .i64 vb) ∧ V.cell? ⟨b, o + k * 7 + 3, none⟩ = some (.int .i64 vc) ∧ V.cell? ⟨b, o + k * 7 + 4, none⟩ = some (.int .i64 vd) ∧ V.cell? ⟨w5.heap.size, 0, none⟩ = some (.int .i64 y) ∧ V.cell? ⟨w7.heap.size, 0, none⟩ = some (.slice pa (notR L).length pc) from fun V q => ⟨(q.cell (p := ⟨w.heap.size, 1, none⟩) zs8).trans g1, (q.cell (p := ⟨b, o + k * 7, none⟩) zb8).trans a0, (q.cell (p := ⟨b, o + k * 7 + 1, none⟩) zb8).trans a1, (q.cell (p := ⟨b, o + k * 7 + 2, none⟩) zb8).trans a2, (q.cell (p := ⟨b, o + k * 7 + 3, none⟩) zb8).trans a3, (q.cell (p := ⟨b, o + k * 7 + 4, none⟩) zb8).trans a4, (q.cell (p := ⟨w5.heap.size, 0, none⟩) zy8).trans gy, (q.cell (p := ⟨w7.heap.size, 0, none⟩) z78).trans gp⟩)
      clear q7 hb7 m1 my n78 b7 b8 hF2 lo2 y0 y1 e1' b6 KR
      go_upto_region 13 with fail
      rw [← hw8]
      clear hw8
      go_region_held3 (fun V => V.cell? ⟨w.heap.size, 1, none⟩ = some (.int .i64 (k : Int)) ∧ V.cell? ⟨b, o + k * 7, none⟩ = some (.int .i64 x) ∧ V.cell? ⟨b, o + k * 7 + 1, none⟩ = some (.int .i64 va) ∧ V.cell? ⟨b, o + k * 7 + 2, none⟩ = some (.int .i64 vb) ∧ V.cell? ⟨b, o + k * 7 + 3, none⟩ = some (.int .i64 vc) ∧ V.cell? ⟨b, o + k * 7 + 4, none⟩ = some (.int .i64 vd) ∧ V.cell? ⟨w5.heap.size, 0, none⟩ = some (.int .i64 y) ∧ V.cell? ⟨w7.heap.size, 0, none⟩ = some (.slice pa (notR L).length pc)) (go_keep)
        (first
          | (go_at_call 70; refine (specOne_any va vb vc vd _).mono ?_; rintro e w9 ⟨v9, rfl, ⟨oa, oc, rfl, hro⟩, hb9⟩; have n9 : Below w8.heap.size w8 w9 := Below.step (by go_grown) hb9; have q9 : SRes (oneL va vb vc vd) w8.heap.size (.slice oa (oneL va vb vc vd).length oc) w9 := ⟨oa, oc, rfl, hro⟩; obtain ⟨F1, hF1, lo1⟩ := SpF.of q9; have HF1 := Lib.hid hF1; have HL1 := Lib.hid lo1; have N9 := Lib.hid n9; obtain ⟨p1, p2, p3, p4, p5, p6, p7, p8⟩ := HC.out w9 n9; have z9 := n9.size; clear hro hb9 n9 q9 hF1 lo1)
          | (go_at_call 69; refine (l6Terms_any x y false true (oneL va vb vc vd) (notR L) _ _ F1 F2 w.heap.size _ HF1.out (HF2.out.kept fun q hq => N9.out.block q (HLT.out q hq)) (fun q hq => by have := HL1.out q hq; omega) (fun q hq => by have := HL2.out q hq; omega) (fun q h1 h2 => by have := HL1.out q h1; have := HLT.out q h2; omega) (by first | omega | (simp; omega))).mono ?_; rintro e w10 ⟨r10, rfl, hT10, hb10⟩; have n10 : Below w9.heap.size w9 w10 := Below.step (by go_grown) hb10; have HT10 := Lib.hid hT10; have N10 := Lib.hid n10; obtain ⟨s1, s2, s3, s4, s5, s6, s7, s8⟩ := HC.out w10 (N9.out.trans (n10.mono N9.out.size)); clear hT10 hb10 n10)
          | fail)
      all_goals
        have n8 := N9.out.trans (N10.out.mono N9.out.size)
        have bE := B8.out.trans (n8.mono B8.out.size)
        clear n8
        go_wp2_with fail
        exact bodyPost_ret (v := .tuple #[r10, .bool true]) (by simp [results, Try.results23, go_sem]) rfl ⟨_, by rw [HU.out]; rfl, by rw [HU.out]; exact HT10.out, bE⟩
end Tmc
end Go.Proofs.Ytdhbjjolgmodjaa

/- Contract of the model's ChoiceTrim, over this seat's translation, as a plain function tells it; nothing that was there before the call has changed. Condition: at most 1048576 of each row and of what is in it. -/
import Derived.Test.YthbfhalciioehaaCps
namespace Go.Proofs.Ythbfhalciioehaa
open Go.RowKit Go.Sort

namespace Cpu
open Foot Copy Nup Pkf
theorem reach_few {S : List Rel} {N : List Nd} {C : List Pk} : (reachL S N C).length ≤ 8 := by
  unfold reachL
  rw [List.length_map]
  unfold trimL
  split
  · rename_i h
    rw [Bool.and_eq_true] at h
    exact Nat.le_trans (cameL_len _ _) (pk_len h.2)
  · simp

theorem InB_pick {w w' : World} {v z : Value} {P : List Int} {B : Nat} {L : List Pk} (h : InB w v P) (ho : KOwn w B z L) (hg : w.grownBy w' z.ownBlock) : InB w' v P := by
  obtain ⟨a, cap, rfl, h⟩ := h
  refine ⟨a, cap, rfl, ?_⟩
  rcases h with h | ⟨k, m, e, hk⟩
  · exact .inl h
  · refine .inr ⟨k, m, e, hk.kept (hg.block k hk.lt fun e => ?_)⟩
    obtain ⟨C, h1, _⟩ := hk
    rcases ho.2 with ⟨rfl, _⟩ | ⟨g', cap', cur, rfl, _, hg', _⟩
    · cases e
    · have e' : some k = some g' := e
      injection e' with e'
      subst e'
      rw [hg'] at h1
      simp at h1

set_option maxRecDepth 100000 in
set_option maxHeartbeats 8000000 in
theorem specTrim_any (v u z : Value) (S : List Rel) (N : List Nd) (C : List Pk) (w : World) (hl : S.length ≤ 1048576) (hq : ∀ q ∈ S, q.2.2.2.length ≤ 1048576 ∧ ∀ p ∈ q.2.2.2, p.2.length ≤ 1048576) (hN : N.length ≤ 1048576) (hNq : ∀ q ∈ N, q.2.length ≤ 1048576) (hC : C.length ≤ 1048576) (h : RlAt w w.heap.size v S) (h' : NdAt w w.heap.size u N) (h2 : PkAt w w.heap.size z C) :
    Calls Try.prog 53 #[v, u, z] w (PbPost (trimL S N C) w) := by
  obtain ⟨i0, hi, hz0, hz1, hz2⟩ := info_parts infoPick
  obtain ⟨sa, caps, rfl, hx⟩ := id h
  obtain ⟨na, ncap, rfl, hy⟩ := id h'
  obtain ⟨pa, pc, rfl, h0⟩ := id h2
  clear hx hy
  have H := Lib.hid h
  have H' := Lib.hid h'
  have H2 := Lib.hid h2
  clear h h' h2
  have KR : Hid (∀ V, RlAt V V.heap.size (.slice sa S.length caps) S → NdAt V V.heap.size (.slice na N.length ncap) N → PkAt V V.heap.size (.slice pa C.length pc) C → Calls Try.prog 45 #[.slice sa S.length caps, .slice na N.length ncap, .slice pa C.length pc] V (IPost (reachL S N C) V)) := Lib.hid fun V g g' g2 => specReach_any _ _ _ S N C V hl hq hN hNq hC g g' g2
  have HTR := Lib.hid (sel_trim S N C).symm
  have hRl := reach_few (S := S) (N := N) (C := C)
  generalize reachL S N C = R at *
  obtain ⟨w1, hw1⟩ : ∃ V : World, V = w.alloc (.cells #[] 98) := ⟨_, rfl⟩
  have b1 : Below w.heap.size w w1 := by rw [hw1]; exact (Below.refl _ _).alloc (Nat.le_refl _) _
  have o1 : KOwn w1 w.heap.size (.slice (some ⟨w.heap.size, 0, none⟩) 0 0) [] := by
    rw [hw1]
    have := World.ownsRow_made (base := w.heap.size) (e := 98) (size := 5) w #[] 0 (by simp) (by unfold maxLen; omega) rfl
    exact this
  have HO1 := Lib.hid o1
  clear o1
  go_enter Try.func53, Try.ntmps53
  go_upto_region 2 with fail
  rw [← hw1]
  clear hw1
  go_wp2_with fail
  refine (KR.out _ (H.out.stepAt b1) (H'.out.stepAt b1) (H2.out.stepAt b1)).mono ?_
  rintro e w2 ⟨r, rfl, hr, hb⟩
  have b2 := b1.trans (hb.mono b1.size)
  have HO2 := Lib.hid (KOwn.below HO1.out hb)
  obtain ⟨ra, rc, rfl, hr0⟩ := id hr.at
  have z2 := b2.size
  have HOW2 : ∀ k, (Value.slice (some ⟨w.heap.size, 0, none⟩) 0 0).ownBlock = some k → k < w1.heap.size := fun k e => ((World.ownsRow.lt HO1.out) k e).2
  have HRB := Lib.hid (show InB w2 (.slice ra R.length rc) R from InB.of hr)
  clear hb hr hr0
  go_wp2_with fail
  go_loopw [7, 9] (fun v i wr => ∃ (k : Nat) (T : List Pk), k ≤ C.length ∧ i = .int .i64 (k : Int) ∧ selK R C = T ++ selK R (C.drop k) ∧ T.length ≤ 8 * k ∧ KOwn wr w.heap.size v T ∧ InB wr (.slice ra R.length rc) R ∧ Below w.heap.size w wr) (fun _ i _ => C.length - (intOf i).toNat)
  case atStart => exact ⟨0, [], Nat.zero_le _, rfl, rfl, Nat.le_refl _, HO2.out, HRB.out, b2⟩
  case round =>
    obtain ⟨k, T, hk, rfl, he, hT, hown, hib, hb⟩ := hrel
    obtain ⟨va, vc, hv, hx⟩ := id (KOwn.pb hown).at
    subst hv
    clear hx
    have HE := Lib.hid he
    have HO := Lib.hid hown
    have HI := Lib.hid hib
    clear he hown hib
    by_cases hlt : k < C.length
    · rcases h0 with h0 | ⟨b, o, rfl, hB, hc⟩
      · subst h0
        exact absurd hlt (by simp)
      obtain ⟨x, a1, b', c1, d1, hxy⟩ : ∃ x a b c d, C[k] = (x, a, b, c, d) := ⟨_, _, _, _, _, rfl⟩
      obtain ⟨e0, e1, e2, e3, e4⟩ := hc k hlt
      rw [hxy] at e0 e1 e2 e3 e4
      simp only at e0 e1 e2 e3 e4
      have HST := Lib.hid (selK_step (names := R) (show C[k]? = some (x, a1, b', c1, d1) by rw [List.getElem?_eq_getElem hlt, hxy]))
      have i1 : (0 : Int) ≤ (k : Int) := by omega
      have i2 : (k : Int) < (C.length : Int) := by omega
      clear hc hxy
      have hIN : ∃ (j : Nat) (T2 : List Pk), j ≤ R.length ∧ Value.int .i64 0 = .int .i64 (j : Int) ∧ T ++ repK (x, a1, b', c1, d1) R = T2 ++ repK (x, a1, b', c1, d1) (R.drop j) ∧ T2.length ≤ 8 * k + j ∧ KOwn wr w.heap.size (.slice va T.length vc) T2 ∧ InB wr (.slice ra R.length rc) R ∧ Below w.heap.size w wr := ⟨0, T, Nat.zero_le _, rfl, rfl, by omega, HO.out, HI.out, hb⟩
      have HIN := Lib.hid hIN
      clear hIN hb
      go_wp2_with fail
      go_loopw [7, 10] (fun v i wx => ∃ (j : Nat) (T2 : List Pk), j ≤ R.length ∧ i = .int .i64 (j : Int) ∧ T ++ repK (x, a1, b', c1, d1) R = T2 ++ repK (x, a1, b', c1, d1) (R.drop j) ∧ T2.length ≤ 8 * k + j ∧ KOwn wx w.heap.size v T2 ∧ InB wx (.slice ra R.length rc) R ∧ Below w.heap.size w wx) (fun _ i _ => R.length - (intOf i).toNat)
      case atStart => exact HIN.out
      case round =>
        rename World => wx
        obtain ⟨j, T2, hj, rfl, he2, hT2, hown, hib, hb⟩ := hrel
        obtain ⟨vb, vd, hv, hx⟩ := id (KOwn.pb hown).at
        subst hv
        clear hx
        have HE2 := Lib.hid he2
        have HO2' := Lib.hid hown
        have HI2 := Lib.hid hib
        have zb := hb.size
        clear he2 hown
        by_cases hjl : j < R.length
        · obtain ⟨m, hm⟩ : ∃ m, R[j] = m := ⟨_, rfl⟩
          obtain ⟨zb', zo, hza, hzB, hzc⟩ : ∃ b o, ra = some ⟨b, o, none⟩ ∧ b < wx.heap.size ∧ ∀ i (h : i < R.length), wx.cell? ⟨b, o + i, none⟩ = some (.int .i64 R[i]) := by
            obtain ⟨a', c', e', hh⟩ := hib.at
            simp only [Value.slice.injEq] at e'
            obtain ⟨rfl, _, _⟩ := e'
            rcases hh with hh | hh
            · rw [hh] at hjl; simp at hjl
            · exact hh
          subst hza
          have r0 := hzc j hjl
          rw [hm] at r0
          have HRS := Lib.hid (repK_step (x := (x, a1, b', c1, d1)) (show R[j]? = some m by rw [List.getElem?_eq_getElem hjl, hm]))
          have i3 : (0 : Int) ≤ (j : Int) := by omega
          have i4 : (j : Int) < (R.length : Int) := by omega
          have f0 := (hb.cell (p := ⟨b, o + k * 5, none⟩) hB).trans e0
          have f1 := (hb.cell (p := ⟨b, o + k * 5 + 1, none⟩) hB).trans e1
          have f2 := (hb.cell (p := ⟨b, o + k * 5 + 2, none⟩) hB).trans e2
          have f3 := (hb.cell (p := ⟨b, o + k * 5 + 3, none⟩) hB).trans e3
          have f4 := (hb.cell (p := ⟨b, o + k * 5 + 4, none⟩) hB).trans e4
          have bl : b < wx.heap.size := by omega
          have t0 := cell_regrown r0
          have t1 := cell_regrown f0
          clear hib hzc hm
          by_cases hmx : m = x
          · subst hmx
            have HT2 := Lib.hid (show T ++ repK (m, a1, b', c1, d1) R = (T2 ++ [(m, a1, b', c1, d1)]) ++ repK (m, a1, b', c1, d1) (R.drop (j + 1)) by rw [HE2.out, HRS.out]; simp)
            go_wp2_with fail
            refine wp_region_quiet_below (by kernel_rfl) (by kernel_rfl) ?_
            repeat (any_goals (first | go_big_quiet_step (fail) | quiet_step (fail)))
            refine wpQuiet_nil ?_
            intro W2 hw2
            have nn := quiet_end hw2
            clear hw2 t0 t1
            have g0 := (nn.cell (p := ⟨b, o + k * 5, none⟩) bl).trans f0
            have g1 := (nn.cell (p := ⟨b, o + k * 5 + 1, none⟩) bl).trans f1
            have g2 := (nn.cell (p := ⟨b, o + k * 5 + 2, none⟩) bl).trans f2
            have g3 := (nn.cell (p := ⟨b, o + k * 5 + 3, none⟩) bl).trans f3
            have g4 := (nn.cell (p := ⟨b, o + k * 5 + 4, none⟩) bl).trans f4
            have b4 := hb.trans (nn.mono zb)
            have z4 := b4.size
            have o4 := KOwn.below HO2'.out nn
            have HI4 := Lib.hid (HI2.out.below nn)
            clear f0 f1 f2 f3 f4 r0
            go_wp2_with (at_builtin; refine wpList_append_own _ rfl _ _ 28 rfl w.heap.size 98 i0 (.agg #[.int .i64 0, .int .i64 0, .int .i64 0, .int .i64 0, .int .i64 0]) 5 40 Try.underlying28 hi hz0 hz1 hz2 rfl (by decide) _ _ _ rfl (KOwn.below o4 ((Below.refl W2.heap.size W2).alloc (Nat.le_refl _) (.cells #[.int .i64 m, .int .i64 a1, .int .i64 b', .int .i64 c1, .int .i64 d1] 98))) ⟨W2.heap.size, 0, none⟩ 1 1 [.int .i64 m, .int .i64 a1, .int .i64 b', .int .i64 c1, .int .i64 d1] rfl rfl (pick_new W2 m a1 b' c1 d1) (pick_one _ _ _ _ _) (by unfold maxLen; omega) (by omega) (by simp; omega) ?_)
            intro v' w5 hown' hgrow hnn
            have hI5 : InB w5 (.slice (some ⟨zb', zo, none⟩) R.length rc) R := InB_pick (HI4.out.below ((Below.refl _ _).alloc (Nat.le_refl _) _)) (KOwn.below o4 ((Below.refl W2.heap.size W2).alloc (Nat.le_refl _) (.cells #[.int .i64 m, .int .i64 a1, .int .i64 b', .int .i64 c1, .int .i64 d1] 98))) hgrow
            have HR := Lib.hid (show ∃ (j' : Nat) (T3 : List Pk), j' ≤ R.length ∧ Value.int .i64 ((j : Int) + 1) = .int .i64 (j' : Int) ∧ T ++ repK (m, a1, b', c1, d1) R = T3 ++ repK (m, a1, b', c1, d1) (R.drop j') ∧ T3.length ≤ 8 * k + j' ∧ KOwn w5 w.heap.size v' T3 ∧ InB w5 (.slice (some ⟨zb', zo, none⟩) R.length rc) R ∧ Below w.heap.size w w5 from
              ⟨j + 1, T2 ++ [(m, a1, b', c1, d1)], by omega, by go_num, HT2.out, by simp; omega, KOwn.push hown', hI5, KOwn.gone o4 b4 z4 hgrow⟩)
            clear hown' hgrow hnn o4 b4 hI5
            go_wp2_with fail
            go_roundw
            case rel => exact HR.out
            case measure => simp [intOf]; omega
          · have hz : (m == x) = false := by rw [beq_eq_false_iff_ne]; exact hmx
            have HT2 := Lib.hid (show T ++ repK (x, a1, b', c1, d1) R = T2 ++ repK (x, a1, b', c1, d1) (R.drop (j + 1)) by rw [HE2.out, HRS.out, if_neg hmx]; simp)
            go_wp2_with fail
            refine wp_region_quiet_below (by kernel_rfl) (by kernel_rfl) ?_
            repeat (any_goals (first | go_big_quiet_step (fail) | quiet_step (fail)))
            refine wpQuiet_nil ?_
            intro W2 hw2
            have nn := quiet_end hw2
            clear hw2 t0 t1
            have HR := Lib.hid (show ∃ (j' : Nat) (T3 : List Pk), j' ≤ R.length ∧ Value.int .i64 ((j : Int) + 1) = .int .i64 (j' : Int) ∧ T ++ repK (x, a1, b', c1, d1) R = T3 ++ repK (x, a1, b', c1, d1) (R.drop j') ∧ T3.length ≤ 8 * k + j' ∧ KOwn W2 w.heap.size (.slice vb T2.length vd) T3 ∧ InB W2 (.slice (some ⟨zb', zo, none⟩) R.length rc) R ∧ Below w.heap.size w W2 from
              ⟨j + 1, T2, by omega, by go_num, HT2.out, by omega, KOwn.below HO2'.out nn, HI2.out.below nn, hb.trans (nn.mono zb)⟩)
            clear f0 f1 f2 f3 f4 r0
            go_wp2_with fail
            go_roundw
            case rel => exact HR.out
            case measure => simp [intOf]; omega
        · obtain rfl : j = R.length := by omega
          have HR := Lib.hid (show ∃ (k' : Nat) (T' : List Pk), k' ≤ C.length ∧ Value.int .i64 ((k : Int) + 1) = .int .i64 (k' : Int) ∧ selK R C = T' ++ selK R (C.drop k') ∧ T'.length ≤ 8 * k' ∧ KOwn wx w.heap.size (.slice vb T2.length vd) T' ∧ InB wx (.slice ra R.length rc) R ∧ Below w.heap.size w wx from
            ⟨k + 1, T2, by omega, by go_num, by rw [HE.out, HST.out, ← List.append_assoc, HE2.out, List.drop_length]; simp [repK], by omega, HO2'.out, HI2.out, hb⟩)
          clear hib
          go_wp2_with fail
          go_roundw
          case rel => exact HR.out
          case measure => simp [intOf]; omega
    · obtain rfl : k = C.length := by omega
      have HQ := Lib.hid (show selK R C = T by rw [HE.out, List.drop_length]; simp [selK])
      go_wp2_with fail
      go_ret
      exact ⟨_, rfl, by rw [HTR.out, HQ.out]; exact KOwn.pb HO.out, hb⟩
end Cpu
end Go.Proofs.Ythbfhalciioehaa

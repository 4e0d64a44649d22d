/- The contract of the model's Build, over this seat's translation: it answers what buildL tells, in a row of its own; nothing that was there before the call has changed. Condition: at most 1048576 targets, lines, numbers and bytes of each. -/
import Derived.Test.YtopplljilmjjgaaBls
import Derived.Test.YtopplljilmjjgaaBlj
import Derived.Test.YtopplljilmjjgaaRxu
import Derived.Deep.RegionWith
import Derived.Deep.RegionHeld3
namespace Go.Proofs.Ytopplljilmjjgaa
open Go.RowKit Go.Sort

namespace Bm
open Tg Wl Rx Md Drm Rnw Bl
theorem two_one {x y : Value} (hx : x.oneCell' = true) (hy : y.oneCell' = true) : ∀ u ∈ [x, y], u.oneCell' = true := by
  intro u hu
  simp at hu
  rcases hu with rfl | rfl
  · exact hx
  · exact hy
set_option maxRecDepth 100000 in
set_option maxHeartbeats 8000000 in
theorem specBuild_any (v : Value) (S : List Tgt) (w : World) (hl : S.length ≤ 1048576) (hq : ∀ q ∈ S, Par q) (h : TgAt w w.heap.size v S) :
    Calls Try.prog 100 #[v] w (BdPost S w) := by
  obtain ⟨i0, hi, hz0, hz1, hz2⟩ := info_parts infoMade
  obtain ⟨a, cap, rfl, hh⟩ := id h
  have KW := Lib.hid fun V (g : Below w.heap.size w V) => specWorldOk_any (.slice a S.length cap) S V hl hq (h.stepAt g)
  have HH := Lib.hid hh
  have HQ := Lib.hid hq
  clear h hh hq
  rcases hw : wOk S
  · have HE := Lib.hid (show buildL S = [] by unfold buildL; rw [hw]; rfl)
    rw [hw] at KW
    have HST := Lib.hid ((Below.refl w.heap.size w).alloc (Nat.le_refl _) (.cells #[] 73))
    go_enter Try.func100, Try.ntmps100
    go_wp2_with fail
    go_loopw [3, 4] (fun s i wr => (∃ a c, s = .slice a 0 c) ∧ i = .int .i64 0 ∧ Below w.heap.size w wr) (fun _ _ _ => 0)
    case atStart => exact ⟨⟨_, _, rfl⟩, rfl, HST.out⟩
    case round =>
      obtain ⟨⟨a2, c2, rfl⟩, rfl, hb⟩ := hrel
      by_cases hlt : 0 < S.length
      · have i1 : (0 : Int) < (S.length : Int) := by omega
        go_wp2_with fail
        refine (KW.out _ hb).mono ?_
        rintro e w2 ⟨rfl, hb2⟩
        have b2 := hb.trans (hb2.mono hb.size)
        clear hb hb2
        go_wp2_with fail
        go_ret
        exact ⟨_, rfl, by rw [HE.out]; exact mdb_nil _ _ _ _ _, b2⟩
      · have i1 : ¬ (0 : Int) < (S.length : Int) := by omega
        have i2 : S.length = 0 := by omega
        go_wp2_with fail
        go_ret
        exact ⟨_, rfl, by rw [HE.out]; exact mdb_nil _ _ _ _ _, hb⟩
  rw [hw] at KW
  have HE := Lib.hid (show buildL S = bFrom [] S by unfold buildL; rw [hw]; rfl)
  have HW := Lib.hid hw
  have hl12 := wOk_len hw
  clear hw
  have HST := Lib.hid (show BdRel S w.heap.size w (.slice (some ⟨w.heap.size, 0, none⟩) 0 0) (.int .i64 0) (w.alloc (.cells #[] 73)) from ⟨0, [], Nat.zero_le _, rfl, rfl, (fun q hq => by cases hq), rfl, row_made (Nat.le_refl _), (Below.refl _ _).alloc (Nat.le_refl _) _⟩)
  go_enter Try.func100, Try.ntmps100
  go_wp2_with fail
  go_loopw [3, 4] (fun s i wr => BdRel S w.heap.size w s i wr) (fun _ i _ => S.length - (intOf i).toNat)
  case atStart => exact HST.out
  case round =>
    obtain ⟨k, D, hk, rfl, hDl, hsm, hbf, hown, hb⟩ := hrel
    obtain ⟨va, vc, hv⟩ := row_form hown
    rw [hDl] at hv
    subst hv
    have o1 : wr.ownsRow w.heap.size 73 2 (.slice va k vc) k (mcs D) := by
      have : wr.ownsRow w.heap.size 73 2 (.slice va k vc) D.length (mcs D) := hown
      rwa [hDl] at this
    have HO := Lib.hid o1
    have HMB := Lib.hid (MOwn.mb hown)
    have HSM := Lib.hid hsm
    have HBF := Lib.hid hbf
    have zb := hb.size
    clear hown hsm hbf o1
    by_cases hlt : k < S.length
    · have i0' : (0 : Int) ≤ (k : Int) := by omega
      have i1' : (k : Int) < (S.length : Int) := by omega
      go_wp2_with fail
      refine (KW.out _ hb).mono ?_
      rintro e w2 ⟨rfl, hb2⟩
      have nn := hb.trans (hb2.mono hb.size)
      have HO2 := Lib.hid (row_below HO.out hb2)
      have HM2 := Lib.hid (show MdAt w2 w2.heap.size (.slice va k vc) D from (HMB.out.below hb2).at)
      clear hb hb2 HO HMB
      have z2 := nn.size
      rcases HH.out with hx | ⟨b, o, rfl, hB, hc⟩
      · subst hx
        exact absurd hlt (by simp)
      obtain ⟨m, t, L, N, hxy⟩ : ∃ m t L N, S[k] = (m, t, L, N) := ⟨_, _, _, _, rfl⟩
      have cc := (hc k hlt).below nn hB
      rw [hxy] at cc
      obtain ⟨⟨e0, e1⟩, a1, c1, a2, c2, e2, e3, hs, hi'⟩ := cc
      simp only at e0 e1 e2 e3 hs hi'
      have HX := Lib.hid (show S[k]? = some (m, t, L, N) by rw [List.getElem?_eq_getElem hlt, hxy])
      have hp := HQ.out _ (List.mem_of_getElem? HX.out)
      have hin := ins_in HW.out HX.out
      clear hc hxy
      have HS := Lib.hid (hs.mono nn.size)
      have HI := Lib.hid (hi'.mono nn.size)
      have NN := Lib.hid nn
      have HN := Lib.hid (hbf_next HX.out HBF.out)
      have HSM2 := Lib.hid (small_push HSM.out (one_small ((wOk_iff.1 HW.out).2 k _ HX.out) (D := D)))
      have HDL := Lib.hid hDl
      have HP := Lib.hid hp
      have hN12 := hin.2
      have HIN := Lib.hid hin.1
      clear hs hi' hp hin nn hDl
      rcases m
      · have HON := Lib.hid (show one D (false, t, L, N) = (true, t) by unfold one; rw [if_pos rfl])
        rw [HON.out] at HN HSM2
        go_wp2_with (at_builtin; refine wpList_append_own _ rfl _ _ 42 rfl w.heap.size 73 i0 (.agg #[.bool false, .string ByteArray.empty]) 2 24 Try.underlying42 hi hz0 hz1 hz2 rfl (by decide) _ _ _ rfl (World.ownsRow.alloc HO2.out (.cells #[.bool true, .string t] 73)) ⟨w2.heap.size, 0, none⟩ 1 1 [.bool true, .string t] rfl rfl two_news (two_one rfl rfl) (by unfold maxLen; omega) (by omega) (by simp; omega) ?_)
        intro v' w5 hown' hgrow hnn
        have HR := Lib.hid (show BdRel S w.heap.size w v' (.int .i64 ((k : Int) + 1)) w5 from ⟨k + 1, D ++ [(true, t)], by omega, by go_num, by have := HDL.out; simp; omega, HSM2.out, HN.out, mown_push (by rw [HDL.out]; exact hown'), own_gone HO2.out NN.out z2 hgrow⟩)
        clear hown' hgrow hnn
        go_wp2_with fail
        go_roundw
        case rel => exact HR.out
        case measure => simp [intOf]; omega
      have KI := Lib.hid (l10Ins_any true t (.slice va k vc) (.slice a2 N.length c2) (.slice a1 L.length c1) L.length a1 c1 rfl D N w2 (by have := HDL.out; omega) (fun q hq => Nat.le_trans (HSM.out q hq) (by omega)) (by omega) (by have := HDL.out; rw [this]; exact HIN.out) HM2.out HI.out)
      rcases hall : allMade D N
      · have HAll := Lib.hid hall
        have HON := Lib.hid (show one D (true, t, L, N) = (false, ⟨#[]⟩) by unfold one; rw [if_neg (show ¬ (true = false) by decide), if_neg (by show ¬ allMade D N = true; rw [hall]; decide)])
        rw [HON.out] at HN HSM2
        clear hall
        go_wp2_with fail
        refine KI.out.mono ?_
        rintro e w3 ⟨⟨ta, tc, rfl, hta⟩, hb3⟩
        rw [HAll.out]
        have HO3 := Lib.hid (row_below HO2.out hb3)
        have N3 := Lib.hid (NN.out.trans (hb3.mono NN.out.size))
        have z3 := N3.out.size
        clear hta hb3
        go_wp2_with (at_builtin; refine wpList_append_own _ rfl _ _ 42 rfl w.heap.size 73 i0 (.agg #[.bool false, .string ByteArray.empty]) 2 24 Try.underlying42 hi hz0 hz1 hz2 rfl (by decide) _ _ _ rfl (World.ownsRow.alloc HO3.out (.cells #[.bool false, .string ⟨#[]⟩] 73)) ⟨w3.heap.size, 0, none⟩ 1 1 [.bool false, .string ⟨#[]⟩] rfl rfl two_news (two_one rfl rfl) (by unfold maxLen; omega) (by omega) (by simp; omega) ?_)
        intro v' w5 hown' hgrow hnn
        have HR := Lib.hid (show BdRel S w.heap.size w v' (.int .i64 ((k : Int) + 1)) w5 from ⟨k + 1, D ++ [(false, ⟨#[]⟩)], by omega, by go_num, by have := HDL.out; simp; omega, HSM2.out, HN.out, mown_push (by rw [HDL.out]; exact hown'), own_gone HO3.out N3.out z3 hgrow⟩)
        clear hown' hgrow hnn
        go_wp2_with fail
        go_roundw
        case rel => exact HR.out
        case measure => simp [intOf]; omega
      · have HAll := Lib.hid hall
        have HON := Lib.hid (show one D (true, t, L, N) = runMade L (textsOf D N) by unfold one; rw [if_neg (show ¬ (true = false) by decide), if_pos (by show allMade D N = true; exact hall)])
        rw [HON.out] at HN HSM2
        have HTS := Lib.hid (textsOf_small HSM.out N)
        have KO := Lib.hid fun V => specOpen_any N.length V (by omega)
        have KR := Lib.hid fun V uu zz (g : Below w2.heap.size w2 V) g1 g2 => specRoomRun_any (v := .slice a1 L.length c1) (u := uu) (z := zz) (S := L) (I := textsOf D N) (O := List.replicate N.length true) (w := V) HP.out.2.1 HP.out.2.2.1 (by rw [texts_len]; omega) (fun q hq => Nat.le_trans (HTS.out q hq) (by omega)) (by simp; omega) (HS.out.stepAt g) g1 g2
        have HRM := Lib.hid (show runMade L (textsOf D N) = ranMade (roomR L (textsOf D N) (List.replicate N.length true)) by unfold runMade; rw [texts_len])
        rw [HRM.out] at HN HSM2
        generalize roomR L (textsOf D N) (List.replicate N.length true) = r at *
        obtain ⟨rc, ro, rr⟩ := r
        obtain ⟨m1, m2, hmm⟩ : ∃ m1 m2, ranMade (rc, ro, rr) = (m1, m2) := ⟨_, _, rfl⟩
        have KM := Lib.hid fun V va vc => l10Made_any rc ro va rr.length vc rr V
        rw [hmm] at HN HSM2 KM
        clear hall hmm HRM
        go_wp2_with fail
        refine KI.out.mono ?_
        rintro e w3 ⟨⟨ta, tc, rfl, hta⟩, hb3⟩
        have hta := (hta HAll.out).1
        rw [HAll.out, if_pos rfl]
        have HTA := Lib.hid hta
        have HO3 := Lib.hid (row_below HO2.out hb3)
        have N23 := Lib.hid hb3
        have N3 := Lib.hid (NN.out.trans (hb3.mono NN.out.size))
        have z3 := N3.out.size
        have zB : b < w3.heap.size := by have := NN.out.size; omega
        have f2 := (hb3.cell (p := ⟨b, o + k * 4 + 2, none⟩) (by show b < w2.heap.size; omega)).trans e2
        have HCW := Lib.hid (show ∀ V, Below w.heap.size w V → V.cell? ⟨b, o + k * 4 + 2, none⟩ = some (.slice a1 L.length c1) from fun V q => (q.cell (p := ⟨b, o + k * 4 + 2, none⟩) hB).trans ((NN.out.cell (p := ⟨b, o + k * 4 + 2, none⟩) hB).symm.trans e2))
        have HC := Lib.hid (show ∀ V, Below w3.heap.size w3 V → V.cell? ⟨b, o + k * 4 + 2, none⟩ = some (.slice a1 L.length c1) from fun V q => (q.cell (p := ⟨b, o + k * 4 + 2, none⟩) zB).trans f2)
        clear hta hb3
        go_wp2_with fail
        go_region_held3 (fun V => V.cell? ⟨b, o + k * 4 + 2, none⟩ = some (.slice a1 L.length c1)) (go_keep)
          (first
            | (go_at_call 125; refine (KO.out _).mono ?_; rintro e w4 ⟨oa, oc, rfl, hbo, hb4⟩; have n4 : Below w3.heap.size w3 w4 := Below.step (by go_grown) hb4; have HBO := Lib.hid hbo; have N4 := Lib.hid n4; have p4 := HC.out w4 n4; clear hbo hb4 n4)
            | (go_at_call 124; refine (KR.out _ _ _ (N23.out.trans (N4.out.mono N23.out.size)) (HTA.out.stepAt N4.out) HBO.out).mono ?_; rintro e w5 ⟨vv, rfl, hib, hb5⟩; obtain ⟨ra, rk, rfl, x⟩ := hib; have n5 : Below w3.heap.size w3 w5 := N4.out.trans (hb5.mono N4.out.size); have N5 := Lib.hid n5; have p5 := HC.out w5 n5; clear x hb5 n5)
            | (go_at_call 123; refine (KM.out _ _ _).mono ?_; rintro e w6 ⟨rfl, hb6⟩; have n6 : Below w3.heap.size w3 w6 := N5.out.trans (hb6.mono N5.out.size); have N6 := Lib.hid n6; have HO6 := Lib.hid (row_below HO3.out n6); have z6 : w.heap.size ≤ w6.heap.size := Nat.le_trans z3 n6.size; have p6 := HC.out w6 n6; clear hb6 n6)
            | (refine step_append_lies _ rfl (.tmp 48) (.tmp 60) 42 rfl w.heap.size 73 i0 (.agg #[.bool false, .string ByteArray.empty]) 2 24 Try.underlying42 hi hz0 hz1 hz2 rfl (by decide) (.slice va k vc) k (mcs D) (by rfl) (World.ownsRow.alloc HO6.out (.cells #[.bool m1, .string m2] 73)) ⟨w6.heap.size, 0, none⟩ 1 1 [.bool m1, .string m2] (by rfl) (by rfl) two_news (two_one rfl rfl) (by omega) (by unfold maxLen; omega) (by omega) (by simp; omega) _ rfl ?_; intro g cp w7 hown7 hgrow7 hat hlt7; have p7 := HCW.out w7 (own_gone HO6.out (N3.out.trans (N6.out.mono N3.out.size)) z6 hgrow7); have HR := Lib.hid (show BdRel S w.heap.size w (.slice (some ⟨g, 0, none⟩) (k + 1) cp) (.int .i64 ((k : Int) + 1)) w7 from ⟨k + 1, D ++ [(m1, m2)], by omega, by go_num, by have := HDL.out; simp; omega, HSM2.out, HN.out, mown_push (by rw [HDL.out]; exact hown7), own_gone HO6.out (N3.out.trans (N6.out.mono N3.out.size)) z6 hgrow7⟩); clear hown7 hgrow7 hat hlt7)
            | fail)
        all_goals
          go_wp2_with fail
          go_roundw
          case rel => exact HR.out
          case measure => simp [intOf]; omega
    · obtain rfl : k = S.length := by omega
      have HF := Lib.hid (show buildL S = D by rw [HE.out, HBF.out, List.drop_length]; rfl)
      have HMB2 := Lib.hid (show MdB D w.heap.size wr.heap.size (.slice va S.length vc) wr from HMB.out)
      go_wp2_with fail
      go_ret
      exact ⟨_, rfl, by rw [HF.out]; exact HMB2.out, hb⟩
end Bm
end Go.Proofs.Ytopplljilmjjgaa

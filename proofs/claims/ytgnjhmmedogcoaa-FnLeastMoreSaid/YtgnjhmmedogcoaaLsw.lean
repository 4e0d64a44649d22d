/- The contract of the model's LeastVisit, over this seat's translation: what comes up, as the plain functions lvL and lvB tell it; nothing that was there before the call has changed. Condition: at most 1048576 releases, needs, needs of each release, and spans of those. -/
import Derived.Test.YtgnjhmmedogcoaaLsv
namespace Go.Proofs.Ytgnjhmmedogcoaa
open Go.RowKit Go.Sort

namespace Lst
open Nup Foot Copy
theorem ib_made {w : World} {lo : Nat} {V : World} {a : Option Addr} {c : Nat} : IB [] lo V.heap.size (.slice a 0 c) w := ⟨a, c, rfl, .inl rfl⟩
set_option maxRecDepth 100000 in
set_option maxHeartbeats 16000000 in
theorem specLeastVisit_any (v u : Value) (S : List Rel) (N : List Nd) (w : World) (hl : S.length ≤ 1048576) (hq : ∀ q ∈ S, q.2.2.2.length ≤ 1048576 ∧ ∀ p ∈ q.2.2.2, p.2.length ≤ 1048576) (hN : N.length ≤ 1048576) (hNq : ∀ q ∈ N, q.2.length ≤ 1048576) (h : RlAt w w.heap.size v S) (h' : NdAt w w.heap.size u N) :
    Calls Try.prog 12 #[v, u] w (LvPost S N w) := by
  obtain ⟨i0, hi, hz0, hz1, hz2⟩ := info_parts infoNeed
  obtain ⟨j0, hj, hy0, hy1, hy2⟩ := info_parts infoInt
  obtain ⟨sa, caps, rfl, hx⟩ := id h
  obtain ⟨na, ncap, rfl, hy⟩ := id h'
  clear hy
  have H := Lib.hid h
  have H' := Lib.hid h'
  have HX := Lib.hid hx
  clear h h' hx
  have KS : Hid (∀ V, RlAt V V.heap.size (.slice sa S.length caps) S → Calls Try.prog 52 #[.slice sa S.length caps] V fun e w' => e = .returned (.bool (shOk S)) ∧ Below V.heap.size V w') := Lib.hid fun V g => specShelfOk_any _ S V hl hq g
  have KN : Hid (∀ V, NdAt V V.heap.size (.slice na N.length ncap) N → Calls Try.prog 53 #[.slice na N.length ncap] V fun e w' => e = .returned (.bool (ndOk N)) ∧ Below V.heap.size V w') := Lib.hid fun V g => specNeedsOk_any _ N V hN hNq g
  rcases hs : shOk S
  · rw [hs] at KS
    have HE := Lib.hid (show lvL S N = [] ∧ lvB S N = false by unfold lvL lvB; rw [hs]; exact ⟨rfl, rfl⟩)
    clear hs KN
    go_enter Try.func12, Try.ntmps12
    go_wp2_with fail
    refine (KS.out _ (H.out.stepAt (by go_grown))).mono ?_
    rintro e w2 ⟨rfl, hb⟩
    have n2 := hb.alloc hb.size (.cells #[] 3)
    go_wp2_with fail
    refine bodyPost_ret (v := .tuple #[.slice (some ⟨w2.heap.size, 0, none⟩) 0 0, .bool false]) (by simp [results, Try.results12, go_sem]) rfl ?_
    exact ⟨_, by rw [HE.out.2], by rw [HE.out.1]; exact ib_made, n2⟩
  rcases hn : ndOk N
  · rw [hs] at KS
    rw [hn] at KN
    have HE := Lib.hid (show lvL S N = [] ∧ lvB S N = false by unfold lvL lvB; rw [hs, hn]; exact ⟨rfl, rfl⟩)
    clear hs hn
    go_enter Try.func12, Try.ntmps12
    go_wp2_with fail
    refine (KS.out _ (H.out.stepAt (by go_grown))).mono ?_
    rintro e w2 ⟨rfl, hb⟩
    have b2 := hb
    clear hb
    go_wp2_with fail
    refine (KN.out _ (H'.out.stepAt b2)).mono ?_
    rintro e w3 ⟨rfl, hb⟩
    have b3 := b2.trans (hb.mono b2.size)
    have n3 := b3.alloc b3.size (.cells #[] 3)
    go_wp2_with fail
    refine bodyPost_ret (v := .tuple #[.slice (some ⟨w3.heap.size, 0, none⟩) 0 0, .bool false]) (by simp [results, Try.results12, go_sem]) rfl ?_
    exact ⟨_, by rw [HE.out.2], by rw [HE.out.1]; exact ib_made, n3⟩
  have hS30 := sh_len hs
  have hN5 := nd_len hn
  have HSN := Lib.hid (sh_needs hs)
  have HNN := Lib.hid hn
  have HSO := Lib.hid hs
  have hq5 : ∀ q ∈ S, q.2.2.2.length ≤ 5 := fun q h => nd_len (HSN.out q h)
  have hall : ∀ {st : St}, Ok S N st → ∀ q ∈ st.2, q.2.length ≤ 1048576 ∧ ndOk [q] = true := fun ho q hm => by
    rcases ho.mem q hm with h | ⟨x, hx, h⟩
    · exact ⟨hNq q h, (nd_one HNN.out q h).2.2⟩
    · exact ⟨(hq x hx).2 q h, (nd_one (HSN.out x hx) q h).2.2⟩
  have HNO := Lib.hid (show visL S N = none → lvL S N = [] ∧ lvB S N = false from fun hv => by unfold lvL lvB; rw [hs, hn, hv]; exact ⟨rfl, rfl⟩)
  have HYE := Lib.hid (show ∀ st, visL S N = some st → lvL S N = plTo st.1 S.length ∧ lvB S N = true from fun st hv => by unfold lvL lvB; rw [hs, hn, hv]; exact ⟨rfl, rfl⟩)
  have hmk := make_flags S.length (by omega)
  rw [hs] at KS
  rw [hn] at KN
  clear hs hn
  go_enter Try.func12, Try.ntmps12
  go_wp2_with fail
  refine (KS.out _ (H.out.stepAt (by go_grown))).mono ?_
  rintro e w2 ⟨rfl, hb⟩
  have n2 := hb
  clear hb
  go_wp2_with fail
  refine (KN.out _ (H'.out.stepAt n2)).mono ?_
  rintro e w3 ⟨rfl, hb⟩
  have n3 := n2.trans (hb.mono n2.size)
  clear hb n2
  obtain ⟨w4, hw4⟩ : ∃ V : World, V = w3.alloc (.cells (madeCells #[.bool false] S.length) 4) := ⟨_, rfl⟩
  have b4 : Below w3.heap.size w3 w4 := by rw [hw4]; exact (Below.refl _ _).alloc (Nat.le_refl _) _
  have f4 : Fl w4 w3.heap.size (List.replicate S.length false) := by rw [hw4]; have := made_flags S.length w3; rwa [Nat.mul_one] at this
  have q4 : w3.heap.size + 1 ≤ w4.heap.size := by rw [hw4]; simp
  go_upto_region 4 with fail
  rw [← hw4]
  clear hw4 hmk
  have n4 := n3.trans (b4.mono n3.size)
  go_wp2_with fail
  refine (l3Needs_any _ N _ (H'.out.stepAt n4) hN hNq).mono ?_
  rintro e w5 ⟨v5, fs, rfl, g5, hb⟩
  have m5 : Below w3.heap.size w3 w5 := b4.trans (hb.mono b4.size)
  have n5 := n4.trans (hb.mono n4.size)
  have f5 := f4.below hb
  have q5 : w4.heap.size ≤ w5.heap.size := hb.size
  obtain ⟨a5, c5, hv5, hx5⟩ := id g5.own.at
  subst hv5
  clear hx5 hb f4
  have hst : VsRel S N w3 w3.heap.size (.slice a5 N.length c5) (.int .i64 0) w5 := by
    refine ⟨0, Nup.start S N, rfl, Nat.zero_le _, Ok.start hq5, rfl, ?_, f5, m5⟩
    obtain ⟨cs, ho, hc⟩ := NOwn.down g5.own (Nat.zero_le _)
    refine ⟨cs, ⟨ho.1, ?_⟩, hc⟩
    rcases ho.2 with hn | ⟨g, cap, cur, hv, hb', rest⟩
    · exact .inl hn
    · exact .inr ⟨g, cap, cur, hv, by omega, rest⟩
  have HST := Lib.hid hst
  clear hst g5 f5
  go_wp2_with fail
  go_loopw [7, 8] (fun v i wr => VsRel S N w3 w3.heap.size v i wr) (fun _ i _ => 200 - (intOf i).toNat)
  case atStart => exact HST.out
  case round =>
    obtain ⟨k, st, rfl, hk, hok, hu, hown, hfl, hb⟩ := hrel
    have hle := hok.le hS30 hN5
    obtain ⟨va, vc, rfl, hat⟩ := id hown.at
    have HU := Lib.hid hu
    have HOK := Lib.hid hok
    have HOW := Lib.hid hown
    have HFL := Lib.hid hfl
    have hbz := hb.size
    have nr : Below w.heap.size w wr := n3.trans (hb.mono n3.size)
    by_cases hlt : k < st.2.length
    · obtain ⟨nm, L, hn⟩ : ∃ nm L, st.2[k] = (nm, L) := ⟨_, _, rfl⟩
      have hn' : st.2[k]? = some (nm, L) := by rw [List.getElem?_eq_getElem hlt, hn]
      have hLL := hall hok _ (List.getElem_mem hlt)
      rw [hn] at hLL
      obtain ⟨hL, hL4⟩ := hLL
      simp only at hL
      obtain ⟨gn, on, hva, hgn, hcn⟩ : ∃ b o, va = some ⟨b, o, none⟩ ∧ b < wr.heap.size ∧ ∀ i (h : i < st.2.length), NdC wr wr.heap.size b (o + i * 2) st.2[i] := by
        rcases hat with hat | hat
        · rw [hat] at hlt; simp at hlt
        · exact hat
      subst hva
      obtain ⟨p0, la, lc, p1, hsp⟩ := hcn k hlt
      rw [hn] at p0 p1 hsp
      simp only at p0 p1 hsp
      have HSP := Lib.hid hsp
      have HN' := Lib.hid hn'
      have KP : Hid (∀ V, RlAt V V.heap.size (.slice sa S.length caps) S → SpAt V V.heap.size (.slice la L.length lc) L → Calls Try.prog 55 #[.slice sa S.length caps, need nm (.slice la L.length lc)] V fun e w' => e = .returned (.int .i64 (askAt S nm L)) ∧ Below V.heap.size V w') := Lib.hid fun V g g' => by
        have := specLeastOf_any _ _ S nm L V hl hq hL g g'
        rwa [show leastOf S nm L = askAt S nm L from leastOf_ask (q := (nm, L)) HSO.out hL4] at this
      have i2 : (0 : Int) ≤ (k : Int) := by omega
      have i3 : (k : Int) < (st.2.length : Int) := by omega
      clear hat hcn hsp hu hn' hok hown hfl hn hL4
      rcases askAt_at (S := S) nm L with ha | ⟨m, x, s0, t0, hLs, ha, hxm, hys⟩
      · have HV := Lib.hid (vs_none (by omega) HN'.out HU.out ha)
        rw [ha] at KP
        clear ha
        go_wp2_with fail
        refine (KP.out _ (H.out.stepAt nr) HSP.out).mono ?_
        rintro e w6 ⟨rfl, hb6⟩
        have n6 := nr.trans (hb6.mono nr.size)
        have n7 := n6.alloc n6.size (.cells #[] 3)
        go_wp2_with fail
        refine bodyPost_ret (v := .tuple #[.slice (some ⟨w6.heap.size, 0, none⟩) 0 0, .bool false]) (by simp [results, Try.results12, go_sem]) rfl ?_
        exact ⟨_, by rw [(HNO.out HV.out).2], by rw [(HNO.out HV.out).1]; exact ib_made, n7⟩
      · have hmS := (List.getElem?_eq_some_iff.1 hxm).1
        rw [ha] at KP
        have HA := Lib.hid (show askAt S (nm, L).1 (nm, L).2 = (m : Int) from ha)
        have HXM := Lib.hid hxm
        have hjc : m < st.1.length := by rw [HOK.out.flags]; exact hmS
        have i6 : (0 : Int) ≤ (m : Int) := by omega
        have i7 : (m : Int) < (S.length : Int) := by omega
        have hm0 : ¬ (m : Int) < 0 := by omega
        clear ha hxm hys hLs s0 t0
        go_wp2_with fail
        refine (KP.out _ (H.out.stepAt nr) HSP.out).mono ?_
        rintro e w6 ⟨rfl, hb6⟩
        have m6 := hb.trans (hb6.mono hbz)
        have n6 := nr.trans (hb6.mono nr.size)
        have n6z := m6.size
        have hF6 := HFL.out.below hb6
        have hO6 := HOW.out.below hb6
        have d0 := hF6.cell hjc
        have d1 := hF6.frozen (i := m)
        have hgl := hF6.lt
        clear hb6 p0 p1
        rcases hcj : st.1.getD m true
        · have HH := Lib.hid (show hitP S st (m : Int) = (st.1.set m true, st.2 ++ x.2.2.2) by rw [hitP_at HXM.out, hcj]; rfl)
          rw [hcj] at d0
          clear hcj
          obtain ⟨b, o, hsa, hB, hc⟩ : ∃ b o, sa = some ⟨b, o, none⟩ ∧ b < w.heap.size ∧ ∀ i (h : i < S.length), RlC w w.heap.size b (o + i * 7) S[i] := by
            rcases HX.out with hh | hh
            · rw [hh] at hmS; simp at hmS
            · exact hh
          subst hsa
          obtain ⟨M, hM⟩ : ∃ M, x.2.2.2 = M := ⟨_, rfl⟩
          have hxx : S[m] = x := by have := HXM.out; rw [List.getElem?_eq_getElem hmS] at this; exact Option.some.inj this
          obtain ⟨_, ad, cap, r6, hs6⟩ := (hc m hmS).below n6 hB
          rw [hxx, hM] at r6 hs6
          have hM1 := hq _ (List.getElem_mem hmS)
          have hM5 := hq5 _ (List.getElem_mem hmS)
          rw [hxx, hM] at hM1 hM5
          have hw3 := n3.size
          have hbg : b ≠ w3.heap.size := by omega
          have n8 : Below w.heap.size w (w6.setCell ⟨w3.heap.size, m, none⟩ (.bool true)) := n6.setCell (show w.heap.size ≤ (⟨w3.heap.size, m, none⟩ : Addr).block from hw3) _
          have m8 : Below w3.heap.size w3 (w6.setCell ⟨w3.heap.size, m, none⟩ (.bool true)) := m6.setCell (show w3.heap.size ≤ (⟨w3.heap.size, m, none⟩ : Addr).block from Nat.le_refl _) _
          have HF8 := Lib.hid (hF6.set (i := m) true)
          have HW8 := Lib.hid (NOwn.flag (i := m) (b := true) hO6 hF6)
          have HND := Lib.hid ((hs6.below (show Below w.heap.size w6 (w6.setCell ⟨w3.heap.size, m, none⟩ (.bool true)) from ⟨rfl, rfl, rfl, by simp [World.setCell], fun i hi => Below.heap_setCell _ _ _ _ (by show i ≠ w3.heap.size; omega)⟩)).mono n8.size)
          clear hc hxx hs6 hF6 hO6
          go_upto_region 13 with fail
          obtain ⟨w8, hw8⟩ : ∃ V : World, V = w6.setCell ⟨w3.heap.size, m, none⟩ (.bool true) := ⟨_, rfl⟩
          have r8 : w8.cell? ⟨b, o + m * 7 + 6, none⟩ = some (.slice ad M.length cap) := by rw [hw8]; exact (World.cell?_of_block (a := ⟨b, o + m * 7 + 6, none⟩) (Below.heap_setCell _ _ _ _ (by show b ≠ _; exact hbg))).trans r6
          rw [← hw8] at n8 m8 HF8 HW8 HND ⊢
          clear hw8 r6 d0 d1
          go_wp2_with fail
          refine (l3Needs_any _ M _ HND.out hM1.1 hM1.2).mono ?_
          rintro e w9 ⟨v9, fs9, rfl, g9, hb9⟩
          have m9 : Below w3.heap.size w3 w9 := m8.trans (hb9.mono m8.size)
          obtain ⟨a9, c9, hv9, hx9⟩ := id g9.own.at
          subst hv9
          clear hx9
          obtain ⟨cs, hown9, hc9⟩ := HW8.out.below hb9
          have hlt8 := HW8.out.lt
          have hlt9 := World.ownsRow.lt hown9
          obtain ⟨news, l1, l2, l3, l4, l5⟩ := made_news (y := (Value.slice (some ⟨gn, on, none⟩) st.2.length vc).ownBlock) g9.own (fun c e => (hlt8 c e).2)
          have HC9 := Lib.hid hc9
          have HL5 := Lib.hid l5
          have HF9 := Lib.hid (HF8.out.below hb9)
          have HNE := Lib.hid (own_ne hown9 HF9.out)
          clear hc9 l5 g9 hb9 r8
          go_wp2_with (at_builtin; refine Ap2.wpList_append _ rfl (.tmp 49) (.tmp 55) 31 rfl w3.heap.size 59 i0 (.agg #[.int .i64 0, .slice none 0 0]) 2 32 Try.underlying31 hi hz0 hz1 hz2 rfl (by decide) _ _ cs rfl hown9 a9 M.length c9 news (by rfl) l1 l2 l3 l4 (by unfold maxLen; omega) (by omega) m9.size ?_)
          intro a7 c7 wz hownz hgrowz hatz
          have nz : Below w3.heap.size w3 wz := Below.grown m9 hgrowz m9.size (fun k e => (hlt9 k e).1)
          have hOz := grow_any hown9 HC9.out HL5.out hownz hgrowz hatz
          have hFz := HF9.out.kept (hgrowz.block _ HF9.out.lt (fun e => HNE.out _ e.symm rfl))
          have HR := Lib.hid (vs_next (w := w3) (by omega) HN'.out HOK.out HU.out HA.out HXM.out (v := .slice a7 (st.2.length + M.length) c7) (by rw [HH.out, hM]; exact hOz) (by rw [HH.out]; exact hFz) nz)
          clear hownz hgrowz hatz hown9 hOz hFz
          go_wp2_with fail
          go_roundw
          case rel => exact HR.out
          case measure => simp [intOf]; omega
        · have HH := Lib.hid (show hitP S st (m : Int) = st by rw [hitP_at HXM.out, hcj]; rfl)
          rw [hcj] at d0
          clear hcj
          have HR := Lib.hid (vs_next (w := w3) (by omega) HN'.out HOK.out HU.out HA.out HXM.out (by rw [HH.out]; exact hO6) (by rw [HH.out]; exact hF6) m6)
          clear hF6 hO6
          go_wp2_with fail
          go_roundw
          case rel => exact HR.out
          case measure => simp [intOf]; omega
    · obtain rfl : k = st.2.length := by omega
      have HE := Lib.hid (HYE.out st (show visL S N = some st by rw [hu, vis_end (Nat.le_refl _)]))
      have HFLL := Lib.hid hok.flags
      obtain ⟨c, hc⟩ : ∃ c, st.1 = c := ⟨_, rfl⟩
      rw [hc] at HE HFLL HFL
      have hstart : IOwn (wr.alloc (.cells #[] 3)) w.heap.size (.slice (some ⟨wr.heap.size, 0, none⟩) 0 0) (plTo c 0) := by
        have := World.ownsRow_made (base := w.heap.size) (e := 3) (size := 1) wr #[] 0 (by simpa using nr.size) (by unfold maxLen; omega) rfl
        exact this
      have HS0 := Lib.hid (show PlRel c S.length w.heap.size w w3.heap.size (.slice (some ⟨wr.heap.size, 0, none⟩) 0 0) (.int .i64 0) (wr.alloc (.cells #[] 3)) from ⟨0, Nat.zero_le _, rfl, hstart, HFL.out.below ((Below.refl _ _).alloc (Nat.le_refl _) _), nr.alloc nr.size _⟩)
      clear hok hown hu hat hfl hc hstart
      go_wp2_with fail
      go_loopw [10, 11] (fun v i wx => PlRel c S.length w.heap.size w w3.heap.size v i wx) (fun _ i _ => S.length - (intOf i).toNat)
      case atStart => exact HS0.out
      case round =>
        rename World => wx
        obtain ⟨q, hq8, rfl, hown, hfl, hb2⟩ := hrel
        obtain ⟨ga, gc, hv, hx⟩ := id (IOwn.ib hown).at
        subst hv
        clear hx
        have hnl := plTo_len c q
        by_cases hlt2 : q < S.length
        · have c0 := hfl.cell (show q < c.length by rw [HFLL.out]; exact hlt2)
          have j1 : (0 : Int) ≤ (q : Int) := by omega
          have j2 : (q : Int) < (S.length : Int) := by omega
          have HO := Lib.hid hown
          have HSE := Lib.hid hfl
          have hgl := hfl.lt
          rcases hh : c.getD q true
          · have HT := Lib.hid (show plTo c (q + 1) = plTo c q by show plTo c q ++ _ = _; rw [hh]; simp)
            rw [hh] at c0
            have HR := Lib.hid (show PlRel c S.length w.heap.size w w3.heap.size (.slice ga (plTo c q).length gc) (.int .i64 ((q : Int) + 1)) wx from ⟨q + 1, by omega, by go_num, by rw [HT.out]; exact HO.out, hfl, hb2⟩)
            clear hh hown hfl
            go_wp2_with fail
            go_roundw
            case rel => exact HR.out
            case measure => simp [intOf]; omega
          · have HT := Lib.hid (show plTo c (q + 1) = plTo c q ++ [(q : Int)] by show plTo c q ++ _ = _; rw [hh]; simp)
            rw [hh] at c0
            have HNE := Lib.hid (own_int hown hfl)
            have z4 := hb2.size
            clear hh hfl
            go_wp2_with (at_builtin; refine wpList_append_own _ rfl _ _ 26 rfl w.heap.size 3 j0 (.int .i64 0) 1 8 Try.underlying26 hj hy0 hy1 hy2 rfl (by decide) _ _ _ rfl (hown.below ((Below.refl wx.heap.size wx).alloc (Nat.le_refl _) (.cells #[.int .i64 (q : Int)] 3))) ⟨wx.heap.size, 0, none⟩ 1 1 [.int .i64 (q : Int)] rfl rfl (one_new wx (q : Int)) (one_one _) (by unfold maxLen; omega) (by omega) (by simp; omega) ?_)
            intro v' w5' hown' hgrow hnn
            have hbl : w5'.heap[w3.heap.size]? = wx.heap[w3.heap.size]? := (hgrow.block _ (by simp; omega) (fun e => HNE.out _ e.symm rfl)).trans (Below.heap_alloc _ _ _ hgl)
            have HR := Lib.hid (show PlRel c S.length w.heap.size w w3.heap.size v' (.int .i64 ((q : Int) + 1)) w5' from ⟨q + 1, by omega, by go_num, by rw [HT.out]; exact IOwn.push hown', HSE.out.kept hbl, IOwn.gone HO.out hb2 z4 hgrow⟩)
            clear hown' hgrow hnn hown
            go_wp2_with fail
            go_roundw
            case rel => exact HR.out
            case measure => simp [intOf]; omega
        · obtain rfl : q = S.length := by omega
          have HO := Lib.hid hown
          clear hown hfl
          go_wp2_with fail
          refine bodyPost_ret (v := .tuple #[.slice ga (plTo c S.length).length gc, .bool true]) (by simp [results, Try.results12, go_sem]) rfl ?_
          exact ⟨_, by rw [HE.out.2], by rw [HE.out.1]; exact IOwn.ib HO.out, hb2⟩
end Lst
end Go.Proofs.Ytgnjhmmedogcoaa

/- Contracts of releasesAsked and of LeastVisit, the program's and the model's, over this seat's translation: what comes up, as the plain functions visL, lvL and lvB tell it; nothing that was there before the call has changed. Condition: at most 1048576 releases, needs, needs of each release, and spans of those. -/
import Derived.Test.YtgnjhmmedogcoaaLsa
import Derived.Test.YtgnjhmmedogcoaaPot
namespace Go.Proofs.Ytgnjhmmedogcoaa
open Go.RowKit Go.Sort

namespace Lst
open Nup Foot Copy
/-- What the loop over the needs keeps. -/
def VsRel (S : List Rel) (N : List Nd) (w : World) (g : Nat) (v i : Value) (wr : World) : Prop :=
  ∃ (k : Nat) (st : St), i = .int .i64 (k : Int) ∧ k ≤ st.2.length ∧ Ok S N st ∧ visL S N = vis S (200 - k) k st ∧ NOwn wr w.heap.size 0 v st.2 ∧ Fl wr g st.1 ∧ Below w.heap.size w wr
theorem vs_none {S : List Rel} {N : List Nd} {k : Nat} {st : St} {n : Nd} (hk : k < 200) (hn : st.2[k]? = some n) (hu : visL S N = vis S (200 - k) k st) (ha : askAt S n.1 n.2 = -1) : visL S N = none := by
  rw [hu, show 200 - k = (200 - (k + 1)) + 1 by omega, vis_step hn, if_pos (by rw [ha]; decide)]
theorem vs_next {S : List Rel} {N : List Nd} {w wr : World} {g k m : Nat} {n : Nd} {x : Rel} {st : St} {v : Value} (hk : k < 200) (hn : st.2[k]? = some n) (ho : Ok S N st) (hu : visL S N = vis S (200 - k) k st) (ha : askAt S n.1 n.2 = (m : Int)) (hx : S[m]? = some x)
    (hN : NOwn wr w.heap.size 0 v (hitP S st (m : Int)).2) (hF : Fl wr g (hitP S st (m : Int)).1) (hb : Below w.heap.size w wr) : VsRel S N w g v (.int .i64 ((k : Int) + 1)) wr := by
  have hl : k < st.2.length := (List.getElem?_eq_some_iff.1 hn).1
  refine ⟨k + 1, hitP S st (m : Int), by go_num, (hitP_front hx (by omega)).2, hitP_ok ho hx, ?_, hN, hF, hb⟩
  rw [hu, show 200 - k = (200 - (k + 1)) + 1 by omega, vis_step hn, if_neg (by rw [ha]; omega), ha]
/-- What releasesAsked answers. -/
def RaPost (o : Option St) (n : Nat) (w : World) (e : Ending) (w' : World) : Prop := match o with
  | none => e = .returned (.tuple #[.slice none 0 0, .bool false]) ∧ Below w.heap.size w w'
  | some st => ∃ g, e = .returned (.tuple #[.slice (some ⟨g, 0, none⟩) n n, .bool true]) ∧ Fl w' g st.1 ∧ Below w.heap.size w w'
/-- What LeastVisit answers. -/
def LvPost (S : List Rel) (N : List Nd) (w : World) (e : Ending) (w' : World) : Prop :=
  ∃ v, e = .returned (.tuple #[v, .bool (lvB S N)]) ∧ IB (lvL S N) w.heap.size w'.heap.size v w' ∧ Below w.heap.size w w'

set_option maxRecDepth 100000 in
set_option maxHeartbeats 8000000 in
theorem releasesAsked_any (v u : Value) (S : List Rel) (N : List Nd) (w : World) (hS : S.length ≤ 30) (hq : ∀ q ∈ S, q.2.2.2.length ≤ 5 ∧ ∀ p ∈ q.2.2.2, p.2.length ≤ 1048576) (hN : N.length ≤ 5) (hNq : ∀ q ∈ N, q.2.length ≤ 1048576) (h : RlAt w w.heap.size v S) (h' : NdAt w w.heap.size u N) :
    Calls Try.prog 59 #[v, u] w (RaPost (visL S N) S.length w) := by
  obtain ⟨i0, hi, hz0, hz1, hz2⟩ := info_parts infoNeed
  have hmk := make_flags S.length (by omega)
  have hall : ∀ {st : St}, Ok S N st → ∀ q ∈ st.2, q.2.length ≤ 1048576 := fun ho q hm => by
    rcases ho.mem q hm with h | ⟨x, hx, h⟩
    · exact hNq q h
    · exact (hq x hx).2 q h
  obtain ⟨sa, caps, rfl, h0⟩ := id h
  obtain ⟨na, ncap, rfl, hx⟩ := id h'
  clear hx
  have H := Lib.hid h
  have HX := Lib.hid h0
  have HQ := Lib.hid hq
  obtain ⟨news, l1, l2, l3, l4, l5⟩ := need_cells (x := (Value.slice none 0 0).ownBlock) h' (Nat.le_refl _) (fun c e => by cases e)
  have HL5 := Lib.hid l5
  have hown0 : w.ownsRow w.heap.size 59 2 (.slice none 0 0) 0 [] := World.ownsRow_nil _ _ _ _
  clear h h' h0 l5 hq
  go_enter Try.func59, Try.ntmps59
  go_wp2_with (at_builtin; refine Ap2.wpList_append _ rfl (.tmp 10) (.tmp 11) 31 rfl w.heap.size 59 i0 (.agg #[.int .i64 0, .slice none 0 0]) 2 32 Try.underlying31 hi hz0 hz1 hz2 rfl (by decide) _ 0 [] rfl hown0 na N.length ncap news (by rfl) l1 l2 l3 l4 (by unfold maxLen; omega) (by omega) (Nat.le_refl _) ?_)
  intro a1 c1 w1 hown1 hgrow1 hat1
  have hO1 : NOwn w1 w.heap.size 0 (.slice a1 N.length c1) N := by
    have := grow_any (M := []) (P := N) (cs := []) (a' := a1) (c' := c1) hown0 (fun i hi => absurd hi (by simp)) HL5.out (by simpa using hown1) hgrow1 (by simpa using hat1)
    simpa using this
  have n1 : Below w.heap.size w w1 := Below.grown (Below.refl _ _) hgrow1 (Nat.le_refl _) (fun k e => by cases e)
  have hst : VsRel S N w w1.heap.size (.slice a1 N.length c1) (.int .i64 0) (w1.alloc (.cells (madeCells #[.bool false] (S.length * 1)) 4)) :=
    ⟨0, Nup.start S N, rfl, Nat.zero_le _, Ok.start fun q h => (HQ.out q h).1, rfl, hO1.below ((Below.refl _ _).alloc (Nat.le_refl _) _), made_flags _ _, n1.alloc n1.size _⟩
  rw [Nat.mul_one] at hst
  have HST := Lib.hid hst
  have z1 := n1.size
  clear hO1 hown1 hgrow1 hat1 hst l1 l2 l3 l4 hown0 HL5
  go_wp2_with fail
  clear hmk
  go_loopw [6, 8] (fun v i wr => VsRel S N w w1.heap.size v i wr) (fun _ i _ => 200 - (intOf i).toNat)
  case atStart => exact HST.out
  case round =>
    obtain ⟨k, st, rfl, hk, hok, hu, hown, hfl, hb⟩ := hrel
    have hle := hok.le hS hN
    obtain ⟨va, vc, rfl, hat⟩ := id hown.at
    have HU := Lib.hid hu
    have HOK := Lib.hid hok
    have HOW := Lib.hid hown
    have HFL := Lib.hid hfl
    have hbz := hb.size
    by_cases hlt : k < st.2.length
    · obtain ⟨nm, L, hn⟩ : ∃ nm L, st.2[k] = (nm, L) := ⟨_, _, rfl⟩
      have hn' : st.2[k]? = some (nm, L) := by rw [List.getElem?_eq_getElem hlt, hn]
      have hL : L.length ≤ 1048576 := by have := hall hok _ (List.getElem_mem hlt); rwa [hn] at this
      obtain ⟨gn, on, hva, hgn, hcn⟩ : ∃ b o, va = some ⟨b, o, none⟩ ∧ b < wr.heap.size ∧ ∀ i (h : i < st.2.length), NdC wr wr.heap.size b (o + i * 2) st.2[i] := by
        rcases hat with hat | hat
        · rw [hat] at hlt; simp at hlt
        · exact hat
      subst hva
      obtain ⟨p0, la, lc, p1, hsp⟩ := hcn k hlt
      rw [hn] at p0 p1 hsp
      simp only at p0 p1 hsp
      have HSP := Lib.hid hsp
      have HN' := Lib.hid hn'
      have KP : Hid (∀ V, RlAt V V.heap.size (.slice sa S.length caps) S → SpAt V V.heap.size (.slice la L.length lc) L → Calls Try.prog 73 #[.slice sa S.length caps, need nm (.slice la L.length lc)] V fun e w' => e = .returned (.int .i64 (askAt S nm L)) ∧ Below V.heap.size V w') := Lib.hid fun V g g' => placeAsked_any _ _ S nm L V (by omega) hL g g'
      have i2 : (0 : Int) ≤ (k : Int) := by omega
      have i3 : (k : Int) < (st.2.length : Int) := by omega
      clear hat hcn hsp hu hn' hok hown hfl hn
      rcases askAt_at (S := S) nm L with ha | ⟨m, x, s0, t0, hLs, ha, hxm, hys⟩
      · have HV := Lib.hid (vs_none (by omega) HN'.out HU.out ha)
        rw [ha] at KP
        clear ha
        go_wp2_with fail
        refine (KP.out _ (H.out.stepAt hb) HSP.out).mono ?_
        rintro e w6 ⟨rfl, hb6⟩
        go_wp2_with fail
        refine bodyPost_ret (v := .tuple #[.slice none 0 0, .bool false]) (by simp [results, Try.results59, go_sem]) rfl ?_
        rw [HV.out]
        exact ⟨rfl, hb.trans (hb6.mono hbz)⟩
      · have hmS := (List.getElem?_eq_some_iff.1 hxm).1
        rw [ha] at KP
        have HA := Lib.hid (show askAt S (nm, L).1 (nm, L).2 = (m : Int) from ha)
        have HXM := Lib.hid hxm
        have hjc : m < st.1.length := by rw [HOK.out.flags]; exact hmS
        have i6 : (0 : Int) ≤ (m : Int) := by omega
        have i7 : (m : Int) < (S.length : Int) := by omega
        have hm0 : ¬ (m : Int) < 0 := by omega
        clear ha hxm hys hLs s0 t0
        go_wp2_with fail
        refine (KP.out _ (H.out.stepAt hb) HSP.out).mono ?_
        rintro e w6 ⟨rfl, hb6⟩
        have n6 := hb.trans (hb6.mono hbz)
        have n6z := n6.size
        have hF6 := HFL.out.below hb6
        have hO6 := HOW.out.below hb6
        have d0 := hF6.cell hjc
        have d1 := hF6.frozen (i := m)
        have hgl := hF6.lt
        clear hb6 p0 p1
        rcases hcj : st.1.getD m true
        · have HH := Lib.hid (show hitP S st (m : Int) = (st.1.set m true, st.2 ++ x.2.2.2) by rw [hitP_at HXM.out, hcj]; rfl)
          rw [hcj] at d0
          clear hcj
          obtain ⟨b, o, hsa, hB, hc⟩ : ∃ b o, sa = some ⟨b, o, none⟩ ∧ b < w.heap.size ∧ ∀ i (h : i < S.length), RlC w w.heap.size b (o + i * 7) S[i] := by
            rcases HX.out with hh | hh
            · rw [hh] at hmS; simp at hmS
            · exact hh
          subst hsa
          obtain ⟨M, hM⟩ : ∃ M, x.2.2.2 = M := ⟨_, rfl⟩
          have hxx : S[m] = x := by have := HXM.out; rw [List.getElem?_eq_getElem hmS] at this; exact Option.some.inj this
          obtain ⟨_, ad, cap, r6, hs6⟩ := (hc m hmS).below n6 hB
          rw [hxx, hM] at r6 hs6
          have hM5 := (HQ.out _ (List.getElem_mem hmS)).1
          rw [hxx, hM] at hM5
          have hbg : b ≠ w1.heap.size := by omega
          have n8 : Below w.heap.size w (w6.setCell ⟨w1.heap.size, m, none⟩ (.bool true)) := n6.setCell (show w.heap.size ≤ (⟨w1.heap.size, m, none⟩ : Addr).block from z1) _
          have HF8 := Lib.hid (hF6.set (i := m) true)
          have HW8 := Lib.hid (NOwn.flag (i := m) (b := true) hO6 hF6)
          have HND := Lib.hid (hs6.below (show Below w.heap.size w6 (w6.setCell ⟨w1.heap.size, m, none⟩ (.bool true)) from ⟨rfl, rfl, rfl, by simp [World.setCell], fun i hi => Below.heap_setCell _ _ _ _ (by show i ≠ w1.heap.size; omega)⟩))
          clear hc hxx hs6 hF6 hO6
          go_upto_region 12 with fail
          obtain ⟨w8, hw8⟩ : ∃ V : World, V = w6.setCell ⟨w1.heap.size, m, none⟩ (.bool true) := ⟨_, rfl⟩
          have r8 : w8.cell? ⟨b, o + m * 7 + 6, none⟩ = some (.slice ad M.length cap) := by rw [hw8]; exact (World.cell?_of_block (a := ⟨b, o + m * 7 + 6, none⟩) (Below.heap_setCell _ _ _ _ (by show b ≠ _; exact hbg))).trans r6
          rw [← hw8] at n8 HF8 HW8 HND ⊢
          clear hw8 r6 d0 d1
          obtain ⟨cs, hown8, hc8⟩ := HW8.out
          have hlt8 := World.ownsRow.lt hown8
          obtain ⟨news8, l1, l2, l3, l4, l5⟩ := need_cells (x := (Value.slice (some ⟨gn, on, none⟩) st.2.length vc).ownBlock) HND.out n8.size (fun c e => (hlt8 c e).1)
          have HC8 := Lib.hid hc8
          have HL5 := Lib.hid l5
          have HNE := Lib.hid (own_ne hown8 HF8.out)
          clear hc8 l5
          go_wp2_with (at_builtin; refine Ap2.wpList_append _ rfl (.tmp 38) (.tmp 43) 31 rfl w.heap.size 59 i0 (.agg #[.int .i64 0, .slice none 0 0]) 2 32 Try.underlying31 hi hz0 hz1 hz2 rfl (by decide) _ _ cs rfl hown8 ad M.length cap news8 (by rfl) l1 l2 l3 l4 (by unfold maxLen; omega) (by omega) n8.size ?_)
          intro a7 c7 wz hownz hgrowz hatz
          have nz : Below w.heap.size w wz := Below.grown n8 hgrowz n8.size (fun k e => (hlt8 k e).1)
          have hOz := grow_any hown8 HC8.out HL5.out hownz hgrowz hatz
          have hFz := HF8.out.kept (hgrowz.block _ HF8.out.lt (fun e => HNE.out _ e.symm rfl))
          have HR := Lib.hid (vs_next (w := w) (by omega) HN'.out HOK.out HU.out HA.out HXM.out (v := .slice a7 (st.2.length + M.length) c7) (by rw [HH.out, hM]; exact hOz) (by rw [HH.out]; exact hFz) nz)
          clear hownz hgrowz hatz hown8 hOz hFz
          go_wp2_with fail
          go_roundw
          case rel => exact HR.out
          case measure => simp [intOf]; omega
        · have HH := Lib.hid (show hitP S st (m : Int) = st by rw [hitP_at HXM.out, hcj]; rfl)
          rw [hcj] at d0
          clear hcj
          have HR := Lib.hid (vs_next (w := w) (by omega) HN'.out HOK.out HU.out HA.out HXM.out (by rw [HH.out]; exact hO6) (by rw [HH.out]; exact hF6) n6)
          clear hF6 hO6
          go_wp2_with fail
          go_roundw
          case rel => exact HR.out
          case measure => simp [intOf]; omega
    · obtain rfl : k = st.2.length := by omega
      have HE := Lib.hid (show visL S N = some st by rw [hu, vis_end (Nat.le_refl _)])
      clear hok hown hu hat hfl
      go_wp2_with fail
      refine bodyPost_ret (v := .tuple #[.slice (some ⟨w1.heap.size, 0, none⟩) S.length S.length, .bool true]) (by simp [results, Try.results59, go_sem]) rfl ?_
      rw [HE.out]
      exact ⟨_, rfl, HFL.out, hb⟩

/-- What the loops over the places keep. -/
def PlRel (c : List Bool) (n : Nat) (B : Nat) (w : World) (g : Nat) (v i : Value) (wr : World) : Prop :=
  ∃ k : Nat, k ≤ n ∧ i = .int .i64 (k : Int) ∧ IOwn wr B v (plTo c k) ∧ Fl wr g c ∧ Below B w wr
theorem plF_same (c : List Bool) : ∀ k, Pot.plF c k = plTo c k
  | 0 => rfl
  | k + 1 => by
    show Pot.plF c k ++ _ = plTo c k ++ _
    rw [plF_same c k]
set_option maxRecDepth 100000 in
set_option maxHeartbeats 8000000 in
theorem implLeastVisit_any (v u : Value) (S : List Rel) (N : List Nd) (w : World) (hl : S.length ≤ 1048576) (hq : ∀ q ∈ S, q.2.2.2.length ≤ 1048576 ∧ ∀ p ∈ q.2.2.2, p.2.length ≤ 1048576) (hN : N.length ≤ 1048576) (hNq : ∀ q ∈ N, q.2.length ≤ 1048576) (h : RlAt w w.heap.size v S) (h' : NdAt w w.heap.size u N) :
    Calls Try.prog 15 #[v, u] w (LvPost S N w) := by
  obtain ⟨i0, hi, hz0, hz1, hz2⟩ := info_parts infoInt
  obtain ⟨sa, caps, rfl, hx⟩ := id h
  obtain ⟨na, ncap, rfl, hy⟩ := id h'
  clear hx hy
  have H := Lib.hid h
  have H' := Lib.hid h'
  clear h h'
  have KS : Hid (∀ V, RlAt V V.heap.size (.slice sa S.length caps) S → Calls Try.prog 58 #[.slice sa S.length caps] V fun e w' => e = .returned (.bool (shOk S)) ∧ Below V.heap.size V w') := Lib.hid fun V g => implShelfOk_any _ S V hl hq g
  have KN : Hid (∀ V, NdAt V V.heap.size (.slice na N.length ncap) N → Calls Try.prog 47 #[.slice na N.length ncap] V fun e w' => e = .returned (.bool (ndOk N)) ∧ Below V.heap.size V w') := Lib.hid fun V g => implNeedsOk_any _ N V hN hNq g
  rcases hs : shOk S
  · rw [hs] at KS
    have HE := Lib.hid (show lvL S N = [] ∧ lvB S N = false by unfold lvL lvB; rw [hs]; exact ⟨rfl, rfl⟩)
    clear hs KN
    go_enter Try.func15, Try.ntmps15
    go_wp2_with fail
    refine (KS.out _ (H.out.stepAt (by go_grown))).mono ?_
    rintro e w1 ⟨rfl, hb⟩
    go_wp2_with fail
    refine bodyPost_ret (v := .tuple #[.slice none 0 0, .bool false]) (by simp [results, Try.results15, go_sem]) rfl ?_
    exact ⟨_, by rw [HE.out.2], by rw [HE.out.1]; exact ib_nil _ _ _, hb⟩
  rcases hn : ndOk N
  · rw [hs] at KS
    rw [hn] at KN
    have HE := Lib.hid (show lvL S N = [] ∧ lvB S N = false by unfold lvL lvB; rw [hs, hn]; exact ⟨rfl, rfl⟩)
    clear hs hn
    go_enter Try.func15, Try.ntmps15
    go_wp2_with fail
    refine (KS.out _ (H.out.stepAt (by go_grown))).mono ?_
    rintro e w1 ⟨rfl, hb⟩
    have b1 := hb
    clear hb
    go_wp2_with fail
    refine (KN.out _ (H'.out.stepAt b1)).mono ?_
    rintro e w2 ⟨rfl, hb⟩
    have b2 := b1.trans (hb.mono b1.size)
    go_wp2_with fail
    refine bodyPost_ret (v := .tuple #[.slice none 0 0, .bool false]) (by simp [results, Try.results15, go_sem]) rfl ?_
    exact ⟨_, by rw [HE.out.2], by rw [HE.out.1]; exact ib_nil _ _ _, b2⟩
  have hS5 : ∀ q ∈ S, q.2.2.2.length ≤ 5 ∧ ∀ p ∈ q.2.2.2, p.2.length ≤ 1048576 := fun q h => ⟨nd_len (sh_needs hs q h), (hq q h).2⟩
  have hS30 := sh_len hs
  have KU : Hid (∀ V, RlAt V V.heap.size (.slice sa S.length caps) S → NdAt V V.heap.size (.slice na N.length ncap) N → Calls Try.prog 59 #[.slice sa S.length caps, .slice na N.length ncap] V (RaPost (visL S N) S.length V)) := Lib.hid fun V g g' => releasesAsked_any _ _ S N V (sh_len hs) hS5 (nd_len hn) hNq g g'
  rw [hs] at KS
  rw [hn] at KN
  rcases hv : visL S N with _ | st
  · rw [hv] at KU
    have HE := Lib.hid (show lvL S N = [] ∧ lvB S N = false by unfold lvL lvB; rw [hs, hn, hv]; exact ⟨rfl, rfl⟩)
    clear hs hn hS5 hv
    go_enter Try.func15, Try.ntmps15
    go_wp2_with fail
    refine (KS.out _ (H.out.stepAt (by go_grown))).mono ?_
    rintro e w1 ⟨rfl, hb⟩
    have b1 := hb
    clear hb
    go_wp2_with fail
    refine (KN.out _ (H'.out.stepAt b1)).mono ?_
    rintro e w2 ⟨rfl, hb⟩
    have b2 := b1.trans (hb.mono b1.size)
    clear hb
    go_wp2_with fail
    refine (KU.out _ (H.out.stepAt b2) (H'.out.stepAt b2)).mono ?_
    rintro e w3 ⟨rfl, hb⟩
    have b3 := b2.trans (hb.mono b2.size)
    go_wp2_with fail
    refine bodyPost_ret (v := .tuple #[.slice none 0 0, .bool false]) (by simp [results, Try.results15, go_sem]) rfl ?_
    exact ⟨_, by rw [HE.out.2], by rw [HE.out.1]; exact ib_nil _ _ _, b3⟩
  have HFL := Lib.hid (show st.1.length = S.length by
    rcases visL_spec hs hn with ⟨s2, e, h2, _⟩ | ⟨e, _⟩
    · rw [hv] at e
      injection e with e
      rw [e]; exact h2
    · rw [hv] at e; cases e)
  rw [hv] at KU
  have HE := Lib.hid (show lvL S N = plTo st.1 S.length ∧ lvB S N = true by unfold lvL lvB; rw [hs, hn, hv]; exact ⟨rfl, rfl⟩)
  clear hs hn hS5 hv
  obtain ⟨c, hc⟩ : ∃ c, st.1 = c := ⟨_, rfl⟩
  have KU2 : Hid (∀ V, RlAt V V.heap.size (.slice sa S.length caps) S → NdAt V V.heap.size (.slice na N.length ncap) N → Calls Try.prog 59 #[.slice sa S.length caps, .slice na N.length ncap] V fun e w' => ∃ g, e = .returned (.tuple #[.slice (some ⟨g, 0, none⟩) S.length S.length, .bool true]) ∧ Fl w' g c ∧ Below V.heap.size V w') := Lib.hid fun V g g' => by rw [← hc]; exact KU.out V g g'
  rw [hc] at HFL HE
  clear hc KU
  go_enter Try.func15, Try.ntmps15
  go_wp2_with fail
  refine (KS.out _ (H.out.stepAt (by go_grown))).mono ?_
  rintro e w1 ⟨rfl, hb⟩
  have b1 := hb
  clear hb
  go_wp2_with fail
  refine (KN.out _ (H'.out.stepAt b1)).mono ?_
  rintro e w2 ⟨rfl, hb⟩
  have b2 := b1.trans (hb.mono b1.size)
  clear hb
  go_wp2_with fail
  refine (KU2.out _ (H.out.stepAt b2) (H'.out.stepAt b2)).mono ?_
  rintro e w3 ⟨g, rfl, hf3, hb⟩
  have b3 := b2.trans (hb.mono b2.size)
  have z3 := b3.size
  have KP := Lib.hid (Pot.placesOfTrue_any g S.length c w3 (by rw [HFL.out]; exact hl) hf3)
  rw [HFL.out] at KP
  have HPL := Lib.hid (plF_same c S.length)
  clear hb hf3
  go_wp2_with fail
  refine KP.out.mono ?_
  rintro e w4 ⟨v4, rfl, hi4, hb4⟩
  obtain ⟨ga, gc, rfl, hx⟩ := id hi4
  clear hx
  have HI := Lib.hid hi4
  have b4 := b3.trans (hb4.mono b3.size)
  clear hi4 hb4
  go_wp2_with fail
  refine bodyPost_ret (v := .tuple #[.slice ga (Pot.plF c S.length).length gc, .bool true]) (by simp [results, Try.results15, go_sem]) rfl ?_
  exact ⟨_, by rw [HE.out.2], by rw [HE.out.1, ← HPL.out]; exact HI.out.mono z3, b4⟩
end Lst
end Go.Proofs.Ytgnjhmmedogcoaa

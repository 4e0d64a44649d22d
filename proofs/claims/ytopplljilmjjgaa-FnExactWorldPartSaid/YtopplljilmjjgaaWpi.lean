/- What the world of what a target needs is, as a plain fact, and the contract of the program's WorldPart, over this seat's translation: it answers what partL tells, in a row of its own; nothing that was there before the call has changed. Condition: at most 1048576 targets, lines, numbers and bytes of each. -/
import Derived.Test.YtopplljilmjjgaaWpp
import Derived.Test.YtopplljilmjjgaaWnf
import Derived.Test.YtopplljilmjjgaaTgto
import Derived.Deep.RegionWith
import Derived.Deep.RegionHeld3
namespace Go.Proofs.Ytopplljilmjjgaa
open Go.RowKit Go.Sort

namespace Wp
open Tg Wl Pot Wn Wpg Wpp Drm Dtg
/-- Where some numbers of a row stand in it. -/
def idxL (R N : List Int) : List Int := plF (R.map fun x => decide (x ∈ N)) R.length
def tAt (S : List Tgt) (z : Int) : Tgt := match S[z.toNat]? with | some x => x | none => (false, ⟨#[]⟩, [], [])
def part1 (S : List Tgt) (R : List Int) (z : Int) : Tgt := ((tAt S z).1, (tAt S z).2.1, (tAt S z).2.2.1, idxL R (tAt S z).2.2.2)
def partL (S : List Tgt) (k : Int) : List Tgt := (needsL S k).map (part1 S (needsL S k))
theorem four_news {w : World} {x y z u' : Value} {t : TypeId} : ∀ j u, [x, y, z, u'][j]? = some u → (w.alloc (.cells #[x, y, z, u'] t)).cell? ((⟨w.heap.size, 0, none⟩ : Addr).add j) = some u := by
  intro j u hu
  have hadd : ∀ n : Nat, (⟨w.heap.size, 0, none⟩ : Addr).add n = ⟨w.heap.size, n, none⟩ := fun n => by unfold Addr.add; split <;> simp_all
  rw [hadd]
  match j, hu with
  | 0, hu => simp at hu; subst hu; go_simp
  | 1, hu => simp at hu; subst hu; go_simp
  | 2, hu => simp at hu; subst hu; go_simp
  | 3, hu => simp at hu; subst hu; go_simp
theorem four_one {x y z u' : Value} (h0 : x.oneCell' = true) (h1 : y.oneCell' = true) (h2 : z.oneCell' = true) (h3 : u'.oneCell' = true) : ∀ u ∈ [x, y, z, u'], u.oneCell' = true := by
  intro u hu
  simp at hu
  rcases hu with rfl | rfl | rfl | rfl
  · exact h0
  · exact h1
  · exact h2
  · exact h3
theorem gone4 {w wr w1 : World} {B : Nat} {t : TypeId} {s n : Nat} {v : Value} {cs : List Value} {o : Obj} (h : wr.ownsRow B t s v n cs) (hb : Below B w wr) (hB : B ≤ wr.heap.size) (hg : (wr.alloc o).grownBy w1 v.ownBlock) : Below B w w1 :=
  (hb.alloc hB o).grown hg (by simp; omega) (fun k hk => ((World.ownsRow.lt h) k hk).1)
/-- What the loop keeps. -/
def WpRel (S : List Tgt) (R : List Int) (w0 : World) (v i : Value) (wr : World) : Prop :=
  ∃ j : Nat, j ≤ R.length ∧ i = .int .i64 (j : Int) ∧ TGr wr w0.heap.size w0.heap.size v ((R.take j).map (part1 S R)) ∧ Below w0.heap.size w0 wr

theorem part_push {S : List Tgt} {R : List Int} {w2 w3 w4 w5 w7 : World} {j g cp vc lc ic : Nat} {va la ia : Option Addr} {cs : List Value} {m : Bool} {t : ByteArray} {L : List Ln} {I : List Int} (hlP : ((R.take j).map (part1 S R)).length = j) (hT : (R.take (j + 1)).map (part1 S R) = (R.take j).map (part1 S R) ++ [(m, t, L, I)]) (hj : j + 1 ≤ R.length)
    (ho : w3.ownsRow w2.heap.size 79 4 (.slice va j vc) j cs) (he : TEi w3 w2.heap.size cs ((R.take j).map (part1 S R))) (n3 : Below w2.heap.size w2 w3) (n4 : Below w3.heap.size w3 w4) (n5 : Below w4.heap.size w4 w5)
    (hL : LnB L w3.heap.size w4.heap.size (.slice la L.length lc) w4) (hI : IB I w4.heap.size w5.heap.size (.slice ia I.length ic) w5)
    (hown : w7.ownsRow w2.heap.size 79 4 (.slice (some ⟨g, 0, none⟩) (j + 1) cp) (j + 1) (cs ++ [.bool m, .string t, .slice la L.length lc, .slice ia I.length ic]))
    (hg : (w5.alloc (.cells #[.bool m, .string t, .slice la L.length lc, .slice ia I.length ic] 79)).grownBy w7 (Value.slice va j vc).ownBlock) :
    WpRel S R w2 (.slice (some ⟨g, 0, none⟩) (j + 1) cp) (.int .i64 ((j : Int) + 1)) w7 := by
  have n35 : Below w3.heap.size w3 w5 := n4.trans (n5.mono n4.size)
  have nA := (Below.refl w5.heap.size w5).alloc (Nat.le_refl _) (.cells #[.bool m, .string t, .slice la L.length lc, .slice ia I.length ic] 79)
  have zA := nA.size
  refine ⟨j + 1, hj, by go_num, ?_, ?_⟩
  · rw [hT]
    exact TGr.push (p := w4.heap.size) (by rw [hlP]; exact ho) he (n35.trans (nA.mono n35.size)) ⟨n4.size, Nat.le_trans n5.size zA⟩ ((hL.below n5).below nA) (ib_grow (hI.below nA) (Nat.le_refl _) zA) (by rw [hlP]; exact hown) hg
  · exact gone4 (row_below ho n35) (n3.trans (n35.mono n3.size)) (Nat.le_trans n3.size n35.size) hg

set_option maxRecDepth 100000 in
set_option maxHeartbeats 8000000 in
theorem implPart_any (v : Value) (S : List Tgt) (k : Int) (w : World) (hl : S.length ≤ 1048576) (hq : ∀ q ∈ S, Par q) (h : TgAt w w.heap.size v S) :
    Calls Try.prog 49 #[v, .int .i64 k] w fun e w' => ∃ v, e = .returned v ∧ TgB (partL S k) w.heap.size w'.heap.size v w' ∧ Below w.heap.size w w' := by
  obtain ⟨i0, hi, hz0, hz1, hz2⟩ := info_parts Tgn.infoTarget
  have KN := Lib.hid (implNeeds_any v S k w hl hq h)
  obtain ⟨a, cap, rfl, hh⟩ := id h
  have HH := Lib.hid hh
  have HQ := Lib.hid hq
  have HMEM := Lib.hid fun (x : Int) => (needs_mem (S := S) (k := k) (x := x)).1
  have HLEN := needsL_len S k
  have HE := Lib.hid (show partL S k = (needsL S k).map (part1 S (needsL S k)) from rfl)
  clear h hh hq
  go_enter Try.func49, Try.ntmps49
  go_wp2_with fail
  refine KN.out.mono ?_
  rintro e w2 ⟨v2, rfl, hi2, hb2⟩
  obtain ⟨R, hR⟩ : ∃ R, needsL S k = R := ⟨_, rfl⟩
  rw [hR] at hi2 HMEM HLEN HE
  clear hR KN
  obtain ⟨ra, rc, rfl, hx2⟩ := id hi2.at
  have HI2 := Lib.hid hi2.at
  have HX2 := Lib.hid hx2
  have HST := Lib.hid (show WpRel S R w2 (.slice none 0 0) (.int .i64 0) w2 from ⟨0, Nat.zero_le _, rfl, tgr_nil _, Below.refl _ _⟩)
  have HB2 := Lib.hid hb2
  clear hi2 hx2 hb2
  go_wp2_with fail
  go_loopw [6, 15] (fun v i wr => WpRel S R w2 v i wr) (fun _ i _ => R.length - (intOf i).toNat)
  case atStart => exact HST.out
  case round =>
    obtain ⟨j, hj, rfl, htg, hb⟩ := hrel
    obtain ⟨cs, ho, he⟩ := id htg
    obtain ⟨va, vc, hv⟩ := row_form ho
    have hlP : ((R.take j).map (part1 S R)).length = j := by simp; omega
    rw [hlP] at hv ho
    subst hv
    by_cases hlt : j < R.length
    · have j0 : (0 : Int) ≤ (j : Int) := by omega
      have j1 : (j : Int) < (R.length : Int) := by omega
      rcases HX2.out with hx | ⟨b, o, rfl, hB, hc⟩
      · subst hx
        exact absurd hlt (by simp)
      obtain ⟨_, z, hz, hzS, _⟩ := HMEM.out _ (List.getElem_mem hlt)
      have k0 := (hb.cell (p := ⟨b, o + j, none⟩) hB).trans (hc j hlt)
      rw [hz] at k0
      have bb := HB2.out.trans (hb.mono HB2.out.size)
      rcases HH.out with hx | ⟨b', o', rfl, hB', hc'⟩
      · subst hx
        exact absurd hzS (by simp)
      obtain ⟨m, t, L, N, hxy⟩ : ∃ m t L N, S[z] = (m, t, L, N) := ⟨_, _, _, _, rfl⟩
      have cc := (hc' z hzS).below bb hB'
      rw [hxy] at cc
      obtain ⟨⟨e0, e1⟩, a1, c1, a2, c2, e2, e3, hs, hi'⟩ := cc
      simp only at e0 e1 e2 e3 hs hi'
      have HPN := Lib.hid (show part1 S R R[j] = (m, t, L, idxL R N) from by
        unfold part1 tAt
        rw [hz, Int.toNat_natCast, List.getElem?_eq_getElem hzS, hxy])
      have HPQ := Lib.hid (HQ.out _ (List.getElem_mem hzS))
      rw [hxy] at HPQ
      have HT := Lib.hid (show (R.take (j + 1)).map (part1 S R) = (R.take j).map (part1 S R) ++ [(m, t, L, idxL R N)] from by
        rw [List.take_succ_eq_append_getElem hlt, List.map_append, List.map_cons, List.map_nil, HPN.out])
      clear hxy hc hc' hz HPN
      have HS := Lib.hid (hs.mono bb.size)
      have HI := Lib.hid (hi'.mono bb.size)
      have zI0 : (0 : Int) ≤ (z : Int) := by omega
      have zI1 : (z : Int) < (S.length : Int) := by omega
      have HO := Lib.hid ho
      have HTE := Lib.hid he
      have HB := Lib.hid hb
      have HR2 := Lib.hid (InAt.stepAt HI2.out hb)
      have HLP := Lib.hid hlP
      clear hs hi' ho he hb bb htg hlP
      have hlL := HPQ.out.2.1
      have hlN := HPQ.out.2.2.2
      have hIL := plF_len (R.map fun x => decide (x ∈ N)) R.length
      have KP := Lib.hid fun V u u' (g1 : InAt V V.heap.size u R) (g2 : InAt V V.heap.size u' N) => (show Calls Try.prog 106 #[u, u'] V fun e w' => ∃ v, e = .returned v ∧ IB (idxL R N) V.heap.size w'.heap.size v w' ∧ Below V.heap.size V w' from placesAmong_any u u' R N V (by omega) hlN g1 g2)
      obtain ⟨I, hI⟩ : ∃ I, idxL R N = I := ⟨_, rfl⟩
      have hIl : I.length ≤ R.length := by rw [← hI]; exact hIL
      rw [hI] at KP HT
      have HC := Lib.hid (show ∀ V, Below (wr.alloc (.cells #[.bool m, .string t, .slice a1 L.length c1, .slice a2 N.length c2] 79)).heap.size (wr.alloc (.cells #[.bool m, .string t, .slice a1 L.length c1, .slice a2 N.length c2] 79)) V →
          V.cell? ⟨wr.heap.size, 0, none⟩ = some (.bool m) ∧ V.cell? ⟨wr.heap.size, 1, none⟩ = some (.string t) ∧ V.cell? ⟨wr.heap.size, 2, none⟩ = some (.slice a1 L.length c1) ∧ V.cell? ⟨wr.heap.size, 3, none⟩ = some (.slice a2 N.length c2) from fun V q => by
        have hn := fun i u (hu : [Value.bool m, .string t, .slice a1 L.length c1, .slice a2 N.length c2][i]? = some u) => (show (wr.alloc (.cells #[.bool m, .string t, .slice a1 L.length c1, .slice a2 N.length c2] 79)).cell? ⟨wr.heap.size, i, none⟩ = some u from by
          have := four_news (w := wr) (t := 79) i u hu
          rwa [show (⟨wr.heap.size, 0, none⟩ : Addr).add i = ⟨wr.heap.size, i, none⟩ from by unfold Addr.add; split <;> simp_all] at this)
        have hz : wr.heap.size < (wr.alloc (.cells #[.bool m, .string t, .slice a1 L.length c1, .slice a2 N.length c2] 79)).heap.size := by simp
        exact ⟨(q.cell (p := ⟨wr.heap.size, 0, none⟩) hz).trans (hn 0 _ rfl), (q.cell (p := ⟨wr.heap.size, 1, none⟩) hz).trans (hn 1 _ rfl), (q.cell (p := ⟨wr.heap.size, 2, none⟩) hz).trans (hn 2 _ rfl), (q.cell (p := ⟨wr.heap.size, 3, none⟩) hz).trans (hn 3 _ rfl)⟩)
      have HCW := Lib.hid (show ∀ V : World, ((some wr.heap.size ≠ (Value.slice va j vc).ownBlock) → V.heap[wr.heap.size]? = (wr.alloc (.cells #[.bool m, .string t, .slice a1 L.length c1, .slice a2 N.length c2] 79)).heap[wr.heap.size]?) →
          V.cell? ⟨wr.heap.size, 0, none⟩ = some (.bool m) ∧ V.cell? ⟨wr.heap.size, 1, none⟩ = some (.string t) ∧ V.cell? ⟨wr.heap.size, 2, none⟩ = some (.slice a1 L.length c1) ∧ V.cell? ⟨wr.heap.size, 3, none⟩ = some (.slice a2 N.length c2) from fun V q => by
        have q' := q (fun e => by have := ((World.ownsRow.lt HO.out) wr.heap.size e.symm).2; omega)
        obtain ⟨c0, c1', c2', c3⟩ := HC.out _ (Below.refl _ _)
        have hk : ∀ i, V.cell? ⟨wr.heap.size, i, none⟩ = _ := fun i => World.cell?_of_block (a := ⟨wr.heap.size, i, none⟩) q'
        exact ⟨(hk 0).trans c0, (hk 1).trans c1', (hk 2).trans c2', (hk 3).trans c3⟩)
      have zx : wr.heap.size < (wr.alloc (.cells #[.bool m, .string t, .slice a1 L.length c1, .slice a2 N.length c2] 79)).heap.size := by simp
      have B3 := Lib.hid ((Below.refl wr.heap.size wr).alloc (Nat.le_refl _) (.cells #[.bool m, .string t, .slice a1 L.length c1, .slice a2 N.length c2] 79))
      obtain ⟨w3, hw3⟩ : ∃ w3, wr.alloc (.cells #[.bool m, .string t, .slice a1 L.length c1, .slice a2 N.length c2] 79) = w3 := ⟨_, rfl⟩
      go_wp2_with fail
      rw [hw3] at HC HCW B3 zx
      obtain ⟨d0, d1, d2, d3⟩ := HC.out w3 (Below.refl _ _)
      have HO3 := Lib.hid (row_below HO.out B3.out)
      have HTE3 := Lib.hid (HTE.out.keep B3.out.size fun k _ k2 _ => B3.out.block k k2)
      have HS3 := Lib.hid ((HS.out.below B3.out).mono B3.out.size)
      have HI3 := Lib.hid (InAt.stepAt HI.out B3.out)
      have HR3 := Lib.hid (InAt.stepAt HR2.out B3.out)
      have N3 := Lib.hid (HB.out.trans (B3.out.mono HB.out.size))
      have z3 := N3.out.size
      have KSC := Lib.hid fun V (g : Below w3.heap.size w3 V) => (show Calls Try.prog 92 #[.slice a1 L.length c1] V fun e w' => ∃ v, e = .returned v ∧ LnB L w3.heap.size w'.heap.size v w' ∧ Below w3.heap.size w3 w' from
        (scriptCopy_any (.slice a1 L.length c1) L V ((HS3.out.below g).mono g.size) hlL).mono fun e w' ⟨v, he, hl, hb⟩ => ⟨v, he, lnb_grow hl g.size (Nat.le_refl _), g.trans (hb.mono g.size)⟩)
      clear hI hIL hw3 HO HTE HS HI HR2 HB e0 e1 e2 e3 k0
      go_region_held3 (fun V => V.cell? ⟨wr.heap.size, 0, none⟩ = some (.bool m) ∧ V.cell? ⟨wr.heap.size, 1, none⟩ = some (.string t) ∧ V.cell? ⟨wr.heap.size, 2, none⟩ = some (.slice a1 L.length c1) ∧ V.cell? ⟨wr.heap.size, 3, none⟩ = some (.slice a2 N.length c2)) (go_keep)
        (first
          | (go_at_call 92; refine (KSC.out _ (by go_grown)).mono ?_; rintro e w4 ⟨v4, rfl, hl4, hb4⟩; obtain ⟨la, lc, rfl, x⟩ := id hl4; have HL4 := Lib.hid hl4; have N4 := Lib.hid hb4; obtain ⟨p0, p1, p2, p3⟩ := HC.out w4 hb4; clear x hl4 hb4)
          | (go_at_call 106; refine (KP.out _ _ _ (InAt.stepAt HR3.out N4.out) (InAt.stepAt HI3.out N4.out)).mono ?_; rintro e w5 ⟨v5, rfl, hi5, hb5⟩; obtain ⟨ia, ic, rfl, x⟩ := id hi5; have HI5 := Lib.hid hi5; have N45 := Lib.hid hb5; have n5 : Below w3.heap.size w3 w5 := N4.out.trans (hb5.mono N4.out.size); have N5 := Lib.hid n5; have HO5 := Lib.hid (row_below HO3.out n5); have z5 : w2.heap.size ≤ w5.heap.size := Nat.le_trans z3 n5.size; have z35 : w3.heap.size ≤ w5.heap.size := n5.size; obtain ⟨p0, p1, p2, p3⟩ := HC.out w5 n5; clear x hi5 hb5 n5)
          | (refine step_append_lies _ rfl (.tmp 23) (.tmp 36) 46 rfl w2.heap.size 79 i0 (.agg #[.bool false, .string ByteArray.empty, .slice none 0 0, .slice none 0 0]) 4 72 Try.underlying46 hi hz0 hz1 hz2 rfl (by decide) (.slice va j vc) j cs (by rfl) (World.ownsRow.alloc HO5.out (.cells #[.bool m, .string t, .slice la L.length lc, .slice ia I.length ic] 79)) ⟨w5.heap.size, 0, none⟩ 1 1 [.bool m, .string t, .slice la L.length lc, .slice ia I.length ic] (by rfl) (by rfl) four_news (four_one rfl rfl rfl rfl) (by omega) (by unfold maxLen; omega) (by omega) (by simp; omega) _ rfl ?_; intro g cp w7 hown7 hgrow7 hat hlt7; obtain ⟨p0, p1, p2, p3⟩ := HCW.out w7 (fun hne => (hgrow7.block wr.heap.size (by simp; omega) hne).trans ((Below.heap_alloc _ _ _ (by omega)).trans (N5.out.block _ zx))); have HR := Lib.hid (part_push HLP.out HT.out (by omega) HO3.out HTE3.out N3.out N4.out N45.out HL4.out HI5.out hown7 hgrow7); clear hown7 hgrow7 hat hlt7)
          | fail)
      all_goals
        go_wp2_with fail
        go_roundw
        case rel => exact HR.out
        case measure => simp [intOf]; omega
    · obtain rfl : j = R.length := by omega
      have HF := Lib.hid (show TgB (partL S k) w.heap.size wr.heap.size (.slice va R.length vc) wr from by
        rw [HE.out]
        have h9 := htg.tb (Nat.le_refl _)
        rw [List.take_length] at h9
        exact h9.wide HB2.out.size (Nat.le_refl _))
      have HB := Lib.hid (HB2.out.trans (hb.mono HB2.out.size))
      clear htg ho he hb
      go_wp2_with fail
      go_ret
      exact ⟨_, rfl, HF.out, HB.out⟩
end Wp
end Go.Proofs.Ytopplljilmjjgaa

/- Contracts of the program's functions that lay picks and needs together (picksWith, needsKnown, hopeless), over this seat's translation, as plain functions tell them; nothing that was there before a call has changed. Condition: at most 30 releases, five needs of each and five needs, 30 picks. -/
import Derived.Test.YtgenjbeamlffmaaSvi
import Derived.Test.YtgenjbeamlffmaaApp2
import Derived.Test.YtgenjbeamlffmaaNup
namespace Go.Proofs.Ytgenjbeamlffmaa
open Go.RowKit Go.Sort

namespace Svp
open Foot Copy Nup Cpu Cfa Rch
theorem pcl_ones : ∀ (A : List Pk), ∀ u ∈ pcl A, u.oneCell' = true := fun A u h => by
  obtain ⟨j, hj, rfl⟩ := List.getElem_of_mem h
  have hj' := hj
  rw [pcl_len] at hj'
  obtain ⟨p0, p1, p2, p3, p4⟩ := pcl_at A (j / 5) (by omega)
  have hg := List.getElem?_eq_getElem hj
  have : j = j / 5 * 5 ∨ j = j / 5 * 5 + 1 ∨ j = j / 5 * 5 + 2 ∨ j = j / 5 * 5 + 3 ∨ j = j / 5 * 5 + 4 := by omega
  rcases this with e | e | e | e | e
  · rw [← e, hg] at p0; injection p0 with p0; rw [p0]; rfl
  · rw [← e, hg] at p1; injection p1 with p1; rw [p1]; rfl
  · rw [← e, hg] at p2; injection p2 with p2; rw [p2]; rfl
  · rw [← e, hg] at p3; injection p3 with p3; rw [p3]; rfl
  · rw [← e, hg] at p4; injection p4 with p4; rw [p4]; rfl
/-- The cells of a row of picks, for an append of all of it. -/
theorem pk_rows {W : World} {B cap : Nat} {ao : Option Addr} {T : List Pk} (h : PkAt W B (.slice ao T.length cap) T) : (pcl T).length = T.length * 5 ∧ (ao = none → T.length = 0) ∧ ∀ ad, ao = some ad → ∀ j u, (pcl T)[j]? = some u → W.cell? (ad.add j) = some u := by
  obtain ⟨a', c', e, hc⟩ := h
  simp only [Value.slice.injEq] at e
  obtain ⟨rfl, _, _⟩ := e
  refine ⟨pcl_len T, fun e => ?_, fun ad e j u hu => ?_⟩
  · rcases hc with hc | ⟨b, o, e', _⟩
    · rw [hc]; rfl
    · rw [e] at e'; cases e'
  · have hj := (List.getElem?_eq_some_iff.1 hu).1
    rw [pcl_len] at hj
    rcases hc with rfl | ⟨b, o, rfl, hB, hc⟩
    · simp at hj
    · cases e
      have hadd : (⟨b, o, none⟩ : Addr).add j = ⟨b, o + j, none⟩ := by unfold Addr.add; split <;> simp_all
      rw [hadd]
      obtain ⟨c0, c1, c2, c3, c4⟩ := hc (j / 5) (by omega)
      obtain ⟨p0, p1, p2, p3, p4⟩ := pcl_at T (j / 5) (by omega)
      have : j = j / 5 * 5 ∨ j = j / 5 * 5 + 1 ∨ j = j / 5 * 5 + 2 ∨ j = j / 5 * 5 + 3 ∨ j = j / 5 * 5 + 4 := by omega
      rcases this with e | e | e | e | e <;> rw [e] at hu ⊢
      · rw [p0] at hu; rw [← hu]; exact c0
      · rw [p1] at hu; rw [← hu]; exact c1
      · rw [p2] at hu; rw [← hu]; exact c2
      · rw [p3] at hu; rw [← hu]; exact c3
      · rw [p4] at hu; rw [← hu]; exact c4
theorem KOwn.of {w : World} {B n : Nat} {v : Value} {L : List Pk} {cs : List Value} (h : w.ownsRow B 114 5 v n cs) (hn : n = L.length) (hc : cs = pcl L) : KOwn w B v L := by
  subst hn
  subst hc
  exact h

set_option maxRecDepth 100000 in
set_option maxHeartbeats 4000000 in
theorem picksWith_any (u : Value) (C : List Pk) (x a b c d : Int) (w : World) (hC : C.length ≤ 1048575) (h : PkAt w w.heap.size u C) :
    Calls Try.prog 128 #[u, pick x a b c d] w fun e w' => ∃ v, e = .returned v ∧ KOwn w' w.heap.size v (C ++ [(x, a, b, c, d)]) ∧ Below w.heap.size w w' := by
  obtain ⟨i0, hi, hz0, hz1, hz2⟩ := info_parts infoPick
  obtain ⟨pa, pc, rfl, hx⟩ := id h
  clear hx
  obtain ⟨w1, hw1⟩ : ∃ V : World, V = w.alloc (.cells #[.int .i64 x, .int .i64 a, .int .i64 b, .int .i64 c, .int .i64 d] 114) := ⟨_, rfl⟩
  have b1 : Below w.heap.size w w1 := by rw [hw1]; exact (Below.refl _ _).alloc (Nat.le_refl _) _
  have z1 : w.heap.size < w1.heap.size := by rw [hw1]; simp
  have p0 : w1.cell? ⟨w.heap.size, 0, none⟩ = some (.int .i64 x) := by rw [hw1]; go_simp
  have p1 : w1.cell? ⟨w.heap.size, 1, none⟩ = some (.int .i64 a) := by rw [hw1]; go_simp
  have p2 : w1.cell? ⟨w.heap.size, 2, none⟩ = some (.int .i64 b) := by rw [hw1]; go_simp
  have p3 : w1.cell? ⟨w.heap.size, 3, none⟩ = some (.int .i64 c) := by rw [hw1]; go_simp
  have p4 : w1.cell? ⟨w.heap.size, 4, none⟩ = some (.int .i64 d) := by rw [hw1]; go_simp
  obtain ⟨l1, l2, l3⟩ := pk_rows (h.stepAt b1)
  have L3 := Lib.hid l3
  have HB1 := Lib.hid b1
  clear l3 h
  go_enter Try.func128, Try.ntmps128
  go_upto_region 1 with fail
  rw [← hw1]
  clear hw1
  go_wp2_with (at_builtin; refine Ap2.wpList_append _ rfl (.tmp 6) (.tmp 7) 28 rfl (w.heap.size + 1) 114 i0 (.agg #[.int .i64 0, .int .i64 0, .int .i64 0, .int .i64 0, .int .i64 0]) 5 40 Try.underlying28 hi hz0 hz1 hz2 rfl (by decide) _ 0 [] rfl (World.ownsRow_nil _ _ _ _) pa C.length pc (pcl C) (by rfl) l1 l2 L3.out (pcl_ones C) (by unfold maxLen; omega) (by omega) (by omega) ?_)
  intro a2 c2 w2 own2 grow2 at2
  have o2 : KOwn w2 (w.heap.size + 1) (.slice a2 C.length c2) C := KOwn.of own2 rfl (by simp)
  have n12 : Below w1.heap.size w1 w2 := (Below.refl _ _).grown grow2 (Nat.le_refl _) (fun k e => by cases e)
  have n2 : Below w.heap.size w w2 := HB1.out.trans (n12.mono b1.size)
  have q0 := (n12.cell (p := ⟨w.heap.size, 0, none⟩) z1).trans p0
  have q1 := (n12.cell (p := ⟨w.heap.size, 1, none⟩) z1).trans p1
  have q2 := (n12.cell (p := ⟨w.heap.size, 2, none⟩) z1).trans p2
  have q3 := (n12.cell (p := ⟨w.heap.size, 3, none⟩) z1).trans p3
  have q4 := (n12.cell (p := ⟨w.heap.size, 4, none⟩) z1).trans p4
  have z2 := n12.size
  have HO2 := Lib.hid o2
  have HB2 := Lib.hid n2
  clear own2 grow2 at2 o2 n12 n2 p0 p1 p2 p3 p4
  go_wp2_with (at_builtin; refine wpList_append_own _ rfl _ _ 28 rfl (w.heap.size + 1) 114 i0 (.agg #[.int .i64 0, .int .i64 0, .int .i64 0, .int .i64 0, .int .i64 0]) 5 40 Try.underlying28 hi hz0 hz1 hz2 rfl (by decide) _ _ _ rfl (KOwn.below HO2.out ((Below.refl w2.heap.size w2).alloc (Nat.le_refl _) (.cells #[.int .i64 x, .int .i64 a, .int .i64 b, .int .i64 c, .int .i64 d] 114))) ⟨w2.heap.size, 0, none⟩ 1 1 [.int .i64 x, .int .i64 a, .int .i64 b, .int .i64 c, .int .i64 d] rfl rfl (pick_new w2 x a b c d) (pick_one _ _ _ _ _) (by unfold maxLen; omega) (by omega) (by simp; omega) ?_)
  intro v' w5 hown' hgrow hnn
  have o5 := KOwn.push hown'
  have n5 : Below w.heap.size w w5 := (HB2.out.alloc HB2.out.size _).grown hgrow (Nat.le_trans HB2.out.size (by simp)) (fun k e => by have := (World.ownsRow.lt HO2.out) k e; omega)
  have HO5 := Lib.hid (show KOwn w5 w.heap.size v' (C ++ [(x, a, b, c, d)]) from ⟨o5.1, by rcases o5.2 with h | ⟨g, cap, cur, hv, hb, rest⟩; exact .inl h; exact .inr ⟨g, cap, cur, hv, by omega, rest⟩⟩)
  clear hown' hgrow hnn o5
  go_wp2_with fail
  go_ret
  exact ⟨_, rfl, HO5.out, n5⟩
theorem flat_step {S : List Rel} {C : List Pk} {k : Nat} {x : Pk} (h : C[k]? = some x) : (C.take (k + 1)).flatMap (ndsOf S) = (C.take k).flatMap (ndsOf S) ++ ndsOf S x := by
  have hk := (List.getElem?_eq_some_iff.1 h).1
  rw [List.take_add_one, h, List.flatMap_append]
  simp
theorem flat_len {S : List Rel} (hS : ∀ q ∈ S, q.2.2.2.length ≤ 5) : ∀ C : List Pk, (C.flatMap (ndsOf S)).length ≤ 5 * C.length
  | [] => by simp
  | x :: t => by
    have h1 := flat_len hS t
    have h2 := nds_len hS x
    simp only [List.flatMap_cons, List.length_append, List.length_cons]
    omega

set_option maxRecDepth 100000 in
set_option maxHeartbeats 4000000 in
theorem needsKnown_any (v u z : Value) (S : List Rel) (N : List Nd) (C : List Pk) (w : World) (hl : S.length ≤ 30) (hS : ∀ q ∈ S, q.2.2.2.length ≤ 5) (hN : N.length ≤ 5) (hC : C.length ≤ 30) (h : RlAt w w.heap.size v S) (h' : NdAt w w.heap.size u N) (h2 : PkAt w w.heap.size z C) :
    Calls Try.prog 169 #[v, u, z] w fun e w' => ∃ r, e = .returned r ∧ NdAt w' w'.heap.size r (knownL S N C) ∧ Below w.heap.size w w' := by
  obtain ⟨i0, hi, hz0, hz1, hz2⟩ := info_parts infoNeed
  obtain ⟨sa, caps, rfl, hx⟩ := id h
  obtain ⟨na, ncap, rfl, hx'⟩ := id h'
  obtain ⟨pa, pc, rfl, h0⟩ := id h2
  clear hx hx'
  have H := Lib.hid h
  obtain ⟨news, l1, l2, l3, l4, l5⟩ := need_cells (x := (Value.slice none 0 0).ownBlock) h' (Nat.le_refl _) (fun c e => by cases e)
  obtain ⟨cs0, hown0, hc0⟩ := NOwn.nil w w.heap.size 0
  have L3 := Lib.hid l3
  have L5 := Lib.hid l5
  have HC0 := Lib.hid hc0
  have HO0 := Lib.hid hown0
  clear h h' h2 l3 l5 hc0 hown0
  go_enter Try.func169, Try.ntmps169
  go_wp2_with (at_builtin; refine Ap2.wpList_append _ rfl (.tmp 10) (.tmp 11) 33 rfl w.heap.size 111 i0 (.agg #[.int .i64 0, .slice none 0 0]) 2 32 Try.underlying33 hi hz0 hz1 hz2 rfl (by decide) _ 0 cs0 rfl HO0.out na N.length ncap news (by rfl) l1 l2 L3.out l4 (by unfold maxLen; omega) (by omega) (by omega) ?_)
  intro a1 c1 w1 hown1 hgrow1 hat1
  have n1 : NOwn w1 w.heap.size 0 (.slice a1 N.length c1) N := by
    have := grow_any (M := ([] : List Nd)) (P := N) (a' := a1) (c' := c1) HO0.out HC0.out L5.out (by rw [List.length_nil, Nat.zero_add]; exact hown1) hgrow1 (by rw [List.length_nil, Nat.zero_add]; exact hat1)
    rwa [List.length_nil, Nat.zero_add, List.nil_append] at this
  have b1 : Below w.heap.size w w1 := (Below.refl _ _).grown hgrow1 (Nat.le_refl _) (fun k e => by cases e)
  have HN1 := Lib.hid n1
  clear hown1 hgrow1 hat1 n1 HO0 HC0 L3 L5
  go_wp2_with fail
  go_loopw [7, 15] (fun s7 i wr => ∃ k : Nat, k ≤ C.length ∧ i = .int .i64 (k : Int) ∧ NOwn wr w.heap.size 0 s7 (N ++ (C.take k).flatMap (ndsOf S)) ∧ Below w.heap.size w wr) (fun _ i _ => C.length - (intOf i).toNat)
  case atStart => exact ⟨0, Nat.zero_le _, rfl, by simpa using HN1.out, b1⟩
  case round =>
    clear HN1
    obtain ⟨k, hk, rfl, hO, hb⟩ := hrel
    obtain ⟨M, hM⟩ : ∃ M, N ++ (C.take k).flatMap (ndsOf S) = M := ⟨_, rfl⟩
    rw [hM] at hO
    have hMl : M.length ≤ 155 := by
      rw [← hM, List.length_append]
      have := flat_len hS (C.take k)
      rw [List.length_take] at this
      omega
    have HM := Lib.hid hM
    obtain ⟨oa, oc, hv, hxx⟩ := id hO.at
    subst hv
    have HO := Lib.hid hO
    clear hM hO hxx
    by_cases hlt : k < C.length
    · rcases h0 with h0 | ⟨sb, o, rfl, hB, hc⟩
      · subst h0
        exact absurd hlt (by simp)
      obtain ⟨x, a, b, c, d, hxy⟩ : ∃ x a b c d, C[k] = (x, a, b, c, d) := ⟨_, _, _, _, _, rfl⟩
      obtain ⟨r0, r1, r2, r3, r4⟩ := hc k hlt
      rw [hxy] at r0 r1 r2 r3 r4
      simp only at r0 r1 r2 r3 r4
      have e0 := (hb.cell (p := ⟨sb, o + k * 5, none⟩) hB).trans r0
      have e1 := (hb.cell (p := ⟨sb, o + k * 5 + 1, none⟩) hB).trans r1
      have e2 := (hb.cell (p := ⟨sb, o + k * 5 + 2, none⟩) hB).trans r2
      have e3 := (hb.cell (p := ⟨sb, o + k * 5 + 3, none⟩) hB).trans r3
      have e4 := (hb.cell (p := ⟨sb, o + k * 5 + 4, none⟩) hB).trans r4
      have HXY := Lib.hid (show C[k]? = some (x, a, b, c, d) by rw [List.getElem?_eq_getElem hlt, hxy])
      have i0' : (0 : Int) ≤ (k : Int) := by omega
      have i1 : (k : Int) < (C.length : Int) := by omega
      obtain ⟨w3, hw3⟩ : ∃ V : World, V = wr.alloc (.cells #[.int .i64 x, .int .i64 a, .int .i64 b, .int .i64 c, .int .i64 d] 114) := ⟨_, rfl⟩
      have b3 : Below wr.heap.size wr w3 := by rw [hw3]; exact (Below.refl _ _).alloc (Nat.le_refl _) _
      have y0 : w3.cell? ⟨wr.heap.size, 0, none⟩ = some (.int .i64 x) := by rw [hw3]; go_simp
      have y1 : w3.cell? ⟨wr.heap.size, 1, none⟩ = some (.int .i64 a) := by rw [hw3]; go_simp
      have y2 : w3.cell? ⟨wr.heap.size, 2, none⟩ = some (.int .i64 b) := by rw [hw3]; go_simp
      have y3 : w3.cell? ⟨wr.heap.size, 3, none⟩ = some (.int .i64 c) := by rw [hw3]; go_simp
      have y4 : w3.cell? ⟨wr.heap.size, 4, none⟩ = some (.int .i64 d) := by rw [hw3]; go_simp
      have n3 : Below w.heap.size w w3 := hb.trans (b3.mono hb.size)
      have HO3 := Lib.hid (HO.out.below b3)
      clear hxy hc r0 r1 r2 r3 r4
      go_upto_region 6 with fail
      rw [← hw3]
      clear hw3 e0 e1 e2 e3 e4
      go_wp2_with fail
      refine (needsOfPick_any _ S x a b c d _ w.heap.size n3.size (by omega) (H.out.below n3)).mono ?_
      rintro e w4 ⟨da, dcap, rfl, hnd, hb4⟩
      have m4 := n3.trans (hb4.mono n3.size)
      have hP5 := nds_len hS (x, a, b, c, d)
      have HFS := Lib.hid (flat_step (S := S) HXY.out)
      obtain ⟨P, hP⟩ : ∃ P, ndsOf S (x, a, b, c, d) = P := ⟨_, rfl⟩
      rw [hP] at hnd hP5 HFS
      obtain ⟨cs, hown, hcc⟩ := HO3.out.below hb4
      have hlt4 := World.ownsRow.lt hown
      obtain ⟨news, l1, l2, l3, l4, l5⟩ := need_cells (x := (Value.slice oa M.length oc).ownBlock) hnd m4.size (fun c e => (hlt4 c e).1)
      have HCC := Lib.hid hcc
      have HL3 := Lib.hid l3
      have HL5 := Lib.hid l5
      have HOW := Lib.hid hown
      have z4 := m4.size
      have HB4 := Lib.hid m4
      first | rw [hP] | skip
      clear hcc l3 l5 hown hnd hP hb4 m4
      go_wp2_with (at_builtin; refine Ap2.wpList_append _ rfl (.tmp 19) (.tmp 22) 33 rfl w.heap.size 111 i0 (.agg #[.int .i64 0, .slice none 0 0]) 2 32 Try.underlying33 hi hz0 hz1 hz2 rfl (by decide) _ M.length cs rfl HOW.out da P.length dcap news (by rfl) l1 l2 HL3.out l4 (by unfold maxLen; omega) (by omega) (by omega) ?_)
      intro a5 c5 w5 hown5 hgrow5 hat5
      have n5 := grow_any HOW.out HCC.out HL5.out hown5 hgrow5 hat5
      have b5 : Below w.heap.size w w5 := HB4.out.grown hgrow5 HB4.out.size (fun k e => (hlt4 k e).1)
      have HR := Lib.hid (show NOwn w5 w.heap.size 0 (.slice a5 (M.length + P.length) c5) (N ++ (C.take (k + 1)).flatMap (ndsOf S)) by rw [HFS.out, ← List.append_assoc, HM.out]; exact n5)
      clear hown5 hgrow5 hat5 n5
      go_wp2_with fail
      go_roundw
      case rel => exact ⟨k + 1, by omega, by go_num, HR.out, b5⟩
      case measure => simp [intOf]; omega
    · obtain rfl : k = C.length := by omega
      have HA := Lib.hid (show NdAt wr wr.heap.size (.slice oa M.length oc) (knownL S N C) by
        have := HO.out.at
        rw [← HM.out, List.take_length] at this
        rw [← HM.out, List.take_length]
        exact this)
      go_wp2_with fail
      go_ret
      exact ⟨_, rfl, HA.out, hb⟩

set_option maxRecDepth 100000 in
set_option maxHeartbeats 4000000 in
theorem hopeless_any (v u z y : Value) (S : List Rel) (N : List Nd) (C O : List Pk) (w : World) (hl : S.length ≤ 30) (hS : ∀ q ∈ S, q.2.2.2.length ≤ 5 ∧ ∀ p ∈ q.2.2.2, p.2.length ≤ 1048576) (hN : N.length ≤ 5) (hNq : ∀ q ∈ N, q.2.length ≤ 1048576) (hCO : (C ++ O).length ≤ 30) (h : RlAt w w.heap.size v S) (h' : NdAt w w.heap.size u N) (h2 : PkAt w w.heap.size z C) (h3 : PkAt w w.heap.size y O) :
    Calls Try.prog 126 #[v, u, z, y] w fun e w' => e = .returned (.bool (hopeB S N C O)) ∧ Below w.heap.size w w' := by
  obtain ⟨i0, hi, hz0, hz1, hz2⟩ := info_parts infoPick
  obtain ⟨sa, caps, rfl, hx1⟩ := id h
  obtain ⟨na, ncap, rfl, hx2⟩ := id h'
  obtain ⟨pa, pc, rfl, hx3⟩ := id h2
  obtain ⟨oa, oc, rfl, hx4⟩ := id h3
  clear hx1 hx2 hx3 hx4
  have hCl : C.length + O.length ≤ 30 := by rwa [List.length_append] at hCO
  have H := Lib.hid h
  have H' := Lib.hid h'
  have H2 := Lib.hid h2
  have H3 := Lib.hid h3
  obtain ⟨l1, l2, l3⟩ := pk_rows h2
  have L3 := Lib.hid l3
  clear h h' h2 h3 l3
  go_enter Try.func126, Try.ntmps126
  go_wp2_with (at_builtin; refine Ap2.wpList_append _ rfl (.tmp 10) (.tmp 11) 28 rfl w.heap.size 114 i0 (.agg #[.int .i64 0, .int .i64 0, .int .i64 0, .int .i64 0, .int .i64 0]) 5 40 Try.underlying28 hi hz0 hz1 hz2 rfl (by decide) _ 0 [] rfl (World.ownsRow_nil _ _ _ _) pa C.length pc (pcl C) (by rfl) l1 l2 L3.out (pcl_ones C) (by unfold maxLen; omega) (by omega) (by omega) ?_)
  intro a2 c2 w2 own2 grow2 at2
  have o2 : KOwn w2 w.heap.size (.slice a2 C.length c2) C := KOwn.of own2 rfl (by simp)
  have n2 : Below w.heap.size w w2 := (Below.refl _ _).grown grow2 (Nat.le_refl _) (fun k e => by cases e)
  obtain ⟨m1, m2, m3⟩ := pk_rows (H3.out.stepAt n2)
  have M3 := Lib.hid m3
  have HO2 := Lib.hid o2
  have z2 := n2.size
  have HB2 := Lib.hid n2
  clear own2 grow2 at2 o2 n2 m3 l1 l2 L3
  go_wp2_with (at_builtin; refine Ap2.wpList_append _ rfl (.tmp 13) (.tmp 14) 28 rfl w.heap.size 114 i0 (.agg #[.int .i64 0, .int .i64 0, .int .i64 0, .int .i64 0, .int .i64 0]) 5 40 Try.underlying28 hi hz0 hz1 hz2 rfl (by decide) _ C.length (pcl C) rfl HO2.out oa O.length oc (pcl O) (by rfl) m1 m2 M3.out (pcl_ones O) (by unfold maxLen; omega) (by omega) (by omega) ?_)
  intro a3 c3 w3 own3 grow3 at3
  have o3 : KOwn w3 w.heap.size (.slice a3 (C.length + O.length) c3) (C ++ O) := KOwn.of own3 (by simp) (by rw [pcl_app])
  have n3 : Below w.heap.size w w3 := HB2.out.grown grow3 HB2.out.size (fun k e => (World.ownsRow.lt HO2.out k e).1)
  have R3 := Lib.hid (show PkAt w3 w3.heap.size (.slice a3 (C.length + O.length) c3) (C ++ O) from (KOwn.pb o3).at)
  clear own3 grow3 at3 o3 m1 m2 M3 HO2
  go_wp2_with fail
  refine (needsKnown_any _ _ _ S N C _ hl (fun q hq => (hS q hq).1) hN (by omega) (H.out.stepAt n3) (H'.out.stepAt n3) (H2.out.stepAt n3)).mono ?_
  rintro e w4 ⟨r4, rfl, hk4, hb4⟩
  have n4 := n3.trans (hb4.mono n3.size)
  obtain ⟨ka, kc, rfl, hxx⟩ := id hk4
  have K4 := Lib.hid hk4
  have R4 := Lib.hid (R3.out.stepAt hb4)
  have hKl : (knownL S N C).length ≤ 1048576 := by
    unfold knownL
    rw [List.length_append]
    have := flat_len (fun q hq => (hS q hq).1) C
    omega
  have hKq : ∀ q ∈ knownL S N C, q.2.length ≤ 1048576 := fun q hq => by
    unfold knownL at hq
    rcases List.mem_append.1 hq with hq | hq
    · exact hNq q hq
    · obtain ⟨x, _, hq⟩ := List.mem_flatMap.1 hq
      obtain ⟨r, hr, hq⟩ := nds_mem hq
      exact (hS r hr).2 q hq
  have KL : Hid (∀ V, NdAt V V.heap.size (.slice ka (knownL S N C).length kc) (knownL S N C) → PkAt V V.heap.size (.slice a3 (C.length + O.length) c3) (C ++ O) → Calls Try.prog 168 #[.slice ka (knownL S N C).length kc, .slice a3 (C.length + O.length) c3] V fun e w' => e = .returned (.bool (namesB (knownL S N C) (C ++ O))) ∧ Below V.heap.size V w') := Lib.hid fun V g g' => namesLeft_any _ _ _ _ V hKl hKq (by omega) g g'
  clear hk4 hxx hb4 hKl hKq R3
  rcases hnb : namesB (knownL S N C) (C ++ O)
  · rw [hnb] at KL
    have HH := Lib.hid (show hopeB S N C O = true by unfold hopeB; rw [hnb]; rfl)
    clear hnb
    go_wp2_with fail
    refine (KL.out _ K4.out R4.out).mono ?_
    rintro e w5 ⟨rfl, hb5⟩
    have n5 := n4.trans (hb5.mono n4.size)
    clear hb5
    go_wp2_with fail
    go_ret
    exact ⟨by rw [HH.out]; rfl, n5⟩
  · rw [hnb] at KL
    have HH := Lib.hid (show hopeB S N C O = !C.all (heldP (neededL S N (C ++ O))) by unfold hopeB; rw [hnb]; rfl)
    have hDl : (cameL (C ++ O) (endK S N (C ++ O)).1).length ≤ 1048576 := by have := cameL_len (C ++ O) (endK S N (C ++ O)).1; omega
    have KN : Hid (∀ V, RlAt V V.heap.size (.slice sa S.length caps) S → NdAt V V.heap.size (.slice na N.length ncap) N → PkAt V V.heap.size (.slice a3 (C.length + O.length) c3) (C ++ O) → Calls Try.prog 157 #[.slice sa S.length caps, .slice na N.length ncap, .slice a3 (C.length + O.length) c3] V (PbPost (neededL S N (C ++ O)) V)) := Lib.hid fun V g g' g2 => picksNeeded_any _ _ _ S N (C ++ O) V hl hS hN hCO g g' g2
    obtain ⟨D, hD⟩ : ∃ D, neededL S N (C ++ O) = D := ⟨_, rfl⟩
    have hDl' : D.length ≤ 1048576 := by rw [← hD]; exact hDl
    rw [hD] at KN HH
    have KA : Hid (∀ V r, PkAt V V.heap.size (.slice pa C.length pc) C → PkAt V V.heap.size r D → Calls Try.prog 170 #[.slice pa C.length pc, r] V fun e w' => e = .returned (.bool (C.all (heldP D))) ∧ Below V.heap.size V w') := Lib.hid fun V r g g' => picksAmong_any r _ C D V (by omega) hDl' g g'
    clear hnb hD hDl
    obtain ⟨al, hal⟩ : ∃ al, C.all (heldP D) = al := ⟨_, rfl⟩
    rw [hal] at KA HH
    clear hal
    go_wp2_with fail
    refine (KL.out _ K4.out R4.out).mono ?_
    rintro e w5 ⟨rfl, hb5⟩
    have n5 := n4.trans (hb5.mono n4.size)
    have R5 := Lib.hid (R4.out.stepAt hb5)
    clear hb5 R4
    go_wp2_with fail
    refine (KN.out _ (H.out.stepAt n5) (H'.out.stepAt n5) R5.out).mono ?_
    rintro e w6 ⟨v6, rfl, pb6, hb6⟩
    have n6 := n5.trans (hb6.mono n5.size)
    obtain ⟨da, dc, rfl, hxx⟩ := id pb6
    have D6 := Lib.hid pb6.at
    clear hxx pb6 hb6
    go_wp2_with fail
    refine (KA.out _ _ (H2.out.stepAt n6) D6.out).mono ?_
    rintro e w7 ⟨rfl, hb7⟩
    have n7 := n6.trans (hb7.mono n6.size)
    clear hb7
    go_wp2_with fail
    go_ret
    exact ⟨by rw [HH.out]; rfl, n7⟩
end Svp
end Go.Proofs.Ytgenjbeamlffmaa

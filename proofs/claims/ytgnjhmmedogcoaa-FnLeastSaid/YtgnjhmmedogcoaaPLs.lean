/- At every code the law FnLeast returns true: the program and the model pick the same for the drawn shelf and needs; each need, and each need of what is picked, has a pick of its name that is not before the first version of its range; each pick is among what comes up; and the picks are fine. No condition. -/
import Derived.BigFrame
import Derived.Deep.RegionHeld3
import Derived.Test.YtgnjhmmedogcoaaDlst
import Derived.Test.YtgnjhmmedogcoaaInts
import Derived.Test.YtgnjhmmedogcoaaSamep
import Derived.Test.YtgnjhmmedogcoaaGu
import Derived.Test.YtgnjhmmedogcoaaLsq
import Derived.Test.YtgnjhmmedogcoaaLsy
import Derived.Test.YtgnjhmmedogcoaaGd
namespace Go.Proofs.Ytgnjhmmedogcoaa
open Go.ChangeShapes Go.WideShapes Go.ChangeAt Go.RowKit Go.Joins Go.Sort

namespace Ple
open Foot Copy Dsh Dfi Dnm Dls Nup Cpu Lst
/-- What the release of a pick needs. -/
def ndsP (S : List Rel) (p : Pk) : List Nd := match S[(shAt S p.1 p.2).toNat]? with
  | some x => x.2.2.2
  | none => []
theorem ndsP_at {S : List Rel} {p : Pk} {m : Nat} (h : shAt S p.1 p.2 = (m : Int)) (hm : m < S.length) : ndsP S p = S[m].2.2.2 := by
  unfold ndsP
  rw [h, Int.toNat_natCast, List.getElem?_eq_getElem hm]
def allP (S : List Rel) (M : List Nd) (G : List Pk) : List Nd := M ++ G.flatMap (ndsP S)
theorem allP_next {S : List Rel} {M : List Nd} {G : List Pk} {k : Nat} {p : Pk} (h : G[k]? = some p) : allP S M (G.take (k + 1)) = allP S M (G.take k) ++ ndsP S p := by
  unfold allP
  rw [List.take_add_one, h, List.flatMap_append, List.append_assoc]
  simp
theorem allP_len {S : List Rel} {M : List Nd} (hS : shOk S = true) : ∀ G : List Pk, (allP S M G).length ≤ M.length + 5 * G.length
  | [] => by simp [allP]
  | p :: t => by
    have ih := allP_len (M := M) hS t
    have h5 : (ndsP S p).length ≤ 5 := by
      unfold ndsP
      split
      · rename_i x hx
        exact nd_len (sh_needs hS x (List.mem_of_getElem? hx))
      · simp
    unfold allP at ih ⊢
    rw [List.flatMap_cons, List.length_append, List.length_append, List.length_cons]
    rw [List.length_append] at ih
    omega
theorem all_up {S : List Rel} {N : List Nd} (h : lvB S N = true) : ∀ q ∈ allP S N (leL S N), Up S N q := fun q hq => by
  unfold allP at hq
  rcases List.mem_append.1 hq with hq | hq
  · exact .inl hq
  · obtain ⟨p, hp, hqp⟩ := List.mem_flatMap.1 hq
    obtain ⟨m, hm, h1, _, h3⟩ := pick_at h hp
    rw [ndsP_at h1 hm] at hqp
    exact .inr ⟨m, _, h3, List.getElem?_eq_getElem hm, hqp⟩
set_option maxRecDepth 100000 in
set_option maxHeartbeats 16000000 in
theorem ls_short (a : Option Addr) (len cap : Nat) (w : World) (h : CodeIn w a len cap) (hl : len ≤ 1048576) :
    Calls Try.prog 7 #[.slice a len cap] w fun e w' => e = .returned (.bool true) ∧ Below w.heap.size w w' := by
  obtain ⟨i0, hi, hz0, hz1, hz2⟩ := info_parts infoNeed
  go_enter Try.func7, Try.ntmps7
  go_wp2_with fail
  refine (DrawLeast_any a len cap w h).mono ?_
  rintro e w1 ⟨S, sa, caps, M, na, ncap, rfl, hat1, hnd1, hl31, hsz, hM9, hM41, b1⟩
  have hl' : S.length ≤ 1048576 := by omega
  have hq := hsz.big
  have hm' : M.length ≤ 1048576 := by omega
  have hmq : ∀ q ∈ M, q.2.length ≤ 1048576 := fun q hq => by have := hM41 q hq; omega
  have KI : Hid (∀ V, RlAt V V.heap.size (.slice sa S.length caps) S → NdAt V V.heap.size (.slice na M.length ncap) M → Calls Try.prog 24 #[.slice sa S.length caps, .slice na M.length ncap] V (fun e w' => ∃ v, e = .returned (.tuple #[v, .bool (lvB S M)]) ∧ PB (leL S M) V.heap.size w'.heap.size v w' ∧ Below V.heap.size V w')) := Lib.hid fun V g g' => implLeast_any _ _ S M V hl' hq hm' hmq g g'
  have KS : Hid (∀ V, RlAt V V.heap.size (.slice sa S.length caps) S → NdAt V V.heap.size (.slice na M.length ncap) M → Calls Try.prog 23 #[.slice sa S.length caps, .slice na M.length ncap] V (fun e w' => ∃ v, e = .returned (.tuple #[v, .bool (lvB S M)]) ∧ PB (leL S M) V.heap.size w'.heap.size v w' ∧ Below V.heap.size V w')) := Lib.hid fun V g g' => specLeast_any _ _ S M V hl' hq hm' hmq g g'
  have KW : Hid (∀ V, RlAt V V.heap.size (.slice sa S.length caps) S → NdAt V V.heap.size (.slice na M.length ncap) M → Calls Try.prog 15 #[.slice sa S.length caps, .slice na M.length ncap] V (fun e w' => ∃ v, e = .returned (.tuple #[v, .bool (lvB S M)]) ∧ IB (lvL S M) V.heap.size w'.heap.size v w' ∧ Below V.heap.size V w')) := Lib.hid fun V g g' => implLeastVisit_any _ _ S M V hl' hq hm' hmq g g'
  have KA : Hid (∀ V n p q r s, RlAt V V.heap.size (.slice sa S.length caps) S → Calls Try.prog 40 #[.slice sa S.length caps, .int .i64 n, ver p q r s] V fun e w' => e = .returned (.int .i64 (shAt S n (p, q, r, s))) ∧ Below V.heap.size V w') := Lib.hid fun V n p q r s g => implShelfAt_any _ S n p q r s V hl' hq g
  have KV : Hid (∀ V, Calls Try.prog 37 #[] V fun e w' => e = .returned (.bool true) ∧ Below V.heap.size V w') := Lib.hid fun V => alive_any V
  have H := Lib.hid hat1
  have HN := Lib.hid hnd1
  have HQ := Lib.hid hq
  have HMQ := Lib.hid hmq
  have hG30 := leL_len S M
  have hno : lvB S M = false → leL S M = [] := fun hb => by unfold leL; rw [lvL_no hb]; rfl
  have hpk : pkOk (leL S M) = true := least_ok
  have hpa := fun (h : lvB S M = true) (p : Pk) (hp : p ∈ leL S M) => pick_at h hp
  have hup := fun (h : lvB S M = true) q (hq : q ∈ allP S M (leL S M)) => need_met h (all_up h q hq)
  have hsh := fun (h : lvB S M = true) => (lv_yes h).1
  obtain ⟨G, hG⟩ : ∃ X, leL S M = X := ⟨_, rfl⟩
  obtain ⟨bf, hbf⟩ : ∃ X, lvB S M = X := ⟨_, rfl⟩
  obtain ⟨N, hNN⟩ : ∃ X, lvL S M = X := ⟨_, rfl⟩
  have hN30 : N.length ≤ 30 := by rw [← hNN]; exact lvL_small
  rw [hG, hbf] at KI KS
  rw [hbf, hNN] at KW
  rw [hG] at hG30 hpk
  rw [hG, hbf] at hno
  rw [hG, hbf, hNN] at hpa
  rw [hG, hbf] at hup
  rw [hbf] at hsh
  have hbb : (bf != bf) = false := by simp
  have KP : Hid (∀ V u n, PkAt V V.heap.size u G → Calls Try.prog 41 #[u, .int .i64 n] V fun e w' => e = .returned (got (pkOf G n)) ∧ Below V.heap.size V w') := Lib.hid fun V u n g => implPickOf_any u G n V (by omega) g
  have KO : Hid (∀ V u, PkAt V V.heap.size u G → Calls Try.prog 43 #[u] V fun e w' => e = .returned (.bool true) ∧ Below V.heap.size V w') := Lib.hid fun V u g => by have := implPicksOk_any u G V (by omega) g; rwa [hpk] at this
  have HNO := Lib.hid hno
  have HPA := Lib.hid hpa
  have HUP := Lib.hid hup
  have HSH := Lib.hid hsh
  clear hno hpa hup hsh hpk hG hbf hNN hat1 hnd1 h hsz hM41 hq hmq
  go_wp2_with fail
  refine (KI.out _ H.out HN.out).mono ?_
  rintro e w2 ⟨v2, rfl, pb2, b2⟩
  obtain ⟨ga, gc, rfl, hx⟩ := id pb2
  have G2 := Lib.hid pb2.at
  clear hx pb2
  go_wp2_with fail
  refine (KS.out _ (H.out.stepAt b2) (HN.out.stepAt b2)).mono ?_
  rintro e w3 ⟨v3, rfl, pb3, hb⟩
  have b3 := b2.trans (hb.mono b2.size)
  obtain ⟨ja, jc, rfl, hx⟩ := id pb3
  have G3 := Lib.hid (G2.out.stepAt hb)
  have J3 := Lib.hid pb3.at
  clear hx pb3 hb G2 b2
  have KE : Hid (∀ V u u', PkAt V V.heap.size u G → PkAt V V.heap.size u' G → Calls Try.prog 39 #[u, u'] V fun e w' => e = .returned (.bool true) ∧ Below V.heap.size V w') := Lib.hid fun V u u' g g' => by have := Smp.samePicks_any u u' G G V (by omega) (by omega) g g'; rwa [decide_eq_true rfl] at this
  go_wp2_with fail
  refine (KE.out _ _ _ G3.out J3.out).mono ?_
  rintro e w4 ⟨rfl, hb⟩
  have b4 := b3.trans (hb.mono b3.size)
  have G4 := Lib.hid (G3.out.stepAt hb)
  clear hb G3 J3 b3 KI KS KE
  rcases bf
  · have hN0 := HNO.out rfl
    subst hN0
    clear HNO HPA HUP HSH KP KO KW KA
    go_wp2_with fail
    refine (KV.out _).mono ?_
    rintro e w5 ⟨rfl, hb⟩
    have b5 := b4.trans (hb.mono b4.size)
    go_wp2_with fail
    go_ret
    exact ⟨rfl, b1.trans (b5.mono b1.size)⟩
  have HPT := Lib.hid (HPA.out rfl)
  have HUT := Lib.hid (HUP.out rfl)
  have hS := HSH.out rfl
  have HAL := Lib.hid (allP_len (M := M) hS)
  have HS5 := Lib.hid (fun q hq => nd_len (sh_needs hS q hq))
  clear HNO HPA HUP HSH hS
  have z4 := b4.size
  have hob : ∀ c, (Value.slice (some ⟨w4.heap.size, 0, none⟩) 0 0).ownBlock = some c → c = w4.heap.size := fun c e => by
    have e' : some w4.heap.size = some c := e
    injection e' with e'
    omega
  obtain ⟨news, l1, l2, l3, l4, l5⟩ := need_cells (W := w4.alloc (.cells #[] 59)) (B := w4.heap.size) (x := (Value.slice (some ⟨w4.heap.size, 0, none⟩) 0 0).ownBlock) ((HN.out.stepAt b4).below ((Below.refl w4.heap.size w4).alloc (Nat.le_refl _) (.cells #[] 59))) (by simp) (fun c e => by have := hob c e; omega)
  have HL5 := Lib.hid l5
  have hown0 : (w4.alloc (.cells #[] 59)).ownsRow w4.heap.size 59 2 (.slice (some ⟨w4.heap.size, 0, none⟩) 0 0) 0 [] := World.ownsRow_made w4 #[] 0 (Nat.le_refl _) (by unfold maxLen; omega) rfl
  clear l5
  go_wp2_with (at_builtin; refine Ap2.wpList_append _ rfl (.tmp 55) (.tmp 56) 31 rfl w4.heap.size 59 i0 (.agg #[.int .i64 0, .slice none 0 0]) 2 32 Try.underlying31 hi hz0 hz1 hz2 rfl (by decide) _ 0 [] rfl hown0 na M.length ncap news (by rfl) l1 l2 l3 l4 (by unfold maxLen; omega) (by omega) (by simp) ?_)
  intro a5 c5 w5 hown5 hgrow5 hat5
  have hO5 : NOwn w5 w4.heap.size 0 (.slice a5 M.length c5) M := by
    have := grow_any (M := []) (P := M) (cs := []) (a' := a5) (c' := c5) hown0 (fun i hi => absurd hi (by simp)) HL5.out (by simpa using hown5) hgrow5 (by simpa using hat5)
    simpa using this
  have n5 : Below w4.heap.size w4 w5 := ((Below.refl w4.heap.size w4).alloc (Nat.le_refl _) (.cells #[] 59)).grown hgrow5 (by simp) (fun k e => by have := hob k e; omega)
  have HST := Lib.hid (show ∃ k : Nat, k ≤ G.length ∧ Value.int .i64 0 = .int .i64 (k : Int) ∧ NOwn w5 w4.heap.size 0 (.slice a5 M.length c5) (allP S M (G.take k)) ∧ Below w4.heap.size w4 w5 from ⟨0, Nat.zero_le _, rfl, by rw [List.take_zero]; simpa [allP] using hO5, n5⟩)
  clear hO5 hown5 hgrow5 hat5 l1 l2 l3 l4 hown0 HL5 n5 hob
  go_wp2_with fail
  go_loopw [9, 10] (fun v i wr => ∃ k : Nat, k ≤ G.length ∧ i = .int .i64 (k : Int) ∧ NOwn wr w4.heap.size 0 v (allP S M (G.take k)) ∧ Below w4.heap.size w4 wr) (fun _ i _ => G.length - (intOf i).toNat)
  case atStart => exact HST.out
  case round =>
    obtain ⟨k, hk, rfl, hown, hb⟩ := hrel
    obtain ⟨T, hT⟩ : ∃ T, allP S M (G.take k) = T := ⟨_, rfl⟩
    have hTl : T.length ≤ 200 := by
      have := HAL.out (G.take k)
      rw [hT, List.length_take] at this
      omega
    rw [hT] at hown
    obtain ⟨va, vc, rfl, hat⟩ := id hown.at
    have HOW := Lib.hid hown
    have zb := hb.size
    have m1 := b4.trans (hb.mono z4)
    by_cases hlt : k < G.length
    · clear hat hown
      obtain ⟨x, a', b', c', d', hxy⟩ : ∃ x a b c d, G[k] = (x, a, b, c, d) := ⟨_, _, _, _, _, rfl⟩
      have hmem : (x, a', b', c', d') ∈ G := by rw [← hxy]; exact List.getElem_mem hlt
      have HNX := Lib.hid (allP_next (S := S) (M := M) (show G[k]? = some (x, a', b', c', d') by rw [List.getElem?_eq_getElem hlt, hxy]))
      have HT := Lib.hid hT
      obtain ⟨m, hmS, hsat, _, _⟩ := HPT.out _ hmem
      simp only at hsat
      have HND := Lib.hid (ndsP_at (p := (x, a', b', c', d')) hsat hmS)
      obtain ⟨pb, po, hga, hpB, hpc⟩ : ∃ b o, ga = some ⟨b, o, none⟩ ∧ b < w4.heap.size ∧ ∀ i (h : i < G.length), PkC w4 b (o + i * 5) G[i] := by
        obtain ⟨a', c', e, hh⟩ := G4.out
        simp only [Value.slice.injEq] at e
        obtain ⟨rfl, _, _⟩ := e
        rcases hh with hh | hh
        · rw [hh] at hlt; simp at hlt
        · exact hh
      subst hga
      obtain ⟨e0, e1, e2, e3, e4⟩ := (hpc k hlt).below hb hpB
      rw [hxy] at e0 e1 e2 e3 e4
      simp only at e0 e1 e2 e3 e4
      obtain ⟨sb, so, hsa, hsB, hsc⟩ : ∃ b o, sa = some ⟨b, o, none⟩ ∧ b < w1.heap.size ∧ ∀ i (h : i < S.length), RlC w1 w1.heap.size b (o + i * 7) S[i] := by
        obtain ⟨a', c', e, hh⟩ := H.out
        simp only [Value.slice.injEq] at e
        obtain ⟨rfl, _, _⟩ := e
        rcases hh with hh | hh
        · rw [hh] at hmS; simp at hmS
        · exact hh
      subst hsa
      obtain ⟨Q, hQ⟩ : ∃ Q, S[m].2.2.2 = Q := ⟨_, rfl⟩
      have hQ5 := HS5.out _ (List.getElem_mem hmS)
      obtain ⟨_, ad, cap', s6, hs6⟩ := hsc m hmS
      rw [hQ] at s6 hs6 hQ5
      rw [hQ] at HND
      have HQ6 := Lib.hid hs6
      have KA1 : Hid (∀ V, RlAt V V.heap.size (.slice (some ⟨sb, so, none⟩) S.length caps) S → Calls Try.prog 40 #[.slice (some ⟨sb, so, none⟩) S.length caps, .int .i64 x, ver a' b' c' d'] V fun e w' => e = .returned (.int .i64 (m : Int)) ∧ Below V.heap.size V w') := Lib.hid fun V g => by have := KA.out V x a' b' c' d' g; rwa [hsat] at this
      have HR := Lib.hid (H.out.stepAt m1)
      have t0 := cell_regrown e0
      have t1 := cell_regrown e1
      have t2 := cell_regrown e2
      have t3 := cell_regrown e3
      have t4 := cell_regrown e4
      have j0 : (0 : Int) ≤ (k : Int) := by omega
      have j1 : (k : Int) < (G.length : Int) := by omega
      have j2 : (0 : Int) ≤ (m : Int) := by omega
      have j3 : (m : Int) < (S.length : Int) := by omega
      have j4 : ¬ (m : Int) < 0 := by omega
      have hzw := b4.size
      clear hxy hmem hT hsat hpc hsc hs6 hQ e0 e1 e2 e3 e4
      go_wp2_with fail
      refine wp_region_quiet_below (by kernel_rfl) (by kernel_rfl) ?_
      repeat (any_goals (first | go_big_quiet_step ((go_at_call 40; exact Calls.regrown_of (KA1.out _ (HR.out.stepAt (below_regrown _ _ _))))) | quiet_step ((go_at_call 40; exact Calls.regrown_of (KA1.out _ (HR.out.stepAt (below_regrown _ _ _)))))))
      refine wpQuiet_nil ?_
      intro W2 hw
      have nn := quiet_end hw
      clear hw t0 t1 t2 t3 t4
      have m2 := m1.trans (nn.mono m1.size)
      have n2 := hb.trans (nn.mono zb)
      have zn := n2.size
      have r6 := (m2.cell (p := ⟨sb, so + m * 7 + 6, none⟩) hsB).trans s6
      obtain ⟨cs, hown2, hc2⟩ := HOW.out.below nn
      have hlt2 := World.ownsRow.lt hown2
      obtain ⟨news, l1, l2, l3, l4, l5⟩ := need_cells (W := W2) (x := (Value.slice va T.length vc).ownBlock) (HQ6.out.below m2) m2.size (fun c e => by have := (hlt2 c e).1; omega)
      have HC2 := Lib.hid hc2
      have HL5 := Lib.hid l5
      clear hc2 l5 nn
      go_wp2_with (at_builtin; refine Ap2.wpList_append _ rfl (.tmp 78) (.tmp 83) 31 rfl w4.heap.size 59 i0 (.agg #[.int .i64 0, .slice none 0 0]) 2 32 Try.underlying31 hi hz0 hz1 hz2 rfl (by decide) _ _ cs rfl hown2 ad Q.length cap' news (by rfl) l1 l2 l3 l4 (by unfold maxLen; omega) (by omega) n2.size ?_)
      intro a7 c7 wz hownz hgrowz hatz
      have nz : Below w4.heap.size w4 wz := Below.grown n2 hgrowz n2.size (fun k e => (hlt2 k e).1)
      have hOz := grow_any hown2 HC2.out HL5.out hownz hgrowz hatz
      have HRR := Lib.hid (show ∃ k' : Nat, k' ≤ G.length ∧ Value.int .i64 ((k : Int) + 1) = .int .i64 (k' : Int) ∧ NOwn wz w4.heap.size 0 (.slice a7 (T.length + Q.length) c7) (allP S M (G.take k')) ∧ Below w4.heap.size w4 wz from ⟨k + 1, by omega, by go_num, by rw [HNX.out, HT.out, HND.out]; exact hOz, nz⟩)
      clear hownz hgrowz hatz hown2 hOz
      go_wp2_with fail
      go_roundw
      case rel => exact HRR.out
      case measure => simp [intOf]; omega
    · obtain rfl : k = G.length := by omega
      rw [List.take_length] at hT
      have HUQ := Lib.hid (show ∀ q ∈ T, _ from by rw [← hT]; exact HUT.out)
      have HAT := Lib.hid hown.at
      have GR := Lib.hid (G4.out.stepAt hb)
      clear hT hat hown HST
      go_wp2_with fail
      go_loopw [12] (fun i wx => ∃ p : Nat, p ≤ T.length ∧ i = .int .i64 (p : Int) ∧ Below wr.heap.size wr wx) (fun i _ => T.length - (intOf i).toNat)
      case atStart => exact ⟨0, Nat.zero_le _, rfl, Below.refl _ _⟩
      case round =>
        rename World => wx
        obtain ⟨p, hp, rfl, hb2⟩ := hrel
        have mx := m1.trans (hb2.mono m1.size)
        have zx := hb2.size
        by_cases hpl : p < T.length
        · obtain ⟨gn, on, hva, hgn, hcn⟩ : ∃ b o, va = some ⟨b, o, none⟩ ∧ b < wr.heap.size ∧ ∀ i (h : i < T.length), NdC wr wr.heap.size b (o + i * 2) T[i] := by
            obtain ⟨a', c', e, hh⟩ := HAT.out
            simp only [Value.slice.injEq] at e
            obtain ⟨rfl, _, _⟩ := e
            rcases hh with hh | hh
            · rw [hh] at hpl; simp at hpl
            · exact hh
          subst hva
          obtain ⟨nm, L, hnl⟩ : ∃ nm L, T[p] = (nm, L) := ⟨_, _, rfl⟩
          have hmem : (nm, L) ∈ T := by rw [← hnl]; exact List.getElem_mem hpl
          obtain ⟨s0, TL, vv, hL, hpk, hrk⟩ := HUQ.out _ hmem
          obtain ⟨lo, hi'⟩ := s0
          obtain ⟨va4, vb4, vc4, vd4⟩ := vv
          simp only at hL hpk hrk
          obtain ⟨d0, la, lc, d1, hs⟩ := (hcn p hpl).below hb2 hgn
          rw [hnl] at d0 d1 hs
          simp only at d0 d1 hs
          obtain ⟨nb, no, hla, hnB, hnc⟩ : ∃ b o, la = some ⟨b, o, none⟩ ∧ b < wr.heap.size ∧ ∀ i (h : i < L.length), wx.cell? ⟨b, o + i * 2, none⟩ = some (.int .i64 L[i].1) ∧ wx.cell? ⟨b, o + i * 2 + 1, none⟩ = some (.int .i64 L[i].2) := by
            obtain ⟨a', c', e, hh⟩ := hs
            simp only [Value.slice.injEq] at e
            obtain ⟨rfl, _, _⟩ := e
            rcases hh with hh | hh
            · rw [hh] at hL; cases hL
            · exact hh
          subst hla
          have hLp : 0 < L.length := by rw [hL]; simp
          have q0 := (hnc 0 hLp).1
          have hL0 : L[0] = (lo, hi') := by simp [hL]
          rw [hL0] at q0
          simp only [Nat.zero_mul, Nat.add_zero] at q0
          obtain ⟨l, hll⟩ : ∃ l, L.length = l := ⟨_, rfl⟩
          have i00 : (0 : Int) < (l : Int) := by omega
          rw [hll] at d1
          obtain ⟨r, hr⟩ : ∃ r, vRank va4 vb4 vc4 vd4 = r := ⟨_, rfl⟩
          have hrl : ¬ r < lo := by
            have h9 : lo ≤ vRank va4 vb4 vc4 vd4 := hrk
            rw [hr] at h9
            omega
          have KR : Hid (∀ V, Calls Try.prog 42 #[ver va4 vb4 vc4 vd4] V fun e w' => e = .returned (.int .i64 r) ∧ Below V.heap.size V w') := Lib.hid fun V => by have := implRank_any va4 vb4 vc4 vd4 V; rwa [hr] at this
          have KP1 : Hid (∀ V u, PkAt V V.heap.size u G → Calls Try.prog 41 #[u, .int .i64 nm] V fun e w' => e = .returned (.tuple #[ver va4 vb4 vc4 vd4, .bool true]) ∧ Below V.heap.size V w') := Lib.hid fun V u g => by have := KP.out V u nm g; rw [hpk] at this; exact this
          have GX := Lib.hid (GR.out.stepAt hb2)
          have j0 : (0 : Int) ≤ (p : Int) := by omega
          have j1 : (p : Int) < (T.length : Int) := by omega
          have HB2 := Lib.hid hb2
          have hgx : gn < wx.heap.size := by omega
          have hnx : nb < wx.heap.size := by omega
          clear hnl hmem hL hpk hrk hs hnc hL0 hLp hll hr hcn
          go_wp2_with fail
          refine (KP1.out _ _ GX.out).mono ?_
          rintro e w7 ⟨rfl, hb7⟩
          have f0 := (hb7.cell (p := ⟨gn, on + p * 2, none⟩) hgx).trans d0
          have f1 := (hb7.cell (p := ⟨gn, on + p * 2 + 1, none⟩) hgx).trans d1
          have f2 := (hb7.cell (p := ⟨nb, no, none⟩) hnx).trans q0
          obtain ⟨wb, hwb⟩ : ∃ V : World, V = w7.alloc (.cells #[.int .i64 va4, .int .i64 vb4, .int .i64 vc4, .int .i64 vd4] 61) := ⟨_, rfl⟩
          have n7 : Below w7.heap.size w7 wb := by rw [hwb]; exact (Below.refl _ _).alloc (Nat.le_refl _) _
          have y0 := cell_regrown (show wb.cell? ⟨w7.heap.size, 0, none⟩ = some (.int .i64 va4) by rw [hwb]; go_simp)
          have y1 := cell_regrown (show wb.cell? ⟨w7.heap.size, 1, none⟩ = some (.int .i64 vb4) by rw [hwb]; go_simp)
          have y2 := cell_regrown (show wb.cell? ⟨w7.heap.size, 2, none⟩ = some (.int .i64 vc4) by rw [hwb]; go_simp)
          have y3 := cell_regrown (show wb.cell? ⟨w7.heap.size, 3, none⟩ = some (.int .i64 vd4) by rw [hwb]; go_simp)
          have hz7 := hb7.size
          have t0 := cell_regrown ((n7.cell (p := ⟨gn, on + p * 2, none⟩) (by show gn < w7.heap.size; omega)).trans f0)
          have t1 := cell_regrown ((n7.cell (p := ⟨gn, on + p * 2 + 1, none⟩) (by show gn < w7.heap.size; omega)).trans f1)
          have t2 := cell_regrown ((n7.cell (p := ⟨nb, no, none⟩) (by show nb < w7.heap.size; omega)).trans f2)
          have HB7 := Lib.hid ((HB2.out.trans (hb7.mono HB2.out.size)).trans (n7.mono (Nat.le_trans HB2.out.size hz7)))
          clear hb7 d0 d1 q0 f0 f1 f2 hb2
          go_upto_region 22 with fail
          rw [← hwb]
          clear hwb n7
          go_wp2_with fail
          refine wp_region_quiet_below (by kernel_rfl) (by kernel_rfl) ?_
          repeat (any_goals (first | go_big_quiet_step ((go_at_call 42; exact Calls.regrown_of (KR.out _))) | quiet_step ((go_at_call 42; exact Calls.regrown_of (KR.out _)))))
          refine wpQuiet_nil ?_
          intro W2 hw
          have nn := quiet_end hw
          have HP := Lib.hid (HB7.out.trans (nn.mono HB7.out.size))
          clear hw t0 t1 t2 y0 y1 y2 y3 nn
          go_wp2_with fail
          go_roundw
          case rel => exact ⟨p + 1, by omega, by go_num, HP.out⟩
          case measure => simp [intOf]; omega
        · obtain rfl : p = T.length := by omega
          have G6 := Lib.hid (GR.out.stepAt hb2)
          clear hb2
          go_wp2_with fail
          refine (KW.out _ (H.out.stepAt mx) (HN.out.stepAt mx)).mono ?_
          rintro e w8 ⟨v8, rfl, ib8, hb8⟩
          obtain ⟨ia, ic, rfl, hx⟩ := id ib8
          have IN8 := Lib.hid ib8.at
          have m8 := mx.trans (hb8.mono mx.size)
          have G8 := Lib.hid (G6.out.stepAt hb8)
          have KL : Hid (∀ V x, x ∈ N → InAt V V.heap.size (.slice ia N.length ic) N → Calls Try.prog 35 #[.slice ia N.length ic, .int .i64 x] V fun e w' => e = .returned (.bool true) ∧ Below V.heap.size V w') := Lib.hid fun V x hx g => by
            have := Its.hasInt_any _ N x V (by omega) g
            rwa [decide_eq_true hx] at this
          clear hx ib8 hb8
          go_wp2_with fail
          go_loopw [17] (fun i wy => ∃ q : Nat, q ≤ G.length ∧ i = .int .i64 (q : Int) ∧ Below w8.heap.size w8 wy) (fun i _ => G.length - (intOf i).toNat)
          case atStart => exact ⟨0, Nat.zero_le _, rfl, Below.refl _ _⟩
          case round =>
            rename World => wy
            obtain ⟨q, hq, rfl, hb9⟩ := hrel
            have m9 := m8.trans (hb9.mono m8.size)
            by_cases hql : q < G.length
            · obtain ⟨x, a', b', c', d', hxy⟩ : ∃ x a b c d, G[q] = (x, a, b, c, d) := ⟨_, _, _, _, _, rfl⟩
              have hmem : (x, a', b', c', d') ∈ G := by rw [← hxy]; exact List.getElem_mem hql
              obtain ⟨m, hmS, hsat, hin, _⟩ := HPT.out _ hmem
              simp only at hsat
              obtain ⟨pb, po, hga, hpB, hpc⟩ : ∃ b o, ga = some ⟨b, o, none⟩ ∧ b < w8.heap.size ∧ ∀ i (h : i < G.length), PkC w8 b (o + i * 5) G[i] := by
                obtain ⟨a', c', e, hh⟩ := G8.out
                simp only [Value.slice.injEq] at e
                obtain ⟨rfl, _, _⟩ := e
                rcases hh with hh | hh
                · rw [hh] at hql; simp at hql
                · exact hh
              subst hga
              obtain ⟨e0, e1, e2, e3, e4⟩ := (hpc q hql).below hb9 hpB
              rw [hxy] at e0 e1 e2 e3 e4
              simp only at e0 e1 e2 e3 e4
              have KA1 : Hid (∀ V, RlAt V V.heap.size (.slice sa S.length caps) S → Calls Try.prog 40 #[.slice sa S.length caps, .int .i64 x, ver a' b' c' d'] V fun e w' => e = .returned (.int .i64 (m : Int)) ∧ Below V.heap.size V w') := Lib.hid fun V g => by have := KA.out V x a' b' c' d' g; rwa [hsat] at this
              have HIN := Lib.hid hin
              have HR := Lib.hid (H.out.stepAt m9)
              have HI9 := Lib.hid (Its.stepAt IN8.out hb9)
              have t0 := cell_regrown e0
              have t1 := cell_regrown e1
              have t2 := cell_regrown e2
              have t3 := cell_regrown e3
              have t4 := cell_regrown e4
              have j0 : (0 : Int) ≤ (q : Int) := by omega
              have j1 : (q : Int) < (G.length : Int) := by omega
              have HB9 := Lib.hid hb9
              clear hxy hmem hsat hin hpc e0 e1 e2 e3 e4 hb9
              go_wp2_with fail
              refine wp_region_quiet_below (by kernel_rfl) (by kernel_rfl) ?_
              repeat (any_goals (first | go_big_quiet_step ((first | (go_at_call 40; exact Calls.regrown_of (KA1.out _ (HR.out.stepAt (below_regrown _ _ _)))) | (go_at_call 35; exact Calls.regrown_of (KL.out _ _ HIN.out (Its.stepAt HI9.out (below_regrown _ _ _)))))) | quiet_step ((first | (go_at_call 40; exact Calls.regrown_of (KA1.out _ (HR.out.stepAt (below_regrown _ _ _)))) | (go_at_call 35; exact Calls.regrown_of (KL.out _ _ HIN.out (Its.stepAt HI9.out (below_regrown _ _ _))))))))
              refine wpQuiet_nil ?_
              intro W2 hw
              have nn := quiet_end hw
              have HP := Lib.hid (HB9.out.trans (nn.mono HB9.out.size))
              clear hw t0 t1 t2 t3 t4 nn
              go_wp2_with fail
              go_roundw
              case rel => exact ⟨q + 1, by omega, by go_num, HP.out⟩
              case measure => simp [intOf]; omega
            · obtain rfl : q = G.length := by omega
              have G9 := Lib.hid (G8.out.stepAt hb9)
              clear hb9
              go_wp2_with fail
              refine (KO.out _ _ G9.out).mono ?_
              rintro e w10 ⟨rfl, hb10⟩
              have m10 := m9.trans (hb10.mono m9.size)
              clear hb10
              go_wp2_with fail
              refine (KV.out _).mono ?_
              rintro e w11 ⟨rfl, hb11⟩
              have m11 := m10.trans (hb11.mono m10.size)
              clear hb11
              go_wp2_with fail
              go_ret
              exact ⟨rfl, b1.trans (m11.mono b1.size)⟩

set_option maxRecDepth 100000 in
set_option maxHeartbeats 1000000 in
theorem ls_long (a : Option Addr) (len cap : Nat) (w : World) (hl : 1048576 < len) :
    Calls Try.prog 7 #[.slice a len cap] w fun e w' => e = .returned (.bool true) ∧ Below w.heap.size w w' := by
  go_enter Try.func7, Try.ntmps7
  go_wp2
  go_ret
  exact ⟨rfl, Below.refl _ _⟩

theorem ls_walk (a : Option Addr) (len cap : Nat) (w : World) (h : CodeIn w a len cap) :
    Calls Try.prog 7 #[.slice a len cap] w fun e w' => e = .returned (.bool true) ∧ Below w.heap.size w w' := by
  by_cases hl : len ≤ 1048576
  · exact ls_short a len cap w h hl
  · exact ls_long a len cap w (by omega)
end Ple

set_option maxRecDepth 100000 in
theorem leastP_holds : Rows.FnLeastSaid :=
  OpenClaim.holds_of_wide 7 Try.f7 rfl rfl rfl rfl rfl rfl rfl ⟨rfl, rfl, rfl, rfl, rfl⟩ rfl rfl rfl rfl rfl (by kernel_rfl) Try.func7 (by kernel_rfl)
    (of_decide_eq_true (by kernel_rfl)) (by unfold Func.isWrapper; rw [if_neg (by decide +kernel)]; exact ⟨rfl, rfl⟩)
    (fun os started H enc _ => law_lifted (s := Rows.fnLeastSpec) (tb := 4) own started laid (by kernel_rfl) Try.func7 rfl (by kernel_rfl) Try.underlying4 (by kernel_rfl)
      (fun ds h => by rw [Try.params7] at h; match ds, h with | [_], _ => rfl)
      (ChangeSpec.witness6 (enc := enc) (C := Try.checked) false ⟨#[], #[.slice none 0 0], []⟩ 8 (by kernel_rfl) (by kernel_rfl) (by kernel_rfl) (by kernel_rfl))
      (law_code Try.params7 Ple.ls_walk))
#print axioms leastP_holds

end Go.Proofs.Ytgnjhmmedogcoaa

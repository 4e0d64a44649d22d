/- The contract of the model's Least, over this seat's translation: the newest version of each name of what comes up, as the plain functions leL and lvB tell it; nothing that was there before the call has changed. Condition: at most 1048576 releases, needs, needs of each release, and spans of those. -/
import Derived.Test.YtgnjhmmedogcoaaLsx
namespace Go.Proofs.Ytgnjhmmedogcoaa
open Go.RowKit Go.Sort

namespace Lst
open Nup Foot Copy Cpu
/-- What is picked behind k releases: all but the last one stand. -/
def Pushed (R : List Rel) (k : Nat) (G : List Pk) : Prop := (k = 0 ∧ G = []) ∨ ∃ k' x G0, k = k' + 1 ∧ R[k']? = some x ∧ G = G0 ++ [pkR x] ∧ lastOf R = G0 ++ lastOf (R.drop k')
theorem Pushed.first {R : List Rel} {y : Rel} (hy : R[0]? = some y) : Pushed R 1 ([] ++ [pkR y]) := .inr ⟨0, y, [], rfl, hy, rfl, rfl⟩
theorem Pushed.same {R : List Rel} {k : Nat} {x y : Rel} {G0 : List Pk} (hx : R[k]? = some x) (hy : R[k + 1]? = some y) (he : lastOf R = G0 ++ lastOf (R.drop k)) (hn : y.1 = x.1) : Pushed R (k + 2) (G0 ++ [pkR y]) :=
  .inr ⟨k + 1, y, G0, rfl, hy, rfl, by rw [he, lastOf_next hx hy, if_pos hn]; rfl⟩
theorem Pushed.other {R : List Rel} {k : Nat} {x y : Rel} {G0 : List Pk} (hx : R[k]? = some x) (hy : R[k + 1]? = some y) (he : lastOf R = G0 ++ lastOf (R.drop k)) (hn : ¬ y.1 = x.1) : Pushed R (k + 2) ((G0 ++ [pkR x]) ++ [pkR y]) :=
  .inr ⟨k + 1, y, G0 ++ [pkR x], rfl, hy, rfl, by rw [he, lastOf_next hx hy, if_neg hn, List.append_assoc]⟩
theorem Pushed.done {R : List Rel} {G : List Pk} (h : Pushed R R.length G) : lastOf R = G := by
  rcases h with ⟨h1, rfl⟩ | ⟨k, x, G0, h1, h2, rfl, h3⟩
  · rw [List.eq_nil_of_length_eq_zero h1]; rfl
  · rw [h3, lastOf_end h2 h1.symm, List.drop_of_length_le (by omega)]
    simp [lastOf]
def LyRel (R : List Rel) (w3 : World) (v i : Value) (wr : World) : Prop :=
  ∃ (k : Nat) (G : List Pk), k ≤ R.length ∧ i = .int .i64 (k : Int) ∧ Pushed R k G ∧ G.length ≤ k ∧ KOwn wr w3.heap.size v G ∧ Below w3.heap.size w3 wr
theorem kown_pop {w : World} {base g cap : Nat} {L : List Pk} {q : Pk} (h : KOwn w base (.slice (some ⟨g, 0, none⟩) (L.length + 1) cap) (L ++ [q])) : KOwn w base (.slice (some ⟨g, 0, none⟩) L.length cap) L := by
  have h' : w.ownsRow base 68 5 (.slice (some ⟨g, 0, none⟩) (L.length + 1) cap) (L.length + 1) (pcl L ++ pcl [q]) := by
    have h1 : w.ownsRow base 68 5 (.slice (some ⟨g, 0, none⟩) (L.length + 1) cap) (L ++ [q]).length (pcl (L ++ [q])) := h
    rw [pcl_app, List.length_append] at h1
    exact h1
  exact ownsRow_pop (pcl_len L) h'

set_option maxRecDepth 100000 in
set_option maxHeartbeats 8000000 in
theorem specLeast_any (v u : Value) (S : List Rel) (N : List Nd) (w : World) (hl : S.length ≤ 1048576) (hq : ∀ q ∈ S, q.2.2.2.length ≤ 1048576 ∧ ∀ p ∈ q.2.2.2, p.2.length ≤ 1048576) (hN : N.length ≤ 1048576) (hNq : ∀ q ∈ N, q.2.length ≤ 1048576) (h : RlAt w w.heap.size v S) (h' : NdAt w w.heap.size u N) :
    Calls Try.prog 23 #[v, u] w (LePost S N w) := by
  obtain ⟨i0, hi, hz0, hz1, hz2⟩ := info_parts infoPick
  obtain ⟨sa, caps, rfl, h0⟩ := id h
  obtain ⟨na, ncap, rfl, hy⟩ := id h'
  clear hy
  have KV := Lib.hid (specLeastVisit_any _ _ S N w hl hq hN hNq h h')
  have HX := Lib.hid h0
  clear h h' h0
  unfold LvPost at KV
  obtain ⟨P, hP⟩ : ∃ P, lvL S N = P := ⟨_, rfl⟩
  have HPL := Lib.hid (lv_places (S := S) (N := N))
  have hPl : P.length ≤ 30 := by rw [← hP]; exact lvL_small
  have HLE := Lib.hid (show leL S N = lastOf (relsAt S P) by unfold leL; rw [hP])
  rw [hP] at KV HPL
  clear hP
  obtain ⟨R, hR⟩ : ∃ R, relsAt S P = R := ⟨_, rfl⟩
  have HR := Lib.hid (relsAt_at P HPL.out)
  rw [hR] at HLE HR
  clear hR
  have hRl := HR.out.1
  obtain ⟨bf, hbf⟩ : ∃ bf, lvB S N = bf := ⟨_, rfl⟩
  have HBF := Lib.hid hbf
  rw [hbf] at KV
  clear hbf
  go_enter Try.func23, Try.ntmps23
  go_wp2_with fail
  refine KV.out.mono ?_
  rintro e w3 ⟨v3, rfl, ib3, b3⟩
  obtain ⟨pa, pc, rfl, hx⟩ := id ib3
  have HPN := Lib.hid ib3.at
  have z3 := b3.size
  have hstart : KOwn (w3.alloc (.cells #[] 68)) w3.heap.size (.slice (some ⟨w3.heap.size, 0, none⟩) 0 0) [] := World.ownsRow_made (base := w3.heap.size) (e := 68) (size := 5) w3 #[] 0 (Nat.le_refl _) (by unfold maxLen; omega) rfl
  have HS0 := Lib.hid (show LyRel R w3 (.slice (some ⟨w3.heap.size, 0, none⟩) 0 0) (.int .i64 0) (w3.alloc (.cells #[] 68)) from ⟨0, [], Nat.zero_le _, rfl, .inl ⟨rfl, rfl⟩, Nat.le_refl _, hstart, (Below.refl _ _).alloc (Nat.le_refl _) _⟩)
  clear hx ib3 hstart
  go_wp2_with fail
  go_loopw [8, 9] (fun v i wr => LyRel R w3 v i wr) (fun _ i _ => P.length - (intOf i).toNat)
  case atStart => exact HS0.out
  case round =>
    obtain ⟨k, G, hk, rfl, hpush, hGl, hown, hb⟩ := hrel
    have zb := hb.size
    have bw : Below w.heap.size w wr := b3.trans (hb.mono z3)
    by_cases hlt : k < P.length
    · obtain ⟨pb, po, hpa, hpB, hpc⟩ : ∃ b o, pa = some ⟨b, o, none⟩ ∧ b < w3.heap.size ∧ ∀ i (h : i < P.length), w3.cell? ⟨b, o + i, none⟩ = some (.int .i64 P[i]) := by
        obtain ⟨a', c', e', hh⟩ := HPN.out
        simp only [Value.slice.injEq] at e'
        obtain ⟨rfl, _, _⟩ := e'
        rcases hh with hh | hh
        · rw [hh] at hlt; simp at hlt
        · exact hh
      subst hpa
      obtain ⟨m, hm, hmS⟩ := HPL.out _ (List.getElem_mem hlt)
      have c0 := (hb.cell (p := ⟨pb, po + k, none⟩) hpB).trans (hpc k hlt)
      rw [hm] at c0
      obtain ⟨b, o, hsa, hB, hc⟩ : ∃ b o, sa = some ⟨b, o, none⟩ ∧ b < w.heap.size ∧ ∀ i (h : i < S.length), RlC w w.heap.size b (o + i * 7) S[i] := by
        rcases HX.out with hh | hh
        · rw [hh] at hmS; simp at hmS
        · exact hh
      subst hsa
      obtain ⟨x, a1, b1, c1, d1, f1, M1, hxy⟩ : ∃ x a b c d f M, S[m] = (x, (a, b, c, d), f, M) := ⟨_, _, _, _, _, _, _, rfl⟩
      have HXR := Lib.hid (show R[k]? = some (x, (a1, b1, c1, d1), f1, M1) by
        have := HR.out.2 k m (by rw [List.getElem?_eq_getElem hlt, hm])
        rw [this, List.getElem?_eq_getElem hmS, hxy])
      obtain ⟨⟨e0, e1, e2, e3, e4, e5⟩, ad, cap, e6, hs6⟩ := (hc m hmS).below bw hB
      rw [hxy] at e0 e1 e2 e3 e4 e5 e6
      simp only at e0 e1 e2 e3 e4 e5 e6
      have i1 : (0 : Int) ≤ (k : Int) := by omega
      have i2 : (k : Int) < (P.length : Int) := by omega
      have i3 : (0 : Int) ≤ (m : Int) := by omega
      have i4 : (m : Int) < (S.length : Int) := by omega
      have hkR : k < R.length := by omega
      obtain ⟨wb, hwb⟩ : ∃ V : World, V = wr.alloc (.cells #[.int .i64 x, .int .i64 a1, .int .i64 b1, .int .i64 c1, .int .i64 d1, .bool f1, .slice ad M1.length cap] 63) := ⟨_, rfl⟩
      have nb : Below wr.heap.size wr wb := by rw [hwb]; exact (Below.refl _ _).alloc (Nat.le_refl _) _
      have hzb : wr.heap.size + 1 ≤ wb.heap.size := by rw [hwb]; simp
      have y0 : wb.cell? ⟨wr.heap.size, 0, none⟩ = some (.int .i64 x) := by rw [hwb]; go_simp
      have y1 : wb.cell? ⟨wr.heap.size, 1, none⟩ = some (.int .i64 a1) := by rw [hwb]; go_simp
      have y2 : wb.cell? ⟨wr.heap.size, 2, none⟩ = some (.int .i64 b1) := by rw [hwb]; go_simp
      have y3 : wb.cell? ⟨wr.heap.size, 3, none⟩ = some (.int .i64 c1) := by rw [hwb]; go_simp
      have y4 : wb.cell? ⟨wr.heap.size, 4, none⟩ = some (.int .i64 d1) := by rw [hwb]; go_simp
      have y5 : wb.cell? ⟨wr.heap.size, 5, none⟩ = some (.bool f1) := by rw [hwb]; go_simp
      have y6 : wb.cell? ⟨wr.heap.size, 6, none⟩ = some (.slice ad M1.length cap) := by rw [hwb]; go_simp
      have bwb : Below w3.heap.size w3 wb := hb.trans (nb.mono zb)
      have HNX : Hid (∀ (G' : List Pk) (v' : Value) (w5 : World), Pushed R (k + 1) G' → G'.length ≤ k + 1 → KOwn w5 w3.heap.size v' G' → Below w3.heap.size w3 w5 → LyRel R w3 v' (.int .i64 ((k : Int) + 1)) w5) :=
        Lib.hid fun G' v' w5 h1 h2 h3 h4 => ⟨k + 1, G', by omega, by go_num, h1, h2, h3, h4⟩
      have HO := Lib.hid (KOwn.below hown nb)
      have HOr := Lib.hid hown
      clear hm hxy hc hpc hs6
      obtain ⟨va, vc, hv, hpb⟩ := id (KOwn.pb hown)
      subst hv
      rcases hpush with ⟨hk0, hG0⟩ | ⟨k', xq, G0, hk0, hxq, hG0, he⟩
      · subst hG0
        have HK0 := Lib.hid hk0
        clear hk0 hpb hown
        simp only [List.length_nil]
        have t0 := cell_regrown y0
        have HPU := Lib.hid (show Pushed R (k + 1) ([] ++ [pkR (x, (a1, b1, c1, d1), f1, M1)]) by have := HXR.out; rw [HK0.out] at this ⊢; exact Pushed.first this)
        go_upto_region 7 with fail
        rw [← hwb]
        clear hwb hb bw e0 e1 e2 e3 e4 e5 e6 nb
        go_wp2_with fail
        refine wp_region_quiet_below (by kernel_rfl) (by kernel_rfl) ?_
        repeat (any_goals (first | go_big_quiet_step (fail) | quiet_step (fail)))
        refine wpQuiet_nil ?_
        intro W2 hw
        have nn := quiet_end hw
        clear hw
        clear t0
        have g0 := (nn.cell (p := ⟨wr.heap.size, 0, none⟩) (by show wr.heap.size < wb.heap.size; omega)).trans y0
        have g1 := (nn.cell (p := ⟨wr.heap.size, 1, none⟩) (by show wr.heap.size < wb.heap.size; omega)).trans y1
        have g2 := (nn.cell (p := ⟨wr.heap.size, 2, none⟩) (by show wr.heap.size < wb.heap.size; omega)).trans y2
        have g3 := (nn.cell (p := ⟨wr.heap.size, 3, none⟩) (by show wr.heap.size < wb.heap.size; omega)).trans y3
        have g4 := (nn.cell (p := ⟨wr.heap.size, 4, none⟩) (by show wr.heap.size < wb.heap.size; omega)).trans y4
        have b4 := bwb.trans (nn.mono bwb.size)
        have z4 := b4.size
        have HOW := Lib.hid (KOwn.below HO.out nn)
        clear nn y0 y1 y2 y3 y4 y5 y6
        go_wp2_with (at_builtin; refine wpList_append_own _ rfl _ _ 40 rfl w3.heap.size 68 i0 (.agg #[.int .i64 0, .int .i64 0, .int .i64 0, .int .i64 0, .int .i64 0]) 5 40 Try.underlying40 hi hz0 hz1 hz2 rfl (by decide) _ 0 _ rfl (World.ownsRow.alloc HOW.out (.cells #[.int .i64 x, .int .i64 a1, .int .i64 b1, .int .i64 c1, .int .i64 d1] 68)) ⟨W2.heap.size, 0, none⟩ 1 1 [.int .i64 x, .int .i64 a1, .int .i64 b1, .int .i64 c1, .int .i64 d1] rfl rfl (pick_new W2 x a1 b1 c1 d1) (pick_one _ _ _ _ _) (by unfold maxLen; omega) (by omega) (by simp; omega) ?_)
        intro v' w5 hown' hgrow hnn
        have HR := Lib.hid (HNX.out _ v' w5 HPU.out (by simp) (KOwn.push (by simpa using hown')) ((b4.alloc z4 (.cells #[.int .i64 x, .int .i64 a1, .int .i64 b1, .int .i64 c1, .int .i64 d1] 68)).grown hgrow (by simp; omega) fun k' e => (World.ownsRow.lt HOW.out k' e).1))
        clear hown' hgrow hnn
        go_wp2_with fail
        go_roundw
        case rel => first | exact HR.out | simpa using HR.out
        case measure => simp [intOf]; omega
      · obtain ⟨n, hn⟩ : ∃ n, n = G0.length := ⟨_, rfl⟩
        obtain ⟨l, hl⟩ : ∃ l, l = G.length := ⟨_, rfl⟩
        have hln : l = n + 1 := by rw [hl, hG0, hn]; simp
        rcases hpb with hpb | ⟨g, cc, rfl, hblk, hg1, hg2⟩
        · rw [hpb] at hl; simp at hl; omega
        obtain ⟨xn, hxn⟩ : ∃ xn, xq.1 = xn := ⟨_, rfl⟩
        have hcap : l ≤ vc := by
          rw [hl]
          rcases hown.2 with ⟨hh, _⟩ | ⟨g', cap', cur, hh, _, _, hnc, _⟩
          · cases hh
          · simp only [Value.slice.injEq] at hh
            obtain ⟨_, _, rfl⟩ := hh
            exact hnc
        have hlt2 : n < G.length := by omega
        have f0 : wr.cell? ⟨g, n * 5, none⟩ = some (.int .i64 xn) := by
          rw [World.ownsRow.cellAt hown (n * 5) (by omega), (pcl_at G n hlt2).1]
          have : G[n] = pkR xq := by
            have h1 : G[n]? = some (pkR xq) := by rw [hG0, hn]; simp
            rw [List.getElem?_eq_getElem hlt2] at h1
            exact Option.some.inj h1
          rw [this]
          show some (Value.int .i64 xq.1) = _
          rw [hxn]
        have hgw : g < wr.heap.size := hg2
        have HG0 := Lib.hid hG0
        have HN := Lib.hid (show n = G0.length ∧ l = G.length from ⟨hn, hl⟩)
        have HKK := Lib.hid (show k = k' + 1 ∧ R[k']? = some xq ∧ lastOf R = G0 ++ lastOf (R.drop k') ∧ xq.1 = xn from ⟨hk0, hxq, he, hxn⟩)
        have HXR' := Lib.hid (show R[k' + 1]? = some (x, (a1, b1, c1, d1), f1, M1) by rw [← hk0]; exact HXR.out)
        have hlw : IntKind.i64.wrap ((l : Int) - 1) = (n : Int) := (IntWalk.i64_in _ (by omega)).trans (by omega)
        have j1 : (0 : Int) < (l : Int) := by omega
        have j5 : decide (0 < l) = true := decide_eq_true (by omega)
        have j6 : 0 < l := by omega
        have j2 : (0 : Int) ≤ (n : Int) := by omega
        have j3 : (n : Int) < (l : Int) := by omega
        have j4 : (n : Int) ≤ (vc : Int) := by omega
        have hlk : l ≤ k := by omega
        have HLN := Lib.hid hln
        rw [← hl]
        have t0 := cell_regrown y0
        have t1 := cell_regrown ((nb.cell (p := ⟨g, n * 5, none⟩) hgw).trans f0)
        clear hblk hg1 hg2 hG0 hln hn hl hk0 hxq he hxn hown hlt2
        by_cases hnm : x = xn
        · have HPU := Lib.hid (show Pushed R (k + 1) (G0 ++ [pkR (x, (a1, b1, c1, d1), f1, M1)]) by rw [HKK.out.1]; exact Pushed.same HKK.out.2.1 HXR'.out HKK.out.2.2.1 (by rw [HKK.out.2.2.2]; exact hnm))
          have hz : (xn == x) = true := by simp [hnm]
          clear hnm
          go_upto_region 7 with fail
          rw [← hwb]
          clear hwb hb bw e0 e1 e2 e3 e4 e5 e6 nb
          go_wp2_with fail
          refine wp_region_quiet_below (by kernel_rfl) (by kernel_rfl) ?_
          repeat (any_goals (first | go_big_quiet_step (fail) | quiet_step (fail)))
          refine wpQuiet_nil ?_
          intro W2 hw
          have nn := quiet_end hw
          clear hw
          clear t0 t1 f0
          have g0 := (nn.cell (p := ⟨wr.heap.size, 0, none⟩) (by show wr.heap.size < wb.heap.size; omega)).trans y0
          have g1 := (nn.cell (p := ⟨wr.heap.size, 1, none⟩) (by show wr.heap.size < wb.heap.size; omega)).trans y1
          have g2 := (nn.cell (p := ⟨wr.heap.size, 2, none⟩) (by show wr.heap.size < wb.heap.size; omega)).trans y2
          have g3 := (nn.cell (p := ⟨wr.heap.size, 3, none⟩) (by show wr.heap.size < wb.heap.size; omega)).trans y3
          have g4 := (nn.cell (p := ⟨wr.heap.size, 4, none⟩) (by show wr.heap.size < wb.heap.size; omega)).trans y4
          have b4 := bwb.trans (nn.mono bwb.size)
          have z4 := b4.size
          have HOW := Lib.hid (show W2.ownsRow w3.heap.size 68 5 (.slice (some ⟨g, 0, none⟩) n vc) n (pcl G0) by have h1 := KOwn.below HO.out nn; rw [HG0.out] at h1; have h2 := kown_pop (by simpa using h1); rw [HN.out.1]; exact h2)
          clear nn y0 y1 y2 y3 y4 y5 y6
          go_wp2_with (at_builtin; refine wpList_append_own _ rfl _ _ 40 rfl w3.heap.size 68 i0 (.agg #[.int .i64 0, .int .i64 0, .int .i64 0, .int .i64 0, .int .i64 0]) 5 40 Try.underlying40 hi hz0 hz1 hz2 rfl (by decide) _ n _ rfl (World.ownsRow.alloc HOW.out (.cells #[.int .i64 x, .int .i64 a1, .int .i64 b1, .int .i64 c1, .int .i64 d1] 68)) ⟨W2.heap.size, 0, none⟩ 1 1 [.int .i64 x, .int .i64 a1, .int .i64 b1, .int .i64 c1, .int .i64 d1] rfl rfl (pick_new W2 x a1 b1 c1 d1) (pick_one _ _ _ _ _) (by unfold maxLen; omega) (by omega) (by simp; omega) ?_)
          intro v' w5 hown' hgrow hnn
          have HR := Lib.hid (HNX.out _ v' w5 HPU.out (by rw [List.length_append, ← HN.out.1]; have := HLN.out; simp; omega) (KOwn.push (by rw [← HN.out.1]; exact hown')) ((b4.alloc z4 (.cells #[.int .i64 x, .int .i64 a1, .int .i64 b1, .int .i64 c1, .int .i64 d1] 68)).grown hgrow (by simp; omega) fun k' e => (World.ownsRow.lt HOW.out k' e).1))
          clear hown' hgrow hnn
          go_wp2_with fail
          go_roundw
          case rel => first | exact HR.out | simpa using HR.out
          case measure => simp [intOf]; omega
        · have HPU := Lib.hid (show Pushed R (k + 1) (G ++ [pkR (x, (a1, b1, c1, d1), f1, M1)]) by rw [HKK.out.1, HG0.out]; exact Pushed.other HKK.out.2.1 HXR'.out HKK.out.2.2.1 (by rw [HKK.out.2.2.2]; exact hnm))
          have hz : (xn == x) = false := by rw [beq_eq_false_iff_ne]; exact fun e => hnm e.symm
          clear hnm
          go_upto_region 7 with fail
          rw [← hwb]
          clear hwb hb bw e0 e1 e2 e3 e4 e5 e6 nb
          go_wp2_with fail
          refine wp_region_quiet_below (by kernel_rfl) (by kernel_rfl) ?_
          repeat (any_goals (first | go_big_quiet_step (fail) | quiet_step (fail)))
          refine wpQuiet_nil ?_
          intro W2 hw
          have nn := quiet_end hw
          clear hw
          clear t0 t1 f0
          have g0 := (nn.cell (p := ⟨wr.heap.size, 0, none⟩) (by show wr.heap.size < wb.heap.size; omega)).trans y0
          have g1 := (nn.cell (p := ⟨wr.heap.size, 1, none⟩) (by show wr.heap.size < wb.heap.size; omega)).trans y1
          have g2 := (nn.cell (p := ⟨wr.heap.size, 2, none⟩) (by show wr.heap.size < wb.heap.size; omega)).trans y2
          have g3 := (nn.cell (p := ⟨wr.heap.size, 3, none⟩) (by show wr.heap.size < wb.heap.size; omega)).trans y3
          have g4 := (nn.cell (p := ⟨wr.heap.size, 4, none⟩) (by show wr.heap.size < wb.heap.size; omega)).trans y4
          have b4 := bwb.trans (nn.mono bwb.size)
          have z4 := b4.size
          have HOW := Lib.hid (show W2.ownsRow w3.heap.size 68 5 (.slice (some ⟨g, 0, none⟩) l vc) l (pcl G) by have h1 := KOwn.below HO.out nn; rw [HN.out.2]; exact h1)
          clear nn y0 y1 y2 y3 y4 y5 y6
          go_wp2_with (at_builtin; refine wpList_append_own _ rfl _ _ 40 rfl w3.heap.size 68 i0 (.agg #[.int .i64 0, .int .i64 0, .int .i64 0, .int .i64 0, .int .i64 0]) 5 40 Try.underlying40 hi hz0 hz1 hz2 rfl (by decide) _ l _ rfl (World.ownsRow.alloc HOW.out (.cells #[.int .i64 x, .int .i64 a1, .int .i64 b1, .int .i64 c1, .int .i64 d1] 68)) ⟨W2.heap.size, 0, none⟩ 1 1 [.int .i64 x, .int .i64 a1, .int .i64 b1, .int .i64 c1, .int .i64 d1] rfl rfl (pick_new W2 x a1 b1 c1 d1) (pick_one _ _ _ _ _) (by unfold maxLen; omega) (by omega) (by simp; omega) ?_)
          intro v' w5 hown' hgrow hnn
          have HR := Lib.hid (HNX.out _ v' w5 HPU.out (by rw [List.length_append, ← HN.out.2]; simp; omega) (KOwn.push (by rw [← HN.out.2]; exact hown')) ((b4.alloc z4 (.cells #[.int .i64 x, .int .i64 a1, .int .i64 b1, .int .i64 c1, .int .i64 d1] 68)).grown hgrow (by simp; omega) fun k' e => (World.ownsRow.lt HOW.out k' e).1))
          clear hown' hgrow hnn
          go_wp2_with fail
          go_roundw
          case rel => first | exact HR.out | simpa using HR.out
          case measure => simp [intOf]; omega
    · obtain rfl : k = P.length := by omega
      have HQ := Lib.hid (show leL S N = G by rw [HLE.out]; exact Pushed.done (by rw [hRl]; exact hpush))
      have HOr := Lib.hid hown
      obtain ⟨va, vc, hv, hpb⟩ := id (KOwn.pb hown)
      subst hv
      clear hpb hown hpush
      go_wp2_with fail
      refine bodyPost_ret (v := .tuple #[.slice va G.length vc, .bool bf]) (by simp [results, Try.results23, go_sem]) rfl ?_
      exact ⟨_, by rw [HBF.out], by rw [HQ.out]; exact (KOwn.pb HOr.out).mono z3, b3.trans (hb.mono z3)⟩
end Lst
end Go.Proofs.Ytgnjhmmedogcoaa

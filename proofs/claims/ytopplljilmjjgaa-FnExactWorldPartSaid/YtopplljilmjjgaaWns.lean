/- The contract of the model's WorldNeeds, over this seat's translation: it answers what needsL tells, in a row of its own; nothing that was there before the call has changed. Condition: at most 1048576 targets, lines, numbers and bytes of each. -/
import Derived.Test.YtopplljilmjjgaaWni
import Derived.Test.YtopplljilmjjgaaWos
import Derived.Test.YtopplljilmjjgaaDrm
namespace Go.Proofs.Ytopplljilmjjgaa
open Go.RowKit Go.Sort

namespace Wn
open Tg Wl Pot Rx Drm
theorem mark_true : ∀ {N : List Int} {c : List Bool} {j : Nat}, c.getD j true = true → (mark c N).getD j true = true
  | [], _, _, h => h
  | n :: t, c, j, h => mark_true (N := t) (c := c.set n.toNat true) (by rw [getD_set]; split <;> first | rfl | exact h)

set_option maxRecDepth 100000 in
set_option maxHeartbeats 8000000 in
theorem specNeeds_any (v : Value) (S : List Tgt) (k : Int) (w : World) (hl : S.length ≤ 1048576) (hq : ∀ q ∈ S, Par q) (h : TgAt w w.heap.size v S) :
    Calls Try.prog 105 #[v, .int .i64 k] w (WnPost S k w) := by
  obtain ⟨i0, hi, hz0, hz1, hz2⟩ := info_parts infoInt
  have b0 : Below w.heap.size w (w.alloc (.cells #[] 3)) := (Below.refl _ _).alloc (Nat.le_refl _) _
  have KW := Lib.hid (specWorldOk_any v S (w.alloc (.cells #[] 3)) hl hq (h.stepAt b0))
  have HOW := Lib.hid (show (w.alloc (.cells #[] 3)).ownsRow w.heap.size 3 1 (.slice (some ⟨w.heap.size, 0, none⟩) 0 0) 0 [] from row_made (Nat.le_refl _))
  have HB0 := Lib.hid b0
  have KI := Lib.hid fun V => l1In_any k 0 ((S.length : Int) - 1) V
  obtain ⟨a, cap, rfl, x⟩ := id h
  have HH := Lib.hid x
  clear x h hq b0
  rcases hw : wOk S
  · have HE := Lib.hid (show needsL S k = [] from needsL_no (fun e => by rw [hw] at e; exact absurd e.1 (by decide)))
    rw [hw] at KW
    go_enter Try.func105, Try.ntmps105
    go_wp2_with fail
    refine KW.out.mono ?_
    rintro e w1 ⟨rfl, hb⟩
    have b1 := HB0.out.trans (hb.mono HB0.out.size)
    clear hb
    go_wp2_with fail
    go_ret
    exact ⟨_, rfl, by rw [HE.out]; exact ib_no _ _ _ _ _, b1⟩
  rw [hw] at KW
  by_cases g0 : 0 ≤ k ∧ k ≤ (S.length : Int) - 1
  rotate_left
  · have HE := Lib.hid (show needsL S k = [] from needsL_no (by omega))
    rw [inB_no g0] at KI
    go_enter Try.func105, Try.ntmps105
    go_wp2_with fail
    refine KW.out.mono ?_
    rintro e w1 ⟨rfl, hb⟩
    have b1 := HB0.out.trans (hb.mono HB0.out.size)
    clear hb
    go_wp2_with (go_at_call 122; refine (KI.out _).mono ?_; rintro e w2 ⟨rfl, rfl⟩)
    go_ret
    exact ⟨_, rfl, by rw [HE.out]; exact ib_no _ _ _ _ _, b1⟩
  rw [inB_yes g0] at KI
  obtain ⟨n, rfl⟩ : ∃ n : Nat, k = (n : Int) := ⟨k.toNat, by omega⟩
  have hn : n < S.length := by omega
  have HE := Lib.hid (needsL_yes hw hn)
  have HCUT := Lib.hid (flags_cut hw hn)
  have hl12 := wOk_len hw
  have HW := Lib.hid hw
  have j0 : (0 : Int) ≤ (n : Int) := by omega
  have j1 : (n : Int) < (S.length : Int) := by omega
  clear hw g0
  go_enter Try.func105, Try.ntmps105
  go_wp2_with fail
  refine KW.out.mono ?_
  rintro e w1 ⟨rfl, hb⟩
  have HB1 := Lib.hid (HB0.out.trans (hb.mono HB0.out.size))
  have HO1 := Lib.hid (row_below HOW.out hb)
  have z1 := HB1.out.size
  have hmk := make_flags S.length (by omega) w1
  have hg0 := made_flags S.length w1
  rw [Nat.mul_one] at hmk hg0
  have d0 := hg0.cell (i := n) (by simpa using hn)
  have f0 := hg0.frozen (i := n)
  have hg1 := made_start S.length n w1
  have bb : Below w1.heap.size w1 _ := (Below.refl w1.heap.size w1).alloc (Nat.le_refl _) (.cells ((madeCells #[.bool false] S.length).setIfInBounds n (.bool true)) 4)
  have HST := Lib.hid (show DnRel S n w1.heap.size w1.heap.size w1 (.int .i64 (n : Int)) _ from ⟨n + 1, start S.length n, by go_num, Nat.le_refl _, start_len _ _, rfl, hg1, bb⟩)
  clear hb hg0 hg1 bb KW
  go_wp2_with (go_at_call 122; refine (KI.out _).mono ?_; rintro e w2 ⟨rfl, rfl⟩)
  go_loopw [7] (fun i wr => DnRel S n w1.heap.size w1.heap.size w1 i wr) (fun i _ => (intOf i + 1).toNat)
  case atStart => exact HST.out
  case round =>
    obtain ⟨j, c, rfl, hj, hcl, hfl, hfg, hb⟩ := hrel
    have HFL := Lib.hid hfl
    have zb := hb.size
    have nn : Below w.heap.size w wr := HB1.out.trans (hb.mono z1)
    clear hfl
    rcases j with _ | j
    · have HE2 := Lib.hid (show needsL S (n : Int) = plF c (n + 1) by rw [HE.out, HCUT.out, HFL.out]; rfl)
      have hn0 : ¬ ((0 : Int) ≤ ((0 : Nat) : Int) - 1) := by omega
      have HST3 := Lib.hid (show PfRel c (n + 1) w.heap.size w w1.heap.size (.slice (some ⟨w.heap.size, 0, none⟩) 0 0) (.int .i64 0) wr from ⟨0, Nat.zero_le _, rfl, row_below HO1.out hb, hfg, nn⟩)
      clear hfg hb nn
      go_wp2_with fail
      go_loopw [5, 9] (fun s i wr2 => PfRel c (n + 1) w.heap.size w w1.heap.size s i wr2) (fun _ i _ => n + 1 - (intOf i).toNat)
      case atStart => exact HST3.out
      case round =>
        obtain ⟨q, hq, rfl, hown, hfg, hb⟩ := hrel
        obtain ⟨ga, gc, hv, hx⟩ := id (IOwn.ib hown).at
        subst hv
        clear hx
        have hnl := plF_len c q
        by_cases hlt : q < n + 1
        · have dq := hfg.cell (i := q) (by omega)
          have q0 : (0 : Int) ≤ (q : Int) := by omega
          have q1 : (q : Int) < (S.length : Int) := by omega
          have q2 : (q : Int) ≤ (n : Int) := by omega
          have HO := Lib.hid hown
          have HF := Lib.hid hfg
          have hgl := hfg.lt
          rcases hh : c.getD q true
          · have HT := Lib.hid (show plF c (q + 1) = plF c q by show plF c q ++ _ = _; rw [hh]; simp)
            rw [hh] at dq
            have HR := Lib.hid (show PfRel c (n + 1) w.heap.size w w1.heap.size (.slice ga (plF c q).length gc) (.int .i64 ((q : Int) + 1)) wr from ⟨q + 1, by omega, by go_num, by rw [HT.out]; exact HO.out, hfg, hb⟩)
            clear hh hown hfg
            go_wp2_with fail
            go_roundw
            case rel => exact HR.out
            case measure => simp [intOf] <;> omega
          · have HT := Lib.hid (show plF c (q + 1) = plF c q ++ [(q : Int)] by show plF c q ++ _ = _; rw [hh]; simp)
            rw [hh] at dq
            have HNE := Lib.hid (own_flag hown hfg)
            have z4 := hb.size
            clear hh hfg
            go_wp2_with (at_builtin; refine wpList_append_own _ rfl _ _ 43 rfl w.heap.size 3 i0 (.int .i64 0) 1 8 Try.underlying43 hi hz0 hz1 hz2 rfl (by decide) _ _ _ rfl (World.ownsRow.alloc HO.out (.cells #[.int .i64 (q : Int)] 3)) ⟨wr.heap.size, 0, none⟩ 1 1 [.int .i64 (q : Int)] rfl rfl (one_new wr (q : Int)) (one_one _) (by unfold maxLen; omega) (by omega) (by simp; omega) ?_)
            intro v' w5 hown' hgrow hnn
            have hbl : w5.heap[w1.heap.size]? = wr.heap[w1.heap.size]? := (hgrow.block _ (by simp; omega) (fun e => HNE.out _ e.symm rfl)).trans (Below.heap_alloc _ _ _ hgl)
            have HR := Lib.hid (show PfRel c (n + 1) w.heap.size w w1.heap.size v' (.int .i64 ((q : Int) + 1)) w5 from ⟨q + 1, by omega, by go_num, by rw [HT.out]; exact IOwn.push hown', HF.out.kept hbl, IOwn.gone HO.out hb z4 hgrow⟩)
            clear hown' hgrow hnn hown
            go_wp2_with fail
            go_roundw
            case rel => exact HR.out
            case measure => simp [intOf] <;> omega
        · obtain rfl : q = n + 1 := by omega
          have HO := Lib.hid hown
          have q2 : ¬ ((n + 1 : Nat) : Int) ≤ (n : Int) := by omega
          clear hown hfg
          go_wp2_with fail
          go_ret
          exact ⟨_, rfl, by rw [HE2.out]; exact IOwn.ib HO.out, hb⟩
    · have ej : ((j + 1 : Nat) : Int) - 1 = (j : Int) := by omega
      rw [ej]
      have hjl : j < S.length := by omega
      have dj := hfg.cell (i := j) (by omega)
      rcases HH.out with hx | ⟨b, o, rfl, hB, hc⟩
      · subst hx
        exact absurd hjl (by simp)
      obtain ⟨m, t, L, N, hxy⟩ : ∃ m t L N, S[j] = (m, t, L, N) := ⟨_, _, _, _, rfl⟩
      have cc := (hc j hjl).below nn hB
      have HX := Lib.hid (show S[j]? = some (m, t, L, N) by rw [List.getElem?_eq_getElem hjl, hxy])
      rw [hxy] at cc
      obtain ⟨_, a1, c1, a2, c2, _, e3, _, hi'⟩ := cc
      simp only at e3 hi'
      have HIN := Lib.hid (by have := insAt_in HW.out j; rw [insAt_eq HX.out] at this; exact this : ∀ n ∈ N, 0 ≤ n ∧ n < (j : Int))
      have hNl : N.length ≤ 12 := (by have := insOk_len (tOk_ins ((wOk_iff.1 HW.out).2 j _ HX.out)); simp only at this; omega)
      have i1 : (0 : Int) ≤ (j : Int) := by omega
      have i2 : (j : Int) < (S.length : Int) := by omega
      have HCE := Lib.hid (show ∀ V, Below w.heap.size w V → V.cell? ⟨b, o + j * 4 + 3, none⟩ = some (.slice a2 N.length c2) from fun V g => ((g.cell (p := ⟨b, o + j * 4 + 3, none⟩) hB).trans (nn.cell (p := ⟨b, o + j * 4 + 3, none⟩) hB).symm).trans e3)
      have HI' := Lib.hid (show ∀ V, Below w.heap.size w V → ∀ q (hq : q < N.length), ∃ b' o', a2 = some ⟨b', o', none⟩ ∧ V.cell? ⟨b', o' + q, none⟩ = some (.int .i64 N[q]) from fun V g q hq => by
        obtain ⟨a3, c3, ee, hcs⟩ := hi'
        simp only [Value.slice.injEq] at ee
        obtain ⟨rfl, _, rfl⟩ := ee
        rcases hcs with hz | ⟨b', o', rfl, hB', hcs⟩
        · subst hz
          exact absurd hq (by simp)
        · exact ⟨b', o', rfl, ((g.cell (p := ⟨b', o' + q, none⟩) hB').trans ((nn.cell (p := ⟨b', o' + q, none⟩) hB').symm)).trans (hcs q hq)⟩)
      have HST2 := Lib.hid (show MkRel c N w1.heap.size w1.heap.size w1 (.int .i64 0) wr from ⟨0, Nat.zero_le _, rfl, by rw [List.take_zero]; exact hfg, hb⟩)
      clear hc hxy hi' e3 nn
      rcases hh : c.getD j true
      · have HN := Lib.hid (show flags S n = down S j c by rw [HFL.out]; show down S j (nd S j c) = _; unfold nd; rw [if_neg (by rw [hh]; decide)])
        rw [hh] at dj
        have HFG := Lib.hid (And.intro hfg hb)
        have HDJ := Lib.hid dj
        clear hh hfg hb dj
        go_wp2_with fail
        go_loopw [8] (fun i wr2 => i = .int .i64 0 ∧ wr2 = wr) (fun _ _ => 0)
        case atStart => exact ⟨rfl, rfl⟩
        case round =>
          obtain ⟨rfl, rfl⟩ := hrel
          have dj := HDJ.out
          go_wp2_with fail
          go_roundw
          case rel => exact ⟨j, c, by go_num, by omega, hcl, HN.out, HFG.out.1, HFG.out.2⟩
          case measure => simp [intOf] <;> omega
      · have HN := Lib.hid (show flags S n = down S j (mark c N) by rw [HFL.out]; show down S j (nd S j c) = _; unfold nd; rw [if_pos hh, insAt_eq HX.out])
        have HHH := Lib.hid hh
        clear hh hfg hb dj
        go_wp2_with fail
        go_loopw [8] (fun i wr2 => MkRel c N w1.heap.size w1.heap.size w1 i wr2) (fun i _ => N.length - (intOf i).toNat)
        case atStart => exact HST2.out
        case round =>
          obtain ⟨q, hq, rfl, hfg2, hb2⟩ := hrel
          have hml : (mark c (N.take q)).length = S.length := by rw [mark_len]; exact hcl
          have nn2 : Below w.heap.size w wr := HB1.out.trans (hb2.mono z1)
          have dj := hfg2.cell (i := j) (by rw [hml]; exact hjl)
          rw [mark_true HHH.out] at dj
          have e3 := HCE.out _ nn2
          by_cases hql : q < N.length
          · obtain ⟨b', o', ha2, e5⟩ := HI'.out _ nn2 q hql
            subst ha2
            obtain ⟨nq, hnq⟩ : ∃ nq, N[q] = nq := ⟨_, rfl⟩
            rw [hnq] at e5
            have HXQ := Lib.hid (show N[q]? = some nq by rw [List.getElem?_eq_getElem hql, hnq])
            obtain ⟨n0, n1⟩ := HIN.out nq (List.mem_of_getElem? HXQ.out)
            obtain ⟨z, rfl⟩ : ∃ z : Nat, nq = (z : Int) := ⟨nq.toNat, by omega⟩
            have hzl : z < S.length := by omega
            have dz := hfg2.cell (i := z) (by rw [hml]; exact hzl)
            have fz := hfg2.frozen (i := z)
            have q0 : (0 : Int) ≤ (q : Int) := by omega
            have q1 : (q : Int) < (N.length : Int) := by omega
            have zl1 : (z : Int) < (S.length : Int) := by omega
            have HR := Lib.hid (show MkRel c N w1.heap.size w1.heap.size w1 (.int .i64 ((q : Int) + 1)) _ from ⟨q + 1, by omega, by go_num, by rw [mark_next HXQ.out, Int.toNat_natCast]; exact hfg2.set true, hb2.setCell (p := ⟨w1.heap.size, z, none⟩) (Nat.le_refl _) (.bool true)⟩)
            clear hfg2 hnq hml nn2
            go_wp2_with fail
            go_roundw
            case rel => exact HR.out
            case measure => simp [intOf] <;> omega
          · obtain rfl : q = N.length := by omega
            rw [List.take_length] at hfg2 hml
            have HFG := Lib.hid hfg2
            clear hfg2 nn2
            go_wp2_with fail
            go_roundw
            case rel => exact ⟨j, _, by go_num, by omega, hml, HN.out, HFG.out, hb2⟩
            case measure => simp [intOf] <;> omega
end Wn
end Go.Proofs.Ytopplljilmjjgaa

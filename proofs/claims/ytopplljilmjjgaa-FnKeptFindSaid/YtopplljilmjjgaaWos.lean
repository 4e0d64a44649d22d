/- The contract of the model's WorldOk, over this seat's translation: it answers as the plain function wOk tells; nothing that was there before the call has changed. Condition: at most 1048576 targets, lines, numbers and bytes of each. -/
import Derived.Test.YtopplljilmjjgaaWok
import Derived.BigQuiet
namespace Go.Proofs.Ytopplljilmjjgaa
open Go.RowKit Go.Sort

namespace Wl
open Tg Rx
/-- The least number that may stand at a place, told by the one before it. -/
def loAt (N : List Int) : Nat → Int
  | 0 => 0
  | j + 1 => N.getD j 0 + 1
theorem loAt_next {N : List Int} {j : Nat} {x : Int} (h : N[j]? = some x) : loAt N (j + 1) = x + 1 := by
  show N.getD j 0 + 1 = x + 1
  rw [List.getD_eq_getElem?_getD, h]
  rfl
theorem tOk_no {k : Nat} {t : ByteArray} {L : List Ln} {N : List Int} (h : ¬ (t.size ≤ 40 ∧ L.length = 0 ∧ N.length = 0)) : tOk k (false, t, L, N) = false := by
  rw [Bool.eq_false_iff]
  intro e
  obtain ⟨h1, h2, h3⟩ := tOk_source e rfl
  simp only at h1 h2 h3
  exact h ⟨h1, by rw [h2]; rfl, by rw [h3]; rfl⟩
theorem tOk_nos {k : Nat} {t : ByteArray} {L : List Ln} {N : List Int} (h : ¬ (t.size = 0 ∧ insOk 0 k N = true ∧ scOk L N.length = true)) : tOk k (true, t, L, N) = false := by
  rw [Bool.eq_false_iff]
  intro e
  exact h (tOk_step e rfl)
/-- What the loop over the inputs keeps. -/
def NRel (N : List Int) (k : Nat) (V : World) (i : Value) (wr : World) : Prop := ∃ j : Nat, j ≤ N.length ∧ i = .int .i64 (j : Int) ∧ (insOk 0 (k : Int) N = insOk (loAt N j) (k : Int) (N.drop j) ∧ 0 ≤ loAt N j) ∧ Below V.heap.size V wr

set_option maxRecDepth 100000 in
set_option maxHeartbeats 16000000 in
theorem specWorldOk_any (v : Value) (S : List Tgt) (w : World) (hl : S.length ≤ 1048576) (hq : ∀ q ∈ S, Par q) (h : TgAt w w.heap.size v S) :
    Calls Try.prog 83 #[v] w fun e w' => e = .returned (.bool (wOk S)) ∧ Below w.heap.size w w' := by
  obtain ⟨a, cap, rfl, h⟩ := h
  have HH := Lib.hid h
  have HQ := Lib.hid hq
  clear h hq
  go_enter Try.func83, Try.ntmps83
  go_wp2_with fail
  go_loopw [3] (fun i wr => WRel S w i wr) (fun i _ => S.length - (intOf i).toNat)
  case atStart => exact ⟨0, Nat.zero_le _, rfl, rfl, Below.refl _ _⟩
  case round =>
    obtain ⟨k, hk, rfl, he, hb⟩ := hrel
    have HE := Lib.hid he
    clear he
    by_cases hlt : k < S.length
    · rcases HH.out with h | ⟨b, o, rfl, hB, hc⟩
      · subst h
        exact absurd hlt (by simp)
      obtain ⟨m, t, L, N, hxy⟩ : ∃ m t L N, S[k] = (m, t, L, N) := ⟨_, _, _, _, rfl⟩
      have c := (hc k hlt).below hb hB
      rw [hxy] at c
      obtain ⟨⟨e0, e1⟩, a1, c1, a2, c2, e2, e3, hs, hi⟩ := c
      simp only at e0 e1 e2 e3 hs hi
      have HX := Lib.hid (show S[k]? = some (m, t, L, N) by rw [List.getElem?_eq_getElem hlt, hxy])
      have hp := HQ.out _ (List.mem_of_getElem? HX.out)
      clear hc hxy
      have i0 : (0 : Int) ≤ (k : Int) := by omega
      have i1 : (k : Int) < (S.length : Int) := by omega
      have HP := Lib.hid hp
      have ht := hp.1
      have hL := hp.2.1
      have hN := hp.2.2.2
      have HBB := Lib.hid (hb.alloc hb.size (.cells #[.bool m, .string t, .slice a1 L.length c1, .slice a2 N.length c2] 79))
      have HSL := Lib.hid (hs.mono hb.size)
      have HSN := Lib.hid (hi.mono hb.size)
      have HHB := Lib.hid hb
      clear hs hi hp hb
      rcases m
      · have HNO := Lib.hid (fun (z : ¬ (t.size ≤ 40 ∧ L.length = 0 ∧ N.length = 0)) => wOk_bad HX.out HE.out (tOk_no z))
        have HYES := Lib.hid (fun (z1 : t.size ≤ 40) (z2 : L.length = 0) (z3 : N.length = 0) => wFrom_on HX.out HE.out (show tOk k (false, t, L, N) = true by
          unfold tOk
          rw [if_neg (show ¬ (false = true) by decide)]
          simp only [z2, z3, decide_true, Bool.and_true]
          exact decide_eq_true z1))
        clear HSL HSN HX
        generalize L.length = p at *
        generalize N.length = q at *
        by_cases g1 : (40 : Int) < (t.size : Int)
        · have HF := Lib.hid (HNO.out (by omega))
          go_wp2_with fail
          go_ret
          exact ⟨by rw [HF.out]; rfl, HBB.out⟩
        rcases p with _ | p
        rotate_left
        · have HF := Lib.hid (HNO.out (by omega))
          go_wp2_with fail
          go_ret
          exact ⟨by rw [HF.out]; rfl, HBB.out⟩
        rcases q with _ | q
        rotate_left
        · have HF := Lib.hid (HNO.out (by omega))
          go_wp2_with fail
          go_ret
          exact ⟨by rw [HF.out]; rfl, HBB.out⟩
        have HN := Lib.hid (HYES.out (by omega) rfl rfl)
        go_wp2_with fail
        go_loop [5] (fun i => i = .int .i64 0) (fun _ => 0)
        case atStart => rfl
        case round =>
          subst hrel
          go_wp2_with fail
          go_roundw
          case rel => exact ⟨k + 1, by omega, by go_num, HN.out, HBB.out⟩
          case measure => simp [intOf]; omega
      · by_cases g1 : t.size = 0
        rotate_left
        · have HF := Lib.hid (wOk_bad HX.out HE.out (tOk_nos (L := L) (N := N) (fun e => g1 e.1)))
          have hT := text_ne g1
          have hT2 : (t.toList != []) = true := by rw [bne, hT]; rfl
          go_wp2_with fail
          go_ret
          exact ⟨by rw [HF.out]; rfl, HBB.out⟩
        obtain rfl := text_nil g1
        have KS := Lib.hid fun V (g : Below wr.heap.size wr V) => specScriptOk_any _ L (N.length : Int) V HP.out.2.1 HP.out.2.2.1 (HSL.out.stepAt g)
        have b0 := Lib.hid ((Below.refl wr.heap.size wr).alloc (Nat.le_refl _) (.cells #[.bool true, .string ⟨#[]⟩, .slice a1 L.length c1, .slice a2 N.length c2] 79))
        rcases hsc : scOk L (N.length : Int)
        · have HF := Lib.hid (wOk_bad HX.out HE.out (tOk_nos (fun e => by rw [hsc] at e; exact absurd e.2.2 (by decide))))
          rw [hsc] at KS
          go_wp2_with fail
          refine (KS.out _ b0.out).mono ?_
          rintro e w1 ⟨rfl, hb1⟩
          have b1 := Lib.hid (b0.out.trans (hb1.mono b0.out.size))
          clear hb1
          go_wp2_with fail
          go_ret
          exact ⟨by rw [HF.out]; rfl, HHB.out.trans (b1.out.mono HHB.out.size)⟩
        have hN5 : N.length ≤ 5 := by have := (scOk_ins hsc).2; omega
        rw [hsc] at KS
        have HSC := Lib.hid hsc
        clear hsc
        go_wp2_with fail
        refine (KS.out _ b0.out).mono ?_
        rintro e w1 ⟨rfl, hb1⟩
        have b1 := Lib.hid (b0.out.trans (hb1.mono b0.out.size))
        have hbx : w1.cell? ⟨wr.heap.size, 3, none⟩ = some (.slice a2 N.length c2) := (hb1.cell (p := ⟨wr.heap.size, 3, none⟩) (by simp)).trans (by go_simp)
        have z1 : wr.heap.size < w1.heap.size := by have := hb1.size; simp at this; omega
        have HST := Lib.hid (show NRel N k w1 (.int .i64 0) w1 from ⟨0, Nat.zero_le _, rfl, ⟨rfl, Int.le_refl _⟩, Below.refl _ _⟩)
        obtain ⟨g4, hg4⟩ : ∃ g4, g4 = wr.heap.size := ⟨_, rfl⟩
        have HG4 := Lib.hid hg4
        rw [← hg4] at hbx z1
        clear hb1 hg4
        go_wp2_with fail
        go_loopw [5] (fun i wr2 => NRel N k w1 i wr2) (fun i _ => N.length - (intOf i).toNat)
        case atStart => exact HST.out
        case round =>
          obtain ⟨j, hj, rfl, ⟨hin, hlo⟩, hb2⟩ := hrel
          have hx3 := (hb2.cell (p := ⟨g4, 3, none⟩) z1).trans hbx
          rw [HG4.out] at hx3
          have HIN := Lib.hid hin
          have HLO := Lib.hid hlo
          clear hin hlo
          by_cases hjl : j < N.length
          · rcases HSN.out with ⟨a2', c2', ee, hh⟩
            simp only [Value.slice.injEq] at ee
            obtain ⟨rfl, _, rfl⟩ := ee
            rcases hh with h | ⟨b', o', rfl, hB', hc'⟩
            · subst h
              exact absurd hjl (by simp)
            obtain ⟨x, hx⟩ : ∃ x, N[j] = x := ⟨_, rfl⟩
            have hxs : N[j]? = some x := by rw [List.getElem?_eq_getElem hjl, hx]
            have d0 := ((b1.out.trans (hb2.mono b1.out.size)).cell (p := ⟨b', o' + j, none⟩) hB').trans (hc' j hjl)
            rw [hx] at d0
            have HXS := Lib.hid hxs
            have HAT := Lib.hid (insOk_at (k := (k : Int)) (lo := loAt N j) hxs)
            clear hx hxs
            have j0 : (0 : Int) ≤ (j : Int) := by omega
            have j1 : (j : Int) < (N.length : Int) := by omega
            have s0 := cell_regrown hx3
            have s1 := cell_regrown d0
            have HB2 := Lib.hid (HHB.out.trans ((b1.out.trans (hb2.mono b1.out.size)).mono HHB.out.size))
            by_cases hI : 0 ≤ x ∧ x ≤ (k : Int) - 1
            rotate_left
            · have HF := Lib.hid (wOk_bad HX.out HE.out (tOk_nos (fun e => by
                have e2 := e.2.1
                rw [HIN.out, HAT.out] at e2
                have e3 := HLO.out
                simp only [Bool.and_eq_true, decide_eq_true_eq] at e2
                omega)))
              have KI : Hid (∀ V, Calls Try.prog 122 #[.int .i64 x, .int .i64 0, .int .i64 ((k : Int) - 1)] V fun e w' => e = .returned (.bool false) ∧ Below V.heap.size V w') := Lib.hid fun V => by
                have := l1In_below x 0 ((k : Int) - 1) V; rwa [inB_no hI] at this
              clear hc' hI
              go_wp2_with fail
              refine wp_region_quiet_below (by kernel_rfl) (by kernel_rfl) ?_
              repeat (any_goals (first | go_big_quiet_step ((go_at_call 122; exact Calls.regrown_of (KI.out _))) | quiet_step ((go_at_call 122; exact Calls.regrown_of (KI.out _)))))
              refine wpQuiet_nil ?_
              intro W2 hw
              have nn := quiet_end hw
              have HR := Lib.hid (HB2.out.trans (nn.mono HB2.out.size))
              clear hw s0 s1 nn
              go_wp2_with fail
              go_ret
              exact ⟨by rw [HF.out]; rfl, HR.out⟩
            have KI : Hid (∀ V, Calls Try.prog 122 #[.int .i64 x, .int .i64 0, .int .i64 ((k : Int) - 1)] V fun e w' => e = .returned (.bool true) ∧ Below V.heap.size V w') := Lib.hid fun V => by
              have := l1In_below x 0 ((k : Int) - 1) V; rwa [inB_yes hI] at this
            have HI := Lib.hid hI
            clear hI
            rcases Nat.eq_zero_or_pos j with hz | hp0
            · have hk0 : decide ((0 : Int) < (j : Int)) = false := decide_eq_false (by omega)
              have hk1 : decide (0 < j) = false := decide_eq_false (by omega)
              have HN := Lib.hid (show insOk 0 (k : Int) N = insOk (loAt N (j + 1)) (k : Int) (N.drop (j + 1)) ∧ 0 ≤ loAt N (j + 1) by
                have hi := HI.out
                rw [HIN.out, HAT.out, loAt_next HXS.out, decide_eq_true (by subst hz; show (0 : Int) ≤ x ∧ _; omega)]
                exact ⟨rfl, by omega⟩)
              clear hc' hz
              go_wp2_with fail
              refine wp_region_quiet_below (by kernel_rfl) (by kernel_rfl) ?_
              repeat (any_goals (first | go_big_quiet_step ((go_at_call 122; exact Calls.regrown_of (KI.out _))) | quiet_step ((go_at_call 122; exact Calls.regrown_of (KI.out _)))))
              refine wpQuiet_nil ?_
              intro W2 hw
              have nn := quiet_end hw
              have HR := Lib.hid (hb2.trans (nn.mono hb2.size))
              clear hw s0 s1 nn
              go_wp2_with fail
              go_roundw
              case rel => exact ⟨j + 1, by omega, by go_num, HN.out, HR.out⟩
              case measure => simp [intOf]; omega
            · obtain ⟨q, rfl⟩ : ∃ q, j = q + 1 := ⟨j - 1, by omega⟩
              obtain ⟨p, hpx⟩ : ∃ p, N[q] = p := ⟨_, rfl⟩
              have d1 := ((b1.out.trans (hb2.mono b1.out.size)).cell (p := ⟨b', o' + q, none⟩) hB').trans (hc' q (by omega))
              rw [hpx] at d1
              have hlow : loAt N (q + 1) = p + 1 := loAt_next (by rw [List.getElem?_eq_getElem (show q < N.length by omega), hpx])
              have q0 : (0 : Int) ≤ (q : Int) := by omega
              have q1 : (q : Int) < (N.length : Int) := by omega
              have hk0 : (0 : Int) < (q : Int) + 1 := by omega
              have s2 := cell_regrown d1
              clear hpx hc'
              by_cases hpl : p < x
              · have HN := Lib.hid (show insOk 0 (k : Int) N = insOk (loAt N (q + 1 + 1)) (k : Int) (N.drop (q + 1 + 1)) ∧ 0 ≤ loAt N (q + 1 + 1) by
                  have hi := HI.out
                  rw [HIN.out, HAT.out, loAt_next HXS.out, hlow, decide_eq_true (by omega)]
                  exact ⟨rfl, by omega⟩)
                clear hlow
                go_wp2_with fail
                refine wp_region_quiet_below (by kernel_rfl) (by kernel_rfl) ?_
                repeat (any_goals (first | go_big_quiet_step ((go_at_call 122; exact Calls.regrown_of (KI.out _))) | quiet_step ((go_at_call 122; exact Calls.regrown_of (KI.out _)))))
                refine wpQuiet_nil ?_
                intro W2 hw
                have nn := quiet_end hw
                have HR := Lib.hid (hb2.trans (nn.mono hb2.size))
                clear hw s0 s1 s2 nn
                go_wp2_with fail
                go_roundw
                case rel => exact ⟨q + 1 + 1, by omega, by go_num, HN.out, HR.out⟩
                case measure => simp [intOf]; omega
              · have HF := Lib.hid (wOk_bad HX.out HE.out (tOk_nos (fun e => by
                  have e2 := e.2.1
                  rw [HIN.out, HAT.out, hlow] at e2
                  simp only [Bool.and_eq_true, decide_eq_true_eq] at e2
                  omega)))
                clear hlow
                go_wp2_with fail
                refine wp_region_quiet_below (by kernel_rfl) (by kernel_rfl) ?_
                repeat (any_goals (first | go_big_quiet_step ((go_at_call 122; exact Calls.regrown_of (KI.out _))) | quiet_step ((go_at_call 122; exact Calls.regrown_of (KI.out _)))))
                refine wpQuiet_nil ?_
                intro W2 hw
                have nn := quiet_end hw
                have HR := Lib.hid (HB2.out.trans (nn.mono HB2.out.size))
                clear hw s0 s1 s2 nn
                go_wp2_with fail
                go_ret
                exact ⟨by rw [HF.out]; rfl, HR.out⟩
          · obtain rfl : j = N.length := by omega
            have HN := Lib.hid (wFrom_on HX.out HE.out (show tOk k (true, ⟨#[]⟩, L, N) = true by
              unfold tOk
              rw [if_pos rfl]
              simp only [HSC.out, HIN.out, List.drop_length, insOk, Bool.and_true]
              exact decide_eq_true rfl))
            have HR := Lib.hid (HHB.out.trans ((b1.out.trans (hb2.mono b1.out.size)).mono HHB.out.size))
            clear hb2
            go_wp2_with fail
            go_roundw
            case rel => exact ⟨k + 1, by omega, by go_num, HN.out, HR.out⟩
            case measure => simp [intOf]; omega
    · obtain rfl : k = S.length := by omega
      have HF := Lib.hid (show wOk S = decide (S.length ≤ 12) by unfold wOk; rw [HE.out, List.drop_length]; simp [wFrom])
      by_cases g : (S.length : Int) ≤ 12
      · have HG := Lib.hid (show wOk S = true by rw [HF.out]; exact decide_eq_true (by omega))
        go_wp2_with fail
        go_ret
        exact ⟨by rw [HG.out]; rfl, hb⟩
      · have HG := Lib.hid (show wOk S = false by rw [HF.out]; exact decide_eq_false (by omega))
        go_wp2_with fail
        go_ret
        exact ⟨by rw [HG.out]; rfl, hb⟩
end Wl
end Go.Proofs.Ytopplljilmjjgaa

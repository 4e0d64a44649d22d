/- At every code the law FnRoomRun returns true: the program and the model agree on the drawn run; what was read is open and noted once; what is not fine made nothing; what is fine is not too long, and comes to the same with all open. No condition. -/
import Derived.Test.YtfmidekffcjbgaaDrd
import Derived.Test.YtfmidekffcjbgaaRxu
import Derived.Test.YtfmidekffcjbgaaRxc
import Derived.Test.YtfmidekffcjbgaaRxf
import Derived.Test.YtfmidekffcjbgaaRxw
import Derived.Deep.CutRange
import Derived.Deep.RegionWith
import Derived.Deep.RegionHeld3
namespace Go.Proofs.Ytfmidekffcjbgaa
open Go.ChangeShapes Go.WideShapes Go.ChangeAt Go.RowKit Go.Joins Go.Sort
namespace Prm
open Drm Rx Obl Rnw Rxw
theorem room_facts {S : List Ln} {I : List ByteArray} {O : List Bool} :
    (roomR S I O).2.2.Nodup ∧ (∀ y ∈ (roomR S I O).2.2, 0 ≤ y ∧ y < (O.length : Int) ∧ O.getD y.toNat false = true) ∧ ((roomR S I O).1 = 0 → (roomR S I O).2.1.size ≤ 40) ∧ ((roomR S I O).1 ≠ 0 → (roomR S I O).2.1 = ByteArray.empty) ∧
    ((roomR S I O).1 = 0 → roomR S I (List.replicate I.length true) = roomR S I O) := by
  by_cases h : (thOk I && scOk S I.length && decide (O.length = I.length)) = true
  · have e : roomR S I O = run I O S ByteArray.empty [] := by unfold roomR; rw [if_pos h]
    have h' := h
    simp only [Bool.and_eq_true, decide_eq_true_eq] at h'
    obtain ⟨⟨h1, h2⟩, h3⟩ := h'
    have e2 : roomR S I (List.replicate I.length true) = run I (List.replicate I.length true) S ByteArray.empty [] := by
      unfold roomR
      rw [h1, h2, decide_eq_true (List.length_replicate)]
      rfl
    have hL : ∀ x ∈ S, LOk x (I.length : Int) := fun x hx => by
      obtain ⟨k, hk, rfl⟩ := List.getElem_of_mem hx
      exact scOk_at h2 (List.getElem?_eq_getElem hk)
    obtain ⟨f1, f2⟩ := run_open (I := I) (O := O) (I.length : Int) S.length S ByteArray.empty [] (Nat.le_refl _) hL List.nodup_nil (fun y hy => by cases hy)
    obtain ⟨f3, f4⟩ := run_out (I := I) (O := O) S.length S ByteArray.empty [] (Nat.le_refl _) (Nat.zero_le _)
    rw [e, e2]
    refine ⟨f1, fun y hy => by rw [h3]; exact f2 y hy, f3, f4, fun h0 => ?_⟩
    refine run_same S.length S ByteArray.empty [] (Nat.le_refl _) (fun y hy => ⟨rfl, ?_⟩) (.inl (by rw [h0]; decide))
    obtain ⟨g1, g2, _⟩ := f2 y hy
    rw [List.getD_eq_getElem?_getD, List.getElem?_replicate, if_pos (by omega)]
    rfl
  · have e : roomR S I O = (1, ByteArray.empty, []) := by unfold roomR; rw [if_neg h]
    rw [e]
    exact ⟨List.nodup_nil, fun y hy => by simp at hy, fun h0 => absurd h0 (by decide), fun _ => rfl, fun h0 => absurd h0 (by decide)⟩
theorem in_drew {w V : World} {v : Value} {N : List Int} (h : InAt w w.heap.size v N) (e : V.heap = w.heap) : InAt V V.heap.size v N := by
  obtain ⟨a, c, rfl, h⟩ := h
  refine ⟨a, c, rfl, ?_⟩
  rcases h with h | ⟨b, o, rfl, hB, hc⟩
  · exact .inl h
  · exact .inr ⟨b, o, rfl, by rw [e]; exact hB, fun i hi => (World.cell?_of_block (a := ⟨b, o + i, none⟩) (by rw [e])).trans (hc i hi)⟩
theorem bo_drew {w V : World} {v : Value} {N : List Bool} (h : BoAt w w.heap.size v N) (e : V.heap = w.heap) : BoAt V V.heap.size v N := by
  obtain ⟨a, c, rfl, h⟩ := h
  refine ⟨a, c, rfl, ?_⟩
  rcases h with h | ⟨b, o, rfl, hB, hc⟩
  · exact .inl h
  · exact .inr ⟨b, o, rfl, by rw [e]; exact hB, fun i hi => (World.cell?_of_block (a := ⟨b, o + i, none⟩) (by rw [e])).trans (hc i hi)⟩
theorem below_heap {w V V' : World} (h : Below V.heap.size V V') (e : V = w ∨ V = w.drew) : Below w.heap.size w V' := by
  rcases e with rfl | rfl
  · exact h
  · exact ⟨h.os, h.tape, h.output, h.size, h.block⟩
theorem pre_not {R : List Int} (h : R.Nodup) {k : Nat} {y : Int} (hk : R[k]? = some y) : decide (y ∈ R.take k) = false := by
  obtain ⟨hlt, rfl⟩ := List.getElem?_eq_some_iff.1 hk
  rw [decide_eq_false_iff_not]
  intro hm
  obtain ⟨i, hi, e⟩ := List.getElem_of_mem hm
  have hi' : i < k := by simp at hi; omega
  rw [List.getElem_take] at e
  exact List.pairwise_iff_getElem.1 h i k (by omega) hlt hi' e
theorem in_pre {w : World} {B : Nat} {a : Option Addr} {c : Nat} {R : List Int} {k : Nat} (h : InAt w B (.slice a R.length c) R) (hk : k ≤ R.length) : InAt w B (.slice a k c) (R.take k) := by
  obtain ⟨a', c', e, hh⟩ := h
  simp only [Value.slice.injEq] at e
  obtain ⟨rfl, _, rfl⟩ := e
  have hl : (R.take k).length = k := by simp; omega
  refine ⟨a, c, by rw [hl], ?_⟩
  rcases hh with rfl | ⟨b, o, rfl, hB, hc⟩
  · exact .inl (by simp)
  · exact .inr ⟨b, o, rfl, hB, fun i hi => by rw [List.getElem_take]; exact hc i (by omega)⟩

set_option maxRecDepth 100000 in
set_option maxHeartbeats 16000000 in
theorem short (a : Option Addr) (len cap : Nat) (w : World) (h : CodeIn w a len cap) (hl : len ≤ 1048576) :
    Calls Try.prog 5 #[.slice a len cap] w fun e w' => e = .returned (.bool true) ∧ Below w.heap.size w w' := by
  go_enter Try.func5, Try.ntmps5
  go_wp2_with fail
  refine (DrawRoomRun_any a len cap w h).mono ?_
  rintro e w1 ⟨S, I, O, v, u, z, rfl, hS, hI, hO, hlS, hqS, hlI, hqI, hlO, hb1⟩
  have hqS' : ∀ q ∈ S, q.2.2.2.size ≤ 1048576 := fun q hq => Nat.le_trans (hqS q hq) (by omega)
  have hqI' : ∀ q ∈ I, q.size ≤ 1048576 := fun q hq => Nat.le_trans (hqI q hq) (by omega)
  have KI := Lib.hid (fun V (g : Below w1.heap.size w1 V) => Rxc.implRoomRun_any v u z S I O V (by omega) hqS' (by omega) hqI' (by omega) (hS.stepAt g) (hI.stepAt g) (hO.stepAt g))
  have KS := Lib.hid (fun V (g : Below w1.heap.size w1 V) => specRoomRun_any v u z S I O V (by omega) hqS' (by omega) hqI' (by omega) (hS.stepAt g) (hI.stepAt g) (hO.stepAt g))
  have K2 := Lib.hid (fun V zz (g : Below w1.heap.size w1 V) (hz : BoAt V V.heap.size zz (List.replicate I.length true)) => implRoomRun_any v u zz S I (List.replicate I.length true) V (by omega) hqS' (by omega) hqI' (by simp; omega) (hS.stepAt g) (hI.stepAt g) hz)
  have HO := Lib.hid hO
  have HLO := Lib.hid hlO
  clear hlO
  obtain ⟨va, vc, rfl, x0⟩ := id hS
  obtain ⟨ua, uc, rfl, x1⟩ := id hI
  obtain ⟨za, zc, rfl, x2⟩ := id hO
  obtain ⟨f1, f2, f3, f4, f5⟩ := room_facts (S := S) (I := I) (O := O)
  have hA10 := roomR_len S I O
  have KA := Lib.hid fun V => Rxw.allOpen_any I.length V (by omega)
  have F5 : Hid ((roomR S I O).1 = 0 → roomR S I (List.replicate I.length true) = roomR S I O) := Lib.hid f5
  clear x0 x1 x2 hS hI hO hqS hqI hqS' hqI' f5
  generalize roomR S I (List.replicate I.length true) = A2 at *
  generalize roomR S I O = A at *
  obtain ⟨cd, ot, R⟩ := A
  simp only at f1 f2 f3 f4 hA10 F5
  have F1 := Lib.hid f1
  have F2 := Lib.hid f2
  have F3 := Lib.hid f3
  have F4 := Lib.hid f4
  clear f1 f2 f3 f4
  have hR20 : R.length ≤ 1048576 := by omega
  go_wp2_with fail
  refine (KI.out _ (Below.refl _ _)).mono ?_
  rintro e w2 ⟨vr, rfl, hR, hb2⟩
  obtain ⟨ra, rc, rfl, x3⟩ := id hR.1
  have hcap : R.length ≤ rc := by
    obtain ⟨a', c', e, hc⟩ := hR.2
    simp only [Value.slice.injEq] at e
    obtain ⟨_, _, rfl⟩ := e
    exact hc
  obtain ⟨w3, hw3⟩ : ∃ V, V = w2.alloc (.cells #[.int .i64 cd, .string ot, .slice ra R.length rc] 36) := ⟨_, rfl⟩
  have n3 : Below w2.heap.size w2 w3 := by rw [hw3]; exact (Below.refl _ _).alloc (Nat.le_refl _) _
  have b3 : Below w1.heap.size w1 w3 := hb2.trans (n3.mono hb2.size)
  have HB3 := Lib.hid b3
  have HBX := Lib.hid (show RnBlk w3 w2.heap.size cd ot (.slice ra R.length rc) by rw [hw3]; exact RnBlk.new _ _ _ _)
  have HR3 := Lib.hid (IB.at (IB.below hR.1 n3))
  have z3 : w2.heap.size < w3.heap.size := HBX.out.lt
  have z12 := b3.size
  clear x3 hR hb2 n3 b3
  go_upto_region 5 with fail
  rw [← hw3]
  clear hw3
  obtain ⟨p0, p1, p2, s0, s1, s2⟩ := HBX.out.cells
  go_region_with ((first | (go_at_call 19; refine (KS.out _ (HB3.out.trans (Below.mono (B := w3.heap.size) (by go_grown) HB3.out.size))).mono ?_; rintro e w4 ⟨v4, rfl, h4, hb4⟩; obtain ⟨a4, c4, rfl, x4⟩ := id h4; have n4 : Below w3.heap.size w3 w4 := Below.step (by go_grown) hb4; obtain ⟨q0, q1, q2, t0, t1, t2⟩ := (HBX.out.below n4).cells; have H4 := Lib.hid (IB.at h4); have N4 := Lib.hid n4; clear x4 h4 hb4 n4) | (go_at_call 18; refine (sameRan_same cd ot hR20 (in_drew (HR3.out.stepAt N4.out) rfl) (in_drew H4.out rfl)).mono ?_; rintro e w5 ⟨rfl, hb5⟩; have n5 : Below w3.heap.size w3 w5 := N4.out.trans (Below.mono (B := w4.heap.size) (below_heap hb5 (by first | exact .inl rfl | exact .inr rfl)) N4.out.size); have N5 := Lib.hid n5; clear hb5 n5)))
  all_goals
    have b5 : Below w1.heap.size w1 w5 := HB3.out.trans (N5.out.mono HB3.out.size)
    have HR5 := Lib.hid (HBX.out.below N5.out)
    have HI5 := Lib.hid (HR3.out.stepAt N5.out)
    have HB5 := Lib.hid b5
    have z5 := b5.size
    clear p0 p1 p2 s0 s1 s2 q0 q1 q2 t0 t1 t2 b5 KS
    obtain ⟨p0, p1, p2, s0, s1, s2⟩ := HR5.out.cells
    go_wp2_with fail
    go_loopw [7] (fun i wr => ∃ k : Nat, k ≤ R.length ∧ i = .int .i64 (k : Int) ∧ Below w5.heap.size w5 wr) (fun i _ => R.length - (intOf i).toNat)
    case atStart => exact ⟨0, Nat.zero_le _, rfl, Below.refl _ _⟩
    case round =>
      obtain ⟨k, hk, rfl, hb⟩ := hrel
      clear p0 p1 p2 s0 s1 s2
      have HRr := Lib.hid (HR5.out.below hb)
      obtain ⟨p0, p1, p2, s0, s1, s2⟩ := HRr.out.cells
      have zr := hb.size
      by_cases hlt : k < R.length
      · obtain ⟨y, hy⟩ : ∃ y, R[k] = y := ⟨_, rfl⟩
        have hRk : R[k]? = some y := by rw [List.getElem?_eq_getElem hlt, hy]
        obtain ⟨g0, g1, g2⟩ := F2.out y (List.mem_of_getElem? hRk)
        obtain ⟨j, rfl⟩ : ∃ j : Nat, y = (j : Int) := ⟨y.toNat, by omega⟩
        have hjO : j < O.length := by omega
        have hOj : O[j] = true := by
          have h2 := g2
          rw [Int.toNat_natCast, List.getD_eq_getElem?_getD, List.getElem?_eq_getElem hjO] at h2
          exact h2
        obtain ⟨bR, oR, hra, hBR, hcR⟩ : ∃ b o, ra = some ⟨b, o, none⟩ ∧ b < w5.heap.size ∧ ∀ i (h : i < R.length), w5.cell? ⟨b, o + i, none⟩ = some (.int .i64 R[i]) := by
          obtain ⟨a', c', e, hh⟩ := HI5.out
          simp only [Value.slice.injEq] at e
          obtain ⟨rfl, _, _⟩ := e
          rcases hh with rfl | ⟨b, o, rfl, hB, hc⟩
          · exact absurd hlt (by simp)
          · exact ⟨b, o, rfl, hB, hc⟩
        subst hra
        obtain ⟨bO, oO, hza, hBO, hcO⟩ : ∃ b o, za = some ⟨b, o, none⟩ ∧ b < w1.heap.size ∧ ∀ i (h : i < O.length), w1.cell? ⟨b, o + i, none⟩ = some (.bool O[i]) := by
          obtain ⟨a', c', e, hh⟩ := HO.out
          simp only [Value.slice.injEq] at e
          obtain ⟨rfl, _, _⟩ := e
          rcases hh with rfl | ⟨b, o, rfl, hB, hc⟩
          · exact absurd hjO (by simp)
          · exact ⟨b, o, rfl, hB, hc⟩
        subst hza
        have k0 := (hb.cell (p := ⟨bR, oR + k, none⟩) hBR).trans (hcR k hlt)
        rw [hy] at k0
        have k1 := ((HB5.out.trans (hb.mono z5)).cell (p := ⟨bO, oO + j, none⟩) hBO).trans (hcO j hjO)
        rw [hOj] at k1
        have KH := Lib.hid (fun V (g : Below wr.heap.size wr V) => hasInt_any (.slice (some ⟨bR, oR, none⟩) k rc) (R.take k) j V (by simp; omega) ((in_pre (HI5.out.stepAt hb) hk).stepAt g))
        rw [pre_not F1.out hRk] at KH
        have i0 : (0 : Int) ≤ (k : Int) := by omega
        have i1 : (k : Int) < (R.length : Int) := by omega
        have i2 : (0 : Int) ≤ (j : Int) := by omega
        have i4 : k ≤ rc := by omega
        have i5 : (k : Int) ≤ (rc : Int) := by omega
        have i3 : (j : Int) < (O.length : Int) := by omega
        have x0 := cell_regrown k0
        have x1 := cell_regrown k1
        have y2 := cell_regrown p2
        clear hy hRk g0 g1 g2 hOj hcR hcO k0 k1
        go_wp2_with fail
        refine wp_region_quiet_below (by kernel_rfl) (by kernel_rfl) ?_
        repeat (any_goals (first | go_big_quiet_step ((go_at_call 20; exact Calls.regrown_of (KH.out _ (below_regrown _ _ _)))) | quiet_step ((go_at_call 20; exact Calls.regrown_of (KH.out _ (below_regrown _ _ _))))))
        refine wpQuiet_nil ?_
        intro W2 hw
        have nn := quiet_end hw
        clear hw x0 x1 y2
        have HP := Lib.hid (hb.trans (nn.mono hb.size))
        go_wp2_with fail
        go_roundw
        case rel => exact ⟨k + 1, by omega, by go_num, HP.out⟩
        case measure => simp [intOf]; omega
      · obtain rfl : k = R.length := by omega
        have HBr := Lib.hid (HB5.out.trans (hb.mono z5))
        by_cases hcd : cd = 0
        · subst hcd
          have hd40 : decide ((ot.size : Int) ≤ 40) = true := decide_eq_true (by have := F3.out rfl; omega)
          have h2 := F5.out rfl
          rw [h2] at K2
          have HIr := Lib.hid (HI5.out.stepAt hb)
          clear h2
          go_wp2_with fail
          go_region_held3 (fun V => V.cell? ⟨w2.heap.size, 0, none⟩ = some (.int .i64 0) ∧ V.cell? ⟨w2.heap.size, 1, none⟩ = some (.string ot) ∧ V.cell? ⟨w2.heap.size, 2, none⟩ = some (.slice ra R.length rc)) (go_keep)
            (first
              | (go_at_call 22; refine (KA.out _).mono ?_; rintro e w6 ⟨a6, c6, rfl, h6, hb6⟩; have n6 : Below wr.heap.size wr w6 := below_heap hb6 (by first | exact .inl rfl | exact .inr rfl); obtain ⟨q0, q1, q2, t0, t1, t2⟩ := (HRr.out.below n6).cells; have H6 := Lib.hid h6; have N6 := Lib.hid n6; clear h6 hb6 n6) | (go_at_call 17; refine (K2.out _ _ (HBr.out.trans (Below.mono (B := wr.heap.size) (Below.trans N6.out (Below.mono (B := w6.heap.size) (by go_grown) N6.out.size)) HBr.out.size)) (bo_drew H6.out (by rfl))).mono ?_; rintro e w7 ⟨v7, rfl, h7, hb7⟩; obtain ⟨a7, c7, rfl, x7⟩ := id h7; have n7 : Below wr.heap.size wr w7 := N6.out.trans ((below_heap hb7 (by first | exact .inl rfl | exact .inr rfl)).mono N6.out.size); obtain ⟨q0, q1, q2, t0, t1, t2⟩ := (HRr.out.below n7).cells; have H7 := Lib.hid (IB.at h7); have N7 := Lib.hid n7; clear x7 h7 hb7 n7) | (go_at_call 18; refine (sameRan_same 0 ot hR20 (in_drew H7.out (by rfl)) (in_drew (HIr.out.stepAt N7.out) (by rfl))).mono ?_; rintro e w8 ⟨rfl, hb8⟩; have n8 : Below wr.heap.size wr w8 := N7.out.trans ((below_heap hb8 (by first | exact .inl rfl | exact .inr rfl)).mono N7.out.size); obtain ⟨q0, q1, q2, t0, t1, t2⟩ := (HRr.out.below n8).cells; have N8 := Lib.hid n8; clear hb8 n8)
              | fail)
          all_goals
            go_wp2_with fail
            go_ret
            exact ⟨rfl, hb1.trans ((HBr.out.trans (N8.out.mono HBr.out.size)).mono hb1.size)⟩
        · have hne : (cd != 0) = true := by rw [bne_iff_ne]; exact hcd
          obtain rfl : ot = ⟨#[]⟩ := F4.out hcd
          clear hcd
          go_wp2_with fail
          refine (alive_any _).mono ?_
          rintro e w6 ⟨rfl, hb6⟩
          have b6 := hb1.trans ((HBr.out.trans (hb6.mono HBr.out.size)).mono hb1.size)
          clear hb6
          go_wp2_with fail
          go_ret
          exact ⟨rfl, b6⟩

set_option maxHeartbeats 1000000 in
theorem long (a : Option Addr) (len cap : Nat) (w : World) (hl : 1048576 < len) :
    Calls Try.prog 5 #[.slice a len cap] w fun e w' => e = .returned (.bool true) ∧ Below w.heap.size w w' := by
  go_enter Try.func5, Try.ntmps5
  go_wp2
  go_ret
  exact ⟨rfl, Below.refl _ _⟩
theorem walk (a : Option Addr) (len cap : Nat) (w : World) (h : CodeIn w a len cap) :
    Calls Try.prog 5 #[.slice a len cap] w fun e w' => e = .returned (.bool true) ∧ Below w.heap.size w w' := by
  by_cases hl : len ≤ 1048576
  · exact short a len cap w h hl
  · exact long a len cap w (by omega)
end Prm

set_option maxRecDepth 100000 in
theorem roomRun_holds : Rows.FnRoomRunSaid :=
  OpenClaim.holds_of_wide 5 Try.f5 rfl rfl rfl rfl rfl rfl rfl ⟨rfl, rfl, rfl, rfl, rfl⟩ rfl rfl rfl rfl rfl (by kernel_rfl) Try.func5 (by kernel_rfl)
    (of_decide_eq_true (by kernel_rfl)) (by unfold Func.isWrapper; rw [if_neg (by decide +kernel)]; exact ⟨rfl, rfl⟩)
    (fun os started H enc _ => law_lifted (s := Rows.fnRoomRunSpec) (tb := 4) own started laid (by kernel_rfl) Try.func5 rfl (by kernel_rfl) Try.underlying4 (by kernel_rfl)
      (fun ds h => by rw [Try.params5] at h; match ds, h with | [_], _ => rfl)
      (ChangeSpec.witness6 (enc := enc) (C := Try.checked) false ⟨#[], #[.slice none 0 0], []⟩ 8 (by kernel_rfl) (by kernel_rfl) (by kernel_rfl) (by kernel_rfl))
      (law_code Try.params5 Prm.walk))
#print axioms roomRun_holds
end Go.Proofs.Ytfmidekffcjbgaa

/- The contract of the model's ShelfOk over this seat's translation: it answers as the plain function shOk of the releases; nothing that was there before the call has changed. Condition: at most 1048576 releases, needs of each, and spans of those. -/
import Derived.Test.YtdjnfmekbjmdhaaRoki
namespace Go.Proofs.Ytdjnfmekbjmdhaa
open Go.RowKit Go.Sort

set_option maxRecDepth 100000 in
set_option maxHeartbeats 8000000 in
theorem specShelfOk_any (v : Value) (S : List Rel) (w : World) (hl : S.length ≤ 1048576) (hq : ∀ q ∈ S, q.2.2.2.length ≤ 1048576 ∧ ∀ p ∈ q.2.2.2, p.2.length ≤ 1048576) (h : RlAt w w.heap.size v S) :
    Calls Try.prog 61 #[v] w fun e w' => e = .returned (.bool (shOk S)) ∧ Below w.heap.size w w' := by
  obtain ⟨sa, caps, rfl, h⟩ := h
  go_enter Try.func61, Try.ntmps61
  go_wp2
  go_loopw [3] (fun i wr => ShRel S w i wr) (fun i _ => S.length - (intOf i).toNat)
  case atStart => exact ⟨0, Nat.zero_le _, rfl, rfl, Below.refl _ _⟩
  case round =>
    obtain ⟨k, hk, rfl, ho, hb⟩ := hrel
    have HO := Lib.hid ho
    clear ho
    by_cases hlt : k < S.length
    · rcases h with h | ⟨g, o, rfl, hB, hc⟩
      · subst h
        exact absurd hlt (by simp)
      obtain ⟨x, a, b, c, d, f, M, hxy⟩ : ∃ x a b c d f M, S[k] = (x, (a, b, c, d), f, M) := ⟨_, _, _, _, _, _, _, rfl⟩
      have m1 := (hc k hlt).below hb hB
      rw [hxy] at m1
      obtain ⟨⟨k0, k1, k2, k3, k4, k5⟩, ad, cap, k6, hs⟩ := m1
      have hL : M.length ≤ 1048576 ∧ ∀ p ∈ M, p.2.length ≤ 1048576 := by have := hq _ (List.getElem_mem hlt); rwa [hxy] at this
      have hML := hL.1
      simp only at k0 k1 k2 k3 k4 k5 k6 hs
      have HS := Lib.hid (hs.mono hb.size)
      have HX := Lib.hid (show S[k]? = some (x, (a, b, c, d), f, M) by rw [List.getElem?_eq_getElem hlt, hxy])
      have HC := Lib.hid hc
      clear hxy hc hs
      have i0 : (0 : Int) ≤ (k : Int) := by omega
      have i1 : (k : Int) < (S.length : Int) := by omega
      obtain ⟨w1, hw1⟩ : ∃ V : World, V = wr.alloc (.cells #[.int .i64 x, .int .i64 a, .int .i64 b, .int .i64 c, .int .i64 d, .bool f, .slice ad M.length cap] 41) := ⟨_, rfl⟩
      have b1 : Below wr.heap.size wr w1 := by
        rw [hw1]
        exact (Below.refl wr.heap.size wr).alloc (Nat.le_refl _) _
      have s1 : wr.heap.size + 1 ≤ w1.heap.size := by rw [hw1]; simp
      have y1_0 : w1.cell? ⟨wr.heap.size, 0, none⟩ = some (.int .i64 x) := by rw [hw1]; go_simp
      have y1_1 : w1.cell? ⟨wr.heap.size, 1, none⟩ = some (.int .i64 a) := by rw [hw1]; go_simp
      have y1_2 : w1.cell? ⟨wr.heap.size, 2, none⟩ = some (.int .i64 b) := by rw [hw1]; go_simp
      have y1_3 : w1.cell? ⟨wr.heap.size, 3, none⟩ = some (.int .i64 c) := by rw [hw1]; go_simp
      have y1_4 : w1.cell? ⟨wr.heap.size, 4, none⟩ = some (.int .i64 d) := by rw [hw1]; go_simp
      have y1_6 : w1.cell? ⟨wr.heap.size, 6, none⟩ = some (.slice ad M.length cap) := by rw [hw1]; go_simp
      have HBR := Lib.hid hb
      have K1 := Lib.hid fun V => l1In_below x 0 7 V
      have K2 := Lib.hid fun V => specOk_any a b c d V
      have K3 := Lib.hid (show ∀ V, NdAt V V.heap.size (.slice ad M.length cap) M → _ from fun V g => specNeedsOk_any _ M V hL.1 hL.2 g)
      rcases r1 : inB x 0 7
      · have HF := Lib.hid (sh_bad HX.out HO.out (show relOk (x, (a, b, c, d), f, M) = false by simp [relOk, r1]))
        rw [r1] at K1
        clear r1
        go_upto_region 5 with fail
        rw [← hw1]
        clear hw1 hb k0 k1 k2 k3 k4 k5 k6
        go_wp2_with fail
        refine (K1.out _).mono ?_
        rintro e w2 ⟨rfl, hb⟩
        have b2 := b1.trans (hb.mono b1.size)
        have s2 : wr.heap.size + 1 ≤ w2.heap.size := Nat.le_trans s1 hb.size
        have y2_0 := (hb.cell (p := ⟨wr.heap.size, 0, none⟩) (by show wr.heap.size < w1.heap.size; omega)).trans y1_0
        have y2_1 := (hb.cell (p := ⟨wr.heap.size, 1, none⟩) (by show wr.heap.size < w1.heap.size; omega)).trans y1_1
        have y2_2 := (hb.cell (p := ⟨wr.heap.size, 2, none⟩) (by show wr.heap.size < w1.heap.size; omega)).trans y1_2
        have y2_3 := (hb.cell (p := ⟨wr.heap.size, 3, none⟩) (by show wr.heap.size < w1.heap.size; omega)).trans y1_3
        have y2_4 := (hb.cell (p := ⟨wr.heap.size, 4, none⟩) (by show wr.heap.size < w1.heap.size; omega)).trans y1_4
        have y2_6 := (hb.cell (p := ⟨wr.heap.size, 6, none⟩) (by show wr.heap.size < w1.heap.size; omega)).trans y1_6
        clear hb y1_0 y1_1 y1_2 y1_3 y1_4 y1_6
        go_wp2_with fail
        go_ret
        exact ⟨by rw [HF.out]; rfl, HBR.out.trans (b2.mono HBR.out.size)⟩
      rw [r1] at K1
      rcases r2 : vOk a b c d
      · have HF := Lib.hid (sh_bad HX.out HO.out (show relOk (x, (a, b, c, d), f, M) = false by simp [relOk, r2]))
        rw [r2] at K2
        clear r1 r2
        go_upto_region 5 with fail
        rw [← hw1]
        clear hw1 hb k0 k1 k2 k3 k4 k5 k6
        go_wp2_with fail
        refine (K1.out _).mono ?_
        rintro e w2 ⟨rfl, hb⟩
        have b2 := b1.trans (hb.mono b1.size)
        have s2 : wr.heap.size + 1 ≤ w2.heap.size := Nat.le_trans s1 hb.size
        have y2_0 := (hb.cell (p := ⟨wr.heap.size, 0, none⟩) (by show wr.heap.size < w1.heap.size; omega)).trans y1_0
        have y2_1 := (hb.cell (p := ⟨wr.heap.size, 1, none⟩) (by show wr.heap.size < w1.heap.size; omega)).trans y1_1
        have y2_2 := (hb.cell (p := ⟨wr.heap.size, 2, none⟩) (by show wr.heap.size < w1.heap.size; omega)).trans y1_2
        have y2_3 := (hb.cell (p := ⟨wr.heap.size, 3, none⟩) (by show wr.heap.size < w1.heap.size; omega)).trans y1_3
        have y2_4 := (hb.cell (p := ⟨wr.heap.size, 4, none⟩) (by show wr.heap.size < w1.heap.size; omega)).trans y1_4
        have y2_6 := (hb.cell (p := ⟨wr.heap.size, 6, none⟩) (by show wr.heap.size < w1.heap.size; omega)).trans y1_6
        clear hb y1_0 y1_1 y1_2 y1_3 y1_4 y1_6
        go_wp2_with fail
        refine (K2.out _).mono ?_
        rintro e w3 ⟨rfl, hb⟩
        have b3 := b2.trans (hb.mono b2.size)
        have s3 : wr.heap.size + 1 ≤ w3.heap.size := Nat.le_trans s2 hb.size
        have y3_0 := (hb.cell (p := ⟨wr.heap.size, 0, none⟩) (by show wr.heap.size < w2.heap.size; omega)).trans y2_0
        have y3_1 := (hb.cell (p := ⟨wr.heap.size, 1, none⟩) (by show wr.heap.size < w2.heap.size; omega)).trans y2_1
        have y3_2 := (hb.cell (p := ⟨wr.heap.size, 2, none⟩) (by show wr.heap.size < w2.heap.size; omega)).trans y2_2
        have y3_3 := (hb.cell (p := ⟨wr.heap.size, 3, none⟩) (by show wr.heap.size < w2.heap.size; omega)).trans y2_3
        have y3_4 := (hb.cell (p := ⟨wr.heap.size, 4, none⟩) (by show wr.heap.size < w2.heap.size; omega)).trans y2_4
        have y3_6 := (hb.cell (p := ⟨wr.heap.size, 6, none⟩) (by show wr.heap.size < w2.heap.size; omega)).trans y2_6
        clear hb y2_0 y2_1 y2_2 y2_3 y2_4 y2_6
        go_wp2_with fail
        go_ret
        exact ⟨by rw [HF.out]; rfl, HBR.out.trans (b3.mono HBR.out.size)⟩
      rw [r2] at K2
      rcases r3 : ndOk M
      · have HF := Lib.hid (sh_bad HX.out HO.out (show relOk (x, (a, b, c, d), f, M) = false by simp [relOk, r3]))
        rw [r3] at K3
        clear r1 r2 r3
        go_upto_region 5 with fail
        rw [← hw1]
        clear hw1 hb k0 k1 k2 k3 k4 k5 k6
        go_wp2_with fail
        refine (K1.out _).mono ?_
        rintro e w2 ⟨rfl, hb⟩
        have b2 := b1.trans (hb.mono b1.size)
        have s2 : wr.heap.size + 1 ≤ w2.heap.size := Nat.le_trans s1 hb.size
        have y2_0 := (hb.cell (p := ⟨wr.heap.size, 0, none⟩) (by show wr.heap.size < w1.heap.size; omega)).trans y1_0
        have y2_1 := (hb.cell (p := ⟨wr.heap.size, 1, none⟩) (by show wr.heap.size < w1.heap.size; omega)).trans y1_1
        have y2_2 := (hb.cell (p := ⟨wr.heap.size, 2, none⟩) (by show wr.heap.size < w1.heap.size; omega)).trans y1_2
        have y2_3 := (hb.cell (p := ⟨wr.heap.size, 3, none⟩) (by show wr.heap.size < w1.heap.size; omega)).trans y1_3
        have y2_4 := (hb.cell (p := ⟨wr.heap.size, 4, none⟩) (by show wr.heap.size < w1.heap.size; omega)).trans y1_4
        have y2_6 := (hb.cell (p := ⟨wr.heap.size, 6, none⟩) (by show wr.heap.size < w1.heap.size; omega)).trans y1_6
        clear hb y1_0 y1_1 y1_2 y1_3 y1_4 y1_6
        go_wp2_with fail
        refine (K2.out _).mono ?_
        rintro e w3 ⟨rfl, hb⟩
        have b3 := b2.trans (hb.mono b2.size)
        have s3 : wr.heap.size + 1 ≤ w3.heap.size := Nat.le_trans s2 hb.size
        have y3_0 := (hb.cell (p := ⟨wr.heap.size, 0, none⟩) (by show wr.heap.size < w2.heap.size; omega)).trans y2_0
        have y3_1 := (hb.cell (p := ⟨wr.heap.size, 1, none⟩) (by show wr.heap.size < w2.heap.size; omega)).trans y2_1
        have y3_2 := (hb.cell (p := ⟨wr.heap.size, 2, none⟩) (by show wr.heap.size < w2.heap.size; omega)).trans y2_2
        have y3_3 := (hb.cell (p := ⟨wr.heap.size, 3, none⟩) (by show wr.heap.size < w2.heap.size; omega)).trans y2_3
        have y3_4 := (hb.cell (p := ⟨wr.heap.size, 4, none⟩) (by show wr.heap.size < w2.heap.size; omega)).trans y2_4
        have y3_6 := (hb.cell (p := ⟨wr.heap.size, 6, none⟩) (by show wr.heap.size < w2.heap.size; omega)).trans y2_6
        clear hb y2_0 y2_1 y2_2 y2_3 y2_4 y2_6
        go_wp2_with fail
        refine (K3.out _ (HS.out.stepAt b3)).mono ?_
        rintro e w4 ⟨rfl, hb⟩
        have b4 := b3.trans (hb.mono b3.size)
        have s4 : wr.heap.size + 1 ≤ w4.heap.size := Nat.le_trans s3 hb.size
        have y4_0 := (hb.cell (p := ⟨wr.heap.size, 0, none⟩) (by show wr.heap.size < w3.heap.size; omega)).trans y3_0
        have y4_1 := (hb.cell (p := ⟨wr.heap.size, 1, none⟩) (by show wr.heap.size < w3.heap.size; omega)).trans y3_1
        have y4_2 := (hb.cell (p := ⟨wr.heap.size, 2, none⟩) (by show wr.heap.size < w3.heap.size; omega)).trans y3_2
        have y4_3 := (hb.cell (p := ⟨wr.heap.size, 3, none⟩) (by show wr.heap.size < w3.heap.size; omega)).trans y3_3
        have y4_4 := (hb.cell (p := ⟨wr.heap.size, 4, none⟩) (by show wr.heap.size < w3.heap.size; omega)).trans y3_4
        have y4_6 := (hb.cell (p := ⟨wr.heap.size, 6, none⟩) (by show wr.heap.size < w3.heap.size; omega)).trans y3_6
        clear hb y3_0 y3_1 y3_2 y3_3 y3_4 y3_6
        go_wp2_with fail
        go_ret
        exact ⟨by rw [HF.out]; rfl, HBR.out.trans (b4.mono HBR.out.size)⟩
      rw [r3] at K3
      have HRO := Lib.hid (show relOk (x, (a, b, c, d), f, M) = !hasName x M by simp [relOk, r1, r2, r3])
      clear r1 r2 r3
      go_upto_region 5 with fail
      rw [← hw1]
      clear hw1 hb k0 k1 k2 k3 k4 k5 k6
      go_wp2_with fail
      refine (K1.out _).mono ?_
      rintro e w2 ⟨rfl, hb⟩
      have b2 := b1.trans (hb.mono b1.size)
      have s2 : wr.heap.size + 1 ≤ w2.heap.size := Nat.le_trans s1 hb.size
      have y2_0 := (hb.cell (p := ⟨wr.heap.size, 0, none⟩) (by show wr.heap.size < w1.heap.size; omega)).trans y1_0
      have y2_1 := (hb.cell (p := ⟨wr.heap.size, 1, none⟩) (by show wr.heap.size < w1.heap.size; omega)).trans y1_1
      have y2_2 := (hb.cell (p := ⟨wr.heap.size, 2, none⟩) (by show wr.heap.size < w1.heap.size; omega)).trans y1_2
      have y2_3 := (hb.cell (p := ⟨wr.heap.size, 3, none⟩) (by show wr.heap.size < w1.heap.size; omega)).trans y1_3
      have y2_4 := (hb.cell (p := ⟨wr.heap.size, 4, none⟩) (by show wr.heap.size < w1.heap.size; omega)).trans y1_4
      have y2_6 := (hb.cell (p := ⟨wr.heap.size, 6, none⟩) (by show wr.heap.size < w1.heap.size; omega)).trans y1_6
      clear hb y1_0 y1_1 y1_2 y1_3 y1_4 y1_6
      go_wp2_with fail
      refine (K2.out _).mono ?_
      rintro e w3 ⟨rfl, hb⟩
      have b3 := b2.trans (hb.mono b2.size)
      have s3 : wr.heap.size + 1 ≤ w3.heap.size := Nat.le_trans s2 hb.size
      have y3_0 := (hb.cell (p := ⟨wr.heap.size, 0, none⟩) (by show wr.heap.size < w2.heap.size; omega)).trans y2_0
      have y3_1 := (hb.cell (p := ⟨wr.heap.size, 1, none⟩) (by show wr.heap.size < w2.heap.size; omega)).trans y2_1
      have y3_2 := (hb.cell (p := ⟨wr.heap.size, 2, none⟩) (by show wr.heap.size < w2.heap.size; omega)).trans y2_2
      have y3_3 := (hb.cell (p := ⟨wr.heap.size, 3, none⟩) (by show wr.heap.size < w2.heap.size; omega)).trans y2_3
      have y3_4 := (hb.cell (p := ⟨wr.heap.size, 4, none⟩) (by show wr.heap.size < w2.heap.size; omega)).trans y2_4
      have y3_6 := (hb.cell (p := ⟨wr.heap.size, 6, none⟩) (by show wr.heap.size < w2.heap.size; omega)).trans y2_6
      clear hb y2_0 y2_1 y2_2 y2_3 y2_4 y2_6
      go_wp2_with fail
      refine (K3.out _ (HS.out.stepAt b3)).mono ?_
      rintro e w4 ⟨rfl, hb⟩
      have b4 := b3.trans (hb.mono b3.size)
      have s4 : wr.heap.size + 1 ≤ w4.heap.size := Nat.le_trans s3 hb.size
      have y4_0 := (hb.cell (p := ⟨wr.heap.size, 0, none⟩) (by show wr.heap.size < w3.heap.size; omega)).trans y3_0
      have y4_1 := (hb.cell (p := ⟨wr.heap.size, 1, none⟩) (by show wr.heap.size < w3.heap.size; omega)).trans y3_1
      have y4_2 := (hb.cell (p := ⟨wr.heap.size, 2, none⟩) (by show wr.heap.size < w3.heap.size; omega)).trans y3_2
      have y4_3 := (hb.cell (p := ⟨wr.heap.size, 3, none⟩) (by show wr.heap.size < w3.heap.size; omega)).trans y3_3
      have y4_4 := (hb.cell (p := ⟨wr.heap.size, 4, none⟩) (by show wr.heap.size < w3.heap.size; omega)).trans y3_4
      have y4_6 := (hb.cell (p := ⟨wr.heap.size, 6, none⟩) (by show wr.heap.size < w3.heap.size; omega)).trans y3_6
      clear hb y3_0 y3_1 y3_2 y3_3 y3_4 y3_6
      have hM := HS.out.stepAt b4
      obtain ⟨ax, cx, e1, hM⟩ := hM
      simp only [Value.slice.injEq] at e1
      obtain ⟨rfl, e2, rfl⟩ := e1
      clear e2
      have HM := Lib.hid hM
      clear hM
      go_wp2_with fail
      go_loopw [5] (fun j w' => ∃ i : Nat, i ≤ M.length ∧ j = .int .i64 (i : Int) ∧ hasName x M = hasName x (M.drop i) ∧ Below w4.heap.size w4 w') (fun j _ => M.length - (intOf j).toNat)
      case atStart => exact ⟨0, Nat.zero_le _, rfl, rfl, Below.refl _ _⟩
      case round =>
        rename World => w5
        obtain ⟨i, hi, rfl, hh, hb⟩ := hrel
        have HH := Lib.hid hh
        have HB := Lib.hid hb
        have b5 := Lib.hid (HBR.out.trans ((b4.trans (hb.mono b4.size)).mono HBR.out.size))
        have y5_0 := (hb.cell (p := ⟨wr.heap.size, 0, none⟩) (by show wr.heap.size < w4.heap.size; omega)).trans y4_0
        have y5_1 := (hb.cell (p := ⟨wr.heap.size, 1, none⟩) (by show wr.heap.size < w4.heap.size; omega)).trans y4_1
        have y5_2 := (hb.cell (p := ⟨wr.heap.size, 2, none⟩) (by show wr.heap.size < w4.heap.size; omega)).trans y4_2
        have y5_3 := (hb.cell (p := ⟨wr.heap.size, 3, none⟩) (by show wr.heap.size < w4.heap.size; omega)).trans y4_3
        have y5_4 := (hb.cell (p := ⟨wr.heap.size, 4, none⟩) (by show wr.heap.size < w4.heap.size; omega)).trans y4_4
        have y5_6 := (hb.cell (p := ⟨wr.heap.size, 6, none⟩) (by show wr.heap.size < w4.heap.size; omega)).trans y4_6
        clear hh y4_0 y4_1 y4_2 y4_3 y4_4 y4_6
        by_cases hil : i < M.length
        · rcases HM.out with hM | ⟨b2, o2, rfl, hB2, hM⟩
          · subst hM
            exact absurd hil (by simp)
          obtain ⟨y, L, hyL⟩ : ∃ y L, M[i] = (y, L) := ⟨_, _, rfl⟩
          have c0 := ((hM i hil).below hb hB2).1
          rw [hyL] at c0
          simp only at c0
          have HY := Lib.hid (show M[i]? = some (y, L) by rw [List.getElem?_eq_getElem hil, hyL])
          clear hM hyL hb
          have q0 : (0 : Int) ≤ (i : Int) := by omega
          have q1 : (i : Int) < (M.length : Int) := by omega
          by_cases hyx : y = x
          · have HF := Lib.hid (sh_bad HX.out HO.out (show relOk (x, (a, b, c, d), f, M) = false by rw [HRO.out, HH.out, hasName_step HY.out]; simp [hyx]))
            subst hyx
            go_wp2_with fail
            go_quiet (fail)
            go_wp2_with fail
            go_ret
            exact ⟨by rw [HF.out]; rfl, b5.out.trans ⟨rfl, rfl, rfl, Nat.le_refl _, fun _ _ => rfl⟩⟩
          · have HP := Lib.hid (show hasName x M = hasName x (M.drop (i + 1)) by rw [HH.out, hasName_step HY.out]; simp [hyx])
            have hz : (y == x) = false := by rw [beq_eq_false_iff_ne]; exact hyx
            go_wp2_with fail
            go_quiet (fail)
            go_wp2_with fail
            go_roundw
            case rel => exact ⟨i + 1, by omega, by go_num, HP.out, HB.out.trans ⟨rfl, rfl, rfl, Nat.le_refl _, fun _ _ => rfl⟩⟩
            case measure => simp [intOf]; omega
        · obtain rfl : i = M.length := by omega
          have HR := Lib.hid (show relOk (x, (a, b, c, d), f, M) = true by rw [HRO.out, HH.out, List.drop_length]; rfl)
          clear hb
          have s5 : wr.heap.size < w5.heap.size := Nat.lt_of_lt_of_le (by omega) HB.out.size
          have t0 := cell_regrown y5_0
          have t1 := cell_regrown y5_1
          have t2 := cell_regrown y5_2
          have t3 := cell_regrown y5_3
          have t4 := cell_regrown y5_4
          clear y5_0 y5_1 y5_2 y5_3 y5_4
          rcases Nat.eq_zero_or_pos k with hkz | hkp
          · have hk0 : decide ((0 : Int) < (k : Int)) = false := decide_eq_false (by omega)
            have hk1 : decide (0 < k) = false := decide_eq_false (by omega)
            have HN := Lib.hid (show ∀ p, relAt S k = some p → relLess p (x, (a, b, c, d), f, M) = true from fun p hp => by rw [hkz] at hp; cases hp)
            clear hkz
            go_wp2_with fail
            refine wp_region_quiet_below (by kernel_rfl) (by kernel_rfl) ?_
            repeat (any_goals (first | go_big_quiet_step (fail) | quiet_step (fail)))
            refine wpQuiet_nil ?_
            intro W2 hw
            have nn := quiet_end hw
            clear hw t0 t1 t2 t3 t4
            have HP := Lib.hid (sh_push HX.out HO.out HR.out HN.out (b5.out.trans (nn.mono b5.out.size)))
            go_wp2_with fail
            go_roundw
            case rel => exact HP.out
            case measure => simp [intOf]; omega
          · obtain ⟨m, rfl⟩ : ∃ m, k = m + 1 := ⟨k - 1, by omega⟩
            have hmS : m < S.length := by omega
            obtain ⟨x', a', b', c', d', f', M', hxy'⟩ : ∃ x a b c d f M, S[m] = (x, (a, b, c, d), f, M) := ⟨_, _, _, _, _, _, _, rfl⟩
            have m1 := (HC.out m hmS).below b5.out hB
            rw [hxy'] at m1
            obtain ⟨⟨l0, l1, l2, l3, l4, l5⟩, ad', cap', l6, hs'⟩ := m1
            simp only at l0 l1 l2 l3 l4
            have hprev : relAt S (m + 1) = some (x', (a', b', c', d'), f', M') := by show S[m]? = _; rw [List.getElem?_eq_getElem hmS, hxy']
            have HPV := Lib.hid hprev
            clear hxy' hs' hprev l5 l6
            have j0 : (0 : Int) ≤ (m : Int) := by omega
            have j1 : (m : Int) < (S.length : Int) := by omega
            have hk0 : (0 : Int) < (m : Int) + 1 := by omega
            have u0 := cell_regrown l0
            have u1 := cell_regrown l1
            have u2 := cell_regrown l2
            have u3 := cell_regrown l3
            have u4 := cell_regrown l4
            clear l0 l1 l2 l3 l4
            have KL : Hid (∀ V, Calls Try.prog 63 #[ver a' b' c' d', ver a b c d] V fun e w' => e = .returned (.bool (vLess a' b' c' d' a b c d)) ∧ Below V.heap.size V w') := Lib.hid fun V => specLess_any a' b' c' d' a b c d V
            by_cases hgt : x < x'
            · have HF := Lib.hid (sh_row HX.out HO.out HPV.out (by unfold relLess; simp only; rw [if_neg (by omega)]; exact decide_eq_false (by omega)))
              go_wp2_with fail
              refine wp_region_quiet_below (by kernel_rfl) (by kernel_rfl) ?_
              repeat (any_goals (first | go_big_quiet_step (fail) | quiet_step (fail)))
              refine wpQuiet_nil ?_
              intro W2 hw
              have nn := quiet_end hw
              clear hw t0 t1 t2 t3 t4 u0 u1 u2 u3 u4
              go_wp2_with fail
              go_ret
              exact ⟨by rw [HF.out]; rfl, b5.out.trans (nn.mono b5.out.size)⟩
            by_cases heq : x' = x
            · have hz : (x' == x) = true := by simp [heq]
              rcases hv : vLess a' b' c' d' a b c d
              · have HF := Lib.hid (sh_row HX.out HO.out HPV.out (by unfold relLess; simp only; rw [if_pos heq]; exact hv))
                rw [hv] at KL
                clear hv
                subst heq
                go_wp2_with fail
                refine wp_region_quiet_below (by kernel_rfl) (by kernel_rfl) ?_
                repeat (any_goals (first | go_big_quiet_step ((go_at_call 63; exact Calls.regrown_of (KL.out _))) | quiet_step ((go_at_call 63; exact Calls.regrown_of (KL.out _)))))
                refine wpQuiet_nil ?_
                intro W2 hw
                have nn := quiet_end hw
                clear hw t0 t1 t2 t3 t4 u0 u1 u2 u3 u4
                go_wp2_with fail
                go_ret
                exact ⟨by rw [HF.out]; rfl, b5.out.trans (nn.mono b5.out.size)⟩
              · have HN := Lib.hid (show ∀ p, relAt S (m + 1) = some p → relLess p (x, (a, b, c, d), f, M) = true from fun p hp => by rw [HPV.out] at hp; cases hp; unfold relLess; simp only; rw [if_pos heq]; exact hv)
                rw [hv] at KL
                clear hv
                subst heq
                go_wp2_with fail
                refine wp_region_quiet_below (by kernel_rfl) (by kernel_rfl) ?_
                repeat (any_goals (first | go_big_quiet_step ((go_at_call 63; exact Calls.regrown_of (KL.out _))) | quiet_step ((go_at_call 63; exact Calls.regrown_of (KL.out _)))))
                refine wpQuiet_nil ?_
                intro W2 hw
                have nn := quiet_end hw
                clear hw t0 t1 t2 t3 t4 u0 u1 u2 u3 u4
                have HP := Lib.hid (sh_push HX.out HO.out HR.out HN.out (b5.out.trans (nn.mono b5.out.size)))
                go_wp2_with fail
                go_roundw
                case rel => exact HP.out
                case measure => simp [intOf]; omega
            · have hz : (x' == x) = false := by rw [beq_eq_false_iff_ne]; exact heq
              have hz2 : decide (x' = x) = false := decide_eq_false heq
              have hz3 : x' < x := by omega
              have hz4 : decide (x < x') = false := decide_eq_false hgt
              have HN := Lib.hid (show ∀ p, relAt S (m + 1) = some p → relLess p (x, (a, b, c, d), f, M) = true from fun p hp => by rw [HPV.out] at hp; cases hp; unfold relLess; simp only; rw [if_neg heq]; exact decide_eq_true (by omega))
              go_wp2_with fail
              refine wp_region_quiet_below (by kernel_rfl) (by kernel_rfl) ?_
              repeat (any_goals (first | go_big_quiet_step (fail) | quiet_step (fail)))
              refine wpQuiet_nil ?_
              intro W2 hw
              have nn := quiet_end hw
              clear hw t0 t1 t2 t3 t4 u0 u1 u2 u3 u4
              have HP := Lib.hid (sh_push HX.out HO.out HR.out HN.out (b5.out.trans (nn.mono b5.out.size)))
              go_wp2_with fail
              go_roundw
              case rel => exact HP.out
              case measure => simp [intOf]; omega
    · obtain rfl : k = S.length := by omega
      have HF := Lib.hid (show shOk S = decide ((S.length : Int) ≤ 30) by unfold shOk; rw [HO.out, List.drop_length]; simp only [shFrom, Bool.true_and]; exact decide_eq_decide.2 (by omega))
      go_wp2_with fail
      go_ret
      exact ⟨by rw [HF.out]; rfl, hb⟩

end Go.Proofs.Ytdjnfmekbjmdhaa

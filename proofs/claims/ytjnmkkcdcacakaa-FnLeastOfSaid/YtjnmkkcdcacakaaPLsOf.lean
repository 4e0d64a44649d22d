/- At every code the law FnLeastOf returns true: the program and the model ask for the same place of the drawn shelf; no release of the name that is not withdrawn and not before the first version of the range stands ahead of it, and it is one itself. No condition. -/
import Derived.BigFrame
import Derived.Deep.RegionHeld3
import Derived.Test.YtjnmkkcdcacakaaDlst
import Derived.Test.YtjnmkkcdcacakaaLsa
namespace Go.Proofs.Ytjnmkkcdcacakaa
open Go.ChangeShapes Go.WideShapes Go.ChangeAt Go.RowKit Go.Joins Go.Sort

namespace Plo
open Foot Dsh Dfi Dls Lst
theorem sp_step {L : Sps} {u : Value} {w V : World} (h : SpAt w w.heap.size u L) (hb : Below w.heap.size w V) : SpAt V V.heap.size u L := (h.below hb).mono hb.size
theorem least_at (S : List Rel) (n : Int) (L : Sps) : Lst.leastOf S n L = -1 ∨ ∃ (m : Nat) (x : Rel) (s : Int × Int) (t : Sps), L = s :: t ∧ Lst.leastOf S n L = (m : Int) ∧ S[m]? = some x ∧ asks n s.1 x = true ∧ ∀ j y, j < m → S[j]? = some y → asks n s.1 y = false := by
  unfold Lst.leastOf
  split
  · exact askAt_at n L
  · exact .inl rfl
theorem asks_is {n lo x a b c d : Int} {f : Bool} {M : List Nd} (h : asks n lo (x, (a, b, c, d), f, M) = true) : x = n ∧ f = false ∧ lo ≤ vRank a b c d := by
  unfold asks at h
  simp only [Bool.and_eq_true, decide_eq_true_eq, Bool.not_eq_true'] at h
  exact ⟨h.1, h.2.1, h.2.2⟩
set_option maxRecDepth 100000 in
set_option maxHeartbeats 8000000 in
theorem lsof_short (a : Option Addr) (len cap : Nat) (w : World) (h : CodeIn w a len cap) (hl : len ≤ 1048576) :
    Calls Try.prog 7 #[.slice a len cap] w fun e w' => e = .returned (.bool true) ∧ Below w.heap.size w w' := by
  go_enter Try.func7, Try.ntmps7
  go_wp2_with fail
  refine (DrawLeastOf_any a len cap w h).mono ?_
  rintro e w1 ⟨S, sa, caps, n, L, la, lc, rfl, hat1, hsp1, hl31, hsz, hL3, b1⟩
  have hl' : S.length ≤ 1048576 := by omega
  have hq := hsz.big
  have hLn : L.length ≤ 1048576 := by omega
  have KF : Hid (∀ V, RlAt V V.heap.size (.slice sa S.length caps) S → SpAt V V.heap.size (.slice la L.length lc) L → Calls Try.prog 17 #[.slice sa S.length caps, need n (.slice la L.length lc)] V fun e w' => e = .returned (.int .i64 (Lst.leastOf S n L)) ∧ Below V.heap.size V w') := Lib.hid fun V g g' => implLeastOf_any _ _ S n L V hl' hq hLn g g'
  have KG : Hid (∀ V, RlAt V V.heap.size (.slice sa S.length caps) S → SpAt V V.heap.size (.slice la L.length lc) L → Calls Try.prog 14 #[.slice sa S.length caps, need n (.slice la L.length lc)] V fun e w' => e = .returned (.int .i64 (Lst.leastOf S n L)) ∧ Below V.heap.size V w') := Lib.hid fun V g g' => specLeastOf_any _ _ S n L V hl' hq hLn g g'
  have KV : Hid (∀ V, Calls Try.prog 42 #[] V fun e w' => e = .returned (.bool true) ∧ Below V.heap.size V w') := Lib.hid fun V => alive_any V
  have H := Lib.hid hat1
  have HS := Lib.hid hsp1
  have hcase := least_at S n L
  clear hat1 hsp1 h hsz hq
  obtain ⟨w2, hw2⟩ : ∃ V : World, V = w1.alloc (.cells #[.int .i64 n, .slice la L.length lc] 37) := ⟨_, rfl⟩
  have n2 : Below w1.heap.size w1 w2 := by rw [hw2]; exact (Below.refl _ _).alloc (Nat.le_refl _) _
  have z12 : w1.heap.size < w2.heap.size := by rw [hw2]; simp
  have c0 : w2.cell? ⟨w1.heap.size, 0, none⟩ = some (.int .i64 n) := by rw [hw2]; go_simp
  have c1 : w2.cell? ⟨w1.heap.size, 1, none⟩ = some (.slice la L.length lc) := by rw [hw2]; go_simp
  obtain ⟨r, hr⟩ : ∃ r, Lst.leastOf S n L = r := ⟨_, rfl⟩
  rw [hr] at KF KG hcase
  have hrr : (r != r) = false := by simp
  clear hr
  go_upto_region 4 with fail
  rw [← hw2]
  clear hw2
  go_wp2_with fail
  refine (KF.out _ (H.out.stepAt n2) (sp_step HS.out n2)).mono ?_
  rintro e w3 ⟨rfl, hb⟩
  have n3 := n2.trans (hb.mono n2.size)
  have c0_3 := (hb.cell (p := ⟨w1.heap.size, 0, none⟩) (by show w1.heap.size < w2.heap.size; omega)).trans c0
  have c1_3 := (hb.cell (p := ⟨w1.heap.size, 1, none⟩) (by show w1.heap.size < w2.heap.size; omega)).trans c1
  have z13 : w1.heap.size < w3.heap.size := by have := hb.size; omega
  clear hb c0 c1
  go_wp2_with fail
  refine (KG.out _ (H.out.stepAt n3) (sp_step HS.out n3)).mono ?_
  rintro e w4 ⟨rfl, hb⟩
  have n4 := n3.trans (hb.mono n3.size)
  have c0_4 := (hb.cell (p := ⟨w1.heap.size, 0, none⟩) (by show w1.heap.size < w3.heap.size; omega)).trans c0_3
  have c1_4 := (hb.cell (p := ⟨w1.heap.size, 1, none⟩) (by show w1.heap.size < w3.heap.size; omega)).trans c1_3
  have z14 : w1.heap.size < w4.heap.size := by have := hb.size; omega
  have BW := Lib.hid (b1.trans (n4.mono b1.size))
  clear hb c0_3 c1_3 KF KG n2 n3
  rcases hcase with rfl | ⟨m, xm, s0, T, hLs, rfl, hxm, hym, hbef⟩
  · go_wp2_with fail
    go_loopw [6] (fun i wr => i = .int .i64 0 ∧ wr = w4) (fun _ _ => 0)
    case atStart => exact ⟨rfl, rfl⟩
    case round =>
      obtain ⟨rfl, rfl⟩ := hrel
      go_wp2_with fail
      refine wp_region_quiet_below (by kernel_rfl) (by kernel_rfl) ?_
      repeat (any_goals (first | go_big_quiet_step ((go_at_call 42; exact Calls.regrown_of (KV.out _))) | quiet_step ((go_at_call 42; exact Calls.regrown_of (KV.out _)))))
      refine wpQuiet_nil ?_
      intro W2 hw
      have nn := quiet_end hw
      clear hw
      go_wp2_with fail
      go_ret
      exact ⟨rfl, BW.out.trans (nn.mono BW.out.size)⟩
  · obtain ⟨lo, hi⟩ := s0
    simp only at hym hbef
    obtain ⟨nb, no, hla, hnB, hnc⟩ : ∃ b o, la = some ⟨b, o, none⟩ ∧ b < w1.heap.size ∧ ∀ i (h : i < L.length), w1.cell? ⟨b, o + i * 2, none⟩ = some (.int .i64 L[i].1) ∧ w1.cell? ⟨b, o + i * 2 + 1, none⟩ = some (.int .i64 L[i].2) := by
      obtain ⟨a', c', e', hh⟩ := HS.out
      simp only [Value.slice.injEq] at e'
      obtain ⟨rfl, _, _⟩ := e'
      rcases hh with hh | hh
      · rw [hh] at hLs; cases hLs
      · exact hh
    subst hla
    have hLp : 0 < L.length := by rw [hLs]; simp
    have q0 := (hnc 0 hLp).1
    have hL0 : L[0] = (lo, hi) := by simp [hLs]
    rw [hL0] at q0
    simp only [Nat.zero_mul, Nat.add_zero] at q0
    have q4 := (n4.cell (p := ⟨nb, no, none⟩) hnB).trans q0
    obtain ⟨l, hll⟩ : ∃ l, L.length = l := ⟨_, rfl⟩
    have i00 : (0 : Int) < (l : Int) := by omega
    have hmS : m < S.length := (List.getElem?_eq_some_iff.1 hxm).1
    obtain ⟨g, o, hsa, hB, hc⟩ : ∃ b o, sa = some ⟨b, o, none⟩ ∧ b < w1.heap.size ∧ ∀ i (h : i < S.length), RlC w1 w1.heap.size b (o + i * 7) S[i] := by
      obtain ⟨a', c', e', hh⟩ := H.out
      simp only [Value.slice.injEq] at e'
      obtain ⟨rfl, _, _⟩ := e'
      rcases hh with hh | hh
      · rw [hh] at hmS; simp at hmS
      · exact hh
    subst hsa
    rw [hll] at c1_4
    have HBEF := Lib.hid hbef
    have hm0 : (0 : Int) ≤ (m : Int) := by omega
    have hmI : (m : Int) < (S.length : Int) := by omega
    have hnm : ¬ (m : Int) < 0 := by omega
    have HXM := Lib.hid hxm
    have HYM := Lib.hid hym
    clear hnc hL0 q0 hLs hbef hxm hym hLp
    rw [hll]
    clear hll HS
    go_wp2_with fail
    go_loopw [6] (fun i wr => ∃ k : Nat, k ≤ m ∧ i = .int .i64 (k : Int) ∧ Below w4.heap.size w4 wr) (fun i _ => m - (intOf i).toNat)
    case atStart => exact ⟨0, Nat.zero_le _, rfl, Below.refl _ _⟩
    case round =>
      obtain ⟨k, hk, rfl, hb⟩ := hrel
      have nw := n4.trans (hb.mono n4.size)
      have z0 := cell_regrown ((hb.cell (p := ⟨w1.heap.size, 0, none⟩) (by show w1.heap.size < w4.heap.size; omega)).trans c0_4)
      have z1 := cell_regrown ((hb.cell (p := ⟨w1.heap.size, 1, none⟩) (by show w1.heap.size < w4.heap.size; omega)).trans c1_4)
      have z2 := cell_regrown ((hb.cell (p := ⟨nb, no, none⟩) (by show nb < w4.heap.size; omega)).trans q4)
      have HB := Lib.hid hb
      have hzb := hb.size
      have j0 : (0 : Int) ≤ (k : Int) := by omega
      by_cases hlt : k < m
      · have hkS : k < S.length := by omega
        obtain ⟨x, a, b, c, d, f, M, hxy⟩ : ∃ x a b c d f M, S[k] = (x, (a, b, c, d), f, M) := ⟨_, _, _, _, _, _, _, rfl⟩
        obtain ⟨⟨k0, k1, k2, k3, k4, k5⟩, _⟩ := (hc k hkS).below nw hB
        rw [hxy] at k0 k1 k2 k3 k4 k5
        simp only at k0 k1 k2 k3 k4 k5
        have hF := HBEF.out k _ hlt (show S[k]? = some (x, (a, b, c, d), f, M) by rw [List.getElem?_eq_getElem hkS, hxy])
        have t0 := cell_regrown k0
        have t1 := cell_regrown k1
        have t2 := cell_regrown k2
        have t3 := cell_regrown k3
        have t4 := cell_regrown k4
        have t5 := cell_regrown k5
        have j1 : (k : Int) < (m : Int) := by omega
        have j2 : (k : Int) < (S.length : Int) := by omega
        clear hxy hb k0 k1 k2 k3 k4 k5
        by_cases hn : x = n
        · have hz : (x == n) = true := by simp [hn]
          cases f
          · obtain ⟨r, hr⟩ : ∃ r, vRank a b c d = r := ⟨_, rfl⟩
            have KR : Hid (∀ V, Calls Try.prog 41 #[ver a b c d] V fun e w' => e = .returned (.int .i64 r) ∧ Below V.heap.size V w') := Lib.hid fun V => by have := implRank_any a b c d V; rwa [hr] at this
            have hge : ¬ lo ≤ r := fun e => by
              rw [hn, asks_yes (by rw [hr]; exact e)] at hF
              cases hF
            clear hr hF
            subst hn
            go_wp2_with fail
            refine wp_region_quiet_below (by kernel_rfl) (by kernel_rfl) ?_
            repeat (any_goals (first | go_big_quiet_step ((go_at_call 41; exact Calls.regrown_of (KR.out _))) | quiet_step ((go_at_call 41; exact Calls.regrown_of (KR.out _)))))
            refine wpQuiet_nil ?_
            intro W2 hw
            have nn := quiet_end hw
            have HP := Lib.hid (HB.out.trans (nn.mono HB.out.size))
            clear hw t0 t1 t2 t3 t4 t5 z0 z1 z2 nn
            go_wp2_with fail
            go_roundw
            case rel => exact ⟨k + 1, by omega, by go_num, HP.out⟩
            case measure => simp [intOf]; omega
          · clear hF
            subst hn
            go_wp2_with fail
            refine wp_region_quiet_below (by kernel_rfl) (by kernel_rfl) ?_
            repeat (any_goals (first | go_big_quiet_step (fail) | quiet_step (fail)))
            refine wpQuiet_nil ?_
            intro W2 hw
            have nn := quiet_end hw
            have HP := Lib.hid (HB.out.trans (nn.mono HB.out.size))
            clear hw t0 t1 t2 t3 t4 t5 z0 z1 z2 nn
            go_wp2_with fail
            go_roundw
            case rel => exact ⟨k + 1, by omega, by go_num, HP.out⟩
            case measure => simp [intOf]; omega
        · have hz : (x == n) = false := by rw [beq_eq_false_iff_ne]; exact hn
          have hz2 : decide (x = n) = false := decide_eq_false hn
          clear hF
          go_wp2_with fail
          refine wp_region_quiet_below (by kernel_rfl) (by kernel_rfl) ?_
          repeat (any_goals (first | go_big_quiet_step (fail) | quiet_step (fail)))
          refine wpQuiet_nil ?_
          intro W2 hw
          have nn := quiet_end hw
          have HP := Lib.hid (HB.out.trans (nn.mono HB.out.size))
          clear hw t0 t1 t2 t3 t4 t5 z0 z1 z2 nn
          go_wp2_with fail
          go_roundw
          case rel => exact ⟨k + 1, by omega, by go_num, HP.out⟩
          case measure => simp [intOf]; omega
      · obtain rfl : k = m := by omega
        obtain ⟨x, a, b, c, d, f, M, hxy⟩ : ∃ x a b c d f M, S[k] = (x, (a, b, c, d), f, M) := ⟨_, _, _, _, _, _, _, rfl⟩
        obtain ⟨⟨k0, k1, k2, k3, k4, k5⟩, _⟩ := (hc k hmS).below nw hB
        rw [hxy] at k0 k1 k2 k3 k4 k5
        simp only at k0 k1 k2 k3 k4 k5
        have hxx : xm = (x, (a, b, c, d), f, M) := by
          have := HXM.out
          rw [List.getElem?_eq_getElem hmS, hxy] at this
          exact (Option.some.inj this).symm
        obtain ⟨hn, rfl, hge⟩ := asks_is (hxx ▸ HYM.out)
        obtain ⟨r, hr⟩ : ∃ r, vRank a b c d = r := ⟨_, rfl⟩
        rw [hr] at hge
        have KR : Hid (∀ V, Calls Try.prog 41 #[ver a b c d] V fun e w' => e = .returned (.int .i64 r) ∧ Below V.heap.size V w') := Lib.hid fun V => by have := implRank_any a b c d V; rwa [hr] at this
        have hz : (x == n) = true := by simp [hn]
        have t0 := cell_regrown k0
        have t1 := cell_regrown k1
        have t2 := cell_regrown k2
        have t3 := cell_regrown k3
        have t4 := cell_regrown k4
        have t5 := cell_regrown k5
        clear hxy hxx hr hb k0 k1 k2 k3 k4 k5
        subst hn
        go_wp2_with fail
        refine wp_region_quiet_below (by kernel_rfl) (by kernel_rfl) ?_
        repeat (any_goals (first | go_big_quiet_step ((first | (go_at_call 41; exact Calls.regrown_of (KR.out _)) | (go_at_call 42; exact Calls.regrown_of (KV.out _)))) | quiet_step ((first | (go_at_call 41; exact Calls.regrown_of (KR.out _)) | (go_at_call 42; exact Calls.regrown_of (KV.out _))))))
        refine wpQuiet_nil ?_
        intro W2 hw
        have nn := quiet_end hw
        have HP := Lib.hid (HB.out.trans (nn.mono HB.out.size))
        clear hw t0 t1 t2 t3 t4 t5 z0 z1 z2 nn
        go_wp2_with fail
        go_ret
        exact ⟨rfl, BW.out.trans (HP.out.mono BW.out.size)⟩

set_option maxRecDepth 100000 in
set_option maxHeartbeats 1000000 in
theorem lsof_long (a : Option Addr) (len cap : Nat) (w : World) (hl : 1048576 < len) :
    Calls Try.prog 7 #[.slice a len cap] w fun e w' => e = .returned (.bool true) ∧ Below w.heap.size w w' := by
  go_enter Try.func7, Try.ntmps7
  go_wp2
  go_ret
  exact ⟨rfl, Below.refl _ _⟩

theorem lsof_walk (a : Option Addr) (len cap : Nat) (w : World) (h : CodeIn w a len cap) :
    Calls Try.prog 7 #[.slice a len cap] w fun e w' => e = .returned (.bool true) ∧ Below w.heap.size w w' := by
  by_cases hl : len ≤ 1048576
  · exact lsof_short a len cap w h hl
  · exact lsof_long a len cap w (by omega)
end Plo

set_option maxRecDepth 100000 in
theorem leastOfP_holds : Rows.FnLeastOfSaid :=
  OpenClaim.holds_of_wide 7 Try.f7 rfl rfl rfl rfl rfl rfl rfl ⟨rfl, rfl, rfl, rfl, rfl⟩ rfl rfl rfl rfl rfl (by kernel_rfl) Try.func7 (by kernel_rfl)
    (of_decide_eq_true (by kernel_rfl)) (by unfold Func.isWrapper; rw [if_neg (by decide +kernel)]; exact ⟨rfl, rfl⟩)
    (fun os started H enc _ => law_lifted (s := Rows.fnLeastOfSpec) (tb := 4) own started laid (by kernel_rfl) Try.func7 rfl (by kernel_rfl) Try.underlying4 (by kernel_rfl)
      (fun ds h => by rw [Try.params7] at h; match ds, h with | [_], _ => rfl)
      (ChangeSpec.witness6 (enc := enc) (C := Try.checked) false ⟨#[], #[.slice none 0 0], []⟩ 8 (by kernel_rfl) (by kernel_rfl) (by kernel_rfl) (by kernel_rfl))
      (law_code Try.params7 Plo.lsof_walk))
#print axioms leastOfP_holds

end Go.Proofs.Ytjnmkkcdcacakaa

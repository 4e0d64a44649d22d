/- At every code the law FnLeastNeeds returns true: the program and the model tell the same needs for the drawn picks; each has the name of its pick and a range that has its version; and they are needs. No condition. -/
import Derived.BigFrame
import Derived.Deep.RegionHeld3
import Derived.Test.YtgnjhmmedogcoaaDlst
import Derived.Test.YtgnjhmmedogcoaaShs
import Derived.Test.YtgnjhmmedogcoaaLsm
import Derived.Test.YtgnjhmmedogcoaaHas
namespace Go.Proofs.Ytgnjhmmedogcoaa
open Go.ChangeShapes Go.WideShapes Go.ChangeAt Go.RowKit Go.Joins Go.Sort

namespace Pln
open Foot Dsh Dfi Dnm Dls Dpk Nup Lst
theorem rank_in {a b c d : Int} (h : vOk a b c d = true) : vRank a b c d = rk a b c d ∧ 0 ≤ rk a b c d ∧ rk a b c d ≤ 9999999 := by
  have h1 := vOk_iff.1 h
  refine ⟨by simp [vRank, h], ?_⟩
  unfold rk
  omega
theorem span_ok {a b c d : Int} (h : vOk a b c d = true) : spOk [(vRank a b c d, 9999999)] = true ∧ hasL [(vRank a b c d, 9999999)] a b c d = true := by
  obtain ⟨h1, h2, h3⟩ := rank_in h
  have hs : spOk [(vRank a b c d, 9999999)] = true := by
    rw [h1]
    simp [spOk, okFrom, inB, h2, h3]
  refine ⟨hs, ?_⟩
  unfold hasL
  rw [hs, h, h1]
  simp [inL, inB, h3]
theorem pk_all : ∀ (C : List Pk) (lo : Int), pkFrom lo C = true → ∀ x ∈ C, vOk x.2.1 x.2.2.1 x.2.2.2.1 x.2.2.2.2 = true
  | [], _, _, x, h => by simp at h
  | y :: t, lo, hp, x, h => by
    simp only [pkFrom, Bool.and_eq_true] at hp
    rcases List.mem_cons.1 h with rfl | h
    · exact hp.2.1
    · exact pk_all t _ hp.2.2 x h
theorem ln_from : ∀ (C : List Pk) (lo : Int), pkFrom lo C = true → ∀ n, ndFrom lo ((C.take n).map needOf) = true
  | [], _, _, n => by simp [ndFrom]
  | y :: t, lo, hp, 0 => rfl
  | y :: t, lo, hp, n + 1 => by
    simp only [pkFrom, Bool.and_eq_true] at hp
    rw [List.take_succ_cons, List.map_cons]
    simp only [ndFrom, needOf, Bool.and_eq_true]
    exact ⟨hp.1, (span_ok hp.2.1).1, ln_from t _ hp.2.2 n⟩
theorem ln_ok (C : List Pk) : ndOk (lnL C) = true := by
  unfold lnL
  split
  · rename_i h
    unfold ndOk lnT
    rw [ln_from C 0 h 5]
    simp only [Bool.true_and, decide_eq_true_eq, List.length_map, List.length_take]
    omega
  · rfl
theorem ln_at {C : List Pk} {k : Nat} (hk : k < (lnL C).length) : ∃ x a b c d, C[k]? = some (x, a, b, c, d) ∧ (lnL C)[k]? = some (x, [(vRank a b c d, 9999999)]) ∧ hasL [(vRank a b c d, 9999999)] a b c d = true := by
  have hok : pkOk C = true := by
    rcases h : pkOk C
    · unfold lnL at hk; rw [h] at hk; simp at hk
    · rfl
  have he : lnL C = lnT C := by unfold lnL; rw [hok]; rfl
  rw [he] at hk ⊢
  have hl : (lnT C).length = min 5 C.length := by unfold lnT; rw [List.length_map, List.length_take]
  have hC : C[k]? = some (C[k]'(by omega)) := List.getElem?_eq_getElem (by omega)
  obtain ⟨x, a, b, c, d, hx⟩ : ∃ x a b c d, C[k]'(by omega) = (x, a, b, c, d) := ⟨_, _, _, _, _, rfl⟩
  rw [hx] at hC
  refine ⟨x, a, b, c, d, hC, lnT_at hC (by omega), (span_ok (pk_all C 0 hok _ (List.mem_of_getElem? hC))).2⟩
set_option maxRecDepth 100000 in
set_option maxHeartbeats 8000000 in
theorem lsnd_short (a : Option Addr) (len cap : Nat) (w : World) (h : CodeIn w a len cap) (hl : len ≤ 1048576) :
    Calls Try.prog 8 #[.slice a len cap] w fun e w' => e = .returned (.bool true) ∧ Below w.heap.size w w' := by
  go_enter Try.func8, Try.ntmps8
  go_wp2_with fail
  refine (DrawLeastNeeds_any a len cap w h).mono ?_
  rintro e w1 ⟨A, v, rfl, hown, hA7, b1⟩
  have hA : A.length ≤ 1048576 := by omega
  have H := Lib.hid hown.at
  obtain ⟨va, vc, rfl⟩ := hown.form
  have KI : Hid (∀ V, PkAt V V.heap.size (.slice va A.length vc) A → Calls Try.prog 31 #[.slice va A.length vc] V (fun e w' => ∃ v fs, e = .returned v ∧ NGrow w' V.heap.size v (lnL A) fs ∧ Below V.heap.size V w')) := Lib.hid fun V g => implLeastNeeds_any _ A V hA g
  have KS : Hid (∀ V, PkAt V V.heap.size (.slice va A.length vc) A → Calls Try.prog 29 #[.slice va A.length vc] V (fun e w' => ∃ v fs, e = .returned v ∧ NGrow w' V.heap.size v (lnL A) fs ∧ Below V.heap.size V w')) := Lib.hid fun V g => specLeastNeeds_any _ A V hA g
  have KV : Hid (∀ V, Calls Try.prog 37 #[] V fun e w' => e = .returned (.bool true) ∧ Below V.heap.size V w') := Lib.hid fun V => alive_any V
  have HM := Lib.hid (show (lnL A).length ≤ 1048576 from Nat.le_trans (lnL_len A) (by omega))
  have HMQ := Lib.hid (show ∀ q ∈ lnL A, q.2.length ≤ 1048576 from fun q hq => by rw [lnL_sz A q hq]; omega)
  have HAT := Lib.hid (fun k (hk : k < (lnL A).length) => ln_at (C := A) hk)
  have KN : Hid (∀ V u, NdAt V V.heap.size u (lnL A) → Calls Try.prog 47 #[u] V fun e w' => e = .returned (.bool true) ∧ Below V.heap.size V w') := Lib.hid fun V u g => by have := implNeedsOk_any u (lnL A) V HM.out HMQ.out g; rwa [ln_ok] at this
  obtain ⟨M, hM⟩ : ∃ X, lnL A = X := ⟨_, rfl⟩
  rw [hM] at KI KS HM HMQ HAT KN
  clear hM hown h
  go_wp2_with fail
  refine (KI.out _ H.out).mono ?_
  rintro e w2 ⟨v2, fs2, rfl, hg2, b2⟩
  have HN2 := Lib.hid hg2.own.at
  obtain ⟨na, nc, hv, hx⟩ := id hg2.own.at
  subst hv
  clear hx hg2
  go_wp2_with fail
  refine (KS.out _ (H.out.stepAt b2)).mono ?_
  rintro e w3 ⟨v3, fs3, rfl, hg3, hb⟩
  have b3 := b2.trans (hb.mono b2.size)
  have HN3 := Lib.hid (HN2.out.stepAt hb)
  have HS3 := Lib.hid hg3.own.at
  obtain ⟨ma, mc, hv, hx⟩ := id hg3.own.at
  subst hv
  clear hx hg3 hb HN2 b2
  go_wp2_with fail
  refine (Shs.sameNeeds_same _ _ M _ HM.out HMQ.out HN3.out HS3.out).mono ?_
  rintro e w4 ⟨rfl, hb⟩
  have b4 := b3.trans (hb.mono b3.size)
  have HN4 := Lib.hid (HN3.out.stepAt hb)
  have hMl := HM.out
  clear hb HN3 HS3 KI KS b3
  go_wp2_with fail
  go_loopw [5] (fun i wr => ∃ k : Nat, k ≤ M.length ∧ i = .int .i64 (k : Int) ∧ Below w4.heap.size w4 wr) (fun i _ => M.length - (intOf i).toNat)
  case atStart => exact ⟨0, Nat.zero_le _, rfl, Below.refl _ _⟩
  case round =>
    obtain ⟨k, hk, rfl, hb⟩ := hrel
    have m1 := b4.trans (hb.mono b4.size)
    by_cases hlt : k < M.length
    · obtain ⟨x, a', b', c', d', hAk, hMk, hhas⟩ := HAT.out k hlt
      obtain ⟨hA1, hA2⟩ := List.getElem?_eq_some_iff.1 hAk
      obtain ⟨_, hM2⟩ := List.getElem?_eq_some_iff.1 hMk
      obtain ⟨gb, go', hna, hB, hc⟩ : ∃ b o, na = some ⟨b, o, none⟩ ∧ b < w4.heap.size ∧ ∀ i (h : i < M.length), NdC w4 w4.heap.size b (o + i * 2) M[i] := by
        obtain ⟨a', c', e, hh⟩ := HN4.out
        simp only [Value.slice.injEq] at e
        obtain ⟨rfl, _, _⟩ := e
        rcases hh with hh | hh
        · rw [hh] at hlt; simp at hlt
        · exact hh
      subst hna
      obtain ⟨pb, po, hpa, hpB, hpc⟩ : ∃ b o, va = some ⟨b, o, none⟩ ∧ b < w1.heap.size ∧ ∀ i (h : i < A.length), PkC w1 b (o + i * 5) A[i] := by
        obtain ⟨a', c', e, hh⟩ := H.out
        simp only [Value.slice.injEq] at e
        obtain ⟨rfl, _, _⟩ := e
        rcases hh with hh | hh
        · rw [hh] at hA1; simp at hA1
        · exact hh
      subst hpa
      obtain ⟨d0, la, lc, d1, hs⟩ := (hc k hlt).below hb hB
      rw [hM2] at d0 d1 hs
      simp only at d0 d1 hs
      obtain ⟨e0, e1, e2, e3, e4⟩ := (hpc k hA1).below m1 hpB
      rw [hA2] at e0 e1 e2 e3 e4
      simp only at e0 e1 e2 e3 e4
      have HS := Lib.hid (hs.mono hb.size)
      obtain ⟨L, hL⟩ : ∃ L : Sps, [(vRank a' b' c' d', 9999999)] = L := ⟨_, rfl⟩
      have hLl : L.length = 1 := by rw [← hL]; rfl
      rw [hL] at d1 HS hhas
      have KH : Hid (∀ V u, SpAt V V.heap.size u L → Calls Try.prog 46 #[.agg #[u], ver a' b' c' d'] V fun e w' => e = .returned (.bool true) ∧ Below V.heap.size V w') := Lib.hid fun V u g => by have := implHas_any u L a' b' c' d' V (by omega) g; rwa [hhas] at this
      have t0 := cell_regrown d0
      have t1 := cell_regrown d1
      have u0 := cell_regrown e0
      have u1 := cell_regrown e1
      have u2 := cell_regrown e2
      have u3 := cell_regrown e3
      have u4 := cell_regrown e4
      have hz : (x != x) = false := by simp
      have j0 : (0 : Int) ≤ (k : Int) := by omega
      have j1 : (k : Int) < (M.length : Int) := by omega
      have j2 : (k : Int) < (A.length : Int) := by omega
      have HB := Lib.hid hb
      clear hc hpc hs hAk hMk hA2 hM2 hL hhas hLl d0 d1 e0 e1 e2 e3 e4 hb
      go_wp2_with fail
      refine wp_region_quiet_below (by kernel_rfl) (by kernel_rfl) ?_
      repeat (any_goals (first | go_big_quiet_step ((go_at_call 46; exact Calls.regrown_of (KH.out _ _ (HS.out.stepAt (below_regrown _ _ _))))) | quiet_step ((go_at_call 46; exact Calls.regrown_of (KH.out _ _ (HS.out.stepAt (below_regrown _ _ _)))))))
      refine wpQuiet_nil ?_
      intro W2 hw
      have nn := quiet_end hw
      have HP := Lib.hid (HB.out.trans (nn.mono HB.out.size))
      clear hw t0 t1 u0 u1 u2 u3 u4 nn
      go_wp2_with fail
      go_roundw
      case rel => exact ⟨k + 1, by omega, by go_num, HP.out⟩
      case measure => simp [intOf]; omega
    · obtain rfl : k = M.length := by omega
      go_wp2_with fail
      refine (KN.out _ _ (HN4.out.stepAt hb)).mono ?_
      rintro e w5 ⟨rfl, hb5⟩
      have m5 := m1.trans (hb5.mono m1.size)
      clear hb5
      go_wp2_with fail
      refine (KV.out _).mono ?_
      rintro e w6 ⟨rfl, hb6⟩
      have m6 := m5.trans (hb6.mono m5.size)
      clear hb6
      go_wp2_with fail
      go_ret
      exact ⟨rfl, b1.trans (m6.mono b1.size)⟩

set_option maxRecDepth 100000 in
set_option maxHeartbeats 1000000 in
theorem lsnd_long (a : Option Addr) (len cap : Nat) (w : World) (hl : 1048576 < len) :
    Calls Try.prog 8 #[.slice a len cap] w fun e w' => e = .returned (.bool true) ∧ Below w.heap.size w w' := by
  go_enter Try.func8, Try.ntmps8
  go_wp2
  go_ret
  exact ⟨rfl, Below.refl _ _⟩

theorem lsnd_walk (a : Option Addr) (len cap : Nat) (w : World) (h : CodeIn w a len cap) :
    Calls Try.prog 8 #[.slice a len cap] w fun e w' => e = .returned (.bool true) ∧ Below w.heap.size w w' := by
  by_cases hl : len ≤ 1048576
  · exact lsnd_short a len cap w h hl
  · exact lsnd_long a len cap w (by omega)
end Pln

set_option maxRecDepth 100000 in
theorem leastNeedsP_holds : Rows.FnLeastNeedsSaid :=
  OpenClaim.holds_of_wide 8 Try.f8 rfl rfl rfl rfl rfl rfl rfl ⟨rfl, rfl, rfl, rfl, rfl⟩ rfl rfl rfl rfl rfl (by kernel_rfl) Try.func8 (by kernel_rfl)
    (of_decide_eq_true (by kernel_rfl)) (by unfold Func.isWrapper; rw [if_neg (by decide +kernel)]; exact ⟨rfl, rfl⟩)
    (fun os started H enc _ => law_lifted (s := Rows.fnLeastNeedsSpec) (tb := 4) own started laid (by kernel_rfl) Try.func8 rfl (by kernel_rfl) Try.underlying4 (by kernel_rfl)
      (fun ds h => by rw [Try.params8] at h; match ds, h with | [_], _ => rfl)
      (ChangeSpec.witness6 (enc := enc) (C := Try.checked) false ⟨#[], #[.slice none 0 0], []⟩ 8 (by kernel_rfl) (by kernel_rfl) (by kernel_rfl) (by kernel_rfl))
      (law_code Try.params8 Pln.lsnd_walk))
#print axioms leastNeedsP_holds

end Go.Proofs.Ytgnjhmmedogcoaa

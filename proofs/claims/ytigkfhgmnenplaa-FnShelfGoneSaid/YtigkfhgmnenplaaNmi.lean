/- Contract of the program's ShelfNames, over this seat's translation: the names that come up, as the plain function snL tells them, in a row of their own; nothing that was there before the call has changed. Condition: at most 1048576 releases, needs, needs of each release, and spans of those. -/
import Derived.Test.YtigkfhgmnenplaaNup
import Derived.Test.YtigkfhgmnenplaaGd
namespace Go.Proofs.Ytigkfhgmnenplaa
open Go.RowKit Go.Sort

namespace Nup
/-- The names below a number that a row of needs has. -/
def nmTo (U : List Nd) : Nat → List Int
  | 0 => []
  | k + 1 => nmTo U k ++ (if hasName (k : Int) U = true then [(k : Int)] else [])
theorem nmTo_len (U : List Nd) : ∀ k, (nmTo U k).length ≤ k
  | 0 => Nat.le_refl _
  | k + 1 => by
    have := nmTo_len U k
    unfold nmTo
    split <;> simp <;> omega
def snL (S : List Rel) (N : List Nd) : List Int := if (shOk S && ndOk N) = true then nmTo (upL S N) 8 else []
theorem snL_len (S : List Rel) (N : List Nd) : (snL S N).length ≤ 8 := by
  unfold snL
  split
  · exact nmTo_len _ _
  · simp
theorem sh_all : ∀ (S : List Rel) (p : Option Rel), shFrom p S = true → ∀ q ∈ S, relOk q = true
  | [], _, _, q, h => by simp at h
  | y :: t, p, hs, q, h => by
    unfold shFrom at hs
    rw [Bool.and_eq_true, Bool.and_eq_true] at hs
    rcases List.mem_cons.1 h with rfl | h
    · exact hs.1
    · exact sh_all t _ hs.2.2 q h
theorem nd_len {M : List Nd} (h : ndOk M = true) : M.length ≤ 5 := by
  unfold ndOk at h
  rw [Bool.and_eq_true, decide_eq_true_eq] at h
  exact h.2
theorem sh_len {S : List Rel} (h : shOk S = true) : S.length ≤ 30 := by
  unfold shOk at h
  rw [Bool.and_eq_true, decide_eq_true_eq] at h
  exact h.2
theorem sh_needs {S : List Rel} (h : shOk S = true) : ∀ q ∈ S, ndOk q.2.2.2 = true := fun q hq => by
  unfold shOk at h
  rw [Bool.and_eq_true] at h
  have := sh_all S none h.1 q hq
  unfold relOk at this
  simp only [Bool.and_eq_true] at this
  exact this.2.2.1
theorem upL_len {S : List Rel} {N : List Nd} (hS : shOk S = true) (hN : ndOk N = true) : (upL S N).length ≤ 155 := by
  have h1 := sh_len hS
  have h2 := nd_len hN
  have h5 : ∀ q ∈ S, q.2.2.2.length ≤ 5 := fun q hq => nd_len (sh_needs hS q hq)
  have key : ∀ (f i : Nat) (st : St), Ok S N st → (run S f i st).length ≤ 155 := by
    intro f
    induction f with
    | zero => exact fun i st h => h.le h1 h2
    | succ f ih =>
      intro i st h
      rcases hn : st.2[i]? with _ | n
      · show (match st.2[i]? with | none => st.2 | some n => run S f (i + 1) (pass n 0 S st)).length ≤ 155
        rw [hn]
        exact h.le h1 h2
      · rw [run_step hn]
        refine ih _ _ ?_
        have pk : ∀ (m : Nat) (j : Nat) (s : St), S.length - j = m → Ok S N s → Ok S N (pass n j (S.drop j) s) := by
          intro m
          induction m with
          | zero =>
            intro j s hm hs
            rw [List.drop_of_length_le (by omega)]
            exact hs
          | succ m ih2 =>
            intro j s hm hs
            have hj : j < S.length := by omega
            rw [pass_step (List.getElem?_eq_getElem hj)]
            exact ih2 (j + 1) _ (by omega) (hs.hit n (List.getElem?_eq_getElem hj))
        have := pk S.length 0 st (by omega) h
        simpa using this
  exact key 200 0 _ (Ok.start h5)

set_option maxRecDepth 100000 in
set_option maxHeartbeats 8000000 in
theorem implShelfNames_any (v u : Value) (S : List Rel) (N : List Nd) (w : World) (hl : S.length ≤ 1048576) (hq : ∀ q ∈ S, q.2.2.2.length ≤ 1048576 ∧ ∀ p ∈ q.2.2.2, p.2.length ≤ 1048576) (hN : N.length ≤ 1048576) (hNq : ∀ q ∈ N, q.2.length ≤ 1048576) (h : RlAt w w.heap.size v S) (h' : NdAt w w.heap.size u N) :
    Calls Try.prog 32 #[v, u] w (IPost (snL S N) w) := by
  obtain ⟨i0, hi, hz0, hz1, hz2⟩ := info_parts infoInt
  obtain ⟨sa, caps, rfl, hx⟩ := id h
  obtain ⟨na, ncap, rfl, hy⟩ := id h'
  clear hx hy
  have H := Lib.hid h
  have H' := Lib.hid h'
  clear h h'
  have KS : Hid (∀ V, RlAt V V.heap.size (.slice sa S.length caps) S → Calls Try.prog 54 #[.slice sa S.length caps] V fun e w' => e = .returned (.bool (shOk S)) ∧ Below V.heap.size V w') := Lib.hid fun V g => implShelfOk_any _ S V hl hq g
  have KN : Hid (∀ V, NdAt V V.heap.size (.slice na N.length ncap) N → Calls Try.prog 55 #[.slice na N.length ncap] V fun e w' => e = .returned (.bool (ndOk N)) ∧ Below V.heap.size V w') := Lib.hid fun V g => implNeedsOk_any _ N V hN hNq g
  rcases hs : shOk S
  · rw [hs] at KS
    have HE := Lib.hid (show snL S N = [] by unfold snL; rw [hs]; rfl)
    clear hs KN
    go_enter Try.func32, Try.ntmps32
    go_wp2_with fail
    refine (KS.out _ (H.out.stepAt (by go_grown))).mono ?_
    rintro e w1 ⟨rfl, hb⟩
    go_wp2_with fail
    go_ret
    exact ⟨_, rfl, by rw [HE.out]; exact ib_nil _ _ _, hb⟩
  rcases hn : ndOk N
  · rw [hs] at KS
    rw [hn] at KN
    have HE := Lib.hid (show snL S N = [] by unfold snL; rw [hs, hn]; rfl)
    clear hs hn
    go_enter Try.func32, Try.ntmps32
    go_wp2_with fail
    refine (KS.out _ (H.out.stepAt (by go_grown))).mono ?_
    rintro e w1 ⟨rfl, hb⟩
    have b1 := hb
    clear hb
    go_wp2_with fail
    refine (KN.out _ (H'.out.stepAt b1)).mono ?_
    rintro e w2 ⟨rfl, hb⟩
    have b2 := b1.trans (hb.mono b1.size)
    go_wp2_with fail
    go_ret
    exact ⟨_, rfl, by rw [HE.out]; exact ib_nil _ _ _, b2⟩
  have hS5 : ∀ q ∈ S, q.2.2.2.length ≤ 5 ∧ ∀ p ∈ q.2.2.2, p.2.length ≤ 1048576 := fun q h => ⟨nd_len (sh_needs hs q h), (hq q h).2⟩
  have hUl := upL_len hs hn
  have HE := Lib.hid (show snL S N = nmTo (upL S N) 8 by unfold snL; rw [hs, hn]; rfl)
  have KU : Hid (∀ V, RlAt V V.heap.size (.slice sa S.length caps) S → NdAt V V.heap.size (.slice na N.length ncap) N → Calls Try.prog 83 #[.slice sa S.length caps, .slice na N.length ncap] V fun e w' => ∃ r, e = .returned r ∧ NdAt w' w'.heap.size r (upL S N) ∧ Below V.heap.size V w') := Lib.hid fun V g g' => needsUp_any _ _ S N V (sh_len hs) hS5 (nd_len hn) hNq g g'
  rw [hs] at KS
  rw [hn] at KN
  clear hs hn hS5
  generalize upL S N = U at *
  go_enter Try.func32, Try.ntmps32
  go_wp2_with fail
  refine (KS.out _ (H.out.stepAt (by go_grown))).mono ?_
  rintro e w1 ⟨rfl, hb⟩
  have b1 := hb
  clear hb
  go_wp2_with fail
  refine (KN.out _ (H'.out.stepAt b1)).mono ?_
  rintro e w2 ⟨rfl, hb⟩
  have b2 := b1.trans (hb.mono b1.size)
  clear hb
  go_wp2_with fail
  refine (KU.out _ (H.out.stepAt b2) (H'.out.stepAt b2)).mono ?_
  rintro e w3 ⟨r, rfl, hU, hb⟩
  have b3 := b2.trans (hb.mono b2.size)
  obtain ⟨ra, rc, rfl, hx⟩ := id hU
  have HU := Lib.hid hU
  have z3 := b3.size
  clear hb hx hU
  have hstart : IOwn w3 w3.heap.size (.slice none 0 0) (nmTo U 0) := World.ownsRow_nil _ _ _ _
  have HS0 := Lib.hid hstart
  clear hstart
  go_wp2_with fail
  go_loopw [5, 7] (fun v i wr => ∃ k : Nat, k ≤ 8 ∧ i = .int .i64 (k : Int) ∧ IOwn wr w3.heap.size v (nmTo U k) ∧ Below w3.heap.size w3 wr) (fun _ i _ => 8 - (intOf i).toNat)
  case atStart => exact ⟨0, Nat.zero_le _, rfl, HS0.out, Below.refl _ _⟩
  case round =>
    obtain ⟨k, hk, rfl, hown, hb⟩ := hrel
    obtain ⟨ga, gc, hv, hx⟩ := id (IOwn.ib hown).at
    subst hv
    clear hx
    have hnl := nmTo_len U k
    by_cases hlt : k < 8
    · have KH : Hid (∀ V, NdAt V V.heap.size (.slice ra U.length rc) U → Calls Try.prog 84 #[.slice ra U.length rc, .int .i64 (k : Int)] V fun e w' => e = .returned (.bool (hasName (k : Int) U)) ∧ Below V.heap.size V w') := Lib.hid fun V g => needsName_any _ U (k : Int) V (by omega) g
      have HW := Lib.hid (HU.out.stepAt hb)
      have hk7 : (k : Int) ≤ 7 := by omega
      have HO := Lib.hid hown
      rcases hh : hasName (k : Int) U
      · have HT := Lib.hid (show nmTo U (k + 1) = nmTo U k by show nmTo U k ++ _ = _; rw [hh]; simp)
        rw [hh] at KH
        clear hh hown
        go_wp2_with fail
        refine (KH.out _ HW.out).mono ?_
        rintro e w4 ⟨rfl, hb4⟩
        have HR := Lib.hid (show ∃ k' : Nat, k' ≤ 8 ∧ Value.int .i64 ((k : Int) + 1) = .int .i64 (k' : Int) ∧ IOwn w4 w3.heap.size (.slice ga (nmTo U k).length gc) (nmTo U k') ∧ Below w3.heap.size w3 w4 from ⟨k + 1, by omega, by go_num, by rw [HT.out]; exact IOwn.below HO.out hb4, hb.trans (hb4.mono hb.size)⟩)
        clear hb4
        go_wp2_with fail
        go_roundw
        case rel => exact HR.out
        case measure => simp [intOf]; omega
      · have HT := Lib.hid (show nmTo U (k + 1) = nmTo U k ++ [(k : Int)] by show nmTo U k ++ _ = _; rw [hh]; simp)
        rw [hh] at KH
        clear hh hown
        go_wp2_with fail
        refine (KH.out _ HW.out).mono ?_
        rintro e w4 ⟨rfl, hb4⟩
        have o4 := IOwn.below HO.out hb4
        have b4 : Below w3.heap.size w3 w4 := hb.trans (hb4.mono hb.size)
        have z4 := b4.size
        clear hb4
        go_wp2_with (at_builtin; refine wpList_append_own _ rfl _ _ 48 rfl w3.heap.size 3 i0 (.int .i64 0) 1 8 Try.underlying48 hi hz0 hz1 hz2 rfl (by decide) _ _ _ rfl (o4.below ((Below.refl w4.heap.size w4).alloc (Nat.le_refl _) (.cells #[.int .i64 (k : Int)] 3))) ⟨w4.heap.size, 0, none⟩ 1 1 [.int .i64 (k : Int)] rfl rfl (one_new w4 (k : Int)) (one_one _) (by unfold maxLen; omega) (by omega) (by simp; omega) ?_)
        intro v' w5 hown' hgrow hnn
        have HR := Lib.hid (show ∃ k' : Nat, k' ≤ 8 ∧ Value.int .i64 ((k : Int) + 1) = .int .i64 (k' : Int) ∧ IOwn w5 w3.heap.size v' (nmTo U k') ∧ Below w3.heap.size w3 w5 from ⟨k + 1, by omega, by go_num, by rw [HT.out]; exact IOwn.push hown', IOwn.gone o4 b4 z4 hgrow⟩)
        clear hown' hgrow o4 b4 hnn
        go_wp2_with fail
        go_roundw
        case rel => exact HR.out
        case measure => simp [intOf]; omega
    · obtain rfl : k = 8 := by omega
      have hk7 : ¬ ((8 : Nat) : Int) ≤ 7 := by omega
      have HO := Lib.hid hown
      clear hown
      go_wp2_with fail
      go_ret
      exact ⟨_, rfl, by rw [HE.out]; exact (IOwn.ib HO.out).mono z3, b3.trans (hb.mono z3)⟩
end Nup
end Go.Proofs.Ytigkfhgmnenplaa

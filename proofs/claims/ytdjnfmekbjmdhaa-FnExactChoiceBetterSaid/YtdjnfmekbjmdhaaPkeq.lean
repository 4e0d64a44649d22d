/- Contracts of the laws' functions that compare picks, over this seat's translation: they answer whether the picks are the same; nothing that was there before the call has changed. Condition: at most 1048576 picks. -/
import Derived.Test.YtdjnfmekbjmdhaaPkto
namespace Go.Proofs.Ytdjnfmekbjmdhaa
open Go.RowKit Go.Sort

set_option maxRecDepth 100000 in
set_option maxHeartbeats 2000000 in
theorem eqPick_any (x a b c d x' a' b' c' d' : Int) (w : World) :
    Calls Try.prog 84 #[pick x a b c d, pick x' a' b' c' d'] w fun e w' => e = .returned (.bool (decide (((x, a, b, c, d) : Pk) = (x', a', b', c', d')))) ∧ Below w.heap.size w w' := by
  have KV := Lib.hid fun V => eqVersion_any a b c d a' b' c' d' V
  by_cases hx : x = x'
  · subst hx
    have b0 : ∀ o p, Below w.heap.size w ((w.alloc o).alloc p) := fun o p => ((Below.refl w.heap.size w).alloc (Nat.le_refl _) o).alloc (by simp) p
    have hr : decide (((x, a, b, c, d) : Pk) = (x, a', b', c', d')) = vEq a b c d a' b' c' d' := by
      unfold vEq
      by_cases h1 : a = a' <;> by_cases h2 : b = b' <;> by_cases h3 : c = c' <;> by_cases h4 : d = d' <;> simp [h1, h2, h3, h4]
    rw [hr]
    clear hr
    rcases hv : vEq a b c d a' b' c' d'
    all_goals
      rw [hv] at KV
      clear hv
      go_enter Try.func84, Try.ntmps84
      go_wp2_with fail
      refine (KV.out _).mono ?_
      rintro e w2 ⟨rfl, hb⟩
      have b2 := (b0 _ _).trans (hb.mono (b0 _ _).size)
      clear hb
      go_wp2_with fail
      go_ret
      exact ⟨rfl, b2⟩
  · rw [decide_eq_false (p := ((x, a, b, c, d) : Pk) = (x', a', b', c', d')) (fun e => by simp only [Prod.mk.injEq] at e; exact hx e.1)]
    go_enter Try.func84, Try.ntmps84
    go_wp2_with fail
    go_ret
    exact ⟨rfl, ((Below.refl w.heap.size w).alloc (Nat.le_refl _) _).alloc (by simp) _⟩

/-- What the loop of eqPickS keeps: the first k picks are alike. -/
def PEqRel (M N : List Pk) (w : World) (i : Value) (wr : World) : Prop :=
  ∃ k : Nat, k ≤ M.length ∧ i = .int .i64 (k : Int) ∧ M.take k = N.take k ∧ Below w.heap.size w wr

theorem peq_push {M N : List Pk} {w wr : World} {k : Nat} {q : Pk} (hk : k < M.length) (hM : M[k]? = some q) (hN : N[k]? = some q) (ht : M.take k = N.take k) (hb : Below w.heap.size w wr) :
    PEqRel M N w (.int .i64 ((k : Int) + 1)) wr :=
  ⟨k + 1, by omega, by go_num, by rw [List.take_add_one, List.take_add_one, hM, hN, ht], hb⟩

theorem pdiffer_at {M N : List Pk} {k : Nat} {q q' : Pk} (hM : M[k]? = some q) (hN : N[k]? = some q') (h : ¬ q = q') : ¬ M = N := by
  rintro rfl
  rw [hM] at hN
  exact h (Option.some.inj hN)

set_option maxRecDepth 100000 in
set_option maxHeartbeats 4000000 in
theorem eqPickS_any (v v' : Value) (M N : List Pk) (w : World) (hl : M.length ≤ 1048576) (hm : N.length ≤ 1048576) (h : PkAt w w.heap.size v M) (h' : PkAt w w.heap.size v' N) :
    Calls Try.prog 44 #[v, v'] w fun e w' => e = .returned (.bool (decide (M = N))) ∧ Below w.heap.size w w' := by
  obtain ⟨a, cap, rfl, hc⟩ := h
  obtain ⟨a', cap', rfl, hc'⟩ := h'
  have H := Lib.hid hc
  have H' := Lib.hid hc'
  clear hc hc'
  by_cases hLM : N.length = M.length
  · have HLM := Lib.hid hLM
    have hz : ((M.length : Int) != (M.length : Int)) = false := by simp
    rw [hLM]
    clear hLM
    go_enter Try.func44, Try.ntmps44
    go_wp2
    go_loopw [5] (fun i wr => PEqRel M N w i wr) (fun i _ => M.length - (intOf i).toNat)
    case atStart => exact ⟨0, Nat.zero_le _, rfl, rfl, Below.refl _ _⟩
    case round =>
      obtain ⟨k, hk, rfl, ht, hb⟩ := hrel
      have HT := Lib.hid ht
      clear ht
      by_cases hlt : k < M.length
      · rcases H.out with h1 | ⟨b, o, rfl, hB, hc⟩
        · subst h1
          exact absurd hlt (by simp)
        rcases H'.out with h2 | ⟨b', o', rfl, hB', hc'⟩
        · have := HLM.out
          subst h2
          simp at this
          omega
        have hlt' : k < N.length := by have := HLM.out; omega
        obtain ⟨x, p, q, r, s, hxy⟩ : ∃ x p q r s, M[k] = (x, p, q, r, s) := ⟨_, _, _, _, _, rfl⟩
        obtain ⟨x', p', q', r', s', hxy'⟩ : ∃ x p q r s, N[k] = (x, p, q, r, s) := ⟨_, _, _, _, _, rfl⟩
        have m1 := (hc k hlt).below hb hB
        have m2 := (hc' k hlt').below hb hB'
        rw [hxy] at m1
        rw [hxy'] at m2
        obtain ⟨k0, k1, k2, k3, k4⟩ := m1
        obtain ⟨l0, l1, l2, l3, l4⟩ := m2
        simp only at k0 k1 k2 k3 k4 l0 l1 l2 l3 l4
        have HX := Lib.hid (show M[k]? = some (x, p, q, r, s) by rw [List.getElem?_eq_getElem hlt, hxy])
        have HX' := Lib.hid (show N[k]? = some (x', p', q', r', s') by rw [List.getElem?_eq_getElem hlt', hxy'])
        clear hc hc' hxy hxy'
        have i0 : (0 : Int) ≤ (k : Int) := by omega
        have i1 : (k : Int) < (M.length : Int) := by omega
        have t0 := cell_regrown k0
        have u0 := cell_regrown l0
        have t1 := cell_regrown k1
        have u1 := cell_regrown l1
        have t2 := cell_regrown k2
        have u2 := cell_regrown l2
        have t3 := cell_regrown k3
        have u3 := cell_regrown l3
        have t4 := cell_regrown k4
        have u4 := cell_regrown l4
        by_cases heq : ((x, p, q, r, s) : Pk) = (x', p', q', r', s')
        · have K : Hid (∀ V, Calls Try.prog 84 #[pick x p q r s, pick x' p' q' r' s'] V fun e w' => e = .returned (.bool true) ∧ Below V.heap.size V w') := Lib.hid fun V => by
            have := eqPick_any x p q r s x' p' q' r' s' V
            rwa [decide_eq_true heq] at this
          have HE := Lib.hid heq
          clear heq
          go_wp2_with fail
          refine wp_region_quiet_below (by kernel_rfl) (by kernel_rfl) ?_
          repeat (any_goals (first | go_big_quiet_step ((go_at_call 84; exact Calls.regrown_of (K.out _))) | quiet_step ((go_at_call 84; exact Calls.regrown_of (K.out _)))))
          refine wpQuiet_nil ?_
          intro W2 hw
          have nn := quiet_end hw
          clear hw t0 t1 t2 t3 t4 u0 u1 u2 u3 u4
          have HP := Lib.hid (peq_push (w := w) hlt HX.out (by rw [HE.out]; exact HX'.out) HT.out (hb.trans (nn.mono hb.size)))
          go_wp2_with fail
          go_roundw
          case rel => exact HP.out
          case measure => simp [intOf]; omega
        · have K : Hid (∀ V, Calls Try.prog 84 #[pick x p q r s, pick x' p' q' r' s'] V fun e w' => e = .returned (.bool false) ∧ Below V.heap.size V w') := Lib.hid fun V => by
            have := eqPick_any x p q r s x' p' q' r' s' V
            rwa [decide_eq_false heq] at this
          have HN := Lib.hid (pdiffer_at HX.out HX'.out heq)
          clear heq
          go_wp2_with fail
          refine wp_region_quiet_below (by kernel_rfl) (by kernel_rfl) ?_
          repeat (any_goals (first | go_big_quiet_step ((go_at_call 84; exact Calls.regrown_of (K.out _))) | quiet_step ((go_at_call 84; exact Calls.regrown_of (K.out _)))))
          refine wpQuiet_nil ?_
          intro W2 hw
          have nn := quiet_end hw
          clear hw t0 t1 t2 t3 t4 u0 u1 u2 u3 u4
          go_wp2_with fail
          go_ret
          exact ⟨by rw [decide_eq_false HN.out]; rfl, hb.trans (nn.mono hb.size)⟩
      · obtain rfl : k = M.length := by omega
        have hd : M = N := by
          have := HT.out
          rw [List.take_length] at this
          rw [this]
          have := HLM.out
          rw [← this, List.take_length]
        have HD := Lib.hid (decide_eq_true hd)
        clear hd
        go_wp2_with fail
        go_ret
        exact ⟨by rw [HD.out]; rfl, hb⟩
  · have hz : ((M.length : Int) != (N.length : Int)) = true := by rw [bne_iff_ne]; omega
    have HD := Lib.hid (decide_eq_false (p := M = N) (fun e => hLM (by rw [e])))
    clear hLM
    go_enter Try.func44, Try.ntmps44
    go_wp2
    go_ret
    exact ⟨by rw [HD.out]; rfl, Below.refl _ _⟩

theorem eqPickS_same {v v' : Value} {M : List Pk} {w : World} (hl : M.length ≤ 1048576) (h : PkAt w w.heap.size v M) (h' : PkAt w w.heap.size v' M) :
    Calls Try.prog 44 #[v, v'] w fun e w' => e = .returned (.bool true) ∧ Below w.heap.size w w' := by
  have := eqPickS_any v v' M M w hl hl h h'
  rwa [decide_eq_true rfl] at this

end Go.Proofs.Ytdjnfmekbjmdhaa

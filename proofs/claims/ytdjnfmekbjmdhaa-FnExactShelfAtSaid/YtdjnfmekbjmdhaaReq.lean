/- Contracts of the laws' functions that compare releases, over this seat's translation: they answer whether the releases are the same; nothing that was there before the call has changed. Condition: at most 1048576 releases, needs of each, and spans of those. -/
import Derived.Test.YtdjnfmekbjmdhaaRto
import Derived.Test.YtdjnfmekbjmdhaaNdeq
import Derived.Deep.CutRange
namespace Go.Proofs.Ytdjnfmekbjmdhaa
open Go.RowKit Go.Sort

set_option maxRecDepth 100000 in
set_option maxHeartbeats 2000000 in
theorem eqRelease_any (x a b c d x' a' b' c' d' : Int) (f f' : Bool) (v v' : Value) (M M' : List Nd) (w : World) (hl : M.length ≤ 1048576) (hm : M'.length ≤ 1048576) (hq : ∀ q ∈ M, q.2.length ≤ 1048576) (hq' : ∀ q ∈ M', q.2.length ≤ 1048576) (h : NdAt w w.heap.size v M) (h' : NdAt w w.heap.size v' M') :
    Calls Try.prog 25 #[rels x a b c d f v, rels x' a' b' c' d' f' v'] w fun e w' => e = .returned (.bool (decide (((x, (a, b, c, d), f, M) : Rel) = (x', (a', b', c', d'), f', M')))) ∧ Below w.heap.size w w' := by
  have e1 := h
  have e2 := h'
  obtain ⟨p, cap, rfl, y1⟩ := e1
  obtain ⟨p', cap', rfl, y2⟩ := e2
  clear y1 y2
  have KN := Lib.hid (show ∀ V, NdAt V V.heap.size (.slice p M.length cap) M → NdAt V V.heap.size (.slice p' M'.length cap') M' → _ from fun V g g' => eqNeedS_any _ _ M M' V hl hm hq hq' g g')
  have KV := Lib.hid fun V => eqVersion_any a b c d a' b' c' d' V
  have H := Lib.hid h
  have H' := Lib.hid h'
  obtain ⟨w1, hw1⟩ : ∃ V : World, V = (w.alloc (.cells #[.int .i64 x, .int .i64 a, .int .i64 b, .int .i64 c, .int .i64 d, .bool f, .slice p M.length cap] 41)).alloc (.cells #[.int .i64 x', .int .i64 a', .int .i64 b', .int .i64 c', .int .i64 d', .bool f', .slice p' M'.length cap'] 41) := ⟨_, rfl⟩
  have b0 : Below w.heap.size w w1 := by
    rw [hw1]
    exact ((Below.refl w.heap.size w).alloc (Nat.le_refl _) _).alloc (by simp) _
  have s1 : w.heap.size + 2 ≤ w1.heap.size := by rw [hw1]; simp
  have y00 : w1.cell? ⟨w.heap.size, 0, none⟩ = some (.int .i64 x) := by rw [hw1]; go_simp
  have y01 : w1.cell? ⟨w.heap.size, 1, none⟩ = some (.int .i64 a) := by rw [hw1]; go_simp
  have y02 : w1.cell? ⟨w.heap.size, 2, none⟩ = some (.int .i64 b) := by rw [hw1]; go_simp
  have y03 : w1.cell? ⟨w.heap.size, 3, none⟩ = some (.int .i64 c) := by rw [hw1]; go_simp
  have y04 : w1.cell? ⟨w.heap.size, 4, none⟩ = some (.int .i64 d) := by rw [hw1]; go_simp
  have y05 : w1.cell? ⟨w.heap.size, 5, none⟩ = some (.bool f) := by rw [hw1]; go_simp
  have y06 : w1.cell? ⟨w.heap.size, 6, none⟩ = some (.slice p M.length cap) := by rw [hw1]; go_simp
  have y10 : w1.cell? ⟨w.heap.size + 1, 0, none⟩ = some (.int .i64 x') := by rw [hw1]; go_simp
  have y11 : w1.cell? ⟨w.heap.size + 1, 1, none⟩ = some (.int .i64 a') := by rw [hw1]; go_simp
  have y12 : w1.cell? ⟨w.heap.size + 1, 2, none⟩ = some (.int .i64 b') := by rw [hw1]; go_simp
  have y13 : w1.cell? ⟨w.heap.size + 1, 3, none⟩ = some (.int .i64 c') := by rw [hw1]; go_simp
  have y14 : w1.cell? ⟨w.heap.size + 1, 4, none⟩ = some (.int .i64 d') := by rw [hw1]; go_simp
  have y15 : w1.cell? ⟨w.heap.size + 1, 5, none⟩ = some (.bool f') := by rw [hw1]; go_simp
  have y16 : w1.cell? ⟨w.heap.size + 1, 6, none⟩ = some (.slice p' M'.length cap') := by rw [hw1]; go_simp
  clear h h'
  by_cases hx : x = x'
  · subst hx
    by_cases hv : a = a' ∧ b = b' ∧ c = c' ∧ d = d'
    · have hvt : vEq a b c d a' b' c' d' = true := by unfold vEq; simp [hv]
      rw [hvt] at KV
      by_cases hf : f = f'
      · have hr : decide (((x, (a, b, c, d), f, M) : Rel) = (x, (a', b', c', d'), f', M')) = decide (M = M') := decide_eq_decide.2 (by simp [hv, hf])
        rw [hr]
        subst hf
        have hff : (f != f) = false := by simp
        clear hr hv hvt
        rcases hM : decide (M = M')
        all_goals
          rw [hM] at KN
          clear hM
          go_enter Try.func25, Try.ntmps25
          go_upto_region 1 with fail
          rw [← hw1]
          clear hw1
          go_wp2_with fail
          refine (KV.out _).mono ?_
          rintro e w2 ⟨rfl, hb⟩
          have b2 := b0.trans (hb.mono b0.size)
          have s2 := hb.size
          have z05 := (hb.cell (p := ⟨w.heap.size, 5, none⟩) (by show w.heap.size < w1.heap.size; omega)).trans y05
          have z06 := (hb.cell (p := ⟨w.heap.size, 6, none⟩) (by show w.heap.size < w1.heap.size; omega)).trans y06
          have z15 := (hb.cell (p := ⟨w.heap.size + 1, 5, none⟩) (by show w.heap.size + 1 < w1.heap.size; omega)).trans y15
          have z16 := (hb.cell (p := ⟨w.heap.size + 1, 6, none⟩) (by show w.heap.size + 1 < w1.heap.size; omega)).trans y16
          clear hb
          go_wp2_with fail
          refine (KN.out _ (H.out.stepAt b2) (H'.out.stepAt b2)).mono ?_
          rintro e w3 ⟨rfl, hb⟩
          go_wp2_with fail
          go_ret
          exact ⟨rfl, b2.trans (hb.mono b2.size)⟩
      · rw [decide_eq_false (p := ((x, (a, b, c, d), f, M) : Rel) = (x, (a', b', c', d'), f', M')) (fun e => by simp only [Prod.mk.injEq] at e; exact hf e.2.2.1)]
        obtain rfl : f' = !f := by cases f <;> cases f' <;> simp_all
        clear hv hvt hf
        cases f
        all_goals
          simp only [Bool.not_true, Bool.not_false] at *
          go_enter Try.func25, Try.ntmps25
          go_upto_region 1 with fail
          rw [← hw1]
          clear hw1
          go_wp2_with fail
          refine (KV.out _).mono ?_
          rintro e w2 ⟨rfl, hb⟩
          have b2 := b0.trans (hb.mono b0.size)
          have s2 := hb.size
          have z05 := (hb.cell (p := ⟨w.heap.size, 5, none⟩) (by show w.heap.size < w1.heap.size; omega)).trans y05
          have z06 := (hb.cell (p := ⟨w.heap.size, 6, none⟩) (by show w.heap.size < w1.heap.size; omega)).trans y06
          have z15 := (hb.cell (p := ⟨w.heap.size + 1, 5, none⟩) (by show w.heap.size + 1 < w1.heap.size; omega)).trans y15
          have z16 := (hb.cell (p := ⟨w.heap.size + 1, 6, none⟩) (by show w.heap.size + 1 < w1.heap.size; omega)).trans y16
          clear hb
          go_wp2_with fail
          go_ret
          exact ⟨rfl, b2⟩
    · rw [decide_eq_false (p := ((x, (a, b, c, d), f, M) : Rel) = (x, (a', b', c', d'), f', M')) (fun e => by simp only [Prod.mk.injEq] at e; exact hv e.2.1)]
      have hvt : vEq a b c d a' b' c' d' = false := by
        rw [← Bool.not_eq_true]
        unfold vEq
        simp only [Bool.and_eq_true, decide_eq_true_eq]
        exact hv
      rw [hvt] at KV
      clear hv hvt
      go_enter Try.func25, Try.ntmps25
      go_upto_region 1 with fail
      rw [← hw1]
      clear hw1
      go_wp2_with fail
      refine (KV.out _).mono ?_
      rintro e w2 ⟨rfl, hb⟩
      have b2 := b0.trans (hb.mono b0.size)
      clear hb
      go_wp2_with fail
      go_ret
      exact ⟨rfl, b2⟩
  · rw [decide_eq_false (p := ((x, (a, b, c, d), f, M) : Rel) = (x', (a', b', c', d'), f', M')) (fun e => by simp only [Prod.mk.injEq] at e; exact hx e.1)]
    go_enter Try.func25, Try.ntmps25
    go_upto_region 1 with fail
    rw [← hw1]
    clear hw1
    go_wp2_with fail
    go_ret
    exact ⟨rfl, b0⟩

/-- What the loop of eqReleaseS keeps: the first k releases are alike. -/
def REqRel (M N : List Rel) (w : World) (i : Value) (wr : World) : Prop :=
  ∃ k : Nat, k ≤ M.length ∧ i = .int .i64 (k : Int) ∧ M.take k = N.take k ∧ Below w.heap.size w wr

theorem req_push {M N : List Rel} {w wr : World} {k : Nat} {q : Rel} (hk : k < M.length) (hM : M[k]? = some q) (hN : N[k]? = some q) (ht : M.take k = N.take k) (hb : Below w.heap.size w wr) :
    REqRel M N w (.int .i64 ((k : Int) + 1)) wr :=
  ⟨k + 1, by omega, by go_num, by rw [List.take_add_one, List.take_add_one, hM, hN, ht], hb⟩

theorem rdiffer_at {M N : List Rel} {k : Nat} {q q' : Rel} (hM : M[k]? = some q) (hN : N[k]? = some q') (h : ¬ q = q') : ¬ M = N := by
  rintro rfl
  rw [hM] at hN
  cases hN
  exact h rfl

set_option maxRecDepth 100000 in
set_option maxHeartbeats 4000000 in
theorem eqReleaseS_any (v v' : Value) (M N : List Rel) (w : World) (hl : M.length ≤ 1048576) (hm : N.length ≤ 1048576) (hq : ∀ q ∈ M, q.2.2.2.length ≤ 1048576 ∧ ∀ p ∈ q.2.2.2, p.2.length ≤ 1048576) (hq' : ∀ q ∈ N, q.2.2.2.length ≤ 1048576 ∧ ∀ p ∈ q.2.2.2, p.2.length ≤ 1048576)
    (h : RlAt w w.heap.size v M) (h' : RlAt w w.heap.size v' N) :
    Calls Try.prog 20 #[v, v'] w fun e w' => e = .returned (.bool (decide (M = N))) ∧ Below w.heap.size w w' := by
  obtain ⟨ad, cap, rfl, hc⟩ := h
  obtain ⟨ad', cap', rfl, hc'⟩ := h'
  have H := Lib.hid hc
  have H' := Lib.hid hc'
  clear hc hc'
  by_cases hLM : N.length = M.length
  · have HLM := Lib.hid hLM
    have hz : ((M.length : Int) != (M.length : Int)) = false := by simp
    rw [hLM]
    clear hLM
    go_enter Try.func20, Try.ntmps20
    go_wp2
    go_loopw [5] (fun i wr => REqRel M N w i wr) (fun i _ => M.length - (intOf i).toNat)
    case atStart => exact ⟨0, Nat.zero_le _, rfl, rfl, Below.refl _ _⟩
    case round =>
      obtain ⟨k, hk, rfl, ht, hb⟩ := hrel
      have HT := Lib.hid ht
      clear ht
      by_cases hlt : k < M.length
      · rcases H.out with h1 | ⟨g, o, rfl, hB, hc⟩
        · subst h1
          exact absurd hlt (by simp)
        rcases H'.out with h2 | ⟨g', o', rfl, hB', hc'⟩
        · have := HLM.out
          subst h2
          simp at this
          omega
        have hlt' : k < N.length := by have := HLM.out; omega
        obtain ⟨x, a, b, c, d, f, L, hxy⟩ : ∃ x a b c d f L, M[k] = (x, (a, b, c, d), f, L) := ⟨_, _, _, _, _, _, _, rfl⟩
        obtain ⟨x', a', b', c', d', f', L', hxy'⟩ : ∃ x a b c d f L, N[k] = (x, (a, b, c, d), f, L) := ⟨_, _, _, _, _, _, _, rfl⟩
        have m1 := (hc k hlt).below hb hB
        have m2 := (hc' k hlt').below hb hB'
        rw [hxy] at m1
        rw [hxy'] at m2
        obtain ⟨⟨k0, k1, k2, k3, k4, k5⟩, p1, cap1, k6, hs⟩ := m1
        obtain ⟨⟨l0, l1, l2, l3, l4, l5⟩, p2, cap2, l6, hs'⟩ := m2
        have hL : L.length ≤ 1048576 ∧ ∀ p ∈ L, p.2.length ≤ 1048576 := by have := hq _ (List.getElem_mem hlt); rwa [hxy] at this
        have hL' : L'.length ≤ 1048576 ∧ ∀ p ∈ L', p.2.length ≤ 1048576 := by have := hq' _ (List.getElem_mem hlt'); rwa [hxy'] at this
        simp only at k0 k1 k2 k3 k4 k5 k6 l0 l1 l2 l3 l4 l5 l6 hs hs'
        have HS := Lib.hid (hs.mono hb.size)
        have HS' := Lib.hid (hs'.mono hb.size)
        have HX := Lib.hid (show M[k]? = some (x, (a, b, c, d), f, L) by rw [List.getElem?_eq_getElem hlt, hxy])
        have HX' := Lib.hid (show N[k]? = some (x', (a', b', c', d'), f', L') by rw [List.getElem?_eq_getElem hlt', hxy'])
        clear hc hc' hxy hxy' hs hs'
        have i0 : (0 : Int) ≤ (k : Int) := by omega
        have i1 : (k : Int) < (M.length : Int) := by omega
        have t0 := cell_regrown k0
        have t1 := cell_regrown k1
        have t2 := cell_regrown k2
        have t3 := cell_regrown k3
        have t4 := cell_regrown k4
        have t5 := cell_regrown k5
        have t6 := cell_regrown k6
        have u0 := cell_regrown l0
        have u1 := cell_regrown l1
        have u2 := cell_regrown l2
        have u3 := cell_regrown l3
        have u4 := cell_regrown l4
        have u5 := cell_regrown l5
        have u6 := cell_regrown l6
        clear k0 k1 k2 k3 k4 k5 k6 l0 l1 l2 l3 l4 l5 l6
        by_cases heq : ((x, (a, b, c, d), f, L) : Rel) = (x', (a', b', c', d'), f', L')
        · have K : Hid (∀ V, NdAt V V.heap.size (.slice p1 L.length cap1) L → NdAt V V.heap.size (.slice p2 L'.length cap2) L' → Calls Try.prog 25 #[rels x a b c d f (.slice p1 L.length cap1), rels x' a' b' c' d' f' (.slice p2 L'.length cap2)] V fun e w' => e = .returned (.bool true) ∧ Below V.heap.size V w') := Lib.hid fun V g g' => by
            have := eqRelease_any x a b c d x' a' b' c' d' f f' _ _ L L' V hL.1 hL'.1 hL.2 hL'.2 g g'
            rwa [decide_eq_true heq] at this
          have HE := Lib.hid heq
          clear heq
          go_wp2_with fail
          refine wp_region_quiet_below (by kernel_rfl) (by kernel_rfl) ?_
          repeat (any_goals (first | go_big_quiet_step ((go_at_call 25; exact Calls.regrown_of (K.out _ (HS.out.stepAt (below_regrown _ _ _)) (HS'.out.stepAt (below_regrown _ _ _))))) | quiet_step ((go_at_call 25; exact Calls.regrown_of (K.out _ (HS.out.stepAt (below_regrown _ _ _)) (HS'.out.stepAt (below_regrown _ _ _)))))))
          refine wpQuiet_nil ?_
          intro W2 hw
          have nn := quiet_end hw
          clear hw t0 t1 t2 t3 t4 t5 t6 u0 u1 u2 u3 u4 u5 u6
          have HP := Lib.hid (req_push (w := w) hlt HX.out (by rw [HE.out]; exact HX'.out) HT.out (hb.trans (nn.mono hb.size)))
          go_wp2_with fail
          go_roundw
          case rel => exact HP.out
          case measure => simp [intOf]; omega
        · have K : Hid (∀ V, NdAt V V.heap.size (.slice p1 L.length cap1) L → NdAt V V.heap.size (.slice p2 L'.length cap2) L' → Calls Try.prog 25 #[rels x a b c d f (.slice p1 L.length cap1), rels x' a' b' c' d' f' (.slice p2 L'.length cap2)] V fun e w' => e = .returned (.bool false) ∧ Below V.heap.size V w') := Lib.hid fun V g g' => by
            have := eqRelease_any x a b c d x' a' b' c' d' f f' _ _ L L' V hL.1 hL'.1 hL.2 hL'.2 g g'
            rwa [decide_eq_false heq] at this
          have HN := Lib.hid (rdiffer_at HX.out HX'.out heq)
          clear heq
          go_wp2_with fail
          refine wp_region_quiet_below (by kernel_rfl) (by kernel_rfl) ?_
          repeat (any_goals (first | go_big_quiet_step ((go_at_call 25; exact Calls.regrown_of (K.out _ (HS.out.stepAt (below_regrown _ _ _)) (HS'.out.stepAt (below_regrown _ _ _))))) | quiet_step ((go_at_call 25; exact Calls.regrown_of (K.out _ (HS.out.stepAt (below_regrown _ _ _)) (HS'.out.stepAt (below_regrown _ _ _)))))))
          refine wpQuiet_nil ?_
          intro W2 hw
          have nn := quiet_end hw
          clear hw t0 t1 t2 t3 t4 t5 t6 u0 u1 u2 u3 u4 u5 u6
          go_wp2_with fail
          go_ret
          exact ⟨by rw [decide_eq_false HN.out]; rfl, hb.trans (nn.mono hb.size)⟩
      · obtain rfl : k = M.length := by omega
        have hd : M = N := by
          have := HT.out
          rw [List.take_length] at this
          rw [this]
          have := HLM.out
          rw [← this, List.take_length]
        have HD := Lib.hid (decide_eq_true hd)
        clear hd
        go_wp2_with fail
        go_ret
        exact ⟨by rw [HD.out]; rfl, hb⟩
  · have hz : ((M.length : Int) != (N.length : Int)) = true := by rw [bne_iff_ne]; omega
    have HD := Lib.hid (decide_eq_false (p := M = N) (fun e => hLM (by rw [e])))
    clear hLM
    go_enter Try.func20, Try.ntmps20
    go_wp2
    go_ret
    exact ⟨by rw [HD.out]; rfl, Below.refl _ _⟩

end Go.Proofs.Ytdjnfmekbjmdhaa

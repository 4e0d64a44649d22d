/- Contracts of the laws' functions that compare needs, over this seat's translation: they answer whether the needs are the same; nothing that was there before the call has changed. Condition: at most 1048576 needs, and spans of each. -/
import Derived.Test.YtdjnfmekbjmdhaaNdsz
import Derived.Deep.RegionHeld3
namespace Go.Proofs.Ytdjnfmekbjmdhaa
open Go.RowKit Go.Sort

set_option maxRecDepth 100000 in
set_option maxHeartbeats 1000000 in
theorem eqNeed_any (x x' : Int) (v v' : Value) (L L' : List (Int × Int)) (w : World) (hl : L.length ≤ 1048576) (hm : L'.length ≤ 1048576) (h : SpAt w w.heap.size v L) (h' : SpAt w w.heap.size v' L') :
    Calls Try.prog 78 #[need x v, need x' v'] w fun e w' => e = .returned (.bool (decide (x = x' ∧ L = L'))) ∧ Below w.heap.size w w' := by
  have c := h
  have c' := h'
  obtain ⟨a, cap, rfl, _⟩ := c
  obtain ⟨a', cap', rfl, _⟩ := c'
  have b0 := ((Below.refl w.heap.size w).alloc (Nat.le_refl _) (.cells #[.int .i64 x, .slice a L.length cap] 97)).alloc (by simp) (.cells #[.int .i64 x', .slice a' L'.length cap'] 97)
  have K := eqRange_any a a' cap cap' L L' _ hl hm ((h.below b0).mono b0.size) ((h'.below b0).mono b0.size)
  have HB := Lib.hid b0
  clear h h' b0
  by_cases hx : x = x'
  · subst hx
    rw [show decide (x = x ∧ L = L') = decide (L = L') from decide_eq_decide.2 (by simp)]
    rcases hd : decide (L = L')
    all_goals
      rw [hd] at K
      have HK := Lib.hid K
      clear hd K
      go_enter Try.func78, Try.ntmps78
      go_wp2_with fail
      refine HK.out.mono ?_
      rintro e w1 ⟨rfl, hb⟩
      go_wp2_with fail
      go_ret
      exact ⟨rfl, HB.out.trans (hb.mono HB.out.size)⟩
  · rw [decide_eq_false (p := x = x' ∧ L = L') (fun e => hx e.1)]
    clear K
    go_enter Try.func78, Try.ntmps78
    go_wp2_with fail
    go_ret
    exact ⟨rfl, HB.out⟩

/-- What the loop of eqNeedS keeps: the first k needs are alike. -/
def NEqRel (M N : List Nd) (w : World) (i : Value) (wr : World) : Prop :=
  ∃ k : Nat, k ≤ M.length ∧ i = .int .i64 (k : Int) ∧ M.take k = N.take k ∧ Below w.heap.size w wr

theorem neq_push {M N : List Nd} {w wr : World} {k : Nat} {q : Nd} (hk : k < M.length) (hM : M[k]? = some q) (hN : N[k]? = some q) (ht : M.take k = N.take k) (hb : Below w.heap.size w wr) :
    NEqRel M N w (.int .i64 ((k : Int) + 1)) wr :=
  ⟨k + 1, by omega, by go_num, by rw [List.take_add_one, List.take_add_one, hM, hN, ht], hb⟩

theorem ndiffer_at {M N : List Nd} {k : Nat} {q q' : Nd} (hM : M[k]? = some q) (hN : N[k]? = some q') (h : ¬ (q.1 = q'.1 ∧ q.2 = q'.2)) : ¬ M = N := by
  rintro rfl
  rw [hM] at hN
  cases hN
  exact h ⟨rfl, rfl⟩

set_option maxRecDepth 100000 in
set_option maxHeartbeats 2000000 in
theorem eqNeedS_any (v v' : Value) (M N : List Nd) (w : World) (hl : M.length ≤ 1048576) (hm : N.length ≤ 1048576) (hq : ∀ q ∈ M, q.2.length ≤ 1048576) (hq' : ∀ q ∈ N, q.2.length ≤ 1048576)
    (h : NdAt w w.heap.size v M) (h' : NdAt w w.heap.size v' N) :
    Calls Try.prog 36 #[v, v'] w fun e w' => e = .returned (.bool (decide (M = N))) ∧ Below w.heap.size w w' := by
  obtain ⟨a, cap, rfl, hc⟩ := h
  obtain ⟨a', cap', rfl, hc'⟩ := h'
  have H := Lib.hid hc
  have H' := Lib.hid hc'
  clear hc hc'
  by_cases hLM : N.length = M.length
  · have HLM := Lib.hid hLM
    have hz : ((M.length : Int) != (M.length : Int)) = false := by simp
    rw [hLM]
    clear hLM
    go_enter Try.func36, Try.ntmps36
    go_wp2
    go_loopw [5] (fun i wr => NEqRel M N w i wr) (fun i _ => M.length - (intOf i).toNat)
    case atStart => exact ⟨0, Nat.zero_le _, rfl, rfl, Below.refl _ _⟩
    case round =>
      obtain ⟨k, hk, rfl, ht, hb⟩ := hrel
      have HT := Lib.hid ht
      clear ht
      by_cases hlt : k < M.length
      · rcases H.out with h1 | ⟨b, o, rfl, hB, hc⟩
        · subst h1
          exact absurd hlt (by simp)
        rcases H'.out with h2 | ⟨b', o', rfl, hB', hc'⟩
        · have := HLM.out
          subst h2
          simp at this
          omega
        have hlt' : k < N.length := by have := HLM.out; omega
        obtain ⟨x, L, hxy⟩ : ∃ x y, M[k] = (x, y) := ⟨_, _, rfl⟩
        obtain ⟨x', L', hxy'⟩ : ∃ x y, N[k] = (x, y) := ⟨_, _, rfl⟩
        have c := (hc k hlt).below hb hB
        have c' := (hc' k hlt').below hb hB'
        rw [hxy] at c
        rw [hxy'] at c'
        obtain ⟨k0, a1, cap1, k1, hs⟩ := c
        obtain ⟨l0, a2, cap2, l1, hs'⟩ := c'
        have hL : L.length ≤ 1048576 := by have := hq _ (List.getElem_mem hlt); rwa [hxy] at this
        have hL' : L'.length ≤ 1048576 := by have := hq' _ (List.getElem_mem hlt'); rwa [hxy'] at this
        simp only at k0 k1 l0 l1 hs hs'
        have hs := hs.mono hb.size
        have hs' := hs'.mono hb.size
        have HX := Lib.hid (show M[k]? = some (x, L) by rw [List.getElem?_eq_getElem hlt, hxy])
        have HX' := Lib.hid (show N[k]? = some (x', L') by rw [List.getElem?_eq_getElem hlt', hxy'])
        clear hc hc' hxy hxy'
        have i0 : (0 : Int) ≤ (k : Int) := by omega
        have i1 : (k : Int) < (M.length : Int) := by omega
        have mb : b < wr.heap.size := Nat.lt_of_lt_of_le hB hb.size
        have mb' : b' < wr.heap.size := Nat.lt_of_lt_of_le hB' hb.size
        by_cases heq : x = x' ∧ L = L'
        · have K : Hid (∀ V, SpAt V V.heap.size (.slice a1 L.length cap1) L → SpAt V V.heap.size (.slice a2 L'.length cap2) L' → Calls Try.prog 78 #[need x (.slice a1 L.length cap1), need x' (.slice a2 L'.length cap2)] V fun e w' => e = .returned (.bool true) ∧ Below V.heap.size V w') := Lib.hid fun V g g' => by
            have := eqNeed_any x x' _ _ L L' V hL hL' g g'
            rwa [decide_eq_true heq] at this
          have HE := Lib.hid heq
          clear heq
          go_wp2_with fail
          go_region_held3 (fun V => V.cell? ⟨b, o + k * 2, none⟩ = some (.int .i64 x) ∧ V.cell? ⟨b, o + k * 2 + 1, none⟩ = some (.slice a1 L.length cap1) ∧ V.cell? ⟨b', o' + k * 2, none⟩ = some (.int .i64 x') ∧ V.cell? ⟨b', o' + k * 2 + 1, none⟩ = some (.slice a2 L'.length cap2)) (go_keep)
            (first
            | (go_at_call 78; refine (K.out _ (hs.stepAt (by go_grown)) (hs'.stepAt (by go_grown))).mono ?_; rintro e wp ⟨rfl, hbp⟩; have nn : Below wr.heap.size wr wp := Below.step (by go_grown) hbp;
                have p0 := (nn.cell (p := ⟨b, o + k * 2, none⟩) mb).trans k0; have p1 := (nn.cell (p := ⟨b, o + k * 2 + 1, none⟩) mb).trans k1; have p2 := (nn.cell (p := ⟨b', o' + k * 2, none⟩) mb').trans l0; have p3 := (nn.cell (p := ⟨b', o' + k * 2 + 1, none⟩) mb').trans l1))
          all_goals
            have HP := Lib.hid (neq_push (w := w) hlt HX.out (by have := HX'.out; rwa [← HE.out.1, ← HE.out.2] at this) HT.out (hb.trans (nn.mono hb.size)))
            go_wp2_with fail
            go_roundw
            case rel => exact HP.out
            case measure => simp [intOf]; omega
        · have K : Hid (∀ V, SpAt V V.heap.size (.slice a1 L.length cap1) L → SpAt V V.heap.size (.slice a2 L'.length cap2) L' → Calls Try.prog 78 #[need x (.slice a1 L.length cap1), need x' (.slice a2 L'.length cap2)] V fun e w' => e = .returned (.bool false) ∧ Below V.heap.size V w') := Lib.hid fun V g g' => by
            have := eqNeed_any x x' _ _ L L' V hL hL' g g'
            rwa [decide_eq_false heq] at this
          have HN := Lib.hid (ndiffer_at HX.out HX'.out heq)
          clear heq
          go_wp2_with fail
          go_region_held3 (fun V => V.cell? ⟨b, o + k * 2, none⟩ = some (.int .i64 x) ∧ V.cell? ⟨b, o + k * 2 + 1, none⟩ = some (.slice a1 L.length cap1) ∧ V.cell? ⟨b', o' + k * 2, none⟩ = some (.int .i64 x') ∧ V.cell? ⟨b', o' + k * 2 + 1, none⟩ = some (.slice a2 L'.length cap2)) (go_keep)
            (first
            | (go_at_call 78; refine (K.out _ (hs.stepAt (by go_grown)) (hs'.stepAt (by go_grown))).mono ?_; rintro e wp ⟨rfl, hbp⟩; have nn : Below wr.heap.size wr wp := Below.step (by go_grown) hbp;
                have p0 := (nn.cell (p := ⟨b, o + k * 2, none⟩) mb).trans k0; have p1 := (nn.cell (p := ⟨b, o + k * 2 + 1, none⟩) mb).trans k1; have p2 := (nn.cell (p := ⟨b', o' + k * 2, none⟩) mb').trans l0; have p3 := (nn.cell (p := ⟨b', o' + k * 2 + 1, none⟩) mb').trans l1))
          all_goals
            go_wp2_with fail
            go_ret
            exact ⟨by rw [decide_eq_false HN.out]; rfl, hb.trans (nn.mono hb.size)⟩
      · obtain rfl : k = M.length := by omega
        have hd : M = N := by
          have := HT.out
          rw [List.take_length] at this
          rw [this]
          have := HLM.out
          rw [← this, List.take_length]
        have HD := Lib.hid (decide_eq_true hd)
        clear hd
        go_wp2_with fail
        go_ret
        exact ⟨by rw [HD.out]; rfl, hb⟩
  · have hz : ((M.length : Int) != (N.length : Int)) = true := by rw [bne_iff_ne]; omega
    have HD := Lib.hid (decide_eq_false (p := M = N) (fun e => hLM (by rw [e])))
    clear hLM
    go_enter Try.func36, Try.ntmps36
    go_wp2
    go_ret
    exact ⟨by rw [HD.out]; rfl, Below.refl _ _⟩

end Go.Proofs.Ytdjnfmekbjmdhaa

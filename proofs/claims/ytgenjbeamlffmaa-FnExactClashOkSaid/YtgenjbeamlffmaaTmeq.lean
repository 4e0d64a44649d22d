/- Contracts of the laws' functions that compare terms, over this seat's translation: they answer whether the terms are the same; nothing that was there before the call has changed. Condition: at most 1048576 terms, and spans of each. -/
import Derived.Test.YtgenjbeamlffmaaTmsz
import Derived.Deep.RegionHeld3
namespace Go.Proofs.Ytgenjbeamlffmaa
open Go.RowKit Go.Sort

set_option maxRecDepth 100000 in
set_option maxHeartbeats 1000000 in
theorem eqTerm_any (x x' : Int) (v v' : Value) (f f' : Bool) (L L' : List (Int × Int)) (w : World) (hl : L.length ≤ 1048576) (hm : L'.length ≤ 1048576) (h : SpAt w w.heap.size v L) (h' : SpAt w w.heap.size v' L') :
    Calls Try.prog 85 #[term x v f, term x' v' f'] w fun e w' => e = .returned (.bool (decide (x = x' ∧ L = L' ∧ f = f'))) ∧ Below w.heap.size w w' := by
  have c := h
  have c' := h'
  obtain ⟨a, cap, rfl, _⟩ := c
  obtain ⟨a', cap', rfl, _⟩ := c'
  have b0 := ((Below.refl w.heap.size w).alloc (Nat.le_refl _) (.cells #[.int .i64 x, .slice a L.length cap, .bool f] 130)).alloc (by simp) (.cells #[.int .i64 x', .slice a' L'.length cap', .bool f'] 130)
  have K := eqRange_any a a' cap cap' L L' _ hl hm ((h.below b0).mono b0.size) ((h'.below b0).mono b0.size)
  have HB := Lib.hid b0
  clear h h' b0
  by_cases hx : x = x'
  · subst hx
    by_cases hL : L = L'
    · subst hL
      rw [show decide (x = x ∧ L = L ∧ f = f') = decide (f = f') from decide_eq_decide.2 (by simp)]
      rw [decide_eq_true rfl] at K
      have HK := Lib.hid K
      have C0 := Lib.hid (show ((w.alloc (.cells #[.int .i64 x, .slice a L.length cap, .bool f] 130)).alloc (.cells #[.int .i64 x, .slice a' L.length cap', .bool f'] 130)).cell? ⟨w.heap.size, 2, none⟩ = some (.bool f) by go_simp)
      have C1 := Lib.hid (show ((w.alloc (.cells #[.int .i64 x, .slice a L.length cap, .bool f] 130)).alloc (.cells #[.int .i64 x, .slice a' L.length cap', .bool f'] 130)).cell? ⟨w.heap.size + 1, 2, none⟩ = some (.bool f') by go_simp)
      clear K
      rcases f <;> rcases f'
      all_goals
        go_enter Try.func85, Try.ntmps85
        go_wp2_with fail
        refine HK.out.mono ?_
        rintro e w1 ⟨rfl, hb⟩
        have z0 := (hb.cell (p := ⟨w.heap.size, 2, none⟩) (by simp; omega)).trans C0.out
        have z1 := (hb.cell (p := ⟨w.heap.size + 1, 2, none⟩) (by simp)).trans C1.out
        go_wp2_with fail
        go_ret
        exact ⟨rfl, HB.out.trans (hb.mono HB.out.size)⟩
    · rw [show decide (x = x ∧ L = L' ∧ f = f') = false from decide_eq_false (fun e => hL e.2.1)]
      rw [decide_eq_false hL] at K
      have HK := Lib.hid K
      clear K hL
      go_enter Try.func85, Try.ntmps85
      go_wp2_with fail
      refine HK.out.mono ?_
      rintro e w1 ⟨rfl, hb⟩
      go_wp2_with fail
      go_ret
      exact ⟨rfl, HB.out.trans (hb.mono HB.out.size)⟩
  · rw [decide_eq_false (p := x = x' ∧ L = L' ∧ f = f') (fun e => hx e.1)]
    clear K
    go_enter Try.func85, Try.ntmps85
    go_wp2_with fail
    go_ret
    exact ⟨rfl, HB.out⟩

/-- What the loop of eqTermS keeps: the first k terms are alike. -/
def TEqRel (M N : List Tm) (w : World) (i : Value) (wr : World) : Prop :=
  ∃ k : Nat, k ≤ M.length ∧ i = .int .i64 (k : Int) ∧ M.take k = N.take k ∧ Below w.heap.size w wr

theorem teq_push {M N : List Tm} {w wr : World} {k : Nat} {q : Tm} (hk : k < M.length) (hM : M[k]? = some q) (hN : N[k]? = some q) (ht : M.take k = N.take k) (hb : Below w.heap.size w wr) :
    TEqRel M N w (.int .i64 ((k : Int) + 1)) wr :=
  ⟨k + 1, by omega, by go_num, by rw [List.take_add_one, List.take_add_one, hM, hN, ht], hb⟩

theorem tdiffer_at {M N : List Tm} {k : Nat} {q q' : Tm} (hM : M[k]? = some q) (hN : N[k]? = some q') (h : ¬ (q.1 = q'.1 ∧ q.2.1 = q'.2.1 ∧ q.2.2 = q'.2.2)) : ¬ M = N := by
  rintro rfl
  rw [hM] at hN
  cases hN
  exact h ⟨rfl, rfl, rfl⟩

set_option maxRecDepth 100000 in
set_option maxHeartbeats 2000000 in
theorem eqTermS_any (v v' : Value) (M N : List Tm) (w : World) (hl : M.length ≤ 1048576) (hm : N.length ≤ 1048576) (hq : ∀ q ∈ M, q.2.1.length ≤ 1048576) (hq' : ∀ q ∈ N, q.2.1.length ≤ 1048576)
    (h : TmAt w w.heap.size v M) (h' : TmAt w w.heap.size v' N) :
    Calls Try.prog 37 #[v, v'] w fun e w' => e = .returned (.bool (decide (M = N))) ∧ Below w.heap.size w w' := by
  obtain ⟨a, cap, rfl, hc⟩ := h
  obtain ⟨a', cap', rfl, hc'⟩ := h'
  have H := Lib.hid hc
  have H' := Lib.hid hc'
  clear hc hc'
  by_cases hLM : N.length = M.length
  · have HLM := Lib.hid hLM
    have hz : ((M.length : Int) != (M.length : Int)) = false := by simp
    rw [hLM]
    clear hLM
    go_enter Try.func37, Try.ntmps37
    go_wp2
    go_loopw [5] (fun i wr => TEqRel M N w i wr) (fun i _ => M.length - (intOf i).toNat)
    case atStart => exact ⟨0, Nat.zero_le _, rfl, rfl, Below.refl _ _⟩
    case round =>
      obtain ⟨k, hk, rfl, ht, hb⟩ := hrel
      have HT := Lib.hid ht
      clear ht
      by_cases hlt : k < M.length
      · rcases H.out with h1 | ⟨b, o, rfl, hB, hc⟩
        · subst h1
          exact absurd hlt (by simp)
        rcases H'.out with h2 | ⟨b', o', rfl, hB', hc'⟩
        · have := HLM.out
          subst h2
          simp at this
          omega
        have hlt' : k < N.length := by have := HLM.out; omega
        obtain ⟨x, L, f, hxy⟩ : ∃ x y f, M[k] = (x, y, f) := ⟨_, _, _, rfl⟩
        obtain ⟨x', L', f', hxy'⟩ : ∃ x y f, N[k] = (x, y, f) := ⟨_, _, _, rfl⟩
        have c := (hc k hlt).below hb hB
        have c' := (hc' k hlt').below hb hB'
        rw [hxy] at c
        rw [hxy'] at c'
        obtain ⟨k0, a1, cap1, k1, hs, k2⟩ := c
        obtain ⟨l0, a2, cap2, l1, hs', l2⟩ := c'
        have hL : L.length ≤ 1048576 := by have := hq _ (List.getElem_mem hlt); rwa [hxy] at this
        have hL' : L'.length ≤ 1048576 := by have := hq' _ (List.getElem_mem hlt'); rwa [hxy'] at this
        simp only at k0 k1 k2 l0 l1 l2 hs hs'
        have hs := hs.mono hb.size
        have hs' := hs'.mono hb.size
        have HX := Lib.hid (show M[k]? = some (x, L, f) by rw [List.getElem?_eq_getElem hlt, hxy])
        have HX' := Lib.hid (show N[k]? = some (x', L', f') by rw [List.getElem?_eq_getElem hlt', hxy'])
        clear hc hc' hxy hxy'
        have i0 : (0 : Int) ≤ (k : Int) := by omega
        have i1 : (k : Int) < (M.length : Int) := by omega
        have mb : b < wr.heap.size := Nat.lt_of_lt_of_le hB hb.size
        have mb' : b' < wr.heap.size := Nat.lt_of_lt_of_le hB' hb.size
        by_cases heq : x = x' ∧ L = L' ∧ f = f'
        · have K : Hid (∀ V, SpAt V V.heap.size (.slice a1 L.length cap1) L → SpAt V V.heap.size (.slice a2 L'.length cap2) L' → Calls Try.prog 85 #[term x (.slice a1 L.length cap1) f, term x' (.slice a2 L'.length cap2) f'] V fun e w' => e = .returned (.bool true) ∧ Below V.heap.size V w') := Lib.hid fun V g g' => by
            have := eqTerm_any x x' _ _ f f' L L' V hL hL' g g'
            rwa [decide_eq_true heq] at this
          have HE := Lib.hid heq
          clear heq
          go_wp2_with fail
          go_region_held3 (fun V => V.cell? ⟨b, o + k * 3, none⟩ = some (.int .i64 x) ∧ V.cell? ⟨b, o + k * 3 + 1, none⟩ = some (.slice a1 L.length cap1) ∧ V.cell? ⟨b, o + k * 3 + 2, none⟩ = some (.bool f) ∧ V.cell? ⟨b', o' + k * 3, none⟩ = some (.int .i64 x') ∧ V.cell? ⟨b', o' + k * 3 + 1, none⟩ = some (.slice a2 L'.length cap2) ∧ V.cell? ⟨b', o' + k * 3 + 2, none⟩ = some (.bool f')) (go_keep)
            (first
            | (go_at_call 85; refine (K.out _ (hs.stepAt (by go_grown)) (hs'.stepAt (by go_grown))).mono ?_; rintro e wp ⟨rfl, hbp⟩; have nn : Below wr.heap.size wr wp := Below.step (by go_grown) hbp;
                have p0 := (nn.cell (p := ⟨b, o + k * 3, none⟩) mb).trans k0; have p1 := (nn.cell (p := ⟨b, o + k * 3 + 1, none⟩) mb).trans k1; have p2 := (nn.cell (p := ⟨b', o' + k * 3, none⟩) mb').trans l0; have p3 := (nn.cell (p := ⟨b', o' + k * 3 + 1, none⟩) mb').trans l1; have p4 := (nn.cell (p := ⟨b, o + k * 3 + 2, none⟩) mb).trans k2; have p5 := (nn.cell (p := ⟨b', o' + k * 3 + 2, none⟩) mb').trans l2))
          all_goals
            have HP := Lib.hid (teq_push (w := w) hlt HX.out (by have := HX'.out; rwa [← HE.out.1, ← HE.out.2.1, ← HE.out.2.2] at this) HT.out (hb.trans (nn.mono hb.size)))
            go_wp2_with fail
            go_roundw
            case rel => exact HP.out
            case measure => simp [intOf]; omega
        · have K : Hid (∀ V, SpAt V V.heap.size (.slice a1 L.length cap1) L → SpAt V V.heap.size (.slice a2 L'.length cap2) L' → Calls Try.prog 85 #[term x (.slice a1 L.length cap1) f, term x' (.slice a2 L'.length cap2) f'] V fun e w' => e = .returned (.bool false) ∧ Below V.heap.size V w') := Lib.hid fun V g g' => by
            have := eqTerm_any x x' _ _ f f' L L' V hL hL' g g'
            rwa [decide_eq_false heq] at this
          have HN := Lib.hid (tdiffer_at HX.out HX'.out heq)
          clear heq
          go_wp2_with fail
          go_region_held3 (fun V => V.cell? ⟨b, o + k * 3, none⟩ = some (.int .i64 x) ∧ V.cell? ⟨b, o + k * 3 + 1, none⟩ = some (.slice a1 L.length cap1) ∧ V.cell? ⟨b, o + k * 3 + 2, none⟩ = some (.bool f) ∧ V.cell? ⟨b', o' + k * 3, none⟩ = some (.int .i64 x') ∧ V.cell? ⟨b', o' + k * 3 + 1, none⟩ = some (.slice a2 L'.length cap2) ∧ V.cell? ⟨b', o' + k * 3 + 2, none⟩ = some (.bool f')) (go_keep)
            (first
            | (go_at_call 85; refine (K.out _ (hs.stepAt (by go_grown)) (hs'.stepAt (by go_grown))).mono ?_; rintro e wp ⟨rfl, hbp⟩; have nn : Below wr.heap.size wr wp := Below.step (by go_grown) hbp;
                have p0 := (nn.cell (p := ⟨b, o + k * 3, none⟩) mb).trans k0; have p1 := (nn.cell (p := ⟨b, o + k * 3 + 1, none⟩) mb).trans k1; have p2 := (nn.cell (p := ⟨b', o' + k * 3, none⟩) mb').trans l0; have p3 := (nn.cell (p := ⟨b', o' + k * 3 + 1, none⟩) mb').trans l1; have p4 := (nn.cell (p := ⟨b, o + k * 3 + 2, none⟩) mb).trans k2; have p5 := (nn.cell (p := ⟨b', o' + k * 3 + 2, none⟩) mb').trans l2))
          all_goals
            go_wp2_with fail
            go_ret
            exact ⟨by rw [decide_eq_false HN.out]; rfl, hb.trans (nn.mono hb.size)⟩
      · obtain rfl : k = M.length := by omega
        have hd : M = N := by
          have := HT.out
          rw [List.take_length] at this
          rw [this]
          have := HLM.out
          rw [← this, List.take_length]
        have HD := Lib.hid (decide_eq_true hd)
        clear hd
        go_wp2_with fail
        go_ret
        exact ⟨by rw [HD.out]; rfl, hb⟩
  · have hz : ((M.length : Int) != (N.length : Int)) = true := by rw [bne_iff_ne]; omega
    have HD := Lib.hid (decide_eq_false (p := M = N) (fun e => hLM (by rw [e])))
    clear hLM
    go_enter Try.func37, Try.ntmps37
    go_wp2
    go_ret
    exact ⟨by rw [HD.out]; rfl, Below.refl _ _⟩

end Go.Proofs.Ytgenjbeamlffmaa

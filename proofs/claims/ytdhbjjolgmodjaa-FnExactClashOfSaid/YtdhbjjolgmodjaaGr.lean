/- Groundwork over this seat's translation: Same, Tmsz, Tmeq, Tsm in one text; the conditions stand at each part. -/
import Derived.Test.YtdhbjjolgmodjaaGb
import Derived.IntWalk
import Derived.Test.YtdhbjjolgmodjaaTm
import Derived.Deep.RegionHeld3
import Derived.BigQuiet

/- The contract of the laws' function that compares two ranges span by span, over this seat's translation: it answers whether the spans are the same; nothing that was there before the call has changed. Condition: at most 1048576 spans. -/
namespace Go.Proofs.Ytdhbjjolgmodjaa
open Go.RowKit Go.Sort

theorem span_differ {x y x' y' : Int} (h : ¬ (x = x' ∧ y = y')) (V : World) : (binOp .neq 139 (span x y) (span x' y')).run Try.prog V = .ok (.bool true) V := by
  by_cases h1 : x = x'
  · have h2 : ¬ y = y' := fun e => h ⟨h1, e⟩
    subst h1
    have b2 : (y == y') = false := by rw [beq_eq_false_iff_ne]; exact h2
    go_simp
  · have b1 : (x == x') = false := by rw [beq_eq_false_iff_ne]; exact h1
    go_simp
theorem span_alike {x y x' y' : Int} (h : x = x' ∧ y = y') (V : World) : (binOp .neq 139 (span x y) (span x' y')).run Try.prog V = .ok (.bool false) V := by
  obtain ⟨rfl, rfl⟩ := h
  go_simp

/-- What the loop keeps: the first k spans are alike. -/
def SameRel (L M : List (Int × Int)) (w1 : World) (i : Value) (wr : World) : Prop :=
  ∃ k : Nat, k ≤ L.length ∧ i = .int .i64 (k : Int) ∧ L.take k = M.take k ∧ Below w1.heap.size w1 wr

set_option maxHeartbeats 2000000 in
theorem sameRange_any (v v' : Value) (L M : List (Int × Int)) (w : World) (hl : L.length ≤ 1048576) (_hm : M.length ≤ 1048576)
    (h : SpAt w w.heap.size v L) (h' : SpAt w w.heap.size v' M) :
    Calls Try.prog 60 #[.agg #[v], .agg #[v']] w fun e w' => e = .returned (.bool (decide (L = M))) ∧ Below w.heap.size w w' := by
  obtain ⟨a, cap, rfl, hc⟩ := h
  obtain ⟨a', cap', rfl, hc'⟩ := h'
  have H := Lib.hid hc
  have H' := Lib.hid hc'
  clear hc hc'
  by_cases hLM : M.length = L.length
  · have HLM := Lib.hid hLM
    have hz : ((L.length : Int) != (L.length : Int)) = false := by simp
    rw [hLM]
    clear hLM
    obtain ⟨w1, hw1⟩ : ∃ V : World, V = (w.alloc (.cells #[.slice a L.length cap] 81)).alloc (.cells #[.slice a' L.length cap'] 81) := ⟨_, rfl⟩
    have b1 : Below w.heap.size w w1 := by
      rw [hw1]
      exact ((Below.refl w.heap.size w).alloc (Nat.le_refl _) _).alloc (by simp) _
    have p0 : w1.cell? ⟨w.heap.size, 0, none⟩ = some (.slice a L.length cap) := by rw [hw1]; go_simp
    have p1 : w1.cell? ⟨w.heap.size + 1, 0, none⟩ = some (.slice a' L.length cap') := by rw [hw1]; go_simp
    have s1 : w.heap.size + 2 ≤ w1.heap.size := by rw [hw1]; simp
    go_enter Try.func60, Try.ntmps60
    go_wp2
    rw [← hw1]
    clear hw1
    go_loopw [5] (fun i wr => SameRel L M w1 i wr) (fun i _ => L.length - (intOf i).toNat)
    case atStart => exact ⟨0, Nat.zero_le _, rfl, rfl, Below.refl _ _⟩
    case round =>
      obtain ⟨k, hk, rfl, ht, hb⟩ := hrel
      have HT := Lib.hid ht
      have q0 := (hb.cell (p := ⟨w.heap.size, 0, none⟩) (by show w.heap.size < w1.heap.size; omega)).trans p0
      have q1 := (hb.cell (p := ⟨w.heap.size + 1, 0, none⟩) (by show w.heap.size + 1 < w1.heap.size; omega)).trans p1
      clear ht
      by_cases hlt : k < L.length
      · rcases H.out with h1 | ⟨b, o, rfl, hB, hc⟩
        · subst h1
          exact absurd hlt (by simp)
        rcases H'.out with h2 | ⟨b', o', rfl, hB', hc'⟩
        · have := HLM.out
          subst h2
          simp at this
          omega
        have hlt' : k < M.length := by have := HLM.out; omega
        obtain ⟨x, y, hxy⟩ : ∃ x y, L[k] = (x, y) := ⟨_, _, rfl⟩
        obtain ⟨x', y', hxy'⟩ : ∃ x y, M[k] = (x, y) := ⟨_, _, rfl⟩
        have c := hc k hlt
        have c' := hc' k hlt'
        rw [hxy] at c
        rw [hxy'] at c'
        have bb := b1.trans (hb.mono b1.size)
        have k0 := (bb.cell (p := ⟨b, o + k * 2, none⟩) hB).trans c.1
        have k1 := (bb.cell (p := ⟨b, o + k * 2 + 1, none⟩) hB).trans c.2
        have l0 := (bb.cell (p := ⟨b', o' + k * 2, none⟩) hB').trans c'.1
        have l1 := (bb.cell (p := ⟨b', o' + k * 2 + 1, none⟩) hB').trans c'.2
        have HX := Lib.hid (show L[k]? = some (x, y) by rw [List.getElem?_eq_getElem hlt, hxy])
        have HX' := Lib.hid (show M[k]? = some (x', y') by rw [List.getElem?_eq_getElem hlt', hxy'])
        have BB := Lib.hid bb
        have HB := Lib.hid hb
        clear hc hc' c c' hxy hxy' bb hb
        simp only at k0 k1 l0 l1
        have i0 : (0 : Int) ≤ (k : Int) := by omega
        have i1 : (k : Int) < (L.length : Int) := by omega
        by_cases heq : x = x' ∧ y = y'
        · have hE := span_alike heq
          have HE := Lib.hid heq
          clear heq
          go_wp2_with fail
          go_quiet (fail)
          go_wp2_with fail
          go_roundw
          case rel =>
            refine ⟨k + 1, by omega, by go_num, ?_, HB.out.trans ⟨rfl, rfl, rfl, Nat.le_refl _, fun _ _ => rfl⟩⟩
            rw [List.take_add_one, List.take_add_one, HX.out, HX'.out, HT.out, HE.out.1, HE.out.2]
          case measure => simp [intOf]; omega
        · have hE := span_differ heq
          have HD := Lib.hid (decide_eq_false (p := L = M) (differ_at HX.out HX'.out heq))
          clear heq
          go_wp2_with fail
          go_quiet (fail)
          go_wp2_with fail
          go_ret
          exact ⟨by rw [HD.out]; rfl, BB.out.trans ⟨rfl, rfl, rfl, Nat.le_refl _, fun _ _ => rfl⟩⟩
      · obtain rfl : k = L.length := by omega
        have hd : L = M := by
          have := HT.out
          rw [List.take_length] at this
          rw [this]
          have := HLM.out
          rw [← this, List.take_length]
        have HD := Lib.hid (decide_eq_true hd)
        clear hd
        go_wp2_with fail
        go_ret
        exact ⟨by rw [HD.out]; rfl, b1.trans (hb.mono b1.size)⟩
  · have hz : ((L.length : Int) != (M.length : Int)) = true := by rw [bne_iff_ne]; omega
    have HD := Lib.hid (decide_eq_false (p := L = M) (fun e => hLM (by rw [e])))
    clear hLM
    go_enter Try.func60, Try.ntmps60
    go_wp2
    go_ret
    exact ⟨by rw [HD.out]; rfl, ((Below.refl w.heap.size w).alloc (Nat.le_refl _) _).alloc (by simp) _⟩

end Go.Proofs.Ytdhbjjolgmodjaa

/- Contracts of the laws' functions that measure terms, over this seat's translation: what is left of a measure behind all terms and their spans, or -1; nothing that was there before the call has changed. Condition: no row is longer than any slice can be. -/
namespace Go.Proofs.Ytdhbjjolgmodjaa
open Go.RowKit Go.Sort

set_option maxRecDepth 100000 in
set_option maxHeartbeats 400000 in
theorem szTerm_any (x : Int) (f : Bool) (a : Option Addr) (len cap : Nat) (left : Int) (w : World) (h0 : 0 ≤ left) (h1 : left ≤ 1048576) (hl : len ≤ 9223372036854775807) :
    Calls Try.prog 44 #[term x (.slice a len cap) f, .int .i64 left] w fun e w' => e = .returned (.int .i64 (leftOf left len)) ∧ Below w.heap.size w w' := by
  have K := Lib.hid fun V => szRange_any a len cap left V h0 h1 hl
  have b0 := (Below.refl w.heap.size w).alloc (Nat.le_refl _) (.cells #[.int .i64 x, .slice a len cap, .bool f] 78)
  unfold leftOf
  by_cases h : left < (len : Int)
  · rw [if_pos h] at K ⊢
    go_enter Try.func44, Try.ntmps44
    go_wp2_with fail
    refine (K.out _).mono ?_
    rintro e w1 ⟨rfl, hb⟩
    go_wp2_with fail
    go_ret
    exact ⟨rfl, b0.trans (hb.mono b0.size)⟩
  · rw [if_neg h] at K ⊢
    have hn : ¬ left - (len : Int) < 0 := by omega
    go_enter Try.func44, Try.ntmps44
    go_wp2_with fail
    refine (K.out _).mono ?_
    rintro e w1 ⟨rfl, hb⟩
    go_wp2_with fail
    go_ret
    exact ⟨rfl, b0.trans (hb.mono b0.size)⟩

/-- What the loop of szTermS keeps: what is left, and what it will take. -/
def TSzRel (M : List Tm) (T : Int) (w : World) (s i : Value) (wr : World) : Prop :=
  ∃ (k : Nat) (r : Int), k ≤ M.length ∧ i = .int .i64 (k : Int) ∧ s = .int .i64 r ∧ 0 ≤ r ∧ r ≤ 1048576 ∧ r - (tmSz (M.drop k) : Int) = T ∧ Below w.heap.size w wr

theorem tsz_push {M : List Tm} {T r : Int} {w wr : World} {k : Nat} {x : Int} {f : Bool} {L : List (Int × Int)} (hM : M[k]? = some (x, L, f)) (h0 : 0 ≤ r) (h1 : r ≤ 1048576) (hT : r - (tmSz (M.drop k) : Int) = T) (hn : ¬ r < (L.length : Int)) (hb : Below w.heap.size w wr) :
    TSzRel M T w (.int .i64 (r - (L.length : Int))) (.int .i64 ((k : Int) + 1)) wr := by
  have hk : k < M.length := (List.getElem?_eq_some_iff.1 hM).1
  have hd := tmSz_drop M k _ hM
  simp only at hd
  exact ⟨k + 1, r - (L.length : Int), by omega, by go_num, rfl, by omega, by omega, by omega, hb⟩

set_option maxRecDepth 100000 in
set_option maxHeartbeats 1000000 in
theorem szTermS_any (v : Value) (M : List Tm) (left : Int) (w : World) (h0 : 0 ≤ left) (h1 : left ≤ 1048576) (hl : M.length ≤ maxLen) (hq : ∀ q ∈ M, q.2.1.length ≤ maxLen) (h : TmAt w w.heap.size v M) :
    Calls Try.prog 10 #[v, .int .i64 left] w fun e w' => e = .returned (.int .i64 (leftOf left (M.length + tmSz M))) ∧ Below w.heap.size w w' := by
  obtain ⟨a, cap, rfl, h⟩ := h
  unfold maxLen at hl
  by_cases hs : left < (M.length : Int)
  · have hr : leftOf left (M.length + tmSz M) = -1 := by unfold leftOf; rw [if_pos (by omega)]
    rw [hr]
    clear hr h
    go_enter Try.func10, Try.ntmps10
    go_wp2_with fail
    go_ret
    exact ⟨rfl, Below.refl _ _⟩
  · have hn : ¬ left - (M.length : Int) < 0 := by omega
    obtain ⟨T, hT⟩ : ∃ T : Int, left - (M.length : Int) - (tmSz M : Int) = T := ⟨_, rfl⟩
    obtain ⟨R, hR⟩ : ∃ R : Int, leftOf left (M.length + tmSz M) = R := ⟨_, rfl⟩
    have HR := Lib.hid (show (T < 0 → R = -1) ∧ (¬ T < 0 → R = T) by
      rw [← hR]
      unfold leftOf
      constructor <;> intro h <;> split <;> omega)
    rw [hR]
    clear hR
    have HS := Lib.hid (show TSzRel M T w (.int .i64 (left - (M.length : Int))) (.int .i64 0) w from ⟨0, _, Nat.zero_le _, rfl, rfl, by omega, by omega, by simpa using hT, Below.refl _ _⟩)
    go_enter Try.func10, Try.ntmps10
    go_wp2_with fail
    go_loopw [1, 5] (fun s i wr => TSzRel M T w s i wr) (fun _ i _ => M.length - (intOf i).toNat)
    case atStart => exact HS.out
    case round =>
      obtain ⟨k, r, hk, rfl, rfl, r0, r1, hT', hb⟩ := hrel
      by_cases hlt : k < M.length
      · rcases h with h | ⟨b, o, rfl, hB, hc⟩
        · subst h
          exact absurd hlt (by simp)
        obtain ⟨x, L, f, hxy⟩ : ∃ x L f, M[k] = (x, L, f) := ⟨_, _, _, rfl⟩
        have c := (hc k hlt).below hb hB
        rw [hxy] at c
        obtain ⟨e0, a1, cap1, e1, hs', e2⟩ := c
        have hL : L.length ≤ 9223372036854775807 := by have := hq _ (List.getElem_mem hlt); rw [hxy] at this; unfold maxLen at this; simp only at this; omega
        simp only at e0 e1 hs' e2
        have HXY := Lib.hid (show M[k]? = some (x, L, f) by rw [List.getElem?_eq_getElem hlt, hxy])
        clear hxy hc hs'
        have KS := szTerm_any x f a1 L.length cap1 r wr r0 r1 hL
        unfold leftOf at KS
        by_cases hx : r < (L.length : Int)
        · rw [if_pos hx] at KS
          have HF := Lib.hid (show T < 0 by have := tmSz_drop M k _ HXY.out; simp only at this; omega)
          have HK := Lib.hid KS
          clear KS
          go_wp2_with fail
          refine HK.out.mono ?_
          rintro e w2 ⟨rfl, hb2⟩
          go_wp2_with fail
          go_ret
          exact ⟨by rw [HR.out.1 HF.out]; rfl, hb.trans (hb2.mono hb.size)⟩
        · rw [if_neg hx] at KS
          have HK := Lib.hid KS
          have hn2 : ¬ r - (L.length : Int) < 0 := by omega
          clear KS
          go_wp2_with fail
          refine HK.out.mono ?_
          rintro e w2 ⟨rfl, hb2⟩
          have HP := Lib.hid (tsz_push HXY.out r0 r1 hT' (by omega) (hb.trans (hb2.mono hb.size)))
          clear hb hb2 hT'
          go_wp2_with fail
          go_roundw
          case rel => exact HP.out
          case measure => simp [intOf]; omega
      · obtain rfl : k = M.length := by omega
        rw [List.drop_length] at hT'
        have HF := Lib.hid (show R = r by rw [HR.out.2 (by simp [tmSz] at hT'; omega)]; simp [tmSz] at hT'; omega)
        clear hT'
        go_wp2_with fail
        go_ret
        exact ⟨by rw [HF.out]; rfl, hb⟩

end Go.Proofs.Ytdhbjjolgmodjaa

/- Contracts of the laws' functions that compare terms, over this seat's translation: they answer whether the terms are the same; nothing that was there before the call has changed. Condition: at most 1048576 terms, and spans of each. -/
namespace Go.Proofs.Ytdhbjjolgmodjaa
open Go.RowKit Go.Sort

set_option maxRecDepth 100000 in
set_option maxHeartbeats 1000000 in
theorem eqTerm_any (x x' : Int) (v v' : Value) (f f' : Bool) (L L' : List (Int × Int)) (w : World) (hl : L.length ≤ 1048576) (hm : L'.length ≤ 1048576) (h : SpAt w w.heap.size v L) (h' : SpAt w w.heap.size v' L') :
    Calls Try.prog 54 #[term x v f, term x' v' f'] w fun e w' => e = .returned (.bool (decide (x = x' ∧ L = L' ∧ f = f'))) ∧ Below w.heap.size w w' := by
  have c := h
  have c' := h'
  obtain ⟨a, cap, rfl, _⟩ := c
  obtain ⟨a', cap', rfl, _⟩ := c'
  have b0 := ((Below.refl w.heap.size w).alloc (Nat.le_refl _) (.cells #[.int .i64 x, .slice a L.length cap, .bool f] 83)).alloc (by simp) (.cells #[.int .i64 x', .slice a' L'.length cap', .bool f'] 83)
  have K := eqRange_any a a' cap cap' L L' _ hl hm ((h.below b0).mono b0.size) ((h'.below b0).mono b0.size)
  have HB := Lib.hid b0
  clear h h' b0
  by_cases hx : x = x'
  · subst hx
    by_cases hL : L = L'
    · subst hL
      rw [show decide (x = x ∧ L = L ∧ f = f') = decide (f = f') from decide_eq_decide.2 (by simp)]
      rw [decide_eq_true rfl] at K
      have HK := Lib.hid K
      have C0 := Lib.hid (show ((w.alloc (.cells #[.int .i64 x, .slice a L.length cap, .bool f] 83)).alloc (.cells #[.int .i64 x, .slice a' L.length cap', .bool f'] 83)).cell? ⟨w.heap.size, 2, none⟩ = some (.bool f) by go_simp)
      have C1 := Lib.hid (show ((w.alloc (.cells #[.int .i64 x, .slice a L.length cap, .bool f] 83)).alloc (.cells #[.int .i64 x, .slice a' L.length cap', .bool f'] 83)).cell? ⟨w.heap.size + 1, 2, none⟩ = some (.bool f') by go_simp)
      clear K
      rcases f <;> rcases f'
      all_goals
        go_enter Try.func54, Try.ntmps54
        go_wp2_with fail
        refine HK.out.mono ?_
        rintro e w1 ⟨rfl, hb⟩
        have z0 := (hb.cell (p := ⟨w.heap.size, 2, none⟩) (by simp; omega)).trans C0.out
        have z1 := (hb.cell (p := ⟨w.heap.size + 1, 2, none⟩) (by simp)).trans C1.out
        go_wp2_with fail
        go_ret
        exact ⟨rfl, HB.out.trans (hb.mono HB.out.size)⟩
    · rw [show decide (x = x ∧ L = L' ∧ f = f') = false from decide_eq_false (fun e => hL e.2.1)]
      rw [decide_eq_false hL] at K
      have HK := Lib.hid K
      clear K hL
      go_enter Try.func54, Try.ntmps54
      go_wp2_with fail
      refine HK.out.mono ?_
      rintro e w1 ⟨rfl, hb⟩
      go_wp2_with fail
      go_ret
      exact ⟨rfl, HB.out.trans (hb.mono HB.out.size)⟩
  · rw [decide_eq_false (p := x = x' ∧ L = L' ∧ f = f') (fun e => hx e.1)]
    clear K
    go_enter Try.func54, Try.ntmps54
    go_wp2_with fail
    go_ret
    exact ⟨rfl, HB.out⟩

/-- What the loop of eqTermS keeps: the first k terms are alike. -/
def TEqRel (M N : List Tm) (w : World) (i : Value) (wr : World) : Prop :=
  ∃ k : Nat, k ≤ M.length ∧ i = .int .i64 (k : Int) ∧ M.take k = N.take k ∧ Below w.heap.size w wr

theorem teq_push {M N : List Tm} {w wr : World} {k : Nat} {q : Tm} (hk : k < M.length) (hM : M[k]? = some q) (hN : N[k]? = some q) (ht : M.take k = N.take k) (hb : Below w.heap.size w wr) :
    TEqRel M N w (.int .i64 ((k : Int) + 1)) wr :=
  ⟨k + 1, by omega, by go_num, by rw [List.take_add_one, List.take_add_one, hM, hN, ht], hb⟩

theorem tdiffer_at {M N : List Tm} {k : Nat} {q q' : Tm} (hM : M[k]? = some q) (hN : N[k]? = some q') (h : ¬ (q.1 = q'.1 ∧ q.2.1 = q'.2.1 ∧ q.2.2 = q'.2.2)) : ¬ M = N := by
  rintro rfl
  rw [hM] at hN
  cases hN
  exact h ⟨rfl, rfl, rfl⟩

set_option maxRecDepth 100000 in
set_option maxHeartbeats 2000000 in
theorem eqTermS_any (v v' : Value) (M N : List Tm) (w : World) (hl : M.length ≤ 1048576) (hm : N.length ≤ 1048576) (hq : ∀ q ∈ M, q.2.1.length ≤ 1048576) (hq' : ∀ q ∈ N, q.2.1.length ≤ 1048576)
    (h : TmAt w w.heap.size v M) (h' : TmAt w w.heap.size v' N) :
    Calls Try.prog 14 #[v, v'] w fun e w' => e = .returned (.bool (decide (M = N))) ∧ Below w.heap.size w w' := by
  obtain ⟨a, cap, rfl, hc⟩ := h
  obtain ⟨a', cap', rfl, hc'⟩ := h'
  have H := Lib.hid hc
  have H' := Lib.hid hc'
  clear hc hc'
  by_cases hLM : N.length = M.length
  · have HLM := Lib.hid hLM
    have hz : ((M.length : Int) != (M.length : Int)) = false := by simp
    rw [hLM]
    clear hLM
    go_enter Try.func14, Try.ntmps14
    go_wp2
    go_loopw [5] (fun i wr => TEqRel M N w i wr) (fun i _ => M.length - (intOf i).toNat)
    case atStart => exact ⟨0, Nat.zero_le _, rfl, rfl, Below.refl _ _⟩
    case round =>
      obtain ⟨k, hk, rfl, ht, hb⟩ := hrel
      have HT := Lib.hid ht
      clear ht
      by_cases hlt : k < M.length
      · rcases H.out with h1 | ⟨b, o, rfl, hB, hc⟩
        · subst h1
          exact absurd hlt (by simp)
        rcases H'.out with h2 | ⟨b', o', rfl, hB', hc'⟩
        · have := HLM.out
          subst h2
          simp at this
          omega
        have hlt' : k < N.length := by have := HLM.out; omega
        obtain ⟨x, L, f, hxy⟩ : ∃ x y f, M[k] = (x, y, f) := ⟨_, _, _, rfl⟩
        obtain ⟨x', L', f', hxy'⟩ : ∃ x y f, N[k] = (x, y, f) := ⟨_, _, _, rfl⟩
        have c := (hc k hlt).below hb hB
        have c' := (hc' k hlt').below hb hB'
        rw [hxy] at c
        rw [hxy'] at c'
        obtain ⟨k0, a1, cap1, k1, hs, k2⟩ := c
        obtain ⟨l0, a2, cap2, l1, hs', l2⟩ := c'
        have hL : L.length ≤ 1048576 := by have := hq _ (List.getElem_mem hlt); rwa [hxy] at this
        have hL' : L'.length ≤ 1048576 := by have := hq' _ (List.getElem_mem hlt'); rwa [hxy'] at this
        simp only at k0 k1 k2 l0 l1 l2 hs hs'
        have hs := hs.mono hb.size
        have hs' := hs'.mono hb.size
        have HX := Lib.hid (show M[k]? = some (x, L, f) by rw [List.getElem?_eq_getElem hlt, hxy])
        have HX' := Lib.hid (show N[k]? = some (x', L', f') by rw [List.getElem?_eq_getElem hlt', hxy'])
        clear hc hc' hxy hxy'
        have i0 : (0 : Int) ≤ (k : Int) := by omega
        have i1 : (k : Int) < (M.length : Int) := by omega
        have mb : b < wr.heap.size := Nat.lt_of_lt_of_le hB hb.size
        have mb' : b' < wr.heap.size := Nat.lt_of_lt_of_le hB' hb.size
        by_cases heq : x = x' ∧ L = L' ∧ f = f'
        · have K : Hid (∀ V, SpAt V V.heap.size (.slice a1 L.length cap1) L → SpAt V V.heap.size (.slice a2 L'.length cap2) L' → Calls Try.prog 54 #[term x (.slice a1 L.length cap1) f, term x' (.slice a2 L'.length cap2) f'] V fun e w' => e = .returned (.bool true) ∧ Below V.heap.size V w') := Lib.hid fun V g g' => by
            have := eqTerm_any x x' _ _ f f' L L' V hL hL' g g'
            rwa [decide_eq_true heq] at this
          have HE := Lib.hid heq
          clear heq
          go_wp2_with fail
          go_region_held3 (fun V => V.cell? ⟨b, o + k * 3, none⟩ = some (.int .i64 x) ∧ V.cell? ⟨b, o + k * 3 + 1, none⟩ = some (.slice a1 L.length cap1) ∧ V.cell? ⟨b, o + k * 3 + 2, none⟩ = some (.bool f) ∧ V.cell? ⟨b', o' + k * 3, none⟩ = some (.int .i64 x') ∧ V.cell? ⟨b', o' + k * 3 + 1, none⟩ = some (.slice a2 L'.length cap2) ∧ V.cell? ⟨b', o' + k * 3 + 2, none⟩ = some (.bool f')) (go_keep)
            (first
            | (go_at_call 54; refine (K.out _ (hs.stepAt (by go_grown)) (hs'.stepAt (by go_grown))).mono ?_; rintro e wp ⟨rfl, hbp⟩; have nn : Below wr.heap.size wr wp := Below.step (by go_grown) hbp;
                have p0 := (nn.cell (p := ⟨b, o + k * 3, none⟩) mb).trans k0; have p1 := (nn.cell (p := ⟨b, o + k * 3 + 1, none⟩) mb).trans k1; have p2 := (nn.cell (p := ⟨b', o' + k * 3, none⟩) mb').trans l0; have p3 := (nn.cell (p := ⟨b', o' + k * 3 + 1, none⟩) mb').trans l1; have p4 := (nn.cell (p := ⟨b, o + k * 3 + 2, none⟩) mb).trans k2; have p5 := (nn.cell (p := ⟨b', o' + k * 3 + 2, none⟩) mb').trans l2))
          all_goals
            have HP := Lib.hid (teq_push (w := w) hlt HX.out (by have := HX'.out; rwa [← HE.out.1, ← HE.out.2.1, ← HE.out.2.2] at this) HT.out (hb.trans (nn.mono hb.size)))
            go_wp2_with fail
            go_roundw
            case rel => exact HP.out
            case measure => simp [intOf]; omega
        · have K : Hid (∀ V, SpAt V V.heap.size (.slice a1 L.length cap1) L → SpAt V V.heap.size (.slice a2 L'.length cap2) L' → Calls Try.prog 54 #[term x (.slice a1 L.length cap1) f, term x' (.slice a2 L'.length cap2) f'] V fun e w' => e = .returned (.bool false) ∧ Below V.heap.size V w') := Lib.hid fun V g g' => by
            have := eqTerm_any x x' _ _ f f' L L' V hL hL' g g'
            rwa [decide_eq_false heq] at this
          have HN := Lib.hid (tdiffer_at HX.out HX'.out heq)
          clear heq
          go_wp2_with fail
          go_region_held3 (fun V => V.cell? ⟨b, o + k * 3, none⟩ = some (.int .i64 x) ∧ V.cell? ⟨b, o + k * 3 + 1, none⟩ = some (.slice a1 L.length cap1) ∧ V.cell? ⟨b, o + k * 3 + 2, none⟩ = some (.bool f) ∧ V.cell? ⟨b', o' + k * 3, none⟩ = some (.int .i64 x') ∧ V.cell? ⟨b', o' + k * 3 + 1, none⟩ = some (.slice a2 L'.length cap2) ∧ V.cell? ⟨b', o' + k * 3 + 2, none⟩ = some (.bool f')) (go_keep)
            (first
            | (go_at_call 54; refine (K.out _ (hs.stepAt (by go_grown)) (hs'.stepAt (by go_grown))).mono ?_; rintro e wp ⟨rfl, hbp⟩; have nn : Below wr.heap.size wr wp := Below.step (by go_grown) hbp;
                have p0 := (nn.cell (p := ⟨b, o + k * 3, none⟩) mb).trans k0; have p1 := (nn.cell (p := ⟨b, o + k * 3 + 1, none⟩) mb).trans k1; have p2 := (nn.cell (p := ⟨b', o' + k * 3, none⟩) mb').trans l0; have p3 := (nn.cell (p := ⟨b', o' + k * 3 + 1, none⟩) mb').trans l1; have p4 := (nn.cell (p := ⟨b, o + k * 3 + 2, none⟩) mb).trans k2; have p5 := (nn.cell (p := ⟨b', o' + k * 3 + 2, none⟩) mb').trans l2))
          all_goals
            go_wp2_with fail
            go_ret
            exact ⟨by rw [decide_eq_false HN.out]; rfl, hb.trans (nn.mono hb.size)⟩
      · obtain rfl : k = M.length := by omega
        have hd : M = N := by
          have := HT.out
          rw [List.take_length] at this
          rw [this]
          have := HLM.out
          rw [← this, List.take_length]
        have HD := Lib.hid (decide_eq_true hd)
        clear hd
        go_wp2_with fail
        go_ret
        exact ⟨by rw [HD.out]; rfl, hb⟩
  · have hz : ((M.length : Int) != (N.length : Int)) = true := by rw [bne_iff_ne]; omega
    have HD := Lib.hid (decide_eq_false (p := M = N) (fun e => hLM (by rw [e])))
    clear hLM
    go_enter Try.func14, Try.ntmps14
    go_wp2
    go_ret
    exact ⟨by rw [HD.out]; rfl, Below.refl _ _⟩

end Go.Proofs.Ytdhbjjolgmodjaa

/- The contract of the laws' function that compares rows of terms, over this seat's translation, for one row at two places: it answers yes; nothing that was there before a call has changed. Condition: at most 1048576 terms, and spans of each. -/
namespace Go.Proofs.Ytdhbjjolgmodjaa
open Go.RowKit Go.Sort

namespace Tsm
set_option maxRecDepth 100000 in
set_option maxHeartbeats 4000000 in
theorem sameTerms_same (v v' : Value) (M : List Tm) (w : World) (hl : M.length ≤ 1048576) (hq : ∀ q ∈ M, q.2.1.length ≤ 1048576) (h : TmAt w w.heap.size v M) (h' : TmAt w w.heap.size v' M) :
    Calls Try.prog 18 #[v, v'] w fun e w' => e = .returned (.bool true) ∧ Below w.heap.size w w' := by
  obtain ⟨ad, cap, rfl, hc⟩ := h
  obtain ⟨ad', cap', rfl, hc'⟩ := h'
  have H := Lib.hid hc
  have H' := Lib.hid hc'
  clear hc hc'
  have hz : ((M.length : Int) != (M.length : Int)) = false := by simp
  go_enter Try.func18, Try.ntmps18
  go_wp2_with fail
  go_loopw [5] (fun i wr => ∃ k : Nat, k ≤ M.length ∧ i = .int .i64 (k : Int) ∧ Below w.heap.size w wr) (fun i _ => M.length - (intOf i).toNat)
  case atStart => exact ⟨0, Nat.zero_le _, rfl, Below.refl _ _⟩
  case round =>
    obtain ⟨k, hk, rfl, hb⟩ := hrel
    by_cases hlt : k < M.length
    · rcases H.out with h1 | ⟨g, o, rfl, hB, hc⟩
      · subst h1
        exact absurd hlt (by simp)
      rcases H'.out with h2 | ⟨g', o', rfl, hB', hc'⟩
      · subst h2
        exact absurd hlt (by simp)
      obtain ⟨x, L, f, hxy⟩ : ∃ x L f, M[k] = (x, L, f) := ⟨_, _, _, rfl⟩
      have m1 := (hc k hlt).below hb hB
      have m2 := (hc' k hlt).below hb hB'
      rw [hxy] at m1 m2
      obtain ⟨k0, p1, cap1, k1, hs, k2⟩ := m1
      obtain ⟨l0, p2, cap2, l1, hs', l2⟩ := m2
      have hL : L.length ≤ 1048576 := by have := hq _ (List.getElem_mem hlt); rwa [hxy] at this
      simp only at k0 k1 k2 l0 l1 l2 hs hs'
      have HS := Lib.hid (hs.mono hb.size)
      have HS' := Lib.hid (hs'.mono hb.size)
      clear hc hc' hxy hs hs'
      have i0 : (0 : Int) ≤ (k : Int) := by omega
      have i1 : (k : Int) < (M.length : Int) := by omega
      have t0 := cell_regrown k0
      have t1 := cell_regrown k1
      have t2 := cell_regrown k2
      have u2 := cell_regrown l2
      have u0 := cell_regrown l0
      have u1 := cell_regrown l1
      have hx : (x != x) = false := by simp
      have hf : (f != f) = false := by simp
      clear k0 k1 k2 l0 l1 l2
      have K : Hid (∀ V, SpAt V V.heap.size (.slice p1 L.length cap1) L → SpAt V V.heap.size (.slice p2 L.length cap2) L → Calls Try.prog 60 #[.agg #[.slice p1 L.length cap1], .agg #[.slice p2 L.length cap2]] V fun e w' => e = .returned (.bool true) ∧ Below V.heap.size V w') := Lib.hid fun V g g' => by
        have := sameRange_any _ _ L L V hL hL g g'
        rwa [decide_eq_true rfl] at this
      go_wp2_with fail
      refine wp_region_quiet_below (by kernel_rfl) (by kernel_rfl) ?_
      repeat (any_goals (first | go_big_quiet_step ((go_at_call 60; exact Calls.regrown_of (K.out _ (HS.out.stepAt (below_regrown _ _ _)) (HS'.out.stepAt (below_regrown _ _ _))))) | quiet_step ((go_at_call 60; exact Calls.regrown_of (K.out _ (HS.out.stepAt (below_regrown _ _ _)) (HS'.out.stepAt (below_regrown _ _ _)))))))
      refine wpQuiet_nil ?_
      intro W2 hw
      have nn := quiet_end hw
      clear hw t0 t1 t2 u0 u1 u2 hx hf
      have HP := Lib.hid (hb.trans (nn.mono hb.size))
      go_wp2_with fail
      go_roundw
      case rel => exact ⟨k + 1, by omega, by go_num, HP.out⟩
      case measure => simp [intOf]; omega
    · obtain rfl : k = M.length := by omega
      go_wp2_with fail
      go_ret
      exact ⟨rfl, hb⟩
end Tsm
end Go.Proofs.Ytdhbjjolgmodjaa

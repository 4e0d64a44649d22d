/- Contracts of the functions that compare scripts and texts, and of KeptFind, the program's and the model's, over this seat's translation; nothing that was there before the call has changed. Conditions: at most 1048576 entries, lines and texts of each. -/
import Derived.Test.YtopplljilmjjgaaGy
import Derived.Test.YtopplljilmjjgaaRxw
import Derived.BigQuiet
namespace Go.Proofs.Ytopplljilmjjgaa
open Go.ChangeShapes Go.WideShapes Go.ChangeAt Go.RowKit Go.Sort Go.Joins Go.Deep
namespace Kf
open En Rx
theorem txt_eq {t t' : ByteArray} (h : t.toList = t'.toList) : t = t' := text_eq (by rwa [ByteArray.toList_eq, ByteArray.toList_eq] at h)
theorem lnN_any (p q r p' q' r' : Int) (t t' : ByteArray) (V : World) : (binOp .neq 99 (.agg #[.int .i64 p, .int .i64 q, .int .i64 r, .string t]) (.agg #[.int .i64 p', .int .i64 q', .int .i64 r', .string t'])).run Try.prog V = .ok (.bool (decide ((p, q, r, t) ≠ (p', q', r', t')))) V := by
  by_cases h1 : p = p'
  · subst h1
    have g1 : (p == p) = true := by simp
    by_cases h2 : q = q'
    · subst h2
      have g2 : (q == q) = true := by simp
      by_cases h3 : r = r'
      · subst h3
        have g3 : (r == r) = true := by simp
        by_cases h4 : t = t'
        · subst h4
          have g4 : (t.toList == t.toList) = true := by simp
          rw [show decide ((p, q, r, t) ≠ (p, q, r, t)) = false by simp]
          go_simp
        · have g4 : (t.toList == t'.toList) = false := by rw [beq_eq_false_iff_ne]; exact fun e => h4 (txt_eq e)
          rw [show decide ((p, q, r, t) ≠ (p, q, r, t')) = true by simp [h4]]
          go_simp
      · have g3 : (r == r') = false := by rw [beq_eq_false_iff_ne]; exact h3
        rw [show decide ((p, q, r, t) ≠ (p, q, r', t')) = true by simp [h3]]
        go_simp
    · have g2 : (q == q') = false := by rw [beq_eq_false_iff_ne]; exact h2
      rw [show decide ((p, q, r, t) ≠ (p, q', r', t')) = true by simp [h2]]
      go_simp
  · have g1 : (p == p') = false := by rw [beq_eq_false_iff_ne]; exact h1
    rw [show decide ((p, q, r, t) ≠ (p', q', r', t')) = true by simp [h1]]
    go_simp
theorem take_snoc {α : Type} {A B : List α} {k : Nat} {x y : α} (hx : A[k]? = some x) (hy : B[k]? = some y) (e : x = y) (h : A.take k = B.take k) : A.take (k + 1) = B.take (k + 1) := by
  rw [List.take_add_one, List.take_add_one, hx, hy, h, e]
theorem ne_at {α : Type} {A B : List α} {k : Nat} {x y : α} (hx : A[k]? = some x) (hy : B[k]? = some y) (e : x ≠ y) : A ≠ B := fun h => by
  subst h
  rw [hx] at hy
  exact e (Option.some.inj hy)
set_option maxRecDepth 100000 in
set_option maxHeartbeats 4000000 in
theorem l11Lines_any (v v' : Value) (D D' : List Ln) (w : World) (hl : D.length ≤ 1048576) (hl' : D'.length ≤ 1048576) (h : LnAt w w.heap.size v D) (h' : LnAt w w.heap.size v' D') :
    Calls Try.prog 70 #[v, v'] w fun e w' => e = .returned (.bool (decide (D = D'))) ∧ Below w.heap.size w w' := by
  obtain ⟨a, cap, rfl, hc⟩ := h
  obtain ⟨a', cap', rfl, hc'⟩ := h'
  have H := Lib.hid hc
  have H' := Lib.hid hc'
  clear hc hc'
  obtain ⟨n, hn⟩ : ∃ n, D.length = n := ⟨_, rfl⟩
  obtain ⟨n', hn'⟩ : ∃ n, D'.length = n := ⟨_, rfl⟩
  have HN := Lib.hid hn
  have HN' := Lib.hid hn'
  rw [hn] at hl ⊢
  rw [hn'] at hl' ⊢
  clear hn hn'
  by_cases e : n = n'
  rotate_left
  · have hz : ((n : Int) != (n' : Int)) = true := by simp; omega
    have HE := Lib.hid (show decide (D = D') = false from decide_eq_false fun h => by subst h; exact e (HN.out.symm.trans HN'.out))
    go_enter Try.func70, Try.ntmps70
    go_wp2
    go_ret
    exact ⟨by rw [HE.out]; rfl, Below.refl _ _⟩
  subst e
  have hz : ((n : Int) != (n : Int)) = false := by simp
  go_enter Try.func70, Try.ntmps70
  go_wp2
  go_loopw [5] (fun i wr => ∃ k : Nat, k ≤ n ∧ i = .int .i64 (k : Int) ∧ D.take k = D'.take k ∧ Below w.heap.size w wr) (fun i _ => n - (intOf i).toNat)
  case atStart => exact ⟨0, Nat.zero_le _, rfl, by simp, Below.refl _ _⟩
  case round =>
    obtain ⟨k, hk, rfl, htk, hb⟩ := hrel
    have HT := Lib.hid htk
    clear htk
    by_cases hlt : k < n
    · have k0 : k < D.length := by have := HN.out; omega
      have k0' : k < D'.length := by have := HN'.out; omega
      rcases H.out with h1 | ⟨b, o, rfl, hB, hc⟩
      · subst h1
        exact absurd k0 (by simp)
      rcases H'.out with h2 | ⟨b', o', rfl, hB', hc'⟩
      · subst h2
        exact absurd k0' (by simp)
      obtain ⟨p, q, r, t, hxy⟩ : ∃ p q r t, D[k] = (p, q, r, t) := ⟨_, _, _, _, rfl⟩
      obtain ⟨p', q', r', t', hxy'⟩ : ∃ p q r t, D'[k] = (p, q, r, t) := ⟨_, _, _, _, rfl⟩
      have m1 := (hc k k0).below hb hB
      have m2 := (hc' k k0').below hb hB'
      rw [hxy] at m1
      rw [hxy'] at m2
      obtain ⟨e0, e1, e2, e3⟩ := m1
      obtain ⟨l0, l1, l2, l3⟩ := m2
      simp only at e0 e1 e2 e3 l0 l1 l2 l3
      have HX := Lib.hid (show D[k]? = some (p, q, r, t) by rw [List.getElem?_eq_getElem k0, hxy])
      have HX' := Lib.hid (show D'[k]? = some (p', q', r', t') by rw [List.getElem?_eq_getElem k0', hxy'])
      clear hc hc' hxy hxy' k0 k0'
      have i0 : (0 : Int) ≤ (k : Int) := by omega
      have i1 : (k : Int) < (n : Int) := by omega
      have t0 := cell_regrown e0
      have u0 := cell_regrown l0
      have t1 := cell_regrown e1
      have u1 := cell_regrown l1
      have t2 := cell_regrown e2
      have u2 := cell_regrown l2
      have t3 := cell_regrown e3
      have u3 := cell_regrown l3
      by_cases he : (p, q, r, t) = (p', q', r', t')
      · have hne := fun V => lnN_any p q r p' q' r' t t' V
        simp only [show decide (((p, q, r, t) : Ln) ≠ (p', q', r', t')) = false from decide_eq_false (fun h => h he)] at hne
        have HP2 := Lib.hid (take_snoc HX.out HX'.out he HT.out)
        clear he
        go_wp2_with fail
        refine wp_region_quiet_below (by kernel_rfl) (by kernel_rfl) ?_
        repeat (any_goals (first | go_big_quiet_step (fail) | quiet_step (fail)))
        refine wpQuiet_nil ?_
        intro W2 hw
        have nn := quiet_end hw
        clear hw t0 t1 t2 t3 u0 u1 u2 u3 hne
        have HP := Lib.hid (hb.trans (nn.mono hb.size))
        go_wp2_with fail
        go_roundw
        case rel => exact ⟨k + 1, by omega, by go_num, HP2.out, HP.out⟩
        case measure => simp [intOf]; omega
      · have hne := fun V => lnN_any p q r p' q' r' t t' V
        simp only [show decide (((p, q, r, t) : Ln) ≠ (p', q', r', t')) = true from decide_eq_true he] at hne
        have HE := Lib.hid (show decide (D = D') = false from decide_eq_false (ne_at HX.out HX'.out he))
        clear he
        go_wp2_with fail
        refine wp_region_quiet_below (by kernel_rfl) (by kernel_rfl) ?_
        repeat (any_goals (first | go_big_quiet_step (fail) | quiet_step (fail)))
        refine wpQuiet_nil ?_
        intro W2 hw
        have nn := quiet_end hw
        clear hw t0 t1 t2 t3 u0 u1 u2 u3 hne
        have HP := Lib.hid (hb.trans (nn.mono hb.size))
        go_wp2_with fail
        go_ret
        exact ⟨by rw [HE.out]; rfl, HP.out⟩
    · obtain rfl : k = n := by omega
      have HE := Lib.hid (show decide (D = D') = true from decide_eq_true (by have := HT.out; rwa [List.take_of_length_le (by have := HN.out; omega), List.take_of_length_le (by have := HN'.out; omega)] at this))
      go_wp2_with fail
      go_ret
      exact ⟨by rw [HE.out]; rfl, hb⟩
set_option maxRecDepth 100000 in
set_option maxHeartbeats 4000000 in
theorem sameScript_any (v v' : Value) (D D' : List Ln) (w : World) (hl : D.length ≤ 1048576) (hl' : D'.length ≤ 1048576) (h : LnAt w w.heap.size v D) (h' : LnAt w w.heap.size v' D') :
    Calls Try.prog 74 #[v, v'] w fun e w' => e = .returned (.bool (decide (D = D'))) ∧ Below w.heap.size w w' := by
  obtain ⟨a, cap, rfl, hc⟩ := h
  obtain ⟨a', cap', rfl, hc'⟩ := h'
  have H := Lib.hid hc
  have H' := Lib.hid hc'
  clear hc hc'
  obtain ⟨n, hn⟩ : ∃ n, D.length = n := ⟨_, rfl⟩
  obtain ⟨n', hn'⟩ : ∃ n, D'.length = n := ⟨_, rfl⟩
  have HN := Lib.hid hn
  have HN' := Lib.hid hn'
  rw [hn] at hl ⊢
  rw [hn'] at hl' ⊢
  clear hn hn'
  by_cases e : n = n'
  rotate_left
  · have hz : ((n : Int) != (n' : Int)) = true := by simp; omega
    have HE := Lib.hid (show decide (D = D') = false from decide_eq_false fun h => by subst h; exact e (HN.out.symm.trans HN'.out))
    go_enter Try.func74, Try.ntmps74
    go_wp2
    go_ret
    exact ⟨by rw [HE.out]; rfl, Below.refl _ _⟩
  subst e
  have hz : ((n : Int) != (n : Int)) = false := by simp
  go_enter Try.func74, Try.ntmps74
  go_wp2
  go_loopw [14] (fun i wr => ∃ k : Nat, k ≤ n ∧ i = .int .i64 (k : Int) ∧ D.take k = D'.take k ∧ Below w.heap.size w wr) (fun i _ => n - (intOf i).toNat)
  case atStart => exact ⟨0, Nat.zero_le _, rfl, by simp, Below.refl _ _⟩
  case round =>
    obtain ⟨k, hk, rfl, htk, hb⟩ := hrel
    have HT := Lib.hid htk
    clear htk
    by_cases hlt : k < n
    · have k0 : k < D.length := by have := HN.out; omega
      have k0' : k < D'.length := by have := HN'.out; omega
      rcases H.out with h1 | ⟨b, o, rfl, hB, hc⟩
      · subst h1
        exact absurd k0 (by simp)
      rcases H'.out with h2 | ⟨b', o', rfl, hB', hc'⟩
      · subst h2
        exact absurd k0' (by simp)
      obtain ⟨p, q, r, t, hxy⟩ : ∃ p q r t, D[k] = (p, q, r, t) := ⟨_, _, _, _, rfl⟩
      obtain ⟨p', q', r', t', hxy'⟩ : ∃ p q r t, D'[k] = (p, q, r, t) := ⟨_, _, _, _, rfl⟩
      have m1 := (hc k k0).below hb hB
      have m2 := (hc' k k0').below hb hB'
      rw [hxy] at m1
      rw [hxy'] at m2
      obtain ⟨e0, e1, e2, e3⟩ := m1
      obtain ⟨l0, l1, l2, l3⟩ := m2
      simp only at e0 e1 e2 e3 l0 l1 l2 l3
      have HX := Lib.hid (show D[k]? = some (p, q, r, t) by rw [List.getElem?_eq_getElem k0, hxy])
      have HX' := Lib.hid (show D'[k]? = some (p', q', r', t') by rw [List.getElem?_eq_getElem k0', hxy'])
      clear hc hc' hxy hxy' k0 k0'
      have i0 : (0 : Int) ≤ (k : Int) := by omega
      have i1 : (k : Int) < (n : Int) := by omega
      have ba := (Below.refl wr.heap.size wr).alloc (Nat.le_refl _) (.cells #[.int .i64 p, .int .i64 q, .int .i64 r, .string t] 99)
      have zb := hb.size
      have l0' := (ba.cell (p := ⟨b', o' + k * 4, none⟩) (by show b' < _; omega)).trans l0
      have l1' := (ba.cell (p := ⟨b', o' + k * 4 + 1, none⟩) (by show b' < _; omega)).trans l1
      have l2' := (ba.cell (p := ⟨b', o' + k * 4 + 2, none⟩) (by show b' < _; omega)).trans l2
      have l3' := (ba.cell (p := ⟨b', o' + k * 4 + 3, none⟩) (by show b' < _; omega)).trans l3
      have x0 : (wr.alloc (.cells #[.int .i64 p, .int .i64 q, .int .i64 r, .string t] 99)).cell? ⟨wr.heap.size, 0, none⟩ = some (.int .i64 p) := by go_simp
      have x1 : (wr.alloc (.cells #[.int .i64 p, .int .i64 q, .int .i64 r, .string t] 99)).cell? ⟨wr.heap.size, 1, none⟩ = some (.int .i64 q) := by go_simp
      have x2 : (wr.alloc (.cells #[.int .i64 p, .int .i64 q, .int .i64 r, .string t] 99)).cell? ⟨wr.heap.size, 2, none⟩ = some (.int .i64 r) := by go_simp
      have x3 : (wr.alloc (.cells #[.int .i64 p, .int .i64 q, .int .i64 r, .string t] 99)).cell? ⟨wr.heap.size, 3, none⟩ = some (.string t) := by go_simp
      have BA := Lib.hid (hb.trans (ba.mono zb))
      clear ba
      obtain ⟨W, hW⟩ : ∃ W, (wr.alloc (.cells #[.int .i64 p, .int .i64 q, .int .i64 r, .string t] 99)) = W := ⟨_, rfl⟩
      by_cases he : (p, q, r, t) = (p', q', r', t')
      · have hne := fun V => lnN_any p q r p' q' r' t t' V
        simp only [show decide (((p, q, r, t) : Ln) ≠ (p', q', r', t')) = false from decide_eq_false (fun h => h he)] at hne
        have HP2 := Lib.hid (take_snoc HX.out HX'.out he HT.out)
        clear he
        go_upto_region 6 with fail
        rw [hW] at l0' l1' l2' l3' x0 x1 x2 x3 BA
        clear hW l0 l1 l2 l3 e0 e1 e2 e3
        have t0 := cell_regrown x0
        have u0 := cell_regrown l0'
        have t1 := cell_regrown x1
        have u1 := cell_regrown l1'
        have t2 := cell_regrown x2
        have u2 := cell_regrown l2'
        have t3 := cell_regrown x3
        have u3 := cell_regrown l3'
        refine wp_region_quiet_below (by kernel_rfl) (by kernel_rfl) ?_
        repeat (any_goals (first | go_big_quiet_step (fail) | quiet_step (fail)))
        refine wpQuiet_nil ?_
        intro W2 hw
        have nn := quiet_end hw
        clear hw t0 t1 t2 t3 u0 u1 u2 u3 hne
        have HP := Lib.hid (BA.out.trans (nn.mono BA.out.size))
        go_wp2_with fail
        go_roundw
        case rel => exact ⟨k + 1, by omega, by go_num, HP2.out, HP.out⟩
        case measure => simp [intOf]; omega
      · have hne := fun V => lnN_any p q r p' q' r' t t' V
        simp only [show decide (((p, q, r, t) : Ln) ≠ (p', q', r', t')) = true from decide_eq_true he] at hne
        have HE := Lib.hid (show decide (D = D') = false from decide_eq_false (ne_at HX.out HX'.out he))
        clear he
        go_upto_region 6 with fail
        rw [hW] at l0' l1' l2' l3' x0 x1 x2 x3 BA
        clear hW l0 l1 l2 l3 e0 e1 e2 e3
        have t0 := cell_regrown x0
        have u0 := cell_regrown l0'
        have t1 := cell_regrown x1
        have u1 := cell_regrown l1'
        have t2 := cell_regrown x2
        have u2 := cell_regrown l2'
        have t3 := cell_regrown x3
        have u3 := cell_regrown l3'
        refine wp_region_quiet_below (by kernel_rfl) (by kernel_rfl) ?_
        repeat (any_goals (first | go_big_quiet_step (fail) | quiet_step (fail)))
        refine wpQuiet_nil ?_
        intro W2 hw
        have nn := quiet_end hw
        clear hw t0 t1 t2 t3 u0 u1 u2 u3 hne
        have HP := Lib.hid (BA.out.trans (nn.mono BA.out.size))
        go_wp2_with fail
        go_ret
        exact ⟨by rw [HE.out]; rfl, HP.out⟩
    · obtain rfl : k = n := by omega
      have HE := Lib.hid (show decide (D = D') = true from decide_eq_true (by have := HT.out; rwa [List.take_of_length_le (by have := HN.out; omega), List.take_of_length_le (by have := HN'.out; omega)] at this))
      go_wp2_with fail
      go_ret
      exact ⟨by rw [HE.out]; rfl, hb⟩

set_option maxRecDepth 100000 in
set_option maxHeartbeats 4000000 in
theorem l11Texts_any (v v' : Value) (D D' : List ByteArray) (w : World) (hl : D.length ≤ 1048576) (hl' : D'.length ≤ 1048576) (h : Obl.StAt w w.heap.size v D) (h' : Obl.StAt w w.heap.size v' D') :
    Calls Try.prog 71 #[v, v'] w fun e w' => e = .returned (.bool (decide (D = D'))) ∧ Below w.heap.size w w' := by
  obtain ⟨a, cap, rfl, hc⟩ := h
  obtain ⟨a', cap', rfl, hc'⟩ := h'
  have H := Lib.hid hc
  have H' := Lib.hid hc'
  clear hc hc'
  obtain ⟨n, hn⟩ : ∃ n, D.length = n := ⟨_, rfl⟩
  obtain ⟨n', hn'⟩ : ∃ n, D'.length = n := ⟨_, rfl⟩
  have HN := Lib.hid hn
  have HN' := Lib.hid hn'
  rw [hn] at hl ⊢
  rw [hn'] at hl' ⊢
  clear hn hn'
  by_cases e : n = n'
  rotate_left
  · have hz : ((n : Int) != (n' : Int)) = true := by simp; omega
    have HE := Lib.hid (show decide (D = D') = false from decide_eq_false fun h => by subst h; exact e (HN.out.symm.trans HN'.out))
    go_enter Try.func71, Try.ntmps71
    go_wp2
    go_ret
    exact ⟨by rw [HE.out]; rfl, Below.refl _ _⟩
  subst e
  have hz : ((n : Int) != (n : Int)) = false := by simp
  go_enter Try.func71, Try.ntmps71
  go_wp2
  go_loopw [5] (fun i wr => ∃ k : Nat, k ≤ n ∧ i = .int .i64 (k : Int) ∧ D.take k = D'.take k ∧ Below w.heap.size w wr) (fun i _ => n - (intOf i).toNat)
  case atStart => exact ⟨0, Nat.zero_le _, rfl, by simp, Below.refl _ _⟩
  case round =>
    obtain ⟨k, hk, rfl, htk, hb⟩ := hrel
    have HT := Lib.hid htk
    clear htk
    by_cases hlt : k < n
    · have k0 : k < D.length := by have := HN.out; omega
      have k0' : k < D'.length := by have := HN'.out; omega
      rcases H.out with h1 | ⟨b, o, rfl, hB, hc⟩
      · subst h1
        exact absurd k0 (by simp)
      rcases H'.out with h2 | ⟨b', o', rfl, hB', hc'⟩
      · subst h2
        exact absurd k0' (by simp)
      obtain ⟨t, hxy⟩ : ∃ t, D[k] = t := ⟨_, rfl⟩
      obtain ⟨t', hxy'⟩ : ∃ t, D'[k] = t := ⟨_, rfl⟩
      have e0 := (hb.cell (p := ⟨b, o + k, none⟩) hB).trans (hc k k0)
      have l0 := (hb.cell (p := ⟨b', o' + k, none⟩) hB').trans (hc' k k0')
      rw [hxy] at e0
      rw [hxy'] at l0
      have HX := Lib.hid (show D[k]? = some t by rw [List.getElem?_eq_getElem k0, hxy])
      have HX' := Lib.hid (show D'[k]? = some t' by rw [List.getElem?_eq_getElem k0', hxy'])
      clear hc hc' hxy hxy' k0 k0'
      have i0 : (0 : Int) ≤ (k : Int) := by omega
      have i1 : (k : Int) < (n : Int) := by omega
      have t0 := cell_regrown e0
      have u0 := cell_regrown l0
      by_cases he : t = t'
      · have hne : (t.toList != t'.toList) = false := by rw [he]; simp
        have hqq : (t.toList == t'.toList) = true := by rw [he]; simp
        have HP2 := Lib.hid (take_snoc HX.out HX'.out he HT.out)
        clear he
        go_wp2_with fail
        refine wp_region_quiet_below (by kernel_rfl) (by kernel_rfl) ?_
        repeat (any_goals (first | go_big_quiet_step (fail) | quiet_step (fail)))
        refine wpQuiet_nil ?_
        intro W2 hw
        have nn := quiet_end hw
        clear hw t0 u0
        have HP := Lib.hid (hb.trans (nn.mono hb.size))
        go_wp2_with fail
        go_roundw
        case rel => exact ⟨k + 1, by omega, by go_num, HP2.out, HP.out⟩
        case measure => simp [intOf]; omega
      · have hne : (t.toList != t'.toList) = true := by rw [bne_iff_ne]; exact fun h => he (txt_eq h)
        have hqq : (t.toList == t'.toList) = false := by rw [beq_eq_false_iff_ne]; exact fun h => he (txt_eq h)
        have HE := Lib.hid (show decide (D = D') = false from decide_eq_false (ne_at HX.out HX'.out he))
        clear he
        go_wp2_with fail
        refine wp_region_quiet_below (by kernel_rfl) (by kernel_rfl) ?_
        repeat (any_goals (first | go_big_quiet_step (fail) | quiet_step (fail)))
        refine wpQuiet_nil ?_
        intro W2 hw
        have nn := quiet_end hw
        clear hw t0 u0
        have HP := Lib.hid (hb.trans (nn.mono hb.size))
        go_wp2_with fail
        go_ret
        exact ⟨by rw [HE.out]; rfl, HP.out⟩
    · obtain rfl : k = n := by omega
      have HE := Lib.hid (show decide (D = D') = true from decide_eq_true (by have := HT.out; rwa [List.take_of_length_le (by have := HN.out; omega), List.take_of_length_le (by have := HN'.out; omega)] at this))
      go_wp2_with fail
      go_ret
      exact ⟨by rw [HE.out]; rfl, hb⟩
set_option maxRecDepth 100000 in
set_option maxHeartbeats 4000000 in
theorem sameTexts_any (v v' : Value) (D D' : List ByteArray) (w : World) (hl : D.length ≤ 1048576) (hl' : D'.length ≤ 1048576) (h : Obl.StAt w w.heap.size v D) (h' : Obl.StAt w w.heap.size v' D') :
    Calls Try.prog 75 #[v, v'] w fun e w' => e = .returned (.bool (decide (D = D'))) ∧ Below w.heap.size w w' := by
  obtain ⟨a, cap, rfl, hc⟩ := h
  obtain ⟨a', cap', rfl, hc'⟩ := h'
  have H := Lib.hid hc
  have H' := Lib.hid hc'
  clear hc hc'
  obtain ⟨n, hn⟩ : ∃ n, D.length = n := ⟨_, rfl⟩
  obtain ⟨n', hn'⟩ : ∃ n, D'.length = n := ⟨_, rfl⟩
  have HN := Lib.hid hn
  have HN' := Lib.hid hn'
  rw [hn] at hl ⊢
  rw [hn'] at hl' ⊢
  clear hn hn'
  by_cases e : n = n'
  rotate_left
  · have hz : ((n : Int) != (n' : Int)) = true := by simp; omega
    have HE := Lib.hid (show decide (D = D') = false from decide_eq_false fun h => by subst h; exact e (HN.out.symm.trans HN'.out))
    go_enter Try.func75, Try.ntmps75
    go_wp2
    go_ret
    exact ⟨by rw [HE.out]; rfl, Below.refl _ _⟩
  subst e
  have hz : ((n : Int) != (n : Int)) = false := by simp
  go_enter Try.func75, Try.ntmps75
  go_wp2
  go_loopw [14] (fun i wr => ∃ k : Nat, k ≤ n ∧ i = .int .i64 (k : Int) ∧ D.take k = D'.take k ∧ Below w.heap.size w wr) (fun i _ => n - (intOf i).toNat)
  case atStart => exact ⟨0, Nat.zero_le _, rfl, by simp, Below.refl _ _⟩
  case round =>
    obtain ⟨k, hk, rfl, htk, hb⟩ := hrel
    have HT := Lib.hid htk
    clear htk
    by_cases hlt : k < n
    · have k0 : k < D.length := by have := HN.out; omega
      have k0' : k < D'.length := by have := HN'.out; omega
      rcases H.out with h1 | ⟨b, o, rfl, hB, hc⟩
      · subst h1
        exact absurd k0 (by simp)
      rcases H'.out with h2 | ⟨b', o', rfl, hB', hc'⟩
      · subst h2
        exact absurd k0' (by simp)
      obtain ⟨t, hxy⟩ : ∃ t, D[k] = t := ⟨_, rfl⟩
      obtain ⟨t', hxy'⟩ : ∃ t, D'[k] = t := ⟨_, rfl⟩
      have e0 := (hb.cell (p := ⟨b, o + k, none⟩) hB).trans (hc k k0)
      have l0 := (hb.cell (p := ⟨b', o' + k, none⟩) hB').trans (hc' k k0')
      rw [hxy] at e0
      rw [hxy'] at l0
      have HX := Lib.hid (show D[k]? = some t by rw [List.getElem?_eq_getElem k0, hxy])
      have HX' := Lib.hid (show D'[k]? = some t' by rw [List.getElem?_eq_getElem k0', hxy'])
      clear hc hc' hxy hxy' k0 k0'
      have i0 : (0 : Int) ≤ (k : Int) := by omega
      have i1 : (k : Int) < (n : Int) := by omega
      have zb := hb.size
      by_cases he : t = t'
      · have hne : (t.toList != t'.toList) = false := by rw [he]; simp
        have hqq : (t.toList == t'.toList) = true := by rw [he]; simp
        have HP2 := Lib.hid (take_snoc HX.out HX'.out he HT.out)
        clear he
        go_wp2_with fail
        go_wp2_with fail
        go_roundw
        case rel => exact ⟨k + 1, by omega, by go_num, HP2.out, hb⟩
        case measure => simp [intOf]; omega
      · have hne : (t.toList != t'.toList) = true := by rw [bne_iff_ne]; exact fun h => he (txt_eq h)
        have hqq : (t.toList == t'.toList) = false := by rw [beq_eq_false_iff_ne]; exact fun h => he (txt_eq h)
        have HE := Lib.hid (show decide (D = D') = false from decide_eq_false (ne_at HX.out HX'.out he))
        clear he
        go_wp2_with fail
        go_wp2_with fail
        go_ret
        exact ⟨by rw [HE.out]; rfl, hb⟩
    · obtain rfl : k = n := by omega
      have HE := Lib.hid (show decide (D = D') = true from decide_eq_true (by have := HT.out; rwa [List.take_of_length_le (by have := HN.out; omega), List.take_of_length_le (by have := HN'.out; omega)] at this))
      go_wp2_with fail
      go_ret
      exact ⟨by rw [HE.out]; rfl, hb⟩

set_option maxRecDepth 100000 in
set_option maxHeartbeats 4000000 in
theorem specFind_any (v s u : Value) (E : List Ent) (L : List Ln) (N : List ByteArray) (w : World) (hl : E.length ≤ 1048576) (hq : ∀ q ∈ E, q.2.2.1.length ≤ 1048576 ∧ q.2.2.2.length ≤ 1048576) (hL : L.length ≤ 1048576) (hN : N.length ≤ 1048576) (h : EnAt w w.heap.size v E) (hs : LnAt w w.heap.size s L) (hu : Obl.StAt w w.heap.size u N) :
    Calls Try.prog 18 #[v, s, u] w fun e w' => e = .returned (.int .i64 (findL E L N)) ∧ Below w.heap.size w w' := by
  obtain ⟨a, cap, rfl, hcp0, h⟩ := h
  clear hcp0
  obtain ⟨sa, sc, rfl, hs'⟩ := id hs
  obtain ⟨ua, uc, rfl, hu'⟩ := id hu
  clear hs' hu'
  have HH := Lib.hid h
  have HS := Lib.hid hs
  have HU := Lib.hid hu
  have HQ := Lib.hid hq
  have HL := Lib.hid hL
  have HN := Lib.hid hN
  clear h hq hs hu hL hN
  go_enter Try.func18, Try.ntmps18
  go_wp2_with fail
  go_loopw [7] (fun i wr => ∃ k : Nat, k ≤ E.length ∧ i = .int .i64 (k : Int) ∧ (∀ i x, i < k → E[i]? = some x → hit L N x = false) ∧ Below w.heap.size w wr) (fun i _ => E.length - (intOf i).toNat)
  case atStart => exact ⟨0, Nat.zero_le _, rfl, fun i x hi => absurd hi (by omega), Below.refl _ _⟩
  case round =>
    obtain ⟨k, hk, rfl, he, hb⟩ := hrel
    have HE := Lib.hid he
    clear he
    by_cases hlt : k < E.length
    · rcases HH.out with h | ⟨b, o, rfl, hB, hc⟩
      · subst h
        exact absurd hlt (by simp)
      obtain ⟨m, t, SL, TN, hxy⟩ : ∃ m t L N, E[k] = (m, t, L, N) := ⟨_, _, _, _, rfl⟩
      have c := (hc k hlt).below hb hB
      rw [hxy] at c
      obtain ⟨⟨e2, e3⟩, a1, c1, a2, c2, e0, e1, h1, h2⟩ := c
      simp only at e0 e1 e2 e3 h1 h2
      have HX := Lib.hid (show E[k]? = some (m, t, SL, TN) by rw [List.getElem?_eq_getElem hlt, hxy])
      have hp := HQ.out _ (List.mem_of_getElem? HX.out)
      simp only at hp
      clear hc hxy
      have i0 : (0 : Int) ≤ (k : Int) := by omega
      have i1 : (k : Int) < (E.length : Int) := by omega
      have bb := Lib.hid (Below.refl wr.heap.size wr)
      have KA := Lib.hid fun V (g : Below wr.heap.size wr V) => l11Lines_any _ _ SL L V hp.1 HL.out ((h1.mono hb.size).stepAt g) ((HS.out.stepAt hb).stepAt g)
      have KB := Lib.hid fun V (g : Below wr.heap.size wr V) => l11Texts_any _ _ TN N V hp.2 HN.out ((h2.mono hb.size).stepAt g) ((HU.out.stepAt hb).stepAt g)
      have HBB := Lib.hid hb
      have hwz := hb.size
      clear h1 h2 hp hb
      by_cases g1 : SL = L
      rotate_left
      · simp only [decide_eq_false g1] at KA
        have HF := Lib.hid (show ∀ i x, i < k + 1 → E[i]? = some x → hit L N x = false from fun i x hi hx => by
          by_cases e' : i = k
          · subst e'
            rw [HX.out] at hx
            cases hx
            simp [hit, g1]
          · exact HE.out i x (by omega) hx)
        clear g1
        go_wp2_with fail
        refine (KA.out _ bb.out).mono ?_
        rintro e w1 ⟨rfl, hb1⟩
        have b1 := Lib.hid (bb.out.trans (hb1.mono bb.out.size))
        clear hb1
        go_wp2_with fail
        go_roundw
        case rel => exact ⟨k + 1, by omega, by go_num, HF.out, HBB.out.trans (b1.out.mono hwz)⟩
        case measure => simp [intOf]; omega
      simp only [decide_eq_true g1] at KA
      by_cases g2 : TN = N
      · simp only [decide_eq_true g2] at KB
        have HF := Lib.hid (show findL E L N = (k : Int) from find_hit HX.out (by simp [hit, g1, g2]) HE.out)
        clear g1 g2
        go_wp2_with fail
        refine (KA.out _ bb.out).mono ?_
        rintro e w1 ⟨rfl, hb1⟩
        have b1 := Lib.hid (bb.out.trans (hb1.mono bb.out.size))
        have f1 := (hb1.cell (p := ⟨b, o + k * 4 + 1, none⟩) (by show b < wr.heap.size; omega)).trans e1
        clear hb1
        go_wp2_with fail
        refine (KB.out _ b1.out).mono ?_
        rintro e w2 ⟨rfl, hb2⟩
        have b2 := Lib.hid (b1.out.trans (hb2.mono b1.out.size))
        clear hb2 f1
        go_wp2_with fail
        go_ret
        exact ⟨by rw [HF.out]; rfl, HBB.out.trans (b2.out.mono hwz)⟩
      · simp only [decide_eq_false g2] at KB
        have HF := Lib.hid (show ∀ i x, i < k + 1 → E[i]? = some x → hit L N x = false from fun i x hi hx => by
          by_cases e' : i = k
          · subst e'
            rw [HX.out] at hx
            cases hx
            simp [hit, g2]
          · exact HE.out i x (by omega) hx)
        clear g1 g2
        go_wp2_with fail
        refine (KA.out _ bb.out).mono ?_
        rintro e w1 ⟨rfl, hb1⟩
        have b1 := Lib.hid (bb.out.trans (hb1.mono bb.out.size))
        have f1 := (hb1.cell (p := ⟨b, o + k * 4 + 1, none⟩) (by show b < wr.heap.size; omega)).trans e1
        clear hb1
        go_wp2_with fail
        refine (KB.out _ b1.out).mono ?_
        rintro e w2 ⟨rfl, hb2⟩
        have b2 := Lib.hid (b1.out.trans (hb2.mono b1.out.size))
        clear hb2 f1
        go_wp2_with fail
        go_roundw
        case rel => exact ⟨k + 1, by omega, by go_num, HF.out, HBB.out.trans (b2.out.mono hwz)⟩
        case measure => simp [intOf]; omega
    · obtain rfl : k = E.length := by omega
      have HF := Lib.hid (show findL E L N = -1 from find_none HE.out)
      go_wp2_with fail
      go_ret
      exact ⟨by rw [HF.out]; rfl, hb⟩
set_option maxRecDepth 100000 in
set_option maxHeartbeats 4000000 in
theorem implFind_any (v s u : Value) (E : List Ent) (L : List Ln) (N : List ByteArray) (w : World) (hl : E.length ≤ 1048576) (hq : ∀ q ∈ E, q.2.2.1.length ≤ 1048576 ∧ q.2.2.2.length ≤ 1048576) (hL : L.length ≤ 1048576) (hN : N.length ≤ 1048576) (h : EnAt w w.heap.size v E) (hs : LnAt w w.heap.size s L) (hu : Obl.StAt w w.heap.size u N) :
    Calls Try.prog 22 #[v, s, u] w fun e w' => e = .returned (.int .i64 (findL E L N)) ∧ Below w.heap.size w w' := by
  obtain ⟨a, cap, rfl, hcp0, h⟩ := h
  clear hcp0
  obtain ⟨sa, sc, rfl, hs'⟩ := id hs
  obtain ⟨ua, uc, rfl, hu'⟩ := id hu
  clear hs' hu'
  have HH := Lib.hid h
  have HS := Lib.hid hs
  have HU := Lib.hid hu
  have HQ := Lib.hid hq
  have HL := Lib.hid hL
  have HN := Lib.hid hN
  clear h hq hs hu hL hN
  go_enter Try.func22, Try.ntmps22
  go_wp2_with fail
  go_loopw [11] (fun i wr => ∃ k : Nat, k ≤ E.length ∧ i = .int .i64 (k : Int) ∧ (∀ i x, i < k → E[i]? = some x → hit L N x = false) ∧ Below w.heap.size w wr) (fun i _ => E.length - (intOf i).toNat)
  case atStart => exact ⟨0, Nat.zero_le _, rfl, fun i x hi => absurd hi (by omega), Below.refl _ _⟩
  case round =>
    obtain ⟨k, hk, rfl, he, hb⟩ := hrel
    have HE := Lib.hid he
    clear he
    by_cases hlt : k < E.length
    · rcases HH.out with h | ⟨b, o, rfl, hB, hc⟩
      · subst h
        exact absurd hlt (by simp)
      obtain ⟨m, t, SL, TN, hxy⟩ : ∃ m t L N, E[k] = (m, t, L, N) := ⟨_, _, _, _, rfl⟩
      have c := (hc k hlt).below hb hB
      rw [hxy] at c
      obtain ⟨⟨e2, e3⟩, a1, c1, a2, c2, e0, e1, h1, h2⟩ := c
      simp only at e0 e1 e2 e3 h1 h2
      have HX := Lib.hid (show E[k]? = some (m, t, SL, TN) by rw [List.getElem?_eq_getElem hlt, hxy])
      have hp := HQ.out _ (List.mem_of_getElem? HX.out)
      simp only at hp
      clear hc hxy
      have i0 : (0 : Int) ≤ (k : Int) := by omega
      have i1 : (k : Int) < (E.length : Int) := by omega
      have bb := Lib.hid ((Below.refl wr.heap.size wr).alloc (Nat.le_refl _) (.cells #[.slice a1 SL.length c1, .slice a2 TN.length c2, .bool m, .string t] 83))
      have KA := Lib.hid fun V (g : Below wr.heap.size wr V) => sameScript_any _ _ SL L V hp.1 HL.out ((h1.mono hb.size).stepAt g) ((HS.out.stepAt hb).stepAt g)
      have KB := Lib.hid fun V (g : Below wr.heap.size wr V) => sameTexts_any _ _ TN N V hp.2 HN.out ((h2.mono hb.size).stepAt g) ((HU.out.stepAt hb).stepAt g)
      have HBB := Lib.hid hb
      have hwz := hb.size
      clear h1 h2 hp hb
      by_cases g1 : SL = L
      rotate_left
      · simp only [decide_eq_false g1] at KA
        have HF := Lib.hid (show ∀ i x, i < k + 1 → E[i]? = some x → hit L N x = false from fun i x hi hx => by
          by_cases e' : i = k
          · subst e'
            rw [HX.out] at hx
            cases hx
            simp [hit, g1]
          · exact HE.out i x (by omega) hx)
        clear g1
        go_wp2_with fail
        refine (KA.out _ bb.out).mono ?_
        rintro e w1 ⟨rfl, hb1⟩
        have b1 := Lib.hid (bb.out.trans (hb1.mono bb.out.size))
        clear hb1
        go_wp2_with fail
        go_roundw
        case rel => exact ⟨k + 1, by omega, by go_num, HF.out, HBB.out.trans (b1.out.mono hwz)⟩
        case measure => simp [intOf]; omega
      simp only [decide_eq_true g1] at KA
      by_cases g2 : TN = N
      · simp only [decide_eq_true g2] at KB
        have HF := Lib.hid (show findL E L N = (k : Int) from find_hit HX.out (by simp [hit, g1, g2]) HE.out)
        clear g1 g2
        go_wp2_with fail
        refine (KA.out _ bb.out).mono ?_
        rintro e w1 ⟨rfl, hb1⟩
        have b1 := Lib.hid (bb.out.trans (hb1.mono bb.out.size))
        have hc : ∀ o, w1.cell? ⟨wr.heap.size, o, none⟩ = _ := fun o => hb1.cell (p := ⟨wr.heap.size, o, none⟩) (by simp)
        clear hb1
        go_wp2_with fail
        refine (KB.out _ b1.out).mono ?_
        rintro e w2 ⟨rfl, hb2⟩
        have b2 := Lib.hid (b1.out.trans (hb2.mono b1.out.size))
        clear hb2 hc
        go_wp2_with fail
        go_ret
        exact ⟨by rw [HF.out]; rfl, HBB.out.trans (b2.out.mono hwz)⟩
      · simp only [decide_eq_false g2] at KB
        have HF := Lib.hid (show ∀ i x, i < k + 1 → E[i]? = some x → hit L N x = false from fun i x hi hx => by
          by_cases e' : i = k
          · subst e'
            rw [HX.out] at hx
            cases hx
            simp [hit, g2]
          · exact HE.out i x (by omega) hx)
        clear g1 g2
        go_wp2_with fail
        refine (KA.out _ bb.out).mono ?_
        rintro e w1 ⟨rfl, hb1⟩
        have b1 := Lib.hid (bb.out.trans (hb1.mono bb.out.size))
        have hc : ∀ o, w1.cell? ⟨wr.heap.size, o, none⟩ = _ := fun o => hb1.cell (p := ⟨wr.heap.size, o, none⟩) (by simp)
        clear hb1
        go_wp2_with fail
        refine (KB.out _ b1.out).mono ?_
        rintro e w2 ⟨rfl, hb2⟩
        have b2 := Lib.hid (b1.out.trans (hb2.mono b1.out.size))
        clear hb2 hc
        go_wp2_with fail
        go_roundw
        case rel => exact ⟨k + 1, by omega, by go_num, HF.out, HBB.out.trans (b2.out.mono hwz)⟩
        case measure => simp [intOf]; omega
    · obtain rfl : k = E.length := by omega
      have HF := Lib.hid (show findL E L N = -1 from find_none HE.out)
      go_wp2_with fail
      go_ret
      exact ⟨by rw [HF.out]; rfl, hb⟩
end Kf
end Go.Proofs.Ytopplljilmjjgaa

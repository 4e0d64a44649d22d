/- Contracts of ClashOk, the program's and the model's, over this seat's translation: both answer as the plain function tmOk of the terms; nothing that was there before the call has changed. Condition: at most 1048576 terms, and spans of each. -/
import Derived.Test.YtdhbjjolgmodjaaTm
import Derived.Test.YtdhbjjolgmodjaaGd
import Derived.BigQuiet
namespace Go.Proofs.Ytdhbjjolgmodjaa
open Go.RowKit Go.Sort

/-- Terms with ascending names from a number on, up to 7, each with a range. -/
def tmFrom (lo : Int) : List Tm → Bool
  | [] => true
  | x :: t => decide (lo ≤ x.1 ∧ x.1 ≤ 7) && (spOk x.2.1 && tmFrom (x.1 + 1) t)
def tmOk (M : List Tm) : Bool := tmFrom 0 M

/-- The least name that the term at place FF k may have. -/
def tmLow (M : List Tm) : Nat → Int
  | 0 => 0
  | k + 1 => match M[k]? with | none => 0 | some x => x.1 + 1

theorem tmFrom_step {M : List Tm} {k : Nat} {x : Tm} (h : M[k]? = some x) (lo : Int) :
    tmFrom lo (M.drop k) = (decide (lo ≤ x.1 ∧ x.1 ≤ 7) && (spOk x.2.1 && tmFrom (x.1 + 1) (M.drop (k + 1)))) := by
  have hk : k < M.length := (List.getElem?_eq_some_iff.1 h).1
  rw [List.drop_eq_getElem_cons hk, (List.getElem?_eq_some_iff.1 h).2]
  rfl
theorem tmLow_next {M : List Tm} {k : Nat} {x : Tm} (h : M[k]? = some x) : tmLow M (k + 1) = x.1 + 1 := by simp [tmLow, h]

/-- What the loop of the program's ClashOk keeps: what is left decides. -/
def ITmRel (M : List Tm) (w : World) (lo i : Value) (wr : World) : Prop :=
  ∃ k : Nat, k ≤ M.length ∧ i = .int .i64 (k : Int) ∧ lo = .int .i64 (tmLow M k) ∧ tmFrom 0 M = tmFrom (tmLow M k) (M.drop k) ∧ 0 ≤ tmLow M k ∧ tmLow M k ≤ 8 ∧ Below w.heap.size w wr

theorem itm_push {M : List Tm} {w wr : World} {k : Nat} {x : Int} {f : Bool} {L : List (Int × Int)} (hM : M[k]? = some (x, L, f)) (ho : tmFrom 0 M = tmFrom (tmLow M k) (M.drop k)) (h0 : 0 ≤ tmLow M k) (h1 : tmLow M k ≤ x) (h2 : x ≤ 7) (h3 : spOk L = true) (hb : Below w.heap.size w wr) :
    ITmRel M w (.int .i64 (x + 1)) (.int .i64 ((k : Int) + 1)) wr := by
  have hk : k < M.length := (List.getElem?_eq_some_iff.1 hM).1
  have e := tmLow_next hM
  simp only at e
  refine ⟨k + 1, by omega, by go_num, by rw [e], ?_, by omega, by omega, hb⟩
  rw [ho, tmFrom_step hM, e]
  simp [h1, h2, h3]

set_option maxRecDepth 100000 in
set_option maxHeartbeats 2000000 in
theorem implClashOk_any (v : Value) (M : List Tm) (w : World) (hl : M.length ≤ 1048576) (hq : ∀ q ∈ M, q.2.1.length ≤ 1048576) (h : TmAt w w.heap.size v M) :
    Calls Try.prog 19 #[v] w fun e w' => e = .returned (.bool (tmOk M)) ∧ Below w.heap.size w w' := by
  obtain ⟨a, cap, rfl, h⟩ := h
  go_enter Try.func19, Try.ntmps19
  go_wp2
  go_loopw [3, 8] (fun lo i wr => ITmRel M w lo i wr) (fun _ i _ => M.length - (intOf i).toNat)
  case atStart => exact ⟨0, Nat.zero_le _, rfl, rfl, rfl, by simp [tmLow], by simp [tmLow], Below.refl _ _⟩
  case round =>
    obtain ⟨k, hk, rfl, rfl, ho, l0, l8, hb⟩ := hrel
    have HO := Lib.hid ho
    clear ho
    by_cases hlt : k < M.length
    · rcases h with h | ⟨b, o, rfl, hB, hc⟩
      · subst h
        exact absurd hlt (by simp)
      obtain ⟨x, L, f, hxy⟩ : ∃ x L f, M[k] = (x, L, f) := ⟨_, _, _, rfl⟩
      have c := (hc k hlt).below hb hB
      rw [hxy] at c
      obtain ⟨c0, a1, cap1, c1, hs, c2⟩ := c
      have hL : L.length ≤ 1048576 := by have := hq _ (List.getElem_mem hlt); rwa [hxy] at this
      simp only at c0 c1 hs c2
      have hs := hs.mono hb.size
      have HX := Lib.hid (show M[k]? = some (x, L, f) by rw [List.getElem?_eq_getElem hlt, hxy])
      clear hxy hc
      have step := tmFrom_step HX.out (tmLow M k)
      simp only at step
      have bb := hb.alloc hb.size (.cells #[.int .i64 x, .slice a1 L.length cap1, .bool f] 83)
      have hn := tmLow_next HX.out
      by_cases h1 : x < tmLow M k
      · have HF := Lib.hid (show tmOk M = false by unfold tmOk; rw [HO.out, step, decide_eq_false (by omega)]; rfl)
        clear step hn
        generalize tmLow M k = lo at *
        go_wp2_with fail
        go_ret
        exact ⟨by rw [HF.out]; rfl, bb⟩
      by_cases h2 : 7 < x
      · have HF := Lib.hid (show tmOk M = false by unfold tmOk; rw [HO.out, step, decide_eq_false (by omega)]; rfl)
        clear step hn
        generalize tmLow M k = lo at *
        go_wp2_with fail
        go_ret
        exact ⟨by rw [HF.out]; rfl, bb⟩
      have hx0 : 0 ≤ x := by omega
      rcases h3 : spOk L
      · have HF := Lib.hid (show tmOk M = false by unfold tmOk; rw [HO.out, step, h3, Bool.false_and, Bool.and_false])
        have KR := Lib.hid (show ∀ V, SpAt V V.heap.size (.slice a1 L.length cap1) L → _ from fun V g => rngOk_is (w := V) hL g)
        rw [h3] at KR
        clear step hn h3
        generalize tmLow M k = lo at *
        go_wp2_with fail
        refine (KR.out _ (hs.stepAt (by go_grown))).mono ?_
        rintro e w2 ⟨rfl, hb2⟩
        go_wp2_with fail
        go_ret
        exact ⟨by rw [HF.out]; rfl, bb.trans (hb2.mono bb.size)⟩
      · have KR := Lib.hid (show ∀ V, SpAt V V.heap.size (.slice a1 L.length cap1) L → _ from fun V g => rngOk_is (w := V) hL g)
        rw [h3] at KR
        have H3 := Lib.hid h3
        have L0 := Lib.hid l0
        have L1 := Lib.hid (show tmLow M k ≤ x by omega)
        clear step hn h3
        obtain ⟨lo, hlo⟩ : ∃ lo, tmLow M k = lo := ⟨_, rfl⟩
        have HLO := Lib.hid hlo
        rw [hlo] at l0 l8 h1 ⊢
        clear hlo
        go_wp2_with fail
        refine (KR.out _ (hs.stepAt (by go_grown))).mono ?_
        rintro e w2 ⟨rfl, hb2⟩
        have HP := Lib.hid (itm_push HX.out HO.out L0.out L1.out (by omega) H3.out (bb.trans (hb2.mono bb.size)))
        have bx : w2.cell? ⟨wr.heap.size, 0, none⟩ = some (.int .i64 x) := (hb2.cell (p := ⟨wr.heap.size, 0, none⟩) (by simp)).trans (by go_simp)
        clear hb hb2 bb
        go_wp2_with fail
        go_roundw
        case rel => exact HP.out
        case measure => simp [intOf]; omega
    · obtain rfl : k = M.length := by omega
      have HF := Lib.hid (show tmOk M = true by unfold tmOk; rw [HO.out, List.drop_length]; rfl)
      generalize tmLow M M.length = lo at *
      go_wp2_with fail
      go_ret
      exact ⟨by rw [HF.out]; rfl, hb⟩

/-- What the loop of the model's ClashOk keeps: what is left decides. -/
def STmRel (M : List Tm) (w : World) (i : Value) (wr : World) : Prop :=
  ∃ k : Nat, k ≤ M.length ∧ i = .int .i64 (k : Int) ∧ tmFrom 0 M = tmFrom (tmLow M k) (M.drop k) ∧ 0 ≤ tmLow M k ∧ Below w.heap.size w wr

theorem stm_push {M : List Tm} {w wr : World} {k : Nat} {x : Int} {f : Bool} {L : List (Int × Int)} (hM : M[k]? = some (x, L, f)) (ho : tmFrom 0 M = tmFrom (tmLow M k) (M.drop k)) (h1 : tmLow M k ≤ x) (hI : inB x 0 7 = true) (h3 : spOk L = true) (hb : Below w.heap.size w wr) :
    STmRel M w (.int .i64 ((k : Int) + 1)) wr := by
  have hk : k < M.length := (List.getElem?_eq_some_iff.1 hM).1
  have e := tmLow_next hM
  have h2 := inB_iff.1 hI
  simp only at e
  refine ⟨k + 1, by omega, by go_num, ?_, by omega, hb⟩
  rw [ho, tmFrom_step hM, e]
  simp [h1, h2.2, h3]

set_option maxRecDepth 100000 in
set_option maxHeartbeats 4000000 in
theorem specClashOk_any (v : Value) (M : List Tm) (w : World) (hl : M.length ≤ 1048576) (hq : ∀ q ∈ M, q.2.1.length ≤ 1048576) (h : TmAt w w.heap.size v M) :
    Calls Try.prog 45 #[v] w fun e w' => e = .returned (.bool (tmOk M)) ∧ Below w.heap.size w w' := by
  obtain ⟨a, cap, rfl, h⟩ := h
  go_enter Try.func45, Try.ntmps45
  go_wp2
  go_loopw [3] (fun i wr => STmRel M w i wr) (fun i _ => M.length - (intOf i).toNat)
  case atStart => exact ⟨0, Nat.zero_le _, rfl, rfl, by simp [tmLow], Below.refl _ _⟩
  case round =>
    obtain ⟨k, hk, rfl, ho, l0, hb⟩ := hrel
    have HO := Lib.hid ho
    clear ho
    by_cases hlt : k < M.length
    · rcases h with h | ⟨b, o, rfl, hB, hc⟩
      · subst h
        exact absurd hlt (by simp)
      obtain ⟨x, L, f, hxy⟩ : ∃ x L f, M[k] = (x, L, f) := ⟨_, _, _, rfl⟩
      have c := (hc k hlt).below hb hB
      rw [hxy] at c
      obtain ⟨c0, a1, cap1, c1, hs, c2⟩ := c
      have hL : L.length ≤ 1048576 := by have := hq _ (List.getElem_mem hlt); rwa [hxy] at this
      simp only at c0 c1 hs c2
      have hs := hs.mono hb.size
      have mb : b < wr.heap.size := Nat.lt_of_lt_of_le hB hb.size
      have HX := Lib.hid (show M[k]? = some (x, L, f) by rw [List.getElem?_eq_getElem hlt, hxy])
      have HC := Lib.hid hc
      clear hxy hc
      have step := tmFrom_step HX.out (tmLow M k)
      simp only at step
      have i0 : (0 : Int) ≤ (k : Int) := by omega
      have i1 : (k : Int) < (M.length : Int) := by omega
      rcases hI : inB x 0 7
      · have HF := Lib.hid (show tmOk M = false by
          have : ¬ (0 ≤ x ∧ x ≤ 7) := fun e => by rw [inB_iff.2 e] at hI; cases hI
          unfold tmOk; rw [HO.out, step, decide_eq_false (by omega)]; rfl)
        have KI : Hid (∀ V, Calls Try.prog 67 #[.int .i64 x, .int .i64 0, .int .i64 7] V fun e w' => e = .returned (.bool false) ∧ Below V.heap.size V w') := Lib.hid fun V => by have := l1In_below x 0 7 V; rwa [hI] at this
        clear step l0 hI
        have t0 := cell_regrown c0
        have t1 := cell_regrown c1
        go_wp2_with fail
        refine wp_region_quiet_below (by kernel_rfl) (by kernel_rfl) ?_
        repeat (any_goals (first | go_big_quiet_step ((first | (go_at_call 67; exact Calls.regrown_of (KI.out _)))) | quiet_step ((first | (go_at_call 67; exact Calls.regrown_of (KI.out _))))))
        refine wpQuiet_nil ?_
        intro W2 hw
        have nn := quiet_end hw
        clear hw t0 t1
        go_wp2_with fail
        go_ret
        exact ⟨by rw [HF.out]; rfl, hb.trans (nn.mono hb.size)⟩
      have HI := Lib.hid hI
      obtain ⟨x0, x7⟩ := inB_iff.1 hI
      have KI : Hid (∀ V, Calls Try.prog 67 #[.int .i64 x, .int .i64 0, .int .i64 7] V fun e w' => e = .returned (.bool true) ∧ Below V.heap.size V w') := Lib.hid fun V => by have := l1In_below x 0 7 V; rwa [hI] at this
      rcases h3 : spOk L
      · have HF := Lib.hid (show tmOk M = false by unfold tmOk; rw [HO.out, step, h3, Bool.false_and, Bool.and_false])
        have KR : Hid (∀ V, SpAt V V.heap.size (.slice a1 L.length cap1) L → Calls Try.prog 89 #[.agg #[.slice a1 L.length cap1]] V fun e w' => e = .returned (.bool false) ∧ Below V.heap.size V w') := Lib.hid fun V g => by have := srngOk_is (w := V) hL g; rwa [h3] at this
        clear step l0 hI h3
        have t0 := cell_regrown c0
        have t1 := cell_regrown c1
        go_wp2_with fail
        refine wp_region_quiet_below (by kernel_rfl) (by kernel_rfl) ?_
        repeat (any_goals (first | go_big_quiet_step ((first | (go_at_call 67; exact Calls.regrown_of (KI.out _)) | (go_at_call 89; exact Calls.regrown_of (KR.out _ (hs.stepAt (below_regrown _ _ _)))))) | quiet_step ((first | (go_at_call 67; exact Calls.regrown_of (KI.out _)) | (go_at_call 89; exact Calls.regrown_of (KR.out _ (hs.stepAt (below_regrown _ _ _))))))))
        refine wpQuiet_nil ?_
        intro W2 hw
        have nn := quiet_end hw
        clear hw t0 t1
        go_wp2_with fail
        go_ret
        exact ⟨by rw [HF.out]; rfl, hb.trans (nn.mono hb.size)⟩
      have H3 := Lib.hid h3
      have KR : Hid (∀ V, SpAt V V.heap.size (.slice a1 L.length cap1) L → Calls Try.prog 89 #[.agg #[.slice a1 L.length cap1]] V fun e w' => e = .returned (.bool true) ∧ Below V.heap.size V w') := Lib.hid fun V g => by have := srngOk_is (w := V) hL g; rwa [h3] at this
      rcases Nat.eq_zero_or_pos k with hkz | hkp
      · have HN := Lib.hid (show tmLow M k ≤ x by rw [hkz]; exact x0)
        have hk0 : decide ((0 : Int) < (k : Int)) = false := decide_eq_false (by omega)
        have hk1 : decide (0 < k) = false := decide_eq_false (by omega)
        clear step l0 hI h3 hkz
        have t0 := cell_regrown c0
        have t1 := cell_regrown c1
        go_wp2_with fail
        refine wp_region_quiet_below (by kernel_rfl) (by kernel_rfl) ?_
        repeat (any_goals (first | go_big_quiet_step ((first | (go_at_call 67; exact Calls.regrown_of (KI.out _)) | (go_at_call 89; exact Calls.regrown_of (KR.out _ (hs.stepAt (below_regrown _ _ _)))))) | quiet_step ((first | (go_at_call 67; exact Calls.regrown_of (KI.out _)) | (go_at_call 89; exact Calls.regrown_of (KR.out _ (hs.stepAt (below_regrown _ _ _))))))))
        refine wpQuiet_nil ?_
        intro W2 hw
        have nn := quiet_end hw
        clear hw t0 t1
        have HP := Lib.hid (stm_push HX.out HO.out HN.out HI.out H3.out (hb.trans (nn.mono hb.size)))
        go_wp2_with fail
        go_roundw
        case rel => exact HP.out
        case measure => simp [intOf]; omega
      · obtain ⟨m, rfl⟩ : ∃ m, k = m + 1 := ⟨k - 1, by omega⟩
        obtain ⟨p, Lp, fp, hxp⟩ : ∃ p Lp fp, M[m] = (p, Lp, fp) := ⟨_, _, _, rfl⟩
        have cm := ((HC.out m (by omega)).below hb hB).1
        rw [hxp] at cm
        simp only at cm
        have hlow : tmLow M (m + 1) = p + 1 := tmLow_next (x := (p, Lp, fp)) (by rw [List.getElem?_eq_getElem (show m < M.length by omega), hxp])
        have j0 : (0 : Int) ≤ (m : Int) := by omega
        have j1 : (m : Int) < (M.length : Int) := by omega
        have hk0 : (0 : Int) < (m : Int) + 1 := by omega
        clear hxp
        by_cases hpx : p < x
        · have HN := Lib.hid (show tmLow M (m + 1) ≤ x by omega)
          clear step l0 hI h3 hlow
          have t0 := cell_regrown c0
          have t1 := cell_regrown c1
          have t2 := cell_regrown cm
          go_wp2_with fail
          refine wp_region_quiet_below (by kernel_rfl) (by kernel_rfl) ?_
          repeat (any_goals (first | go_big_quiet_step ((first | (go_at_call 67; exact Calls.regrown_of (KI.out _)) | (go_at_call 89; exact Calls.regrown_of (KR.out _ (hs.stepAt (below_regrown _ _ _)))))) | quiet_step ((first | (go_at_call 67; exact Calls.regrown_of (KI.out _)) | (go_at_call 89; exact Calls.regrown_of (KR.out _ (hs.stepAt (below_regrown _ _ _))))))))
          refine wpQuiet_nil ?_
          intro W2 hw
          have nn := quiet_end hw
          clear hw t0 t1 t2
          have HP := Lib.hid (stm_push HX.out HO.out HN.out HI.out H3.out (hb.trans (nn.mono hb.size)))
          go_wp2_with fail
          go_roundw
          case rel => exact HP.out
          case measure => simp [intOf]; omega
        · have HF := Lib.hid (show tmOk M = false by unfold tmOk; rw [HO.out, step, decide_eq_false (by omega)]; rfl)
          clear step l0 hI h3 hlow
          have t0 := cell_regrown c0
          have t1 := cell_regrown c1
          have t2 := cell_regrown cm
          go_wp2_with fail
          refine wp_region_quiet_below (by kernel_rfl) (by kernel_rfl) ?_
          repeat (any_goals (first | go_big_quiet_step ((first | (go_at_call 67; exact Calls.regrown_of (KI.out _)) | (go_at_call 89; exact Calls.regrown_of (KR.out _ (hs.stepAt (below_regrown _ _ _)))))) | quiet_step ((first | (go_at_call 67; exact Calls.regrown_of (KI.out _)) | (go_at_call 89; exact Calls.regrown_of (KR.out _ (hs.stepAt (below_regrown _ _ _))))))))
          refine wpQuiet_nil ?_
          intro W2 hw
          have nn := quiet_end hw
          clear hw t0 t1 t2
          go_wp2_with fail
          go_ret
          exact ⟨by rw [HF.out]; rfl, hb.trans (nn.mono hb.size)⟩
    · obtain rfl : k = M.length := by omega
      have HF := Lib.hid (show tmOk M = true by unfold tmOk; rw [HO.out, List.drop_length]; rfl)
      go_wp2_with fail
      go_ret
      exact ⟨by rw [HF.out]; rfl, hb⟩

end Go.Proofs.Ytdhbjjolgmodjaa

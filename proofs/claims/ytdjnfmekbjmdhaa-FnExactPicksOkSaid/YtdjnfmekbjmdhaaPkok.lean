/- Contracts of PicksOk, the program's and the model's, over this seat's translation: both answer as the plain function pkOk of the picks; nothing that was there before the call has changed. Condition: at most 1048576 picks. -/
import Derived.Test.YtdjnfmekbjmdhaaPk
import Derived.Test.YtdjnfmekbjmdhaaVer
import Derived.BigQuiet
namespace Go.Proofs.Ytdjnfmekbjmdhaa
open Go.RowKit Go.Sort

/-- Picks with ascending names from a number on, up to 7, each with a version. -/
def pkFrom (lo : Int) : List Pk → Bool
  | [] => true
  | x :: t => decide (lo ≤ x.1 ∧ x.1 ≤ 7) && (vOk x.2.1 x.2.2.1 x.2.2.2.1 x.2.2.2.2 && pkFrom (x.1 + 1) t)
def pkOk (M : List Pk) : Bool := pkFrom 0 M

/-- The least name that the pick at place k may have. -/
def pkLow (M : List Pk) : Nat → Int
  | 0 => 0
  | k + 1 => match M[k]? with | none => 0 | some x => x.1 + 1

theorem pkFrom_step {M : List Pk} {k : Nat} {x : Pk} (h : M[k]? = some x) (lo : Int) :
    pkFrom lo (M.drop k) = (decide (lo ≤ x.1 ∧ x.1 ≤ 7) && (vOk x.2.1 x.2.2.1 x.2.2.2.1 x.2.2.2.2 && pkFrom (x.1 + 1) (M.drop (k + 1)))) := by
  have hk : k < M.length := (List.getElem?_eq_some_iff.1 h).1
  rw [List.drop_eq_getElem_cons hk, (List.getElem?_eq_some_iff.1 h).2]
  rfl
theorem pkLow_next {M : List Pk} {k : Nat} {x : Pk} (h : M[k]? = some x) : pkLow M (k + 1) = x.1 + 1 := by simp [pkLow, h]

/-- What the loop of the program's PicksOk keeps: what is left decides. -/
def IPkRel (M : List Pk) (w : World) (lo i : Value) (wr : World) : Prop :=
  ∃ k : Nat, k ≤ M.length ∧ i = .int .i64 (k : Int) ∧ lo = .int .i64 (pkLow M k) ∧ pkFrom 0 M = pkFrom (pkLow M k) (M.drop k) ∧ 0 ≤ pkLow M k ∧ pkLow M k ≤ 8 ∧ Below w.heap.size w wr

theorem ipk_push {M : List Pk} {w wr : World} {k : Nat} {x a b c d : Int} (hM : M[k]? = some (x, a, b, c, d)) (ho : pkFrom 0 M = pkFrom (pkLow M k) (M.drop k)) (h0 : 0 ≤ pkLow M k) (h1 : pkLow M k ≤ x) (h2 : x ≤ 7) (h3 : vOk a b c d = true) (hb : Below w.heap.size w wr) :
    IPkRel M w (.int .i64 (x + 1)) (.int .i64 ((k : Int) + 1)) wr := by
  have hk : k < M.length := (List.getElem?_eq_some_iff.1 hM).1
  have e := pkLow_next hM
  simp only at e
  refine ⟨k + 1, by omega, by go_num, by rw [e], ?_, by omega, by omega, hb⟩
  rw [ho, pkFrom_step hM, e]
  simp [h1, h2, h3]

set_option maxRecDepth 100000 in
set_option maxHeartbeats 2000000 in
theorem implPicksOk_any (v : Value) (M : List Pk) (w : World) (hl : M.length ≤ 1048576) (h : PkAt w w.heap.size v M) :
    Calls Try.prog 43 #[v] w fun e w' => e = .returned (.bool (pkOk M)) ∧ Below w.heap.size w w' := by
  obtain ⟨a, cap, rfl, h⟩ := h
  go_enter Try.func43, Try.ntmps43
  go_wp2
  go_loopw [3, 8] (fun lo i wr => IPkRel M w lo i wr) (fun _ i _ => M.length - (intOf i).toNat)
  case atStart => exact ⟨0, Nat.zero_le _, rfl, rfl, rfl, by simp [pkLow], by simp [pkLow], Below.refl _ _⟩
  case round =>
    obtain ⟨k, hk, rfl, rfl, ho, l0, l8, hb⟩ := hrel
    have HO := Lib.hid ho
    clear ho
    by_cases hlt : k < M.length
    · rcases h with h | ⟨b, o, rfl, hB, hc⟩
      · subst h
        exact absurd hlt (by simp)
      obtain ⟨x, a1, b1, c1, d1, hxy⟩ : ∃ x a1 b1 c1 d1, M[k] = (x, a1, b1, c1, d1) := ⟨_, _, _, _, _, rfl⟩
      have m := (hc k hlt).below hb hB
      rw [hxy] at m
      obtain ⟨k0, k1, k2, k3, k4⟩ := m
      simp only at k0 k1 k2 k3 k4
      have HX := Lib.hid (show M[k]? = some (x, a1, b1, c1, d1) by rw [List.getElem?_eq_getElem hlt, hxy])
      clear hxy hc
      have step := pkFrom_step HX.out (pkLow M k)
      simp only at step
      have bb := hb.alloc hb.size (.cells #[.int .i64 x, .int .i64 a1, .int .i64 b1, .int .i64 c1, .int .i64 d1] 106)
      have hn := pkLow_next HX.out
      by_cases h1 : x < pkLow M k
      · have HF := Lib.hid (show pkOk M = false by unfold pkOk; rw [HO.out, step, decide_eq_false (by omega)]; simp)
        clear step hn
        generalize pkLow M k = lo at *
        go_wp2_with fail
        go_ret
        exact ⟨by rw [HF.out]; rfl, bb⟩
      by_cases h2 : 7 < x
      · have HF := Lib.hid (show pkOk M = false by unfold pkOk; rw [HO.out, step, decide_eq_false (by omega)]; simp)
        clear step hn
        generalize pkLow M k = lo at *
        go_wp2_with fail
        go_ret
        exact ⟨by rw [HF.out]; rfl, bb⟩
      have hx0 : 0 ≤ x := by omega
      have KR := Lib.hid (show ∀ V, Calls Try.prog 83 #[ver a1 b1 c1 d1] V _ from fun V => implOk_any a1 b1 c1 d1 V)
      rcases h3 : vOk a1 b1 c1 d1
      · have HF := Lib.hid (show pkOk M = false by unfold pkOk; rw [HO.out, step, h3]; simp)
        rw [h3] at KR
        clear step hn h3
        generalize pkLow M k = lo at *
        go_wp2_with fail
        refine (KR.out _).mono ?_
        rintro e w2 ⟨rfl, hb2⟩
        go_wp2_with fail
        go_ret
        exact ⟨by rw [HF.out]; rfl, bb.trans (hb2.mono bb.size)⟩
      · rw [h3] at KR
        have H3 := Lib.hid h3
        have L0 := Lib.hid l0
        have L1 := Lib.hid (show pkLow M k ≤ x by omega)
        clear step hn h3
        obtain ⟨lo, hlo⟩ : ∃ lo, pkLow M k = lo := ⟨_, rfl⟩
        have HLO := Lib.hid hlo
        rw [hlo] at l0 l8 h1 ⊢
        clear hlo
        go_wp2_with fail
        refine (KR.out _).mono ?_
        rintro e w2 ⟨rfl, hb2⟩
        have HP := Lib.hid (ipk_push HX.out HO.out L0.out L1.out (by omega) H3.out (bb.trans (hb2.mono bb.size)))
        have bx : w2.cell? ⟨wr.heap.size, 0, none⟩ = some (.int .i64 x) := (hb2.cell (p := ⟨wr.heap.size, 0, none⟩) (by simp)).trans (by go_simp)
        clear hb hb2 bb
        go_wp2_with fail
        go_roundw
        case rel => exact HP.out
        case measure => simp [intOf]; omega
    · obtain rfl : k = M.length := by omega
      have HF := Lib.hid (show pkOk M = true by unfold pkOk; rw [HO.out, List.drop_length]; simp [pkFrom])
      generalize pkLow M M.length = lo at *
      go_wp2_with fail
      go_ret
      exact ⟨by rw [HF.out]; rfl, hb⟩

/-- What the loop of the model's PicksOk keeps: what is left decides. -/
def SPkRel (M : List Pk) (w : World) (i : Value) (wr : World) : Prop :=
  ∃ k : Nat, k ≤ M.length ∧ i = .int .i64 (k : Int) ∧ pkFrom 0 M = pkFrom (pkLow M k) (M.drop k) ∧ 0 ≤ pkLow M k ∧ Below w.heap.size w wr

theorem spk_push {M : List Pk} {w wr : World} {k : Nat} {x a b c d : Int} (hM : M[k]? = some (x, a, b, c, d)) (ho : pkFrom 0 M = pkFrom (pkLow M k) (M.drop k)) (h1 : pkLow M k ≤ x) (hI : inB x 0 7 = true) (h3 : vOk a b c d = true) (hb : Below w.heap.size w wr) :
    SPkRel M w (.int .i64 ((k : Int) + 1)) wr := by
  have hk : k < M.length := (List.getElem?_eq_some_iff.1 hM).1
  have e := pkLow_next hM
  have h2 := inB_iff.1 hI
  simp only at e
  refine ⟨k + 1, by omega, by go_num, ?_, by omega, hb⟩
  rw [ho, pkFrom_step hM, e]
  simp [h1, h2.2, h3]

theorem l1In_same (n lo hi : Int) (w : World) : Calls Try.prog 80 #[.int .i64 n, .int .i64 lo, .int .i64 hi] w fun e w' => e = .returned (.bool (inB n lo hi)) ∧ Below w.heap.size w w' :=
  (l1In_any n lo hi w).mono fun _ _ ⟨he, hw⟩ => ⟨he, by subst hw; exact Below.refl _ _⟩

set_option maxRecDepth 100000 in
set_option maxHeartbeats 4000000 in
theorem specPicksOk_any (v : Value) (M : List Pk) (w : World) (hl : M.length ≤ 1048576) (h : PkAt w w.heap.size v M) :
    Calls Try.prog 41 #[v] w fun e w' => e = .returned (.bool (pkOk M)) ∧ Below w.heap.size w w' := by
  obtain ⟨a, cap, rfl, h⟩ := h
  go_enter Try.func41, Try.ntmps41
  go_wp2
  go_loopw [3] (fun i wr => SPkRel M w i wr) (fun i _ => M.length - (intOf i).toNat)
  case atStart => exact ⟨0, Nat.zero_le _, rfl, rfl, by simp [pkLow], Below.refl _ _⟩
  case round =>
    obtain ⟨k, hk, rfl, ho, l0, hb⟩ := hrel
    have HO := Lib.hid ho
    clear ho
    by_cases hlt : k < M.length
    · rcases h with h | ⟨b, o, rfl, hB, hc⟩
      · subst h
        exact absurd hlt (by simp)
      obtain ⟨x, a1, b1, c1, d1, hxy⟩ : ∃ x a1 b1 c1 d1, M[k] = (x, a1, b1, c1, d1) := ⟨_, _, _, _, _, rfl⟩
      have m := (hc k hlt).below hb hB
      rw [hxy] at m
      obtain ⟨k0, k1, k2, k3, k4⟩ := m
      simp only at k0 k1 k2 k3 k4
      have HX := Lib.hid (show M[k]? = some (x, a1, b1, c1, d1) by rw [List.getElem?_eq_getElem hlt, hxy])
      have HC := Lib.hid hc
      clear hxy hc
      have step := pkFrom_step HX.out (pkLow M k)
      simp only at step
      have i0 : (0 : Int) ≤ (k : Int) := by omega
      have i1 : (k : Int) < (M.length : Int) := by omega
      have t0 := cell_regrown k0
      have t1 := cell_regrown k1
      have t2 := cell_regrown k2
      have t3 := cell_regrown k3
      have t4 := cell_regrown k4
      rcases hI : inB x 0 7
      · have HF := Lib.hid (show pkOk M = false by
          have : ¬ (0 ≤ x ∧ x ≤ 7) := fun e => by rw [inB_iff.2 e] at hI; cases hI
          unfold pkOk; rw [HO.out, step, decide_eq_false (by omega)]; simp)
        have KI : Hid (∀ V, Calls Try.prog 80 #[.int .i64 x, .int .i64 0, .int .i64 7] V fun e w' => e = .returned (.bool false) ∧ Below V.heap.size V w') := Lib.hid fun V => by have := l1In_same x 0 7 V; rwa [hI] at this
        clear step l0 hI
        go_wp2_with fail
        refine wp_region_quiet_below (by kernel_rfl) (by kernel_rfl) ?_
        repeat (any_goals (first | go_big_quiet_step ((first | (go_at_call 80; exact Calls.regrown_of (KI.out _)))) | quiet_step ((first | (go_at_call 80; exact Calls.regrown_of (KI.out _))))))
        refine wpQuiet_nil ?_
        intro W2 hw
        have nn := quiet_end hw
        clear hw t0 t1 t2 t3 t4
        go_wp2_with fail
        go_ret
        exact ⟨by rw [HF.out]; rfl, hb.trans (nn.mono hb.size)⟩
      have HI := Lib.hid hI
      obtain ⟨x0, x7⟩ := inB_iff.1 hI
      have KI : Hid (∀ V, Calls Try.prog 80 #[.int .i64 x, .int .i64 0, .int .i64 7] V fun e w' => e = .returned (.bool true) ∧ Below V.heap.size V w') := Lib.hid fun V => by have := l1In_same x 0 7 V; rwa [hI] at this
      have KR := Lib.hid (show ∀ V, Calls Try.prog 81 #[ver a1 b1 c1 d1] V _ from fun V => specOk_any a1 b1 c1 d1 V)
      rcases h3 : vOk a1 b1 c1 d1
      · have HF := Lib.hid (show pkOk M = false by unfold pkOk; rw [HO.out, step, h3]; simp)
        rw [h3] at KR
        clear step l0 hI h3
        go_wp2_with fail
        refine wp_region_quiet_below (by kernel_rfl) (by kernel_rfl) ?_
        repeat (any_goals (first | go_big_quiet_step ((first | (go_at_call 80; exact Calls.regrown_of (KI.out _)) | (go_at_call 81; exact Calls.regrown_of (KR.out _)))) | quiet_step ((first | (go_at_call 80; exact Calls.regrown_of (KI.out _)) | (go_at_call 81; exact Calls.regrown_of (KR.out _))))))
        refine wpQuiet_nil ?_
        intro W2 hw
        have nn := quiet_end hw
        clear hw t0 t1 t2 t3 t4
        go_wp2_with fail
        go_ret
        exact ⟨by rw [HF.out]; rfl, hb.trans (nn.mono hb.size)⟩
      rw [h3] at KR
      have H3 := Lib.hid h3
      rcases Nat.eq_zero_or_pos k with hkz | hkp
      · have HN := Lib.hid (show pkLow M k ≤ x by rw [hkz]; exact x0)
        have hk0 : decide ((0 : Int) < (k : Int)) = false := decide_eq_false (by omega)
        have hk1 : decide (0 < k) = false := decide_eq_false (by omega)
        clear step l0 hI h3 hkz
        go_wp2_with fail
        refine wp_region_quiet_below (by kernel_rfl) (by kernel_rfl) ?_
        repeat (any_goals (first | go_big_quiet_step ((first | (go_at_call 80; exact Calls.regrown_of (KI.out _)) | (go_at_call 81; exact Calls.regrown_of (KR.out _)))) | quiet_step ((first | (go_at_call 80; exact Calls.regrown_of (KI.out _)) | (go_at_call 81; exact Calls.regrown_of (KR.out _))))))
        refine wpQuiet_nil ?_
        intro W2 hw
        have nn := quiet_end hw
        clear hw t0 t1 t2 t3 t4
        have HP := Lib.hid (spk_push HX.out HO.out HN.out HI.out H3.out (hb.trans (nn.mono hb.size)))
        go_wp2_with fail
        go_roundw
        case rel => exact HP.out
        case measure => simp [intOf]; omega
      · obtain ⟨m, rfl⟩ : ∃ m, k = m + 1 := ⟨k - 1, by omega⟩
        obtain ⟨p, a2, b2, c2, d2, hxp⟩ : ∃ p a2 b2 c2 d2, M[m] = (p, a2, b2, c2, d2) := ⟨_, _, _, _, _, rfl⟩
        have cm := ((HC.out m (by omega)).below hb hB)
        rw [hxp] at cm
        obtain ⟨j0', j1', j2', j3', j4'⟩ := cm
        simp only at j0' j1' j2' j3' j4'
        have hlow : pkLow M (m + 1) = p + 1 := pkLow_next (x := (p, a2, b2, c2, d2)) (by rw [List.getElem?_eq_getElem (show m < M.length by omega), hxp])
        have j0 : (0 : Int) ≤ (m : Int) := by omega
        have j1 : (m : Int) < (M.length : Int) := by omega
        have hk0 : (0 : Int) < (m : Int) + 1 := by omega
        have t5 := cell_regrown j0'
        clear hxp
        by_cases hpx : p < x
        · have HN := Lib.hid (show pkLow M (m + 1) ≤ x by omega)
          clear step l0 hI h3 hlow
          go_wp2_with fail
          refine wp_region_quiet_below (by kernel_rfl) (by kernel_rfl) ?_
          repeat (any_goals (first | go_big_quiet_step ((first | (go_at_call 80; exact Calls.regrown_of (KI.out _)) | (go_at_call 81; exact Calls.regrown_of (KR.out _)))) | quiet_step ((first | (go_at_call 80; exact Calls.regrown_of (KI.out _)) | (go_at_call 81; exact Calls.regrown_of (KR.out _))))))
          refine wpQuiet_nil ?_
          intro W2 hw
          have nn := quiet_end hw
          clear hw t0 t1 t2 t3 t4 t5
          have HP := Lib.hid (spk_push HX.out HO.out HN.out HI.out H3.out (hb.trans (nn.mono hb.size)))
          go_wp2_with fail
          go_roundw
          case rel => exact HP.out
          case measure => simp [intOf]; omega
        · have HF := Lib.hid (show pkOk M = false by unfold pkOk; rw [HO.out, step, decide_eq_false (by omega)]; simp)
          clear step l0 hI h3 hlow
          go_wp2_with fail
          refine wp_region_quiet_below (by kernel_rfl) (by kernel_rfl) ?_
          repeat (any_goals (first | go_big_quiet_step ((first | (go_at_call 80; exact Calls.regrown_of (KI.out _)) | (go_at_call 81; exact Calls.regrown_of (KR.out _)))) | quiet_step ((first | (go_at_call 80; exact Calls.regrown_of (KI.out _)) | (go_at_call 81; exact Calls.regrown_of (KR.out _))))))
          refine wpQuiet_nil ?_
          intro W2 hw
          have nn := quiet_end hw
          clear hw t0 t1 t2 t3 t4 t5
          go_wp2_with fail
          go_ret
          exact ⟨by rw [HF.out]; rfl, hb.trans (nn.mono hb.size)⟩
    · obtain rfl : k = M.length := by omega
      have HF := Lib.hid (show pkOk M = true by unfold pkOk; rw [HO.out, List.drop_length]; simp [pkFrom])
      go_wp2_with fail
      go_ret
      exact ⟨by rw [HF.out]; rfl, hb⟩

end Go.Proofs.Ytdjnfmekbjmdhaa

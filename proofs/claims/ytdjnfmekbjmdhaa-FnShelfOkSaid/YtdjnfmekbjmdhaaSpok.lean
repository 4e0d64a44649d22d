/- The contract of the model's RangeOk over this seat's translation: it answers as the plain function spOk of the spans; nothing that was there before the call has changed. Condition: at most 1048576 spans. -/
import Derived.Test.YtdjnfmekbjmdhaaSpmark
import Derived.Test.YtdjnfmekbjmdhaaVer
namespace Go.Proofs.Ytdjnfmekbjmdhaa
open Go.RowKit Go.Sort

/-- Each span is from 0 to the greatest rank and behind the one before it, with a rank between. -/
def okFrom (prev : Option Int) : List (Int × Int) → Bool
  | [] => true
  | (a, b) :: t => inB a 0 9999999 && (inB b a 9999999 && ((match prev with | none => true | some h => decide (h + 1 < a)) && okFrom (some b) t))
def spOk (L : List (Int × Int)) : Bool := okFrom none L && decide (L.length ≤ 40)

/-- The end of the span before place k. -/
def prevOf (L : List (Int × Int)) : Nat → Option Int
  | 0 => none
  | k + 1 => (L[k]?).map (·.2)

theorem okFrom_step {L : List (Int × Int)} {k : Nat} {x y : Int} (h : L[k]? = some (x, y)) (prev : Option Int) :
    okFrom prev (L.drop k) = (inB x 0 9999999 && (inB y x 9999999 && ((match prev with | none => true | some h => decide (h + 1 < x)) && okFrom (some y) (L.drop (k + 1))))) := by
  have hk : k < L.length := (List.getElem?_eq_some_iff.1 h).1
  rw [List.drop_eq_getElem_cons hk, (List.getElem?_eq_some_iff.1 h).2]
  rfl

/-- What the loop of RangeOk keeps: what is left decides, and the span before lies below the greatest rank. -/
def OkRel (L : List (Int × Int)) (w : World) (v1 : Value) (i : Value) (wr : World) : Prop :=
  ∃ k : Nat, k ≤ L.length ∧ i = .int .i64 (k : Int) ∧ okFrom none L = okFrom (prevOf L k) (L.drop k) ∧ (∀ p, prevOf L k = some p → 0 ≤ p ∧ p ≤ 9999999) ∧ Below (w.heap.size + 1) (w.alloc (.cells #[v1] 95)) wr

theorem ok_push {L : List (Int × Int)} {w wr : World} {v1 : Value} {k : Nat} {x y : Int} (hL : L[k]? = some (x, y)) (ho : okFrom none L = okFrom (prevOf L k) (L.drop k)) (hx : inB x 0 9999999 = true) (hy : inB y x 9999999 = true)
    (hp : ∀ p, prevOf L k = some p → p + 1 < x) (hb : Below (w.heap.size + 1) (w.alloc (.cells #[v1] 95)) wr) : OkRel L w v1 (.int .i64 ((k : Int) + 1)) wr := by
  have hk : k < L.length := (List.getElem?_eq_some_iff.1 hL).1
  have h1 := inB_iff.1 hx
  have h2 := inB_iff.1 hy
  refine ⟨k + 1, by omega, by go_num, ?_, fun p hp' => ?_, hb⟩
  · rw [ho, okFrom_step hL, hx, hy]
    have e : prevOf L (k + 1) = some y := by simp [prevOf, hL]
    rw [e]
    match hq : prevOf L k with
    | none => simp
    | some h => simp [hp h hq]
  · simp [prevOf, hL] at hp'
    omega

theorem l1In_below (n lo hi : Int) (w : World) : Calls Try.prog 80 #[.int .i64 n, .int .i64 lo, .int .i64 hi] w fun e w' => e = .returned (.bool (inB n lo hi)) ∧ Below w.heap.size w w' :=
  (l1In_any n lo hi w).mono fun _ _ ⟨he, hw⟩ => ⟨he, by subst hw; exact Below.refl _ _⟩

set_option maxHeartbeats 2000000 in
theorem specRangeOk_any (a : Option Addr) (cap : Nat) (L : List (Int × Int)) (w : World) (hl : L.length ≤ 1048576) (h : SpAt w w.heap.size (.slice a L.length cap) L) :
    Calls Try.prog 100 #[.agg #[.slice a L.length cap]] w fun e w' => e = .returned (.bool (spOk L)) ∧ Below w.heap.size w w' := by
  have HH := Lib.hid h
  clear h
  have hb0 := (Below.refl w.heap.size w).alloc (Nat.le_refl _) (.cells #[.slice a L.length cap] 95)
  have v0 : (w.alloc (.cells #[.slice a L.length cap] 95)).cell? ⟨w.heap.size, 0, none⟩ = some (.slice a L.length cap) := by go_simp
  go_enter Try.func100, Try.ntmps100
  go_wp2
  go_loopw [3] (fun i wr => OkRel L w (.slice a L.length cap) i wr) (fun i _ => L.length - (intOf i).toNat)
  case atStart => exact ⟨0, Nat.zero_le _, rfl, rfl, fun p hp => (by cases hp), Below.refl _ _⟩
  case round =>
    obtain ⟨k, hk, rfl, ho, hp, hb⟩ := hrel
    have HO := Lib.hid ho
    have HPB := Lib.hid hp
    clear ho hp
    have z1 := hb.size
    simp at z1
    have r0 := (hb.cell (p := ⟨w.heap.size, 0, none⟩) (by simp)).trans v0
    have i0 : (0 : Int) ≤ (k : Int) := by omega
    have i1 : (k : Int) ≤ (L.length : Int) := by omega
    by_cases hlt : k < L.length
    · obtain ⟨a1, cap1, e1, h1⟩ := HH.out
      simp only [Value.slice.injEq] at e1
      obtain ⟨rfl, _, rfl⟩ := e1
      rcases h1 with h1 | ⟨b, o, rfl, hB, hc⟩
      · subst h1
        exact absurd hlt (by simp)
      have hbw := (hb0.trans (hb.mono (Nat.le_succ _)))
      obtain ⟨x, y, hxy⟩ : ∃ x y, L[k] = (x, y) := ⟨_, _, rfl⟩
      have c := hc k hlt
      rw [hxy] at c
      have c0 := (hbw.cell (p := ⟨b, o + k * 2, none⟩) hB).trans c.1
      have c1 := (hbw.cell (p := ⟨b, o + k * 2 + 1, none⟩) hB).trans c.2
      have HX := Lib.hid (show L[k]? = some (x, y) by rw [List.getElem?_eq_getElem hlt, hxy])
      have HC := Lib.hid hc
      clear c hxy hc
      simp only at c0 c1
      have KI : Hid (∀ n lo hi V, Calls Try.prog 80 #[.int .i64 n, .int .i64 lo, .int .i64 hi] V fun e w' => e = .returned (.bool (inB n lo hi)) ∧ Below V.heap.size V w') := Lib.hid fun n lo hi V => l1In_below n lo hi V
      have t0 := cell_regrown (w := wr.alloc (.cells #[.int .i64 x, .int .i64 y] 128)) (a := ⟨wr.heap.size, 0, none⟩) (v := .int .i64 x) (by go_simp)
      have t1 := cell_regrown (w := wr.alloc (.cells #[.int .i64 x, .int .i64 y] 128)) (a := ⟨wr.heap.size, 1, none⟩) (v := .int .i64 y) (by go_simp)
      have rr := cell_regrown (w := wr.alloc (.cells #[.int .i64 x, .int .i64 y] 128)) (a := ⟨w.heap.size, 0, none⟩) (v := .slice (some ⟨b, o, none⟩) L.length cap) ((((Below.refl wr.heap.size wr).alloc (Nat.le_refl _) _).cell (p := ⟨w.heap.size, 0, none⟩) (by simp; omega)).trans r0)
      have step := okFrom_step HX.out (prevOf L k)
      rcases hA : inB x 0 9999999
      · have HF := Lib.hid (show spOk L = false by unfold spOk; rw [HO.out, step, hA]; simp)
        clear step
        go_wp2_with fail
        refine wp_region_quiet_below (by kernel_rfl) (by kernel_rfl) ?_
        repeat (any_goals (first | go_big_quiet_step ((go_at_call 80; exact Calls.regrown_of (KI.out _ _ _ _))) | quiet_step ((go_at_call 80; exact Calls.regrown_of (KI.out _ _ _ _)))))
        refine wpQuiet_nil ?_
        intro W2 hw
        have hb2 := quiet_end hw
        clear hw t0 t1 rr
        go_wp2_with fail
        go_ret
        exact ⟨by rw [HF.out]; rfl, hbw.trans ((((Below.refl _ _).alloc hbw.size _).trans (hb2.mono (by have := hbw.size; simp; omega))))⟩
      rcases hB2 : inB y x 9999999
      · have HF := Lib.hid (show spOk L = false by unfold spOk; rw [HO.out, step, hA, hB2]; simp)
        clear step
        go_wp2_with fail
        refine wp_region_quiet_below (by kernel_rfl) (by kernel_rfl) ?_
        repeat (any_goals (first | go_big_quiet_step ((go_at_call 80; exact Calls.regrown_of (KI.out _ _ _ _))) | quiet_step ((go_at_call 80; exact Calls.regrown_of (KI.out _ _ _ _)))))
        refine wpQuiet_nil ?_
        intro W2 hw
        have hb2 := quiet_end hw
        clear hw t0 t1 rr
        go_wp2_with fail
        go_ret
        exact ⟨by rw [HF.out]; rfl, hbw.trans ((((Below.refl _ _).alloc hbw.size _).trans (hb2.mono (by have := hbw.size; simp; omega))))⟩
      have HA := Lib.hid hA
      have HB2 := Lib.hid hB2
      obtain ⟨x0, x1⟩ := inB_iff.1 hA
      obtain ⟨y0, y1⟩ := inB_iff.1 hB2
      rcases Nat.eq_zero_or_pos k with hkz | hkp
      · have HQ := Lib.hid (show ∀ p, prevOf L k = some p → p + 1 < x from fun p hp => by rw [hkz] at hp; cases hp)
        have hk0 : decide ((0 : Int) < (k : Int)) = false := decide_eq_false (by omega)
        have hk1 : decide (0 < k) = false := decide_eq_false (by omega)
        clear step hkz
        go_wp2_with fail
        refine wp_region_quiet_below (by kernel_rfl) (by kernel_rfl) ?_
        repeat (any_goals (first | go_big_quiet_step ((go_at_call 80; exact Calls.regrown_of (KI.out _ _ _ _))) | quiet_step ((go_at_call 80; exact Calls.regrown_of (KI.out _ _ _ _)))))
        refine wpQuiet_nil ?_
        intro W2 hw
        have hb2 := quiet_end hw
        clear hw t0 t1 rr
        have HP := Lib.hid (ok_push (v1 := .slice (some ⟨b, o, none⟩) L.length cap) HX.out HO.out HA.out HB2.out HQ.out (hb.trans (((Below.refl _ _).alloc (by omega) _).trans (hb2.mono (by simp; omega)))))
        clear hb hb2
        go_wp2_with fail
        go_roundw
        case rel => exact HP.out
        case measure => simp [intOf]; omega
      · obtain ⟨m, rfl⟩ : ∃ m, k = m + 1 := ⟨k - 1, by omega⟩
        obtain ⟨x', p, hxp⟩ : ∃ x' p, L[m] = (x', p) := ⟨_, _, rfl⟩
        have cm := (HC.out m (by omega)).2
        rw [hxp] at cm
        have hprev : prevOf L (m + 1) = some p := by simp [prevOf, List.getElem?_eq_getElem (show m < L.length by omega), hxp]
        obtain ⟨p0, p1⟩ := HPB.out p hprev
        have pp := cell_regrown (w := wr.alloc (.cells #[.int .i64 x, .int .i64 y] 128)) (a := ⟨b, o + m * 2 + 1, none⟩) (v := .int .i64 p) ((((hbw.trans ((Below.refl wr.heap.size wr).alloc (Nat.le_refl _) _ |>.mono hbw.size))).cell (p := ⟨b, o + m * 2 + 1, none⟩) hB).trans cm)
        have j0 : (0 : Int) ≤ (m : Int) := by omega
        have j1 : (m : Int) < (L.length : Int) := by omega
        have hk0 : (0 : Int) < (m : Int) + 1 := by omega
        clear hxp cm
        by_cases hlt2 : p + 1 < x
        · have HQ := Lib.hid (show ∀ q, prevOf L (m + 1) = some q → q + 1 < x from fun q hq => by rw [hprev] at hq; cases hq; exact hlt2)
          clear step hprev
          go_wp2_with fail
          refine wp_region_quiet_below (by kernel_rfl) (by kernel_rfl) ?_
          repeat (any_goals (first | go_big_quiet_step ((go_at_call 80; exact Calls.regrown_of (KI.out _ _ _ _))) | quiet_step ((go_at_call 80; exact Calls.regrown_of (KI.out _ _ _ _)))))
          refine wpQuiet_nil ?_
          intro W2 hw
          have hb2 := quiet_end hw
          clear hw t0 t1 rr
          have HP := Lib.hid (ok_push (v1 := .slice (some ⟨b, o, none⟩) L.length cap) HX.out HO.out HA.out HB2.out HQ.out (hb.trans (((Below.refl _ _).alloc (by omega) _).trans (hb2.mono (by simp; omega)))))
          clear hb hb2
          go_wp2_with fail
          go_roundw
          case rel => exact HP.out
          case measure => simp [intOf]; omega
        · have HF := Lib.hid (show spOk L = false by unfold spOk; rw [HO.out, step, hA, hB2, hprev]; simp [hlt2])
          clear step hprev
          go_wp2_with fail
          refine wp_region_quiet_below (by kernel_rfl) (by kernel_rfl) ?_
          repeat (any_goals (first | go_big_quiet_step ((go_at_call 80; exact Calls.regrown_of (KI.out _ _ _ _))) | quiet_step ((go_at_call 80; exact Calls.regrown_of (KI.out _ _ _ _)))))
          refine wpQuiet_nil ?_
          intro W2 hw
          have hb2 := quiet_end hw
          clear hw t0 t1 rr
          go_wp2_with fail
          go_ret
          exact ⟨by rw [HF.out]; rfl, hbw.trans ((((Below.refl _ _).alloc hbw.size _).trans (hb2.mono (by have := hbw.size; simp; omega))))⟩
    · obtain rfl : k = L.length := by omega
      have HF := Lib.hid (show spOk L = decide ((L.length : Int) ≤ 40) by unfold spOk; rw [HO.out, List.drop_length]; simp only [okFrom, Bool.true_and]; exact decide_eq_decide.2 (by omega))
      go_wp2_with fail
      go_ret
      exact ⟨by rw [HF.out]; rfl, hb0.trans (hb.mono (Nat.le_succ _))⟩

end Go.Proofs.Ytdjnfmekbjmdhaa

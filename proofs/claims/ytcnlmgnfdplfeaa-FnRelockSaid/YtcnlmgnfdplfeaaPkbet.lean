/- Contracts of ChoiceBetter, the program's and the model's, over this seat's translation: both answer as the plain function pkBetter; nothing that was there before the call has changed. Condition: at most 1048576 picks. -/
import Derived.Test.YtcnlmgnfdplfeaaPkofs
namespace Go.Proofs.Ytcnlmgnfdplfeaa
open Go.RowKit Go.Sort

/-- The better one of two rows of picks, from a name on. -/
def pbet (A B : List Pk) : Nat → Int → Bool
  | 0, _ => false
  | f + 1, n => match pkGet n A, pkGet n B with
    | none, none => pbet A B f (n + 1)
    | none, some _ => true
    | some _, none => false
    | some (a, b, c, d), some (p, q, r, s) => if a = p ∧ b = q ∧ c = r ∧ d = s then pbet A B f (n + 1) else vLess p q r s a b c d
def pkBetter (A B : List Pk) : Bool := pkOk A && (pkOk B && pbet A B 8 0)
def BetRel (A B : List Pk) (w : World) (i : Value) (wr : World) : Prop :=
  ∃ k : Nat, k ≤ 8 ∧ i = .int .i64 (k : Int) ∧ pbet A B 8 0 = pbet A B (8 - k) (k : Int) ∧ Below w.heap.size w wr
theorem pbet_here (A B : List Pk) {k : Nat} (hk : k < 8) : pbet A B (8 - k) (k : Int) = match pkGet (k : Int) A, pkGet (k : Int) B with
    | none, none => pbet A B (8 - (k + 1)) ((k + 1 : Nat) : Int)
    | none, some _ => true
    | some _, none => false
    | some (a, b, c, d), some (p, q, r, s) => if a = p ∧ b = q ∧ c = r ∧ d = s then pbet A B (8 - (k + 1)) ((k + 1 : Nat) : Int) else vLess p q r s a b c d := by
  rw [show 8 - k = (8 - (k + 1)) + 1 by omega]
  rfl
theorem bet_push {A B : List Pk} {w wr : World} {k : Nat} (hk : k < 8) (ho : pbet A B 8 0 = pbet A B (8 - (k + 1)) ((k + 1 : Nat) : Int)) (hb : Below w.heap.size w wr) : BetRel A B w (.int .i64 ((k : Int) + 1)) wr :=
  ⟨k + 1, by omega, by go_num, ho, hb⟩
theorem VerBox (w : World) (a b c d : Int) {W : World} (hW : Below (w.heap.size + 1) (w.alloc (.cells #[.int .i64 a, .int .i64 b, .int .i64 c, .int .i64 d] 72)) W) :
    W.cell? ⟨w.heap.size, 0, none⟩ = some (.int .i64 a) ∧ W.cell? ⟨w.heap.size, 1, none⟩ = some (.int .i64 b) ∧ W.cell? ⟨w.heap.size, 2, none⟩ = some (.int .i64 c) ∧ W.cell? ⟨w.heap.size, 3, none⟩ = some (.int .i64 d) := by
  refine ⟨(hW.cell (p := ⟨w.heap.size, 0, none⟩) (Nat.lt_succ_self _)).trans ?_, (hW.cell (p := ⟨w.heap.size, 1, none⟩) (Nat.lt_succ_self _)).trans ?_, (hW.cell (p := ⟨w.heap.size, 2, none⟩) (Nat.lt_succ_self _)).trans ?_, (hW.cell (p := ⟨w.heap.size, 3, none⟩) (Nat.lt_succ_self _)).trans ?_⟩ <;> go_simp

set_option maxRecDepth 100000 in
set_option maxHeartbeats 8000000 in
theorem implBetter_any (u v : Value) (A B : List Pk) (w : World) (hl : A.length ≤ 1048576) (hm : B.length ≤ 1048576) (h : PkAt w w.heap.size u A) (h' : PkAt w w.heap.size v B) :
    Calls Try.prog 30 #[u, v] w fun e w' => e = .returned (.bool (pkBetter A B)) ∧ Below w.heap.size w w' := by
  obtain ⟨xa, ca, rfl, hx⟩ := id h
  obtain ⟨xb, cb, rfl, hx'⟩ := id h'
  have HA := Lib.hid h
  have HB := Lib.hid h'
  clear h hx h' hx'
  have KA : Hid (∀ V, PkAt V V.heap.size (.slice xa A.length ca) A → Calls Try.prog 42 #[.slice xa A.length ca] V fun e w' => e = .returned (.bool (pkOk A)) ∧ Below V.heap.size V w') := Lib.hid fun V g => implPicksOk_any _ A V hl g
  have KB : Hid (∀ V, PkAt V V.heap.size (.slice xb B.length cb) B → Calls Try.prog 42 #[.slice xb B.length cb] V fun e w' => e = .returned (.bool (pkOk B)) ∧ Below V.heap.size V w') := Lib.hid fun V g => implPicksOk_any _ B V hm g
  rcases ha : pkOk A
  · have HF := Lib.hid (show pkBetter A B = false by unfold pkBetter; rw [ha]; rfl)
    rw [ha] at KA
    clear ha
    go_enter Try.func30, Try.ntmps30
    go_wp2_with fail
    refine (KA.out _ HA.out).mono ?_
    rintro e w1 ⟨rfl, b1⟩
    go_wp2_with fail
    go_ret
    exact ⟨by rw [HF.out]; rfl, b1⟩
  · rcases hb : pkOk B
    · have HF := Lib.hid (show pkBetter A B = false by unfold pkBetter; rw [ha, hb]; rfl)
      rw [ha] at KA
      rw [hb] at KB
      clear ha hb
      go_enter Try.func30, Try.ntmps30
      go_wp2_with fail
      refine (KA.out _ HA.out).mono ?_
      rintro e w1 ⟨rfl, b1⟩
      go_wp2_with fail
      refine (KB.out _ (HB.out.stepAt b1)).mono ?_
      rintro e w2 ⟨rfl, hb⟩
      have b2 := b1.trans (hb.mono b1.size)
      clear hb
      go_wp2_with fail
      go_ret
      exact ⟨by rw [HF.out]; rfl, b2⟩
    · have HF := Lib.hid (show pkBetter A B = pbet A B 8 0 by unfold pkBetter; rw [ha, hb]; rfl)
      have GA : Hid (∀ n V, PkAt V V.heap.size (.slice xa A.length ca) A → Calls Try.prog 57 #[.slice xa A.length ca, .int .i64 n] V fun e w' => e = .returned (got (pkGet n A)) ∧ Below V.heap.size V w') := Lib.hid fun n V g => versionPicked_any _ A n V hl g
      have GB : Hid (∀ n V, PkAt V V.heap.size (.slice xb B.length cb) B → Calls Try.prog 57 #[.slice xb B.length cb, .int .i64 n] V fun e w' => e = .returned (got (pkGet n B)) ∧ Below V.heap.size V w') := Lib.hid fun n V g => versionPicked_any _ B n V hm g
      rw [ha] at KA
      rw [hb] at KB
      clear ha hb
      go_enter Try.func30, Try.ntmps30
      go_wp2_with fail
      refine (KA.out _ HA.out).mono ?_
      rintro e w1 ⟨rfl, b1⟩
      go_wp2_with fail
      refine (KB.out _ (HB.out.stepAt b1)).mono ?_
      rintro e w2 ⟨rfl, hb⟩
      have b2 := b1.trans (hb.mono b1.size)
      clear hb b1
      go_wp2_with fail
      go_loopw [5] (fun i wr => BetRel A B w2 i wr) (fun i _ => 8 - (intOf i).toNat)
      case atStart => exact ⟨0, Nat.zero_le _, rfl, rfl, Below.refl _ _⟩
      case round =>
        obtain ⟨k, hk, rfl, ho, hbr⟩ := hrel
        have HO := Lib.hid ho
        have br := b2.trans (hbr.mono b2.size)
        clear ho
        by_cases hlt : k < 8
        · have PH := pbet_here A B hlt
          have NX := Lib.hid (GA.out (k : Int))
          have NY := Lib.hid (GB.out (k : Int))
          rcases hga : pkGet (k : Int) A with _ | ⟨a, b, c, d⟩ <;> rcases hgb : pkGet (k : Int) B with _ | ⟨p, q, r, s⟩
          · rw [hga] at NX PH
            rw [hgb] at NY PH
            clear hga hgb
            simp only [got] at PH NX NY
            have PQ := Lib.hid PH
            clear PH
            go_wp2_with fail
            refine (NX.out _ (HA.out.stepAt br)).mono ?_
            rintro e w3 ⟨rfl, hb3⟩
            have b3 := br.trans (hb3.mono br.size)
            have B3 := hbr.trans (hb3.mono hbr.size)
            clear hb3 hbr br
            have b4 : Below w.heap.size w (w3.alloc (.cells #[.int .i64 0, .int .i64 0, .int .i64 0, .int .i64 0] 72)) := b3.alloc b3.size _
            go_wp2_with fail
            refine (NY.out _ (HB.out.stepAt b4)).mono ?_
            rintro e w5 ⟨rfl, hb5⟩
            have z3 : w3.heap.size + 1 ≤ w5.heap.size := by have := hb5.size; simp at this; omega
            have q5 := VerBox w3 0 0 0 0 (hb5.mono (by simp))
            have b5 := b4.trans (hb5.mono b4.size)
            have B4 : Below w2.heap.size w2 (w3.alloc (.cells #[.int .i64 0, .int .i64 0, .int .i64 0, .int .i64 0] 72)) := B3.alloc B3.size _
            have B5 := B4.trans (hb5.mono B4.size)
            clear hb5 b4 B4 B3 b3
            obtain ⟨e0, e1, e2, e3⟩ := q5
            have l0 := cell_alloc e0 (.cells #[.int .i64 0, .int .i64 0, .int .i64 0, .int .i64 0] 72)
            have l1 := cell_alloc e1 (.cells #[.int .i64 0, .int .i64 0, .int .i64 0, .int .i64 0] 72)
            have l2 := cell_alloc e2 (.cells #[.int .i64 0, .int .i64 0, .int .i64 0, .int .i64 0] 72)
            have l3 := cell_alloc e3 (.cells #[.int .i64 0, .int .i64 0, .int .i64 0, .int .i64 0] 72)
            clear e0 e1 e2 e3
            have b6 : Below w.heap.size w (w5.alloc (.cells #[.int .i64 0, .int .i64 0, .int .i64 0, .int .i64 0] 72)) := b5.alloc b5.size _
            have B6 : Below w2.heap.size w2 (w5.alloc (.cells #[.int .i64 0, .int .i64 0, .int .i64 0, .int .i64 0] 72)) := B5.alloc B5.size _
            clear b5 B5
            have hD := verN_alike 0 0 0 0
            have HP := Lib.hid (bet_push hlt (HO.out.trans PQ.out) B6)
            go_wp2_with fail
            go_roundw
            case rel => exact HP.out
            case measure => simp [intOf]; omega
          · rw [hga] at NX PH
            rw [hgb] at NY PH
            clear hga hgb
            simp only [got] at PH NX NY
            have PQ := Lib.hid PH
            clear PH
            go_wp2_with fail
            refine (NX.out _ (HA.out.stepAt br)).mono ?_
            rintro e w3 ⟨rfl, hb3⟩
            have b3 := br.trans (hb3.mono br.size)
            have B3 := hbr.trans (hb3.mono hbr.size)
            clear hb3 hbr br
            have b4 : Below w.heap.size w (w3.alloc (.cells #[.int .i64 0, .int .i64 0, .int .i64 0, .int .i64 0] 72)) := b3.alloc b3.size _
            go_wp2_with fail
            refine (NY.out _ (HB.out.stepAt b4)).mono ?_
            rintro e w5 ⟨rfl, hb5⟩
            have z3 : w3.heap.size + 1 ≤ w5.heap.size := by have := hb5.size; simp at this; omega
            have q5 := VerBox w3 0 0 0 0 (hb5.mono (by simp))
            have b5 := b4.trans (hb5.mono b4.size)
            have B4 : Below w2.heap.size w2 (w3.alloc (.cells #[.int .i64 0, .int .i64 0, .int .i64 0, .int .i64 0] 72)) := B3.alloc B3.size _
            have B5 := B4.trans (hb5.mono B4.size)
            clear hb5 b4 B4 B3 b3
            obtain ⟨e0, e1, e2, e3⟩ := q5
            have l0 := cell_alloc e0 (.cells #[.int .i64 p, .int .i64 q, .int .i64 r, .int .i64 s] 72)
            have l1 := cell_alloc e1 (.cells #[.int .i64 p, .int .i64 q, .int .i64 r, .int .i64 s] 72)
            have l2 := cell_alloc e2 (.cells #[.int .i64 p, .int .i64 q, .int .i64 r, .int .i64 s] 72)
            have l3 := cell_alloc e3 (.cells #[.int .i64 p, .int .i64 q, .int .i64 r, .int .i64 s] 72)
            clear e0 e1 e2 e3
            have b6 : Below w.heap.size w (w5.alloc (.cells #[.int .i64 p, .int .i64 q, .int .i64 r, .int .i64 s] 72)) := b5.alloc b5.size _
            have B6 : Below w2.heap.size w2 (w5.alloc (.cells #[.int .i64 p, .int .i64 q, .int .i64 r, .int .i64 s] 72)) := B5.alloc B5.size _
            clear b5 B5
            go_wp2_with fail
            go_ret
            exact ⟨by rw [HF.out, HO.out, PQ.out]; rfl, b6⟩
          · rw [hga] at NX PH
            rw [hgb] at NY PH
            clear hga hgb
            simp only [got] at PH NX NY
            have PQ := Lib.hid PH
            clear PH
            go_wp2_with fail
            refine (NX.out _ (HA.out.stepAt br)).mono ?_
            rintro e w3 ⟨rfl, hb3⟩
            have b3 := br.trans (hb3.mono br.size)
            have B3 := hbr.trans (hb3.mono hbr.size)
            clear hb3 hbr br
            have b4 : Below w.heap.size w (w3.alloc (.cells #[.int .i64 a, .int .i64 b, .int .i64 c, .int .i64 d] 72)) := b3.alloc b3.size _
            go_wp2_with fail
            refine (NY.out _ (HB.out.stepAt b4)).mono ?_
            rintro e w5 ⟨rfl, hb5⟩
            have z3 : w3.heap.size + 1 ≤ w5.heap.size := by have := hb5.size; simp at this; omega
            have q5 := VerBox w3 a b c d (hb5.mono (by simp))
            have b5 := b4.trans (hb5.mono b4.size)
            have B4 : Below w2.heap.size w2 (w3.alloc (.cells #[.int .i64 a, .int .i64 b, .int .i64 c, .int .i64 d] 72)) := B3.alloc B3.size _
            have B5 := B4.trans (hb5.mono B4.size)
            clear hb5 b4 B4 B3 b3
            obtain ⟨e0, e1, e2, e3⟩ := q5
            have l0 := cell_alloc e0 (.cells #[.int .i64 0, .int .i64 0, .int .i64 0, .int .i64 0] 72)
            have l1 := cell_alloc e1 (.cells #[.int .i64 0, .int .i64 0, .int .i64 0, .int .i64 0] 72)
            have l2 := cell_alloc e2 (.cells #[.int .i64 0, .int .i64 0, .int .i64 0, .int .i64 0] 72)
            have l3 := cell_alloc e3 (.cells #[.int .i64 0, .int .i64 0, .int .i64 0, .int .i64 0] 72)
            clear e0 e1 e2 e3
            have b6 : Below w.heap.size w (w5.alloc (.cells #[.int .i64 0, .int .i64 0, .int .i64 0, .int .i64 0] 72)) := b5.alloc b5.size _
            have B6 : Below w2.heap.size w2 (w5.alloc (.cells #[.int .i64 0, .int .i64 0, .int .i64 0, .int .i64 0] 72)) := B5.alloc B5.size _
            clear b5 B5
            go_wp2_with fail
            go_ret
            exact ⟨by rw [HF.out, HO.out, PQ.out]; rfl, b6⟩
          · rw [hga] at NX PH
            rw [hgb] at NY PH
            clear hga hgb
            simp only [got] at PH NX NY
            by_cases hv : a = p ∧ b = q ∧ c = r ∧ d = s
            · rw [if_pos hv] at PH
              obtain ⟨rfl, rfl, rfl, rfl⟩ := hv
              have PQ := Lib.hid PH
              clear PH
              go_wp2_with fail
              refine (NX.out _ (HA.out.stepAt br)).mono ?_
              rintro e w3 ⟨rfl, hb3⟩
              have b3 := br.trans (hb3.mono br.size)
              have B3 := hbr.trans (hb3.mono hbr.size)
              clear hb3 hbr br
              have b4 : Below w.heap.size w (w3.alloc (.cells #[.int .i64 a, .int .i64 b, .int .i64 c, .int .i64 d] 72)) := b3.alloc b3.size _
              go_wp2_with fail
              refine (NY.out _ (HB.out.stepAt b4)).mono ?_
              rintro e w5 ⟨rfl, hb5⟩
              have z3 : w3.heap.size + 1 ≤ w5.heap.size := by have := hb5.size; simp at this; omega
              have q5 := VerBox w3 a b c d (hb5.mono (by simp))
              have b5 := b4.trans (hb5.mono b4.size)
              have B4 : Below w2.heap.size w2 (w3.alloc (.cells #[.int .i64 a, .int .i64 b, .int .i64 c, .int .i64 d] 72)) := B3.alloc B3.size _
              have B5 := B4.trans (hb5.mono B4.size)
              clear hb5 b4 B4 B3 b3
              obtain ⟨e0, e1, e2, e3⟩ := q5
              have l0 := cell_alloc e0 (.cells #[.int .i64 a, .int .i64 b, .int .i64 c, .int .i64 d] 72)
              have l1 := cell_alloc e1 (.cells #[.int .i64 a, .int .i64 b, .int .i64 c, .int .i64 d] 72)
              have l2 := cell_alloc e2 (.cells #[.int .i64 a, .int .i64 b, .int .i64 c, .int .i64 d] 72)
              have l3 := cell_alloc e3 (.cells #[.int .i64 a, .int .i64 b, .int .i64 c, .int .i64 d] 72)
              clear e0 e1 e2 e3
              have b6 : Below w.heap.size w (w5.alloc (.cells #[.int .i64 a, .int .i64 b, .int .i64 c, .int .i64 d] 72)) := b5.alloc b5.size _
              have B6 : Below w2.heap.size w2 (w5.alloc (.cells #[.int .i64 a, .int .i64 b, .int .i64 c, .int .i64 d] 72)) := B5.alloc B5.size _
              clear b5 B5
              have hD := verN_alike a b c d
              have HP := Lib.hid (bet_push hlt (HO.out.trans PQ.out) B6)
              go_wp2_with fail
              go_roundw
              case rel => exact HP.out
              case measure => simp [intOf]; omega
            · rw [if_neg hv] at PH
              have hD := verN_differ hv
              clear hv
              have PQ := Lib.hid PH
              clear PH
              go_wp2_with fail
              refine (NX.out _ (HA.out.stepAt br)).mono ?_
              rintro e w3 ⟨rfl, hb3⟩
              have b3 := br.trans (hb3.mono br.size)
              have B3 := hbr.trans (hb3.mono hbr.size)
              clear hb3 hbr br
              have b4 : Below w.heap.size w (w3.alloc (.cells #[.int .i64 a, .int .i64 b, .int .i64 c, .int .i64 d] 72)) := b3.alloc b3.size _
              go_wp2_with fail
              refine (NY.out _ (HB.out.stepAt b4)).mono ?_
              rintro e w5 ⟨rfl, hb5⟩
              have z3 : w3.heap.size + 1 ≤ w5.heap.size := by have := hb5.size; simp at this; omega
              have q5 := VerBox w3 a b c d (hb5.mono (by simp))
              have b5 := b4.trans (hb5.mono b4.size)
              have B4 : Below w2.heap.size w2 (w3.alloc (.cells #[.int .i64 a, .int .i64 b, .int .i64 c, .int .i64 d] 72)) := B3.alloc B3.size _
              have B5 := B4.trans (hb5.mono B4.size)
              clear hb5 b4 B4 B3 b3
              obtain ⟨e0, e1, e2, e3⟩ := q5
              have l0 := cell_alloc e0 (.cells #[.int .i64 p, .int .i64 q, .int .i64 r, .int .i64 s] 72)
              have l1 := cell_alloc e1 (.cells #[.int .i64 p, .int .i64 q, .int .i64 r, .int .i64 s] 72)
              have l2 := cell_alloc e2 (.cells #[.int .i64 p, .int .i64 q, .int .i64 r, .int .i64 s] 72)
              have l3 := cell_alloc e3 (.cells #[.int .i64 p, .int .i64 q, .int .i64 r, .int .i64 s] 72)
              clear e0 e1 e2 e3
              have b6 : Below w.heap.size w (w5.alloc (.cells #[.int .i64 p, .int .i64 q, .int .i64 r, .int .i64 s] 72)) := b5.alloc b5.size _
              have B6 : Below w2.heap.size w2 (w5.alloc (.cells #[.int .i64 p, .int .i64 q, .int .i64 r, .int .i64 s] 72)) := B5.alloc B5.size _
              clear b5 B5
              go_wp2_with fail
              refine (implLess_any p q r s a b c d _).mono ?_
              rintro e w7 ⟨rfl, hb7⟩
              have b7 := b6.trans (hb7.mono b6.size)
              go_wp2_with fail
              go_ret
              exact ⟨by rw [HF.out, HO.out, PQ.out]; rfl, b7⟩
        · obtain rfl : k = 8 := by omega
          have HZ := Lib.hid (show pbet A B 8 0 = false by rw [HO.out]; rfl)
          go_wp2_with fail
          go_ret
          exact ⟨by rw [HF.out, HZ.out]; rfl, br⟩

end Go.Proofs.Ytcnlmgnfdplfeaa

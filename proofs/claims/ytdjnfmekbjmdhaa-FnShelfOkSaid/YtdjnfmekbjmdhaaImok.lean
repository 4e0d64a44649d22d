/- The contract of the program's own RangeOk over this seat's translation: it answers as the plain function spOk of the spans; nothing that was there before the call has changed. Condition: at most 1048576 spans. -/
import Derived.Test.YtdjnfmekbjmdhaaSpok
namespace Go.Proofs.Ytdjnfmekbjmdhaa
open Go.RowKit Go.Sort

/-- The least rank at which the next span may begin. -/
def lowOf : Option Int → Int
  | none => 0
  | some h => h + 2

theorem im_step {L : List (Int × Int)} {k : Nat} {x y : Int} (h : L[k]? = some (x, y)) (hp : ∀ p, prevOf L k = some p → 0 ≤ p ∧ p ≤ 9999999) :
    okFrom (prevOf L k) (L.drop k) = (decide (¬ (x < lowOf (prevOf L k) ∨ y < x ∨ 9999999 < y)) && okFrom (some y) (L.drop (k + 1))) := by
  rw [okFrom_step h, Bool.eq_iff_iff]
  rcases hq : prevOf L k with _ | p
  · simp only [Bool.and_eq_true, inB_iff]
    constructor
    · rintro ⟨h1, h2, _, h4⟩; exact ⟨decide_eq_true (by show ¬ (x < 0 ∨ _); omega), h4⟩
    · rintro ⟨h1, h4⟩
      have h1 : ¬ (x < 0 ∨ y < x ∨ 9999999 < y) := of_decide_eq_true h1
      exact ⟨by omega, by omega, trivial, h4⟩
  · have := hp p hq
    simp only [Bool.and_eq_true, inB_iff]
    constructor
    · rintro ⟨h1, h2, h3, h4⟩
      have h3 := of_decide_eq_true h3
      exact ⟨decide_eq_true (by show ¬ (x < p + 2 ∨ _); omega), h4⟩
    · rintro ⟨h1, h4⟩
      have h1 : ¬ (x < p + 2 ∨ y < x ∨ 9999999 < y) := of_decide_eq_true h1
      exact ⟨by omega, by omega, decide_eq_true (by omega), h4⟩

/-- What the loop of RangeOk keeps: what is left decides, and the span before lies below the greatest rank. -/
def ImRel (L : List (Int × Int)) (w : World) (v1 : Value) (lo i : Value) (wr : World) : Prop :=
  ∃ k : Nat, k ≤ L.length ∧ i = .int .i64 (k : Int) ∧ lo = .int .i64 (lowOf (prevOf L k)) ∧ okFrom none L = okFrom (prevOf L k) (L.drop k) ∧ (∀ p, prevOf L k = some p → 0 ≤ p ∧ p ≤ 9999999) ∧
    Below (w.heap.size + 1) (w.alloc (.cells #[v1] 95)) wr

theorem im_low {L : List (Int × Int)} {k : Nat} (hp : ∀ p, prevOf L k = some p → 0 ≤ p ∧ p ≤ 9999999) : 0 ≤ lowOf (prevOf L k) ∧ lowOf (prevOf L k) ≤ 10000001 := by
  rcases hq : prevOf L k with _ | p
  · simp [lowOf]
  · have := hp p hq
    simp only [lowOf]; omega

theorem im_push {L : List (Int × Int)} {w wr : World} {v1 : Value} {k : Nat} {x y : Int} (hL : L[k]? = some (x, y)) (ho : okFrom none L = okFrom (prevOf L k) (L.drop k)) (hp : ∀ p, prevOf L k = some p → 0 ≤ p ∧ p ≤ 9999999)
    (hgood : ¬ (x < lowOf (prevOf L k) ∨ y < x ∨ 9999999 < y)) (hb : Below (w.heap.size + 1) (w.alloc (.cells #[v1] 95)) wr) : ImRel L w v1 (.int .i64 (y + 2)) (.int .i64 ((k : Int) + 1)) wr := by
  have hk : k < L.length := (List.getElem?_eq_some_iff.1 hL).1
  have h0 := im_low hp
  have e : prevOf L (k + 1) = some y := by simp [prevOf, hL]
  refine ⟨k + 1, by omega, by go_num, by rw [e]; rfl, ?_, fun p hp' => ?_, hb⟩
  · rw [ho, im_step hL hp, decide_eq_true hgood, e]; rfl
  · rw [e] at hp'
    cases hp'
    omega

set_option maxHeartbeats 1000000 in
theorem implRangeOk_any (a : Option Addr) (cap : Nat) (L : List (Int × Int)) (w : World) (hl : L.length ≤ 1048576) (h : SpAt w w.heap.size (.slice a L.length cap) L) :
    Calls Try.prog 104 #[.agg #[.slice a L.length cap]] w fun e w' => e = .returned (.bool (spOk L)) ∧ Below w.heap.size w w' := by
  have HH := Lib.hid h
  clear h
  have hb0 := (Below.refl w.heap.size w).alloc (Nat.le_refl _) (.cells #[.slice a L.length cap] 95)
  have v0 : (w.alloc (.cells #[.slice a L.length cap] 95)).cell? ⟨w.heap.size, 0, none⟩ = some (.slice a L.length cap) := by go_simp
  by_cases h40 : L.length ≤ 40
  · go_enter Try.func104, Try.ntmps104
    go_wp2
    go_loopw [3, 13] (fun lo i wr => ImRel L w (.slice a L.length cap) lo i wr) (fun _ i _ => L.length - (intOf i).toNat)
    case atStart => exact ⟨0, Nat.zero_le _, rfl, rfl, rfl, fun p hp => (by cases hp), Below.refl _ _⟩
    case round =>
      obtain ⟨k, hk, rfl, rfl, ho, hp, hb⟩ := hrel
      have HO := Lib.hid ho
      have HPB := Lib.hid hp
      have lw := im_low hp
      clear ho hp
      have z1 := hb.size
      simp at z1
      by_cases hlt : k < L.length
      · obtain ⟨a1, cap1, e1, h1⟩ := HH.out
        simp only [Value.slice.injEq] at e1
        obtain ⟨rfl, _, rfl⟩ := e1
        rcases h1 with h1 | ⟨b, o, rfl, hB, hc⟩
        · subst h1
          exact absurd hlt (by simp)
        have hbw := (hb0.trans (hb.mono (Nat.le_succ _)))
        obtain ⟨x, y, hxy⟩ : ∃ x y, L[k] = (x, y) := ⟨_, _, rfl⟩
        have c := hc k hlt
        rw [hxy] at c
        have c0 := (hbw.cell (p := ⟨b, o + k * 2, none⟩) hB).trans c.1
        have c1 := (hbw.cell (p := ⟨b, o + k * 2 + 1, none⟩) hB).trans c.2
        have HX := Lib.hid (show L[k]? = some (x, y) by rw [List.getElem?_eq_getElem hlt, hxy])
        clear c hxy hc
        simp only at c0 c1
        have step := im_step HX.out HPB.out
        by_cases hgood : x < lowOf (prevOf L k) ∨ y < x ∨ 9999999 < y
        · have HF := Lib.hid (show spOk L = false by unfold spOk; rw [HO.out, step]; simp [hgood])
          clear step
          have fin := Lib.hid hbw
          rcases hgood with h1 | h2
          · go_wp2_with fail
            go_ret
            exact ⟨by rw [HF.out]; rfl, fin.out.alloc fin.out.size _⟩
          by_cases h1 : x < lowOf (prevOf L k)
          · go_wp2_with fail
            go_ret
            exact ⟨by rw [HF.out]; rfl, fin.out.alloc fin.out.size _⟩
          rcases h2 with h2 | h3
          · go_wp2_with fail
            go_ret
            exact ⟨by rw [HF.out]; rfl, fin.out.alloc fin.out.size _⟩
          by_cases h2 : y < x
          · go_wp2_with fail
            go_ret
            exact ⟨by rw [HF.out]; rfl, fin.out.alloc fin.out.size _⟩
          go_wp2_with fail
          go_ret
          exact ⟨by rw [HF.out]; rfl, fin.out.alloc fin.out.size _⟩
        · have HP := Lib.hid (im_push (v1 := .slice (some ⟨b, o, none⟩) L.length cap) HX.out HO.out HPB.out hgood (hb.alloc (by omega) (.cells #[.int .i64 x, .int .i64 y] 128)))
          clear step hb hbw
          have g1 : ¬ x < lowOf (prevOf L k) := fun h => hgood (.inl h)
          have g2 : ¬ y < x := fun h => hgood (.inr (.inl h))
          have g3 : ¬ 9999999 < y := fun h => hgood (.inr (.inr h))
          have g4 : 0 ≤ y := by omega
          clear hgood
          go_wp2_with fail
          go_roundw
          case rel => exact HP.out
          case measure => simp [intOf]; omega
      · obtain rfl : k = L.length := by omega
        have HF := Lib.hid (show spOk L = true by unfold spOk; rw [HO.out, List.drop_length]; simp [okFrom, h40])
        have hbw := (hb0.trans (hb.mono (Nat.le_succ _)))
        clear hb
        go_wp2_with fail
        go_ret
        exact ⟨by rw [HF.out]; rfl, hbw⟩
  · have HF := Lib.hid (show spOk L = false by unfold spOk; simp [h40])
    have i1 : ¬ (L.length : Int) ≤ 40 := by omega
    go_enter Try.func104, Try.ntmps104
    go_wp2_with fail
    go_ret
    exact ⟨by rw [HF.out]; rfl, hb0⟩

end Go.Proofs.Ytdjnfmekbjmdhaa

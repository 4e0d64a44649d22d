/- The contracts of the program's RangeNot, RangeAnd and RangeOr over this seat's translation: each answers as the plain functions of the spans tell. Nothing that was there before the call has changed. Condition: at most 1048576 spans. -/
import Derived.Test.YtdhbjjolgmodjaaImand
import Derived.Test.YtdhbjjolgmodjaaGd
import Derived.Test.YtdhbjjolgmodjaaGa
namespace Go.Proofs.Ytdhbjjolgmodjaa
open Go.RowKit Go.Sort

/-- A range and whether it could be told. -/
def TPost (ok : Bool) (L : List (Int × Int)) (w : World) (e : Ending) (w' : World) : Prop :=
  ∃ v, e = .returned (.tuple #[.agg #[v], .bool ok]) ∧ SRes L w.heap.size v w' ∧ Below w.heap.size w w'

set_option maxRecDepth 100000 in
theorem res_nil (B : Nat) (w : World) : SRes [] B (.slice none 0 0) w := ⟨none, 0, rfl, .inl rfl⟩

def fitOk (L : Sps) : Bool := decide (L.length ≤ 40)
def fitR (L : Sps) : Sps := if L.length ≤ 40 then L else []
def notOk (A : Sps) : Bool := spOk A && fitOk (notL A)
def notR (A : Sps) : Sps := if spOk A then fitR (notL A) else []
def andOk (A B : Sps) : Bool := (spOk A && spOk B) && fitOk (andI A B)
def andR (A B : Sps) : Sps := if spOk A && spOk B then fitR (andI A B) else []
def orOk (A B : Sps) : Bool := (spOk A && spOk B) && fitOk (orI A B)
def orR (A B : Sps) : Sps := if spOk A && spOk B then fitR (orI A B) else []

set_option maxRecDepth 100000 in
theorem andI_len (n : Nat) : ∀ {A B : Sps}, A.length + B.length ≤ n → (andI A B).length ≤ n := by
  induction n with
  | zero =>
    intro A B h
    obtain rfl : A = [] := List.eq_nil_of_length_eq_zero (by omega)
    rw [andI]; simp
  | succ n ih =>
    intro A B h
    match A, B, h with
    | [], _, _ => rw [andI]; simp
    | _ :: _, [], _ => rw [andI]; simp
    | (a, b) :: s, (c, d) :: t, h =>
      simp only [List.length_cons] at h
      have r1 := ih (A := s) (B := (c, d) :: t) (by simp only [List.length_cons]; omega)
      have r2 := ih (A := (a, b) :: s) (B := t) (by simp only [List.length_cons]; omega)
      rw [andI, List.length_append]
      have f : (if max a c ≤ min b d then [(max a c, min b d)] else []).length ≤ 1 := by split <;> simp
      have f2 : (if b < d then andI s ((c, d) :: t) else andI ((a, b) :: s) t).length ≤ n := by
        split
        · exact r1
        · exact r2
      omega

set_option maxRecDepth 100000 in
theorem fit_res {L : Sps} {B : Nat} {v : Value} {w : World} (h : SRes L B v w) : SRes (fitR L) B (if L.length ≤ 40 then v else .slice none 0 0) w := by
  unfold fitR
  split
  · exact h
  · exact res_nil _ _

set_option maxRecDepth 100000 in
set_option maxHeartbeats 400000 in
theorem rangeOfSpans_any (a : Option Addr) (n cap : Nat) (w : World) (hn : n ≤ 1099511627776) :
    Calls Try.prog 154 #[.slice a n cap] w fun e w' => e = .returned (.tuple #[.agg #[if n ≤ 40 then .slice a n cap else .slice none 0 0], .bool (decide (n ≤ 40))]) ∧ Below w.heap.size w w' := by
  by_cases h : n ≤ 40
  · rw [if_pos h, decide_eq_true h]
    go_enter Try.func154, Try.ntmps154
    go_wp2_with fail
    exact bodyPost_ret (v := .tuple #[.agg #[.slice a n cap], .bool true]) (by simp [results, Try.results154, go_sem]) rfl ⟨rfl, by go_grown⟩
  · have i1 : ¬ (n : Int) ≤ 40 := by omega
    rw [if_neg h, decide_eq_false h]
    go_enter Try.func154, Try.ntmps154
    go_wp2_with fail
    exact bodyPost_ret (v := .tuple #[.agg #[.slice none 0 0], .bool false]) (by simp [results, Try.results154, go_sem]) rfl ⟨rfl, by go_grown⟩

set_option maxRecDepth 100000 in
/-- Where the spans are told: the range of them, if there are not too many. -/
theorem rangeOfSpans_res (v : Value) (L : Sps) (B : Nat) (w : World) (hn : L.length ≤ 1099511627776) (h : SRes L B v w) :
    Calls Try.prog 154 #[v] w fun e w' => ∃ u, e = .returned (.tuple #[.agg #[u], .bool (fitOk L)]) ∧ SRes (fitR L) B u w' ∧ Below w.heap.size w w' := by
  have hf := fit_res h
  obtain ⟨a, cap, rfl, _⟩ := h
  refine (rangeOfSpans_any a L.length cap w hn).mono ?_
  rintro e w' ⟨rfl, hb⟩
  exact ⟨_, rfl, hf.below hb, hb⟩

set_option maxRecDepth 100000 in
set_option maxHeartbeats 1000000 in
theorem implNot_any (v : Value) (A : Sps) (w : World) (hl : A.length ≤ 1048576) (h : SpAt w w.heap.size v A) : Calls Try.prog 157 #[.agg #[v]] w (TPost (notOk A) (notR A) w) := by
  have hh := h
  obtain ⟨a, cap, rfl, _⟩ := hh
  have K := Lib.hid fun V (hV : SpAt V V.heap.size (.slice a A.length cap) A) => implRangeOk_any a cap A V hl hV
  have b0 := ((Below.refl w.heap.size w).alloc (Nat.le_refl _) (.cells #[.slice a A.length cap] 81)).alloc (by simp) (.cells #[.slice none 0 0] 81)
  have hB : w.heap.size + 2 ≤ ((w.alloc (.cells #[.slice a A.length cap] 81)).alloc (.cells #[.slice none 0 0] 81)).heap.size := by simp
  have hb := Below.refl (w.heap.size + 2) ((w.alloc (.cells #[.slice a A.length cap] 81)).alloc (.cells #[.slice none 0 0] 81))
  have hs := (h.below b0).mono b0.size
  rcases hk : spOk A
  · have HO := Lib.hid (show notOk A = false by simp [notOk, hk])
    have HR := Lib.hid (show notR A = [] by simp [notR, hk])
    rw [hk] at K
    clear hk h
    go_enter Try.func157, Try.ntmps157
    go_wp2_with fail
    refine (rel hB hb (K.out _ hs)).mono ?_
    clear hb hs
    rintro e w1 ⟨rfl, hb⟩
    obtain ⟨hc, hf⟩ := (show (∀ b o, b < w.heap.size + 2 → w1.cell? ⟨b, o, none⟩ = _) ∧ (∀ b o, b < w.heap.size + 2 → w1.frozen? ⟨b, o, none⟩ = _) from ⟨fun b o h => hb.cell (p := ⟨b, o, none⟩) h, fun b o h => hb.frozen (p := ⟨b, o, none⟩) h⟩)
    have b1 := b0.trans (hb.mono (by omega))
    clear hb b0
    go_wp2_with fail
    exact bodyPost_ret (v := .tuple #[.agg #[.slice none 0 0], .bool false]) (by simp [results, Try.results157, go_sem, hc]) rfl ⟨_, by rw [HO.out], by rw [HR.out]; exact res_nil _ _, by go_grown⟩
  · have hw := (spOk_iff.1 hk).1
    have hlen : (notL A).length ≤ 41 := Nat.le_trans notFrom_len (by have := (spOk_iff.1 hk).2; omega)
    have HO := Lib.hid (show notOk A = fitOk (notL A) by simp [notOk, hk])
    have HR := Lib.hid (show notR A = fitR (notL A) by simp [notR, hk])
    rw [hk] at K
    clear hk
    go_enter Try.func157, Try.ntmps157
    go_wp2_with fail
    refine (rel hB hb (K.out _ hs)).mono ?_
    clear hb hs
    rintro e w1 ⟨rfl, hb⟩
    have hc := cells_of hb
    have z1 : w.heap.size + 2 ≤ w1.heap.size := by have := hb.size; simp at this; omega
    have b1 := b0.trans (hb.mono (by omega))
    go_wp2_with fail
    refine (spansNot_any _ A w1 hl hw ((h.below b1).mono b1.size)).mono ?_
    rintro e w2 ⟨v2, rfl, r2, hb2⟩
    have b2 := b1.trans (hb2.mono b1.size)
    have hbb := hb.trans (hb2.mono (by have := hb.size; simp at this; omega))
    clear hb hc
    go_wp2_with fail
    refine (rangeOfSpans_res _ _ _ w2 (by omega) r2).mono ?_
    rintro e w3 ⟨v3, rfl, r3, hb3⟩
    have b3 := b2.trans (hb3.mono b2.size)
    have hb := hbb.trans (hb3.mono (by have := hbb.size; simp at this; omega))
    obtain ⟨hc, hf⟩ := (show (∀ b o, b < w.heap.size + 2 → w3.cell? ⟨b, o, none⟩ = _) ∧ (∀ b o, b < w.heap.size + 2 → w3.frozen? ⟨b, o, none⟩ = _) from ⟨fun b o h => hb.cell (p := ⟨b, o, none⟩) h, fun b o h => hb.frozen (p := ⟨b, o, none⟩) h⟩)
    have r4 : SRes (fitR (notL A)) w.heap.size v3 (w3.setCell ⟨w.heap.size + 1, 0, none⟩ v3) := (r3.kept fun g hg _ => Below.heap_setCell _ _ _ _ (by show g ≠ w.heap.size + 1; omega)).mono (by have := b1.size; omega)
    clear hbb hb2 hb3 r2 r3 b2 b1 hb
    obtain ⟨a3, cap3, rfl, _⟩ := id r4
    go_wp2_with fail
    exact bodyPost_ret (v := .tuple #[.agg #[.slice a3 (fitR (notL A)).length cap3], .bool (fitOk (notL A))]) (by simp [results, Try.results157, go_sem, hc]) rfl ⟨_, by rw [HO.out], by rw [HR.out]; exact r4, by go_grown⟩

end Go.Proofs.Ytdhbjjolgmodjaa

/- Contracts of the model's l4Held, l4Met and ChoiceFault, over this seat's translation, as plain functions tell them; nothing that was there before a call has changed. Condition: at most 1048576 of each row and of what is in it. -/
import Derived.BigFrame
import Derived.Deep.RegionWith
import Derived.Test.YtgjmgclgokgobaaGi
import Derived.Test.YtgjmgclgokgobaaCps
namespace Go.Proofs.Ytgjmgclgokgobaa
open Go.RowKit Go.Sort

namespace Cfa
open Foot Copy Nup Cpu Pkf
theorem pickE_alike (n a b c d : Int) (V : World) : (binOp .eql 146 (pick n a b c d) (pick n a b c d)).run Try.prog V = .ok (.bool true) V := by
  go_simp
theorem pickE_differ {n a b c d m p q r s : Int} (h : ¬ (n = m ∧ a = p ∧ b = q ∧ c = r ∧ d = s)) (V : World) : (binOp .eql 146 (pick n a b c d) (pick m p q r s)).run Try.prog V = .ok (.bool false) V := by
  by_cases h0 : n = m
  · by_cases h1 : a = p
    · by_cases h2 : b = q
      · by_cases h3 : c = r
        · have b4 : (d == s) = false := by rw [beq_eq_false_iff_ne]; exact fun e => h ⟨h0, h1, h2, h3, e⟩
          subst h0; subst h1; subst h2; subst h3
          go_simp
        · have b3 : (c == r) = false := by rw [beq_eq_false_iff_ne]; exact h3
          subst h0; subst h1; subst h2
          go_simp
      · have b2 : (b == q) = false := by rw [beq_eq_false_iff_ne]; exact h2
        subst h0; subst h1
        go_simp
    · have b1 : (a == p) = false := by rw [beq_eq_false_iff_ne]; exact h1
      subst h0
      go_simp
  · have b0 : (n == m) = false := by rw [beq_eq_false_iff_ne]; exact h0
    go_simp
theorem held_any : ∀ {D : List Pk} {lo : Int} {x : Pk}, pkFrom lo D = true → D.any (fun q => decide (q = x)) = decide (pkGet x.1 D = some x.2)
  | [], _, _, _ => by simp [pkGet]
  | y :: t, lo, x, h => by
    simp only [pkFrom, Bool.and_eq_true, decide_eq_true_eq] at h
    rw [List.any_cons]
    unfold pkGet
    by_cases e : y.1 = x.1
    · rw [if_pos e]
      have hn : t.any (fun q => decide (q = x)) = false := by
        rw [← Bool.not_eq_true]
        intro hh
        rw [List.any_eq_true] at hh
        obtain ⟨q, hq, hqe⟩ := hh
        have hqe' := of_decide_eq_true hqe
        subst hqe'
        have := from_low h.2.2 q hq
        omega
      rw [hn, Bool.or_false]
      by_cases e2 : y = x
      · subst e2
        simp
      · have : ¬ some y.2 = some x.2 := fun hh => e2 (by injection hh with hh; exact Prod.ext e hh)
        rw [decide_eq_false e2, decide_eq_false this]
    · rw [if_neg e, decide_eq_false (fun hh => e (by rw [hh])), Bool.false_or, held_any h.2.2]


end Cfa
end Go.Proofs.Ytgjmgclgokgobaa

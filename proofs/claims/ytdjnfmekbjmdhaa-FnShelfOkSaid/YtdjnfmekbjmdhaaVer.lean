/- Contracts of the functions on versions and ranks that compute with numbers alone, over this seat's translation: each call ends as a plain function of the numbers says, and nothing that was there before the call has changed. -/
import Derived.Test.YtdjnfmekbjmdhaaRows
import Derived.WalkKit
import Derived.WalkSpells
import Derived.WalkLawsBesides
import Derived.ProofKit
import Derived.Lib.QuietBelow
import Derived.BigQuiet
import Derived.Lib.Hide
namespace Go.Proofs.Ytdjnfmekbjmdhaa
open Go.RowKit Go.Sort

def inB (n lo hi : Int) : Bool := decide (lo ≤ n) && decide (n ≤ hi)
def vOk (a b c d : Int) : Bool := inB a 0 99 && (inB b 0 99 && (inB c 0 99 && inB d 0 9))
theorem inB_iff {n lo hi : Int} : inB n lo hi = true ↔ lo ≤ n ∧ n ≤ hi := by simp [inB]
theorem vOk_iff {a b c d : Int} : vOk a b c d = true ↔ (0 ≤ a ∧ a ≤ 99) ∧ (0 ≤ b ∧ b ≤ 99) ∧ (0 ≤ c ∧ c ≤ 99) ∧ 0 ≤ d ∧ d ≤ 9 := by
  simp [vOk, inB_iff]
def rk (a b c d : Int) : Int := ((a * 100 + b) * 100 + c) * 10 + (d + 9) % 10
def vRank (a b c d : Int) : Int := if vOk a b c d = true then rk a b c d else -1
/-- A version as the machine holds it by value. -/
abbrev ver (a b c d : Int) : Value := .agg #[.int .i64 a, .int .i64 b, .int .i64 c, .int .i64 d]

set_option maxHeartbeats 400000 in
theorem l1In_any (n lo hi : Int) (w : World) :
    Calls Try.prog 80 #[.int .i64 n, .int .i64 lo, .int .i64 hi] w fun e w' => e = .returned (.bool (inB n lo hi)) ∧ w = w' := by
  unfold inB
  by_cases h1 : lo ≤ n <;> by_cases h2 : n ≤ hi
  all_goals
    go_enter Try.func80, Try.ntmps80
    go_wp2
    go_ret
    exact ⟨by simp [h1, h2], rfl⟩

set_option maxHeartbeats 400000 in
theorem numberOk_any (n : Int) (w : World) :
    Calls Try.prog 107 #[.int .i64 n] w fun e w' => e = .returned (.bool (inB n 0 99)) ∧ w = w' := by
  unfold inB
  by_cases h1 : 0 ≤ n <;> by_cases h2 : n ≤ 99
  all_goals
    go_enter Try.func107, Try.ntmps107
    go_wp2
    go_ret
    exact ⟨by simp [h1, h2], rfl⟩

set_option maxHeartbeats 400000 in
theorem specOk_any (a b c d : Int) (w : World) :
    Calls Try.prog 81 #[ver a b c d] w fun e w' => e = .returned (.bool (vOk a b c d)) ∧ Below w.heap.size w w' := by
  unfold vOk
  have fin : ∀ o, Below w.heap.size w (w.alloc o) := fun o => (Below.refl _ _).alloc (Nat.le_refl _) o
  rcases ha : inB a 0 99 <;> rcases hb : inB b 0 99 <;> rcases hc : inB c 0 99 <;> rcases hd : inB d 0 9
  all_goals
    go_enter Try.func81, Try.ntmps81
    go_wp2_with (go_at_call 80; refine (l1In_any _ _ _ _).mono ?_; rintro e w' ⟨rfl, rfl⟩)
    go_ret
    exact ⟨by simp, fin _⟩

set_option maxHeartbeats 400000 in
theorem implOk_any (a b c d : Int) (w : World) :
    Calls Try.prog 83 #[ver a b c d] w fun e w' => e = .returned (.bool (vOk a b c d)) ∧ Below w.heap.size w w' := by
  unfold vOk
  have fin : ∀ o, Below w.heap.size w (w.alloc o) := fun o => (Below.refl _ _).alloc (Nat.le_refl _) o
  have hd : inB d 0 9 = (decide (0 ≤ d) && decide (d ≤ 9)) := rfl
  rw [hd]
  clear hd
  rcases ha : inB a 0 99 <;> rcases hb : inB b 0 99 <;> rcases hc : inB c 0 99 <;> by_cases h1 : 0 ≤ d <;> by_cases h2 : d ≤ 9
  all_goals first
   | (exfalso; omega)
   | skip
  all_goals
    go_enter Try.func83, Try.ntmps83
    go_wp2_with (go_at_call 107; refine (numberOk_any _ _).mono ?_; rintro e w' ⟨rfl, rfl⟩)
    go_ret
    exact ⟨by simp [h1, h2], fin _⟩

/-- What the walk needs of a world that a callee has left: all old cells read as before. -/
theorem old_cells {W w1 : World} (hb : Below W.heap.size W w1) : ∀ b o, b < W.heap.size → w1.cell? ⟨b, o, none⟩ = W.cell? ⟨b, o, none⟩ :=
  fun b o h => hb.cell (p := ⟨b, o, none⟩) h

set_option maxHeartbeats 400000 in
theorem specRank_any (a b c d : Int) (w : World) :
    Calls Try.prog 95 #[ver a b c d] w fun e w' => e = .returned (.int .i64 (vRank a b c d)) ∧ Below w.heap.size w w' := by
  rcases hk : vOk a b c d
  · have H := Lib.hid (show vRank a b c d = -1 by simp [vRank, hk])
    go_enter Try.func95, Try.ntmps95
    go_wp2_with (go_at_call 81; refine (specOk_any _ _ _ _ _).mono ?_; rintro e w' ⟨rfl, hb⟩)
    go_ret
    exact ⟨by rw [H.out]; rfl, ((Below.refl _ _).alloc (Nat.le_refl _) _).trans (hb.mono (by simp))⟩
  · have hR := vOk_iff.1 hk
    obtain ⟨⟨a0, a1⟩, ⟨b0, b1⟩, ⟨c0, c1⟩, d0, d1⟩ := hR
    have H := Lib.hid (show vRank a b c d = rk a b c d by simp [vRank, hk])
    go_enter Try.func95, Try.ntmps95
    go_wp2_with (go_at_call 81; refine (specOk_any _ _ _ _ _).mono ?_; rintro e w' ⟨rfl, hb⟩; have hc := old_cells hb)
    go_ret
    exact ⟨by rw [H.out]; rfl, ((Below.refl _ _).alloc (Nat.le_refl _) _).trans (hb.mono (by simp))⟩

end Go.Proofs.Ytdjnfmekbjmdhaa

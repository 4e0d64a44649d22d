/- A row of needs of one's own, all of whose blocks are different and lie between two numbers, over this seat's translation: what marking it does, and that the marks are held then. Condition: at most 1048576 needs, and spans of all of them. -/
import Derived.Test.YtgnjhmmedogcoaaGn
namespace Go.Proofs.Ytgnjhmmedogcoaa
open Go.RowKit Go.Sort

namespace Foot
def NdB (M : List Nd) (lo hi : Nat) (v : Value) (w : World) : Prop := ∃ F, NdF w v M F ∧ F.Nodup ∧ ∀ b ∈ F, lo ≤ b ∧ b < hi
theorem NdB.below {M : List Nd} {lo hi : Nat} {v : Value} {w w' : World} (h : NdB M lo hi v w) (hb : Below w.heap.size w w') : NdB M lo hi v w' := by
  obtain ⟨F, h1, hn, h2⟩ := h
  exact ⟨F, h1.kept fun b k => hb.block b (h1.lt b k), hn, h2⟩
theorem NdB.out {M : List Nd} {lo hi lo' hi' : Nat} {v : Value} {w w' : World} (h : NdB M lo hi v w) (ho : Out lo' hi' w w') (hd : hi ≤ lo' ∨ hi' ≤ lo) : NdB M lo hi v w' := by
  obtain ⟨F, h1, hn, h2⟩ := h
  exact ⟨F, h1.kept fun b k => ho.block b (h1.lt b k) (by have := h2 b k; omega), hn, h2⟩
theorem NdB.mono {M : List Nd} {lo lo' hi : Nat} {v : Value} {w : World} (h : NdB M lo hi v w) (hl : lo' ≤ lo) : NdB M lo' hi v w := by
  obtain ⟨F, h1, hn, h2⟩ := h
  exact ⟨F, h1, hn, fun b k => ⟨Nat.le_trans hl (h2 b k).1, (h2 b k).2⟩⟩
theorem NdB.at {M : List Nd} {lo hi : Nat} {v : Value} {w : World} (h : NdB M lo hi v w) : NdAt w w.heap.size v M := by
  obtain ⟨F, h1, _⟩ := h
  exact h1.at
theorem NdB.shape {M : List Nd} {lo hi : Nat} {v : Value} {w : World} (h : NdB M lo hi v w) : ∃ a cap, v = .slice a M.length cap := by
  obtain ⟨F, ⟨a, cap, e, _⟩, _⟩ := h
  exact ⟨a, cap, e⟩
theorem NdB.of {M : List Nd} {B : Nat} {v : Value} {w : World} {fs : List (List Nat)} (h : NGrow w B v M fs) : NdB M B w.heap.size v w := by
  obtain ⟨F, h1, h2, h3⟩ := h.foot
  exact ⟨F, h1, h2, fun b k => ⟨h3 b k, h1.lt b k⟩⟩
theorem nd_ones : ∀ {M : List Nd}, (∀ q ∈ M, q.2.length = 1) → ndSz M ≤ M.length
  | [], _ => by simp [ndSz]
  | x :: t, h => by
    have h1 := nd_ones (M := t) fun q hq => h q (List.mem_cons_of_mem _ hq)
    have h2 := h x (List.mem_cons_self ..)
    simp only [ndSz, List.length_cons]
    omega
theorem markNdB {M : List Nd} {lo hi : Nat} {u : Value} {w : World} (hl : M.length ≤ 1048576) (hsz : ndSz M ≤ 1048576) (h : NdB M lo hi u w) (k : Int) (hk0 : 0 ≤ k) (hk1 : k ≤ 500000000) :
    Calls Try.prog 20 #[u, .int .i64 k] w fun e w' => e = .returned (.int .i64 (nmkE k M)) ∧ NdB (nmk k M) lo hi u w' ∧ Out lo hi w w' := by
  obtain ⟨F, h1, hn, h2⟩ := h
  refine (markNdF hl hsz h1 hn k hk0 hk1).mono ?_
  rintro e w' ⟨rfl, h3, h4⟩
  exact ⟨rfl, ⟨F, h3, hn, h2⟩, h4.out h2⟩
theorem heldNdB {M : List Nd} {lo hi : Nat} {u : Value} {w : World} (hl : M.length ≤ 1048576) (hsz : ndSz M ≤ 1048576) (k : Int) (hk0 : 0 ≤ k) (hk1 : k ≤ 500000000) (h : NdB (nmk k M) lo hi u w) :
    Calls Try.prog 32 #[u, .int .i64 k] w fun e w' => e = .returned (.int .i64 (nmkE k M)) ∧ Below w.heap.size w w' := by
  have hat := h.at
  obtain ⟨a, cap, rfl⟩ := h.shape
  rw [nmk_len] at hat ⊢
  refine (heldNeedS_any a cap M k w _ hl hsz hk0 hk1 hat).mono ?_
  rintro e w' ⟨rfl, rfl⟩
  exact ⟨rfl, Below.refl _ _⟩
end Foot
end Go.Proofs.Ytgnjhmmedogcoaa

/- Contracts of the model's l6Terms, and of its ClashOf for what is no shelf, are no needs, or is no step of a known kind, over this seat's translation. Nothing that was there before a call has changed. Condition: at most 1048576 releases, needs, and spans of each. -/
import Derived.Test.YtdhbjjolgmodjaaCuh
import Derived.Test.YtdhbjjolgmodjaaGd
namespace Go.Proofs.Ytdhbjjolgmodjaa
open Go.RowKit Go.Sort

namespace Tmc
open Foot
set_option maxRecDepth 100000 in
set_option maxHeartbeats 1000000 in
/-- Two terms in the order of their names. -/
theorem l6Terms_any (x y : Int) (f g : Bool) (L M : Sps) (u v : Value) (F G : List Nat) (B : Nat) (w : World) (hF : SpF w u L F) (hG : SpF w v M G) (hlo : ∀ b ∈ F, B ≤ b) (hlo2 : ∀ b ∈ G, B ≤ b) (hd : ∀ b ∈ F, b ∉ G) (hB : B ≤ w.heap.size) :
    Calls Try.prog 69 #[term x u f, term y v g] w fun e w' => ∃ r, e = .returned r ∧ TmB (twoL (x, L, f) (y, M, g)) B w'.heap.size r w' ∧ Below w.heap.size w w' := by
  obtain ⟨a, c, rfl, hx⟩ := id hF
  clear hx
  obtain ⟨a2, c2, rfl, hx⟩ := id hG
  clear hx
  obtain ⟨V, hV⟩ : ∃ V : World, V = (w.alloc (.cells #[.int .i64 x, .slice a L.length c, .bool f] 83)).alloc (.cells #[.int .i64 y, .slice a2 M.length c2, .bool g] 83) := ⟨_, rfl⟩
  have b1 : Below w.heap.size w V := by rw [hV]; exact ((Below.refl _ _).alloc (Nat.le_refl _) _).alloc (by simp) _
  have zV : V.heap.size = w.heap.size + 2 := by rw [hV]; simp
  have hF1 := hF.kept fun b hb => b1.block b (hF.lt b hb)
  have hG1 := hG.kept fun b hb => b1.block b (hG.lt b hb)
  have HB := Lib.hid b1
  by_cases h : y < x
  · have HT := Lib.hid (made_two (x := y) (y := x) (f := g) (g := f) (cap := 2) hG1 hF1 hlo2 hlo (fun b h1 h2 => hd b h2 h1) (by omega))
    have HU := Lib.hid (show twoL (x, L, f) (y, M, g) = [(y, M, g), (x, L, f)] from if_pos h)
    clear hF hG hF1 hG1 b1
    go_enter Try.func69, Try.ntmps69
    go_wp2_with fail
    rw [← hV]
    go_ret
    refine ⟨_, rfl, ?_, ?_⟩
    · rw [HU.out]
      have e : ∀ ob : Obj, (V.alloc ob).heap.size = V.heap.size + 1 := fun ob => by simp
      rw [e]
      have := HT.out
      rw [zV] at this ⊢
      exact this
    · exact HB.out.alloc HB.out.size _
  · have HT := Lib.hid (made_two (x := x) (y := y) (f := f) (g := g) (cap := 2) hF1 hG1 hlo hlo2 hd (by omega))
    have HU := Lib.hid (show twoL (x, L, f) (y, M, g) = [(x, L, f), (y, M, g)] from if_neg h)
    have h' : x ≤ y := by omega
    clear hF hG hF1 hG1 b1
    go_enter Try.func69, Try.ntmps69
    go_wp2_with fail
    rw [← hV]
    go_ret
    refine ⟨_, rfl, ?_, ?_⟩
    · rw [HU.out]
      have e : ∀ ob : Obj, (V.alloc ob).heap.size = V.heap.size + 1 := fun ob => by simp
      rw [e]
      have := HT.out
      rw [zV] at this ⊢
      exact this
    · exact HB.out.alloc HB.out.size _
end Tmc
end Go.Proofs.Ytdhbjjolgmodjaa

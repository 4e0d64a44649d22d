/- The contract of the model's l20Open over this seat's translation: it lays a new reader over the code's first 2000 bytes; nothing that was there has changed. Condition: the code is readable. -/
import Derived.Test.YtdjnfmekbjmdhaaDver
namespace Go.Proofs.Ytdjnfmekbjmdhaa
open Go.RowKit Go.Sort

def OpenPost (w : World) (e : Ending) (w' : World) : Prop :=
  e = .returned (.pointer (some ⟨w.heap.size, 0, none⟩)) ∧ RdAt w' w.heap.size 0 ∧ Below w.heap.size w w'

/-- A code that came in: nothing, or a row of bytes. -/
def CodeIn (w : World) (a : Option Addr) (len cap : Nat) : Prop := CodeAt w w.heap.size a len ∧ len ≤ cap ∧ cap ≤ maxLen

theorem rdAt_new {w : World} {a : Option Addr} {len cap : Nat} (hl : len ≤ 2000) (hc : CodeAt w w.heap.size a len) :
    RdAt (w.alloc (.cells #[.slice a len cap, .int .i64 0] 135)) w.heap.size 0 :=
  ⟨a, len, cap, hl, codeAt_kept hc (World.grownBy_alloc w _ none) (fun k h => by cases h), heap_alloc_new w _⟩

theorem codeAt_less {w : World} {B : Nat} {a : Option Addr} {len len' : Nat} (h : CodeAt w B a len) (hl : len' ≤ len) : CodeAt w B a len' := by
  rcases h with h | ⟨b, o, rfl, hb, hc⟩
  · exact .inl (by omega)
  · exact .inr ⟨b, o, rfl, hb, fun i hi => hc i (by omega)⟩

set_option maxHeartbeats 1000000 in
theorem open_any (a : Option Addr) (len cap : Nat) (w : World) (h : CodeIn w a len cap) : Calls Try.prog 91 #[.slice a len cap] w (OpenPost w) := by
  obtain ⟨hc, hlc, hcm⟩ := h
  unfold maxLen at hcm
  by_cases hl : len ≤ 2000
  · have HN := Lib.hid (rdAt_new (cap := cap) hl hc)
    clear hc
    go_enter Try.func91, Try.ntmps91
    go_wp2
    go_ret
    exact ⟨rfl, HN.out, (Below.refl _ _).alloc (Nat.le_refl _) _⟩
  · rcases hc with hc | hc
    · omega
    have hc' : CodeAt w w.heap.size a len := .inr hc
    obtain ⟨b, o, rfl, hb, _⟩ := hc
    have HN := Lib.hid (rdAt_new (cap := cap) (Nat.le_refl 2000) (codeAt_less hc' (by omega : 2000 ≤ len)))
    clear hc'
    go_enter Try.func91, Try.ntmps91
    go_wp2
    go_ret
    exact ⟨rfl, HN.out, (Below.refl _ _).alloc (Nat.le_refl _) _⟩

end Go.Proofs.Ytdjnfmekbjmdhaa

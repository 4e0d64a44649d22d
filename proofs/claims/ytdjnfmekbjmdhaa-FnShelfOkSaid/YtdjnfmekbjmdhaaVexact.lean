/- A version that comes in by value is four whole numbers; the laws copy it and compare it field by field; nothing that was there before such a call has changed. -/
import Derived.Test.YtdjnfmekbjmdhaaOpenVer
import Derived.Test.YtdjnfmekbjmdhaaVeq
namespace Go.Proofs.Ytdjnfmekbjmdhaa
open Go.ChangeShapes Go.WideShapes Go.ChangeAt Go.RowKit Go.Joins

theorem lawVer_cells : Try.prog.cellsOf 24 = 4 := by kernel_rfl

set_option maxRecDepth 100000 in
theorem open_ver {H : Type} {enc : TypeId × Value → H} {w : World} {base b0 : Nat} {spare : Nat → Bool} {held : Bool} {v : Value} {d : DataW H} {p : List MemPlace}
    (hv : Value.okWide Try.prog w .any b0 24 v) (h : DataW.Trod enc Try.prog w base spare held 24 v d p) : ∃ a b c e : Int, v = ver a b c e := by
  obtain ⟨c0, c1, c2, c3, y0, y1, y2, y3, m, rfl, _, _, h0, h1, h2, h3⟩ := open_agg4 Try.underlying24 (by kernel_rfl) lawVer_cells hv h
  obtain ⟨a, e0, _, _⟩ := DataW.trod_int Try.underlying3 h0
  obtain ⟨b, e1, _, _⟩ := DataW.trod_int Try.underlying3 h1
  obtain ⟨c, e2, _, _⟩ := DataW.trod_int Try.underlying3 h2
  obtain ⟨e, e3, _, _⟩ := DataW.trod_int Try.underlying3 h3
  simp at e0 e1 e2 e3
  subst e0; subst e1; subst e2; subst e3
  exact ⟨a, b, c, e, rfl⟩

set_option maxHeartbeats 400000 in
theorem toVersion_any (a b c d : Int) (w : World) :
    Calls Try.prog 18 #[ver a b c d] w fun e w' => e = .returned (ver a b c d) ∧ Below w.heap.size w w' := by
  go_enter Try.func18, Try.ntmps18
  go_wp2
  exact bodyPost_ret (v := ver a b c d) (by simp [results, Try.results18, go_sem]) rfl ⟨rfl, (((Below.refl _ _).alloc (Nat.le_refl _) _).alloc (by simp) _).alloc (by simp; omega) _⟩

def vEq (a b c d a' b' c' d' : Int) : Bool := decide (a = a') && (decide (b = b') && (decide (c = c') && decide (d = d')))

set_option maxHeartbeats 400000 in
theorem eqVersion_any (a b c d a' b' c' d' : Int) (w : World) :
    Calls Try.prog 47 #[ver a b c d, ver a' b' c' d'] w fun e w' => e = .returned (.bool (vEq a b c d a' b' c' d')) ∧ Below w.heap.size w w' := by
  unfold vEq
  have fin : ∀ o p, Below w.heap.size w ((w.alloc o).alloc p) := fun o p => ((Below.refl _ _).alloc (Nat.le_refl _) o).alloc (by simp) p
  by_cases h1 : a = a'
  · by_cases h2 : b = b'
    · by_cases h3 : c = c'
      · by_cases h4 : d = d'
        · subst h1; subst h2; subst h3; subst h4
          go_enter Try.func47, Try.ntmps47
          go_wp2
          go_ret
          exact ⟨by simp, fin _ _⟩
        · subst h1; subst h2; subst h3
          go_enter Try.func47, Try.ntmps47
          go_wp2
          go_ret
          exact ⟨by simp [h4], fin _ _⟩
      · subst h1; subst h2
        go_enter Try.func47, Try.ntmps47
        go_wp2
        go_ret
        exact ⟨by simp [h3], fin _ _⟩
    · subst h1
      go_enter Try.func47, Try.ntmps47
      go_wp2
      go_ret
      exact ⟨by simp [h2], fin _ _⟩
  · go_enter Try.func47, Try.ntmps47
    go_wp2
    go_ret
    exact ⟨by simp [h1], fin _ _⟩

end Go.Proofs.Ytdjnfmekbjmdhaa

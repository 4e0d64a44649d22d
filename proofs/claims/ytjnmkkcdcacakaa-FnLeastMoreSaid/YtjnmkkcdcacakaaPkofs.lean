/- Contracts of PickOf and ChoiceBetter, the program's and the model's, over this seat's translation: all answer as plain functions of the picks; nothing that was there before the call has changed. Condition: at most 1048576 picks. -/
import Derived.Test.YtjnmkkcdcacakaaPkof
import Derived.Test.YtjnmkkcdcacakaaGa
namespace Go.Proofs.Ytjnmkkcdcacakaa
open Go.RowKit Go.Sort

/-- A block with four cells that can be written. -/
def VC (W : World) (p : Nat) : Prop :=
  ∃ x0 x1 x2 x3, W.cell? ⟨p, 0, none⟩ = some x0 ∧ W.cell? ⟨p, 1, none⟩ = some x1 ∧ W.cell? ⟨p, 2, none⟩ = some x2 ∧ W.cell? ⟨p, 3, none⟩ = some x3 ∧ W.frozen? ⟨p, 0, none⟩ = false ∧ W.frozen? ⟨p, 1, none⟩ = false ∧ W.frozen? ⟨p, 2, none⟩ = false ∧ W.frozen? ⟨p, 3, none⟩ = false
theorem VC.below {W V : World} {B p : Nat} (h : VC W p) (hb : Below B W V) (hp : p < B) : VC V p := by
  obtain ⟨x0, x1, x2, x3, h0, h1, h2, h3, f0, f1, f2, f3⟩ := h
  exact ⟨x0, x1, x2, x3, (hb.cell (p := ⟨p, 0, none⟩) hp).trans h0, (hb.cell (p := ⟨p, 1, none⟩) hp).trans h1, (hb.cell (p := ⟨p, 2, none⟩) hp).trans h2, (hb.cell (p := ⟨p, 3, none⟩) hp).trans h3,
    (hb.frozen (p := ⟨p, 0, none⟩) hp).trans f0, (hb.frozen (p := ⟨p, 1, none⟩) hp).trans f1, (hb.frozen (p := ⟨p, 2, none⟩) hp).trans f2, (hb.frozen (p := ⟨p, 3, none⟩) hp).trans f3⟩
theorem VC.new (w : World) : VC (w.alloc (.cells #[.int .i64 0, .int .i64 0, .int .i64 0, .int .i64 0] 69)) w.heap.size := by
  refine ⟨.int .i64 0, .int .i64 0, .int .i64 0, .int .i64 0, ?_, ?_, ?_, ?_, ?_, ?_, ?_, ?_⟩ <;> go_simp
/-- What stands there once four numbers were written. -/
theorem VC.stored {W : World} {p : Nat} (h : VC W p) (a b c d : Value) :
    ((((W.setCell ⟨p, 0, none⟩ a).setCell ⟨p, 1, none⟩ b).setCell ⟨p, 2, none⟩ c).setCell ⟨p, 3, none⟩ d).cell? ⟨p, 0, none⟩ = some a ∧ ((((W.setCell ⟨p, 0, none⟩ a).setCell ⟨p, 1, none⟩ b).setCell ⟨p, 2, none⟩ c).setCell ⟨p, 3, none⟩ d).cell? ⟨p, 1, none⟩ = some b ∧
    ((((W.setCell ⟨p, 0, none⟩ a).setCell ⟨p, 1, none⟩ b).setCell ⟨p, 2, none⟩ c).setCell ⟨p, 3, none⟩ d).cell? ⟨p, 2, none⟩ = some c ∧ ((((W.setCell ⟨p, 0, none⟩ a).setCell ⟨p, 1, none⟩ b).setCell ⟨p, 2, none⟩ c).setCell ⟨p, 3, none⟩ d).cell? ⟨p, 3, none⟩ = some d := by
  obtain ⟨x0, x1, x2, x3, h0, h1, h2, h3, _⟩ := h
  exact ver_stored h0 h1 h2 h3 a b c d
theorem _root_.Go.RowKit.Below.stored {W V : World} {p : Nat} (h : Below W.heap.size W V) (hp : W.heap.size ≤ p) (a b c d : Value) : Below W.heap.size W ((((V.setCell ⟨p, 0, none⟩ a).setCell ⟨p, 1, none⟩ b).setCell ⟨p, 2, none⟩ c).setCell ⟨p, 3, none⟩ d) :=
  (((h.setCell (p := ⟨p, 0, none⟩) hp a).setCell (p := ⟨p, 1, none⟩) hp b).setCell (p := ⟨p, 2, none⟩) hp c).setCell (p := ⟨p, 3, none⟩) hp d

theorem verN_alike (a b c d : Int) (V : World) : (binOp .neq 69 (ver a b c d) (ver a b c d)).run Try.prog V = .ok (.bool false) V := by
  go_simp
theorem verN_differ {a b c d p q r s : Int} (h : ¬ (a = p ∧ b = q ∧ c = r ∧ d = s)) (V : World) : (binOp .neq 69 (ver a b c d) (ver p q r s)).run Try.prog V = .ok (.bool true) V := by
  by_cases h1 : a = p
  · by_cases h2 : b = q
    · by_cases h3 : c = r
      · have b4 : (d == s) = false := by rw [beq_eq_false_iff_ne]; exact fun e => h ⟨h1, h2, h3, e⟩
        subst h1; subst h2; subst h3
        go_simp
      · have b3 : (c == r) = false := by rw [beq_eq_false_iff_ne]; exact h3
        subst h1; subst h2
        go_simp
    · have b2 : (b == q) = false := by rw [beq_eq_false_iff_ne]; exact h2
      subst h1
      go_simp
  · have b1 : (a == p) = false := by rw [beq_eq_false_iff_ne]; exact h1
    go_simp

set_option maxRecDepth 100000 in
set_option maxHeartbeats 4000000 in
theorem implPickOf_any (u : Value) (M : List Pk) (n : Int) (w : World) (hl : M.length ≤ 1048576) (h : PkAt w w.heap.size u M) :
    Calls Try.prog 49 #[u, .int .i64 n] w fun e w' => e = .returned (got (pkOf M n)) ∧ Below w.heap.size w w' := by
  obtain ⟨a, cap, rfl, hx⟩ := id h
  have H := Lib.hid h
  clear h hx
  have KO : Hid (∀ V, PkAt V V.heap.size (.slice a M.length cap) M → Calls Try.prog 50 #[.slice a M.length cap] V fun e w' => e = .returned (.bool (pkOk M)) ∧ Below V.heap.size V w') := Lib.hid fun V g => implPicksOk_any _ M V hl g
  have KV : Hid (∀ V, PkAt V V.heap.size (.slice a M.length cap) M → Calls Try.prog 83 #[.slice a M.length cap, .int .i64 n] V fun e w' => e = .returned (got (pkGet n M)) ∧ Below V.heap.size V w') := Lib.hid fun V g => versionPicked_any _ M n V hl g
  have hv0 := VC.new w
  have b1 : Below w.heap.size w (w.alloc (.cells #[.int .i64 0, .int .i64 0, .int .i64 0, .int .i64 0] 69)) := (Below.refl w.heap.size w).alloc (Nat.le_refl _) _
  have s1 : w.heap.size < (w.alloc (.cells #[.int .i64 0, .int .i64 0, .int .i64 0, .int .i64 0] 69)).heap.size := by simp
  obtain ⟨w1, hw1⟩ : ∃ V : World, V = w.alloc (.cells #[.int .i64 0, .int .i64 0, .int .i64 0, .int .i64 0] 69) := ⟨_, rfl⟩
  rw [← hw1] at hv0 b1 s1
  rcases hok : pkOk M
  · have HF := Lib.hid (show pkOf M n = none by unfold pkOf; rw [hok]; rfl)
    rw [hok] at KO
    clear hok
    go_enter Try.func49, Try.ntmps49
    go_upto_region 1 with fail
    rw [← hw1]
    clear hw1
    go_wp2_with fail
    refine (KO.out _ (H.out.stepAt b1)).mono ?_
    rintro e w2 ⟨rfl, hb⟩
    have b2 := b1.trans (hb.mono b1.size)
    have vc := hv0.below hb s1
    clear hb hv0
    have SV := vc.stored (.int .i64 0) (.int .i64 0) (.int .i64 0) (.int .i64 0)
    obtain ⟨v0, v1, v2, v3⟩ := SV
    have NB := Lib.hid (b2.stored (Nat.le_refl _) (.int .i64 0) (.int .i64 0) (.int .i64 0) (.int .i64 0))
    obtain ⟨x0, x1, x2, x3, z0, z1, z2, z3, g0, g1, g2, g3⟩ := vc
    go_wp2_with fail
    exact bodyPost_ret (v := .tuple #[ver 0 0 0 0, .bool false]) (by simp [results, Try.results49, go_sem, v0, v1, v2, v3]) rfl ⟨by rw [HF.out]; rfl, NB.out⟩
  · have HF := Lib.hid (show pkOf M n = pkGet n M by unfold pkOf; rw [hok]; rfl)
    rw [hok] at KO
    clear hok
    go_enter Try.func49, Try.ntmps49
    go_upto_region 1 with fail
    rw [← hw1]
    clear hw1
    go_wp2_with fail
    refine (KO.out _ (H.out.stepAt b1)).mono ?_
    rintro e w2 ⟨rfl, hb⟩
    have b2 := b1.trans (hb.mono b1.size)
    have vc2 := hv0.below hb s1
    have s2 : w.heap.size < w2.heap.size := Nat.lt_of_lt_of_le s1 hb.size
    clear hb hv0
    rcases hg : pkGet n M with _ | ⟨p, q, r, s⟩
    · rw [hg] at HF KV
      simp only [got] at KV
      clear hg
      go_wp2_with fail
      refine (KV.out _ (H.out.stepAt b2)).mono ?_
      rintro e w3 ⟨rfl, hb⟩
      have b3 := b2.trans (hb.mono b2.size)
      have vc := vc2.below hb s2
      clear hb vc2
      have SV := vc.stored (.int .i64 0) (.int .i64 0) (.int .i64 0) (.int .i64 0)
      obtain ⟨v0, v1, v2, v3⟩ := SV
      have NB := Lib.hid (b3.stored (Nat.le_refl _) (.int .i64 0) (.int .i64 0) (.int .i64 0) (.int .i64 0))
      obtain ⟨x0, x1, x2, x3, z0, z1, z2, z3, g0, g1, g2, g3⟩ := vc
      go_wp2_with fail
      exact bodyPost_ret (v := .tuple #[ver 0 0 0 0, .bool false]) (by simp [results, Try.results49, go_sem, v0, v1, v2, v3]) rfl ⟨by rw [HF.out]; rfl, NB.out⟩
    · rw [hg] at HF KV
      simp only [got] at KV
      clear hg
      go_wp2_with fail
      refine (KV.out _ (H.out.stepAt b2)).mono ?_
      rintro e w3 ⟨rfl, hb⟩
      have b3 := b2.trans (hb.mono b2.size)
      have vc := vc2.below hb s2
      clear hb vc2
      have SV := vc.stored (.int .i64 p) (.int .i64 q) (.int .i64 r) (.int .i64 s)
      obtain ⟨v0, v1, v2, v3⟩ := SV
      have NB := Lib.hid (b3.stored (Nat.le_refl _) (.int .i64 p) (.int .i64 q) (.int .i64 r) (.int .i64 s))
      obtain ⟨x0, x1, x2, x3, z0, z1, z2, z3, g0, g1, g2, g3⟩ := vc
      go_wp2_with fail
      exact bodyPost_ret (v := .tuple #[ver p q r s, .bool true]) (by simp [results, Try.results49, go_sem, v0, v1, v2, v3]) rfl ⟨by rw [HF.out]; rfl, NB.out⟩

end Go.Proofs.Ytjnmkkcdcacakaa

/- Contracts of PickOf and ChoiceBetter, the program's and the model's, over this seat's translation: all answer as plain functions of the picks; nothing that was there before the call has changed. Condition: at most 1048576 picks. -/
import Derived.Test.YtcnlmgnfdplfeaaPkof
import Derived.Test.YtcnlmgnfdplfeaaGa
namespace Go.Proofs.Ytcnlmgnfdplfeaa
open Go.RowKit Go.Sort

/-- A block with four cells that can be written. -/
def VC (W : World) (p : Nat) : Prop :=
  ∃ x0 x1 x2 x3, W.cell? ⟨p, 0, none⟩ = some x0 ∧ W.cell? ⟨p, 1, none⟩ = some x1 ∧ W.cell? ⟨p, 2, none⟩ = some x2 ∧ W.cell? ⟨p, 3, none⟩ = some x3 ∧ W.frozen? ⟨p, 0, none⟩ = false ∧ W.frozen? ⟨p, 1, none⟩ = false ∧ W.frozen? ⟨p, 2, none⟩ = false ∧ W.frozen? ⟨p, 3, none⟩ = false
theorem VC.below {W V : World} {B p : Nat} (h : VC W p) (hb : Below B W V) (hp : p < B) : VC V p := by
  obtain ⟨x0, x1, x2, x3, h0, h1, h2, h3, f0, f1, f2, f3⟩ := h
  exact ⟨x0, x1, x2, x3, (hb.cell (p := ⟨p, 0, none⟩) hp).trans h0, (hb.cell (p := ⟨p, 1, none⟩) hp).trans h1, (hb.cell (p := ⟨p, 2, none⟩) hp).trans h2, (hb.cell (p := ⟨p, 3, none⟩) hp).trans h3,
    (hb.frozen (p := ⟨p, 0, none⟩) hp).trans f0, (hb.frozen (p := ⟨p, 1, none⟩) hp).trans f1, (hb.frozen (p := ⟨p, 2, none⟩) hp).trans f2, (hb.frozen (p := ⟨p, 3, none⟩) hp).trans f3⟩
theorem VC.new (w : World) : VC (w.alloc (.cells #[.int .i64 0, .int .i64 0, .int .i64 0, .int .i64 0] 72)) w.heap.size := by
  refine ⟨.int .i64 0, .int .i64 0, .int .i64 0, .int .i64 0, ?_, ?_, ?_, ?_, ?_, ?_, ?_, ?_⟩ <;> go_simp
/-- What stands there once four numbers were written. -/
theorem VC.stored {W : World} {p : Nat} (h : VC W p) (a b c d : Value) :
    ((((W.setCell ⟨p, 0, none⟩ a).setCell ⟨p, 1, none⟩ b).setCell ⟨p, 2, none⟩ c).setCell ⟨p, 3, none⟩ d).cell? ⟨p, 0, none⟩ = some a ∧ ((((W.setCell ⟨p, 0, none⟩ a).setCell ⟨p, 1, none⟩ b).setCell ⟨p, 2, none⟩ c).setCell ⟨p, 3, none⟩ d).cell? ⟨p, 1, none⟩ = some b ∧
    ((((W.setCell ⟨p, 0, none⟩ a).setCell ⟨p, 1, none⟩ b).setCell ⟨p, 2, none⟩ c).setCell ⟨p, 3, none⟩ d).cell? ⟨p, 2, none⟩ = some c ∧ ((((W.setCell ⟨p, 0, none⟩ a).setCell ⟨p, 1, none⟩ b).setCell ⟨p, 2, none⟩ c).setCell ⟨p, 3, none⟩ d).cell? ⟨p, 3, none⟩ = some d := by
  obtain ⟨x0, x1, x2, x3, h0, h1, h2, h3, _⟩ := h
  exact ver_stored h0 h1 h2 h3 a b c d
theorem _root_.Go.RowKit.Below.stored {W V : World} {p : Nat} (h : Below W.heap.size W V) (hp : W.heap.size ≤ p) (a b c d : Value) : Below W.heap.size W ((((V.setCell ⟨p, 0, none⟩ a).setCell ⟨p, 1, none⟩ b).setCell ⟨p, 2, none⟩ c).setCell ⟨p, 3, none⟩ d) :=
  (((h.setCell (p := ⟨p, 0, none⟩) hp a).setCell (p := ⟨p, 1, none⟩) hp b).setCell (p := ⟨p, 2, none⟩) hp c).setCell (p := ⟨p, 3, none⟩) hp d

theorem verN_alike (a b c d : Int) (V : World) : (binOp .neq 72 (ver a b c d) (ver a b c d)).run Try.prog V = .ok (.bool false) V := by
  go_simp
theorem verN_differ {a b c d p q r s : Int} (h : ¬ (a = p ∧ b = q ∧ c = r ∧ d = s)) (V : World) : (binOp .neq 72 (ver a b c d) (ver p q r s)).run Try.prog V = .ok (.bool true) V := by
  by_cases h1 : a = p
  · by_cases h2 : b = q
    · by_cases h3 : c = r
      · have b4 : (d == s) = false := by rw [beq_eq_false_iff_ne]; exact fun e => h ⟨h1, h2, h3, e⟩
        subst h1; subst h2; subst h3
        go_simp
      · have b3 : (c == r) = false := by rw [beq_eq_false_iff_ne]; exact h3
        subst h1; subst h2
        go_simp
    · have b2 : (b == q) = false := by rw [beq_eq_false_iff_ne]; exact h2
      subst h1
      go_simp
  · have b1 : (a == p) = false := by rw [beq_eq_false_iff_ne]; exact h1
    go_simp

set_option maxRecDepth 100000 in
set_option maxHeartbeats 4000000 in
theorem specPickOf_any (u : Value) (M : List Pk) (n : Int) (w : World) (hl : M.length ≤ 1048576) (h : PkAt w w.heap.size u M) :
    Calls Try.prog 94 #[u, .int .i64 n] w fun e w' => e = .returned (got (pkOf M n)) ∧ Below w.heap.size w w' := by
  obtain ⟨a, cap, rfl, hx⟩ := id h
  have H := Lib.hid h
  have HX := Lib.hid hx
  clear h hx
  have KO : Hid (∀ V, PkAt V V.heap.size (.slice a M.length cap) M → Calls Try.prog 35 #[.slice a M.length cap] V fun e w' => e = .returned (.bool (pkOk M)) ∧ Below V.heap.size V w') := Lib.hid fun V g => specPicksOk_any _ M V hl g
  have hv0 := VC.new w
  have b1 : Below w.heap.size w (w.alloc (.cells #[.int .i64 0, .int .i64 0, .int .i64 0, .int .i64 0] 72)) := (Below.refl w.heap.size w).alloc (Nat.le_refl _) _
  have s1 : w.heap.size < (w.alloc (.cells #[.int .i64 0, .int .i64 0, .int .i64 0, .int .i64 0] 72)).heap.size := by simp
  obtain ⟨w1, hw1⟩ : ∃ V : World, V = w.alloc (.cells #[.int .i64 0, .int .i64 0, .int .i64 0, .int .i64 0] 72) := ⟨_, rfl⟩
  rw [← hw1] at hv0 b1 s1
  have HV0 := Lib.hid hv0
  clear hv0
  go_enter Try.func94, Try.ntmps94
  go_upto_region 1 with fail
  rw [← hw1]
  clear hw1
  go_wp2_with fail
  go_loopw [6] (fun i wr => GetRel M n w1 i wr) (fun i _ => M.length - (intOf i).toNat)
  case atStart => exact ⟨0, Nat.zero_le _, rfl, rfl, Below.refl _ _⟩
  case round =>
    obtain ⟨k, hk, rfl, ho, hb⟩ := hrel
    have HO := Lib.hid ho
    clear ho
    have bw := b1.trans (hb.mono b1.size)
    have vcr := HV0.out.below hb s1
    have sr : w.heap.size < wr.heap.size := Nat.lt_of_lt_of_le s1 hb.size
    by_cases hlt : k < M.length
    · rcases hok : pkOk M
      · have HF := Lib.hid (show pkOf M n = none by unfold pkOf; rw [hok]; rfl)
        rw [hok] at KO
        clear hok
        go_wp2_with fail
        refine (KO.out _ (H.out.stepAt bw)).mono ?_
        rintro e w2 ⟨rfl, hb2⟩
        have b2 := bw.trans (hb2.mono bw.size)
        have vc := vcr.below hb2 sr
        clear hb2 vcr
        have SV := vc.stored (.int .i64 0) (.int .i64 0) (.int .i64 0) (.int .i64 0)
        obtain ⟨v0, v1, v2, v3⟩ := SV
        have NB := Lib.hid (b2.stored (Nat.le_refl _) (.int .i64 0) (.int .i64 0) (.int .i64 0) (.int .i64 0))
        obtain ⟨x0, x1, x2, x3, z0, z1, z2, z3, g0, g1, g2, g3⟩ := vc
        go_wp2_with fail
        exact bodyPost_ret (v := .tuple #[ver 0 0 0 0, .bool false]) (by simp [results, Try.results94, go_sem, v0, v1, v2, v3]) rfl ⟨by rw [HF.out]; rfl, NB.out⟩
      · have HOK := Lib.hid hok
        rw [hok] at KO
        clear hok
        rcases HX.out with h | ⟨g, o, rfl, hB, hc⟩
        · subst h
          exact absurd hlt (by simp)
        obtain ⟨x, a1, c1, d1, e1, hxy⟩ : ∃ x a1 c1 d1 e1, M[k] = (x, a1, c1, d1, e1) := ⟨_, _, _, _, _, rfl⟩
        have HY := Lib.hid (show M[k]? = some (x, a1, c1, d1, e1) by rw [List.getElem?_eq_getElem hlt, hxy])
        go_wp2_with fail
        refine (KO.out _ (H.out.stepAt bw)).mono ?_
        rintro e w2 ⟨rfl, hb2⟩
        have b2 := bw.trans (hb2.mono bw.size)
        have vc := vcr.below hb2 sr
        have m1 := (hc k hlt).below b2 hB
        rw [hxy] at m1
        obtain ⟨k0, k1, k2, k3, k4⟩ := m1
        simp only at k0 k1 k2 k3 k4
        have mg : g < w2.heap.size := Nat.lt_of_lt_of_le hB b2.size
        have BB := Lib.hid (hb.trans (hb2.mono hb.size))
        have hgw : g ≠ w.heap.size := by omega
        clear hxy hc hb hb2 vcr
        by_cases hn : x = n
        · have HF := Lib.hid (show pkOf M n = some (a1, c1, d1, e1) by unfold pkOf; rw [if_pos HOK.out, HO.out, pkGet_step HY.out, if_pos hn])
          subst hn
          have SV := vc.stored (.int .i64 a1) (.int .i64 c1) (.int .i64 d1) (.int .i64 e1)
          obtain ⟨v0, v1, v2, v3⟩ := SV
          have NB := Lib.hid (b2.stored (Nat.le_refl _) (.int .i64 a1) (.int .i64 c1) (.int .i64 d1) (.int .i64 e1))
          obtain ⟨x0, x1, x2, x3, z0, z1, z2, z3, g0, g1, g2, g3⟩ := vc
          go_wp2_with fail
          exact bodyPost_ret (v := .tuple #[ver a1 c1 d1 e1, .bool true]) (by simp [results, Try.results94, go_sem, v0, v1, v2, v3]) rfl ⟨by rw [HF.out]; rfl, NB.out⟩
        · have HP := Lib.hid (get_push HY.out HO.out hn BB.out)
          have hz : (x == n) = false := by rw [beq_eq_false_iff_ne]; exact hn
          go_wp2_with fail
          go_roundw
          case rel => exact HP.out
          case measure => simp [intOf]; omega
    · obtain rfl : k = M.length := by omega
      have HF := Lib.hid (show pkOf M n = none by unfold pkOf; rw [HO.out, List.drop_length]; split <;> rfl)
      have vc := vcr
      clear vcr
      have SV := vc.stored (.int .i64 0) (.int .i64 0) (.int .i64 0) (.int .i64 0)
      obtain ⟨v0, v1, v2, v3⟩ := SV
      have NB := Lib.hid (bw.stored (Nat.le_refl _) (.int .i64 0) (.int .i64 0) (.int .i64 0) (.int .i64 0))
      obtain ⟨x0, x1, x2, x3, z0, z1, z2, z3, g0, g1, g2, g3⟩ := vc
      go_wp2_with fail
      exact bodyPost_ret (v := .tuple #[ver 0 0 0 0, .bool false]) (by simp [results, Try.results94, go_sem, v0, v1, v2, v3]) rfl ⟨by rw [HF.out]; rfl, NB.out⟩

end Go.Proofs.Ytcnlmgnfdplfeaa

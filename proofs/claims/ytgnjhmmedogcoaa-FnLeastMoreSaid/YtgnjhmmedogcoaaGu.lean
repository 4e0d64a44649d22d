/- Groundwork over this seat's translation: Pkof, Pkofs, Pkbet, Pkfact in one text; the conditions stand at each part. -/
import Derived.Test.YtgnjhmmedogcoaaGg
import Derived.Handy
import Derived.Deep.CutRange
import Derived.Test.YtgnjhmmedogcoaaGa

/- Contracts of the functions that find the version that is picked of a name, over this seat's translation, the program's and the model's: all answer as the plain function pkGet; nothing that was there before the call has changed. Condition: at most 1048576 picks. -/
namespace Go.Proofs.Ytgnjhmmedogcoaa
open Go.RowKit Go.Sort

abbrev V4 := Int × Int × Int × Int
/-- The version of the first pick of a name. -/
def pkGet (n : Int) : List Pk → Option V4
  | [] => none
  | q :: t => if q.1 = n then some q.2 else pkGet n t
def pkOf (M : List Pk) (n : Int) : Option V4 := if pkOk M = true then pkGet n M else none
/-- What is answered: a version and true, or the zero value and false. -/
def got : Option V4 → Value
  | some (a, b, c, d) => .tuple #[ver a b c d, .bool true]
  | none => .tuple #[ver 0 0 0 0, .bool false]
theorem pkGet_step {M : List Pk} {k : Nat} {q : Pk} (h : M[k]? = some q) (n : Int) : pkGet n (M.drop k) = if q.1 = n then some q.2 else pkGet n (M.drop (k + 1)) := by
  have hk : k < M.length := (List.getElem?_eq_some_iff.1 h).1
  rw [List.drop_eq_getElem_cons hk, (List.getElem?_eq_some_iff.1 h).2]
  rfl

/-- Four cells of a block, written and read. -/
theorem ver_stored {W : World} {p : Nat} {x0 x1 x2 x3 : Value} (h0 : W.cell? ⟨p, 0, none⟩ = some x0) (h1 : W.cell? ⟨p, 1, none⟩ = some x1) (h2 : W.cell? ⟨p, 2, none⟩ = some x2) (h3 : W.cell? ⟨p, 3, none⟩ = some x3) (a b c d : Value) :
    ((((W.setCell ⟨p, 0, none⟩ a).setCell ⟨p, 1, none⟩ b).setCell ⟨p, 2, none⟩ c).setCell ⟨p, 3, none⟩ d).cell? ⟨p, 0, none⟩ = some a ∧ ((((W.setCell ⟨p, 0, none⟩ a).setCell ⟨p, 1, none⟩ b).setCell ⟨p, 2, none⟩ c).setCell ⟨p, 3, none⟩ d).cell? ⟨p, 1, none⟩ = some b ∧
    ((((W.setCell ⟨p, 0, none⟩ a).setCell ⟨p, 1, none⟩ b).setCell ⟨p, 2, none⟩ c).setCell ⟨p, 3, none⟩ d).cell? ⟨p, 2, none⟩ = some c ∧ ((((W.setCell ⟨p, 0, none⟩ a).setCell ⟨p, 1, none⟩ b).setCell ⟨p, 2, none⟩ c).setCell ⟨p, 3, none⟩ d).cell? ⟨p, 3, none⟩ = some d := by
  have o : ∀ (V : World) (i j : Nat) (x : Value), i ≠ j → (V.setCell ⟨p, i, none⟩ x).cell? ⟨p, j, none⟩ = V.cell? ⟨p, j, none⟩ := fun V i j x h => World.cell?_setCell_other (h := fun e => h (Addr.mk.inj e).2.1) ..
  have s : ∀ (V : World) (i : Nat) (x u : Value), V.cell? ⟨p, i, none⟩ = some u → (V.setCell ⟨p, i, none⟩ x).cell? ⟨p, i, none⟩ = some x := fun V i x u h => World.cell?_setCell_same (h := h) ..
  refine ⟨?_, ?_, ?_, ?_⟩
  · rw [o _ 3 0 _ (by decide), o _ 2 0 _ (by decide), o _ 1 0 _ (by decide), s _ _ _ _ h0]
  · rw [o _ 3 1 _ (by decide), o _ 2 1 _ (by decide)]
    exact s _ _ _ _ ((o _ 0 1 _ (by decide)).trans h1)
  · rw [o _ 3 2 _ (by decide)]
    exact s _ _ _ _ ((o _ 1 2 _ (by decide)).trans ((o _ 0 2 _ (by decide)).trans h2))
  · exact s _ _ _ _ ((o _ 2 3 _ (by decide)).trans ((o _ 1 3 _ (by decide)).trans ((o _ 0 3 _ (by decide)).trans h3)))
/-- Cells of a block that was there are there behind an allocation. -/
theorem cell_alloc {W : World} {p j : Nat} {x : Value} (h : W.cell? ⟨p, j, none⟩ = some x) (O : Obj) : (W.alloc O).cell? ⟨p, j, none⟩ = some x :=
  (((Below.refl W.heap.size W).alloc (Nat.le_refl _) O).cell (p := ⟨p, j, none⟩) (World.block_lt_of_cell? W _ h)).trans h

/-- What the loops keep: what is left decides; the result's cells are as they were. -/
def GetRel (M : List Pk) (n : Int) (w1 : World) (i : Value) (wr : World) : Prop :=
  ∃ k : Nat, k ≤ M.length ∧ i = .int .i64 (k : Int) ∧ pkGet n M = pkGet n (M.drop k) ∧ Below w1.heap.size w1 wr
theorem get_push {M : List Pk} {n : Int} {w1 wr : World} {k : Nat} {q : Pk} (hM : M[k]? = some q) (ho : pkGet n M = pkGet n (M.drop k)) (hn : ¬ q.1 = n) (hb : Below w1.heap.size w1 wr) :
    GetRel M n w1 (.int .i64 ((k : Int) + 1)) wr := by
  have hk : k < M.length := (List.getElem?_eq_some_iff.1 hM).1
  exact ⟨k + 1, by omega, by go_num, by rw [ho, pkGet_step hM, if_neg hn], hb⟩

set_option maxRecDepth 100000 in
set_option maxHeartbeats 4000000 in
theorem versionPicked_any (u : Value) (M : List Pk) (n : Int) (w : World) (hl : M.length ≤ 1048576) (h : PkAt w w.heap.size u M) :
    Calls Try.prog 76 #[u, .int .i64 n] w fun e w' => e = .returned (got (pkGet n M)) ∧ Below w.heap.size w w' := by
  obtain ⟨a, cap, rfl, h⟩ := h
  obtain ⟨w1, hw1⟩ : ∃ V : World, V = w.alloc (.cells #[.int .i64 0, .int .i64 0, .int .i64 0, .int .i64 0] 61) := ⟨_, rfl⟩
  have b1 : Below w.heap.size w w1 := by
    rw [hw1]
    exact (Below.refl w.heap.size w).alloc (Nat.le_refl _) _
  have s1 : w.heap.size + 1 ≤ w1.heap.size := by rw [hw1]; simp
  have y0 : w1.cell? ⟨w.heap.size, 0, none⟩ = some (.int .i64 0) := by rw [hw1]; go_simp
  have y1 : w1.cell? ⟨w.heap.size, 1, none⟩ = some (.int .i64 0) := by rw [hw1]; go_simp
  have y2 : w1.cell? ⟨w.heap.size, 2, none⟩ = some (.int .i64 0) := by rw [hw1]; go_simp
  have y3 : w1.cell? ⟨w.heap.size, 3, none⟩ = some (.int .i64 0) := by rw [hw1]; go_simp
  have f0 : w1.frozen? ⟨w.heap.size, 0, none⟩ = false := by rw [hw1]; go_simp
  have f1 : w1.frozen? ⟨w.heap.size, 1, none⟩ = false := by rw [hw1]; go_simp
  have f2 : w1.frozen? ⟨w.heap.size, 2, none⟩ = false := by rw [hw1]; go_simp
  have f3 : w1.frozen? ⟨w.heap.size, 3, none⟩ = false := by rw [hw1]; go_simp
  go_enter Try.func76, Try.ntmps76
  go_upto_region 1 with fail
  rw [← hw1]
  clear hw1
  go_wp2_with fail
  go_loopw [10] (fun i wr => GetRel M n w1 i wr) (fun i _ => M.length - (intOf i).toNat)
  case atStart => exact ⟨0, Nat.zero_le _, rfl, rfl, Below.refl _ _⟩
  case round =>
    obtain ⟨k, hk, rfl, ho, hb⟩ := hrel
    have HO := Lib.hid ho
    have HB := Lib.hid hb
    clear ho
    have sr := hb.size
    have z0 := (hb.cell (p := ⟨w.heap.size, 0, none⟩) (by show w.heap.size < w1.heap.size; omega)).trans y0
    have z1 := (hb.cell (p := ⟨w.heap.size, 1, none⟩) (by show w.heap.size < w1.heap.size; omega)).trans y1
    have z2 := (hb.cell (p := ⟨w.heap.size, 2, none⟩) (by show w.heap.size < w1.heap.size; omega)).trans y2
    have z3 := (hb.cell (p := ⟨w.heap.size, 3, none⟩) (by show w.heap.size < w1.heap.size; omega)).trans y3
    have g0 := (hb.frozen (p := ⟨w.heap.size, 0, none⟩) (by show w.heap.size < w1.heap.size; omega)).trans f0
    have g1 := (hb.frozen (p := ⟨w.heap.size, 1, none⟩) (by show w.heap.size < w1.heap.size; omega)).trans f1
    have g2 := (hb.frozen (p := ⟨w.heap.size, 2, none⟩) (by show w.heap.size < w1.heap.size; omega)).trans f2
    have g3 := (hb.frozen (p := ⟨w.heap.size, 3, none⟩) (by show w.heap.size < w1.heap.size; omega)).trans f3
    have bw := b1.trans (hb.mono b1.size)
    clear y0 y1 y2 y3 f0 f1 f2 f3
    by_cases hlt : k < M.length
    · rcases h with h | ⟨g, o, rfl, hB, hc⟩
      · subst h
        exact absurd hlt (by simp)
      obtain ⟨x, a1, c1, d1, e1, hxy⟩ : ∃ x a1 c1 d1 e1, M[k] = (x, a1, c1, d1, e1) := ⟨_, _, _, _, _, rfl⟩
      have m1 := (hc k hlt).below bw hB
      rw [hxy] at m1
      obtain ⟨k0, k1, k2, k3, k4⟩ := m1
      simp only at k0 k1 k2 k3 k4
      have HY := Lib.hid (show M[k]? = some (x, a1, c1, d1, e1) by rw [List.getElem?_eq_getElem hlt, hxy])
      have mg : g < wr.heap.size := Nat.lt_of_lt_of_le hB bw.size
      have mn : w.heap.size < wr.heap.size := by omega
      have BB := Lib.hid (hb.alloc hb.size (.cells #[.int .i64 x, .int .i64 a1, .int .i64 c1, .int .i64 d1, .int .i64 e1] 68))
      have BW := Lib.hid bw
      clear hxy hc hb bw
      by_cases hn : x = n
      · have HF := Lib.hid (show pkGet n M = some (a1, c1, d1, e1) by rw [HO.out, pkGet_step HY.out, if_pos hn])
        subst hn
        have V0 := ver_stored z0 z1 z2 z3 (.int .i64 a1) (.int .i64 c1) (.int .i64 d1) (.int .i64 e1)
        obtain ⟨u0, u1, u2, u3⟩ := V0
        have v0 := cell_alloc u0 (.cells #[.int .i64 x, .int .i64 a1, .int .i64 c1, .int .i64 d1, .int .i64 e1] 68)
        have v1 := cell_alloc u1 (.cells #[.int .i64 x, .int .i64 a1, .int .i64 c1, .int .i64 d1, .int .i64 e1] 68)
        have v2 := cell_alloc u2 (.cells #[.int .i64 x, .int .i64 a1, .int .i64 c1, .int .i64 d1, .int .i64 e1] 68)
        have v3 := cell_alloc u3 (.cells #[.int .i64 x, .int .i64 a1, .int .i64 c1, .int .i64 d1, .int .i64 e1] 68)
        clear u0 u1 u2 u3
        have NB := Lib.hid ((((BW.out.setCell (p := ⟨w.heap.size, 0, none⟩) (Nat.le_refl _) (.int .i64 a1)).setCell (p := ⟨w.heap.size, 1, none⟩) (Nat.le_refl _) (.int .i64 c1)).setCell (p := ⟨w.heap.size, 2, none⟩) (Nat.le_refl _) (.int .i64 d1)).setCell (p := ⟨w.heap.size, 3, none⟩) (Nat.le_refl _) (.int .i64 e1))
        go_wp2_with fail
        exact bodyPost_ret (v := .tuple #[ver a1 c1 d1 e1, .bool true]) (by simp [results, Try.results76, go_sem, v0, v1, v2, v3]) rfl ⟨by rw [HF.out]; rfl, NB.out.alloc NB.out.size _⟩
      · have HP := Lib.hid (get_push HY.out HO.out hn BB.out)
        have hz : (x == n) = false := by rw [beq_eq_false_iff_ne]; exact hn
        go_wp2_with fail
        go_roundw
        case rel => exact HP.out
        case measure => simp [intOf]; omega
    · obtain rfl : k = M.length := by omega
      have HF := Lib.hid (show pkGet n M = none by rw [HO.out, List.drop_length]; rfl)
      have V0 := ver_stored z0 z1 z2 z3 (.int .i64 0) (.int .i64 0) (.int .i64 0) (.int .i64 0)
      obtain ⟨v0, v1, v2, v3⟩ := V0
      have NB := Lib.hid ((((bw.setCell (p := ⟨w.heap.size, 0, none⟩) (Nat.le_refl _) (.int .i64 0)).setCell (p := ⟨w.heap.size, 1, none⟩) (Nat.le_refl _) (.int .i64 0)).setCell (p := ⟨w.heap.size, 2, none⟩) (Nat.le_refl _) (.int .i64 0)).setCell (p := ⟨w.heap.size, 3, none⟩) (Nat.le_refl _) (.int .i64 0))
      go_wp2_with fail
      exact bodyPost_ret (v := .tuple #[ver 0 0 0 0, .bool false]) (by simp [results, Try.results76, go_sem, v0, v1, v2, v3]) rfl ⟨by rw [HF.out]; rfl, NB.out⟩

end Go.Proofs.Ytgnjhmmedogcoaa

/- Contracts of PickOf and ChoiceBetter, the program's and the model's, over this seat's translation: all answer as plain functions of the picks; nothing that was there before the call has changed. Condition: at most 1048576 picks. -/
namespace Go.Proofs.Ytgnjhmmedogcoaa
open Go.RowKit Go.Sort

/-- A block with four cells that can be written. -/
def VC (W : World) (p : Nat) : Prop :=
  ∃ x0 x1 x2 x3, W.cell? ⟨p, 0, none⟩ = some x0 ∧ W.cell? ⟨p, 1, none⟩ = some x1 ∧ W.cell? ⟨p, 2, none⟩ = some x2 ∧ W.cell? ⟨p, 3, none⟩ = some x3 ∧ W.frozen? ⟨p, 0, none⟩ = false ∧ W.frozen? ⟨p, 1, none⟩ = false ∧ W.frozen? ⟨p, 2, none⟩ = false ∧ W.frozen? ⟨p, 3, none⟩ = false
theorem VC.below {W V : World} {B p : Nat} (h : VC W p) (hb : Below B W V) (hp : p < B) : VC V p := by
  obtain ⟨x0, x1, x2, x3, h0, h1, h2, h3, f0, f1, f2, f3⟩ := h
  exact ⟨x0, x1, x2, x3, (hb.cell (p := ⟨p, 0, none⟩) hp).trans h0, (hb.cell (p := ⟨p, 1, none⟩) hp).trans h1, (hb.cell (p := ⟨p, 2, none⟩) hp).trans h2, (hb.cell (p := ⟨p, 3, none⟩) hp).trans h3,
    (hb.frozen (p := ⟨p, 0, none⟩) hp).trans f0, (hb.frozen (p := ⟨p, 1, none⟩) hp).trans f1, (hb.frozen (p := ⟨p, 2, none⟩) hp).trans f2, (hb.frozen (p := ⟨p, 3, none⟩) hp).trans f3⟩
theorem VC.new (w : World) : VC (w.alloc (.cells #[.int .i64 0, .int .i64 0, .int .i64 0, .int .i64 0] 61)) w.heap.size := by
  refine ⟨.int .i64 0, .int .i64 0, .int .i64 0, .int .i64 0, ?_, ?_, ?_, ?_, ?_, ?_, ?_, ?_⟩ <;> go_simp
/-- What stands there once four numbers were written. -/
theorem VC.stored {W : World} {p : Nat} (h : VC W p) (a b c d : Value) :
    ((((W.setCell ⟨p, 0, none⟩ a).setCell ⟨p, 1, none⟩ b).setCell ⟨p, 2, none⟩ c).setCell ⟨p, 3, none⟩ d).cell? ⟨p, 0, none⟩ = some a ∧ ((((W.setCell ⟨p, 0, none⟩ a).setCell ⟨p, 1, none⟩ b).setCell ⟨p, 2, none⟩ c).setCell ⟨p, 3, none⟩ d).cell? ⟨p, 1, none⟩ = some b ∧
    ((((W.setCell ⟨p, 0, none⟩ a).setCell ⟨p, 1, none⟩ b).setCell ⟨p, 2, none⟩ c).setCell ⟨p, 3, none⟩ d).cell? ⟨p, 2, none⟩ = some c ∧ ((((W.setCell ⟨p, 0, none⟩ a).setCell ⟨p, 1, none⟩ b).setCell ⟨p, 2, none⟩ c).setCell ⟨p, 3, none⟩ d).cell? ⟨p, 3, none⟩ = some d := by
  obtain ⟨x0, x1, x2, x3, h0, h1, h2, h3, _⟩ := h
  exact ver_stored h0 h1 h2 h3 a b c d
theorem _root_.Go.RowKit.Below.stored {W V : World} {p : Nat} (h : Below W.heap.size W V) (hp : W.heap.size ≤ p) (a b c d : Value) : Below W.heap.size W ((((V.setCell ⟨p, 0, none⟩ a).setCell ⟨p, 1, none⟩ b).setCell ⟨p, 2, none⟩ c).setCell ⟨p, 3, none⟩ d) :=
  (((h.setCell (p := ⟨p, 0, none⟩) hp a).setCell (p := ⟨p, 1, none⟩) hp b).setCell (p := ⟨p, 2, none⟩) hp c).setCell (p := ⟨p, 3, none⟩) hp d

theorem verN_alike (a b c d : Int) (V : World) : (binOp .neq 61 (ver a b c d) (ver a b c d)).run Try.prog V = .ok (.bool false) V := by
  go_simp
theorem verN_differ {a b c d p q r s : Int} (h : ¬ (a = p ∧ b = q ∧ c = r ∧ d = s)) (V : World) : (binOp .neq 61 (ver a b c d) (ver p q r s)).run Try.prog V = .ok (.bool true) V := by
  by_cases h1 : a = p
  · by_cases h2 : b = q
    · by_cases h3 : c = r
      · have b4 : (d == s) = false := by rw [beq_eq_false_iff_ne]; exact fun e => h ⟨h1, h2, h3, e⟩
        subst h1; subst h2; subst h3
        go_simp
      · have b3 : (c == r) = false := by rw [beq_eq_false_iff_ne]; exact h3
        subst h1; subst h2
        go_simp
    · have b2 : (b == q) = false := by rw [beq_eq_false_iff_ne]; exact h2
      subst h1
      go_simp
  · have b1 : (a == p) = false := by rw [beq_eq_false_iff_ne]; exact h1
    go_simp

set_option maxRecDepth 100000 in
set_option maxHeartbeats 4000000 in
theorem implPickOf_any (u : Value) (M : List Pk) (n : Int) (w : World) (hl : M.length ≤ 1048576) (h : PkAt w w.heap.size u M) :
    Calls Try.prog 41 #[u, .int .i64 n] w fun e w' => e = .returned (got (pkOf M n)) ∧ Below w.heap.size w w' := by
  obtain ⟨a, cap, rfl, hx⟩ := id h
  have H := Lib.hid h
  clear h hx
  have KO : Hid (∀ V, PkAt V V.heap.size (.slice a M.length cap) M → Calls Try.prog 43 #[.slice a M.length cap] V fun e w' => e = .returned (.bool (pkOk M)) ∧ Below V.heap.size V w') := Lib.hid fun V g => implPicksOk_any _ M V hl g
  have KV : Hid (∀ V, PkAt V V.heap.size (.slice a M.length cap) M → Calls Try.prog 76 #[.slice a M.length cap, .int .i64 n] V fun e w' => e = .returned (got (pkGet n M)) ∧ Below V.heap.size V w') := Lib.hid fun V g => versionPicked_any _ M n V hl g
  have hv0 := VC.new w
  have b1 : Below w.heap.size w (w.alloc (.cells #[.int .i64 0, .int .i64 0, .int .i64 0, .int .i64 0] 61)) := (Below.refl w.heap.size w).alloc (Nat.le_refl _) _
  have s1 : w.heap.size < (w.alloc (.cells #[.int .i64 0, .int .i64 0, .int .i64 0, .int .i64 0] 61)).heap.size := by simp
  obtain ⟨w1, hw1⟩ : ∃ V : World, V = w.alloc (.cells #[.int .i64 0, .int .i64 0, .int .i64 0, .int .i64 0] 61) := ⟨_, rfl⟩
  rw [← hw1] at hv0 b1 s1
  rcases hok : pkOk M
  · have HF := Lib.hid (show pkOf M n = none by unfold pkOf; rw [hok]; rfl)
    rw [hok] at KO
    clear hok
    go_enter Try.func41, Try.ntmps41
    go_upto_region 1 with fail
    rw [← hw1]
    clear hw1
    go_wp2_with fail
    refine (KO.out _ (H.out.stepAt b1)).mono ?_
    rintro e w2 ⟨rfl, hb⟩
    have b2 := b1.trans (hb.mono b1.size)
    have vc := hv0.below hb s1
    clear hb hv0
    have SV := vc.stored (.int .i64 0) (.int .i64 0) (.int .i64 0) (.int .i64 0)
    obtain ⟨v0, v1, v2, v3⟩ := SV
    have NB := Lib.hid (b2.stored (Nat.le_refl _) (.int .i64 0) (.int .i64 0) (.int .i64 0) (.int .i64 0))
    obtain ⟨x0, x1, x2, x3, z0, z1, z2, z3, g0, g1, g2, g3⟩ := vc
    go_wp2_with fail
    exact bodyPost_ret (v := .tuple #[ver 0 0 0 0, .bool false]) (by simp [results, Try.results41, go_sem, v0, v1, v2, v3]) rfl ⟨by rw [HF.out]; rfl, NB.out⟩
  · have HF := Lib.hid (show pkOf M n = pkGet n M by unfold pkOf; rw [hok]; rfl)
    rw [hok] at KO
    clear hok
    go_enter Try.func41, Try.ntmps41
    go_upto_region 1 with fail
    rw [← hw1]
    clear hw1
    go_wp2_with fail
    refine (KO.out _ (H.out.stepAt b1)).mono ?_
    rintro e w2 ⟨rfl, hb⟩
    have b2 := b1.trans (hb.mono b1.size)
    have vc2 := hv0.below hb s1
    have s2 : w.heap.size < w2.heap.size := Nat.lt_of_lt_of_le s1 hb.size
    clear hb hv0
    rcases hg : pkGet n M with _ | ⟨p, q, r, s⟩
    · rw [hg] at HF KV
      simp only [got] at KV
      clear hg
      go_wp2_with fail
      refine (KV.out _ (H.out.stepAt b2)).mono ?_
      rintro e w3 ⟨rfl, hb⟩
      have b3 := b2.trans (hb.mono b2.size)
      have vc := vc2.below hb s2
      clear hb vc2
      have SV := vc.stored (.int .i64 0) (.int .i64 0) (.int .i64 0) (.int .i64 0)
      obtain ⟨v0, v1, v2, v3⟩ := SV
      have NB := Lib.hid (b3.stored (Nat.le_refl _) (.int .i64 0) (.int .i64 0) (.int .i64 0) (.int .i64 0))
      obtain ⟨x0, x1, x2, x3, z0, z1, z2, z3, g0, g1, g2, g3⟩ := vc
      go_wp2_with fail
      exact bodyPost_ret (v := .tuple #[ver 0 0 0 0, .bool false]) (by simp [results, Try.results41, go_sem, v0, v1, v2, v3]) rfl ⟨by rw [HF.out]; rfl, NB.out⟩
    · rw [hg] at HF KV
      simp only [got] at KV
      clear hg
      go_wp2_with fail
      refine (KV.out _ (H.out.stepAt b2)).mono ?_
      rintro e w3 ⟨rfl, hb⟩
      have b3 := b2.trans (hb.mono b2.size)
      have vc := vc2.below hb s2
      clear hb vc2
      have SV := vc.stored (.int .i64 p) (.int .i64 q) (.int .i64 r) (.int .i64 s)
      obtain ⟨v0, v1, v2, v3⟩ := SV
      have NB := Lib.hid (b3.stored (Nat.le_refl _) (.int .i64 p) (.int .i64 q) (.int .i64 r) (.int .i64 s))
      obtain ⟨x0, x1, x2, x3, z0, z1, z2, z3, g0, g1, g2, g3⟩ := vc
      go_wp2_with fail
      exact bodyPost_ret (v := .tuple #[ver p q r s, .bool true]) (by simp [results, Try.results41, go_sem, v0, v1, v2, v3]) rfl ⟨by rw [HF.out]; rfl, NB.out⟩

end Go.Proofs.Ytgnjhmmedogcoaa

/- Contracts of ChoiceBetter, the program's and the model's, over this seat's translation: both answer as the plain function pkBetter; nothing that was there before the call has changed. Condition: at most 1048576 picks. -/
namespace Go.Proofs.Ytgnjhmmedogcoaa
open Go.RowKit Go.Sort

/-- The better one of two rows of picks, from a name on. -/
def pbet (A B : List Pk) : Nat → Int → Bool
  | 0, _ => false
  | f + 1, n => match pkGet n A, pkGet n B with
    | none, none => pbet A B f (n + 1)
    | none, some _ => true
    | some _, none => false
    | some (a, b, c, d), some (p, q, r, s) => if a = p ∧ b = q ∧ c = r ∧ d = s then pbet A B f (n + 1) else vLess p q r s a b c d
def pkBetter (A B : List Pk) : Bool := pkOk A && (pkOk B && pbet A B 8 0)
def BetRel (A B : List Pk) (w : World) (i : Value) (wr : World) : Prop :=
  ∃ k : Nat, k ≤ 8 ∧ i = .int .i64 (k : Int) ∧ pbet A B 8 0 = pbet A B (8 - k) (k : Int) ∧ Below w.heap.size w wr
theorem pbet_here (A B : List Pk) {k : Nat} (hk : k < 8) : pbet A B (8 - k) (k : Int) = match pkGet (k : Int) A, pkGet (k : Int) B with
    | none, none => pbet A B (8 - (k + 1)) ((k + 1 : Nat) : Int)
    | none, some _ => true
    | some _, none => false
    | some (a, b, c, d), some (p, q, r, s) => if a = p ∧ b = q ∧ c = r ∧ d = s then pbet A B (8 - (k + 1)) ((k + 1 : Nat) : Int) else vLess p q r s a b c d := by
  rw [show 8 - k = (8 - (k + 1)) + 1 by omega]
  rfl
theorem bet_push {A B : List Pk} {w wr : World} {k : Nat} (hk : k < 8) (ho : pbet A B 8 0 = pbet A B (8 - (k + 1)) ((k + 1 : Nat) : Int)) (hb : Below w.heap.size w wr) : BetRel A B w (.int .i64 ((k : Int) + 1)) wr :=
  ⟨k + 1, by omega, by go_num, ho, hb⟩
theorem VerBox (w : World) (a b c d : Int) {W : World} (hW : Below (w.heap.size + 1) (w.alloc (.cells #[.int .i64 a, .int .i64 b, .int .i64 c, .int .i64 d] 61)) W) :
    W.cell? ⟨w.heap.size, 0, none⟩ = some (.int .i64 a) ∧ W.cell? ⟨w.heap.size, 1, none⟩ = some (.int .i64 b) ∧ W.cell? ⟨w.heap.size, 2, none⟩ = some (.int .i64 c) ∧ W.cell? ⟨w.heap.size, 3, none⟩ = some (.int .i64 d) := by
  refine ⟨(hW.cell (p := ⟨w.heap.size, 0, none⟩) (Nat.lt_succ_self _)).trans ?_, (hW.cell (p := ⟨w.heap.size, 1, none⟩) (Nat.lt_succ_self _)).trans ?_, (hW.cell (p := ⟨w.heap.size, 2, none⟩) (Nat.lt_succ_self _)).trans ?_, (hW.cell (p := ⟨w.heap.size, 3, none⟩) (Nat.lt_succ_self _)).trans ?_⟩ <;> go_simp

end Go.Proofs.Ytgnjhmmedogcoaa

/- Plain facts of picks in ascending rows: each pick is found by its name; two rows in which each name has the same version are one; of two rows one is better, or they are one, and never both. No statement of the program is in it. -/
namespace Go.Proofs.Ytgnjhmmedogcoaa

namespace Pkf
theorem from_low : ∀ {M : List Pk} {lo : Int}, pkFrom lo M = true → ∀ q ∈ M, lo ≤ q.1
  | [], _, _, q, hq => by simp at hq
  | x :: t, lo, h, q, hq => by
    simp only [pkFrom, Bool.and_eq_true, decide_eq_true_eq] at h
    rcases List.mem_cons.1 hq with rfl | hq
    · exact h.1.1
    · have := from_low h.2.2 q hq
      omega
theorem from_top : ∀ {M : List Pk} {lo : Int}, pkFrom lo M = true → ∀ q ∈ M, q.1 ≤ 7 ∧ vOk q.2.1 q.2.2.1 q.2.2.2.1 q.2.2.2.2 = true
  | [], _, _, q, hq => by simp at hq
  | x :: t, lo, h, q, hq => by
    simp only [pkFrom, Bool.and_eq_true, decide_eq_true_eq] at h
    rcases List.mem_cons.1 hq with rfl | hq
    · exact ⟨h.1.2, h.2.1⟩
    · exact from_top h.2.2 q hq
theorem get_none : ∀ {M : List Pk} {lo n : Int}, pkFrom lo M = true → n < lo → pkGet n M = none
  | [], _, _, _, _ => rfl
  | x :: t, lo, n, h, hn => by
    simp only [pkFrom, Bool.and_eq_true, decide_eq_true_eq] at h
    unfold pkGet
    rw [if_neg (by omega)]
    exact get_none h.2.2 (by omega)
theorem get_mem : ∀ {M : List Pk} {n : Int} {v : V4}, pkGet n M = some v → (n, v) ∈ M
  | [], _, _, h => by simp [pkGet] at h
  | x :: t, n, v, h => by
    unfold pkGet at h
    split at h
    · rename_i e
      cases h
      rw [← e]
      simp
    · exact List.mem_cons_of_mem _ (get_mem h)
theorem get_here : ∀ {M : List Pk} {lo : Int} (_ : pkFrom lo M = true) {k : Nat} {q : Pk} (_ : M[k]? = some q), pkGet q.1 M = some q.2
  | [], _, _, k, q, hk => by simp at hk
  | x :: t, lo, h, 0, q, hk => by
    obtain rfl : x = q := by simpa using hk
    unfold pkGet
    rw [if_pos rfl]
  | x :: t, lo, h, k + 1, q, hk => by
    simp only [pkFrom, Bool.and_eq_true, decide_eq_true_eq] at h
    have hk' : t[k]? = some q := by simpa using hk
    have hlow := from_low h.2.2 q (List.mem_of_getElem? hk')
    unfold pkGet
    rw [if_neg (by omega)]
    exact get_here h.2.2 hk'
theorem same_rows : ∀ {A B : List Pk} {lo : Int}, pkFrom lo A = true → pkFrom lo B = true → (∀ m, lo ≤ m → m ≤ 7 → pkGet m A = pkGet m B) → A = B
  | [], [], _, _, _, _ => rfl
  | [], y :: t, lo, _, hB, h => by
    simp only [pkFrom, Bool.and_eq_true, decide_eq_true_eq] at hB
    have := h y.1 hB.1.1 hB.1.2
    simp [pkGet] at this
  | x :: s, [], lo, hA, _, h => by
    simp only [pkFrom, Bool.and_eq_true, decide_eq_true_eq] at hA
    have := h x.1 hA.1.1 hA.1.2
    simp [pkGet] at this
  | x :: s, y :: t, lo, hA, hB, h => by
    have hA' := hA
    have hB' := hB
    simp only [pkFrom, Bool.and_eq_true, decide_eq_true_eq] at hA hB
    have hx := h x.1 hA.1.1 hA.1.2
    have hy := h y.1 hB.1.1 hB.1.2
    unfold pkGet at hx hy
    rw [if_pos rfl] at hx hy
    have e1 : y.1 = x.1 := by
      by_cases e : y.1 = x.1
      · exact e
      rw [if_neg e] at hx
      rw [if_neg (fun k => e k.symm)] at hy
      by_cases hlt : x.1 < y.1
      · rw [get_none hB.2.2 (by omega)] at hx
        cases hx
      · rw [get_none hA.2.2 (by omega)] at hy
        cases hy
    rw [if_pos e1] at hx
    have exy : x = y := Prod.ext e1.symm (Option.some.inj hx)
    subst exy
    rw [same_rows hA.2.2 hB.2.2 fun m h1 h2 => by
      have := h m (by omega) h2
      unfold pkGet at this
      rwa [if_neg (by omega), if_neg (by omega)] at this]

theorem less_one {a b c d p q r s : Int} (h1 : vOk a b c d = true) (h2 : vOk p q r s = true) (hn : ¬ (a = p ∧ b = q ∧ c = r ∧ d = s)) : vLess p q r s a b c d = !vLess a b c d p q r s := by
  have k : vRank a b c d ≠ vRank p q r s := fun e => by
    have a := vOk_iff.1 h1
    have b := vOk_iff.1 h2
    unfold vRank at e
    rw [if_pos h1, if_pos h2] at e
    unfold rk at e
    exact hn (by omega)
  unfold vLess
  rw [h1, h2, Bool.true_and, Bool.true_and, Bool.true_and, Bool.true_and, ← decide_not, decide_eq_decide]
  omega
theorem bet_pair (A B : List Pk) (hA : ∀ q ∈ A, vOk q.2.1 q.2.2.1 q.2.2.2.1 q.2.2.2.2 = true) (hB : ∀ q ∈ B, vOk q.2.1 q.2.2.1 q.2.2.2.1 q.2.2.2.2 = true) :
    ∀ (f : Nat) (n : Int), ((∀ m, n ≤ m → m < n + f → pkGet m A = pkGet m B) → pbet A B f n = false ∧ pbet B A f n = false) ∧
      (¬ (∀ m, n ≤ m → m < n + f → pkGet m A = pkGet m B) → pbet B A f n = !pbet A B f n)
  | 0, n => ⟨fun _ => ⟨rfl, rfl⟩, fun h => absurd (fun m h1 h2 => absurd h2 (by simp; omega)) h⟩
  | f + 1, n => by
    have IH := bet_pair A B hA hB f (n + 1)
    have up : pkGet n A = pkGet n B → ((∀ m, n ≤ m → m < n + (f + 1 : Nat) → pkGet m A = pkGet m B) ↔ (∀ m, n + 1 ≤ m → m < n + 1 + f → pkGet m A = pkGet m B)) := fun e =>
      ⟨fun h m h1 h2 => h m (by omega) (by push_cast; omega), fun h m h1 h2 => by
        by_cases k : m = n
        · rw [k]; exact e
        · exact h m (by omega) (by push_cast at h2; omega)⟩
    have not : ¬ pkGet n A = pkGet n B → ¬ (∀ m, n ≤ m → m < n + (f + 1 : Nat) → pkGet m A = pkGet m B) := fun e h => e (h n (Int.le_refl _) (by push_cast; omega))
    unfold pbet
    rcases ea : pkGet n A with _ | ⟨a, b, c, d⟩
    · rcases eb : pkGet n B with _ | ⟨p, q, r, s⟩
      · rw [up (by rw [ea, eb])]
        exact IH
      · have k := not (by rw [ea, eb]; simp)
        exact ⟨fun h => absurd h k, fun _ => rfl⟩
    · rcases eb : pkGet n B with _ | ⟨p, q, r, s⟩
      · have k := not (by rw [ea, eb]; simp)
        exact ⟨fun h => absurd h k, fun _ => rfl⟩
      · simp only
        by_cases e : a = p ∧ b = q ∧ c = r ∧ d = s
        · obtain ⟨rfl, rfl, rfl, rfl⟩ := e
          rw [up (by rw [ea, eb]), if_pos ⟨rfl, rfl, rfl, rfl⟩, if_pos ⟨rfl, rfl, rfl, rfl⟩]
          exact IH
        · have k := not (by rw [ea, eb]; intro h; simp at h; exact e h)
          rw [if_neg e, if_neg (fun h => e ⟨h.1.symm, h.2.1.symm, h.2.2.1.symm, h.2.2.2.symm⟩)]
          refine ⟨fun h => absurd h k, fun _ => ?_⟩
          have va := hA _ (get_mem ea)
          have vb := hB _ (get_mem eb)
          rw [less_one va vb e, Bool.not_not]
/-- Of two fine rows: one is better, or they are one; never both. -/
theorem better_law {A B : List Pk} (hA : pkOk A = true) (hB : pkOk B = true) : decide (A = B) = (!pkBetter A B && !pkBetter B A) ∧ (pkBetter A B && pkBetter B A) = false := by
  have H := bet_pair A B (fun q h => (from_top hA q h).2) (fun q h => (from_top hB q h).2) 8 0
  have b1 : pkBetter A B = pbet A B 8 0 := by unfold pkBetter; rw [hA, hB]; rfl
  have b2 : pkBetter B A = pbet B A 8 0 := by unfold pkBetter; rw [hA, hB]; rfl
  rw [b1, b2]
  by_cases e : A = B
  · have k := H.1 (fun m _ _ => by rw [e])
    rw [k.1, k.2, decide_eq_true e]
    exact ⟨rfl, rfl⟩
  · have k := H.2 (fun h => e (same_rows hA hB fun m h1 h2 => h m h1 (by omega)))
    rw [k, decide_eq_false e]
    cases pbet A B 8 0 <;> exact ⟨rfl, rfl⟩
end Pkf
end Go.Proofs.Ytgnjhmmedogcoaa

/- Contracts of the functions that find the version that is picked of a name, over this seat's translation, the program's and the model's: all answer as the plain function pkGet; nothing that was there before the call has changed. Condition: at most 1048576 picks. -/
import Derived.Test.YtjnmkkcdcacakaaGg
import Derived.Handy
import Derived.Deep.CutRange
namespace Go.Proofs.Ytjnmkkcdcacakaa
open Go.RowKit Go.Sort

abbrev V4 := Int × Int × Int × Int
/-- The version of the first pick of a name. -/
def pkGet (n : Int) : List Pk → Option V4
  | [] => none
  | q :: t => if q.1 = n then some q.2 else pkGet n t
def pkOf (M : List Pk) (n : Int) : Option V4 := if pkOk M = true then pkGet n M else none
/-- What is answered: a version and true, or the zero value and false. -/
def got : Option V4 → Value
  | some (a, b, c, d) => .tuple #[ver a b c d, .bool true]
  | none => .tuple #[ver 0 0 0 0, .bool false]
theorem pkGet_step {M : List Pk} {k : Nat} {q : Pk} (h : M[k]? = some q) (n : Int) : pkGet n (M.drop k) = if q.1 = n then some q.2 else pkGet n (M.drop (k + 1)) := by
  have hk : k < M.length := (List.getElem?_eq_some_iff.1 h).1
  rw [List.drop_eq_getElem_cons hk, (List.getElem?_eq_some_iff.1 h).2]
  rfl

/-- Four cells of a block, written and read. -/
theorem ver_stored {W : World} {p : Nat} {x0 x1 x2 x3 : Value} (h0 : W.cell? ⟨p, 0, none⟩ = some x0) (h1 : W.cell? ⟨p, 1, none⟩ = some x1) (h2 : W.cell? ⟨p, 2, none⟩ = some x2) (h3 : W.cell? ⟨p, 3, none⟩ = some x3) (a b c d : Value) :
    ((((W.setCell ⟨p, 0, none⟩ a).setCell ⟨p, 1, none⟩ b).setCell ⟨p, 2, none⟩ c).setCell ⟨p, 3, none⟩ d).cell? ⟨p, 0, none⟩ = some a ∧ ((((W.setCell ⟨p, 0, none⟩ a).setCell ⟨p, 1, none⟩ b).setCell ⟨p, 2, none⟩ c).setCell ⟨p, 3, none⟩ d).cell? ⟨p, 1, none⟩ = some b ∧
    ((((W.setCell ⟨p, 0, none⟩ a).setCell ⟨p, 1, none⟩ b).setCell ⟨p, 2, none⟩ c).setCell ⟨p, 3, none⟩ d).cell? ⟨p, 2, none⟩ = some c ∧ ((((W.setCell ⟨p, 0, none⟩ a).setCell ⟨p, 1, none⟩ b).setCell ⟨p, 2, none⟩ c).setCell ⟨p, 3, none⟩ d).cell? ⟨p, 3, none⟩ = some d := by
  have o : ∀ (V : World) (i j : Nat) (x : Value), i ≠ j → (V.setCell ⟨p, i, none⟩ x).cell? ⟨p, j, none⟩ = V.cell? ⟨p, j, none⟩ := fun V i j x h => World.cell?_setCell_other (h := fun e => h (Addr.mk.inj e).2.1) ..
  have s : ∀ (V : World) (i : Nat) (x u : Value), V.cell? ⟨p, i, none⟩ = some u → (V.setCell ⟨p, i, none⟩ x).cell? ⟨p, i, none⟩ = some x := fun V i x u h => World.cell?_setCell_same (h := h) ..
  refine ⟨?_, ?_, ?_, ?_⟩
  · rw [o _ 3 0 _ (by decide), o _ 2 0 _ (by decide), o _ 1 0 _ (by decide), s _ _ _ _ h0]
  · rw [o _ 3 1 _ (by decide), o _ 2 1 _ (by decide)]
    exact s _ _ _ _ ((o _ 0 1 _ (by decide)).trans h1)
  · rw [o _ 3 2 _ (by decide)]
    exact s _ _ _ _ ((o _ 1 2 _ (by decide)).trans ((o _ 0 2 _ (by decide)).trans h2))
  · exact s _ _ _ _ ((o _ 2 3 _ (by decide)).trans ((o _ 1 3 _ (by decide)).trans ((o _ 0 3 _ (by decide)).trans h3)))
/-- Cells of a block that was there are there behind an allocation. -/
theorem cell_alloc {W : World} {p j : Nat} {x : Value} (h : W.cell? ⟨p, j, none⟩ = some x) (O : Obj) : (W.alloc O).cell? ⟨p, j, none⟩ = some x :=
  (((Below.refl W.heap.size W).alloc (Nat.le_refl _) O).cell (p := ⟨p, j, none⟩) (World.block_lt_of_cell? W _ h)).trans h

/-- What the loops keep: what is left decides; the result's cells are as they were. -/
def GetRel (M : List Pk) (n : Int) (w1 : World) (i : Value) (wr : World) : Prop :=
  ∃ k : Nat, k ≤ M.length ∧ i = .int .i64 (k : Int) ∧ pkGet n M = pkGet n (M.drop k) ∧ Below w1.heap.size w1 wr
theorem get_push {M : List Pk} {n : Int} {w1 wr : World} {k : Nat} {q : Pk} (hM : M[k]? = some q) (ho : pkGet n M = pkGet n (M.drop k)) (hn : ¬ q.1 = n) (hb : Below w1.heap.size w1 wr) :
    GetRel M n w1 (.int .i64 ((k : Int) + 1)) wr := by
  have hk : k < M.length := (List.getElem?_eq_some_iff.1 hM).1
  exact ⟨k + 1, by omega, by go_num, by rw [ho, pkGet_step hM, if_neg hn], hb⟩

set_option maxRecDepth 100000 in
set_option maxHeartbeats 4000000 in
theorem versionPicked_any (u : Value) (M : List Pk) (n : Int) (w : World) (hl : M.length ≤ 1048576) (h : PkAt w w.heap.size u M) :
    Calls Try.prog 83 #[u, .int .i64 n] w fun e w' => e = .returned (got (pkGet n M)) ∧ Below w.heap.size w w' := by
  obtain ⟨a, cap, rfl, h⟩ := h
  obtain ⟨w1, hw1⟩ : ∃ V : World, V = w.alloc (.cells #[.int .i64 0, .int .i64 0, .int .i64 0, .int .i64 0] 69) := ⟨_, rfl⟩
  have b1 : Below w.heap.size w w1 := by
    rw [hw1]
    exact (Below.refl w.heap.size w).alloc (Nat.le_refl _) _
  have s1 : w.heap.size + 1 ≤ w1.heap.size := by rw [hw1]; simp
  have y0 : w1.cell? ⟨w.heap.size, 0, none⟩ = some (.int .i64 0) := by rw [hw1]; go_simp
  have y1 : w1.cell? ⟨w.heap.size, 1, none⟩ = some (.int .i64 0) := by rw [hw1]; go_simp
  have y2 : w1.cell? ⟨w.heap.size, 2, none⟩ = some (.int .i64 0) := by rw [hw1]; go_simp
  have y3 : w1.cell? ⟨w.heap.size, 3, none⟩ = some (.int .i64 0) := by rw [hw1]; go_simp
  have f0 : w1.frozen? ⟨w.heap.size, 0, none⟩ = false := by rw [hw1]; go_simp
  have f1 : w1.frozen? ⟨w.heap.size, 1, none⟩ = false := by rw [hw1]; go_simp
  have f2 : w1.frozen? ⟨w.heap.size, 2, none⟩ = false := by rw [hw1]; go_simp
  have f3 : w1.frozen? ⟨w.heap.size, 3, none⟩ = false := by rw [hw1]; go_simp
  go_enter Try.func83, Try.ntmps83
  go_upto_region 1 with fail
  rw [← hw1]
  clear hw1
  go_wp2_with fail
  go_loopw [10] (fun i wr => GetRel M n w1 i wr) (fun i _ => M.length - (intOf i).toNat)
  case atStart => exact ⟨0, Nat.zero_le _, rfl, rfl, Below.refl _ _⟩
  case round =>
    obtain ⟨k, hk, rfl, ho, hb⟩ := hrel
    have HO := Lib.hid ho
    have HB := Lib.hid hb
    clear ho
    have sr := hb.size
    have z0 := (hb.cell (p := ⟨w.heap.size, 0, none⟩) (by show w.heap.size < w1.heap.size; omega)).trans y0
    have z1 := (hb.cell (p := ⟨w.heap.size, 1, none⟩) (by show w.heap.size < w1.heap.size; omega)).trans y1
    have z2 := (hb.cell (p := ⟨w.heap.size, 2, none⟩) (by show w.heap.size < w1.heap.size; omega)).trans y2
    have z3 := (hb.cell (p := ⟨w.heap.size, 3, none⟩) (by show w.heap.size < w1.heap.size; omega)).trans y3
    have g0 := (hb.frozen (p := ⟨w.heap.size, 0, none⟩) (by show w.heap.size < w1.heap.size; omega)).trans f0
    have g1 := (hb.frozen (p := ⟨w.heap.size, 1, none⟩) (by show w.heap.size < w1.heap.size; omega)).trans f1
    have g2 := (hb.frozen (p := ⟨w.heap.size, 2, none⟩) (by show w.heap.size < w1.heap.size; omega)).trans f2
    have g3 := (hb.frozen (p := ⟨w.heap.size, 3, none⟩) (by show w.heap.size < w1.heap.size; omega)).trans f3
    have bw := b1.trans (hb.mono b1.size)
    clear y0 y1 y2 y3 f0 f1 f2 f3
    by_cases hlt : k < M.length
    · rcases h with h | ⟨g, o, rfl, hB, hc⟩
      · subst h
        exact absurd hlt (by simp)
      obtain ⟨x, a1, c1, d1, e1, hxy⟩ : ∃ x a1 c1 d1 e1, M[k] = (x, a1, c1, d1, e1) := ⟨_, _, _, _, _, rfl⟩
      have m1 := (hc k hlt).below bw hB
      rw [hxy] at m1
      obtain ⟨k0, k1, k2, k3, k4⟩ := m1
      simp only at k0 k1 k2 k3 k4
      have HY := Lib.hid (show M[k]? = some (x, a1, c1, d1, e1) by rw [List.getElem?_eq_getElem hlt, hxy])
      have mg : g < wr.heap.size := Nat.lt_of_lt_of_le hB bw.size
      have mn : w.heap.size < wr.heap.size := by omega
      have BB := Lib.hid (hb.alloc hb.size (.cells #[.int .i64 x, .int .i64 a1, .int .i64 c1, .int .i64 d1, .int .i64 e1] 82))
      have BW := Lib.hid bw
      clear hxy hc hb bw
      by_cases hn : x = n
      · have HF := Lib.hid (show pkGet n M = some (a1, c1, d1, e1) by rw [HO.out, pkGet_step HY.out, if_pos hn])
        subst hn
        have V0 := ver_stored z0 z1 z2 z3 (.int .i64 a1) (.int .i64 c1) (.int .i64 d1) (.int .i64 e1)
        obtain ⟨u0, u1, u2, u3⟩ := V0
        have v0 := cell_alloc u0 (.cells #[.int .i64 x, .int .i64 a1, .int .i64 c1, .int .i64 d1, .int .i64 e1] 82)
        have v1 := cell_alloc u1 (.cells #[.int .i64 x, .int .i64 a1, .int .i64 c1, .int .i64 d1, .int .i64 e1] 82)
        have v2 := cell_alloc u2 (.cells #[.int .i64 x, .int .i64 a1, .int .i64 c1, .int .i64 d1, .int .i64 e1] 82)
        have v3 := cell_alloc u3 (.cells #[.int .i64 x, .int .i64 a1, .int .i64 c1, .int .i64 d1, .int .i64 e1] 82)
        clear u0 u1 u2 u3
        have NB := Lib.hid ((((BW.out.setCell (p := ⟨w.heap.size, 0, none⟩) (Nat.le_refl _) (.int .i64 a1)).setCell (p := ⟨w.heap.size, 1, none⟩) (Nat.le_refl _) (.int .i64 c1)).setCell (p := ⟨w.heap.size, 2, none⟩) (Nat.le_refl _) (.int .i64 d1)).setCell (p := ⟨w.heap.size, 3, none⟩) (Nat.le_refl _) (.int .i64 e1))
        go_wp2_with fail
        exact bodyPost_ret (v := .tuple #[ver a1 c1 d1 e1, .bool true]) (by simp [results, Try.results83, go_sem, v0, v1, v2, v3]) rfl ⟨by rw [HF.out]; rfl, NB.out.alloc NB.out.size _⟩
      · have HP := Lib.hid (get_push HY.out HO.out hn BB.out)
        have hz : (x == n) = false := by rw [beq_eq_false_iff_ne]; exact hn
        go_wp2_with fail
        go_roundw
        case rel => exact HP.out
        case measure => simp [intOf]; omega
    · obtain rfl : k = M.length := by omega
      have HF := Lib.hid (show pkGet n M = none by rw [HO.out, List.drop_length]; rfl)
      have V0 := ver_stored z0 z1 z2 z3 (.int .i64 0) (.int .i64 0) (.int .i64 0) (.int .i64 0)
      obtain ⟨v0, v1, v2, v3⟩ := V0
      have NB := Lib.hid ((((bw.setCell (p := ⟨w.heap.size, 0, none⟩) (Nat.le_refl _) (.int .i64 0)).setCell (p := ⟨w.heap.size, 1, none⟩) (Nat.le_refl _) (.int .i64 0)).setCell (p := ⟨w.heap.size, 2, none⟩) (Nat.le_refl _) (.int .i64 0)).setCell (p := ⟨w.heap.size, 3, none⟩) (Nat.le_refl _) (.int .i64 0))
      go_wp2_with fail
      exact bodyPost_ret (v := .tuple #[ver 0 0 0 0, .bool false]) (by simp [results, Try.results83, go_sem, v0, v1, v2, v3]) rfl ⟨by rw [HF.out]; rfl, NB.out⟩

end Go.Proofs.Ytjnmkkcdcacakaa

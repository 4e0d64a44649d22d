/- Contract of the program's releasesBefore, over this seat's translation: the number of releases at the front of a row that stand before a release; nothing that was there before the call has changed. Condition: at most 1048576 releases. -/
import Derived.Test.YtdjnfmekbjmdhaaRoki
import Derived.Test.YtdjnfmekbjmdhaaRgone
namespace Go.Proofs.Ytdjnfmekbjmdhaa
open Go.RowKit Go.Sort

namespace Copy
def befL (x : Rel) : List Rel → Nat
  | [] => 0
  | y :: t => if relLess y x = true then befL x t + 1 else 0
theorem befL_le (x : Rel) : ∀ S : List Rel, befL x S ≤ S.length
  | [] => Nat.le_refl _
  | y :: t => by
    unfold befL
    split
    · have := befL_le x t
      simp; omega
    · omega
def BfRel (S : List Rel) (x : Rel) (w1 : World) (i : Value) (wr : World) : Prop :=
  ∃ k : Nat, k ≤ S.length ∧ i = .int .i64 (k : Int) ∧ befL x S = k + befL x (S.drop k) ∧ Below w1.heap.size w1 wr
theorem bef_yes {S : List Rel} {x y : Rel} {k : Nat} (hy : S[k]? = some y) (hl : relLess y x = true) (h : befL x S = k + befL x (S.drop k)) : befL x S = (k + 1) + befL x (S.drop (k + 1)) := by
  have hk : k < S.length := (List.getElem?_eq_some_iff.1 hy).1
  rw [List.drop_eq_getElem_cons hk, (List.getElem?_eq_some_iff.1 hy).2, befL, if_pos hl] at h
  omega
theorem bef_no {S : List Rel} {x y : Rel} {k : Nat} (hy : S[k]? = some y) (hl : relLess y x = false) (h : befL x S = k + befL x (S.drop k)) : befL x S = k := by
  have hk : k < S.length := (List.getElem?_eq_some_iff.1 hy).1
  rw [List.drop_eq_getElem_cons hk, (List.getElem?_eq_some_iff.1 hy).2, befL, if_neg (by simp [hl])] at h
  omega

set_option maxRecDepth 100000 in
set_option maxHeartbeats 4000000 in
theorem releasesBefore_any (v : Value) (S : List Rel) (x a b c d : Int) (f : Bool) (ad : Option Addr) (cap : Nat) (M : List Nd) (w : World) (h : RlAt w w.heap.size v S) (hl : S.length ≤ 1048576) :
    Calls Try.prog 66 #[v, rels x a b c d f (.slice ad M.length cap)] w fun e w' => e = .returned (.int .i64 (befL (x, (a, b, c, d), f, M) S)) ∧ Below w.heap.size w w' := by
  obtain ⟨sa, caps, rfl, h⟩ := h
  have h0 := h
  clear h
  obtain ⟨w1, hw1⟩ : ∃ V : World, V = w.alloc (.cells #[.int .i64 x, .int .i64 a, .int .i64 b, .int .i64 c, .int .i64 d, .bool f, .slice ad M.length cap] 41) := ⟨_, rfl⟩
  have b1 : Below w.heap.size w w1 := by rw [hw1]; exact (Below.refl w.heap.size w).alloc (Nat.le_refl _) _
  have z1 : w.heap.size + 1 ≤ w1.heap.size := by rw [hw1]; simp
  have q0 : w1.cell? ⟨w.heap.size, 0, none⟩ = some (.int .i64 x) := by rw [hw1]; go_simp
  have q1 : w1.cell? ⟨w.heap.size, 1, none⟩ = some (.int .i64 a) := by rw [hw1]; go_simp
  have q2 : w1.cell? ⟨w.heap.size, 2, none⟩ = some (.int .i64 b) := by rw [hw1]; go_simp
  have q3 : w1.cell? ⟨w.heap.size, 3, none⟩ = some (.int .i64 c) := by rw [hw1]; go_simp
  have q4 : w1.cell? ⟨w.heap.size, 4, none⟩ = some (.int .i64 d) := by rw [hw1]; go_simp
  have q5 : w1.cell? ⟨w.heap.size, 5, none⟩ = some (.bool f) := by rw [hw1]; go_simp
  have q6 : w1.cell? ⟨w.heap.size, 6, none⟩ = some (.slice ad M.length cap) := by rw [hw1]; go_simp
  go_enter Try.func66, Try.ntmps66
  go_upto_region 1 with fail
  rw [← hw1]
  clear hw1
  go_wp2_with fail
  go_loopw [5] (fun i wr => BfRel S (x, (a, b, c, d), f, M) w1 i wr) (fun i _ => S.length - (intOf i).toNat)
  case atStart => exact ⟨0, Nat.zero_le _, rfl, by simp, Below.refl _ _⟩
  case round =>
    obtain ⟨k, hk, rfl, hbe, hb⟩ := hrel
    have HE := Lib.hid hbe
    have hw : Below w.heap.size w wr := b1.trans (hb.mono (by omega))
    have lt1 : w.heap.size < w1.heap.size := by omega
    have t0 := cell_regrown ((hb.cell (p := ⟨w.heap.size, 0, none⟩) lt1).trans q0)
    have t1 := cell_regrown ((hb.cell (p := ⟨w.heap.size, 1, none⟩) lt1).trans q1)
    have t2 := cell_regrown ((hb.cell (p := ⟨w.heap.size, 2, none⟩) lt1).trans q2)
    have t3 := cell_regrown ((hb.cell (p := ⟨w.heap.size, 3, none⟩) lt1).trans q3)
    have t4 := cell_regrown ((hb.cell (p := ⟨w.heap.size, 4, none⟩) lt1).trans q4)
    have t5 := cell_regrown ((hb.cell (p := ⟨w.heap.size, 5, none⟩) lt1).trans q5)
    have t6 := cell_regrown ((hb.cell (p := ⟨w.heap.size, 6, none⟩) lt1).trans q6)
    clear hbe
    by_cases hlt : k < S.length
    · rcases h0 with h0 | ⟨bb, o, rfl, hB, hc⟩
      · subst h0
        exact absurd hlt (by simp)
      obtain ⟨x', a', b', c', d', f', M', hxy⟩ : ∃ x a b c d f M, S[k] = (x, (a, b, c, d), f, M) := ⟨_, _, _, _, _, _, _, rfl⟩
      have e := (hc k hlt).below hw hB
      rw [hxy] at e
      obtain ⟨⟨e0, e1, e2, e3, e4, e5⟩, ad', cap', e6, hs⟩ := e
      simp only at e0 e1 e2 e3 e4 e5 e6
      have HY := Lib.hid (show S[k]? = some (x', (a', b', c', d'), f', M') by rw [List.getElem?_eq_getElem hlt, hxy])
      clear hxy hs hc
      have j0 : (0 : Int) ≤ (k : Int) := by omega
      have j1 : (k : Int) < (S.length : Int) := by omega
      have u0 := cell_regrown e0
      have u1 := cell_regrown e1
      have u2 := cell_regrown e2
      have u3 := cell_regrown e3
      have u4 := cell_regrown e4
      have u5 := cell_regrown e5
      have u6 := cell_regrown e6
      clear e0 e1 e2 e3 e4 e5 e6
      have KL : Hid (∀ V, Calls Try.prog 94 #[rels x' a' b' c' d' f' (.slice ad' M'.length cap'), rels x a b c d f (.slice ad M.length cap)] V fun e w' => e = .returned (.bool (relLess (x', (a', b', c', d'), f', M') (x, (a, b, c, d), f, M))) ∧ Below V.heap.size V w') := Lib.hid fun V => releaseLess_any x' a' b' c' d' x a b c d f' f _ _ M' M V ⟨_, _, _, rfl⟩ ⟨_, _, _, rfl⟩
      rcases hr : relLess (x', (a', b', c', d'), f', M') (x, (a, b, c, d), f, M)
      · have HF := Lib.hid (bef_no HY.out hr HE.out)
        rw [hr] at KL
        clear hr
        go_wp2_with fail
        refine wp_region_quiet_below (by kernel_rfl) (by kernel_rfl) ?_
        repeat (any_goals (first | go_big_quiet_step ((go_at_call 94; exact Calls.regrown_of (KL.out _))) | quiet_step ((go_at_call 94; exact Calls.regrown_of (KL.out _)))))
        refine wpQuiet_nil ?_
        intro W2 hw2
        have nn := quiet_end hw2
        clear hw2 t0 t1 t2 t3 t4 t5 t6 u0 u1 u2 u3 u4 u5 u6
        go_wp2_with fail
        go_ret
        exact ⟨by rw [HF.out]; rfl, hw.trans (nn.mono hw.size)⟩
      · have HF := Lib.hid (bef_yes HY.out hr HE.out)
        rw [hr] at KL
        clear hr
        go_wp2_with fail
        refine wp_region_quiet_below (by kernel_rfl) (by kernel_rfl) ?_
        repeat (any_goals (first | go_big_quiet_step ((go_at_call 94; exact Calls.regrown_of (KL.out _))) | quiet_step ((go_at_call 94; exact Calls.regrown_of (KL.out _)))))
        refine wpQuiet_nil ?_
        intro W2 hw2
        have nn := quiet_end hw2
        clear hw2 t0 t1 t2 t3 t4 t5 t6 u0 u1 u2 u3 u4 u5 u6
        have HB := Lib.hid (hb.trans (nn.mono hb.size))
        go_wp2_with fail
        go_roundw
        case rel => exact ⟨k + 1, by omega, by go_num, HF.out, HB.out⟩
        case measure => simp [intOf]; omega
    · obtain rfl : k = S.length := by omega
      have hbz : befL (x, (a, b, c, d), f, M) S = S.length := by have := HE.out; rw [List.drop_length] at this; simpa [befL] using this
      have HF := Lib.hid hbz
      clear hbz
      go_wp2_with fail
      refine wp_region_quiet_below (by kernel_rfl) (by kernel_rfl) ?_
      repeat (any_goals (first | go_big_quiet_step (fail) | quiet_step (fail)))
      refine wpQuiet_nil ?_
      intro W2 hw2
      have nn := quiet_end hw2
      clear hw2 t0 t1 t2 t3 t4 t5 t6
      go_wp2_with fail
      go_ret
      exact ⟨by rw [HF.out]; rfl, hw.trans (nn.mono hw.size)⟩
end Copy
end Go.Proofs.Ytdjnfmekbjmdhaa

/- Contract of the law's function that tells whether rows of what targets came to are the same, over this seat's translation, and what each target of a world comes to, as plain facts. Condition: at most 1048576 of them. -/
import Derived.Test.YtopplljilmjjgaaBlp
import Derived.BigQuiet
namespace Go.Proofs.Ytopplljilmjjgaa
open Go.RowKit Go.Sort
namespace Bl
open Wl Md Rx
theorem bFrom_old : ∀ (T : List Tgt) (D : List Mde) (i : Nat), i < D.length → (bFrom D T)[i]? = D[i]?
  | [], _, _, _ => rfl
  | x :: t, D, i, h => by
    rw [bFrom, bFrom_old t _ i (by simp; omega), List.getElem?_append_left h]
theorem bFrom_new : ∀ (T : List Tgt) (D : List Mde) (k : Nat) (x : Tgt), T[k]? = some x → ∃ D', D'.length = D.length + k ∧ (∀ i, i < D'.length → (bFrom D T)[i]? = D'[i]?) ∧ (bFrom D T)[D.length + k]? = some (one D' x)
  | y :: t, D, 0, x, h => by
    simp at h
    subst h
    refine ⟨D, rfl, fun i hi => bFrom_old _ _ _ hi, ?_⟩
    rw [bFrom, bFrom_old t _ _ (by simp), List.getElem?_append_right (by omega)]
    simp
  | y :: t, D, k + 1, x, h => by
    simp only [List.getElem?_cons_succ] at h
    obtain ⟨D', h1, h2, h3⟩ := bFrom_new t (D ++ [one D y]) k x h
    rw [List.length_append] at h1 h3
    refine ⟨D', by simp at h1; omega, h2, ?_⟩
    rw [bFrom, show D.length + (k + 1) = D.length + [one D y].length + k by simp; omega]
    exact h3
theorem build_len {S : List Tgt} (h : wOk S = true) : (buildL S).length = S.length := by unfold buildL; rw [if_pos h, bFrom_len]; simp
theorem build_no {S : List Tgt} (h : wOk S = false) : buildL S = [] := by unfold buildL; rw [h]; rfl
theorem one_fail {D : List Mde} {x : Tgt} (h : (one D x).1 = false) : (one D x).2 = ⟨#[]⟩ := by
  unfold one at h ⊢
  split at h
  · cases h
  · rename_i h1
    rw [if_neg h1]
    split at h
    · rename_i h2
      rw [if_pos h2]
      unfold runMade ranMade at h ⊢
      split at h
      · cases h
      · rename_i h3
        rw [if_neg h3]
    · rename_i h2
      rw [if_neg h2]
theorem build_at {S : List Tgt} {k : Nat} {x : Tgt} (h : wOk S = true) (hx : S[k]? = some x) : ∃ r, (buildL S)[k]? = some r ∧ (x.1 = false → r = (true, x.2.1)) ∧ r.2.size ≤ 40 ∧ (r.1 = false → r.2 = ⟨#[]⟩) := by
  obtain ⟨D', _, _, h3⟩ := bFrom_new S [] k x hx
  refine ⟨one D' x, ?_, fun hm => ?_, one_small ((wOk_iff.1 h).2 k x hx), one_fail⟩
  · unfold buildL
    rw [if_pos h]
    simpa using h3
  · unfold one
    rw [if_pos hm]
theorem mdeN_alike (m : Bool) (t : ByteArray) (V : World) : (binOp .neq 73 (mde m t) (mde m t)).run Try.prog V = .ok (.bool false) V := by
  have h1 : (m == m) = true := by simp
  have h2 : (t.toList == t.toList) = true := by simp
  go_simp
set_option maxRecDepth 100000 in
set_option maxHeartbeats 4000000 in
theorem sameMade_same {v v' : Value} {D : List Mde} {w : World} (hl : D.length ≤ 1048576) (h : MdAt w w.heap.size v D) (h' : MdAt w w.heap.size v' D) :
    Calls Try.prog 63 #[v, v'] w fun e w' => e = .returned (.bool true) ∧ Below w.heap.size w w' := by
  obtain ⟨a, cap, rfl, hc⟩ := h
  obtain ⟨a', cap', rfl, hc'⟩ := h'
  have H := Lib.hid hc
  have H' := Lib.hid hc'
  clear hc hc'
  have hz : ((D.length : Int) != (D.length : Int)) = false := by simp
  go_enter Try.func63, Try.ntmps63
  go_wp2
  go_loopw [5] (fun i wr => ∃ k : Nat, k ≤ D.length ∧ i = .int .i64 (k : Int) ∧ Below w.heap.size w wr) (fun i _ => D.length - (intOf i).toNat)
  case atStart => exact ⟨0, Nat.zero_le _, rfl, Below.refl _ _⟩
  case round =>
    obtain ⟨k, hk, rfl, hb⟩ := hrel
    by_cases hlt : k < D.length
    · rcases H.out with h1 | ⟨b, o, rfl, hB, hc⟩
      · subst h1
        exact absurd hlt (by simp)
      rcases H'.out with h2 | ⟨b', o', rfl, hB', hc'⟩
      · subst h2
        exact absurd hlt (by simp)
      obtain ⟨m, t, hxy⟩ : ∃ m t, D[k] = (m, t) := ⟨_, _, rfl⟩
      have m1 := (hc k hlt).below hb hB
      have m2 := (hc' k hlt).below hb hB'
      rw [hxy] at m1 m2
      obtain ⟨k0, k1⟩ := m1
      obtain ⟨l0, l1⟩ := m2
      simp only at k0 k1 l0 l1
      clear hc hc' hxy
      have i0 : (0 : Int) ≤ (k : Int) := by omega
      have i1 : (k : Int) < (D.length : Int) := by omega
      have hne := mdeN_alike m t
      have t0 := cell_regrown k0
      have u0 := cell_regrown l0
      have t1 := cell_regrown k1
      have u1 := cell_regrown l1
      go_wp2_with fail
      refine wp_region_quiet_below (by kernel_rfl) (by kernel_rfl) ?_
      repeat (any_goals (first | go_big_quiet_step (fail) | quiet_step (fail)))
      refine wpQuiet_nil ?_
      intro W2 hw
      have nn := quiet_end hw
      clear hw t0 t1 u0 u1 hne
      have HP := Lib.hid (hb.trans (nn.mono hb.size))
      go_wp2_with fail
      go_roundw
      case rel => exact ⟨k + 1, by omega, by go_num, HP.out⟩
      case measure => simp [intOf]; omega
    · obtain rfl : k = D.length := by omega
      go_wp2_with fail
      go_ret
      exact ⟨rfl, hb⟩
end Bl
end Go.Proofs.Ytopplljilmjjgaa

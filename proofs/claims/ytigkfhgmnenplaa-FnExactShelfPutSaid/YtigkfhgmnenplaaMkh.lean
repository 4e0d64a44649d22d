/- Whether marks are held, for rows of needs and of releases that bear just the marks, over this seat's translation: the laws' functions say the number behind them. Condition: at most 1048576 releases, and needs and spans of all of them. -/
import Derived.Test.YtigkfhgmnenplaaMkl
namespace Go.Proofs.Ytigkfhgmnenplaa
open Go.RowKit Go.Sort

namespace Foot
theorem nmk_at {M : List Nd} {j : Nat} {x : Nd} (hx : M[j]? = some x) (k : Int) : (nmk k M)[j]? = some (nmkE k (M.take j), marks (nmkE k (M.take j) + 1) x.2.length) := by
  have e := nmk_app (M.take j) (M.drop j) k
  have hj : j < M.length := (List.getElem?_eq_some_iff.1 hx).1
  rw [List.take_append_drop] at e
  rw [e, List.getElem?_append_right (by rw [nmk_len]; simp; omega), nmk_len, show j - (M.take j).length = 0 by simp; omega, List.drop_eq_getElem_cons hj, (List.getElem?_eq_some_iff.1 hx).2]
  rfl
theorem rmk_at {S : List Rel} {j : Nat} {x : Rel} (hx : S[j]? = some x) (k : Int) : (rmk k S)[j]? = some (rmk1 (rmkE k (S.take j)) x) := by
  have e := rmk_app (S.take j) (S.drop j) k
  have hj : j < S.length := (List.getElem?_eq_some_iff.1 hx).1
  rw [List.take_append_drop] at e
  rw [e, List.getElem?_append_right (by rw [rmk_len]; simp; omega), rmk_len, show j - (S.take j).length = 0 by simp; omega, List.drop_eq_getElem_cons hj, (List.getElem?_eq_some_iff.1 hx).2]
  rfl

set_option maxRecDepth 100000 in
set_option maxHeartbeats 1000000 in
theorem heldNeedS_any (a : Option Addr) (cap : Nat) (M : List Nd) (k : Int) (w : World) (B : Nat) (hl : M.length ≤ 1048576) (hsz : ndSz M ≤ 1048576) (hk0 : 0 ≤ k) (hk1 : k ≤ 500000000) (h : NdAt w B (.slice a M.length cap) (nmk k M)) :
    Calls Try.prog 77 #[.slice a M.length cap, .int .i64 k] w fun e w' => e = .returned (.int .i64 (nmkE k M)) ∧ w = w' := by
  obtain ⟨a1, cap1, e1, h1⟩ := h
  simp only [Value.slice.injEq] at e1
  obtain ⟨rfl, hnn, rfl⟩ := e1
  clear hnn
  have H := Lib.hid h1
  clear h1
  go_enter Try.func77, Try.ntmps77
  go_wp2
  go_loop [1, 5] (fun s1 i => ∃ j : Nat, j ≤ M.length ∧ i = .int .i64 (j : Int) ∧ s1 = .int .i64 (nmkE k (M.take j))) (fun _ i => M.length - (intOf i).toNat)
  case atStart => exact ⟨0, Nat.zero_le _, rfl, by simp [nmkE]⟩
  case round =>
    obtain ⟨j, hj, rfl, rfl⟩ := hrel
    have hyy := nmkE_take M j k
    by_cases hlt : j < M.length
    · rcases H.out with h1 | ⟨b, o, rfl, hB, hc⟩
      · have := nmk_len M k
        rw [h1] at this
        simp at this
        omega
      have hx : M[j]? = some M[j] := List.getElem?_eq_getElem hlt
      have HNX := Lib.hid (nmk_next hx k).2
      have hjl : j < (nmk k M).length := by rw [nmk_len]; exact hlt
      have hm : (nmk k M)[j] = (nmkE k (M.take j), marks (nmkE k (M.take j) + 1) M[j].2.length) := by
        have := nmk_at hx k
        rw [List.getElem?_eq_getElem hjl] at this
        exact Option.some.inj this
      obtain ⟨c0, ad, cp, c1, hs⟩ := hc j hjl
      rw [hm] at c0 c1 hs
      simp only at c0 c1 hs
      rw [marks_len] at c1 hs
      have hmem := ndSz_mem M j _ hx
      generalize hq : M[j].2.length = q at *
      generalize hy : nmkE k (M.take j) = y at *
      have HY := Lib.hid hy
      have HS := Lib.hid hs
      have hn0 : ¬ y + 1 + 2 * (q : Int) < 0 := by omega
      clear hc hm hx hs hq hy
      go_wp2_with fail
      refine (heldSpanS_any ad cp q (y + 1) _ B (by omega) (by omega) (by omega) HS.out).mono ?_
      rintro e w2 ⟨rfl, rfl⟩
      go_wp2_with fail
      go_round
      case rel => exact ⟨j + 1, by omega, by go_num, by rw [HNX.out]⟩
      case measure => simp [intOf]; omega
    · obtain rfl : j = M.length := by omega
      rw [List.take_length] at hyy ⊢
      go_wp2_with fail
      go_ret
      exact ⟨rfl, rfl⟩

set_option maxRecDepth 100000 in
set_option maxHeartbeats 4000000 in
theorem heldReleaseS_any (a : Option Addr) (cap : Nat) (S : List Rel) (k : Int) (w : World) (B : Nat) (hl : S.length ≤ 1048576) (hsz : rlSz S ≤ 1048576) (hk0 : 0 ≤ k) (hk1 : k ≤ 1000000) (h : RlAt w B (.slice a S.length cap) (rmk k S)) :
    Calls Try.prog 25 #[.slice a S.length cap, .int .i64 k] w fun e w' => e = .returned (.int .i64 (rmkE k S)) ∧ w = w' := by
  obtain ⟨a1, cap1, e1, h1⟩ := h
  simp only [Value.slice.injEq] at e1
  obtain ⟨rfl, hnn, rfl⟩ := e1
  clear hnn
  have H := Lib.hid h1
  clear h1
  go_enter Try.func25, Try.ntmps25
  go_wp2
  go_loop [1, 5] (fun s1 i => ∃ j : Nat, j ≤ S.length ∧ i = .int .i64 (j : Int) ∧ s1 = .int .i64 (rmkE k (S.take j))) (fun _ i => S.length - (intOf i).toNat)
  case atStart => exact ⟨0, Nat.zero_le _, rfl, by simp [rmkE]⟩
  case round =>
    obtain ⟨j, hj, rfl, rfl⟩ := hrel
    have hyy := rmkE_take S j k
    by_cases hlt : j < S.length
    · rcases H.out with h1 | ⟨b, o, rfl, hB, hc⟩
      · have := rmk_len S k
        rw [h1] at this
        simp at this
        omega
      have hx : S[j]? = some S[j] := List.getElem?_eq_getElem hlt
      have hNX := (rmk_next hx k).2
      have hjl : j < (rmk k S).length := by rw [rmk_len]; exact hlt
      have hm : (rmk k S)[j] = rmk1 (rmkE k (S.take j)) S[j] := by
        have := rmk_at hx k
        rw [List.getElem?_eq_getElem hjl] at this
        exact Option.some.inj this
      obtain ⟨⟨c0, c1, c2, c3, c4, c5⟩, ad, cp, c6, hs⟩ := hc j hjl
      rw [hm] at c0 c1 c2 c3 c4 c5 c6 hs
      simp only [rmk1] at c0 c1 c2 c3 c4 c5 c6 hs
      rw [nmk_len] at c6 hs
      have hmem := rlSz_mem S j _ hx
      generalize hq : S[j].2.2.2 = M at *
      generalize hy : rmkE k (S.take j) = y at *
      obtain ⟨bb, hbb⟩ : ∃ bb : Bool, ((y + 1 + 1 + 1 + 1 + 1) % 3 == 0) = bb := ⟨_, rfl⟩
      rw [hbb] at c5
      have hb2 : (bb != bb) = false := by simp
      have HNX := Lib.hid hNX
      have HS := Lib.hid hs
      obtain ⟨z, hz, hz0⟩ : ∃ z, nmkE (y + 1 + 1 + 1 + 1 + 1 + 1) M = z ∧ ¬ z < 0 := ⟨_, rfl, by rw [nmkE_eq]; omega⟩
      have K := Lib.hid (heldNeedS_any ad cp M (y + 1 + 1 + 1 + 1 + 1 + 1) w B (by omega) (by omega) (by omega) (by omega) HS.out)
      rw [hz] at K
      have HZ := Lib.hid hz
      clear hc hm hx hs hq hy hNX hz
      go_wp2_with fail
      refine K.out.mono ?_
      rintro e w2 ⟨rfl, rfl⟩
      go_wp2_with fail
      go_round
      case rel => exact ⟨j + 1, by omega, by go_num, by rw [HNX.out, HZ.out]⟩
      case measure => simp [intOf]; omega
    · obtain rfl : j = S.length := by omega
      rw [List.take_length] at hyy ⊢
      go_wp2_with fail
      go_ret
      exact ⟨rfl, rfl⟩

theorem heldRlF {S : List Rel} {F : List Nat} {u : Value} {w : World} (hl : S.length ≤ 1048576) (hsz : rlSz S ≤ 1048576) (k : Int) (hk0 : 0 ≤ k) (hk1 : k ≤ 1000000) (h : RlF w u (rmk k S) F) :
    Calls Try.prog 25 #[u, .int .i64 k] w fun e w' => e = .returned (.int .i64 (rmkE k S)) ∧ Below w.heap.size w w' := by
  have hat := h.at
  obtain ⟨a, cap, rfl, _⟩ := h
  rw [rmk_len] at hat ⊢
  refine (heldReleaseS_any a cap S k w _ hl hsz hk0 hk1 hat).mono ?_
  rintro e w' ⟨rfl, rfl⟩
  exact ⟨rfl, Below.refl _ _⟩

/-- A row of releases of one's own, all of whose blocks lie between two numbers. -/
def RlB (S : List Rel) (lo hi : Nat) (v : Value) (w : World) : Prop := ∃ F, RlF w v S F ∧ ∀ b ∈ F, lo ≤ b ∧ b < hi
theorem RlF.lt {w : World} {v : Value} {S : List Rel} {F : List Nat} (h : RlF w v S F) : ∀ b ∈ F, b < w.heap.size := by
  intro b hb
  obtain ⟨a, cap, rfl, h⟩ := h
  rcases h with ⟨_, rfl⟩ | ⟨g, n, fs, rfl, ⟨C, h1, h2, h3, h4⟩, hns, hn, rfl⟩
  · simp at hb
  · rcases List.mem_cons.1 hb with rfl | hb
    · exact (Array.getElem?_eq_some_iff.1 h1).1
    · exact h4.lt b hb
theorem RlB.below {S : List Rel} {lo hi : Nat} {v : Value} {w w' : World} (h : RlB S lo hi v w) (hb : Below w.heap.size w w') : RlB S lo hi v w' := by
  obtain ⟨F, h1, h2⟩ := h
  exact ⟨F, h1.kept fun b k => hb.block b (h1.lt b k), h2⟩
theorem RlB.out {S : List Rel} {lo hi lo' hi' : Nat} {v : Value} {w w' : World} (h : RlB S lo hi v w) (ho : Out lo' hi' w w') (hd : hi ≤ lo' ∨ hi' ≤ lo) : RlB S lo hi v w' := by
  obtain ⟨F, h1, h2⟩ := h
  exact ⟨F, h1.kept fun b k => ho.block b (h1.lt b k) (by have := h2 b k; omega), h2⟩
theorem RlB.mono {S : List Rel} {lo lo' hi : Nat} {v : Value} {w : World} (h : RlB S lo hi v w) (hl : lo' ≤ lo) : RlB S lo' hi v w := by
  obtain ⟨F, h1, h2⟩ := h
  exact ⟨F, h1, fun b k => ⟨Nat.le_trans hl (h2 b k).1, (h2 b k).2⟩⟩
theorem RlB.at {S : List Rel} {lo hi : Nat} {v : Value} {w : World} (h : RlB S lo hi v w) : RlAt w w.heap.size v S := by
  obtain ⟨F, h1, _⟩ := h
  exact h1.at
theorem RlB.shape {S : List Rel} {lo hi : Nat} {v : Value} {w : World} (h : RlB S lo hi v w) : ∃ a cap, v = .slice a S.length cap := by
  obtain ⟨F, ⟨a, cap, e, _⟩, _⟩ := h
  exact ⟨a, cap, e⟩
theorem RlB.of {S : List Rel} {B : Nat} {v : Value} {w : World} {fs : List (List Nat)} (h : RGrow w B v S fs) : RlB S B w.heap.size v w := h.foot
theorem markRlB {S : List Rel} {lo hi : Nat} {u : Value} {w : World} (hl : S.length ≤ 1048576) (hsz : rlSz S ≤ 1048576) (h : RlB S lo hi u w) (k : Int) (hk0 : 0 ≤ k) (hk1 : k ≤ 1000000) :
    Calls Try.prog 23 #[u, .int .i64 k] w fun e w' => e = .returned (.int .i64 (rmkE k S)) ∧ RlB (rmk k S) lo hi u w' ∧ Out lo hi w w' := by
  obtain ⟨F, h1, h2⟩ := h
  refine (markRlF hl hsz h1 k hk0 hk1).mono ?_
  rintro e w' ⟨rfl, h3, h4⟩
  exact ⟨rfl, ⟨F, h3, h2⟩, h4.out h2⟩
theorem heldRlB {S : List Rel} {lo hi : Nat} {u : Value} {w : World} (hl : S.length ≤ 1048576) (hsz : rlSz S ≤ 1048576) (k : Int) (hk0 : 0 ≤ k) (hk1 : k ≤ 1000000) (h : RlB (rmk k S) lo hi u w) :
    Calls Try.prog 25 #[u, .int .i64 k] w fun e w' => e = .returned (.int .i64 (rmkE k S)) ∧ Below w.heap.size w w' := by
  obtain ⟨F, h1, _⟩ := h
  exact heldRlF hl hsz k hk0 hk1 h1
/-- A call that answers with a shelf of its own, and whether there is one. -/
def SbPost (G : List Rel) (ok : Bool) (w : World) (e : Ending) (w' : World) : Prop :=
  ∃ v, e = .returned (.tuple #[v, .bool ok]) ∧ RlB G w.heap.size w'.heap.size v w' ∧ Below w.heap.size w w'
end Foot
end Go.Proofs.Ytigkfhgmnenplaa

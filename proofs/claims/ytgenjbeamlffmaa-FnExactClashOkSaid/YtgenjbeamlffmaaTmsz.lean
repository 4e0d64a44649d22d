/- Contracts of the laws' functions that measure terms, over this seat's translation: what is left of a measure behind all terms and their spans, or -1; nothing that was there before the call has changed. Condition: no row is longer than any slice can be. -/
import Derived.Test.YtgenjbeamlffmaaTm
namespace Go.Proofs.Ytgenjbeamlffmaa
open Go.RowKit Go.Sort

set_option maxRecDepth 100000 in
set_option maxHeartbeats 400000 in
theorem szTerm_any (x : Int) (f : Bool) (a : Option Addr) (len cap : Nat) (left : Int) (w : World) (h0 : 0 ≤ left) (h1 : left ≤ 1048576) (hl : len ≤ 9223372036854775807) :
    Calls Try.prog 81 #[term x (.slice a len cap) f, .int .i64 left] w fun e w' => e = .returned (.int .i64 (leftOf left len)) ∧ Below w.heap.size w w' := by
  have K := Lib.hid fun V => szRange_any a len cap left V h0 h1 hl
  have b0 := (Below.refl w.heap.size w).alloc (Nat.le_refl _) (.cells #[.int .i64 x, .slice a len cap, .bool f] 128)
  unfold leftOf
  by_cases h : left < (len : Int)
  · rw [if_pos h] at K ⊢
    go_enter Try.func81, Try.ntmps81
    go_wp2_with fail
    refine (K.out _).mono ?_
    rintro e w1 ⟨rfl, hb⟩
    go_wp2_with fail
    go_ret
    exact ⟨rfl, b0.trans (hb.mono b0.size)⟩
  · rw [if_neg h] at K ⊢
    have hn : ¬ left - (len : Int) < 0 := by omega
    go_enter Try.func81, Try.ntmps81
    go_wp2_with fail
    refine (K.out _).mono ?_
    rintro e w1 ⟨rfl, hb⟩
    go_wp2_with fail
    go_ret
    exact ⟨rfl, b0.trans (hb.mono b0.size)⟩

/-- What the loop of szTermS keeps: what is left, and what it will take. -/
def TSzRel (M : List Tm) (T : Int) (w : World) (s i : Value) (wr : World) : Prop :=
  ∃ (k : Nat) (r : Int), k ≤ M.length ∧ i = .int .i64 (k : Int) ∧ s = .int .i64 r ∧ 0 ≤ r ∧ r ≤ 1048576 ∧ r - (tmSz (M.drop k) : Int) = T ∧ Below w.heap.size w wr

theorem tsz_push {M : List Tm} {T r : Int} {w wr : World} {k : Nat} {x : Int} {f : Bool} {L : List (Int × Int)} (hM : M[k]? = some (x, L, f)) (h0 : 0 ≤ r) (h1 : r ≤ 1048576) (hT : r - (tmSz (M.drop k) : Int) = T) (hn : ¬ r < (L.length : Int)) (hb : Below w.heap.size w wr) :
    TSzRel M T w (.int .i64 (r - (L.length : Int))) (.int .i64 ((k : Int) + 1)) wr := by
  have hk : k < M.length := (List.getElem?_eq_some_iff.1 hM).1
  have hd := tmSz_drop M k _ hM
  simp only at hd
  exact ⟨k + 1, r - (L.length : Int), by omega, by go_num, rfl, by omega, by omega, by omega, hb⟩

set_option maxRecDepth 100000 in
set_option maxHeartbeats 1000000 in
theorem szTermS_any (v : Value) (M : List Tm) (left : Int) (w : World) (h0 : 0 ≤ left) (h1 : left ≤ 1048576) (hl : M.length ≤ maxLen) (hq : ∀ q ∈ M, q.2.1.length ≤ maxLen) (h : TmAt w w.heap.size v M) :
    Calls Try.prog 33 #[v, .int .i64 left] w fun e w' => e = .returned (.int .i64 (leftOf left (M.length + tmSz M))) ∧ Below w.heap.size w w' := by
  obtain ⟨a, cap, rfl, h⟩ := h
  unfold maxLen at hl
  by_cases hs : left < (M.length : Int)
  · have hr : leftOf left (M.length + tmSz M) = -1 := by unfold leftOf; rw [if_pos (by omega)]
    rw [hr]
    clear hr h
    go_enter Try.func33, Try.ntmps33
    go_wp2_with fail
    go_ret
    exact ⟨rfl, Below.refl _ _⟩
  · have hn : ¬ left - (M.length : Int) < 0 := by omega
    obtain ⟨T, hT⟩ : ∃ T : Int, left - (M.length : Int) - (tmSz M : Int) = T := ⟨_, rfl⟩
    obtain ⟨R, hR⟩ : ∃ R : Int, leftOf left (M.length + tmSz M) = R := ⟨_, rfl⟩
    have HR := Lib.hid (show (T < 0 → R = -1) ∧ (¬ T < 0 → R = T) by
      rw [← hR]
      unfold leftOf
      constructor <;> intro h <;> split <;> omega)
    rw [hR]
    clear hR
    have HS := Lib.hid (show TSzRel M T w (.int .i64 (left - (M.length : Int))) (.int .i64 0) w from ⟨0, _, Nat.zero_le _, rfl, rfl, by omega, by omega, by simpa using hT, Below.refl _ _⟩)
    go_enter Try.func33, Try.ntmps33
    go_wp2_with fail
    go_loopw [1, 5] (fun s i wr => TSzRel M T w s i wr) (fun _ i _ => M.length - (intOf i).toNat)
    case atStart => exact HS.out
    case round =>
      obtain ⟨k, r, hk, rfl, rfl, r0, r1, hT', hb⟩ := hrel
      by_cases hlt : k < M.length
      · rcases h with h | ⟨b, o, rfl, hB, hc⟩
        · subst h
          exact absurd hlt (by simp)
        obtain ⟨x, L, f, hxy⟩ : ∃ x L f, M[k] = (x, L, f) := ⟨_, _, _, rfl⟩
        have c := (hc k hlt).below hb hB
        rw [hxy] at c
        obtain ⟨e0, a1, cap1, e1, hs', e2⟩ := c
        have hL : L.length ≤ 9223372036854775807 := by have := hq _ (List.getElem_mem hlt); rw [hxy] at this; unfold maxLen at this; simp only at this; omega
        simp only at e0 e1 hs' e2
        have HXY := Lib.hid (show M[k]? = some (x, L, f) by rw [List.getElem?_eq_getElem hlt, hxy])
        clear hxy hc hs'
        have KS := szTerm_any x f a1 L.length cap1 r wr r0 r1 hL
        unfold leftOf at KS
        by_cases hx : r < (L.length : Int)
        · rw [if_pos hx] at KS
          have HF := Lib.hid (show T < 0 by have := tmSz_drop M k _ HXY.out; simp only at this; omega)
          have HK := Lib.hid KS
          clear KS
          go_wp2_with fail
          refine HK.out.mono ?_
          rintro e w2 ⟨rfl, hb2⟩
          go_wp2_with fail
          go_ret
          exact ⟨by rw [HR.out.1 HF.out]; rfl, hb.trans (hb2.mono hb.size)⟩
        · rw [if_neg hx] at KS
          have HK := Lib.hid KS
          have hn2 : ¬ r - (L.length : Int) < 0 := by omega
          clear KS
          go_wp2_with fail
          refine HK.out.mono ?_
          rintro e w2 ⟨rfl, hb2⟩
          have HP := Lib.hid (tsz_push HXY.out r0 r1 hT' (by omega) (hb.trans (hb2.mono hb.size)))
          clear hb hb2 hT'
          go_wp2_with fail
          go_roundw
          case rel => exact HP.out
          case measure => simp [intOf]; omega
      · obtain rfl : k = M.length := by omega
        rw [List.drop_length] at hT'
        have HF := Lib.hid (show R = r by rw [HR.out.2 (by simp [tmSz] at hT'; omega)]; simp [tmSz] at hT'; omega)
        clear hT'
        go_wp2_with fail
        go_ret
        exact ⟨by rw [HF.out]; rfl, hb⟩

end Go.Proofs.Ytgenjbeamlffmaa

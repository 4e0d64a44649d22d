/- Contracts of the laws' functions that measure releases, over this seat's translation: what is left of a measure behind all releases, their needs and their spans, or -1; nothing that was there before the call has changed. Condition: no row is longer than any slice can be. -/
import Derived.Test.YtdjnfmekbjmdhaaRm
import Derived.Test.YtdjnfmekbjmdhaaNdsz
namespace Go.Proofs.Ytdjnfmekbjmdhaa
open Go.RowKit Go.Sort

set_option maxRecDepth 100000 in
set_option maxHeartbeats 1000000 in
theorem szRelease_any (n a b c d : Int) (f : Bool) (v : Value) (M : List Nd) (left : Int) (w : World) (h0 : 0 ≤ left) (h1 : left ≤ 1048576) (hl : M.length ≤ maxLen) (hq : ∀ q ∈ M, q.2.length ≤ maxLen) (h : NdAt w w.heap.size v M) :
    Calls Try.prog 21 #[rels n a b c d f v, .int .i64 left] w fun e w' => e = .returned (.int .i64 (leftOf left (M.length + ndSz M))) ∧ Below w.heap.size w w' := by
  have h' := h
  obtain ⟨ad, cap, rfl, hx⟩ := h'
  clear hx
  have K := Lib.hid (show ∀ V, NdAt V V.heap.size (.slice ad M.length cap) M → _ from fun V g => szNeedS_any _ M left V h0 h1 hl hq g)
  have H := Lib.hid h
  have b0 := (Below.refl w.heap.size w).alloc (Nat.le_refl _) (.cells #[.int .i64 n, .int .i64 a, .int .i64 b, .int .i64 c, .int .i64 d, .bool f, .slice ad M.length cap] 35)
  clear h
  unfold leftOf at K ⊢
  by_cases hh : left < ((M.length + ndSz M : Nat) : Int)
  · rw [if_pos hh] at K ⊢
    clear hh
    go_enter Try.func21, Try.ntmps21
    go_wp2_with fail
    refine (K.out _ (H.out.stepAt (by go_grown))).mono ?_
    rintro e w1 ⟨rfl, hb⟩
    go_wp2_with fail
    go_ret
    exact ⟨rfl, b0.trans (hb.mono b0.size)⟩
  · rw [if_neg hh] at K ⊢
    have hn : ¬ left - ((M.length + ndSz M : Nat) : Int) < 0 := by omega
    obtain ⟨r, hr⟩ : ∃ r : Int, left - ((M.length + ndSz M : Nat) : Int) = r := ⟨_, rfl⟩
    rw [hr] at K hn ⊢
    clear hr hh
    go_enter Try.func21, Try.ntmps21
    go_wp2_with fail
    refine (K.out _ (H.out.stepAt (by go_grown))).mono ?_
    rintro e w1 ⟨rfl, hb⟩
    go_wp2_with fail
    go_ret
    exact ⟨rfl, b0.trans (hb.mono b0.size)⟩

/-- What the loop of szReleaseS keeps: what is left, and what it will take. -/
def RSzRel (S : List Rel) (T : Int) (w : World) (s i : Value) (wr : World) : Prop :=
  ∃ (k : Nat) (r : Int), k ≤ S.length ∧ i = .int .i64 (k : Int) ∧ s = .int .i64 r ∧ 0 ≤ r ∧ r ≤ 1048576 ∧ r - (rlSz (S.drop k) : Int) = T ∧ Below w.heap.size w wr

theorem rsz_push {S : List Rel} {T r : Int} {w wr : World} {k : Nat} {q : Rel} (hM : S[k]? = some q) (h0 : 0 ≤ r) (h1 : r ≤ 1048576) (hT : r - (rlSz (S.drop k) : Int) = T) (hn : ¬ r < ((q.2.2.2.length + ndSz q.2.2.2 : Nat) : Int)) (hb : Below w.heap.size w wr) :
    RSzRel S T w (.int .i64 (leftOf r (q.2.2.2.length + ndSz q.2.2.2))) (.int .i64 ((k : Int) + 1)) wr := by
  have hk : k < S.length := (List.getElem?_eq_some_iff.1 hM).1
  have hd := rlSz_drop S k _ hM
  unfold leftOf
  rw [if_neg hn]
  exact ⟨k + 1, r - ((q.2.2.2.length + ndSz q.2.2.2 : Nat) : Int), by omega, by go_num, rfl, by omega, by omega, by omega, hb⟩

set_option maxRecDepth 100000 in
set_option maxHeartbeats 2000000 in
theorem szReleaseS_any (v : Value) (S : List Rel) (left : Int) (w : World) (h0 : 0 ≤ left) (h1 : left ≤ 1048576) (hl : S.length ≤ maxLen) (hq : ∀ q ∈ S, q.2.2.2.length ≤ maxLen ∧ ∀ p ∈ q.2.2.2, p.2.length ≤ maxLen) (h : RlAt w w.heap.size v S) :
    Calls Try.prog 15 #[v, .int .i64 left] w fun e w' => e = .returned (.int .i64 (leftOf left (S.length + rlSz S))) ∧ Below w.heap.size w w' := by
  obtain ⟨a, cap, rfl, h⟩ := h
  unfold maxLen at hl
  by_cases hs : left < (S.length : Int)
  · have hr : leftOf left (S.length + rlSz S) = -1 := by unfold leftOf; rw [if_pos (by omega)]
    rw [hr]
    clear hr h
    go_enter Try.func15, Try.ntmps15
    go_wp2_with fail
    go_ret
    exact ⟨rfl, Below.refl _ _⟩
  · have hn : ¬ left - (S.length : Int) < 0 := by omega
    obtain ⟨T, hT⟩ : ∃ T : Int, left - (S.length : Int) - (rlSz S : Int) = T := ⟨_, rfl⟩
    obtain ⟨R, hR⟩ : ∃ R : Int, leftOf left (S.length + rlSz S) = R := ⟨_, rfl⟩
    have HR := Lib.hid (show (T < 0 → R = -1) ∧ (¬ T < 0 → R = T) by
      rw [← hR]
      unfold leftOf
      constructor <;> intro h <;> split <;> omega)
    rw [hR]
    clear hR
    have HS := Lib.hid (show RSzRel S T w (.int .i64 (left - (S.length : Int))) (.int .i64 0) w from ⟨0, _, Nat.zero_le _, rfl, rfl, by omega, by omega, by simpa using hT, Below.refl _ _⟩)
    go_enter Try.func15, Try.ntmps15
    go_wp2_with fail
    go_loopw [1, 5] (fun s i wr => RSzRel S T w s i wr) (fun _ i _ => S.length - (intOf i).toNat)
    case atStart => exact HS.out
    case round =>
      obtain ⟨k, r, hk, rfl, rfl, r0, r1, hT', hb⟩ := hrel
      by_cases hlt : k < S.length
      · rcases h with h | ⟨b, o, rfl, hB, hc⟩
        · subst h
          exact absurd hlt (by simp)
        obtain ⟨x, a1, b1, c1, d1, gn, M, hxy⟩ : ∃ x a1 b1 c1 d1 gn M, S[k] = (x, (a1, b1, c1, d1), gn, M) := ⟨_, _, _, _, _, _, _, rfl⟩
        have c := (hc k hlt).below hb hB
        rw [hxy] at c
        obtain ⟨⟨e0, e1, e2, e3, e4, e5⟩, ad, cap1, e6, hs'⟩ := c
        have hL : M.length ≤ maxLen ∧ ∀ p ∈ M, p.2.length ≤ maxLen := by have := hq _ (List.getElem_mem hlt); rwa [hxy] at this
        simp only at e0 e1 e2 e3 e4 e5 e6 hs'
        have HXY := Lib.hid (show S[k]? = some (x, (a1, b1, c1, d1), gn, M) by rw [List.getElem?_eq_getElem hlt, hxy])
        clear hxy hc
        have KS := szRelease_any x a1 b1 c1 d1 gn _ M r wr r0 r1 hL.1 hL.2 (hs'.mono hb.size)
        clear hs'
        by_cases hx : r < ((M.length + ndSz M : Nat) : Int)
        · rw [show leftOf r (M.length + ndSz M) = -1 by unfold leftOf; rw [if_pos hx]] at KS
          have HF := Lib.hid (show T < 0 by have := rlSz_drop S k _ HXY.out; simp only at this; omega)
          have HK := Lib.hid KS
          clear KS hx
          go_wp2_with fail
          refine HK.out.mono ?_
          rintro e w2 ⟨rfl, hb2⟩
          go_wp2_with fail
          go_ret
          exact ⟨by rw [HR.out.1 HF.out]; rfl, hb.trans (hb2.mono hb.size)⟩
        · have HK := Lib.hid KS
          have HN := Lib.hid hx
          obtain ⟨y, hy⟩ : ∃ y : Int, leftOf r (M.length + ndSz M) = y := ⟨_, rfl⟩
          have HY := Lib.hid hy
          have hn2 : ¬ y < 0 := by rw [← hy]; unfold leftOf; rw [if_neg hx]; omega
          rw [hy] at HK
          clear KS hx hy
          go_wp2_with fail
          refine HK.out.mono ?_
          rintro e w2 ⟨rfl, hb2⟩
          have HP := Lib.hid (rsz_push HXY.out r0 r1 hT' (by have := HN.out; simp only; omega) (hb.trans (hb2.mono hb.size)))
          have HQ := Lib.hid (HY.out ▸ HP.out)
          clear hb hb2 hT'
          go_wp2_with fail
          go_roundw
          case rel => exact HQ.out
          case measure => simp [intOf]; omega
      · obtain rfl : k = S.length := by omega
        rw [List.drop_length] at hT'
        have HF := Lib.hid (show R = r by rw [HR.out.2 (by simp [rlSz] at hT'; omega)]; simp [rlSz] at hT'; omega)
        clear hT'
        go_wp2_with fail
        go_ret
        exact ⟨by rw [HF.out]; rfl, hb⟩

end Go.Proofs.Ytdjnfmekbjmdhaa

/- Contracts of placeAsked and of LeastOf, the program's and the model's, over this seat's translation: they answer as the plain functions askAt and leastOf; nothing that was there before the call has changed. Condition: at most 1048576 releases, needs of each, and spans of those and of the need. -/
import Derived.Test.YtgnjhmmedogcoaaLsp
namespace Go.Proofs.Ytgnjhmmedogcoaa
open Go.RowKit Go.Sort

namespace Lst
def PaRel (S : List Rel) (n lo : Int) (w1 : World) (i : Value) (wr : World) : Prop :=
  ∃ k : Nat, k ≤ S.length ∧ i = .int .i64 (k : Int) ∧ askFrom n lo 0 S = askFrom n lo k (S.drop k) ∧ Below w1.heap.size w1 wr
theorem pa_push {S : List Rel} {n lo : Int} {w1 wr : World} {k : Nat} {q : Rel} (hS : S[k]? = some q) (ho : askFrom n lo 0 S = askFrom n lo k (S.drop k)) (hn : asks n lo q = false) (hb : Below w1.heap.size w1 wr) :
    PaRel S n lo w1 (.int .i64 ((k : Int) + 1)) wr := by
  have hk : k < S.length := (List.getElem?_eq_some_iff.1 hS).1
  exact ⟨k + 1, by omega, by go_num, by rw [ho, askFrom_step hS, if_neg (by rw [hn]; simp)], hb⟩
theorem pa_found {S : List Rel} {n lo : Int} {k : Nat} {q : Rel} (hS : S[k]? = some q) (ho : askFrom n lo 0 S = askFrom n lo k (S.drop k)) (hn : asks n lo q = true) : askFrom n lo 0 S = (k : Int) := by
  rw [ho, askFrom_step hS, if_pos hn]
theorem asks_name {x n lo : Int} {v : Int × Int × Int × Int} {f : Bool} {M : List Nd} (h : ¬ x = n) : asks n lo (x, v, f, M) = false := by simp [asks, h]
theorem asks_gone {x n lo : Int} {v : Int × Int × Int × Int} {M : List Nd} : asks n lo (x, v, true, M) = false := by simp [asks]
theorem asks_old {x n lo a b c d : Int} {f : Bool} {M : List Nd} (h : ¬ lo ≤ vRank a b c d) : asks n lo (x, (a, b, c, d), f, M) = false := by simp [asks, h]
theorem asks_yes {n lo a b c d : Int} {M : List Nd} (h : lo ≤ vRank a b c d) : asks n lo (n, (a, b, c, d), false, M) = true := by simp [asks, h]

set_option maxRecDepth 100000 in
set_option maxHeartbeats 4000000 in
theorem placeAsked_any (v u : Value) (S : List Rel) (n : Int) (L : Sps) (w : World) (hl : S.length ≤ 1048576) (hL : L.length ≤ 1048576) (h : RlAt w w.heap.size v S) (h' : SpAt w w.heap.size u L) :
    Calls Try.prog 73 #[v, need n u] w fun e w' => e = .returned (.int .i64 (askAt S n L)) ∧ Below w.heap.size w w' := by
  obtain ⟨sa, caps, rfl, hx⟩ := id h
  obtain ⟨na, ncap, rfl, hy⟩ := id h'
  have HX := Lib.hid hx
  clear h h' hx
  obtain ⟨w2, hw1⟩ : ∃ V : World, V = w.alloc (.cells #[.int .i64 n, .slice na L.length ncap] 59) := ⟨_, rfl⟩
  have HB2 : Hid (Below w.heap.size w w2) := Lib.hid (by
    rw [hw1]
    exact (Below.refl w.heap.size w).alloc (Nat.le_refl _) _)
  have s2 : w.heap.size + 1 ≤ w2.heap.size := by rw [hw1]; simp
  have y2_0 : w2.cell? ⟨w.heap.size, 0, none⟩ = some (.int .i64 n) := by rw [hw1]; go_simp
  have y2_1 : w2.cell? ⟨w.heap.size, 1, none⟩ = some (.slice na L.length ncap) := by rw [hw1]; go_simp
  by_cases h0 : L = []
  · subst h0
    clear HX hy
    rw [List.length_nil] at hw1 y2_1
    go_enter Try.func73, Try.ntmps73
    go_upto_region 1 with fail
    rw [← hw1]
    clear hw1
    go_wp2_with fail
    go_ret
    exact ⟨rfl, HB2.out⟩
  obtain ⟨lo, hi, T, rfl⟩ : ∃ lo hi T, L = (lo, hi) :: T := by
    cases L with
    | nil => exact absurd rfl h0
    | cons s t => exact ⟨s.1, s.2, t, rfl⟩
  rcases hy with hy | ⟨nb, no, rfl, hnB, hnc⟩
  · cases hy
  have q0 := (hnc 0 (by simp)).1
  simp only [List.getElem_cons_zero, Nat.zero_mul, Nat.add_zero] at q0
  have q2 := (HB2.out.cell (p := ⟨nb, no, none⟩) hnB).trans q0
  have hnB2 : nb < w2.heap.size := by omega
  have HA := Lib.hid (show askAt S n ((lo, hi) :: T) = askFrom n lo 0 S from rfl)
  obtain ⟨m, hm⟩ : ∃ m, ((lo, hi) :: T).length = m := ⟨_, rfl⟩
  have hm0 : 0 < m := by rw [← hm]; simp
  have hz0 : ((m : Int) == 0) = false := by rw [beq_eq_false_iff_ne]; omega
  have i00 : (0 : Int) < (m : Int) := by omega
  rw [hm] at hw1 hL y2_1 ⊢
  clear hm hnc h0 q0
  go_enter Try.func73, Try.ntmps73
  go_upto_region 1 with fail
  rw [← hw1]
  clear hw1
  go_wp2_with fail
  go_loopw [21] (fun i wr => PaRel S n lo w2 i wr) (fun i _ => S.length - (intOf i).toNat)
  case atStart => exact ⟨0, Nat.zero_le _, rfl, rfl, Below.refl _ _⟩
  case round =>
    obtain ⟨k, hk, rfl, ho, hb⟩ := hrel
    have HO := Lib.hid ho
    clear ho
    by_cases hlt : k < S.length
    · have bw := HB2.out.trans (hb.mono HB2.out.size)
      have sr := hb.size
      rcases HX.out with h | ⟨g, o, rfl, hB, hc⟩
      · subst h
        exact absurd hlt (by simp)
      obtain ⟨x, a, b, c, d, f, M, hxy⟩ : ∃ x a b c d f M, S[k] = (x, (a, b, c, d), f, M) := ⟨_, _, _, _, _, _, _, rfl⟩
      have m1 := (hc k hlt).below bw hB
      rw [hxy] at m1
      obtain ⟨⟨k0, k1, k2, k3, k4, k5⟩, ad, cap, k6, hs⟩ := m1
      simp only at k0 k1 k2 k3 k4 k5 k6
      have HY := Lib.hid (show S[k]? = some (x, (a, b, c, d), f, M) by rw [List.getElem?_eq_getElem hlt, hxy])
      have mg : g < wr.heap.size := Nat.lt_of_lt_of_le hB bw.size
      have mn : w.heap.size < wr.heap.size := by omega
      have BB := Lib.hid (hb.alloc hb.size (.cells #[.int .i64 x, .int .i64 a, .int .i64 b, .int .i64 c, .int .i64 d, .bool f, .slice ad M.length cap] 63))
      have z0 := (hb.cell (p := ⟨w.heap.size, 0, none⟩) (by show w.heap.size < w2.heap.size; omega)).trans y2_0
      clear hxy hc hs bw hb y2_0 y2_1 q2
      by_cases hn : x = n
      · cases f
        · obtain ⟨r, hr⟩ : ∃ r, vRank a b c d = r := ⟨_, rfl⟩
          have HR := Lib.hid hr
          have KR : Hid (∀ V, Calls Try.prog 42 #[ver a b c d] V fun e w' => e = .returned (.int .i64 r) ∧ Below V.heap.size V w') := Lib.hid fun V => by have := implRank_any a b c d V; rwa [hr] at this
          clear hr
          by_cases hge : lo ≤ r
          · have HF := Lib.hid (pa_found HY.out HO.out (show asks n lo (x, (a, b, c, d), false, M) = true by rw [hn]; exact asks_yes (by rw [HR.out]; exact hge)))
            subst hn
            go_wp2_with fail
            refine (KR.out _).mono ?_
            rintro e w4 ⟨rfl, hb4⟩
            have B4 := Lib.hid (BB.out.trans (hb4.mono BB.out.size))
            clear hb4
            go_wp2_with fail
            go_ret
            exact ⟨by rw [HA.out, HF.out]; rfl, HB2.out.trans (B4.out.mono HB2.out.size)⟩
          · have HF := Lib.hid (show asks n lo (x, (a, b, c, d), false, M) = false from asks_old (by rw [HR.out]; exact hge))
            subst hn
            go_wp2_with fail
            refine (KR.out _).mono ?_
            rintro e w4 ⟨rfl, hb4⟩
            have HP := Lib.hid (pa_push HY.out HO.out HF.out (BB.out.trans (hb4.mono BB.out.size)))
            clear hb4
            go_wp2_with fail
            go_roundw
            case rel => exact HP.out
            case measure => simp [intOf]; omega
        · have HP := Lib.hid (pa_push (n := n) (lo := lo) HY.out HO.out asks_gone BB.out)
          subst hn
          go_wp2_with fail
          go_roundw
          case rel => exact HP.out
          case measure => simp [intOf]; omega
      · have HP := Lib.hid (pa_push HY.out HO.out (asks_name hn) BB.out)
        have hz : (x == n) = false := by rw [beq_eq_false_iff_ne]; exact hn
        go_wp2_with fail
        go_roundw
        case rel => exact HP.out
        case measure => simp [intOf]; omega
    · obtain rfl : k = S.length := by omega
      have HF := Lib.hid (show askFrom n lo 0 S = -1 by rw [HO.out, List.drop_length]; rfl)
      go_wp2_with fail
      go_ret
      exact ⟨by rw [HA.out, HF.out]; rfl, HB2.out.trans (hb.mono HB2.out.size)⟩

set_option maxRecDepth 100000 in
set_option maxHeartbeats 8000000 in
theorem implLeastOf_any (v u : Value) (S : List Rel) (n : Int) (L : Sps) (w : World) (hl : S.length ≤ 1048576) (hq : ∀ q ∈ S, q.2.2.2.length ≤ 1048576 ∧ ∀ p ∈ q.2.2.2, p.2.length ≤ 1048576) (hL : L.length ≤ 1048576) (h : RlAt w w.heap.size v S) (h' : SpAt w w.heap.size u L) :
    Calls Try.prog 36 #[v, need n u] w fun e w' => e = .returned (.int .i64 (leastOf S n L)) ∧ Below w.heap.size w w' := by
  obtain ⟨sa, caps, rfl, hx⟩ := id h
  obtain ⟨na, ncap, rfl, hy⟩ := id h'
  clear hx hy
  have H := Lib.hid h
  have H' := Lib.hid h'
  clear h h'
  obtain ⟨w1, hw1⟩ : ∃ V : World, V = w.alloc (.cells #[.int .i64 n, .slice na L.length ncap] 59) := ⟨_, rfl⟩
  have b1 : Below w.heap.size w w1 := by
    rw [hw1]
    exact (Below.refl w.heap.size w).alloc (Nat.le_refl _) _
  have s1 : w.heap.size + 1 ≤ w1.heap.size := by rw [hw1]; simp
  have y1_0 : w1.cell? ⟨w.heap.size, 0, none⟩ = some (.int .i64 n) := by rw [hw1]; go_simp
  have y1_1 : w1.cell? ⟨w.heap.size, 1, none⟩ = some (.slice na L.length ncap) := by rw [hw1]; go_simp
  have KO : Hid (∀ V, RlAt V V.heap.size (.slice sa S.length caps) S → Calls Try.prog 58 #[.slice sa S.length caps] V fun e w' => e = .returned (.bool (shOk S)) ∧ Below V.heap.size V w') := Lib.hid fun V g => implShelfOk_any _ S V hl hq g
  have KN : Hid (∀ V z, NdAt V V.heap.size z [(n, L)] → Calls Try.prog 47 #[z] V fun e w' => e = .returned (.bool (ndOk [(n, L)])) ∧ Below V.heap.size V w') := Lib.hid fun V z g => implNeedsOk_any z [(n, L)] V (by simp) (by simpa using hL) g
  rcases hok : shOk S
  · have HF := Lib.hid (show leastOf S n L = -1 by unfold leastOf; rw [hok]; rfl)
    rw [hok] at KO
    clear hok
    go_enter Try.func36, Try.ntmps36
    go_upto_region 1 with fail
    rw [← hw1]
    clear hw1
    go_wp2_with fail
    refine (KO.out _ (H.out.stepAt b1)).mono ?_
    rintro e w2 ⟨rfl, hb⟩
    go_wp2_with fail
    go_ret
    exact ⟨by rw [HF.out]; rfl, b1.trans (hb.mono b1.size)⟩
  rw [hok] at KO
  rcases hnk : ndOk [(n, L)]
  · have HF := Lib.hid (show leastOf S n L = -1 by unfold leastOf; rw [hok, hnk]; rfl)
    rw [hnk] at KN
    clear hok hnk
    go_enter Try.func36, Try.ntmps36
    go_upto_region 1 with fail
    rw [← hw1]
    clear hw1
    go_wp2_with fail
    refine (KO.out _ (H.out.stepAt b1)).mono ?_
    rintro e w2 ⟨rfl, hb⟩
    have b2 := b1.trans (hb.mono b1.size)
    have y2_0 := (hb.cell (p := ⟨w.heap.size, 0, none⟩) (by show w.heap.size < w1.heap.size; omega)).trans y1_0
    have y2_1 := (hb.cell (p := ⟨w.heap.size, 1, none⟩) (by show w.heap.size < w1.heap.size; omega)).trans y1_1
    have b2a := b2.alloc b2.size (.cells #[.int .i64 n, .slice na L.length ncap] 59)
    go_wp2_with fail
    refine (KN.out _ _ (one_need (w := w2) rfl (H'.out.stepAt b2a))).mono ?_
    rintro e w3 ⟨rfl, hb3⟩
    go_wp2_with fail
    go_ret
    exact ⟨by rw [HF.out]; rfl, b2a.trans (hb3.mono b2a.size)⟩
  have HF := Lib.hid (show leastOf S n L = askAt S n L by unfold leastOf; rw [hok, hnk]; rfl)
  have KP : Hid (∀ V, RlAt V V.heap.size (.slice sa S.length caps) S → SpAt V V.heap.size (.slice na L.length ncap) L → Calls Try.prog 73 #[.slice sa S.length caps, need n (.slice na L.length ncap)] V fun e w' => e = .returned (.int .i64 (askAt S n L)) ∧ Below V.heap.size V w') := Lib.hid fun V g g' => placeAsked_any _ _ S n L V hl hL g g'
  generalize askAt S n L = r at *
  rw [hnk] at KN
  clear hok hnk
  go_enter Try.func36, Try.ntmps36
  go_upto_region 1 with fail
  rw [← hw1]
  clear hw1
  go_wp2_with fail
  refine (KO.out _ (H.out.stepAt b1)).mono ?_
  rintro e w2 ⟨rfl, hb⟩
  have b2 := b1.trans (hb.mono b1.size)
  have s2 : w.heap.size + 1 ≤ w2.heap.size := Nat.le_trans s1 hb.size
  have y2_0 := (hb.cell (p := ⟨w.heap.size, 0, none⟩) (by show w.heap.size < w1.heap.size; omega)).trans y1_0
  have y2_1 := (hb.cell (p := ⟨w.heap.size, 1, none⟩) (by show w.heap.size < w1.heap.size; omega)).trans y1_1
  have b2a := b2.alloc b2.size (.cells #[.int .i64 n, .slice na L.length ncap] 59)
  have n2 := (Below.refl w2.heap.size w2).alloc (Nat.le_refl _) (.cells #[.int .i64 n, .slice na L.length ncap] 59)
  clear hb y1_0 y1_1
  go_wp2_with fail
  refine (KN.out _ _ (one_need (w := w2) rfl (H'.out.stepAt b2a))).mono ?_
  rintro e w3 ⟨rfl, hb3⟩
  have n3 := n2.trans (hb3.mono n2.size)
  have y3_0 := (n3.cell (p := ⟨w.heap.size, 0, none⟩) (by show w.heap.size < w2.heap.size; omega)).trans y2_0
  have y3_1 := (n3.cell (p := ⟨w.heap.size, 1, none⟩) (by show w.heap.size < w2.heap.size; omega)).trans y2_1
  have b3 := b2a.trans (hb3.mono b2a.size)
  clear n2 n3 hb3 b2a b2 y2_0 y2_1 b1
  go_wp2_with fail
  refine (KP.out _ (H.out.stepAt b3) (H'.out.stepAt b3)).mono ?_
  rintro e w4 ⟨rfl, hb⟩
  go_wp2_with fail
  go_ret
  exact ⟨by rw [HF.out]; rfl, b3.trans (hb.mono b3.size)⟩

set_option maxRecDepth 100000 in
set_option maxHeartbeats 8000000 in
theorem specLeastOf_any (v u : Value) (S : List Rel) (n : Int) (L : Sps) (w : World) (hl : S.length ≤ 1048576) (hq : ∀ q ∈ S, q.2.2.2.length ≤ 1048576 ∧ ∀ p ∈ q.2.2.2, p.2.length ≤ 1048576) (hL : L.length ≤ 1048576) (h : RlAt w w.heap.size v S) (h' : SpAt w w.heap.size u L) :
    Calls Try.prog 55 #[v, need n u] w fun e w' => e = .returned (.int .i64 (leastOf S n L)) ∧ Below w.heap.size w w' := by
  obtain ⟨sa, caps, rfl, hx⟩ := id h
  obtain ⟨na, ncap, rfl, hy⟩ := id h'
  have H := Lib.hid h
  have H' := Lib.hid h'
  have HX := Lib.hid hx
  clear h h' hx
  obtain ⟨w1, hw1⟩ : ∃ V : World, V = w.alloc (.cells #[.int .i64 n, .slice na L.length ncap] 59) := ⟨_, rfl⟩
  have b1 : Below w.heap.size w w1 := by
    rw [hw1]
    exact (Below.refl w.heap.size w).alloc (Nat.le_refl _) _
  have s1 : w.heap.size + 1 ≤ w1.heap.size := by rw [hw1]; simp
  have y1_0 : w1.cell? ⟨w.heap.size, 0, none⟩ = some (.int .i64 n) := by rw [hw1]; go_simp
  have y1_1 : w1.cell? ⟨w.heap.size, 1, none⟩ = some (.slice na L.length ncap) := by rw [hw1]; go_simp
  have KO : Hid (∀ V, RlAt V V.heap.size (.slice sa S.length caps) S → Calls Try.prog 52 #[.slice sa S.length caps] V fun e w' => e = .returned (.bool (shOk S)) ∧ Below V.heap.size V w') := Lib.hid fun V g => specShelfOk_any _ S V hl hq g
  have KN : Hid (∀ V z, NdAt V V.heap.size z [(n, L)] → Calls Try.prog 53 #[z] V fun e w' => e = .returned (.bool (ndOk [(n, L)])) ∧ Below V.heap.size V w') := Lib.hid fun V z g => specNeedsOk_any z [(n, L)] V (by simp) (by simpa using hL) g
  rcases hok : shOk S
  · have HF := Lib.hid (show leastOf S n L = -1 by unfold leastOf; rw [hok]; rfl)
    rw [hok] at KO
    clear hok hy
    go_enter Try.func55, Try.ntmps55
    go_upto_region 1 with fail
    rw [← hw1]
    clear hw1
    go_wp2_with fail
    refine (KO.out _ (H.out.stepAt b1)).mono ?_
    rintro e w2 ⟨rfl, hb⟩
    go_wp2_with fail
    go_ret
    exact ⟨by rw [HF.out]; rfl, b1.trans (hb.mono b1.size)⟩
  rw [hok] at KO
  rcases hnk : ndOk [(n, L)]
  · have HF := Lib.hid (show leastOf S n L = -1 by unfold leastOf; rw [hok, hnk]; rfl)
    rw [hnk] at KN
    clear hok hnk hy
    go_enter Try.func55, Try.ntmps55
    go_upto_region 1 with fail
    rw [← hw1]
    clear hw1
    go_wp2_with fail
    refine (KO.out _ (H.out.stepAt b1)).mono ?_
    rintro e w2 ⟨rfl, hb⟩
    have b2 := b1.trans (hb.mono b1.size)
    have y2_0 := (hb.cell (p := ⟨w.heap.size, 0, none⟩) (by show w.heap.size < w1.heap.size; omega)).trans y1_0
    have y2_1 := (hb.cell (p := ⟨w.heap.size, 1, none⟩) (by show w.heap.size < w1.heap.size; omega)).trans y1_1
    have b2a := b2.alloc b2.size (.cells #[.int .i64 n, .slice na L.length ncap] 59)
    go_wp2_with fail
    refine (KN.out _ _ (one_need (w := w2) rfl (H'.out.stepAt b2a))).mono ?_
    rintro e w3 ⟨rfl, hb3⟩
    go_wp2_with fail
    go_ret
    exact ⟨by rw [HF.out]; rfl, b2a.trans (hb3.mono b2a.size)⟩
  have HLA := Lib.hid (show leastOf S n L = askAt S n L by unfold leastOf; rw [hok, hnk]; rfl)
  rw [hnk] at KN
  clear hok hnk
  by_cases h0 : L = []
  · subst h0
    have HF := Lib.hid (HLA.out.trans (show askAt S n [] = -1 from rfl))
    clear hy HLA
    rw [List.length_nil] at hw1 y1_1
    go_enter Try.func55, Try.ntmps55
    go_upto_region 1 with fail
    rw [← hw1]
    clear hw1
    go_wp2_with fail
    refine (KO.out _ (H.out.stepAt b1)).mono ?_
    rintro e w2 ⟨rfl, hb⟩
    have b2 := b1.trans (hb.mono b1.size)
    have s2 : w.heap.size + 1 ≤ w2.heap.size := Nat.le_trans s1 hb.size
    have y2_0 := (hb.cell (p := ⟨w.heap.size, 0, none⟩) (by show w.heap.size < w1.heap.size; omega)).trans y1_0
    have y2_1 := (hb.cell (p := ⟨w.heap.size, 1, none⟩) (by show w.heap.size < w1.heap.size; omega)).trans y1_1
    have b2a := b2.alloc b2.size (.cells #[.int .i64 n, .slice na 0 ncap] 59)
    have n2 := (Below.refl w2.heap.size w2).alloc (Nat.le_refl _) (.cells #[.int .i64 n, .slice na 0 ncap] 59)
    go_wp2_with fail
    refine (KN.out _ _ (one_need (w := w2) (L := []) rfl (H'.out.stepAt b2a))).mono ?_
    rintro e w3 ⟨rfl, hb3⟩
    have n3 := n2.trans (hb3.mono n2.size)
    have y3_0 := (n3.cell (p := ⟨w.heap.size, 0, none⟩) (by show w.heap.size < w2.heap.size; omega)).trans y2_0
    have y3_1 := (n3.cell (p := ⟨w.heap.size, 1, none⟩) (by show w.heap.size < w2.heap.size; omega)).trans y2_1
    have b3 := b2a.trans (hb3.mono b2a.size)
    go_wp2_with fail
    go_ret
    exact ⟨by rw [HF.out]; rfl, b3⟩
  obtain ⟨lo, hi, T, rfl⟩ : ∃ lo hi T, L = (lo, hi) :: T := by
    cases L with
    | nil => exact absurd rfl h0
    | cons s t => exact ⟨s.1, s.2, t, rfl⟩
  rcases hy with hy | ⟨nb, no, rfl, hnB, hnc⟩
  · cases hy
  have q0 := (hnc 0 (by simp)).1
  simp only [List.getElem_cons_zero, Nat.zero_mul, Nat.add_zero] at q0
  have HA := Lib.hid (HLA.out.trans (show askAt S n ((lo, hi) :: T) = askFrom n lo 0 S from rfl))
  obtain ⟨m, hm⟩ : ∃ m, ((lo, hi) :: T).length = m := ⟨_, rfl⟩
  have hm0 : 0 < m := by rw [← hm]; simp
  have hz0 : ((m : Int) == 0) = false := by rw [beq_eq_false_iff_ne]; omega
  have i00 : (0 : Int) < (m : Int) := by omega
  have HM := Lib.hid hm
  rw [hm] at hw1 hL y1_1 H'
  rw [hm]
  clear hm hnc h0 HLA
  have H1 : ∀ (V : World), SpAt V V.heap.size (.slice (some ⟨nb, no, none⟩) m ncap) ((lo, hi) :: T) → SpAt V V.heap.size (.slice (some ⟨nb, no, none⟩) ((lo, hi) :: T).length ncap) ((lo, hi) :: T) := fun V h => by rw [HM.out]; exact h
  have HO1 := Lib.hid H1
  clear H1
  go_enter Try.func55, Try.ntmps55
  go_upto_region 1 with fail
  rw [← hw1]
  clear hw1
  go_wp2_with fail
  refine (KO.out _ (H.out.stepAt b1)).mono ?_
  rintro e w2 ⟨rfl, hb⟩
  have b2 := b1.trans (hb.mono b1.size)
  have s2 : w.heap.size + 1 ≤ w2.heap.size := Nat.le_trans s1 hb.size
  have y2_0 := (hb.cell (p := ⟨w.heap.size, 0, none⟩) (by show w.heap.size < w1.heap.size; omega)).trans y1_0
  have y2_1 := (hb.cell (p := ⟨w.heap.size, 1, none⟩) (by show w.heap.size < w1.heap.size; omega)).trans y1_1
  have b2a := b2.alloc b2.size (.cells #[.int .i64 n, .slice (some ⟨nb, no, none⟩) m ncap] 59)
  have n2 := (Below.refl w2.heap.size w2).alloc (Nat.le_refl _) (.cells #[.int .i64 n, .slice (some ⟨nb, no, none⟩) m ncap] 59)
  clear hb y1_0 y1_1
  go_wp2_with fail
  refine (KN.out _ _ (one_need (w := w2) (L := (lo, hi) :: T) (by rw [HM.out]) (HO1.out _ (H'.out.stepAt b2a)))).mono ?_
  rintro e w3 ⟨rfl, hb3⟩
  have n3 := n2.trans (hb3.mono n2.size)
  have y3_0 := (n3.cell (p := ⟨w.heap.size, 0, none⟩) (by show w.heap.size < w2.heap.size; omega)).trans y2_0
  have y3_1 := (n3.cell (p := ⟨w.heap.size, 1, none⟩) (by show w.heap.size < w2.heap.size; omega)).trans y2_1
  have s3 : w.heap.size + 1 ≤ w3.heap.size := Nat.le_trans s2 n3.size
  have HB3 := Lib.hid (b2a.trans (hb3.mono b2a.size))
  have q3 := (HB3.out.cell (p := ⟨nb, no, none⟩) hnB).trans q0
  have hnB3 : nb < w3.heap.size := by omega
  clear n2 n3 hb3 b2a b2 y2_0 y2_1 b1 q0
  go_wp2_with fail
  go_loopw [5] (fun i wr => PaRel S n lo w3 i wr) (fun i _ => S.length - (intOf i).toNat)
  case atStart => exact ⟨0, Nat.zero_le _, rfl, rfl, Below.refl _ _⟩
  case round =>
    obtain ⟨k, hk, rfl, ho, hb⟩ := hrel
    have HO := Lib.hid ho
    clear ho
    by_cases hlt : k < S.length
    · have bw := HB3.out.trans (hb.mono HB3.out.size)
      have BW := Lib.hid bw
      have sr := hb.size
      have z0 := cell_regrown ((hb.cell (p := ⟨w.heap.size, 0, none⟩) (by show w.heap.size < w3.heap.size; omega)).trans y3_0)
      have z1 := cell_regrown ((hb.cell (p := ⟨w.heap.size, 1, none⟩) (by show w.heap.size < w3.heap.size; omega)).trans y3_1)
      have z2 := cell_regrown ((hb.cell (p := ⟨nb, no, none⟩) hnB3).trans q3)
      rcases HX.out with h | ⟨g, o, rfl, hB, hc⟩
      · subst h
        exact absurd hlt (by simp)
      obtain ⟨x, a, b, c, d, f, M, hxy⟩ : ∃ x a b c d f M, S[k] = (x, (a, b, c, d), f, M) := ⟨_, _, _, _, _, _, _, rfl⟩
      have m1 := (hc k hlt).below bw hB
      rw [hxy] at m1
      obtain ⟨⟨k0, k1, k2, k3, k4, k5⟩, ad, cap, k6, hs⟩ := m1
      simp only at k0 k1 k2 k3 k4 k5
      have HY := Lib.hid (show S[k]? = some (x, (a, b, c, d), f, M) by rw [List.getElem?_eq_getElem hlt, hxy])
      have t0 := cell_regrown k0
      have t1 := cell_regrown k1
      have t2 := cell_regrown k2
      have t3 := cell_regrown k3
      have t4 := cell_regrown k4
      have t5 := cell_regrown k5
      have i0 : (0 : Int) ≤ (k : Int) := by omega
      have i1 : (k : Int) < (S.length : Int) := by omega
      have B2 := Lib.hid hb
      clear hxy hc hs bw hb k0 k1 k2 k3 k4 k5 k6 y3_0 y3_1 q3
      by_cases hn : x = n
      · have hz : (x == n) = true := by simp [hn]
        cases f
        · obtain ⟨r, hr⟩ : ∃ r, vRank a b c d = r := ⟨_, rfl⟩
          have HR := Lib.hid hr
          have KR : Hid (∀ V, Calls Try.prog 66 #[ver a b c d] V fun e w' => e = .returned (.int .i64 r) ∧ Below V.heap.size V w') := Lib.hid fun V => by have := specRank_any a b c d V; rwa [hr] at this
          clear hr
          by_cases hge : lo ≤ r
          · have HF := Lib.hid (pa_found HY.out HO.out (show asks n lo (x, (a, b, c, d), false, M) = true by rw [hn]; exact asks_yes (by rw [HR.out]; exact hge)))
            subst hn
            go_wp2_with fail
            refine wp_region_quiet_below (by kernel_rfl) (by kernel_rfl) ?_
            repeat (any_goals (first | go_big_quiet_step ((go_at_call 66; exact Calls.regrown_of (KR.out _))) | quiet_step ((go_at_call 66; exact Calls.regrown_of (KR.out _)))))
            refine wpQuiet_nil ?_
            intro W2 hw
            have nn := quiet_end hw
            clear hw t0 t1 t2 t3 t4 t5 z0 z1 z2
            go_wp2_with fail
            go_ret
            exact ⟨by rw [HA.out, HF.out]; rfl, BW.out.trans (nn.mono BW.out.size)⟩
          · have HF := Lib.hid (show asks n lo (x, (a, b, c, d), false, M) = false from asks_old (by rw [HR.out]; exact hge))
            subst hn
            go_wp2_with fail
            refine wp_region_quiet_below (by kernel_rfl) (by kernel_rfl) ?_
            repeat (any_goals (first | go_big_quiet_step ((go_at_call 66; exact Calls.regrown_of (KR.out _))) | quiet_step ((go_at_call 66; exact Calls.regrown_of (KR.out _)))))
            refine wpQuiet_nil ?_
            intro W2 hw
            have nn := quiet_end hw
            clear hw t0 t1 t2 t3 t4 t5 z0 z1 z2
            have HP := Lib.hid (pa_push HY.out HO.out HF.out (B2.out.trans (nn.mono B2.out.size)))
            go_wp2_with fail
            go_roundw
            case rel => exact HP.out
            case measure => simp [intOf]; omega
        · subst hn
          go_wp2_with fail
          refine wp_region_quiet_below (by kernel_rfl) (by kernel_rfl) ?_
          repeat (any_goals (first | go_big_quiet_step (fail) | quiet_step (fail)))
          refine wpQuiet_nil ?_
          intro W2 hw
          have nn := quiet_end hw
          clear hw t0 t1 t2 t3 t4 t5 z0 z1 z2
          have HP := Lib.hid (pa_push HY.out HO.out asks_gone (B2.out.trans (nn.mono B2.out.size)))
          go_wp2_with fail
          go_roundw
          case rel => exact HP.out
          case measure => simp [intOf]; omega
      · have hz : (x == n) = false := by rw [beq_eq_false_iff_ne]; exact hn
        have hz2 : decide (x = n) = false := decide_eq_false hn
        have HQ := Lib.hid (asks_name (x := x) (n := n) (lo := lo) (v := (a, b, c, d)) (f := f) (M := M) hn)
        go_wp2_with fail
        refine wp_region_quiet_below (by kernel_rfl) (by kernel_rfl) ?_
        repeat (any_goals (first | go_big_quiet_step (fail) | quiet_step (fail)))
        refine wpQuiet_nil ?_
        intro W2 hw
        have nn := quiet_end hw
        clear hw t0 t1 t2 t3 t4 t5 z0 z1 z2
        have HP := Lib.hid (pa_push HY.out HO.out HQ.out (B2.out.trans (nn.mono B2.out.size)))
        go_wp2_with fail
        go_roundw
        case rel => exact HP.out
        case measure => simp [intOf]; omega
    · obtain rfl : k = S.length := by omega
      have HF := Lib.hid (show askFrom n lo 0 S = -1 by rw [HO.out, List.drop_length]; rfl)
      go_wp2_with fail
      go_ret
      exact ⟨by rw [HA.out, HF.out]; rfl, HB3.out.trans (hb.mono HB3.out.size)⟩
end Lst
end Go.Proofs.Ytgnjhmmedogcoaa

/- How large the world of what a target needs is, as plain facts: each of its targets is as large as it was, and all together are not larger than the whole world. No condition. -/
import Derived.Test.YtopplljilmjjgaaWpq
namespace Go.Proofs.Ytopplljilmjjgaa
namespace Lpz
open Tg Wl Wn Wp
def szAt (S : List Tgt) (z : Int) : Nat := match S[z.toNat]? with | some x => sz1 x | none => 0
def sumAt (S : List Tgt) : List Int → Nat
  | [] => 0
  | z :: t => szAt S z + sumAt S t
theorem sum_of (S : List Tgt) : ∀ (P : List Tgt) (R : List Int), P.length = R.length → (∀ (j : Nat) (p : Tgt) (z : Int), P[j]? = some p → R[j]? = some z → sz1 p = szAt S z) → tgSz P = sumAt S R
  | [], [], _, _ => rfl
  | p :: P, z :: R, hl, h => by
    have h0 := h 0 p z rfl rfl
    have ih := sum_of S P R (by simpa using hl) fun j q y h1 h2 => h (j + 1) q y (by simpa using h1) (by simpa using h2)
    simp only [tgSz, sumAt, h0, ih]
theorem drop_le : ∀ (S : List Tgt) (n : Nat), tgSz (S.drop n) ≤ tgSz S
  | [], n => by simp [tgSz]
  | x :: t, 0 => Nat.le_refl _
  | x :: t, n + 1 => by
    have := drop_le t n
    simp only [List.drop_succ_cons, tgSz]
    omega
theorem sum_le (S : List Tgt) : ∀ (R : List Int) (lo : Nat), R.Pairwise (· < ·) → (∀ z ∈ R, (lo : Int) ≤ z) → sumAt S R ≤ tgSz (S.drop lo)
  | [], lo, _, _ => Nat.zero_le _
  | z :: t, lo, hp, hlo => by
    have h0 := hlo z (List.mem_cons_self ..)
    obtain ⟨n, rfl⟩ := Int.eq_ofNat_of_zero_le (show (0 : Int) ≤ z by omega)
    have ht := List.pairwise_cons.1 hp
    have ih := sum_le S t (n + 1) ht.2 fun y hy => by have := ht.1 y hy; omega
    have hd : tgSz (S.drop n) ≤ tgSz (S.drop lo) := by
      have := drop_le (S.drop lo) (n - lo)
      rwa [List.drop_drop, show lo + (n - lo) = n by omega] at this
    have hs : szAt S (n : Int) + tgSz (S.drop (n + 1)) ≤ tgSz (S.drop n) := by
      unfold szAt
      rw [Int.toNat_natCast]
      by_cases hn : n < S.length
      · rw [List.drop_eq_getElem_cons hn, List.getElem?_eq_getElem hn]
        simp only [tgSz]
        omega
      · rw [List.getElem?_eq_none (by omega), List.drop_eq_nil_of_le (show S.length ≤ n + 1 by omega)]
        simp [tgSz]
    simp only [sumAt]
    omega
theorem part_sz (S : List Tgt) (k : Int) : tgSz (partL S k) ≤ tgSz S := by
  rw [sum_of S (partL S k) (needsL S k) (part_len S k) fun j p z hp hz => by
    obtain ⟨z', x, hz', hx, h0, _, hpx, _⟩ := part_at hp
    rw [hz] at hz'
    obtain rfl := Option.some.inj hz'
    unfold szAt
    rw [hx, hpx]
    simp [sz1]]
  have := sum_le S (needsL S k) 0 (needs_asc S k) fun z hz => by
    obtain ⟨_, m, rfl, _⟩ := needs_mem.1 hz
    omega
  simpa using this
theorem part_fits {S : List Tgt} {k : Int} (h : ∀ q ∈ S, Wl.Par q) : ∀ q ∈ partL S k, q.2.2.1.length ≤ 1048576 ∧ q.2.2.2.length ≤ 1048576 := fun q hq => by
  obtain ⟨i, hi, rfl⟩ := List.getElem_of_mem hq
  obtain ⟨z, x, _, hx, _, _, hp, _⟩ := part_at (List.getElem?_eq_getElem hi)
  rw [hp]
  obtain ⟨_, h2, _, h4⟩ := h x (List.mem_of_getElem? hx)
  exact ⟨h2, by simpa using h4⟩
end Lpz
end Go.Proofs.Ytopplljilmjjgaa

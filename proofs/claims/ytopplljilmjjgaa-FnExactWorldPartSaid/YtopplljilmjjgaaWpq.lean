/- The world of what a target needs, as plain facts: it is a world, and each target of it comes to what it comes to in the whole one. No condition. -/
import Derived.Test.YtopplljilmjjgaaWpi
import Derived.Test.YtopplljilmjjgaaMds
namespace Go.Proofs.Ytopplljilmjjgaa
open Go.RowKit Go.Sort

namespace Wp
open Tg Wl Pot Wn Bl
abbrev Asc (N : List Int) : Prop := N.Pairwise (· < ·)
theorem asc_ext : ∀ {A B : List Int}, Asc A → Asc B → (∀ z, z ∈ A ↔ z ∈ B) → A = B
  | [], [], _, _, _ => rfl
  | [], y :: t, _, _, h => by have := (h y).2 (List.mem_cons_self ..); cases this
  | x :: s, [], _, _, h => by have := (h x).1 (List.mem_cons_self ..); cases this
  | x :: s, y :: t, hA, hB, h => by
    obtain ⟨a1, a2⟩ := List.pairwise_cons.1 hA
    obtain ⟨b1, b2⟩ := List.pairwise_cons.1 hB
    have e : x = y := by
      have h1 := (h x).1 (List.mem_cons_self ..)
      have h2 := (h y).2 (List.mem_cons_self ..)
      rcases List.mem_cons.1 h1 with h1 | h1
      · exact h1
      · rcases List.mem_cons.1 h2 with h2 | h2
        · exact h2.symm
        · have := a1 y h2
          have := b1 x h1
          omega
    subst e
    rw [asc_ext a2 b2 fun z => ?_]
    constructor
    · intro hz
      rcases List.mem_cons.1 ((h z).1 (List.mem_cons_of_mem _ hz)) with e | e
      · have := a1 z hz
        omega
      · exact e
    · intro hz
      rcases List.mem_cons.1 ((h z).2 (List.mem_cons_of_mem _ hz)) with e | e
      · have := b1 z hz
        omega
      · exact e
theorem plF_asc (c : List Bool) : ∀ k, Asc (plF c k)
  | 0 => List.Pairwise.nil
  | k + 1 => by
    unfold plF
    refine List.pairwise_append.2 ⟨plF_asc c k, ?_, fun a ha b hb => ?_⟩
    · split
      · exact List.pairwise_singleton _ _
      · exact List.Pairwise.nil
    · obtain ⟨m, rfl, hm, _⟩ := (plF_mem c k a).1 ha
      split at hb
      · simp at hb
        omega
      · cases hb
theorem needs_asc (S : List Tgt) (k : Int) : Asc (needsL S k) := by
  unfold needsL
  split
  · exact plF_asc _ _
  · exact List.Pairwise.nil
theorem ins_asc : ∀ {N : List Int} {lo k : Int}, insOk lo k N = true → Asc N
  | [], _, _, _ => List.Pairwise.nil
  | y :: t, lo, k, h => by
    simp only [insOk, Bool.and_eq_true, decide_eq_true_eq] at h
    exact List.pairwise_cons.2 ⟨fun x hx => by have := insOk_mem h.2 x hx; omega, ins_asc h.2⟩
theorem insOk_of : ∀ {N : List Int} {lo k : Int}, Asc N → (∀ x ∈ N, lo ≤ x ∧ x < k) → insOk lo k N = true
  | [], _, _, _, _ => rfl
  | y :: t, lo, k, ha, h => by
    obtain ⟨a1, a2⟩ := List.pairwise_cons.1 ha
    simp only [insOk, Bool.and_eq_true, decide_eq_true_eq]
    exact ⟨h y (List.mem_cons_self ..), insOk_of a2 fun x hx => ⟨by have := a1 x hx; omega, (h x (List.mem_cons_of_mem _ hx)).2⟩⟩
theorem asc_lt {R : List Int} (h : Asc R) {i j : Nat} {x y : Int} (hi : R[i]? = some x) (hj : R[j]? = some y) (hxy : x < y) : i < j := by
  obtain ⟨h1, rfl⟩ := List.getElem?_eq_some_iff.1 hi
  obtain ⟨h2, rfl⟩ := List.getElem?_eq_some_iff.1 hj
  rcases Nat.lt_trichotomy i j with e | e | e
  · exact e
  · subst e
    omega
  · have := List.pairwise_iff_getElem.1 h j i h2 h1 e
    omega
theorem asc_same {R : List Int} (h : Asc R) {i j : Nat} {x : Int} (hi : R[i]? = some x) (hj : R[j]? = some x) : i = j := by
  obtain ⟨h1, e1⟩ := List.getElem?_eq_some_iff.1 hi
  obtain ⟨h2, e2⟩ := List.getElem?_eq_some_iff.1 hj
  rcases Nat.lt_trichotomy i j with e | e | e
  · have := List.pairwise_iff_getElem.1 h i j h1 h2 e
    omega
  · exact e
  · have := List.pairwise_iff_getElem.1 h j i h2 h1 e
    omega
def ix (R : List Int) (n : Int) : Int := ((R.idxOf n : Nat) : Int)
theorem ix_at {R : List Int} {n : Int} (h : n ∈ R) : R[R.idxOf n]? = some n := by
  have := List.idxOf_lt_length_of_mem h
  rw [List.getElem?_eq_getElem this, List.getElem_idxOf]
theorem ix_eq {R : List Int} (h : Asc R) {q : Nat} {n : Int} (hq : R[q]? = some n) : R.idxOf n = q := asc_same h (ix_at (List.mem_of_getElem? hq)) hq
/-- Where some numbers of an ascending row stand in it, one by one. -/
theorem idx_map {R N : List Int} (hR : Asc R) (hN : Asc N) (hs : ∀ n ∈ N, n ∈ R) : idxL R N = N.map (ix R) := by
  refine asc_ext (plF_asc _ _) (List.pairwise_map.2 (List.Pairwise.imp_of_mem (fun {a b} ha hb hab => ?_) hN)) fun z => ?_
  · have := asc_lt hR (ix_at (hs a ha)) (ix_at (hs b hb)) hab
    unfold ix
    omega
  · unfold idxL
    rw [plF_mem, List.mem_map]
    constructor
    · rintro ⟨m, rfl, hm, ht⟩
      rw [List.getD_eq_getElem?_getD, List.getElem?_map, List.getElem?_eq_getElem hm] at ht
      simp at ht
      refine ⟨R[m], ht, ?_⟩
      unfold ix
      rw [ix_eq hR (List.getElem?_eq_getElem hm)]
    · rintro ⟨n, hn, rfl⟩
      have hl := List.idxOf_lt_length_of_mem (hs n hn)
      refine ⟨R.idxOf n, rfl, hl, ?_⟩
      rw [List.getD_eq_getElem?_getD, List.getElem?_map, ix_at (hs n hn)]
      simpa using hn
/-- What an input of what is needed is is needed. -/
theorem needs_ins {S : List Tgt} {k z n : Int} (hz : z ∈ needsL S k) (hn : n ∈ insAt S z.toNat) : n ∈ needsL S k := by
  obtain ⟨h1, m, rfl, hm, hf⟩ := needs_mem.1 hz
  rw [Int.toNat_natCast] at hn
  have hb := insAt_in h1.1 m n hn
  exact needs_mem.2 ⟨h1, n.toNat, by omega, by omega, flags_cl h1.1 k.toNat m (Nat.zero_le _) hm hf n hn⟩
/-- What stands in the world of what is needed. -/
theorem part_at {S : List Tgt} {k : Int} {j : Nat} {p : Tgt} (h : (partL S k)[j]? = some p) : ∃ z x, (needsL S k)[j]? = some (z : Int) ∧ S[z.toNat]? = some x ∧ 0 ≤ z ∧ tOk z.toNat x = true ∧ p = (x.1, x.2.1, x.2.2.1, x.2.2.2.map (ix (needsL S k))) ∧ ∀ n ∈ x.2.2.2, n ∈ needsL S k ∧ 0 ≤ n ∧ n < z := by
  unfold partL at h
  rw [List.getElem?_map] at h
  rcases hz : (needsL S k)[j]? with _ | z
  · rw [hz] at h
    cases h
  rw [hz] at h
  have hzm := List.mem_of_getElem? hz
  obtain ⟨h1, m, rfl, hm, hf⟩ := needs_mem.1 hzm
  have hx : S[(m : Int).toNat]? = some S[m] := by rw [Int.toNat_natCast, List.getElem?_eq_getElem hm]
  have htk := (wOk_iff.1 h1.1).2 m S[m] (List.getElem?_eq_getElem hm)
  have hin : ∀ n ∈ S[m].2.2.2, n ∈ needsL S k ∧ 0 ≤ n ∧ n < (m : Int) := fun n hn => by
    have hn' : n ∈ insAt S (m : Int).toNat := by rw [insAt_eq hx]; exact hn
    have := insOk_mem (tOk_ins htk) n hn
    exact ⟨needs_ins hzm hn', by omega, by omega⟩
  refine ⟨(m : Int), S[m], rfl, hx, by omega, by rw [Int.toNat_natCast]; exact htk, ?_, hin⟩
  simp only [Option.map_some, Option.some.injEq] at h
  rw [← h]
  unfold part1 tAt
  rw [hx]
  show (S[m].1, S[m].2.1, S[m].2.2.1, idxL _ S[m].2.2.2) = _
  rw [idx_map (needs_asc S k) (ins_asc (tOk_ins htk)) fun n hn => (hin n hn).1]
theorem part_len (S : List Tgt) (k : Int) : (partL S k).length = (needsL S k).length := by simp [partL]
theorem part_ok {S : List Tgt} {k : Int} (hl : S.length ≤ 12) : wOk (partL S k) = true := by
  refine wOk_iff.2 ⟨by rw [part_len]; exact Nat.le_trans (needsL_len S k) hl, fun j p hp => ?_⟩
  obtain ⟨z, x, hz, hx, h0, htk, rfl, hin⟩ := part_at hp
  rcases hm : x.1
  · obtain ⟨h1, h2, h3⟩ := tOk_source htk hm
    unfold tOk
    rw [if_neg (fun e => Bool.noConfusion (show false = true from e)), h2, h3]
    simpa using h1
  · obtain ⟨h1, h2, h3⟩ := tOk_step htk hm
    unfold tOk
    rw [if_pos rfl, insOk_of (N := x.2.2.2.map (ix (needsL S k))) (lo := 0) (k := (j : Int)), List.length_map, h3]
    · simpa using h1
    · refine List.pairwise_map.2 (List.Pairwise.imp_of_mem (fun {a b} ha hb hab => ?_) (ins_asc h2))
      have := asc_lt (needs_asc S k) (ix_at (hin a ha).1) (ix_at (hin b hb).1) hab
      unfold ix
      omega
    · intro y hy
      obtain ⟨n, hn, rfl⟩ := List.mem_map.1 hy
      have := asc_lt (needs_asc S k) (ix_at (hin n hn).1) hz (hin n hn).2.2
      unfold ix
      omega
theorem bFrom_all : ∀ (S : List Tgt) (D : List Mde), (bFrom D S).take D.length = D ∧ ∀ i x, S[i]? = some x → (bFrom D S)[D.length + i]? = some (one ((bFrom D S).take (D.length + i)) x)
  | [], D => ⟨by simp [bFrom], fun i x h => by simp at h⟩
  | y :: t, D => by
    obtain ⟨h1, h2⟩ := bFrom_all t (D ++ [one D y])
    have e : bFrom D (y :: t) = bFrom (D ++ [one D y]) t := rfl
    have hl : (D ++ [one D y]).length = D.length + 1 := by simp
    rw [hl] at h1 h2
    have ht : (bFrom D (y :: t)).take D.length = D := by
      rw [e]
      have := congrArg (List.take D.length) h1
      rw [List.take_take, Nat.min_eq_left (by omega), List.take_left] at this
      exact this
    refine ⟨ht, fun i x hx => ?_⟩
    rcases i with _ | i
    · simp at hx
      subst hx
      rw [Nat.add_zero, ht, e]
      have := congrArg (fun l => l[D.length]?) h1
      rw [List.getElem?_take, if_pos (by omega), List.getElem?_append_right (Nat.le_refl _), Nat.sub_self] at this
      exact this
    · rw [show D.length + (i + 1) = D.length + 1 + i by omega, e]
      exact h2 i x (by simpa using hx)
theorem build_one {S : List Tgt} (h : wOk S = true) {i : Nat} {x : Tgt} (hx : S[i]? = some x) : (buildL S)[i]? = some (one ((buildL S).take i) x) := by
  unfold buildL
  rw [if_pos h]
  have := (bFrom_all S []).2 i x hx
  simpa using this
theorem one_same {D D' : List Mde} {m : Bool} {t : ByteArray} {L : List Ln} {N : List Int} {f : Int → Int} (h : ∀ n ∈ N, madeAt D' (f n) = madeAt D n) : one D' (m, t, L, N.map f) = one D (m, t, L, N) := by
  have h1 : allMade D' (N.map f) = allMade D N := by
    unfold allMade
    rw [List.all_map]
    refine Bool.eq_iff_iff.2 ?_
    rw [List.all_eq_true, List.all_eq_true]
    exact Iff.intro (fun g n hn => by have := g n hn; simp only [Function.comp] at this; rwa [h n hn] at this) (fun g n hn => by simp only [Function.comp]; rw [h n hn]; exact g n hn)
  have h2 : textsOf D' (N.map f) = textsOf D N := by
    unfold textsOf
    rw [List.map_map]
    exact List.map_congr_left fun n hn => by simp only [Function.comp]; rw [h n hn]
  unfold one
  simp only [h1, h2]
theorem madeAt_cut {D : List Mde} {j : Nat} {n : Int} (h : n.toNat < j) : madeAt (D.take j) n = madeAt D n := by
  unfold madeAt
  rw [List.getD_eq_getElem?_getD, List.getD_eq_getElem?_getD, List.getElem?_take, if_pos h]
/-- Without all others a target comes to the same. -/
theorem part_build {S : List Tgt} (hw : wOk S = true) (k : Int) : ∀ (j : Nat) (z : Int), (needsL S k)[j]? = some z → (buildL (partL S k))[j]? = (buildL S)[z.toNat]? := by
  intro j
  induction j using Nat.strongRecOn with
  | ind j ih =>
    intro z hz
    have hp : (partL S k)[j]? = some (part1 S (needsL S k) z) := by unfold partL; rw [List.getElem?_map, hz]; rfl
    obtain ⟨z', x, hz', hx, h0, htk, hpe, hin⟩ := part_at hp
    rw [hz] at hz'
    obtain rfl : z = z' := Option.some.inj hz'
    rw [build_one (part_ok (wOk_len hw)) hp, build_one hw hx, hpe]
    refine congrArg some ?_
    refine one_same (N := x.2.2.2) fun n hn => ?_
    obtain ⟨g1, g2, g3⟩ := hin n hn
    have hlt := asc_lt (needs_asc S k) (ix_at g1) hz g3
    have e := ih _ hlt n (ix_at g1)
    have hi : (ix (needsL S k) n).toNat = (needsL S k).idxOf n := by unfold ix; rw [Int.toNat_natCast]
    rw [madeAt_cut (by rw [hi]; exact hlt), madeAt_cut (by omega)]
    unfold madeAt
    rw [List.getD_eq_getElem?_getD, List.getD_eq_getElem?_getD, hi, e]
end Wp
end Go.Proofs.Ytopplljilmjjgaa

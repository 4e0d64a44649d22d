/- Least versions, more plain facts: what comes up stands in the order of the shelf; of each name the newest one is picked, and it meets each need that comes up; with one need more, what comes up is what comes up for each of both. No condition. -/
import Derived.Test.YtgnjhmmedogcoaaLsx
import Derived.Test.YtgnjhmmedogcoaaGi
import Derived.Test.YtgnjhmmedogcoaaGu
namespace Go.Proofs.Ytgnjhmmedogcoaa
open Go.RowKit Go.Sort

namespace Lst
open Nup Foot Copy Cpu Gof
theorem sh_from {S : List Rel} (h : shOk S = true) : shFrom none S = true := by
  unfold shOk at h
  rw [Bool.and_eq_true] at h
  exact h.1
theorem sorted_from : ∀ (S : List Rel) (p : Option Rel), shFrom p S = true → S.Pairwise fun x y => key x < key y
  | [], _, _ => List.Pairwise.nil
  | x :: t, p, h => by
    unfold shFrom at h
    simp only [Bool.and_eq_true] at h
    exact List.Pairwise.cons (fun y hy => after_key t x h.1 h.2.2 y hy) (sorted_from t (some x) h.2.2)
/-- Rows of releases in order, each of them fine. -/
def Srt (R : List Rel) : Prop := (R.Pairwise fun x y => key x < key y) ∧ ∀ x ∈ R, relOk x = true
theorem Srt.tail {x : Rel} {t : List Rel} (h : Srt (x :: t)) : Srt t := ⟨(List.pairwise_cons.1 h.1).2, fun y hy => h.2 y (List.mem_cons_of_mem _ hy)⟩
theorem Srt.head {x : Rel} {t : List Rel} (h : Srt (x :: t)) : ∀ y ∈ t, key x < key y := (List.pairwise_cons.1 h.1).1
theorem rels_sub (S : List Rel) (c : List Bool) : ∀ k, k ≤ S.length → (relsAt S (plTo c k)).Sublist (S.take k)
  | 0, _ => by simp [plTo, relsAt]
  | k + 1, h => by
    have ih := rels_sub S c k (by omega)
    have e1 : relsAt S (plTo c (k + 1)) = relsAt S (plTo c k) ++ relsAt S (if c.getD k true = true then [(k : Int)] else []) := by
      unfold relsAt
      show List.filterMap _ (plTo c k ++ _) = _
      rw [List.filterMap_append]
    have e2 : S.take (k + 1) = S.take k ++ [S[k]'(by omega)] := by
      rw [List.take_add_one, List.getElem?_eq_getElem (by omega)]
      rfl
    rw [e1, e2]
    refine List.Sublist.append ih ?_
    split
    · unfold relsAt
      rw [List.filterMap_cons, Int.toNat_natCast, List.getElem?_eq_getElem (by omega)]
      exact List.Sublist.refl _
    · exact List.nil_sublist _
/-- The releases that come up. -/
def upR (S : List Rel) (N : List Nd) : List Rel := relsAt S (lvL S N)
theorem upR_srt {S : List Rel} {N : List Nd} (h : lvB S N = true) : Srt (upR S N) := by
  obtain ⟨hS, hN, _, _⟩ := lv_yes h
  have hs : (upR S N).Sublist S := by
    unfold upR
    unfold lvB at h
    rw [hS, hN] at h
    rcases hv : visL S N with _ | st
    · rw [hv] at h; cases h
    · have : lvL S N = plTo st.1 S.length := by unfold lvL; rw [hS, hN, hv]; rfl
      rw [this]
      have := rels_sub S st.1 S.length (Nat.le_refl _)
      rwa [List.take_length] at this
  exact ⟨(sorted_from S none (sh_from hS)).sublist hs, fun x hx => sh_all S none (sh_from hS) x (hs.subset hx)⟩
theorem upR_mem {S : List Rel} {N : List Nd} (h : lvB S N = true) (x : Rel) : x ∈ upR S N ↔ ∃ m, S[m]? = some x ∧ Reach S N m := by
  obtain ⟨_, _, hz, _⟩ := lv_yes h
  unfold upR relsAt
  rw [List.mem_filterMap]
  constructor
  · rintro ⟨z, hz1, hz2⟩
    obtain ⟨m, rfl, hm, hr⟩ := (hz z).1 hz1
    rw [Int.toNat_natCast] at hz2
    exact ⟨m, hz2, hr⟩
  · rintro ⟨m, hm, hr⟩
    exact ⟨(m : Int), (hz _).2 ⟨m, rfl, (List.getElem?_eq_some_iff.1 hm).1, hr⟩, by rw [Int.toNat_natCast]; exact hm⟩
theorem key_name {x y : Rel} (hx : relOk x = true) (hy : relOk y = true) (h : key x < key y) : x.1 ≤ y.1 := by
  have h1 := rk_few (ok_ver hx)
  have h2 := rk_few (ok_ver hy)
  unfold key at h
  omega
theorem key_rank {x y : Rel} (hx : relOk x = true) (hy : relOk y = true) (hn : x.1 = y.1) (h : key x ≤ key y) : rkv x.2.1 ≤ rkv y.2.1 := by
  have h1 := ok_ver hx
  have h2 := ok_ver hy
  unfold rkv vRank
  rw [if_pos h1, if_pos h2]
  unfold key at h
  rw [hn] at h
  omega
theorem key_one {x y : Rel} (hx : relOk x = true) (hy : relOk y = true) (hn : x.1 = y.1) (h : key x = key y) : x.2.1 = y.2.1 := by
  obtain ⟨a1, a2, a3, a4⟩ := vOk_iff.1 (ok_ver hx)
  obtain ⟨b1, b2, b3, b4⟩ := vOk_iff.1 (ok_ver hy)
  unfold key rk at h
  rw [hn] at h
  obtain ⟨n, ⟨a, b, c, d⟩, f, M⟩ := x
  obtain ⟨n', ⟨a', b', c', d'⟩, f', M'⟩ := y
  simp only at *
  simp only [Prod.mk.injEq]
  omega
theorem last_mem : ∀ {R : List Rel} {p : Pk}, p ∈ lastOf R → ∃ x ∈ R, p = pkR x
  | [], p, h => by simp [lastOf] at h
  | x :: t, p, h => by
    unfold lastOf at h
    rcases List.mem_append.1 h with h | h
    · refine ⟨x, List.mem_cons_self .., ?_⟩
      split at h
      · simpa using h
      · split at h
        · simp at h
        · simpa using h
    · obtain ⟨y, hy, e⟩ := last_mem h
      exact ⟨y, List.mem_cons_of_mem _ hy, e⟩
theorem last_up {z : Rel} {t : List Rel} {p : Pk} (hp : p ∈ lastOf t) : p ∈ lastOf (z :: t) := by
  unfold lastOf
  exact List.mem_append_right _ hp
/-- Of each name the newest one is among them. -/
theorem last_top : ∀ {R : List Rel}, Srt R → ∀ x ∈ R, ∃ y ∈ R, pkR y ∈ lastOf R ∧ y.1 = x.1 ∧ key x ≤ key y
  | [], _, x, h => by simp at h
  | [z], _, x, h => by
    obtain rfl : x = z := by simpa using h
    exact ⟨x, List.mem_cons_self .., by simp [lastOf], rfl, Int.le_refl _⟩
  | z :: y :: t, hs, x, h => by
    rcases List.mem_cons.1 h with rfl | h
    · by_cases hn : y.1 = x.1
      · obtain ⟨q, h1, h2, h3, h4⟩ := last_top hs.tail y (List.mem_cons_self ..)
        have := hs.head y (List.mem_cons_self ..)
        exact ⟨q, List.mem_cons_of_mem _ h1, last_up h2, by rw [h3, hn], by omega⟩
      · refine ⟨x, List.mem_cons_self .., ?_, rfl, Int.le_refl _⟩
        show pkR x ∈ (if y.1 = x.1 then [] else [pkR x]) ++ lastOf (y :: t)
        rw [if_neg hn]
        exact List.mem_append_left _ (List.mem_singleton.2 rfl)
    · obtain ⟨q, h1, h2, h3, h4⟩ := last_top hs.tail x h
      exact ⟨q, List.mem_cons_of_mem _ h1, last_up h2, h3, h4⟩
theorem rel_name {x : Rel} (h : relOk x = true) : 0 ≤ x.1 ∧ x.1 ≤ 7 := by
  unfold relOk at h
  rw [Bool.and_eq_true] at h
  exact inB_iff.1 h.1
theorem last_ok : ∀ {R : List Rel} {lo : Int}, Srt R → (∀ x ∈ R, lo ≤ x.1) → pkFrom lo (lastOf R) = true
  | [], _, _, _ => rfl
  | [x], lo, hs, hl => by
    have h1 := hs.2 x (List.mem_cons_self ..)
    have h2 := rel_name h1
    have h3 := ok_ver h1
    have h4 := hl x (List.mem_cons_self ..)
    simp [lastOf, pkFrom, h3, h4, h2.2]
  | x :: y :: t, lo, hs, hl => by
    have h1 := hs.2 x (List.mem_cons_self ..)
    have h2 := rel_name h1
    have h3 := ok_ver h1
    have h4 := hl x (List.mem_cons_self ..)
    by_cases hn : y.1 = x.1
    · have e : lastOf (x :: y :: t) = lastOf (y :: t) := by
        show (if y.1 = x.1 then [] else [pkR x]) ++ lastOf (y :: t) = _
        rw [if_pos hn]; rfl
      rw [e]
      exact last_ok hs.tail fun z hz => hl z (List.mem_cons_of_mem _ hz)
    · have e : lastOf (x :: y :: t) = pkR x :: lastOf (y :: t) := by
        show (if y.1 = x.1 then [] else [pkR x]) ++ lastOf (y :: t) = _
        rw [if_neg hn]; rfl
      rw [e]
      have ih := last_ok (lo := x.1 + 1) hs.tail fun z hz => by
        have hy := hs.head y (List.mem_cons_self ..)
        have hyo := hs.2 y (List.mem_cons_of_mem _ (List.mem_cons_self ..))
        have h5 := key_name h1 hyo hy
        rcases List.mem_cons.1 hz with rfl | hz'
        · omega
        · have h6 := hs.tail.head z hz'
          have h7 := key_name hyo (hs.2 z (List.mem_cons_of_mem _ hz)) h6
          omega
      simp only [pkFrom, Bool.and_eq_true, decide_eq_true_eq]
      exact ⟨⟨h4, h2.2⟩, h3, ih⟩
theorem least_ok {S : List Rel} {N : List Nd} : pkOk (leL S N) = true := by
  rcases h : lvB S N
  · unfold leL; rw [lvL_no h]; rfl
  · exact last_ok (upR_srt h) fun x hx => (rel_name ((upR_srt h).2 x hx)).1
/-- What is picked of a name: the newest one that comes up. -/
theorem pick_is {S : List Rel} {N : List Nd} (h : lvB S N = true) (n : Int) :
    (pkGet n (leL S N) = none ∧ ∀ x ∈ upR S N, ¬ x.1 = n) ∨ ∃ y ∈ upR S N, y.1 = n ∧ pkGet n (leL S N) = some y.2.1 ∧ ∀ x ∈ upR S N, x.1 = n → key x ≤ key y := by
  have hs := upR_srt h
  have hok : pkFrom 0 (leL S N) = true := least_ok
  have hL : leL S N = lastOf (upR S N) := rfl
  have top : ∀ x ∈ upR S N, x.1 = n → ∃ y ∈ upR S N, y.1 = n ∧ pkGet n (leL S N) = some y.2.1 ∧ key x ≤ key y := fun x hx hn => by
    obtain ⟨y, h1, h2, h3, h4⟩ := last_top hs x hx
    rw [← hL] at h2
    obtain ⟨k, hk⟩ := List.mem_iff_getElem?.1 h2
    have := Pkf.get_here hok hk
    exact ⟨y, h1, by rw [h3, hn], by rw [← hn, ← h3]; exact this, h4⟩
  rcases hg : pkGet n (leL S N) with _ | v
  · refine .inl ⟨rfl, fun x hx hn => ?_⟩
    obtain ⟨y, _, _, h3, _⟩ := top x hx hn
    rw [hg] at h3; cases h3
  · have hm := Pkf.get_mem hg
    rw [hL] at hm
    obtain ⟨y, hy, he⟩ := last_mem hm
    have h1 : n = y.1 := congrArg (fun p => p.1) he
    have h2 : v = y.2.1 := congrArg (fun p => p.2) he
    refine .inr ⟨y, hy, h1.symm, by rw [h2], fun x hx hn => ?_⟩
    obtain ⟨z, hz1, hz2, hz3, hz4⟩ := top x hx hn
    rw [hg] at hz3
    have h3 : v = z.2.1 := Option.some.inj hz3
    have : key z = key y := by unfold key; rw [hz2, ← h1, ← h3, h2]
    omega
theorem find_here (n : Int) (v : Int × Int × Int × Int) : ∀ (S : List Rel) (k i : Nat) (hi : i < S.length), S[i].1 = n → S[i].2.1 = v → ∃ j, ∃ h : j < S.length, shFind n v k S = ((k + j : Nat) : Int) ∧ S[j].1 = n ∧ S[j].2.1 = v
  | [], _, i, hi, _, _ => absurd hi (by simp)
  | x :: t, k, i, hi, h1, h2 => by
    unfold shFind
    by_cases hx : x.1 = n ∧ x.2.1 = v
    · rw [if_pos hx]
      exact ⟨0, by simp, by simp, hx.1, hx.2⟩
    · rw [if_neg hx]
      rcases i with _ | i
      · exact absurd ⟨h1, h2⟩ hx
      · obtain ⟨j, hj, h3, h4, h5⟩ := find_here n v t (k + 1) i (by simpa using hi) (by simpa using h1) (by simpa using h2)
        exact ⟨j + 1, by simp; omega, by rw [h3]; congr 1; omega, by simpa using h4, by simpa using h5⟩
theorem here_at {S : List Rel} (hS : shOk S = true) {k : Nat} (hk : k < S.length) : shAt S S[k].1 S[k].2.1 = (k : Int) := by
  obtain ⟨j, hj, hf, h1, h2⟩ := find_here S[k].1 S[k].2.1 S 0 k hk rfl rfl
  rw [Nat.zero_add] at hf
  have hjk : j = k := keys_differ S none (sh_from hS) j k hj hk (by unfold key; rw [h1, h2])
  subst hjk
  unfold shAt
  rw [if_pos hS, hf]
/-- Each pick is a release that comes up, at its place. -/
theorem pick_at {S : List Rel} {N : List Nd} (h : lvB S N = true) {p : Pk} (hp : p ∈ leL S N) : ∃ m : Nat, m < S.length ∧ shAt S p.1 p.2 = (m : Int) ∧ (m : Int) ∈ lvL S N ∧ Reach S N m := by
  obtain ⟨hS, _, hz, _⟩ := lv_yes h
  obtain ⟨x, hx, rfl⟩ := last_mem (R := upR S N) hp
  obtain ⟨m, hm, hr⟩ := (upR_mem h x).1 hx
  obtain ⟨hm1, hm2⟩ := List.getElem?_eq_some_iff.1 hm
  have := here_at hS hm1
  rw [hm2] at this
  exact ⟨m, hm1, this, (hz _).2 ⟨m, rfl, hm1, hr⟩, hr⟩
/-- Each need that comes up is met: a pick of its name, not before its first version. -/
theorem need_met {S : List Rel} {N : List Nd} (h : lvB S N = true) {q : Nd} (hq : Up S N q) : ∃ s t v, q.2 = s :: t ∧ pkOf (leL S N) q.1 = some v ∧ s.1 ≤ rkv v := by
  obtain ⟨_, _, _, hu⟩ := lv_yes h
  obtain ⟨m, e1, e2, e3⟩ := hu q hq
  rcases askAt_at (S := S) q.1 q.2 with e | ⟨m', x, s, t, hL, e, hx, ha, _⟩
  · omega
  · obtain rfl : m = m' := by omega
    unfold asks at ha
    simp only [Bool.and_eq_true, decide_eq_true_eq] at ha
    have hxR := (upR_mem h x).2 ⟨m, hx, e3⟩
    rcases pick_is h q.1 with ⟨_, hno⟩ | ⟨y, hy, hyn, hg, htop⟩
    · exact absurd ha.1 (hno x hxR)
    · have hs := upR_srt h
      have := key_rank (hs.2 x hxR) (hs.2 y hy) (by rw [ha.1, hyn]) (htop x hxR ha.1)
      have h2 := ha.2.2
      refine ⟨s, t, y.2.1, hL, ?_, ?_⟩
      · unfold pkOf
        rw [if_pos least_ok, hg]
      · unfold rkv at this ⊢
        omega
/-- One need more. -/
theorem reach_more {S : List Rel} {N : List Nd} {n : Nd} {j : Nat} : Reach S (N ++ [n]) j ↔ Reach S N j ∨ Reach S [n] j := by
  constructor
  · intro h
    induction h with
    | first q j hq hj =>
      rcases List.mem_append.1 hq with hq | hq
      · exact .inl (.first q j hq hj)
      · exact .inr (.first q j hq hj)
    | next i x q j _ hx hq hj ih =>
      rcases ih with ih | ih
      · exact .inl (.next i x q j ih hx hq hj)
      · exact .inr (.next i x q j ih hx hq hj)
  · rintro (h | h)
    · induction h with
      | first q j hq hj => exact .first q j (List.mem_append_left _ hq) hj
      | next i x q j _ hx hq hj ih => exact .next i x q j ih hx hq hj
    · induction h with
      | first q j hq hj => exact .first q j (List.mem_append_right _ hq) hj
      | next i x q j _ hx hq hj ih => exact .next i x q j ih hx hq hj
theorem up_more {S : List Rel} {N : List Nd} {n q : Nd} : Up S (N ++ [n]) q ↔ Up S N q ∨ Up S [n] q := by
  unfold Up
  constructor
  · rintro (h | ⟨i, x, h1, h2, h3⟩)
    · rcases List.mem_append.1 h with h | h
      · exact .inl (.inl h)
      · exact .inr (.inl h)
    · rcases reach_more.1 h1 with h1 | h1
      · exact .inl (.inr ⟨i, x, h1, h2, h3⟩)
      · exact .inr (.inr ⟨i, x, h1, h2, h3⟩)
  · rintro ((h | ⟨i, x, h1, h2, h3⟩) | (h | ⟨i, x, h1, h2, h3⟩))
    · exact .inl (List.mem_append_left _ h)
    · exact .inr ⟨i, x, reach_more.2 (.inl h1), h2, h3⟩
    · exact .inl (List.mem_append_right _ h)
    · exact .inr ⟨i, x, reach_more.2 (.inr h1), h2, h3⟩
theorem ndFrom_app : ∀ (N : List Nd) (lo : Int) (n : Nd), 0 ≤ lo → lo ≤ n.1 → (∀ q ∈ N, q.1 < n.1) → ndFrom lo (N ++ [n]) = (ndFrom lo N && ndFrom 0 [n])
  | [], lo, n, h0, hl, _ => by
    have h1 : 0 ≤ n.1 := by omega
    simp [ndFrom, hl, h1]
  | x :: t, lo, n, h0, hl, hn => by
    have hx := hn x (List.mem_cons_self ..)
    by_cases hlo : lo ≤ x.1 ∧ x.1 ≤ 7
    · have ih := ndFrom_app t (x.1 + 1) n (by omega) (by omega) fun q hq => hn q (List.mem_cons_of_mem _ hq)
      show (decide (lo ≤ x.1 ∧ x.1 ≤ 7) && (spOk x.2 && ndFrom (x.1 + 1) (t ++ [n]))) = ((decide (lo ≤ x.1 ∧ x.1 ≤ 7) && (spOk x.2 && ndFrom (x.1 + 1) t)) && ndFrom 0 [n])
      rw [ih]
      simp only [Bool.and_assoc]
    · show (decide (lo ≤ x.1 ∧ x.1 ≤ 7) && (spOk x.2 && ndFrom (x.1 + 1) (t ++ [n]))) = ((decide (lo ≤ x.1 ∧ x.1 ≤ 7) && (spOk x.2 && ndFrom (x.1 + 1) t)) && ndFrom 0 [n])
      rw [decide_eq_false hlo]
      rfl
theorem nd_more {N : List Nd} {n : Nd} (h0 : 0 ≤ n.1) (hn : ∀ q ∈ N, q.1 < n.1) (hl : N.length ≠ 5) : ndOk (N ++ [n]) = (ndOk N && ndOk [n]) := by
  unfold ndOk
  rw [ndFrom_app N 0 n (Int.le_refl 0) h0 hn]
  have e : decide ((N ++ [n]).length ≤ 5) = decide (N.length ≤ 5) := by
    rw [List.length_append, List.length_singleton]
    exact decide_eq_decide.2 ⟨fun h => by omega, fun h => by omega⟩
  rw [e]
  have e2 : decide ([n].length ≤ 5) = true := by simp
  rw [e2, Bool.and_true]
  cases ndFrom 0 N <;> cases ndFrom 0 [n] <;> simp
theorem lv_more {S : List Rel} {N : List Nd} {n : Nd} (h0 : 0 ≤ n.1) (hn : ∀ q ∈ N, q.1 < n.1) (hl : N.length ≠ 5) : lvB S (N ++ [n]) = (lvB S N && lvB S [n]) := by
  rcases hS : shOk S
  · simp [lvB, hS]
  have hnd := nd_more h0 hn hl
  rcases h1 : ndOk N
  · rw [h1] at hnd
    simp [lvB, h1, hnd]
  rcases h2 : ndOk [n]
  · rw [h1, h2] at hnd
    simp [lvB, h2, hnd]
  rw [h1, h2] at hnd
  have bad : ∀ {q : Nd} {X : List Nd}, lvB S X = true → Up S X q → askAt S q.1 q.2 = -1 → False := fun hv hu ha => by
    obtain ⟨_, _, _, hz⟩ := lv_yes hv
    obtain ⟨m, e, _⟩ := hz _ hu
    omega
  rcases h3 : lvB S N
  · obtain ⟨q, hu, ha⟩ := lv_no hS h1 h3
    rcases h4 : lvB S (N ++ [n])
    · rfl
    · exact absurd (bad h4 (up_more.2 (.inl hu)) ha) id
  rcases h5 : lvB S [n]
  · obtain ⟨q, hu, ha⟩ := lv_no hS h2 h5
    rcases h4 : lvB S (N ++ [n])
    · rfl
    · exact absurd (bad h4 (up_more.2 (.inr hu)) ha) id
  rcases h4 : lvB S (N ++ [n])
  · obtain ⟨q, hu, ha⟩ := lv_no hS hnd h4
    rcases up_more.1 hu with hu | hu
    · exact absurd (bad h3 hu ha) id
    · exact absurd (bad h5 hu ha) id
  · rfl
theorem more_pick {S : List Rel} {N : List Nd} {n : Nd} (ha : lvB S N = true) (hb : lvB S [n] = true) (hc : lvB S (N ++ [n]) = true) (z : Int) :
    (pkOf (leL S (N ++ [n])) z).isSome = ((pkOf (leL S N) z).isSome || (pkOf (leL S [n]) z).isSome) ∧
    (∀ c, pkOf (leL S (N ++ [n])) z = some c → (∀ a, pkOf (leL S N) z = some a → rkv a ≤ rkv c) ∧ (∀ a, pkOf (leL S [n]) z = some a → rkv a ≤ rkv c) ∧ (pkOf (leL S N) z = some c ∨ pkOf (leL S [n]) z = some c)) := by
  have e : ∀ X, pkOf (leL S X) z = pkGet z (leL S X) := fun X => by unfold pkOf; rw [if_pos least_ok]
  rw [e, e, e]
  have inA : ∀ x ∈ upR S N, x ∈ upR S (N ++ [n]) := fun x hx => by
    obtain ⟨m, h1, h2⟩ := (upR_mem ha x).1 hx
    exact (upR_mem hc x).2 ⟨m, h1, reach_more.2 (.inl h2)⟩
  have inB' : ∀ x ∈ upR S [n], x ∈ upR S (N ++ [n]) := fun x hx => by
    obtain ⟨m, h1, h2⟩ := (upR_mem hb x).1 hx
    exact (upR_mem hc x).2 ⟨m, h1, reach_more.2 (.inr h2)⟩
  have back : ∀ x ∈ upR S (N ++ [n]), x ∈ upR S N ∨ x ∈ upR S [n] := fun x hx => by
    obtain ⟨m, h1, h2⟩ := (upR_mem hc x).1 hx
    rcases reach_more.1 h2 with h2 | h2
    · exact .inl ((upR_mem ha x).2 ⟨m, h1, h2⟩)
    · exact .inr ((upR_mem hb x).2 ⟨m, h1, h2⟩)
  have hs := upR_srt hc
  rcases pick_is hc z with ⟨hg, hno⟩ | ⟨y, hy, hyz, hg, htop⟩
  · have g1 : pkGet z (leL S N) = none := by
      rcases pick_is ha z with ⟨h, _⟩ | ⟨x, hx, hxz, _⟩
      · exact h
      · exact absurd hxz (hno x (inA x hx))
    have g2 : pkGet z (leL S [n]) = none := by
      rcases pick_is hb z with ⟨h, _⟩ | ⟨x, hx, hxz, _⟩
      · exact h
      · exact absurd hxz (hno x (inB' x hx))
    rw [hg, g1, g2]
    exact ⟨rfl, fun c h => by cases h⟩
  · have half : ∀ X, lvB S X = true → (∀ x ∈ upR S X, x ∈ upR S (N ++ [n])) → (∀ a, pkGet z (leL S X) = some a → rkv a ≤ rkv y.2.1) ∧ (y ∈ upR S X → pkGet z (leL S X) = some y.2.1) := fun X hX hin => by
      rcases pick_is hX z with ⟨h1, h2⟩ | ⟨x, hx, hxz, h1, h2⟩
      · exact ⟨(fun a h => by rw [h1] at h; cases h), fun hyX => absurd hyz (h2 y hyX)⟩
      · have hk := htop x (hin x hx) hxz
        refine ⟨fun a h => ?_, fun hyX => ?_⟩
        · rw [h1] at h
          rw [← Option.some.inj h]
          exact key_rank (hs.2 x (hin x hx)) (hs.2 y hy) (by rw [hxz, hyz]) hk
        · have := h2 y hyX hyz
          rw [h1, key_one (hs.2 x (hin x hx)) (hs.2 y hy) (by rw [hxz, hyz]) (by omega)]
    obtain ⟨a1, a2⟩ := half N ha inA
    obtain ⟨b1, b2⟩ := half [n] hb inB'
    rw [hg]
    refine ⟨?_, fun c h => ?_⟩
    · rcases back y hy with h | h
      · rw [a2 h]; rfl
      · rw [b2 h]; simp
    · rw [← Option.some.inj h]
      exact ⟨a1, b1, by rcases back y hy with h | h
                        · exact .inl (a2 h)
                        · exact .inr (b2 h)⟩
end Lst
end Go.Proofs.Ytgnjhmmedogcoaa

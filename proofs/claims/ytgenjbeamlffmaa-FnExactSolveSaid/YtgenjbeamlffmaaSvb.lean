/- The best choice, as plain facts: all that picks can be made up to stands in the order in which choices are better, and every choice that is fine is among it; so the first fine one is the best. Withdrawing what is not in it changes nothing. No condition. -/
import Derived.Test.YtgenjbeamlffmaaSvn
import Derived.Test.YtgenjbeamlffmaaPkfact
namespace Go.Proofs.Ytgenjbeamlffmaa
open Go.RowKit Go.Sort

namespace Svp
open Foot Copy Nup Cpu Cfa Rch Gof Pof
def pkey (p : Pk) : Int := p.1 * 20000000 + rk p.2.1 p.2.2.1 p.2.2.2.1 p.2.2.2.2
theorem sh_sorted : ∀ {S : List Rel} {p : Option Rel}, shFrom p S = true → S.Pairwise fun x y => key x < key y
  | [], _, _ => List.Pairwise.nil
  | q :: t, p, h => by
    simp only [shFrom, Bool.and_eq_true] at h
    exact List.pairwise_cons.2 ⟨fun y hy => after_key t q h.1 h.2.2 y hy, sh_sorted h.2.2⟩
theorem open_sorted {S : List Rel} (H : List Pk) (hS : shOk S = true) : (openL S H).Pairwise fun x y => pkey x < pkey y := by
  have h := hS
  unfold shOk at h
  rw [Bool.and_eq_true] at h
  unfold openL
  rw [List.pairwise_map]
  exact (sh_sorted h.1).filter _
theorem get_out {L : List Pk} {n : Int} (h : ∀ x ∈ L, ¬ x.1 = n) : pkGet n L = none := by
  rcases hg : pkGet n L with _ | v
  · rfl
  · exact absurd rfl (h _ (get_mem hg))
/-- Names below what is added are as they were. -/
theorem get_low {c o d : List Pk} {n : Int} (hc : pkOk c = true) (hd : pkOk d = true) (h1 : ∀ x ∈ c, x ∈ d) (h2 : ∀ x ∈ d, x ∈ c ++ o) (ho : ∀ y ∈ o, n < y.1) : pkGet n d = pkGet n c := by
  rcases hg : pkGet n c with _ | v
  · refine get_out fun x hx hn => ?_
    rcases List.mem_append.1 (h2 x hx) with k | k
    · subst hn
      have := get_some (lo := 0) hc (n := x.1) (v := x.2) k
      rw [hg] at this
      cases this
    · have := ho x k
      omega
  · exact get_some (lo := 0) hd (h1 _ (get_mem hg))
theorem pbet_skip (A B : List Pk) : ∀ (k : Nat), k ≤ 8 → (∀ n : Nat, n < k → pkGet (n : Int) A = pkGet (n : Int) B) → pbet A B 8 0 = pbet A B (8 - k) (k : Int)
  | 0, _, _ => rfl
  | k + 1, hk, h => by
    have ih := pbet_skip A B k (by omega) fun n hn => h n (by omega)
    have e := h k (by omega)
    rw [ih, pbet_here A B (by omega), e]
    rcases pkGet (k : Int) B with _ | ⟨p, q, r, s⟩
    · rfl
    · simp
/-- One row is better if it has no pick of the first name in which they differ. -/
theorem better_none {A B : List Pk} (hA : pkOk A = true) (hB : pkOk B = true) {k : Nat} (hk : k < 8) (h : ∀ n : Nat, n < k → pkGet (n : Int) A = pkGet (n : Int) B) (h1 : pkGet (k : Int) A = none) {v : V4} (h2 : pkGet (k : Int) B = some v) : pkBetter A B = true := by
  unfold pkBetter
  rw [hA, hB, pbet_skip A B k (by omega) h, pbet_here A B hk, h1, h2]
  rfl
theorem better_newer {A B : List Pk} (hA : pkOk A = true) (hB : pkOk B = true) {k : Nat} (hk : k < 8) (h : ∀ n : Nat, n < k → pkGet (n : Int) A = pkGet (n : Int) B) {a b c d p q r s : Int} (h1 : pkGet (k : Int) A = some (a, b, c, d)) (h2 : pkGet (k : Int) B = some (p, q, r, s)) (va : vOk a b c d = true) (vp : vOk p q r s = true) (hlt : rk p q r s < rk a b c d) : pkBetter A B = true := by
  unfold pkBetter
  rw [hA, hB, pbet_skip A B k (by omega) h, pbet_here A B hk, h1, h2]
  simp only
  rw [if_neg (fun e => by obtain ⟨rfl, rfl, rfl, rfl⟩ := e; omega)]
  unfold vLess vRank
  rw [vp, va, if_pos rfl, if_pos rfl, decide_eq_true hlt]
  rfl
theorem first_name {o : List Pk} {p : Pk} {t : List Pk} (ho : o = p :: t) : ∀ q ∈ o.take (firstN o), q.1 = p.1 := by
  subst ho
  have e : (p :: t).takeWhile (fun q => decide (q.1 = p.1)) ++ (p :: t).dropWhile (fun q => decide (q.1 = p.1)) = p :: t := List.takeWhile_append_dropWhile
  have cut : ∀ {A B l : List Pk}, A ++ B = l → l.take A.length = A := fun {A B l} h => by subst h; simp
  have e1 : (p :: t).take (firstN (p :: t)) = (p :: t).takeWhile (fun q => decide (q.1 = p.1)) := cut e
  intro q hq
  rw [e1] at hq
  have := List.all_eq_true.1 (List.all_takeWhile (l := p :: t) (p := fun q => decide (q.1 = p.1))) q hq
  simpa using this
theorem first_self {p : Pk} {t : List Pk} : p ∈ (p :: t).take (firstN (p :: t)) := by
  have := firstN_pos p t
  rcases h : firstN (p :: t) with _ | m
  · omega
  · simp
/-- All that picks can be made up to stands in the order in which it is better. -/
theorem comps_sorted {S : List Rel} {H : List Pk} (hS : shOk S = true) : ∀ (f : Nat) (c o : List Pk), Good S H c o → (o.Pairwise fun x y => pkey x < pkey y) → (comps f c o).Pairwise fun A B => pkBetter A B = true
  | 0, c, o, _, _ => List.pairwise_singleton _ _
  | f + 1, c, [], _, _ => List.pairwise_singleton _ _
  | f + 1, c, p :: t, h, hs => by
    have hl := h.later
    have hsd : ((p :: t).drop (firstN (p :: t))).Pairwise fun x y => pkey x < pkey y := hs.sublist (List.drop_sublist _ _)
    have hst : ((p :: t).take (firstN (p :: t))).Pairwise fun x y => pkey x < pkey y := hs.sublist (List.take_sublist _ _)
    have hp := first_name (o := p :: t) rfl
    have hfn := first_names h.mono
    have hop : ∀ q ∈ (p :: t).take (firstN (p :: t)), (0 ≤ q.1 ∧ q.1 ≤ 7) ∧ vOk q.2.1 q.2.2.1 q.2.2.2.1 q.2.2.2.2 = true := fun q hq => open_ok hS (h.sub q (List.mem_append_right _ (List.mem_of_mem_take hq)))
    have hop0 := hop p first_self
    obtain ⟨k, hk⟩ : ∃ k : Nat, p.1 = (k : Int) := ⟨p.1.toNat, by omega⟩
    have hk8 : k < 8 := by omega
    -- what begins with c and a pick of the name
    have fact : ∀ q ∈ (p :: t).take (firstN (p :: t)), ∀ d ∈ comps f (c ++ [q]) ((p :: t).drop (firstN (p :: t))), pkOk d = true ∧ pkGet (k : Int) d = some q.2 ∧ ∀ n : Nat, n < k → pkGet (n : Int) d = pkGet (n : Int) c := fun q hq d hd => by
      obtain ⟨m1, m2, m3⟩ := comps_mem hS f (c ++ [q]) _ (h.with' hS hq) d hd
      have hqn := hp q hq
      refine ⟨m3, get_some (lo := 0) m3 (by have := m1 q (List.mem_append_right _ (List.mem_singleton.2 rfl)); rw [← hk, ← hqn]; exact this), fun n hn => ?_⟩
      refine get_low (o := q :: (p :: t).drop (firstN (p :: t))) h.pk m3 (fun x hx => m1 x (List.mem_append_left _ hx)) (fun x hx => by have := m2 x hx; simpa using this) fun y hy => ?_
      rcases List.mem_cons.1 hy with rfl | hy
      · omega
      · have := hfn q hq y hy; omega
    unfold comps
    rw [List.pairwise_append]
    refine ⟨comps_sorted hS f c _ hl hsd, ?_, fun A hA B hB => ?_⟩
    · rw [List.pairwise_flatMap]
      refine ⟨fun q hq => comps_sorted hS f (c ++ [q]) _ (h.with' hS (List.mem_reverse.1 hq)) hsd, ?_⟩
      rw [List.pairwise_reverse]
      refine hst.imp_of_mem fun {x y} hx hy hxy A hA B hB => ?_
      obtain ⟨a1, a2, a3⟩ := fact y hy A hA
      obtain ⟨b1, b2, b3⟩ := fact x hx B hB
      have hx1 := hp x hx
      have hy1 := hp y hy
      unfold pkey at hxy
      exact better_newer (a := y.2.1) (b := y.2.2.1) (c := y.2.2.2.1) (d := y.2.2.2.2) (p := x.2.1) (q := x.2.2.1) (r := x.2.2.2.1) (s := x.2.2.2.2) a1 b1 hk8 (fun n hn => (a3 n hn).trans (b3 n hn).symm) a2 b2 (hop y hy).2 (hop x hx).2 (by omega)
    · obtain ⟨q, hq, hB⟩ := List.mem_flatMap.1 hB
      obtain ⟨b1, b2, b3⟩ := fact q (List.mem_reverse.1 hq) B hB
      obtain ⟨m1, m2, m3⟩ := comps_mem hS f c _ hl A hA
      refine better_none m3 b1 hk8 (fun n hn => (get_low h.pk m3 m1 m2 fun y hy => ?_).trans (b3 n hn).symm) (get_out fun x hx hn => ?_) b2
      · have := hfn p first_self y hy; omega
      · rcases List.mem_append.1 (m2 x hx) with k' | k'
        · have := h.low x k' p List.mem_cons_self; omega
        · have := hfn p first_self x k'; omega
theorem same_picks {A B : List Pk} (hA : pkOk A = true) (hB : pkOk B = true) (h1 : ∀ x ∈ A, x ∈ B) (h2 : ∀ x ∈ B, x ∈ A) : A = B :=
  Pkf.same_rows hA hB fun m _ _ => by
    have := get_low (n := m) (o := []) hB hA h2 (fun x hx => by simpa using h1 x hx) (fun y hy => by simp at hy)
    exact this
/-- Whatever begins with picks and has more of what is open alone is among it. -/
theorem comps_has {S : List Rel} {H : List Pk} (hS : shOk S = true) {d : List Pk} (hd : pkOk d = true) : ∀ (f : Nat) (c o : List Pk), o.length ≤ f → Good S H c o → (∀ x ∈ c, x ∈ d) → (∀ x ∈ d, x ∈ c ++ o) → d ∈ comps f c o
  | 0, c, o, hf, h, h1, h2 => by
    obtain rfl : o = [] := List.eq_nil_of_length_eq_zero (by omega)
    show d ∈ [c]
    rw [same_picks hd h.pk (fun x hx => by simpa using h2 x hx) h1]
    simp
  | f + 1, c, [], hf, h, h1, h2 => by
    show d ∈ [c]
    rw [same_picks hd h.pk (fun x hx => by simpa using h2 x hx) h1]
    simp
  | f + 1, c, p :: t, hf, h, h1, h2 => by
    have hp := first_name (o := p :: t) rfl
    have hpos := firstN_pos p t
    have hlen : ((p :: t).drop (firstN (p :: t))).length ≤ f := by simp at hf ⊢; omega
    have hcut : ∀ x ∈ p :: t, x ∈ (p :: t).take (firstN (p :: t)) ∨ x ∈ (p :: t).drop (firstN (p :: t)) := fun x hx => by
      rw [← List.take_append_drop (firstN (p :: t)) (p :: t)] at hx
      exact List.mem_append.1 hx
    unfold comps
    by_cases hx : ∃ q ∈ (p :: t).take (firstN (p :: t)), q ∈ d
    · obtain ⟨q, hq, hqd⟩ := hx
      refine List.mem_append_right _ (List.mem_flatMap.2 ⟨q, List.mem_reverse.2 hq, comps_has hS hd f (c ++ [q]) _ hlen (h.with' hS hq) (fun x hx => ?_) fun x hx => ?_⟩)
      · rcases List.mem_append.1 hx with k | k
        · exact h1 x k
        · rw [List.mem_singleton.1 k]; exact hqd
      · rcases List.mem_append.1 (h2 x hx) with k | k
        · exact List.mem_append_left _ (List.mem_append_left _ k)
        · rcases hcut x k with k | k
          · have e : x.1 = q.1 := (hp x k).trans (hp q hq).symm
            have ev : x.2 = q.2 := pk_one (lo := 0) (n := x.1) hd hx (by rw [e]; exact hqd)
            have : x = q := Prod.ext e ev
            rw [this]
            exact List.mem_append_left _ (List.mem_append_right _ (List.mem_singleton.2 rfl))
          · exact List.mem_append_right _ k
    · refine List.mem_append_left _ (comps_has hS hd f c _ hlen h.later h1 fun x hxd => ?_)
      rcases List.mem_append.1 (h2 x hxd) with k | k
      · exact List.mem_append_left _ k
      · rcases hcut x k with k | k
        · exact absurd ⟨x, k, hxd⟩ hx
        · exact List.mem_append_right _ k
/-- What is on the shelf and allowed is open. -/
theorem there_open {S : List Rel} {H : List Pk} {x : Pk} (h1 : thereP S x = true) (h2 : allowP S H x = true) : x ∈ openL S H := by
  have ht : 0 ≤ shFind x.1 x.2 0 S := by unfold thereP at h1; simpa using h1
  rcases shFind_range x.1 x.2 S 0 with e | ⟨i, e', hi⟩
  · omega
  obtain ⟨n1, n2⟩ := shFind_hit (k := 0) e' hi
  rw [Nat.zero_add] at e'
  have hb : openB H S[i] = true := by
    unfold allowP goneAt at h2
    rw [e', if_pos (by omega), Int.toNat_natCast, List.getElem?_eq_getElem hi] at h2
    unfold openB
    have : pkR S[i] = x := by unfold pkR; rw [n1, n2]
    rw [this]
    have h3 : (!(S[i].2.2.1 && !heldP H x)) = true := h2
    revert h3
    generalize S[i].2.2.1 = u
    generalize heldP H x = v
    cases u <;> cases v <;> simp
  unfold openL
  exact List.mem_map.2 ⟨S[i], List.mem_filter.2 ⟨List.getElem_mem hi, hb⟩, by unfold pkR; rw [n1, n2]⟩
theorem fine_mem {S : List Rel} {N : List Nd} {H d : List Pk} (h0 : faultF S N H d = 0) : d ∈ bestL S N H [] (openL S H) := by
  have F := Fine.of (.inr h0)
  unfold bestL
  refine List.mem_filter.2 ⟨comps_has F.sh F.pk _ [] _ (Nat.le_refl _) (good_start H F.sh) (fun x hx => by simp at hx) fun x hx => ?_, by simpa using h0⟩
  rw [List.nil_append]
  exact there_open (F.there x hx) (F.allow x hx)
theorem best_sorted {S : List Rel} (N : List Nd) (H : List Pk) (hS : shOk S = true) : (bestL S N H [] (openL S H)).Pairwise fun A B => pkBetter A B = true :=
  (comps_sorted hS _ [] _ (good_start H hS) (open_sorted H hS)).filter _
theorem best_fine {S : List Rel} {N : List Nd} {H d : List Pk} (h : d ∈ bestL S N H [] (openL S H)) : faultF S N H d = 0 := by
  unfold bestL at h
  simpa using (List.mem_filter.1 h).2
theorem solveL_some {S : List Rel} {N : List Nd} {D L : List Pk} (h : solveL S N D = some L) : faultF S N D L = 0 ∧ ∀ d, faultF S N D d = 0 → d = L ∨ pkBetter L d = true := by
  unfold solveL at h
  by_cases hh : (shOk S && (ndOk N && pkOk D)) = true
  · rw [if_pos hh] at h
    simp only [Bool.and_eq_true] at hh
    rcases hb : bestL S N D [] (openL S D) with _ | ⟨x, t⟩
    · rw [hb] at h; cases h
    · rw [hb] at h
      obtain rfl : x = L := by simpa using h
      refine ⟨best_fine (by rw [hb]; exact List.mem_cons_self), fun d hd => ?_⟩
      have hm := fine_mem hd
      have hs := best_sorted N D hh.1
      rw [hb] at hm hs
      rcases List.mem_cons.1 hm with k | k
      · exact .inl k
      · exact .inr ((List.pairwise_cons.1 hs).1 d k)
  · rw [if_neg hh] at h
    cases h
theorem solveL_none {S : List Rel} {N : List Nd} {D : List Pk} (h : solveL S N D = none) (d : List Pk) : ¬ faultF S N D d = 0 := by
  intro h0
  have F := Fine.of (.inr h0)
  have hm := fine_mem h0
  unfold solveL at h
  rw [if_pos (by rw [F.sh, F.nd, F.held]; rfl)] at h
  rw [List.head?_eq_none_iff.1 h] at hm
  simp at hm
/-- What is fine, and not less good than all that is fine, is what is found. -/
theorem solveL_is {S : List Rel} {N : List Nd} {D L : List Pk} (h0 : faultF S N D L = 0) (hb : ∀ d, faultF S N D d = 0 → d = L ∨ pkBetter d L = false) : solveL S N D = some L := by
  rcases h : solveL S N D with _ | B
  · exact absurd h0 (solveL_none h L)
  · obtain ⟨h1, h2⟩ := solveL_some h
    rcases h2 L h0 with k | k
    · rw [k]
    · rcases hb B h1 with k' | k'
      · rw [k']
      · rw [k] at k'; cases k'
theorem solveL_len (S : List Rel) (N : List Nd) (D : List Pk) : ((solveL S N D).getD []).length ≤ 8 := by
  rcases h : solveL S N D with _ | L
  · simp
  · exact pk_len (Fine.of (.inr (solveL_some h).1)).pk
theorem solveL_ok {S : List Rel} {N : List Nd} {D : List Pk} (h : ¬ (shOk S && (ndOk N && pkOk D)) = true) : solveL S N D = none := by
  unfold solveL
  rw [if_neg h]
end Svp
end Go.Proofs.Ytgenjbeamlffmaa

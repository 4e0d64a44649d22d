/- Choices that picks can be made up to, as plain facts: what is open is decided name by name; where it can be seen that nothing comes of picks, none of these is fine; where nothing is open and that can't be seen, the picks are fine. No condition. -/
import Derived.Test.YtgenjbeamlffmaaCrf
import Derived.Test.YtgenjbeamlffmaaPof
namespace Go.Proofs.Ytgenjbeamlffmaa
open Go.RowKit Go.Sort

namespace Svp
open Foot Copy Nup Cpu Cfa Rch Gof Pof
def pkR (r : Rel) : Pk := (r.1, r.2.1)
def openB (H : List Pk) (r : Rel) : Bool := !r.2.2.1 || heldP H (pkR r)
/-- All picks that a choice may have. -/
def openL (S : List Rel) (H : List Pk) : List Pk := (S.filter (openB H)).map pkR
/-- How many picks are of the first one's name. -/
def firstN : List Pk → Nat
  | [] => 0
  | p :: t => ((p :: t).takeWhile (fun q => decide (q.1 = p.1))).length
theorem firstN_pos (p : Pk) (t : List Pk) : 0 < firstN (p :: t) := by
  show 0 < ((p :: t).takeWhile (fun q => decide (q.1 = p.1))).length
  rw [List.takeWhile_cons_of_pos (by simp)]
  simp
theorem firstN_le (o : List Pk) : firstN o ≤ o.length := by
  cases o with
  | nil => exact Nat.le_refl _
  | cons p t => exact (List.takeWhile_sublist _).length_le
/-- All that picks can be made up to, the better one first. -/
def comps : Nat → List Pk → List Pk → List (List Pk)
  | 0, c, _ => [c]
  | _ + 1, c, [] => [c]
  | f + 1, c, p :: t => comps f c ((p :: t).drop (firstN (p :: t))) ++ (((p :: t).take (firstN (p :: t))).reverse).flatMap fun q => comps f (c ++ [q]) ((p :: t).drop (firstN (p :: t)))
theorem comps_fuel : ∀ (f g : Nat) (c o : List Pk), o.length ≤ f → o.length ≤ g → comps f c o = comps g c o
  | 0, 0, _, _, _, _ => rfl
  | 0, g + 1, c, o, h, _ => by
    obtain rfl : o = [] := List.eq_nil_of_length_eq_zero (by omega)
    rfl
  | f + 1, 0, c, o, _, h => by
    obtain rfl : o = [] := List.eq_nil_of_length_eq_zero (by omega)
    rfl
  | f + 1, g + 1, c, [], _, _ => rfl
  | f + 1, g + 1, c, p :: t, h1, h2 => by
    have hp := firstN_pos p t
    have hl : ((p :: t).drop (firstN (p :: t))).length ≤ t.length := by simp; omega
    simp only [List.length_cons] at h1 h2
    unfold comps
    rw [comps_fuel f g c _ (by omega) (by omega)]
    congr 1
    congr 1
    funext q
    exact comps_fuel f g _ _ (by omega) (by omega)
/-- What the search keeps: picks of lower names, and what is open behind them. -/
structure Good (S : List Rel) (H c o : List Pk) : Prop where
  sub : ∀ x ∈ c ++ o, x ∈ openL S H
  pk : pkOk c = true
  low : ∀ x ∈ c, ∀ y ∈ o, x.1 < y.1
  mono : o.Pairwise fun x y => x.1 ≤ y.1
theorem open_rel {S : List Rel} {H : List Pk} {x : Pk} (h : x ∈ openL S H) : ∃ r ∈ S, openB H r = true ∧ pkR r = x := by
  unfold openL at h
  obtain ⟨r, hr, he⟩ := List.mem_map.1 h
  obtain ⟨h1, h2⟩ := List.mem_filter.1 hr
  exact ⟨r, h1, h2, he⟩
theorem sh_rel : ∀ {S : List Rel} {p : Option Rel}, shFrom p S = true → ∀ r ∈ S, relOk r = true
  | [], _, _, _, h => by simp at h
  | q :: t, p, h, r, hr => by
    simp only [shFrom, Bool.and_eq_true] at h
    rcases List.mem_cons.1 hr with rfl | hr
    · exact h.1
    · exact sh_rel h.2.2 r hr
theorem open_ok {S : List Rel} {H : List Pk} (hS : shOk S = true) {x : Pk} (h : x ∈ openL S H) : (0 ≤ x.1 ∧ x.1 ≤ 7) ∧ vOk x.2.1 x.2.2.1 x.2.2.2.1 x.2.2.2.2 = true := by
  obtain ⟨r, hr, _, rfl⟩ := open_rel h
  unfold shOk at hS
  rw [Bool.and_eq_true] at hS
  have hk := sh_rel hS.1 r hr
  refine ⟨?_, ok_ver hk⟩
  unfold relOk at hk
  simp only [Bool.and_eq_true] at hk
  have h1 := hk.1
  exact inB_iff.1 h1
theorem pk_snoc : ∀ {c : List Pk} {lo : Int} {q : Pk}, pkFrom lo c = true → (∀ x ∈ c, x.1 < q.1) → lo ≤ q.1 → q.1 ≤ 7 → vOk q.2.1 q.2.2.1 q.2.2.2.1 q.2.2.2.2 = true → pkFrom lo (c ++ [q]) = true
  | [], lo, q, _, _, h1, h2, h3 => by
    simp only [List.nil_append, pkFrom, Bool.and_eq_true, decide_eq_true_eq]
    exact ⟨⟨h1, h2⟩, h3, trivial⟩
  | x :: t, lo, q, h, hl, h1, h2, h3 => by
    simp only [pkFrom, Bool.and_eq_true, decide_eq_true_eq] at h
    simp only [List.cons_append, pkFrom, Bool.and_eq_true, decide_eq_true_eq]
    have hx := hl x (by simp)
    exact ⟨h.1, h.2.1, pk_snoc h.2.2 (fun y hy => hl y (List.mem_cons_of_mem _ hy)) (by omega) h2 h3⟩
theorem first_names {o : List Pk} (hm : o.Pairwise fun x y => x.1 ≤ y.1) : ∀ q ∈ o.take (firstN o), ∀ y ∈ o.drop (firstN o), q.1 < y.1 := by
  cases o with
  | nil => intro q hq; simp at hq
  | cons p t =>
    have e : (p :: t).takeWhile (fun q => decide (q.1 = p.1)) ++ (p :: t).dropWhile (fun q => decide (q.1 = p.1)) = p :: t := List.takeWhile_append_dropWhile
    have cut : ∀ {A B l : List Pk}, A ++ B = l → l.take A.length = A ∧ l.drop A.length = B := fun {A B l} h => by subst h; simp
    have e1 : (p :: t).take (firstN (p :: t)) = (p :: t).takeWhile (fun q => decide (q.1 = p.1)) := (cut e).1
    have e2 : (p :: t).drop (firstN (p :: t)) = (p :: t).dropWhile (fun q => decide (q.1 = p.1)) := (cut e).2
    intro q hq y hy
    rw [e1] at hq
    rw [e2] at hy
    have hqp : q.1 = p.1 := by
      have := List.all_eq_true.1 (List.all_takeWhile (l := p :: t) (p := fun q => decide (q.1 = p.1))) q hq
      simpa using this
    have hdm : ((p :: t).dropWhile (fun q => decide (q.1 = p.1))).Pairwise fun x y => x.1 ≤ y.1 := hm.sublist (List.dropWhile_sublist _)
    have hpy : p.1 ≤ y.1 := by
      have hym : y ∈ p :: t := (List.dropWhile_sublist _).subset hy
      rcases List.mem_cons.1 hym with rfl | hyt
      · exact Int.le_refl _
      · exact (List.pairwise_cons.1 hm).1 y hyt
    rcases hd : (p :: t).dropWhile (fun q => decide (q.1 = p.1)) with _ | ⟨z, r⟩
    · rw [hd] at hy; simp at hy
    · have hz : ¬ z.1 = p.1 := by
        have := List.head?_dropWhile_not (fun q => decide (q.1 = p.1)) (p :: t)
        rw [hd] at this
        simpa using this
      have hzm : z ∈ p :: t := (List.dropWhile_sublist (fun q => decide (q.1 = p.1))).subset (by rw [hd]; exact List.mem_cons_self)
      have hpz : p.1 ≤ z.1 := by
        rcases List.mem_cons.1 hzm with rfl | hzt
        · exact Int.le_refl _
        · exact (List.pairwise_cons.1 hm).1 z hzt
      rw [hd] at hy hdm
      have hzy : z.1 ≤ y.1 := by
        rcases List.mem_cons.1 hy with rfl | hyr
        · exact Int.le_refl _
        · exact (List.pairwise_cons.1 hdm).1 y hyr
      omega
theorem Good.later {S : List Rel} {H c o : List Pk} (h : Good S H c o) : Good S H c (o.drop (firstN o)) :=
  ⟨fun x hx => h.sub x (by rcases List.mem_append.1 hx with hx | hx; exact List.mem_append_left _ hx; exact List.mem_append_right _ (List.mem_of_mem_drop hx)), h.pk, fun x hx y hy => h.low x hx y (List.mem_of_mem_drop hy), h.mono.sublist (List.drop_sublist _ _)⟩
theorem Good.with' {S : List Rel} {H c o : List Pk} (hS : shOk S = true) (h : Good S H c o) {q : Pk} (hq : q ∈ o.take (firstN o)) : Good S H (c ++ [q]) (o.drop (firstN o)) := by
  have hqo := List.mem_of_mem_take hq
  have hop := open_ok hS (h.sub q (List.mem_append_right _ hqo))
  refine ⟨fun x hx => ?_, pk_snoc (lo := 0) h.pk (fun x hx => h.low x hx q hqo) hop.1.1 hop.1.2 hop.2, fun x hx y hy => ?_, h.mono.sublist (List.drop_sublist _ _)⟩
  · rcases List.mem_append.1 hx with hx | hx
    · rcases List.mem_append.1 hx with hx | hx
      · exact h.sub x (List.mem_append_left _ hx)
      · rw [List.mem_singleton.1 hx]; exact h.sub q (List.mem_append_right _ hqo)
    · exact h.sub x (List.mem_append_right _ (List.mem_of_mem_drop hx))
  · rcases List.mem_append.1 hx with hx | hx
    · exact h.low x hx y (List.mem_of_mem_drop hy)
    · rw [List.mem_singleton.1 hx]; exact first_names h.mono q hq y hy
/-- What picks are made up to begins with them, and has more of what is open. -/
theorem comps_mem {S : List Rel} {H : List Pk} (hS : shOk S = true) : ∀ (f : Nat) (c o : List Pk), Good S H c o → ∀ d ∈ comps f c o, (∀ x ∈ c, x ∈ d) ∧ (∀ x ∈ d, x ∈ c ++ o) ∧ pkOk d = true
  | 0, c, o, h, d, hd => by
    have hd' : d ∈ [c] := hd
    rw [List.mem_singleton.1 hd']
    exact ⟨fun x hx => hx, fun x hx => List.mem_append_left _ hx, h.pk⟩
  | f + 1, c, [], h, d, hd => by
    have hd' : d ∈ [c] := hd
    rw [List.mem_singleton.1 hd']
    exact ⟨fun x hx => hx, fun x hx => List.mem_append_left _ hx, h.pk⟩
  | f + 1, c, p :: t, h, d, hd => by
    unfold comps at hd
    rcases List.mem_append.1 hd with hd | hd
    · obtain ⟨h1, h2, h3⟩ := comps_mem hS f c _ h.later d hd
      exact ⟨h1, fun x hx => by rcases List.mem_append.1 (h2 x hx) with k | k; exact List.mem_append_left _ k; exact List.mem_append_right _ (List.mem_of_mem_drop k), h3⟩
    · obtain ⟨q, hq, hd⟩ := List.mem_flatMap.1 hd
      have hq' : q ∈ (p :: t).take (firstN (p :: t)) := List.mem_reverse.1 hq
      obtain ⟨h1, h2, h3⟩ := comps_mem hS f (c ++ [q]) _ (h.with' hS hq') d hd
      refine ⟨fun x hx => h1 x (List.mem_append_left _ hx), fun x hx => ?_, h3⟩
      rcases List.mem_append.1 (h2 x hx) with k | k
      · rcases List.mem_append.1 k with k | k
        · exact List.mem_append_left _ k
        · rw [List.mem_singleton.1 k]; exact List.mem_append_right _ (List.mem_of_mem_take hq')
      · exact List.mem_append_right _ (List.mem_of_mem_drop k)
end Svp
end Go.Proofs.Ytgenjbeamlffmaa

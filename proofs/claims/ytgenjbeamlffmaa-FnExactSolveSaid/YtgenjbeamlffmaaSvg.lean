/- Where it can be seen that picks are made up to no choice, there is none; where nothing is open and that can't be seen, the picks are one: plain facts. No condition. -/
import Derived.Test.YtgenjbeamlffmaaSvf
import Derived.Test.YtgenjbeamlffmaaNms
namespace Go.Proofs.Ytgenjbeamlffmaa
open Go.RowKit Go.Sort

namespace Svp
open Foot Copy Nup Cpu Cfa Rch Gof Pof
/-- The needs that whatever picks are made up to has to meet. -/
def knownL (S : List Rel) (N : List Nd) (c : List Pk) : List Nd := N ++ c.flatMap (ndsOf S)
def meetsB (K : List Nd) (p : Pk) : Bool := K.all fun n => !(decide (n.1 = p.1) && !hasL n.2 p.2.1 p.2.2.1 p.2.2.2.1 p.2.2.2.2)
def needsB (K : List Nd) (z : Int) : Bool := K.any fun n => decide (n.1 = z)
def leftB (K : List Nd) (R : List Pk) (z : Int) : Bool := R.any fun p => decide (p.1 = z) && meetsB K p
def namesB (K : List Nd) (R : List Pk) : Bool := (List.range 8).all fun (z : Nat) => !needsB K (z : Int) || leftB K R (z : Int)
def neededL (S : List Rel) (N : List Nd) (R : List Pk) : List Pk := cameL R (endK S N R).1
def hopeB (S : List Rel) (N : List Nd) (c o : List Pk) : Bool := !namesB (knownL S N c) (c ++ o) || !c.all (heldP (neededL S N (c ++ o)))
theorem get_only {L : List Pk} {p : Pk} (h : p ∈ L) (hu : ∀ q ∈ L, q.1 = p.1 → q = p) : pkGet p.1 L = some p.2 := by
  induction L with
  | nil => simp at h
  | cons q t ih =>
    unfold pkGet
    by_cases hq : q.1 = p.1
    · rw [if_pos hq, hu q List.mem_cons_self hq]
    · rw [if_neg hq]
      rcases List.mem_cons.1 h with h | h
      · rw [h] at hq; exact absurd rfl hq
      · exact ih h fun y hy => hu y (List.mem_cons_of_mem _ hy)
theorem met_known {S : List Rel} {N : List Nd} {H c d : List Pk} (F : Fine S N H d) (hc : ∀ x ∈ c, x ∈ d) {n : Nd} (hn : n ∈ knownL S N c) : metP d n = true := by
  unfold knownL at hn
  rcases List.mem_append.1 hn with hn | hn
  · exact F.met n hn
  · obtain ⟨x, hx, hn⟩ := List.mem_flatMap.1 hn
    exact F.inner x (hc x hx) n hn
/-- Where it can be seen that nothing comes of picks, nothing that they are made up to is fine. -/
theorem hope_none {S : List Rel} {N : List Nd} {H c o : List Pk} (hN : ndOk N = true) (hS : shOk S = true) (hG : Good S H c o) (ho : (c ++ o).length ≤ 30) (hh : hopeB S N c o = true) {d : List Pk} (h1 : ∀ x ∈ c, x ∈ d) (h2 : ∀ x ∈ d, x ∈ c ++ o) (h3 : pkOk d = true) : ¬ faultF S N H d = 0 := by
  intro h0
  have F := Fine.of (.inr h0)
  have all1 : namesB (knownL S N c) (c ++ o) = true := by
    unfold namesB
    rw [List.all_eq_true]
    intro z hz
    rcases hn : needsB (knownL S N c) (z : Int) with _ | _
    · rfl
    · unfold needsB at hn
      obtain ⟨n, hm, he⟩ := List.any_eq_true.1 hn
      have he' : n.1 = (z : Int) := by simpa using he
      obtain ⟨v, hv, _⟩ := met_mem (met_known F h1 hm)
      have hl : leftB (knownL S N c) (c ++ o) (z : Int) = true := by
        unfold leftB
        rw [List.any_eq_true]
        refine ⟨(n.1, v), h2 _ hv, ?_⟩
        rw [Bool.and_eq_true]
        refine ⟨by simpa using he', ?_⟩
        unfold meetsB
        rw [List.all_eq_true]
        intro n' hn'
        by_cases hnn : n'.1 = n.1
        · obtain ⟨v', hv', hh'⟩ := met_mem (met_known F h1 hn')
          rw [hnn] at hv'
          have := pk_one (lo := 0) h3 hv' hv
          subst this
          simp [hnn, hh']
        · simp [hnn]
      rw [hl]
      rfl
  have all2 : c.all (heldP (neededL S N (c ++ o))) = true := by
    rw [List.all_eq_true]
    intro p hp
    have hup : Up S N (c ++ o) p := (F.needed h0 p (h1 p hp)).more (fun n hn => hn) h2
    have hin : p ∈ neededL S N (c ++ o) := (came_up (sh_five hS) (nd_len hN) ho p).2 hup
    unfold heldP
    rw [decide_eq_true_eq]
    refine get_only hin fun q hq he => ?_
    have hq' := came_mem hq
    rcases List.mem_append.1 hq' with hq' | hq'
    · obtain ⟨q1, q2⟩ := q
      obtain ⟨p1, p2⟩ := p
      simp only at he
      subst he
      rw [pk_one (lo := 0) hG.pk hq' hp]
    · have := hG.low p hp q hq'
      omega
  unfold hopeB at hh
  rw [all1, all2] at hh
  cases hh
theorem names_at {K : List Nd} {R : List Pk} (h : namesB K R = true) {n : Nd} (hn : n ∈ K) (h0 : 0 ≤ n.1 ∧ n.1 ≤ 7) : ∃ v : V4, (n.1, v) ∈ R ∧ hasL n.2 v.1 v.2.1 v.2.2.1 v.2.2.2 = true := by
  obtain ⟨z, hz⟩ := Int.eq_ofNat_of_zero_le h0.1
  unfold namesB at h
  have h1 := List.all_eq_true.1 h z (List.mem_range.2 (by omega))
  have hk : needsB K (z : Int) = true := by
    unfold needsB
    rw [List.any_eq_true]
    exact ⟨n, hn, by simpa using hz⟩
  rw [hk] at h1
  have h2 : leftB K R (z : Int) = true := by simpa using h1
  unfold leftB at h2
  obtain ⟨p, hp, he⟩ := List.any_eq_true.1 h2
  rw [Bool.and_eq_true, decide_eq_true_eq] at he
  obtain ⟨p1, v⟩ := p
  have hp1 : p1 = n.1 := by rw [hz]; exact he.1
  subst hp1
  refine ⟨v, hp, ?_⟩
  have hm := he.2
  unfold meetsB at hm
  have := List.all_eq_true.1 hm n hn
  simpa using this
/-- The release of a pick that is open: it is there, and it is the one that is found. -/
theorem open_there {S : List Rel} {H : List Pk} (hS : shOk S = true) {x : Pk} (h : x ∈ openL S H) : thereP S x = true ∧ allowP S H x = true := by
  obtain ⟨r, hr, hb, rfl⟩ := open_rel h
  obtain ⟨i, hi, he⟩ := List.getElem_of_mem hr
  obtain ⟨j, hj, hf, h1, h2⟩ := find_at (pkR r).1 (pkR r).2 S 0 i hi (by rw [he]; rfl) (by rw [he]; rfl)
  rw [Nat.zero_add] at hf
  have hS' := hS
  unfold shOk at hS'
  rw [Bool.and_eq_true] at hS'
  have hij : j = i := keys_differ S none hS'.1 j i hj hi (by unfold key; rw [h1, h2, he]; rfl)
  subst hij
  refine ⟨by unfold thereP; rw [hf]; exact decide_eq_true (by omega), ?_⟩
  unfold allowP
  have hg : goneAt S (pkR r) = r.2.2.1 := by
    unfold goneAt
    rw [hf, if_pos (by omega), Int.toNat_natCast, List.getElem?_eq_getElem hj, he]
  rw [hg]
  unfold openB at hb
  cases hgr : r.2.2.1
  · rfl
  · rw [hgr] at hb
    simpa using hb
/-- Where nothing is open and it can't be seen that picks are no choice, they are one. -/
theorem leaf_fine {S : List Rel} {N : List Nd} {H c : List Pk} (hS : shOk S = true) (hN : ndOk N = true) (hH : pkOk H = true) (hG : Good S H c []) (ho : c.length ≤ 30) (hh : hopeB S N c [] = false) : faultF S N H c = 0 := by
  unfold hopeB at hh
  rw [List.append_nil] at hh
  simp only [Bool.or_eq_false_iff, Bool.not_eq_false'] at hh
  obtain ⟨ha, hb⟩ := hh
  have hsub : ∀ x ∈ c, x ∈ openL S H := fun x hx => hG.sub x (List.mem_append_left _ hx)
  refine Fine.zero ⟨hS, hN, hH, hG.pk, fun x hx => (open_there hS (hsub x hx)).1, fun x hx => (open_there hS (hsub x hx)).2, fun n hn => ?_, fun x hx n hn => ?_⟩ fun x hx => ?_
  · obtain ⟨v, h1, h2⟩ := names_at ha (n := n) (by unfold knownL; exact List.mem_append_left _ hn) (by have := nd_one hN n hn; exact ⟨this.1, this.2.1⟩)
    exact met_of (lo := 0) hG.pk h1 h2
  · obtain ⟨r, hr, hq⟩ := nds_mem hn
    obtain ⟨v, h1, h2⟩ := names_at ha (n := n) (by unfold knownL; exact List.mem_append_right _ (List.mem_flatMap.2 ⟨x, hx, hn⟩)) (by have := nd_one (sh_needs hS r hr) n hq; exact ⟨this.1, this.2.1⟩)
    exact met_of (lo := 0) hG.pk h1 h2
  · have hx' := List.all_eq_true.1 hb x hx
    unfold heldP at hx'
    rw [decide_eq_true_eq] at hx'
    have := get_mem hx'
    exact (came_up (sh_five hS) (nd_len hN) ho x).1 this
/-- What the search finds. -/
def bestL (S : List Rel) (N : List Nd) (H c o : List Pk) : List (List Pk) := (comps o.length c o).filter fun d => decide (faultF S N H d = 0)
theorem best_none {S : List Rel} {N : List Nd} {H c o : List Pk} (hS : shOk S = true) (hN : ndOk N = true) (hG : Good S H c o) (ho : (c ++ o).length ≤ 30) (hh : hopeB S N c o = true) : bestL S N H c o = [] := by
  unfold bestL
  rw [List.filter_eq_nil_iff]
  intro d hd
  obtain ⟨h1, h2, h3⟩ := comps_mem hS _ c o hG d hd
  simpa using hope_none hN hS hG ho hh h1 h2 h3
theorem best_leaf {S : List Rel} {N : List Nd} {H c : List Pk} (hS : shOk S = true) (hN : ndOk N = true) (hH : pkOk H = true) (hG : Good S H c []) (ho : c.length ≤ 30) (hh : hopeB S N c [] = false) : bestL S N H c [] = [c] := by
  unfold bestL
  show (([c] : List (List Pk)).filter fun d => decide (faultF S N H d = 0)) = [c]
  rw [List.filter_cons_of_pos (by simpa using leaf_fine hS hN hH hG ho hh)]
  rfl
theorem best_step {S : List Rel} {N : List Nd} {H c : List Pk} (p : Pk) (t : List Pk) : bestL S N H c (p :: t) = bestL S N H c ((p :: t).drop (firstN (p :: t))) ++ (((p :: t).take (firstN (p :: t))).reverse).flatMap fun q => bestL S N H (c ++ [q]) ((p :: t).drop (firstN (p :: t))) := by
  have hp := firstN_pos p t
  have hl : ((p :: t).drop (firstN (p :: t))).length ≤ t.length := by simp; omega
  have e : comps (p :: t).length c (p :: t) = comps t.length c ((p :: t).drop (firstN (p :: t))) ++ (((p :: t).take (firstN (p :: t))).reverse).flatMap fun q => comps t.length (c ++ [q]) ((p :: t).drop (firstN (p :: t))) := rfl
  have e2 : (fun q => comps t.length (c ++ [q]) ((p :: t).drop (firstN (p :: t)))) = fun q => comps ((p :: t).drop (firstN (p :: t))).length (c ++ [q]) ((p :: t).drop (firstN (p :: t))) := by
    funext q
    exact comps_fuel t.length _ _ _ hl (Nat.le_refl _)
  unfold bestL
  rw [e, e2, comps_fuel t.length _ c _ hl (Nat.le_refl _), List.filter_append, List.filter_flatMap]
/-- The first ones of two rows, one behind the other. -/
theorem take_two {α : Type} (A B : List α) (m : Nat) : A.take m ++ B.take (m - (A.take m).length) = (A ++ B).take m := by
  rw [List.take_append]
  congr 1
  rw [List.length_take]
  by_cases h : A.length ≤ m
  · rw [Nat.min_eq_right h]
  · rw [Nat.min_eq_left (by omega), Nat.sub_self, show m - A.length = 0 by omega]
end Svp
end Go.Proofs.Ytgenjbeamlffmaa

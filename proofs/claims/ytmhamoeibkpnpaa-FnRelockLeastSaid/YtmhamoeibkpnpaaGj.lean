/- Groundwork over this seat's translation: Svf, Svg, Svi, Svj, Svk, Svl, Svm, Svn, Svb, Svw in one text; the conditions stand at each part. -/
import Derived.Test.YtmhamoeibkpnpaaGi
import Derived.Test.YtmhamoeibkpnpaaNms
import Derived.Test.YtmhamoeibkpnpaaGw
import Derived.Test.YtmhamoeibkpnpaaNup
import Derived.Test.YtmhamoeibkpnpaaGu

/- Choices that picks can be made up to, as plain facts: what is open is decided name by name; where it can be seen that nothing comes of picks, none of these is fine; where nothing is open and that can't be seen, the picks are fine. No condition. -/
namespace Go.Proofs.Ytmhamoeibkpnpaa
open Go.RowKit Go.Sort

namespace Svp
open Foot Copy Nup Cpu Cfa Rch Gof Pof
def pkR (r : Rel) : Pk := (r.1, r.2.1)
def openB (H : List Pk) (r : Rel) : Bool := !r.2.2.1 || heldP H (pkR r)
/-- All picks that a choice may have. -/
def openL (S : List Rel) (H : List Pk) : List Pk := (S.filter (openB H)).map pkR
/-- How many picks are of the first one's name. -/
def firstN : List Pk → Nat
  | [] => 0
  | p :: t => ((p :: t).takeWhile (fun q => decide (q.1 = p.1))).length
theorem firstN_pos (p : Pk) (t : List Pk) : 0 < firstN (p :: t) := by
  show 0 < ((p :: t).takeWhile (fun q => decide (q.1 = p.1))).length
  rw [List.takeWhile_cons_of_pos (by simp)]
  simp
theorem firstN_le (o : List Pk) : firstN o ≤ o.length := by
  cases o with
  | nil => exact Nat.le_refl _
  | cons p t => exact (List.takeWhile_sublist _).length_le
/-- All that picks can be made up to, the better one first. -/
def comps : Nat → List Pk → List Pk → List (List Pk)
  | 0, c, _ => [c]
  | _ + 1, c, [] => [c]
  | f + 1, c, p :: t => comps f c ((p :: t).drop (firstN (p :: t))) ++ (((p :: t).take (firstN (p :: t))).reverse).flatMap fun q => comps f (c ++ [q]) ((p :: t).drop (firstN (p :: t)))
theorem comps_fuel : ∀ (f g : Nat) (c o : List Pk), o.length ≤ f → o.length ≤ g → comps f c o = comps g c o
  | 0, 0, _, _, _, _ => rfl
  | 0, g + 1, c, o, h, _ => by
    obtain rfl : o = [] := List.eq_nil_of_length_eq_zero (by omega)
    rfl
  | f + 1, 0, c, o, _, h => by
    obtain rfl : o = [] := List.eq_nil_of_length_eq_zero (by omega)
    rfl
  | f + 1, g + 1, c, [], _, _ => rfl
  | f + 1, g + 1, c, p :: t, h1, h2 => by
    have hp := firstN_pos p t
    have hl : ((p :: t).drop (firstN (p :: t))).length ≤ t.length := by simp; omega
    simp only [List.length_cons] at h1 h2
    unfold comps
    rw [comps_fuel f g c _ (by omega) (by omega)]
    congr 1
    congr 1
    funext q
    exact comps_fuel f g _ _ (by omega) (by omega)
/-- What the search keeps: picks of lower names, and what is open behind them. -/
structure Good (S : List Rel) (H c o : List Pk) : Prop where
  sub : ∀ x ∈ c ++ o, x ∈ openL S H
  pk : pkOk c = true
  low : ∀ x ∈ c, ∀ y ∈ o, x.1 < y.1
  mono : o.Pairwise fun x y => x.1 ≤ y.1
theorem open_rel {S : List Rel} {H : List Pk} {x : Pk} (h : x ∈ openL S H) : ∃ r ∈ S, openB H r = true ∧ pkR r = x := by
  unfold openL at h
  obtain ⟨r, hr, he⟩ := List.mem_map.1 h
  obtain ⟨h1, h2⟩ := List.mem_filter.1 hr
  exact ⟨r, h1, h2, he⟩
theorem sh_rel : ∀ {S : List Rel} {p : Option Rel}, shFrom p S = true → ∀ r ∈ S, relOk r = true
  | [], _, _, _, h => by simp at h
  | q :: t, p, h, r, hr => by
    simp only [shFrom, Bool.and_eq_true] at h
    rcases List.mem_cons.1 hr with rfl | hr
    · exact h.1
    · exact sh_rel h.2.2 r hr
theorem open_ok {S : List Rel} {H : List Pk} (hS : shOk S = true) {x : Pk} (h : x ∈ openL S H) : (0 ≤ x.1 ∧ x.1 ≤ 7) ∧ vOk x.2.1 x.2.2.1 x.2.2.2.1 x.2.2.2.2 = true := by
  obtain ⟨r, hr, _, rfl⟩ := open_rel h
  unfold shOk at hS
  rw [Bool.and_eq_true] at hS
  have hk := sh_rel hS.1 r hr
  refine ⟨?_, ok_ver hk⟩
  unfold relOk at hk
  simp only [Bool.and_eq_true] at hk
  have h1 := hk.1
  exact inB_iff.1 h1
theorem pk_snoc : ∀ {c : List Pk} {lo : Int} {q : Pk}, pkFrom lo c = true → (∀ x ∈ c, x.1 < q.1) → lo ≤ q.1 → q.1 ≤ 7 → vOk q.2.1 q.2.2.1 q.2.2.2.1 q.2.2.2.2 = true → pkFrom lo (c ++ [q]) = true
  | [], lo, q, _, _, h1, h2, h3 => by
    simp only [List.nil_append, pkFrom, Bool.and_eq_true, decide_eq_true_eq]
    exact ⟨⟨h1, h2⟩, h3, trivial⟩
  | x :: t, lo, q, h, hl, h1, h2, h3 => by
    simp only [pkFrom, Bool.and_eq_true, decide_eq_true_eq] at h
    simp only [List.cons_append, pkFrom, Bool.and_eq_true, decide_eq_true_eq]
    have hx := hl x (by simp)
    exact ⟨h.1, h.2.1, pk_snoc h.2.2 (fun y hy => hl y (List.mem_cons_of_mem _ hy)) (by omega) h2 h3⟩
theorem first_names {o : List Pk} (hm : o.Pairwise fun x y => x.1 ≤ y.1) : ∀ q ∈ o.take (firstN o), ∀ y ∈ o.drop (firstN o), q.1 < y.1 := by
  cases o with
  | nil => intro q hq; simp at hq
  | cons p t =>
    have e : (p :: t).takeWhile (fun q => decide (q.1 = p.1)) ++ (p :: t).dropWhile (fun q => decide (q.1 = p.1)) = p :: t := List.takeWhile_append_dropWhile
    have cut : ∀ {A B l : List Pk}, A ++ B = l → l.take A.length = A ∧ l.drop A.length = B := fun {A B l} h => by subst h; simp
    have e1 : (p :: t).take (firstN (p :: t)) = (p :: t).takeWhile (fun q => decide (q.1 = p.1)) := (cut e).1
    have e2 : (p :: t).drop (firstN (p :: t)) = (p :: t).dropWhile (fun q => decide (q.1 = p.1)) := (cut e).2
    intro q hq y hy
    rw [e1] at hq
    rw [e2] at hy
    have hqp : q.1 = p.1 := by
      have := List.all_eq_true.1 (List.all_takeWhile (l := p :: t) (p := fun q => decide (q.1 = p.1))) q hq
      simpa using this
    have hdm : ((p :: t).dropWhile (fun q => decide (q.1 = p.1))).Pairwise fun x y => x.1 ≤ y.1 := hm.sublist (List.dropWhile_sublist _)
    have hpy : p.1 ≤ y.1 := by
      have hym : y ∈ p :: t := (List.dropWhile_sublist _).subset hy
      rcases List.mem_cons.1 hym with rfl | hyt
      · exact Int.le_refl _
      · exact (List.pairwise_cons.1 hm).1 y hyt
    rcases hd : (p :: t).dropWhile (fun q => decide (q.1 = p.1)) with _ | ⟨z, r⟩
    · rw [hd] at hy; simp at hy
    · have hz : ¬ z.1 = p.1 := by
        have := List.head?_dropWhile_not (fun q => decide (q.1 = p.1)) (p :: t)
        rw [hd] at this
        simpa using this
      have hzm : z ∈ p :: t := (List.dropWhile_sublist (fun q => decide (q.1 = p.1))).subset (by rw [hd]; exact List.mem_cons_self)
      have hpz : p.1 ≤ z.1 := by
        rcases List.mem_cons.1 hzm with rfl | hzt
        · exact Int.le_refl _
        · exact (List.pairwise_cons.1 hm).1 z hzt
      rw [hd] at hy hdm
      have hzy : z.1 ≤ y.1 := by
        rcases List.mem_cons.1 hy with rfl | hyr
        · exact Int.le_refl _
        · exact (List.pairwise_cons.1 hdm).1 y hyr
      omega
theorem Good.later {S : List Rel} {H c o : List Pk} (h : Good S H c o) : Good S H c (o.drop (firstN o)) :=
  ⟨fun x hx => h.sub x (by rcases List.mem_append.1 hx with hx | hx; exact List.mem_append_left _ hx; exact List.mem_append_right _ (List.mem_of_mem_drop hx)), h.pk, fun x hx y hy => h.low x hx y (List.mem_of_mem_drop hy), h.mono.sublist (List.drop_sublist _ _)⟩
theorem Good.with' {S : List Rel} {H c o : List Pk} (hS : shOk S = true) (h : Good S H c o) {q : Pk} (hq : q ∈ o.take (firstN o)) : Good S H (c ++ [q]) (o.drop (firstN o)) := by
  have hqo := List.mem_of_mem_take hq
  have hop := open_ok hS (h.sub q (List.mem_append_right _ hqo))
  refine ⟨fun x hx => ?_, pk_snoc (lo := 0) h.pk (fun x hx => h.low x hx q hqo) hop.1.1 hop.1.2 hop.2, fun x hx y hy => ?_, h.mono.sublist (List.drop_sublist _ _)⟩
  · rcases List.mem_append.1 hx with hx | hx
    · rcases List.mem_append.1 hx with hx | hx
      · exact h.sub x (List.mem_append_left _ hx)
      · rw [List.mem_singleton.1 hx]; exact h.sub q (List.mem_append_right _ hqo)
    · exact h.sub x (List.mem_append_right _ (List.mem_of_mem_drop hx))
  · rcases List.mem_append.1 hx with hx | hx
    · exact h.low x hx y (List.mem_of_mem_drop hy)
    · rw [List.mem_singleton.1 hx]; exact first_names h.mono q hq y hy
/-- What picks are made up to begins with them, and has more of what is open. -/
theorem comps_mem {S : List Rel} {H : List Pk} (hS : shOk S = true) : ∀ (f : Nat) (c o : List Pk), Good S H c o → ∀ d ∈ comps f c o, (∀ x ∈ c, x ∈ d) ∧ (∀ x ∈ d, x ∈ c ++ o) ∧ pkOk d = true
  | 0, c, o, h, d, hd => by
    have hd' : d ∈ [c] := hd
    rw [List.mem_singleton.1 hd']
    exact ⟨fun x hx => hx, fun x hx => List.mem_append_left _ hx, h.pk⟩
  | f + 1, c, [], h, d, hd => by
    have hd' : d ∈ [c] := hd
    rw [List.mem_singleton.1 hd']
    exact ⟨fun x hx => hx, fun x hx => List.mem_append_left _ hx, h.pk⟩
  | f + 1, c, p :: t, h, d, hd => by
    unfold comps at hd
    rcases List.mem_append.1 hd with hd | hd
    · obtain ⟨h1, h2, h3⟩ := comps_mem hS f c _ h.later d hd
      exact ⟨h1, fun x hx => by rcases List.mem_append.1 (h2 x hx) with k | k; exact List.mem_append_left _ k; exact List.mem_append_right _ (List.mem_of_mem_drop k), h3⟩
    · obtain ⟨q, hq, hd⟩ := List.mem_flatMap.1 hd
      have hq' : q ∈ (p :: t).take (firstN (p :: t)) := List.mem_reverse.1 hq
      obtain ⟨h1, h2, h3⟩ := comps_mem hS f (c ++ [q]) _ (h.with' hS hq') d hd
      refine ⟨fun x hx => h1 x (List.mem_append_left _ hx), fun x hx => ?_, h3⟩
      rcases List.mem_append.1 (h2 x hx) with k | k
      · rcases List.mem_append.1 k with k | k
        · exact List.mem_append_left _ k
        · rw [List.mem_singleton.1 k]; exact List.mem_append_right _ (List.mem_of_mem_take hq')
      · exact List.mem_append_right _ (List.mem_of_mem_drop k)
end Svp
end Go.Proofs.Ytmhamoeibkpnpaa

/- Where it can be seen that picks are made up to no choice, there is none; where nothing is open and that can't be seen, the picks are one: plain facts. No condition. -/
namespace Go.Proofs.Ytmhamoeibkpnpaa
open Go.RowKit Go.Sort

namespace Svp
open Foot Copy Nup Cpu Cfa Rch Gof Pof
/-- The needs that whatever picks are made up to has to meet. -/
def knownL (S : List Rel) (N : List Nd) (c : List Pk) : List Nd := N ++ c.flatMap (ndsOf S)
def meetsB (K : List Nd) (p : Pk) : Bool := K.all fun n => !(decide (n.1 = p.1) && !hasL n.2 p.2.1 p.2.2.1 p.2.2.2.1 p.2.2.2.2)
def needsB (K : List Nd) (z : Int) : Bool := K.any fun n => decide (n.1 = z)
def leftB (K : List Nd) (R : List Pk) (z : Int) : Bool := R.any fun p => decide (p.1 = z) && meetsB K p
def namesB (K : List Nd) (R : List Pk) : Bool := (List.range 8).all fun (z : Nat) => !needsB K (z : Int) || leftB K R (z : Int)
def neededL (S : List Rel) (N : List Nd) (R : List Pk) : List Pk := cameL R (endK S N R).1
def hopeB (S : List Rel) (N : List Nd) (c o : List Pk) : Bool := !namesB (knownL S N c) (c ++ o) || !c.all (heldP (neededL S N (c ++ o)))
theorem get_only {L : List Pk} {p : Pk} (h : p ∈ L) (hu : ∀ q ∈ L, q.1 = p.1 → q = p) : pkGet p.1 L = some p.2 := by
  induction L with
  | nil => simp at h
  | cons q t ih =>
    unfold pkGet
    by_cases hq : q.1 = p.1
    · rw [if_pos hq, hu q List.mem_cons_self hq]
    · rw [if_neg hq]
      rcases List.mem_cons.1 h with h | h
      · rw [h] at hq; exact absurd rfl hq
      · exact ih h fun y hy => hu y (List.mem_cons_of_mem _ hy)
theorem met_known {S : List Rel} {N : List Nd} {H c d : List Pk} (F : Fine S N H d) (hc : ∀ x ∈ c, x ∈ d) {n : Nd} (hn : n ∈ knownL S N c) : metP d n = true := by
  unfold knownL at hn
  rcases List.mem_append.1 hn with hn | hn
  · exact F.met n hn
  · obtain ⟨x, hx, hn⟩ := List.mem_flatMap.1 hn
    exact F.inner x (hc x hx) n hn
/-- Where it can be seen that nothing comes of picks, nothing that they are made up to is fine. -/
theorem hope_none {S : List Rel} {N : List Nd} {H c o : List Pk} (hN : ndOk N = true) (hS : shOk S = true) (hG : Good S H c o) (ho : (c ++ o).length ≤ 30) (hh : hopeB S N c o = true) {d : List Pk} (h1 : ∀ x ∈ c, x ∈ d) (h2 : ∀ x ∈ d, x ∈ c ++ o) (h3 : pkOk d = true) : ¬ faultF S N H d = 0 := by
  intro h0
  have F := Fine.of (.inr h0)
  have all1 : namesB (knownL S N c) (c ++ o) = true := by
    unfold namesB
    rw [List.all_eq_true]
    intro z hz
    rcases hn : needsB (knownL S N c) (z : Int) with _ | _
    · rfl
    · unfold needsB at hn
      obtain ⟨n, hm, he⟩ := List.any_eq_true.1 hn
      have he' : n.1 = (z : Int) := by simpa using he
      obtain ⟨v, hv, _⟩ := met_mem (met_known F h1 hm)
      have hl : leftB (knownL S N c) (c ++ o) (z : Int) = true := by
        unfold leftB
        rw [List.any_eq_true]
        refine ⟨(n.1, v), h2 _ hv, ?_⟩
        rw [Bool.and_eq_true]
        refine ⟨by simpa using he', ?_⟩
        unfold meetsB
        rw [List.all_eq_true]
        intro n' hn'
        by_cases hnn : n'.1 = n.1
        · obtain ⟨v', hv', hh'⟩ := met_mem (met_known F h1 hn')
          rw [hnn] at hv'
          have := pk_one (lo := 0) h3 hv' hv
          subst this
          simp [hnn, hh']
        · simp [hnn]
      rw [hl]
      rfl
  have all2 : c.all (heldP (neededL S N (c ++ o))) = true := by
    rw [List.all_eq_true]
    intro p hp
    have hup : Up S N (c ++ o) p := (F.needed h0 p (h1 p hp)).more (fun n hn => hn) h2
    have hin : p ∈ neededL S N (c ++ o) := (came_up (sh_five hS) (nd_len hN) ho p).2 hup
    unfold heldP
    rw [decide_eq_true_eq]
    refine get_only hin fun q hq he => ?_
    have hq' := came_mem hq
    rcases List.mem_append.1 hq' with hq' | hq'
    · obtain ⟨q1, q2⟩ := q
      obtain ⟨p1, p2⟩ := p
      simp only at he
      subst he
      rw [pk_one (lo := 0) hG.pk hq' hp]
    · have := hG.low p hp q hq'
      omega
  unfold hopeB at hh
  rw [all1, all2] at hh
  cases hh
theorem names_at {K : List Nd} {R : List Pk} (h : namesB K R = true) {n : Nd} (hn : n ∈ K) (h0 : 0 ≤ n.1 ∧ n.1 ≤ 7) : ∃ v : V4, (n.1, v) ∈ R ∧ hasL n.2 v.1 v.2.1 v.2.2.1 v.2.2.2 = true := by
  obtain ⟨z, hz⟩ := Int.eq_ofNat_of_zero_le h0.1
  unfold namesB at h
  have h1 := List.all_eq_true.1 h z (List.mem_range.2 (by omega))
  have hk : needsB K (z : Int) = true := by
    unfold needsB
    rw [List.any_eq_true]
    exact ⟨n, hn, by simpa using hz⟩
  rw [hk] at h1
  have h2 : leftB K R (z : Int) = true := by simpa using h1
  unfold leftB at h2
  obtain ⟨p, hp, he⟩ := List.any_eq_true.1 h2
  rw [Bool.and_eq_true, decide_eq_true_eq] at he
  obtain ⟨p1, v⟩ := p
  have hp1 : p1 = n.1 := by rw [hz]; exact he.1
  subst hp1
  refine ⟨v, hp, ?_⟩
  have hm := he.2
  unfold meetsB at hm
  have := List.all_eq_true.1 hm n hn
  simpa using this
/-- The release of a pick that is open: it is there, and it is the one that is found. -/
theorem open_there {S : List Rel} {H : List Pk} (hS : shOk S = true) {x : Pk} (h : x ∈ openL S H) : thereP S x = true ∧ allowP S H x = true := by
  obtain ⟨r, hr, hb, rfl⟩ := open_rel h
  obtain ⟨i, hi, he⟩ := List.getElem_of_mem hr
  obtain ⟨j, hj, hf, h1, h2⟩ := find_at (pkR r).1 (pkR r).2 S 0 i hi (by rw [he]; rfl) (by rw [he]; rfl)
  rw [Nat.zero_add] at hf
  have hS' := hS
  unfold shOk at hS'
  rw [Bool.and_eq_true] at hS'
  have hij : j = i := keys_differ S none hS'.1 j i hj hi (by unfold key; rw [h1, h2, he]; rfl)
  subst hij
  refine ⟨by unfold thereP; rw [hf]; exact decide_eq_true (by omega), ?_⟩
  unfold allowP
  have hg : goneAt S (pkR r) = r.2.2.1 := by
    unfold goneAt
    rw [hf, if_pos (by omega), Int.toNat_natCast, List.getElem?_eq_getElem hj, he]
  rw [hg]
  unfold openB at hb
  cases hgr : r.2.2.1
  · rfl
  · rw [hgr] at hb
    simpa using hb
/-- Where nothing is open and it can't be seen that picks are no choice, they are one. -/
theorem leaf_fine {S : List Rel} {N : List Nd} {H c : List Pk} (hS : shOk S = true) (hN : ndOk N = true) (hH : pkOk H = true) (hG : Good S H c []) (ho : c.length ≤ 30) (hh : hopeB S N c [] = false) : faultF S N H c = 0 := by
  unfold hopeB at hh
  rw [List.append_nil] at hh
  simp only [Bool.or_eq_false_iff, Bool.not_eq_false'] at hh
  obtain ⟨ha, hb⟩ := hh
  have hsub : ∀ x ∈ c, x ∈ openL S H := fun x hx => hG.sub x (List.mem_append_left _ hx)
  refine Fine.zero ⟨hS, hN, hH, hG.pk, fun x hx => (open_there hS (hsub x hx)).1, fun x hx => (open_there hS (hsub x hx)).2, fun n hn => ?_, fun x hx n hn => ?_⟩ fun x hx => ?_
  · obtain ⟨v, h1, h2⟩ := names_at ha (n := n) (by unfold knownL; exact List.mem_append_left _ hn) (by have := nd_one hN n hn; exact ⟨this.1, this.2.1⟩)
    exact met_of (lo := 0) hG.pk h1 h2
  · obtain ⟨r, hr, hq⟩ := nds_mem hn
    obtain ⟨v, h1, h2⟩ := names_at ha (n := n) (by unfold knownL; exact List.mem_append_right _ (List.mem_flatMap.2 ⟨x, hx, hn⟩)) (by have := nd_one (sh_needs hS r hr) n hq; exact ⟨this.1, this.2.1⟩)
    exact met_of (lo := 0) hG.pk h1 h2
  · have hx' := List.all_eq_true.1 hb x hx
    unfold heldP at hx'
    rw [decide_eq_true_eq] at hx'
    have := get_mem hx'
    exact (came_up (sh_five hS) (nd_len hN) ho x).1 this
/-- What the search finds. -/
def bestL (S : List Rel) (N : List Nd) (H c o : List Pk) : List (List Pk) := (comps o.length c o).filter fun d => decide (faultF S N H d = 0)
theorem best_none {S : List Rel} {N : List Nd} {H c o : List Pk} (hS : shOk S = true) (hN : ndOk N = true) (hG : Good S H c o) (ho : (c ++ o).length ≤ 30) (hh : hopeB S N c o = true) : bestL S N H c o = [] := by
  unfold bestL
  rw [List.filter_eq_nil_iff]
  intro d hd
  obtain ⟨h1, h2, h3⟩ := comps_mem hS _ c o hG d hd
  simpa using hope_none hN hS hG ho hh h1 h2 h3
theorem best_leaf {S : List Rel} {N : List Nd} {H c : List Pk} (hS : shOk S = true) (hN : ndOk N = true) (hH : pkOk H = true) (hG : Good S H c []) (ho : c.length ≤ 30) (hh : hopeB S N c [] = false) : bestL S N H c [] = [c] := by
  unfold bestL
  show (([c] : List (List Pk)).filter fun d => decide (faultF S N H d = 0)) = [c]
  rw [List.filter_cons_of_pos (by simpa using leaf_fine hS hN hH hG ho hh)]
  rfl
theorem best_step {S : List Rel} {N : List Nd} {H c : List Pk} (p : Pk) (t : List Pk) : bestL S N H c (p :: t) = bestL S N H c ((p :: t).drop (firstN (p :: t))) ++ (((p :: t).take (firstN (p :: t))).reverse).flatMap fun q => bestL S N H (c ++ [q]) ((p :: t).drop (firstN (p :: t))) := by
  have hp := firstN_pos p t
  have hl : ((p :: t).drop (firstN (p :: t))).length ≤ t.length := by simp; omega
  have e : comps (p :: t).length c (p :: t) = comps t.length c ((p :: t).drop (firstN (p :: t))) ++ (((p :: t).take (firstN (p :: t))).reverse).flatMap fun q => comps t.length (c ++ [q]) ((p :: t).drop (firstN (p :: t))) := rfl
  have e2 : (fun q => comps t.length (c ++ [q]) ((p :: t).drop (firstN (p :: t)))) = fun q => comps ((p :: t).drop (firstN (p :: t))).length (c ++ [q]) ((p :: t).drop (firstN (p :: t))) := by
    funext q
    exact comps_fuel t.length _ _ _ hl (Nat.le_refl _)
  unfold bestL
  rw [e, e2, comps_fuel t.length _ c _ hl (Nat.le_refl _), List.filter_append, List.filter_flatMap]
/-- The first ones of two rows, one behind the other. -/
theorem take_two {α : Type} (A B : List α) (m : Nat) : A.take m ++ B.take (m - (A.take m).length) = (A ++ B).take m := by
  rw [List.take_append]
  congr 1
  rw [List.length_take]
  by_cases h : A.length ≤ m
  · rw [Nat.min_eq_right h]
  · rw [Nat.min_eq_left (by omega), Nat.sub_self, show m - A.length = 0 by omega]
end Svp
end Go.Proofs.Ytmhamoeibkpnpaa

/- Contracts of the program's functions that see whether picks can be made up to a choice (pickMeets, nameLeft, namesLeft, picksAmong), over this seat's translation, as plain functions tell them; nothing that was there before a call has changed. Condition: at most 1048576 of each row and of what is in it. -/
namespace Go.Proofs.Ytmhamoeibkpnpaa
open Go.RowKit Go.Sort

namespace Svp
open Foot Copy Nup Cpu Cfa Rch

set_option maxRecDepth 100000 in
set_option maxHeartbeats 4000000 in
theorem pickMeets_any (u : Value) (K : List Nd) (x a b c d : Int) (w : World) (hK : K.length ≤ 1048576) (hq : ∀ q ∈ K, q.2.length ≤ 1048576) (h : NdAt w w.heap.size u K) :
    Calls Try.prog 136 #[u, pick x a b c d] w fun e w' => e = .returned (.bool (meetsB K (x, a, b, c, d))) ∧ Below w.heap.size w w' := by
  obtain ⟨na, ncap, rfl, h0⟩ := id h
  clear h
  obtain ⟨w1, hw1⟩ : ∃ V : World, V = w.alloc (.cells #[.int .i64 x, .int .i64 a, .int .i64 b, .int .i64 c, .int .i64 d] 71) := ⟨_, rfl⟩
  have b1 : Below w.heap.size w w1 := by rw [hw1]; exact (Below.refl _ _).alloc (Nat.le_refl _) _
  have z1 : w.heap.size < w1.heap.size := by rw [hw1]; simp
  have p0 : w1.cell? ⟨w.heap.size, 0, none⟩ = some (.int .i64 x) := by rw [hw1]; go_simp
  have p1 : w1.cell? ⟨w.heap.size, 1, none⟩ = some (.int .i64 a) := by rw [hw1]; go_simp
  have p2 : w1.cell? ⟨w.heap.size, 2, none⟩ = some (.int .i64 b) := by rw [hw1]; go_simp
  have p3 : w1.cell? ⟨w.heap.size, 3, none⟩ = some (.int .i64 c) := by rw [hw1]; go_simp
  have p4 : w1.cell? ⟨w.heap.size, 4, none⟩ = some (.int .i64 d) := by rw [hw1]; go_simp
  have HP := Lib.hid (And.intro p0 (And.intro p1 (And.intro p2 (And.intro p3 p4))))
  clear p0 p1 p2 p3 p4
  go_enter Try.func136, Try.ntmps136
  go_upto_region 1 with fail
  rw [← hw1]
  clear hw1
  go_wp2_with fail
  go_loopw [9] (fun i wr => ∃ k : Nat, k ≤ K.length ∧ i = .int .i64 (k : Int) ∧ meetsB K (x, a, b, c, d) = meetsB (K.drop k) (x, a, b, c, d) ∧ Below w1.heap.size w1 wr) (fun i _ => K.length - (intOf i).toNat)
  case atStart => exact ⟨0, Nat.zero_le _, rfl, rfl, Below.refl _ _⟩
  case round =>
    obtain ⟨k, hk, rfl, he, hb1⟩ := hrel
    have HE := Lib.hid he
    have hb := b1.trans (hb1.mono b1.size)
    clear he
    by_cases hlt : k < K.length
    · rcases h0 with h0 | ⟨sb, o, rfl, hB, hc⟩
      · subst h0
        exact absurd hlt (by simp)
      obtain ⟨nm, L, hxy⟩ : ∃ nm L, K[k] = (nm, L) := ⟨_, _, rfl⟩
      obtain ⟨r0, la, lc, r1, hs⟩ := (hc k hlt).below hb hB
      rw [hxy] at r0 r1 hs
      simp only at r0 r1 hs
      have hL : L.length ≤ 1048576 := by have := hq _ (List.getElem_mem hlt); rwa [hxy] at this
      have HXY := Lib.hid (show K[k]? = some (nm, L) by rw [List.getElem?_eq_getElem hlt, hxy])
      have HS := Lib.hid (hs.mono hb.size)
      have i0 : (0 : Int) ≤ (k : Int) := by omega
      have i1 : (k : Int) < (K.length : Int) := by omega
      obtain ⟨w3, hw3⟩ : ∃ V : World, V = wr.alloc (.cells #[.int .i64 nm, .slice la L.length lc] 110) := ⟨_, rfl⟩
      have b3 : Below wr.heap.size wr w3 := by rw [hw3]; exact (Below.refl _ _).alloc (Nat.le_refl _) _
      have z3 : wr.heap.size + 1 ≤ w3.heap.size := by rw [hw3]; simp
      have y0 : w3.cell? ⟨wr.heap.size, 0, none⟩ = some (.int .i64 nm) := by rw [hw3]; go_simp
      have y1 : w3.cell? ⟨wr.heap.size, 1, none⟩ = some (.slice la L.length lc) := by rw [hw3]; go_simp
      have n13 : Below w1.heap.size w1 w3 := hb1.trans (b3.mono hb1.size)
      have n3 : Below w.heap.size w w3 := b1.trans (n13.mono b1.size)
      obtain ⟨p0, p1, p2, p3, p4⟩ := HP.out
      have q0 := (n13.cell (p := ⟨w.heap.size, 0, none⟩) z1).trans p0
      have q1 := (n13.cell (p := ⟨w.heap.size, 1, none⟩) z1).trans p1
      have q2 := (n13.cell (p := ⟨w.heap.size, 2, none⟩) z1).trans p2
      have q3 := (n13.cell (p := ⟨w.heap.size, 3, none⟩) z1).trans p3
      have q4 := (n13.cell (p := ⟨w.heap.size, 4, none⟩) z1).trans p4
      clear hxy hc hs p0 p1 p2 p3 p4
      go_upto_region 4 with fail
      rw [← hw3]
      clear hw3 r0 r1
      have HST := Lib.hid (show meetsB (K.drop k) (x, a, b, c, d) = (!(decide (nm = x) && !hasL L a b c d) && meetsB (K.drop (k + 1)) (x, a, b, c, d)) from all_step (fun n : Nd => !(decide (n.1 = x) && !hasL n.2 a b c d)) HXY.out)
      by_cases hnx : nm = x
      · subst hnx
        have KH : Hid (∀ V, SpAt V V.heap.size (.slice la L.length lc) L → Calls Try.prog 118 #[.agg #[.slice la L.length lc], ver a b c d] V fun e w' => e = .returned (.bool (hasL L a b c d)) ∧ Below V.heap.size V w') := Lib.hid fun V g => implHas_any _ L a b c d V hL g
        have HS3 := Lib.hid (HS.out.stepAt b3)
        rcases hh : hasL L a b c d
        all_goals
          rw [hh] at KH
          have HH := Lib.hid hh
          clear hh
          go_wp2_with fail
          refine (KH.out _ (HS3.out)).mono ?_
          rintro e w4 ⟨rfl, hb4⟩
          have m4 := n3.trans (hb4.mono n3.size)
          have m14 := n13.trans (hb4.mono n13.size)
        · go_wp2_with fail
          go_ret
          exact ⟨by rw [HE.out, HST.out, HH.out]; simp, m4⟩
        · have HR := Lib.hid (show ∃ k' : Nat, k' ≤ K.length ∧ Value.int .i64 ((k : Int) + 1) = .int .i64 (k' : Int) ∧ meetsB K (nm, a, b, c, d) = meetsB (K.drop k') (nm, a, b, c, d) ∧ Below w1.heap.size w1 w4 from ⟨k + 1, by omega, by go_num, by rw [HE.out, HST.out, HH.out]; simp, m14⟩)
          clear hb4 m4 m14
          go_wp2_with fail
          go_roundw
          case rel => exact HR.out
          case measure => simp [intOf]; omega
      · have hnb : (nm == x) = false := by rw [beq_eq_false_iff_ne]; exact hnx
        have HR := Lib.hid (show ∃ k' : Nat, k' ≤ K.length ∧ Value.int .i64 ((k : Int) + 1) = .int .i64 (k' : Int) ∧ meetsB K (x, a, b, c, d) = meetsB (K.drop k') (x, a, b, c, d) ∧ Below w1.heap.size w1 w3 from ⟨k + 1, by omega, by go_num, by rw [HE.out, HST.out, decide_eq_false hnx]; simp, n13⟩)
        go_wp2_with fail
        go_roundw
        case rel => exact HR.out
        case measure => simp [intOf]; omega
    · obtain rfl : k = K.length := by omega
      have HQ := Lib.hid (show meetsB K (x, a, b, c, d) = true by rw [HE.out, List.drop_length]; rfl)
      go_wp2_with fail
      go_ret
      exact ⟨by rw [HQ.out]; rfl, hb⟩

set_option maxRecDepth 100000 in
set_option maxHeartbeats 4000000 in
theorem nameLeft_any (u z : Value) (K : List Nd) (R : List Pk) (nm : Int) (w : World) (hK : K.length ≤ 1048576) (hq : ∀ q ∈ K, q.2.length ≤ 1048576) (hR : R.length ≤ 1048576) (h : NdAt w w.heap.size u K) (h2 : PkAt w w.heap.size z R) :
    Calls Try.prog 131 #[u, z, .int .i64 nm] w fun e w' => e = .returned (.bool (leftB K R nm)) ∧ Below w.heap.size w w' := by
  obtain ⟨na, ncap, rfl, hx⟩ := id h
  obtain ⟨pa, pc, rfl, h0⟩ := id h2
  clear hx
  have H := Lib.hid h
  have KM : Hid (∀ V x a b c d, NdAt V V.heap.size (.slice na K.length ncap) K → Calls Try.prog 136 #[.slice na K.length ncap, pick x a b c d] V fun e w' => e = .returned (.bool (meetsB K (x, a, b, c, d))) ∧ Below V.heap.size V w') := Lib.hid fun V x a b c d g => pickMeets_any _ K x a b c d V hK hq g
  clear h h2
  go_enter Try.func131, Try.ntmps131
  go_wp2_with fail
  go_loopw [11] (fun i wr => ∃ k : Nat, k ≤ R.length ∧ i = .int .i64 (k : Int) ∧ leftB K R nm = leftB K (R.drop k) nm ∧ Below w.heap.size w wr) (fun i _ => R.length - (intOf i).toNat)
  case atStart => exact ⟨0, Nat.zero_le _, rfl, rfl, Below.refl _ _⟩
  case round =>
    obtain ⟨k, hk, rfl, he, hb⟩ := hrel
    have HE := Lib.hid he
    clear he
    by_cases hlt : k < R.length
    · rcases h0 with h0 | ⟨sb, o, rfl, hB, hc⟩
      · subst h0
        exact absurd hlt (by simp)
      obtain ⟨x, a, b, c, d, hxy⟩ : ∃ x a b c d, R[k] = (x, a, b, c, d) := ⟨_, _, _, _, _, rfl⟩
      obtain ⟨r0, r1, r2, r3, r4⟩ := hc k hlt
      rw [hxy] at r0 r1 r2 r3 r4
      simp only at r0 r1 r2 r3 r4
      have e0 := (hb.cell (p := ⟨sb, o + k * 5, none⟩) hB).trans r0
      have e1 := (hb.cell (p := ⟨sb, o + k * 5 + 1, none⟩) hB).trans r1
      have e2 := (hb.cell (p := ⟨sb, o + k * 5 + 2, none⟩) hB).trans r2
      have e3 := (hb.cell (p := ⟨sb, o + k * 5 + 3, none⟩) hB).trans r3
      have e4 := (hb.cell (p := ⟨sb, o + k * 5 + 4, none⟩) hB).trans r4
      have HXY := Lib.hid (show R[k]? = some (x, a, b, c, d) by rw [List.getElem?_eq_getElem hlt, hxy])
      have i0 : (0 : Int) ≤ (k : Int) := by omega
      have i1 : (k : Int) < (R.length : Int) := by omega
      obtain ⟨w3, hw3⟩ : ∃ V : World, V = wr.alloc (.cells #[.int .i64 x, .int .i64 a, .int .i64 b, .int .i64 c, .int .i64 d] 71) := ⟨_, rfl⟩
      have b3 : Below wr.heap.size wr w3 := by rw [hw3]; exact (Below.refl _ _).alloc (Nat.le_refl _) _
      have y0 : w3.cell? ⟨wr.heap.size, 0, none⟩ = some (.int .i64 x) := by rw [hw3]; go_simp
      have y1 : w3.cell? ⟨wr.heap.size, 1, none⟩ = some (.int .i64 a) := by rw [hw3]; go_simp
      have y2 : w3.cell? ⟨wr.heap.size, 2, none⟩ = some (.int .i64 b) := by rw [hw3]; go_simp
      have y3 : w3.cell? ⟨wr.heap.size, 3, none⟩ = some (.int .i64 c) := by rw [hw3]; go_simp
      have y4 : w3.cell? ⟨wr.heap.size, 4, none⟩ = some (.int .i64 d) := by rw [hw3]; go_simp
      have n3 : Below w.heap.size w w3 := hb.trans (b3.mono hb.size)
      have HST := Lib.hid (show leftB K (R.drop k) nm = ((decide (x = nm) && meetsB K (x, a, b, c, d)) || leftB K (R.drop (k + 1)) nm) by
        unfold leftB
        rw [List.drop_eq_getElem_cons hlt, List.any_cons, hxy])
      clear hxy hc r0 r1 r2 r3 r4
      go_upto_region 4 with fail
      rw [← hw3]
      clear hw3 e0 e1 e2 e3 e4
      by_cases hnx : x = nm
      · subst hnx
        have KH : Hid (∀ V, NdAt V V.heap.size (.slice na K.length ncap) K → Calls Try.prog 136 #[.slice na K.length ncap, pick x a b c d] V fun e w' => e = .returned (.bool (meetsB K (x, a, b, c, d))) ∧ Below V.heap.size V w') := Lib.hid fun V g => KM.out V x a b c d g
        rcases hh : meetsB K (x, a, b, c, d)
        all_goals
          rw [hh] at KH
          have HH := Lib.hid hh
          clear hh
          go_wp2_with fail
          refine (KH.out _ (H.out.stepAt n3)).mono ?_
          rintro e w4 ⟨rfl, hb4⟩
          have m4 := n3.trans (hb4.mono n3.size)
        · have HR := Lib.hid (show ∃ k' : Nat, k' ≤ R.length ∧ Value.int .i64 ((k : Int) + 1) = .int .i64 (k' : Int) ∧ leftB K R x = leftB K (R.drop k') x ∧ Below w.heap.size w w4 from ⟨k + 1, by omega, by go_num, by rw [HE.out, HST.out, HH.out]; simp, m4⟩)
          clear hb4 m4
          go_wp2_with fail
          go_roundw
          case rel => exact HR.out
          case measure => simp [intOf]; omega
        · go_wp2_with fail
          go_ret
          exact ⟨by rw [HE.out, HST.out, HH.out]; simp, m4⟩
      · have hnb : (x == nm) = false := by rw [beq_eq_false_iff_ne]; exact hnx
        have HR := Lib.hid (show ∃ k' : Nat, k' ≤ R.length ∧ Value.int .i64 ((k : Int) + 1) = .int .i64 (k' : Int) ∧ leftB K R nm = leftB K (R.drop k') nm ∧ Below w.heap.size w w3 from ⟨k + 1, by omega, by go_num, by rw [HE.out, HST.out, decide_eq_false hnx]; simp, n3⟩)
        go_wp2_with fail
        go_roundw
        case rel => exact HR.out
        case measure => simp [intOf]; omega
    · obtain rfl : k = R.length := by omega
      have HQ := Lib.hid (show leftB K R nm = false by rw [HE.out, List.drop_length]; rfl)
      go_wp2_with fail
      go_ret
      exact ⟨by rw [HQ.out]; rfl, hb⟩
theorem names_below {K : List Nd} {R : List Pk} (h : ∀ z : Nat, z < 8 → (!needsB K (z : Int) || leftB K R (z : Int)) = true) : namesB K R = true := by
  unfold namesB
  rw [List.all_eq_true]
  exact fun z hz => h z (List.mem_range.1 hz)
theorem names_next {p : Nat → Bool} {k : Nat} (h : ∀ z : Nat, z < k → p z = true) (hk : p k = true) : ∀ z : Nat, z < k + 1 → p z = true := fun z hz => by
  rcases Nat.lt_or_ge z k with h' | h'
  · exact h z h'
  · obtain rfl : z = k := by omega
    exact hk
theorem names_not {K : List Nd} {R : List Pk} {z : Nat} (hz : z < 8) (h : (!needsB K (z : Int) || leftB K R (z : Int)) = false) : namesB K R = false := by
  rcases hn : namesB K R
  · rfl
  · unfold namesB at hn
    have := List.all_eq_true.1 hn z (List.mem_range.2 hz)
    rw [h] at this
    cases this

set_option maxRecDepth 100000 in
set_option maxHeartbeats 4000000 in
theorem namesLeft_any (u z : Value) (K : List Nd) (R : List Pk) (w : World) (hK : K.length ≤ 1048576) (hq : ∀ q ∈ K, q.2.length ≤ 1048576) (hR : R.length ≤ 1048576) (h : NdAt w w.heap.size u K) (h2 : PkAt w w.heap.size z R) :
    Calls Try.prog 110 #[u, z] w fun e w' => e = .returned (.bool (namesB K R)) ∧ Below w.heap.size w w' := by
  obtain ⟨na, ncap, rfl, hx⟩ := id h
  obtain ⟨pa, pc, rfl, hx'⟩ := id h2
  clear hx hx'
  have H := Lib.hid h
  have H2 := Lib.hid h2
  have KN : Hid (∀ V (x : Int), NdAt V V.heap.size (.slice na K.length ncap) K → Calls Try.prog 109 #[.slice na K.length ncap, .int .i64 x] V fun e w' => e = .returned (.bool (needsB K x)) ∧ Below V.heap.size V w') := Lib.hid fun V x g => needsName_any _ K x V hK g
  have KL : Hid (∀ V (x : Int), NdAt V V.heap.size (.slice na K.length ncap) K → PkAt V V.heap.size (.slice pa R.length pc) R → Calls Try.prog 131 #[.slice na K.length ncap, .slice pa R.length pc, .int .i64 x] V fun e w' => e = .returned (.bool (leftB K R x)) ∧ Below V.heap.size V w') := Lib.hid fun V x g g' => nameLeft_any _ _ K R x V hK hq hR g g'
  clear h h2
  go_enter Try.func110, Try.ntmps110
  go_wp2_with fail
  go_loopw [5] (fun i wr => ∃ k : Nat, k ≤ 8 ∧ i = .int .i64 (k : Int) ∧ (∀ z : Nat, z < k → (!needsB K (z : Int) || leftB K R (z : Int)) = true) ∧ Below w.heap.size w wr) (fun i _ => 8 - (intOf i).toNat)
  case atStart => exact ⟨0, Nat.zero_le _, rfl, fun z hz => absurd hz (Nat.not_lt_zero _), Below.refl _ _⟩
  case round =>
    obtain ⟨k, hk, rfl, he, hb⟩ := hrel
    have HE := Lib.hid he
    clear he
    by_cases hlt : k < 8
    · have hk7 : (k : Int) ≤ 7 := by omega
      rcases hn : needsB K (k : Int)
      · have KN0 : Hid (∀ V, NdAt V V.heap.size (.slice na K.length ncap) K → Calls Try.prog 109 #[.slice na K.length ncap, .int .i64 (k : Int)] V fun e w' => e = .returned (.bool false) ∧ Below V.heap.size V w') := Lib.hid fun V g => by
          have := KN.out V (k : Int) g
          rwa [hn] at this
        have HH := Lib.hid (show (!needsB K (k : Int) || leftB K R (k : Int)) = true by rw [hn]; rfl)
        clear hn
        go_wp2_with fail
        refine (KN0.out _ (H.out.stepAt hb)).mono ?_
        rintro e w4 ⟨rfl, hb4⟩
        have m4 := hb.trans (hb4.mono hb.size)
        clear hb4
        go_wp2_with fail
        go_roundw
        case rel => exact ⟨k + 1, by omega, by go_num, names_next (p := fun z => !needsB K (z : Int) || leftB K R (z : Int)) HE.out HH.out, m4⟩
        case measure => simp [intOf]; omega
      · have KN0 : Hid (∀ V, NdAt V V.heap.size (.slice na K.length ncap) K → Calls Try.prog 109 #[.slice na K.length ncap, .int .i64 (k : Int)] V fun e w' => e = .returned (.bool true) ∧ Below V.heap.size V w') := Lib.hid fun V g => by
          have := KN.out V (k : Int) g
          rwa [hn] at this
        have KL0 : Hid (∀ V, NdAt V V.heap.size (.slice na K.length ncap) K → PkAt V V.heap.size (.slice pa R.length pc) R → Calls Try.prog 131 #[.slice na K.length ncap, .slice pa R.length pc, .int .i64 (k : Int)] V fun e w' => e = .returned (.bool (leftB K R (k : Int))) ∧ Below V.heap.size V w') := Lib.hid fun V g g' => KL.out V (k : Int) g g'
        have HN := Lib.hid hn
        clear hn
        rcases hl : leftB K R (k : Int)
        all_goals
          rw [hl] at KL0
          have HL := Lib.hid hl
          clear hl
          go_wp2_with fail
          refine (KN0.out _ (H.out.stepAt hb)).mono ?_
          rintro e w4 ⟨rfl, hb4⟩
          have m4 := hb.trans (hb4.mono hb.size)
          clear hb4
          go_wp2_with fail
          refine (KL0.out _ (H.out.stepAt m4) (H2.out.stepAt m4)).mono ?_
          rintro e w5 ⟨rfl, hb5⟩
          have m5 := m4.trans (hb5.mono m4.size)
          clear hb5
        · go_wp2_with fail
          go_ret
          exact ⟨by rw [names_not hlt (by rw [HN.out, HL.out]; rfl)]; rfl, m5⟩
        · go_wp2_with fail
          go_roundw
          case rel => exact ⟨k + 1, by omega, by go_num, names_next (p := fun z => !needsB K (z : Int) || leftB K R (z : Int)) HE.out (by simp only [HN.out, HL.out]; rfl), m5⟩
          case measure => simp [intOf]; omega
    · obtain rfl : k = 8 := by omega
      go_wp2_with fail
      go_ret
      exact ⟨by rw [names_below HE.out]; rfl, hb⟩

set_option maxRecDepth 100000 in
set_option maxHeartbeats 4000000 in
theorem picksAmong_any (y z : Value) (C D : List Pk) (w : World) (hC : C.length ≤ 1048576) (hD : D.length ≤ 1048576) (h : PkAt w w.heap.size z C) (h1 : PkAt w w.heap.size y D) :
    Calls Try.prog 112 #[z, y] w fun e w' => e = .returned (.bool (C.all (heldP D))) ∧ Below w.heap.size w w' := by
  obtain ⟨pa, pc, rfl, h0⟩ := id h
  obtain ⟨da, dc, rfl, hx⟩ := id h1
  clear hx
  have H1 := Lib.hid h1
  have KP : Hid (∀ V x a b c d, PkAt V V.heap.size (.slice da D.length dc) D → Calls Try.prog 113 #[.slice da D.length dc, pick x a b c d] V fun e w' => e = .returned (.bool (heldP D (x, a, b, c, d))) ∧ Below V.heap.size V w') := Lib.hid fun V x a b c d g => picked_any _ D x a b c d V hD g
  clear h h1
  go_enter Try.func112, Try.ntmps112
  go_wp2_with fail
  go_loopw [9] (fun i wr => ∃ k : Nat, k ≤ C.length ∧ i = .int .i64 (k : Int) ∧ C.all (heldP D) = (C.drop k).all (heldP D) ∧ Below w.heap.size w wr) (fun i _ => C.length - (intOf i).toNat)
  case atStart => exact ⟨0, Nat.zero_le _, rfl, rfl, Below.refl _ _⟩
  case round =>
    obtain ⟨k, hk, rfl, he, hb⟩ := hrel
    have HE := Lib.hid he
    clear he
    by_cases hlt : k < C.length
    · rcases h0 with h0 | ⟨sb, o, rfl, hB, hc⟩
      · subst h0
        exact absurd hlt (by simp)
      obtain ⟨x, a, b, c, d, hxy⟩ : ∃ x a b c d, C[k] = (x, a, b, c, d) := ⟨_, _, _, _, _, rfl⟩
      obtain ⟨r0, r1, r2, r3, r4⟩ := hc k hlt
      rw [hxy] at r0 r1 r2 r3 r4
      simp only at r0 r1 r2 r3 r4
      have e0 := (hb.cell (p := ⟨sb, o + k * 5, none⟩) hB).trans r0
      have e1 := (hb.cell (p := ⟨sb, o + k * 5 + 1, none⟩) hB).trans r1
      have e2 := (hb.cell (p := ⟨sb, o + k * 5 + 2, none⟩) hB).trans r2
      have e3 := (hb.cell (p := ⟨sb, o + k * 5 + 3, none⟩) hB).trans r3
      have e4 := (hb.cell (p := ⟨sb, o + k * 5 + 4, none⟩) hB).trans r4
      have HST := Lib.hid (all_step (heldP D) (show C[k]? = some (x, a, b, c, d) by rw [List.getElem?_eq_getElem hlt, hxy]))
      have i0 : (0 : Int) ≤ (k : Int) := by omega
      have i1 : (k : Int) < (C.length : Int) := by omega
      obtain ⟨w3, hw3⟩ : ∃ V : World, V = wr.alloc (.cells #[.int .i64 x, .int .i64 a, .int .i64 b, .int .i64 c, .int .i64 d] 71) := ⟨_, rfl⟩
      have b3 : Below wr.heap.size wr w3 := by rw [hw3]; exact (Below.refl _ _).alloc (Nat.le_refl _) _
      have y0 : w3.cell? ⟨wr.heap.size, 0, none⟩ = some (.int .i64 x) := by rw [hw3]; go_simp
      have y1 : w3.cell? ⟨wr.heap.size, 1, none⟩ = some (.int .i64 a) := by rw [hw3]; go_simp
      have y2 : w3.cell? ⟨wr.heap.size, 2, none⟩ = some (.int .i64 b) := by rw [hw3]; go_simp
      have y3 : w3.cell? ⟨wr.heap.size, 3, none⟩ = some (.int .i64 c) := by rw [hw3]; go_simp
      have y4 : w3.cell? ⟨wr.heap.size, 4, none⟩ = some (.int .i64 d) := by rw [hw3]; go_simp
      have n3 : Below w.heap.size w w3 := hb.trans (b3.mono hb.size)
      clear hxy hc r0 r1 r2 r3 r4
      go_upto_region 4 with fail
      rw [← hw3]
      clear hw3 e0 e1 e2 e3 e4
      have KH : Hid (∀ V, PkAt V V.heap.size (.slice da D.length dc) D → Calls Try.prog 113 #[.slice da D.length dc, pick x a b c d] V fun e w' => e = .returned (.bool (heldP D (x, a, b, c, d))) ∧ Below V.heap.size V w') := Lib.hid fun V g => KP.out V x a b c d g
      rcases hh : heldP D (x, a, b, c, d)
      all_goals
        rw [hh] at KH
        have HH := Lib.hid hh
        clear hh
        go_wp2_with fail
        refine (KH.out _ (H1.out.stepAt n3)).mono ?_
        rintro e w4 ⟨rfl, hb4⟩
        have m4 := n3.trans (hb4.mono n3.size)
      · go_wp2_with fail
        go_ret
        exact ⟨by rw [HE.out, HST.out, HH.out]; simp, m4⟩
      · have HR := Lib.hid (show ∃ k' : Nat, k' ≤ C.length ∧ Value.int .i64 ((k : Int) + 1) = .int .i64 (k' : Int) ∧ C.all (heldP D) = (C.drop k').all (heldP D) ∧ Below w.heap.size w w4 from ⟨k + 1, by omega, by go_num, by rw [HE.out, HST.out, HH.out]; simp, m4⟩)
        clear hb4 m4
        go_wp2_with fail
        go_roundw
        case rel => exact HR.out
        case measure => simp [intOf]; omega
    · obtain rfl : k = C.length := by omega
      have HQ := Lib.hid (show C.all (heldP D) = true by rw [HE.out, List.drop_length]; rfl)
      go_wp2_with fail
      go_ret
      exact ⟨by rw [HQ.out]; rfl, hb⟩
end Svp
end Go.Proofs.Ytmhamoeibkpnpaa

/- Contracts of the program's functions that lay picks and needs together (picksWith, needsKnown, hopeless), over this seat's translation, as plain functions tell them; nothing that was there before a call has changed. Condition: at most 30 releases, five needs of each and five needs, 30 picks. -/
namespace Go.Proofs.Ytmhamoeibkpnpaa
open Go.RowKit Go.Sort

namespace Svp
open Foot Copy Nup Cpu Cfa Rch
theorem pcl_ones : ∀ (A : List Pk), ∀ u ∈ pcl A, u.oneCell' = true := fun A u h => by
  obtain ⟨j, hj, rfl⟩ := List.getElem_of_mem h
  have hj' := hj
  rw [pcl_len] at hj'
  obtain ⟨p0, p1, p2, p3, p4⟩ := pcl_at A (j / 5) (by omega)
  have hg := List.getElem?_eq_getElem hj
  have : j = j / 5 * 5 ∨ j = j / 5 * 5 + 1 ∨ j = j / 5 * 5 + 2 ∨ j = j / 5 * 5 + 3 ∨ j = j / 5 * 5 + 4 := by omega
  rcases this with e | e | e | e | e
  · rw [← e, hg] at p0; injection p0 with p0; rw [p0]; rfl
  · rw [← e, hg] at p1; injection p1 with p1; rw [p1]; rfl
  · rw [← e, hg] at p2; injection p2 with p2; rw [p2]; rfl
  · rw [← e, hg] at p3; injection p3 with p3; rw [p3]; rfl
  · rw [← e, hg] at p4; injection p4 with p4; rw [p4]; rfl
/-- The cells of a row of picks, for an append of all of it. -/
theorem pk_rows {W : World} {B cap : Nat} {ao : Option Addr} {T : List Pk} (h : PkAt W B (.slice ao T.length cap) T) : (pcl T).length = T.length * 5 ∧ (ao = none → T.length = 0) ∧ ∀ ad, ao = some ad → ∀ j u, (pcl T)[j]? = some u → W.cell? (ad.add j) = some u := by
  obtain ⟨a', c', e, hc⟩ := h
  simp only [Value.slice.injEq] at e
  obtain ⟨rfl, _, _⟩ := e
  refine ⟨pcl_len T, fun e => ?_, fun ad e j u hu => ?_⟩
  · rcases hc with hc | ⟨b, o, e', _⟩
    · rw [hc]; rfl
    · rw [e] at e'; cases e'
  · have hj := (List.getElem?_eq_some_iff.1 hu).1
    rw [pcl_len] at hj
    rcases hc with rfl | ⟨b, o, rfl, hB, hc⟩
    · simp at hj
    · cases e
      have hadd : (⟨b, o, none⟩ : Addr).add j = ⟨b, o + j, none⟩ := by unfold Addr.add; split <;> simp_all
      rw [hadd]
      obtain ⟨c0, c1, c2, c3, c4⟩ := hc (j / 5) (by omega)
      obtain ⟨p0, p1, p2, p3, p4⟩ := pcl_at T (j / 5) (by omega)
      have : j = j / 5 * 5 ∨ j = j / 5 * 5 + 1 ∨ j = j / 5 * 5 + 2 ∨ j = j / 5 * 5 + 3 ∨ j = j / 5 * 5 + 4 := by omega
      rcases this with e | e | e | e | e <;> rw [e] at hu ⊢
      · rw [p0] at hu; rw [← hu]; exact c0
      · rw [p1] at hu; rw [← hu]; exact c1
      · rw [p2] at hu; rw [← hu]; exact c2
      · rw [p3] at hu; rw [← hu]; exact c3
      · rw [p4] at hu; rw [← hu]; exact c4
theorem KOwn.of {w : World} {B n : Nat} {v : Value} {L : List Pk} {cs : List Value} (h : w.ownsRow B 71 5 v n cs) (hn : n = L.length) (hc : cs = pcl L) : KOwn w B v L := by
  subst hn
  subst hc
  exact h

set_option maxRecDepth 100000 in
set_option maxHeartbeats 4000000 in
theorem picksWith_any (u : Value) (C : List Pk) (x a b c d : Int) (w : World) (hC : C.length ≤ 1048575) (h : PkAt w w.heap.size u C) :
    Calls Try.prog 84 #[u, pick x a b c d] w fun e w' => ∃ v, e = .returned v ∧ KOwn w' w.heap.size v (C ++ [(x, a, b, c, d)]) ∧ Below w.heap.size w w' := by
  obtain ⟨i0, hi, hz0, hz1, hz2⟩ := info_parts infoPick
  obtain ⟨pa, pc, rfl, hx⟩ := id h
  clear hx
  obtain ⟨w1, hw1⟩ : ∃ V : World, V = w.alloc (.cells #[.int .i64 x, .int .i64 a, .int .i64 b, .int .i64 c, .int .i64 d] 71) := ⟨_, rfl⟩
  have b1 : Below w.heap.size w w1 := by rw [hw1]; exact (Below.refl _ _).alloc (Nat.le_refl _) _
  have z1 : w.heap.size < w1.heap.size := by rw [hw1]; simp
  have p0 : w1.cell? ⟨w.heap.size, 0, none⟩ = some (.int .i64 x) := by rw [hw1]; go_simp
  have p1 : w1.cell? ⟨w.heap.size, 1, none⟩ = some (.int .i64 a) := by rw [hw1]; go_simp
  have p2 : w1.cell? ⟨w.heap.size, 2, none⟩ = some (.int .i64 b) := by rw [hw1]; go_simp
  have p3 : w1.cell? ⟨w.heap.size, 3, none⟩ = some (.int .i64 c) := by rw [hw1]; go_simp
  have p4 : w1.cell? ⟨w.heap.size, 4, none⟩ = some (.int .i64 d) := by rw [hw1]; go_simp
  obtain ⟨l1, l2, l3⟩ := pk_rows (h.stepAt b1)
  have L3 := Lib.hid l3
  have HB1 := Lib.hid b1
  clear l3 h
  go_enter Try.func84, Try.ntmps84
  go_upto_region 1 with fail
  rw [← hw1]
  clear hw1
  go_wp2_with (at_builtin; refine Ap2.wpList_append _ rfl (.tmp 6) (.tmp 7) 23 rfl (w.heap.size + 1) 71 i0 (.agg #[.int .i64 0, .int .i64 0, .int .i64 0, .int .i64 0, .int .i64 0]) 5 40 Try.underlying23 hi hz0 hz1 hz2 rfl (by decide) _ 0 [] rfl (World.ownsRow_nil _ _ _ _) pa C.length pc (pcl C) (by rfl) l1 l2 L3.out (pcl_ones C) (by unfold maxLen; omega) (by omega) (by omega) ?_)
  intro a2 c2 w2 own2 grow2 at2
  have o2 : KOwn w2 (w.heap.size + 1) (.slice a2 C.length c2) C := KOwn.of own2 rfl (by simp)
  have n12 : Below w1.heap.size w1 w2 := (Below.refl _ _).grown grow2 (Nat.le_refl _) (fun k e => by cases e)
  have n2 : Below w.heap.size w w2 := HB1.out.trans (n12.mono b1.size)
  have q0 := (n12.cell (p := ⟨w.heap.size, 0, none⟩) z1).trans p0
  have q1 := (n12.cell (p := ⟨w.heap.size, 1, none⟩) z1).trans p1
  have q2 := (n12.cell (p := ⟨w.heap.size, 2, none⟩) z1).trans p2
  have q3 := (n12.cell (p := ⟨w.heap.size, 3, none⟩) z1).trans p3
  have q4 := (n12.cell (p := ⟨w.heap.size, 4, none⟩) z1).trans p4
  have z2 := n12.size
  have HO2 := Lib.hid o2
  have HB2 := Lib.hid n2
  clear own2 grow2 at2 o2 n12 n2 p0 p1 p2 p3 p4
  go_wp2_with (at_builtin; refine wpList_append_own _ rfl _ _ 23 rfl (w.heap.size + 1) 71 i0 (.agg #[.int .i64 0, .int .i64 0, .int .i64 0, .int .i64 0, .int .i64 0]) 5 40 Try.underlying23 hi hz0 hz1 hz2 rfl (by decide) _ _ _ rfl (KOwn.below HO2.out ((Below.refl w2.heap.size w2).alloc (Nat.le_refl _) (.cells #[.int .i64 x, .int .i64 a, .int .i64 b, .int .i64 c, .int .i64 d] 71))) ⟨w2.heap.size, 0, none⟩ 1 1 [.int .i64 x, .int .i64 a, .int .i64 b, .int .i64 c, .int .i64 d] rfl rfl (pick_new w2 x a b c d) (pick_one _ _ _ _ _) (by unfold maxLen; omega) (by omega) (by simp; omega) ?_)
  intro v' w5 hown' hgrow hnn
  have o5 := KOwn.push hown'
  have n5 : Below w.heap.size w w5 := (HB2.out.alloc HB2.out.size _).grown hgrow (Nat.le_trans HB2.out.size (by simp)) (fun k e => by have := (World.ownsRow.lt HO2.out) k e; omega)
  have HO5 := Lib.hid (show KOwn w5 w.heap.size v' (C ++ [(x, a, b, c, d)]) from ⟨o5.1, by rcases o5.2 with h | ⟨g, cap, cur, hv, hb, rest⟩; exact .inl h; exact .inr ⟨g, cap, cur, hv, by omega, rest⟩⟩)
  clear hown' hgrow hnn o5
  go_wp2_with fail
  go_ret
  exact ⟨_, rfl, HO5.out, n5⟩
theorem flat_step {S : List Rel} {C : List Pk} {k : Nat} {x : Pk} (h : C[k]? = some x) : (C.take (k + 1)).flatMap (ndsOf S) = (C.take k).flatMap (ndsOf S) ++ ndsOf S x := by
  have hk := (List.getElem?_eq_some_iff.1 h).1
  rw [List.take_add_one, h, List.flatMap_append]
  simp
theorem flat_len {S : List Rel} (hS : ∀ q ∈ S, q.2.2.2.length ≤ 5) : ∀ C : List Pk, (C.flatMap (ndsOf S)).length ≤ 5 * C.length
  | [] => by simp
  | x :: t => by
    have h1 := flat_len hS t
    have h2 := nds_len hS x
    simp only [List.flatMap_cons, List.length_append, List.length_cons]
    omega

set_option maxRecDepth 100000 in
set_option maxHeartbeats 4000000 in
theorem needsKnown_any (v u z : Value) (S : List Rel) (N : List Nd) (C : List Pk) (w : World) (hl : S.length ≤ 30) (hS : ∀ q ∈ S, q.2.2.2.length ≤ 5) (hN : N.length ≤ 5) (hC : C.length ≤ 30) (h : RlAt w w.heap.size v S) (h' : NdAt w w.heap.size u N) (h2 : PkAt w w.heap.size z C) :
    Calls Try.prog 111 #[v, u, z] w fun e w' => ∃ r, e = .returned r ∧ NdAt w' w'.heap.size r (knownL S N C) ∧ Below w.heap.size w w' := by
  obtain ⟨i0, hi, hz0, hz1, hz2⟩ := info_parts infoNeed
  obtain ⟨sa, caps, rfl, hx⟩ := id h
  obtain ⟨na, ncap, rfl, hx'⟩ := id h'
  obtain ⟨pa, pc, rfl, h0⟩ := id h2
  clear hx hx'
  have H := Lib.hid h
  obtain ⟨news, l1, l2, l3, l4, l5⟩ := need_cells (x := (Value.slice none 0 0).ownBlock) h' (Nat.le_refl _) (fun c e => by cases e)
  obtain ⟨cs0, hown0, hc0⟩ := NOwn.nil w w.heap.size 0
  have L3 := Lib.hid l3
  have L5 := Lib.hid l5
  have HC0 := Lib.hid hc0
  have HO0 := Lib.hid hown0
  clear h h' h2 l3 l5 hc0 hown0
  go_enter Try.func111, Try.ntmps111
  go_wp2_with (at_builtin; refine Ap2.wpList_append _ rfl (.tmp 10) (.tmp 11) 32 rfl w.heap.size 110 i0 (.agg #[.int .i64 0, .slice none 0 0]) 2 32 Try.underlying32 hi hz0 hz1 hz2 rfl (by decide) _ 0 cs0 rfl HO0.out na N.length ncap news (by rfl) l1 l2 L3.out l4 (by unfold maxLen; omega) (by omega) (by omega) ?_)
  intro a1 c1 w1 hown1 hgrow1 hat1
  have n1 : NOwn w1 w.heap.size 0 (.slice a1 N.length c1) N := by
    have := grow_any (M := ([] : List Nd)) (P := N) (a' := a1) (c' := c1) HO0.out HC0.out L5.out (by rw [List.length_nil, Nat.zero_add]; exact hown1) hgrow1 (by rw [List.length_nil, Nat.zero_add]; exact hat1)
    rwa [List.length_nil, Nat.zero_add, List.nil_append] at this
  have b1 : Below w.heap.size w w1 := (Below.refl _ _).grown hgrow1 (Nat.le_refl _) (fun k e => by cases e)
  have HN1 := Lib.hid n1
  clear hown1 hgrow1 hat1 n1 HO0 HC0 L3 L5
  go_wp2_with fail
  go_loopw [7, 15] (fun s7 i wr => ∃ k : Nat, k ≤ C.length ∧ i = .int .i64 (k : Int) ∧ NOwn wr w.heap.size 0 s7 (N ++ (C.take k).flatMap (ndsOf S)) ∧ Below w.heap.size w wr) (fun _ i _ => C.length - (intOf i).toNat)
  case atStart => exact ⟨0, Nat.zero_le _, rfl, by simpa using HN1.out, b1⟩
  case round =>
    clear HN1
    obtain ⟨k, hk, rfl, hO, hb⟩ := hrel
    obtain ⟨M, hM⟩ : ∃ M, N ++ (C.take k).flatMap (ndsOf S) = M := ⟨_, rfl⟩
    rw [hM] at hO
    have hMl : M.length ≤ 155 := by
      rw [← hM, List.length_append]
      have := flat_len hS (C.take k)
      rw [List.length_take] at this
      omega
    have HM := Lib.hid hM
    obtain ⟨oa, oc, hv, hxx⟩ := id hO.at
    subst hv
    have HO := Lib.hid hO
    clear hM hO hxx
    by_cases hlt : k < C.length
    · rcases h0 with h0 | ⟨sb, o, rfl, hB, hc⟩
      · subst h0
        exact absurd hlt (by simp)
      obtain ⟨x, a, b, c, d, hxy⟩ : ∃ x a b c d, C[k] = (x, a, b, c, d) := ⟨_, _, _, _, _, rfl⟩
      obtain ⟨r0, r1, r2, r3, r4⟩ := hc k hlt
      rw [hxy] at r0 r1 r2 r3 r4
      simp only at r0 r1 r2 r3 r4
      have e0 := (hb.cell (p := ⟨sb, o + k * 5, none⟩) hB).trans r0
      have e1 := (hb.cell (p := ⟨sb, o + k * 5 + 1, none⟩) hB).trans r1
      have e2 := (hb.cell (p := ⟨sb, o + k * 5 + 2, none⟩) hB).trans r2
      have e3 := (hb.cell (p := ⟨sb, o + k * 5 + 3, none⟩) hB).trans r3
      have e4 := (hb.cell (p := ⟨sb, o + k * 5 + 4, none⟩) hB).trans r4
      have HXY := Lib.hid (show C[k]? = some (x, a, b, c, d) by rw [List.getElem?_eq_getElem hlt, hxy])
      have i0' : (0 : Int) ≤ (k : Int) := by omega
      have i1 : (k : Int) < (C.length : Int) := by omega
      obtain ⟨w3, hw3⟩ : ∃ V : World, V = wr.alloc (.cells #[.int .i64 x, .int .i64 a, .int .i64 b, .int .i64 c, .int .i64 d] 71) := ⟨_, rfl⟩
      have b3 : Below wr.heap.size wr w3 := by rw [hw3]; exact (Below.refl _ _).alloc (Nat.le_refl _) _
      have y0 : w3.cell? ⟨wr.heap.size, 0, none⟩ = some (.int .i64 x) := by rw [hw3]; go_simp
      have y1 : w3.cell? ⟨wr.heap.size, 1, none⟩ = some (.int .i64 a) := by rw [hw3]; go_simp
      have y2 : w3.cell? ⟨wr.heap.size, 2, none⟩ = some (.int .i64 b) := by rw [hw3]; go_simp
      have y3 : w3.cell? ⟨wr.heap.size, 3, none⟩ = some (.int .i64 c) := by rw [hw3]; go_simp
      have y4 : w3.cell? ⟨wr.heap.size, 4, none⟩ = some (.int .i64 d) := by rw [hw3]; go_simp
      have n3 : Below w.heap.size w w3 := hb.trans (b3.mono hb.size)
      have HO3 := Lib.hid (HO.out.below b3)
      clear hxy hc r0 r1 r2 r3 r4
      go_upto_region 6 with fail
      rw [← hw3]
      clear hw3 e0 e1 e2 e3 e4
      go_wp2_with fail
      refine (needsOfPick_any _ S x a b c d _ w.heap.size n3.size (by omega) (H.out.below n3)).mono ?_
      rintro e w4 ⟨da, dcap, rfl, hnd, hb4⟩
      have m4 := n3.trans (hb4.mono n3.size)
      have hP5 := nds_len hS (x, a, b, c, d)
      have HFS := Lib.hid (flat_step (S := S) HXY.out)
      obtain ⟨P, hP⟩ : ∃ P, ndsOf S (x, a, b, c, d) = P := ⟨_, rfl⟩
      rw [hP] at hnd hP5 HFS
      obtain ⟨cs, hown, hcc⟩ := HO3.out.below hb4
      have hlt4 := World.ownsRow.lt hown
      obtain ⟨news, l1, l2, l3, l4, l5⟩ := need_cells (x := (Value.slice oa M.length oc).ownBlock) hnd m4.size (fun c e => (hlt4 c e).1)
      have HCC := Lib.hid hcc
      have HL3 := Lib.hid l3
      have HL5 := Lib.hid l5
      have HOW := Lib.hid hown
      have z4 := m4.size
      have HB4 := Lib.hid m4
      first | rw [hP] | skip
      clear hcc l3 l5 hown hnd hP hb4 m4
      go_wp2_with (at_builtin; refine Ap2.wpList_append _ rfl (.tmp 19) (.tmp 22) 32 rfl w.heap.size 110 i0 (.agg #[.int .i64 0, .slice none 0 0]) 2 32 Try.underlying32 hi hz0 hz1 hz2 rfl (by decide) _ M.length cs rfl HOW.out da P.length dcap news (by rfl) l1 l2 HL3.out l4 (by unfold maxLen; omega) (by omega) (by omega) ?_)
      intro a5 c5 w5 hown5 hgrow5 hat5
      have n5 := grow_any HOW.out HCC.out HL5.out hown5 hgrow5 hat5
      have b5 : Below w.heap.size w w5 := HB4.out.grown hgrow5 HB4.out.size (fun k e => (hlt4 k e).1)
      have HR := Lib.hid (show NOwn w5 w.heap.size 0 (.slice a5 (M.length + P.length) c5) (N ++ (C.take (k + 1)).flatMap (ndsOf S)) by rw [HFS.out, ← List.append_assoc, HM.out]; exact n5)
      clear hown5 hgrow5 hat5 n5
      go_wp2_with fail
      go_roundw
      case rel => exact ⟨k + 1, by omega, by go_num, HR.out, b5⟩
      case measure => simp [intOf]; omega
    · obtain rfl : k = C.length := by omega
      have HA := Lib.hid (show NdAt wr wr.heap.size (.slice oa M.length oc) (knownL S N C) by
        have := HO.out.at
        rw [← HM.out, List.take_length] at this
        rw [← HM.out, List.take_length]
        exact this)
      go_wp2_with fail
      go_ret
      exact ⟨_, rfl, HA.out, hb⟩

set_option maxRecDepth 100000 in
set_option maxHeartbeats 4000000 in
theorem hopeless_any (v u z y : Value) (S : List Rel) (N : List Nd) (C O : List Pk) (w : World) (hl : S.length ≤ 30) (hS : ∀ q ∈ S, q.2.2.2.length ≤ 5 ∧ ∀ p ∈ q.2.2.2, p.2.length ≤ 1048576) (hN : N.length ≤ 5) (hNq : ∀ q ∈ N, q.2.length ≤ 1048576) (hCO : (C ++ O).length ≤ 30) (h : RlAt w w.heap.size v S) (h' : NdAt w w.heap.size u N) (h2 : PkAt w w.heap.size z C) (h3 : PkAt w w.heap.size y O) :
    Calls Try.prog 82 #[v, u, z, y] w fun e w' => e = .returned (.bool (hopeB S N C O)) ∧ Below w.heap.size w w' := by
  obtain ⟨i0, hi, hz0, hz1, hz2⟩ := info_parts infoPick
  obtain ⟨sa, caps, rfl, hx1⟩ := id h
  obtain ⟨na, ncap, rfl, hx2⟩ := id h'
  obtain ⟨pa, pc, rfl, hx3⟩ := id h2
  obtain ⟨oa, oc, rfl, hx4⟩ := id h3
  clear hx1 hx2 hx3 hx4
  have hCl : C.length + O.length ≤ 30 := by rwa [List.length_append] at hCO
  have H := Lib.hid h
  have H' := Lib.hid h'
  have H2 := Lib.hid h2
  have H3 := Lib.hid h3
  obtain ⟨l1, l2, l3⟩ := pk_rows h2
  have L3 := Lib.hid l3
  clear h h' h2 h3 l3
  go_enter Try.func82, Try.ntmps82
  go_wp2_with (at_builtin; refine Ap2.wpList_append _ rfl (.tmp 10) (.tmp 11) 23 rfl w.heap.size 71 i0 (.agg #[.int .i64 0, .int .i64 0, .int .i64 0, .int .i64 0, .int .i64 0]) 5 40 Try.underlying23 hi hz0 hz1 hz2 rfl (by decide) _ 0 [] rfl (World.ownsRow_nil _ _ _ _) pa C.length pc (pcl C) (by rfl) l1 l2 L3.out (pcl_ones C) (by unfold maxLen; omega) (by omega) (by omega) ?_)
  intro a2 c2 w2 own2 grow2 at2
  have o2 : KOwn w2 w.heap.size (.slice a2 C.length c2) C := KOwn.of own2 rfl (by simp)
  have n2 : Below w.heap.size w w2 := (Below.refl _ _).grown grow2 (Nat.le_refl _) (fun k e => by cases e)
  obtain ⟨m1, m2, m3⟩ := pk_rows (H3.out.stepAt n2)
  have M3 := Lib.hid m3
  have HO2 := Lib.hid o2
  have z2 := n2.size
  have HB2 := Lib.hid n2
  clear own2 grow2 at2 o2 n2 m3 l1 l2 L3
  go_wp2_with (at_builtin; refine Ap2.wpList_append _ rfl (.tmp 13) (.tmp 14) 23 rfl w.heap.size 71 i0 (.agg #[.int .i64 0, .int .i64 0, .int .i64 0, .int .i64 0, .int .i64 0]) 5 40 Try.underlying23 hi hz0 hz1 hz2 rfl (by decide) _ C.length (pcl C) rfl HO2.out oa O.length oc (pcl O) (by rfl) m1 m2 M3.out (pcl_ones O) (by unfold maxLen; omega) (by omega) (by omega) ?_)
  intro a3 c3 w3 own3 grow3 at3
  have o3 : KOwn w3 w.heap.size (.slice a3 (C.length + O.length) c3) (C ++ O) := KOwn.of own3 (by simp) (by rw [pcl_app])
  have n3 : Below w.heap.size w w3 := HB2.out.grown grow3 HB2.out.size (fun k e => (World.ownsRow.lt HO2.out k e).1)
  have R3 := Lib.hid (show PkAt w3 w3.heap.size (.slice a3 (C.length + O.length) c3) (C ++ O) from (KOwn.pb o3).at)
  clear own3 grow3 at3 o3 m1 m2 M3 HO2
  go_wp2_with fail
  refine (needsKnown_any _ _ _ S N C _ hl (fun q hq => (hS q hq).1) hN (by omega) (H.out.stepAt n3) (H'.out.stepAt n3) (H2.out.stepAt n3)).mono ?_
  rintro e w4 ⟨r4, rfl, hk4, hb4⟩
  have n4 := n3.trans (hb4.mono n3.size)
  obtain ⟨ka, kc, rfl, hxx⟩ := id hk4
  have K4 := Lib.hid hk4
  have R4 := Lib.hid (R3.out.stepAt hb4)
  have hKl : (knownL S N C).length ≤ 1048576 := by
    unfold knownL
    rw [List.length_append]
    have := flat_len (fun q hq => (hS q hq).1) C
    omega
  have hKq : ∀ q ∈ knownL S N C, q.2.length ≤ 1048576 := fun q hq => by
    unfold knownL at hq
    rcases List.mem_append.1 hq with hq | hq
    · exact hNq q hq
    · obtain ⟨x, _, hq⟩ := List.mem_flatMap.1 hq
      obtain ⟨r, hr, hq⟩ := nds_mem hq
      exact (hS r hr).2 q hq
  have KL : Hid (∀ V, NdAt V V.heap.size (.slice ka (knownL S N C).length kc) (knownL S N C) → PkAt V V.heap.size (.slice a3 (C.length + O.length) c3) (C ++ O) → Calls Try.prog 110 #[.slice ka (knownL S N C).length kc, .slice a3 (C.length + O.length) c3] V fun e w' => e = .returned (.bool (namesB (knownL S N C) (C ++ O))) ∧ Below V.heap.size V w') := Lib.hid fun V g g' => namesLeft_any _ _ _ _ V hKl hKq (by omega) g g'
  clear hk4 hxx hb4 hKl hKq R3
  rcases hnb : namesB (knownL S N C) (C ++ O)
  · rw [hnb] at KL
    have HH := Lib.hid (show hopeB S N C O = true by unfold hopeB; rw [hnb]; rfl)
    clear hnb
    go_wp2_with fail
    refine (KL.out _ K4.out R4.out).mono ?_
    rintro e w5 ⟨rfl, hb5⟩
    have n5 := n4.trans (hb5.mono n4.size)
    clear hb5
    go_wp2_with fail
    go_ret
    exact ⟨by rw [HH.out]; rfl, n5⟩
  · rw [hnb] at KL
    have HH := Lib.hid (show hopeB S N C O = !C.all (heldP (neededL S N (C ++ O))) by unfold hopeB; rw [hnb]; rfl)
    have hDl : (cameL (C ++ O) (endK S N (C ++ O)).1).length ≤ 1048576 := by have := cameL_len (C ++ O) (endK S N (C ++ O)).1; omega
    have KN : Hid (∀ V, RlAt V V.heap.size (.slice sa S.length caps) S → NdAt V V.heap.size (.slice na N.length ncap) N → PkAt V V.heap.size (.slice a3 (C.length + O.length) c3) (C ++ O) → Calls Try.prog 95 #[.slice sa S.length caps, .slice na N.length ncap, .slice a3 (C.length + O.length) c3] V (PbPost (neededL S N (C ++ O)) V)) := Lib.hid fun V g g' g2 => picksNeeded_any _ _ _ S N (C ++ O) V hl hS hN hCO g g' g2
    obtain ⟨D, hD⟩ : ∃ D, neededL S N (C ++ O) = D := ⟨_, rfl⟩
    have hDl' : D.length ≤ 1048576 := by rw [← hD]; exact hDl
    rw [hD] at KN HH
    have KA : Hid (∀ V r, PkAt V V.heap.size (.slice pa C.length pc) C → PkAt V V.heap.size r D → Calls Try.prog 112 #[.slice pa C.length pc, r] V fun e w' => e = .returned (.bool (C.all (heldP D))) ∧ Below V.heap.size V w') := Lib.hid fun V r g g' => picksAmong_any r _ C D V (by omega) hDl' g g'
    clear hnb hD hDl
    obtain ⟨al, hal⟩ : ∃ al, C.all (heldP D) = al := ⟨_, rfl⟩
    rw [hal] at KA HH
    clear hal
    go_wp2_with fail
    refine (KL.out _ K4.out R4.out).mono ?_
    rintro e w5 ⟨rfl, hb5⟩
    have n5 := n4.trans (hb5.mono n4.size)
    have R5 := Lib.hid (R4.out.stepAt hb5)
    clear hb5 R4
    go_wp2_with fail
    refine (KN.out _ (H.out.stepAt n5) (H'.out.stepAt n5) R5.out).mono ?_
    rintro e w6 ⟨v6, rfl, pb6, hb6⟩
    have n6 := n5.trans (hb6.mono n5.size)
    obtain ⟨da, dc, rfl, hxx⟩ := id pb6
    have D6 := Lib.hid pb6.at
    clear hxx pb6 hb6
    go_wp2_with fail
    refine (KA.out _ _ (H2.out.stepAt n6) D6.out).mono ?_
    rintro e w7 ⟨rfl, hb7⟩
    have n7 := n6.trans (hb7.mono n6.size)
    clear hb7
    go_wp2_with fail
    go_ret
    exact ⟨by rw [HH.out]; rfl, n7⟩
end Svp
end Go.Proofs.Ytmhamoeibkpnpaa

/- Contracts of the program's picksOfFirstName and picksOpen, over this seat's translation, as plain functions tell them; nothing that was there before a call has changed. Condition: at most 1048576 of each row. -/
namespace Go.Proofs.Ytmhamoeibkpnpaa
open Go.RowKit Go.Sort

namespace Svp
open Foot Copy Nup Cpu Cfa Rch
/-- How many are of a name, one behind the other. -/
def sameN (n : Int) : List Pk → Nat
  | [] => 0
  | q :: t => if q.1 = n then sameN n t + 1 else 0
theorem sameN_take (n : Int) : ∀ o : List Pk, sameN n o = (o.takeWhile (fun q => decide (q.1 = n))).length
  | [] => rfl
  | q :: t => by
    unfold sameN
    by_cases h : q.1 = n
    · rw [if_pos h, List.takeWhile_cons_of_pos (by simpa using h), sameN_take n t]
      rfl
    · rw [if_neg h, List.takeWhile_cons_of_neg (by simpa using h)]
      rfl
theorem firstN_same (p : Pk) (t : List Pk) : firstN (p :: t) = sameN p.1 (p :: t) := (sameN_take p.1 (p :: t)).symm
theorem firstN_head : ∀ {O : List Pk} (h : 0 < O.length), firstN O = sameN O[0].1 O
  | [], h => absurd h (by simp)
  | p :: t, _ => firstN_same p t
theorem sameN_step {n : Int} {o : List Pk} {k : Nat} {x : Pk} (h : o[k]? = some x) : sameN n (o.drop k) = if x.1 = n then sameN n (o.drop (k + 1)) + 1 else 0 := by
  have hk := (List.getElem?_eq_some_iff.1 h).1
  rw [List.drop_eq_getElem_cons hk, (List.getElem?_eq_some_iff.1 h).2]
  rfl

set_option maxRecDepth 100000 in
set_option maxHeartbeats 4000000 in
theorem firstName_any (z : Value) (O : List Pk) (w : World) (hO : O.length ≤ 1048576) (h : PkAt w w.heap.size z O) :
    Calls Try.prog 83 #[z] w fun e w' => e = .returned (.int .i64 (firstN O : Nat)) ∧ Below w.heap.size w w' := by
  obtain ⟨pa, pc, rfl, h0⟩ := id h
  clear h
  by_cases hO0 : O = []
  · subst hO0
    go_enter Try.func83, Try.ntmps83
    go_wp2_with fail
    go_loopw [3] (fun i wr => i = .int .i64 0 ∧ Below w.heap.size w wr) (fun _ _ => 0)
    case atStart => exact ⟨rfl, Below.refl _ _⟩
    case round =>
      obtain ⟨rfl, hb⟩ := hrel
      go_wp2_with fail
      refine wp_region_quiet_below (by kernel_rfl) (by kernel_rfl) ?_
      repeat (any_goals (first | go_big_quiet_step (fail) | quiet_step (fail)))
      refine wpQuiet_nil ?_
      intro W2 hw2
      have nn := quiet_end hw2
      clear hw2
      have HB := Lib.hid (hb.trans (nn.mono hb.size))
      go_wp2_with fail
      go_ret
      exact ⟨rfl, HB.out⟩
  · obtain ⟨sb, o, rfl, hB, hc⟩ : ∃ b o, pa = some ⟨b, o, none⟩ ∧ b < w.heap.size ∧ ∀ i (h : i < O.length), PkC w b (o + i * 5) O[i] := by
      rcases h0 with h0 | h0
      · exact absurd h0 hO0
      · exact h0
    have hp : 0 < O.length := List.length_pos_iff.2 hO0
    have g0 := (hc 0 hp).1
    rw [Nat.zero_mul, Nat.add_zero] at g0
    obtain ⟨nm, hnm⟩ : ∃ nm, O[0].1 = nm := ⟨_, rfl⟩
    rw [hnm] at g0
    have HF := Lib.hid (show firstN O = sameN nm O by rw [firstN_head hp, hnm])
    have hpos : (0 : Int) < (O.length : Int) := by omega
    clear hnm h0 hO0
    go_enter Try.func83, Try.ntmps83
    go_wp2_with fail
    go_loopw [3] (fun i wr => ∃ k : Nat, k ≤ O.length ∧ i = .int .i64 (k : Int) ∧ sameN nm O = k + sameN nm (O.drop k) ∧ Below w.heap.size w wr) (fun i _ => O.length - (intOf i).toNat)
    case atStart => exact ⟨0, Nat.zero_le _, rfl, by rw [Nat.zero_add]; rfl, Below.refl _ _⟩
    case round =>
      obtain ⟨k, hk, rfl, he, hb⟩ := hrel
      have HE := Lib.hid he
      clear he
      have v0 := cell_regrown ((hb.cell (p := ⟨sb, o, none⟩) hB).trans g0)
      by_cases hlt : k < O.length
      · have e0 := (hc k hlt).1
        obtain ⟨x, hx⟩ : ∃ x, O[k].1 = x := ⟨_, rfl⟩
        rw [hx] at e0
        have v1 := cell_regrown ((hb.cell (p := ⟨sb, o + k * 5, none⟩) hB).trans e0)
        have HST := Lib.hid (show sameN nm (O.drop k) = if x = nm then sameN nm (O.drop (k + 1)) + 1 else 0 by rw [sameN_step (List.getElem?_eq_getElem hlt), hx])
        have i0 : (0 : Int) ≤ (k : Int) := by omega
        have i1 : (k : Int) < (O.length : Int) := by omega
        clear hx e0
        by_cases hxn : x = nm
        · have hxb : (x == nm) = true := by simp [hxn]
          have HS1 := Lib.hid (HST.out.trans (if_pos hxn))
          clear hxn
          go_wp2_with fail
          refine wp_region_quiet_below (by kernel_rfl) (by kernel_rfl) ?_
          repeat (any_goals (first | go_big_quiet_step (fail) | quiet_step (fail)))
          refine wpQuiet_nil ?_
          intro W2 hw2
          have nn := quiet_end hw2
          clear hw2 v0 v1
          have HB := Lib.hid (hb.trans (nn.mono hb.size))
          go_wp2_with fail
          go_roundw
          case rel => exact ⟨k + 1, by omega, by go_num, by rw [HE.out, HS1.out]; omega, HB.out⟩
          case measure => simp [intOf]; omega
        · have hxb : (x == nm) = false := by rw [beq_eq_false_iff_ne]; exact hxn
          have HS1 := Lib.hid (HST.out.trans (if_neg hxn))
          clear hxn
          go_wp2_with fail
          refine wp_region_quiet_below (by kernel_rfl) (by kernel_rfl) ?_
          repeat (any_goals (first | go_big_quiet_step (fail) | quiet_step (fail)))
          refine wpQuiet_nil ?_
          intro W2 hw2
          have nn := quiet_end hw2
          clear hw2 v0 v1
          have HB := Lib.hid (hb.trans (nn.mono hb.size))
          go_wp2_with fail
          go_ret
          exact ⟨by rw [HF.out, HE.out, HS1.out]; rfl, HB.out⟩
      · obtain rfl : k = O.length := by omega
        have HS1 := Lib.hid (show sameN nm O = O.length by rw [HE.out, List.drop_length]; rfl)
        go_wp2_with fail
        refine wp_region_quiet_below (by kernel_rfl) (by kernel_rfl) ?_
        repeat (any_goals (first | go_big_quiet_step (fail) | quiet_step (fail)))
        refine wpQuiet_nil ?_
        intro W2 hw2
        have nn := quiet_end hw2
        clear hw2 v0
        have HB := Lib.hid (hb.trans (nn.mono hb.size))
        go_wp2_with fail
        go_ret
        exact ⟨by rw [HF.out, HS1.out]; rfl, HB.out⟩
theorem open_step {S : List Rel} {H : List Pk} {k : Nat} {r : Rel} (h : S[k]? = some r) : openL (S.drop k) H = (if openB H r = true then [pkR r] else []) ++ openL (S.drop (k + 1)) H := by
  have hk := (List.getElem?_eq_some_iff.1 h).1
  rw [List.drop_eq_getElem_cons hk, (List.getElem?_eq_some_iff.1 h).2]
  unfold openL
  by_cases hb : openB H r = true
  · rw [if_pos hb, List.filter_cons_of_pos hb]
    rfl
  · rw [if_neg hb, List.filter_cons_of_neg hb]
    rfl

set_option maxRecDepth 100000 in
set_option maxHeartbeats 8000000 in
theorem picksOpen_any (u z : Value) (S : List Rel) (D : List Pk) (w : World) (hl : S.length ≤ 1048576) (hD : D.length ≤ 1048576) (h : RlAt w w.heap.size u S) (h1 : PkAt w w.heap.size z D) :
    Calls Try.prog 50 #[u, z] w fun e w' => ∃ v, e = .returned v ∧ KOwn w' w.heap.size v (openL S D) ∧ Below w.heap.size w w' := by
  obtain ⟨i0, hi, hz0, hz1, hz2⟩ := info_parts infoPick
  obtain ⟨sa, caps, rfl, h0⟩ := id h
  obtain ⟨da, dc, rfl, hx⟩ := id h1
  clear hx
  have H1 := Lib.hid h1
  have KA : Hid (∀ V v x a b c d f, PkAt V V.heap.size (.slice da D.length dc) D → Calls Try.prog 85 #[rels x a b c d f v, .slice da D.length dc] V fun e w' => e = .returned (.bool (!f || heldP D (x, a, b, c, d))) ∧ Below V.heap.size V w') := Lib.hid fun V v x a b c d f g => releaseAllowed_any _ v D x a b c d f V hD g
  clear h h1
  go_enter Try.func50, Try.ntmps50
  go_wp2_with fail
  go_loopw [5, 10] (fun v i wr => ∃ (k : Nat) (L : List Pk), k ≤ S.length ∧ i = .int .i64 (k : Int) ∧ openL S D = L ++ openL (S.drop k) D ∧ L.length ≤ k ∧ KOwn wr w.heap.size v L ∧ Below w.heap.size w wr) (fun _ i _ => S.length - (intOf i).toNat)
  case atStart => exact ⟨0, [], Nat.zero_le _, rfl, rfl, Nat.le_refl _, World.ownsRow_nil _ _ _ _, Below.refl _ _⟩
  case round =>
    obtain ⟨k, L, hk, rfl, he, hL, hown, hb⟩ := hrel
    obtain ⟨va, vc, hv, hx⟩ := id (KOwn.pb hown).at
    subst hv
    clear hx
    have HE := Lib.hid he
    have HO := Lib.hid hown
    clear he hown
    have zb := hb.size
    by_cases hlt : k < S.length
    · rcases h0 with h0 | ⟨sb, o, rfl, hB, hc⟩
      · subst h0
        exact absurd hlt (by simp)
      obtain ⟨x, a, b, c, d, f, P, hxy⟩ : ∃ x a b c d f P, S[k] = (x, (a, b, c, d), f, P) := ⟨_, _, _, _, _, _, _, rfl⟩
      obtain ⟨⟨r0, r1, r2, r3, r4, r5⟩, na, nc, r6, _⟩ := hc k hlt
      rw [hxy] at r0 r1 r2 r3 r4 r5 r6
      simp only at r0 r1 r2 r3 r4 r5 r6
      have e0 := (hb.cell (p := ⟨sb, o + k * 7, none⟩) hB).trans r0
      have e1 := (hb.cell (p := ⟨sb, o + k * 7 + 1, none⟩) hB).trans r1
      have e2 := (hb.cell (p := ⟨sb, o + k * 7 + 2, none⟩) hB).trans r2
      have e3 := (hb.cell (p := ⟨sb, o + k * 7 + 3, none⟩) hB).trans r3
      have e4 := (hb.cell (p := ⟨sb, o + k * 7 + 4, none⟩) hB).trans r4
      have e5 := (hb.cell (p := ⟨sb, o + k * 7 + 5, none⟩) hB).trans r5
      have e6 := (hb.cell (p := ⟨sb, o + k * 7 + 6, none⟩) hB).trans r6
      have HST := Lib.hid (open_step (H := D) (show S[k]? = some (x, (a, b, c, d), f, P) by rw [List.getElem?_eq_getElem hlt, hxy]))
      have i0' : (0 : Int) ≤ (k : Int) := by omega
      have i1 : (k : Int) < (S.length : Int) := by omega
      obtain ⟨w3, hw3⟩ : ∃ V : World, V = wr.alloc (.cells #[.int .i64 x, .int .i64 a, .int .i64 b, .int .i64 c, .int .i64 d, .bool f, .slice na P.length nc] 104) := ⟨_, rfl⟩
      have b3 : Below wr.heap.size wr w3 := by rw [hw3]; exact (Below.refl _ _).alloc (Nat.le_refl _) _
      have z3 : wr.heap.size < w3.heap.size := by rw [hw3]; simp
      have y0 : w3.cell? ⟨wr.heap.size, 0, none⟩ = some (.int .i64 x) := by rw [hw3]; go_simp
      have y1 : w3.cell? ⟨wr.heap.size, 1, none⟩ = some (.int .i64 a) := by rw [hw3]; go_simp
      have y2 : w3.cell? ⟨wr.heap.size, 2, none⟩ = some (.int .i64 b) := by rw [hw3]; go_simp
      have y3 : w3.cell? ⟨wr.heap.size, 3, none⟩ = some (.int .i64 c) := by rw [hw3]; go_simp
      have y4 : w3.cell? ⟨wr.heap.size, 4, none⟩ = some (.int .i64 d) := by rw [hw3]; go_simp
      have y5 : w3.cell? ⟨wr.heap.size, 5, none⟩ = some (.bool f) := by rw [hw3]; go_simp
      have y6 : w3.cell? ⟨wr.heap.size, 6, none⟩ = some (.slice na P.length nc) := by rw [hw3]; go_simp
      have n3 : Below w.heap.size w w3 := hb.trans (b3.mono hb.size)
      have o3 := KOwn.below HO.out b3
      have KH : Hid (∀ V, PkAt V V.heap.size (.slice da D.length dc) D → Calls Try.prog 85 #[rels x a b c d f (.slice na P.length nc), .slice da D.length dc] V fun e w' => e = .returned (.bool (openB D (x, (a, b, c, d), f, P))) ∧ Below V.heap.size V w') := Lib.hid fun V g => KA.out V _ x a b c d f g
      have HO3 := Lib.hid o3
      clear hxy hc r0 r1 r2 r3 r4 r5 r6 o3
      go_upto_region 5 with fail
      rw [← hw3]
      clear hw3 e0 e1 e2 e3 e4 e5 e6
      rcases hh : openB D (x, (a, b, c, d), f, P)
      · rw [hh] at KH HST
        clear hh
        go_wp2_with fail
        refine (KH.out _ (H1.out.stepAt n3)).mono ?_
        rintro e w4 ⟨rfl, hb4⟩
        have m4 := n3.trans (hb4.mono n3.size)
        have o4 := Lib.hid (KOwn.below HO3.out hb4)
        have HR := Lib.hid (show openL S D = L ++ openL (S.drop (k + 1)) D by rw [HE.out, HST.out]; simp)
        clear hb4
        go_wp2_with fail
        go_roundw
        case rel => exact ⟨k + 1, L, by omega, by go_num, HR.out, by omega, o4.out, m4⟩
        case measure => simp [intOf]; omega
      · rw [hh] at KH HST
        clear hh
        go_wp2_with fail
        refine (KH.out _ (H1.out.stepAt n3)).mono ?_
        rintro e w4 ⟨rfl, hb4⟩
        have m4 := n3.trans (hb4.mono n3.size)
        have o4 := KOwn.below HO3.out hb4
        have HO4 := Lib.hid o4
        have HB4 := Lib.hid m4
        have v0 := (hb4.cell (p := ⟨wr.heap.size, 0, none⟩) z3).trans y0
        have v1 := (hb4.cell (p := ⟨wr.heap.size, 1, none⟩) z3).trans y1
        have v2 := (hb4.cell (p := ⟨wr.heap.size, 2, none⟩) z3).trans y2
        have v3 := (hb4.cell (p := ⟨wr.heap.size, 3, none⟩) z3).trans y3
        have v4 := (hb4.cell (p := ⟨wr.heap.size, 4, none⟩) z3).trans y4
        have z4 := m4.size
        have HR := Lib.hid (show openL S D = (L ++ [(x, a, b, c, d)]) ++ openL (S.drop (k + 1)) D by rw [HE.out, HST.out]; simp [pkR])
        clear hb4 m4 o4 y0 y1 y2 y3 y4 y5 y6
        go_wp2_with (at_builtin; refine wpList_append_own _ rfl _ _ 23 rfl w.heap.size 71 i0 (.agg #[.int .i64 0, .int .i64 0, .int .i64 0, .int .i64 0, .int .i64 0]) 5 40 Try.underlying23 hi hz0 hz1 hz2 rfl (by decide) _ _ _ rfl (KOwn.below HO4.out ((Below.refl w4.heap.size w4).alloc (Nat.le_refl _) (.cells #[.int .i64 x, .int .i64 a, .int .i64 b, .int .i64 c, .int .i64 d] 71))) ⟨w4.heap.size, 0, none⟩ 1 1 [.int .i64 x, .int .i64 a, .int .i64 b, .int .i64 c, .int .i64 d] rfl rfl (pick_new w4 x a b c d) (pick_one _ _ _ _ _) (by unfold maxLen; omega) (by omega) (by simp; omega) ?_)
        intro v' w5 hown' hgrow hnn
        have HS := Lib.hid (show KOwn w5 w.heap.size v' (L ++ [(x, a, b, c, d)]) from KOwn.push hown')
        have HB5 := Lib.hid (KOwn.gone HO4.out HB4.out z4 hgrow)
        clear hown' hgrow hnn
        go_wp2_with fail
        go_roundw
        case rel => exact ⟨k + 1, L ++ [(x, a, b, c, d)], by omega, by go_num, HR.out, by simp; omega, HS.out, HB5.out⟩
        case measure => simp [intOf]; omega
    · obtain rfl : k = S.length := by omega
      have HQ := Lib.hid (show openL S D = L by rw [HE.out, List.drop_length]; simp [openL])
      go_wp2_with fail
      go_ret
      exact ⟨_, rfl, by rw [HQ.out]; exact HO.out, hb⟩
end Svp
end Go.Proofs.Ytmhamoeibkpnpaa

/- The contract of the program's search for choices (bestChoices), over this seat's translation: the first ones of those that are fine, the better one first, in rows of their own; nothing that was there before a call has changed. Condition: a shelf, needs and held picks that are fine; at most 30 picks open or made. -/
namespace Go.Proofs.Ytmhamoeibkpnpaa
open Go.RowKit Go.Sort

namespace Svp
open Foot Copy Nup Cpu Cfa Rch
/-- The cells of a row of rows of picks. -/
def REls (w : World) (B : Nat) (cs : List Value) (Ls : List (List Pk)) : Prop := ∀ i (h : i < Ls.length), ∃ z, cs[i]? = some z ∧ KOwn w B z Ls[i]
/-- A row of rows of picks that a call makes. -/
def LOwn (w : World) (B base : Nat) (v : Value) (Ls : List (List Pk)) : Prop := ∃ cs, w.ownsRow base 23 1 v Ls.length cs ∧ REls w B cs Ls
theorem infoRow : (Try.prog.info? 23).map (fun i => (i.zero, i.size, i.bytes)) = some (some (.slice none 0 0), 1, 24) := by kernel_rfl
theorem kown_mono {w : World} {B B' : Nat} {v : Value} {L : List Pk} (h : KOwn w B v L) (hB : B' ≤ B) : KOwn w B' v L :=
  ⟨h.1, by rcases h.2 with h | ⟨g, cap, cur, hv, hb, rest⟩; exact .inl h; exact .inr ⟨g, cap, cur, hv, Nat.le_trans hB hb, rest⟩⟩
theorem REls.below {w w' : World} {B : Nat} {cs : List Value} {Ls : List (List Pk)} (h : REls w B cs Ls) (hb : Below w.heap.size w w') : REls w' B cs Ls := fun i hi => by
  obtain ⟨z, h1, h2⟩ := h i hi
  exact ⟨z, h1, KOwn.below h2 hb⟩
theorem LOwn.below {w w' : World} {B base : Nat} {v : Value} {Ls : List (List Pk)} (h : LOwn w B base v Ls) (hb : Below w.heap.size w w') : LOwn w' B base v Ls := by
  obtain ⟨cs, ⟨hl, ho⟩, he⟩ := h
  refine ⟨cs, ⟨hl, ?_⟩, he.below hb⟩
  rcases ho with hn | ⟨g, cap, cur, hv, hb', hg, rest⟩
  · exact .inl hn
  · exact .inr ⟨g, cap, cur, hv, hb', (hb.block g (Array.getElem?_eq_some_iff.1 hg).1).trans hg, rest⟩
theorem LOwn.mono {w : World} {B base base' : Nat} {v : Value} {Ls : List (List Pk)} (h : LOwn w B base v Ls) (hb : base' ≤ base) : LOwn w B base' v Ls := by
  obtain ⟨cs, ⟨hl, ho⟩, he⟩ := h
  refine ⟨cs, ⟨hl, ?_⟩, he⟩
  rcases ho with hn | ⟨g, cap, cur, hv, hb', rest⟩
  · exact .inl hn
  · exact .inr ⟨g, cap, cur, hv, Nat.le_trans hb hb', rest⟩
theorem LOwn.nil (w : World) (B base : Nat) : LOwn w B base (.slice none 0 0) [] := ⟨[], World.ownsRow_nil _ _ _ _, fun i hi => absurd hi (by simp)⟩
theorem LOwn.form {w : World} {B base : Nat} {v : Value} {Ls : List (List Pk)} (h : LOwn w B base v Ls) : ∃ a c, v = .slice a Ls.length c := by
  obtain ⟨cs, ⟨_, ho⟩, _⟩ := h
  rcases ho with ⟨rfl, hn⟩ | ⟨g, cap, cur, rfl, _⟩
  · exact ⟨none, 0, by rw [hn]⟩
  · exact ⟨_, cap, rfl⟩
/-- Rows of picks and rows of such rows never lie on one block. -/
theorem apart2 {w : World} {B B' n m : Nat} {u v : Value} {cs ds : List Value} (h : w.ownsRow B 71 5 u n cs) (h' : w.ownsRow B' 23 1 v m ds) : u.ownBlock = none ∨ u.ownBlock ≠ v.ownBlock := by
  rcases h.2 with ⟨rfl, _⟩ | ⟨g, cap, cur, rfl, _, hg, _⟩
  · exact .inl rfl
  · right
    intro e
    rcases h'.2 with ⟨rfl, _⟩ | ⟨g', cap', cur', rfl, _, hg', _⟩
    · cases e
    · have e' : some g = some g' := e
      injection e' with e'
      subst e'
      rw [hg] at hg'
      simp at hg'
/-- The cells of a row of rows, for an append of all of it. -/
theorem row_news {w : World} {base n c : Nat} {ao : Option Addr} {cs : List Value} (h : w.ownsRow base 23 1 (.slice ao n c) n cs) : (ao = none → n = 0) ∧ ∀ ad, ao = some ad → ∀ j u, cs[j]? = some u → w.cell? (ad.add j) = some u := by
  refine ⟨fun e => ?_, fun ad e j u hu => ?_⟩
  · rcases h.2 with ⟨_, hn⟩ | ⟨g, cap, cur, hv, _⟩
    · exact hn
    · simp only [Value.slice.injEq] at hv
      rw [e] at hv
      cases hv.1
  · rcases h.2 with ⟨hv, _⟩ | ⟨g, cap, cur, hv, _⟩
    · simp only [Value.slice.injEq] at hv
      rw [e] at hv
      cases hv.1
    · simp only [Value.slice.injEq] at hv
      obtain ⟨ha, _, _⟩ := hv
      rw [e] at ha
      injection ha with ha
      subst ha
      exact World.ownsRow.cells h (g := g) (by rw [e]; rfl) j u hu
theorem rels_ones {w : World} {B : Nat} {cs : List Value} {Ls : List (List Pk)} (h : REls w B cs Ls) (hl : cs.length = Ls.length) : ∀ u ∈ cs, u.oneCell' = true := fun u hu => by
  obtain ⟨j, hj, rfl⟩ := List.getElem_of_mem hu
  obtain ⟨z, h1, h2⟩ := h j (by omega)
  rw [List.getElem?_eq_getElem hj] at h1
  injection h1 with h1
  rw [h1]
  rcases h2.2 with ⟨rfl, _⟩ | ⟨g, cap, cur, rfl, _⟩ <;> rfl
theorem REls.append {w : World} {B : Nat} {cs ds : List Value} {Ls Ms : List (List Pk)} (h : REls w B cs Ls) (hl : cs.length = Ls.length) (h' : REls w B ds Ms) : REls w B (cs ++ ds) (Ls ++ Ms) := fun i hi => by
  by_cases hb : i < Ls.length
  · obtain ⟨z, h1, h2⟩ := h i hb
    exact ⟨z, by rw [List.getElem?_append_left (by omega)]; exact h1, by rw [List.getElem_append_left hb]; exact h2⟩
  · have hi' : i - Ls.length < Ms.length := by rw [List.length_append] at hi; omega
    obtain ⟨z, h1, h2⟩ := h' (i - Ls.length) hi'
    exact ⟨z, by rw [List.getElem?_append_right (by omega), hl]; exact h1, by rw [List.getElem_append_right (by omega)]; exact h2⟩
/-- Two rows of rows joined by an append. -/
theorem LOwn.join {w w' : World} {B base n : Nat} {v v' : Value} {Ls Ms : List (List Pk)} {cs ds : List Value} (ho : w.ownsRow base 23 1 v Ls.length cs) (he : REls w B cs Ls) (hd : REls w B ds Ms) (hn : n = (Ls ++ Ms).length)
    (hown : w'.ownsRow base 23 1 v' n (cs ++ ds)) (hgrow : w.grownBy w' v.ownBlock) : LOwn w' B base v' (Ls ++ Ms) := by
  subst hn
  have kept : ∀ {xs : List Value} {Xs : List (List Pk)}, REls w B xs Xs → REls w' B xs Xs := fun h i hi => by
    obtain ⟨z, h1, h2⟩ := h i hi
    exact ⟨z, h1, World.ownsRow.kept h2 hgrow (apart2 h2 ho)⟩
  have hl : cs.length = Ls.length := by have := ho.1; omega
  exact ⟨_, hown, (kept he).append hl (kept hd)⟩
/-- A row just made of one row of picks. -/
theorem LOwn.one {w V : World} {B : Nat} {z : Value} {L : List Pk} (h : KOwn w B z L) (hV : V.heap = (w.alloc (.cells #[z] 23)).heap) (hb : Below w.heap.size w V) : LOwn V B w.heap.size (.slice (some ⟨w.heap.size, 0, none⟩) 1 1) [L] :=
  ⟨[z], ⟨rfl, .inr ⟨w.heap.size, 1, #[z], rfl, Nat.le_refl _, by rw [hV]; exact heap_alloc_new w _, Nat.le_refl _, by unfold maxLen; omega, rfl, rfl⟩⟩, fun i hi => by
    obtain rfl : i = 0 := by simpa using hi
    exact ⟨z, rfl, KOwn.below h hb⟩⟩
theorem pk_drop {w : World} {B k cap cap' b o : Nat} {S : List Pk} (h : PkAt w B (.slice (some ⟨b, o, none⟩) S.length cap) S) (hk : k ≤ S.length) : PkAt w B (.slice (some ⟨b, o + k * 5, none⟩) (S.length - k) cap') (S.drop k) := by
  obtain ⟨a', c', e, h⟩ := h
  simp only [Value.slice.injEq] at e
  obtain ⟨rfl, _, _⟩ := e
  refine ⟨_, cap', by rw [List.length_drop], ?_⟩
  rcases h with rfl | ⟨b', o', e, hB, hc⟩
  · exact .inl (by simp)
  · injection e with e
    simp only [Addr.mk.injEq] at e
    obtain ⟨rfl, rfl, _⟩ := e
    refine .inr ⟨b, o + k * 5, rfl, hB, fun i hi => ?_⟩
    rw [List.getElem_drop, show o + k * 5 + i * 5 = o + (k + i) * 5 by omega]
    exact hc (k + i) (by simp at hi; omega)
end Svp
end Go.Proofs.Ytmhamoeibkpnpaa

/- The contract of the program's search for choices (bestChoices), over this seat's translation: the first ones of those that are fine, the better one first, in rows of their own; nothing that was there before a call has changed. Condition: a shelf, needs and held picks that are fine; at most 30 picks open or made. -/
namespace Go.Proofs.Ytmhamoeibkpnpaa
open Go.RowKit Go.Sort

namespace Svp
open Foot Copy Nup Cpu Cfa Rch
/-- What is found behind some of the ways to decide a name. -/
def wayL (S : List Rel) (N : List Nd) (H C O : List Pk) (k : Nat) : List (List Pk) := bestL S N H C (O.drop (firstN O)) ++ (((O.take (firstN O)).reverse).take k).flatMap fun q => bestL S N H (C ++ [q]) (O.drop (firstN O))
theorem way_step {S : List Rel} {N : List Nd} {H C O : List Pk} {k i : Nat} {q : Pk} (hk : k + 1 + i = firstN O) (hq : O[i]? = some q) : wayL S N H C O (k + 1) = wayL S N H C O k ++ bestL S N H (C ++ [q]) (O.drop (firstN O)) := by
  have hle := firstN_le O
  have hr : ((O.take (firstN O)).reverse)[k]? = some q := by
    rw [List.getElem?_reverse (by rw [List.length_take]; omega), List.length_take, Nat.min_eq_left hle, show firstN O - 1 - k = i by omega, List.getElem?_take, if_pos (by omega), hq]
  unfold wayL
  rw [List.take_add_one, hr, List.flatMap_append, List.append_assoc]
  simp
theorem way_end {S : List Rel} {N : List Nd} {H C O : List Pk} (hO : O ≠ []) : wayL S N H C O (firstN O) = bestL S N H C O := by
  rcases O with _ | ⟨p, t⟩
  · exact absurd rfl hO
  · rw [best_step]
    unfold wayL
    rw [List.take_of_length_le (by rw [List.length_reverse, List.length_take]; omega)]
def BestPost (B : Nat) (L : List (List Pk)) (w : World) (e : Ending) (w' : World) : Prop := ∃ v, e = .returned v ∧ LOwn w' B w.heap.size v L ∧ Below w.heap.size w w'

end Svp
end Go.Proofs.Ytmhamoeibkpnpaa

/- The contract of the program's Solve, over this seat's translation: the first one of all choices that are fine, in memory of its own, and true, or none; nothing that was there before a call has changed. Condition: at most 1048576 of each row and of what is in it. -/
namespace Go.Proofs.Ytmhamoeibkpnpaa
open Go.RowKit Go.Sort

namespace Svp
open Foot Copy Nup Cpu Cfa Rch Gof Pof
theorem key_names {p q : Rel} (hp : relOk p = true) (hq : relOk q = true) (h : key p < key q) : p.1 ≤ q.1 := by
  have h1 := rk_few (ok_ver hp)
  have h2 := rk_few (ok_ver hq)
  unfold key at h
  omega
theorem sh_mono : ∀ {S : List Rel} {p : Option Rel}, shFrom p S = true → S.Pairwise fun x y => x.1 ≤ y.1
  | [], _, _ => List.Pairwise.nil
  | q :: t, p, h => by
    have hh := h
    simp only [shFrom, Bool.and_eq_true] at h
    refine List.pairwise_cons.2 ⟨fun y hy => ?_, sh_mono h.2.2⟩
    exact key_names h.1 (sh_rel h.2.2 y hy) (after_key t q h.1 h.2.2 y hy)
theorem good_start {S : List Rel} (H : List Pk) (hS : shOk S = true) : Good S H [] (openL S H) := by
  have h := hS
  unfold shOk at h
  rw [Bool.and_eq_true] at h
  refine ⟨fun x hx => by simpa using hx, rfl, fun x hx => by simp at hx, ?_⟩
  unfold openL
  rw [List.pairwise_map]
  exact (sh_mono h.1).filter _
theorem open_len (S : List Rel) (H : List Pk) : (openL S H).length ≤ S.length := by
  unfold openL
  rw [List.length_map]
  exact List.length_filter_le _ _
/-- What Solve answers. -/
def solveL (S : List Rel) (N : List Nd) (H : List Pk) : Option (List Pk) := if (shOk S && (ndOk N && pkOk H)) = true then (bestL S N H [] (openL S H)).head? else none
def SolvePost (r : Option (List Pk)) (w : World) (e : Ending) (w' : World) : Prop := ∃ v, e = .returned (.tuple #[v, .bool r.isSome]) ∧ PB (r.getD []) w.heap.size w'.heap.size v w' ∧ Below w.heap.size w w'

end Svp
end Go.Proofs.Ytmhamoeibkpnpaa

/- The best choice, as plain facts: all that picks can be made up to stands in the order in which choices are better, and every choice that is fine is among it; so the first fine one is the best. Withdrawing what is not in it changes nothing. No condition. -/
namespace Go.Proofs.Ytmhamoeibkpnpaa
open Go.RowKit Go.Sort

namespace Svp
open Foot Copy Nup Cpu Cfa Rch Gof Pof
def pkey (p : Pk) : Int := p.1 * 20000000 + rk p.2.1 p.2.2.1 p.2.2.2.1 p.2.2.2.2
theorem sh_sorted : ∀ {S : List Rel} {p : Option Rel}, shFrom p S = true → S.Pairwise fun x y => key x < key y
  | [], _, _ => List.Pairwise.nil
  | q :: t, p, h => by
    simp only [shFrom, Bool.and_eq_true] at h
    exact List.pairwise_cons.2 ⟨fun y hy => after_key t q h.1 h.2.2 y hy, sh_sorted h.2.2⟩
theorem open_sorted {S : List Rel} (H : List Pk) (hS : shOk S = true) : (openL S H).Pairwise fun x y => pkey x < pkey y := by
  have h := hS
  unfold shOk at h
  rw [Bool.and_eq_true] at h
  unfold openL
  rw [List.pairwise_map]
  exact (sh_sorted h.1).filter _
theorem get_out {L : List Pk} {n : Int} (h : ∀ x ∈ L, ¬ x.1 = n) : pkGet n L = none := by
  rcases hg : pkGet n L with _ | v
  · rfl
  · exact absurd rfl (h _ (get_mem hg))
/-- Names below what is added are as they were. -/
theorem get_low {c o d : List Pk} {n : Int} (hc : pkOk c = true) (hd : pkOk d = true) (h1 : ∀ x ∈ c, x ∈ d) (h2 : ∀ x ∈ d, x ∈ c ++ o) (ho : ∀ y ∈ o, n < y.1) : pkGet n d = pkGet n c := by
  rcases hg : pkGet n c with _ | v
  · refine get_out fun x hx hn => ?_
    rcases List.mem_append.1 (h2 x hx) with k | k
    · subst hn
      have := get_some (lo := 0) hc (n := x.1) (v := x.2) k
      rw [hg] at this
      cases this
    · have := ho x k
      omega
  · exact get_some (lo := 0) hd (h1 _ (get_mem hg))
theorem pbet_skip (A B : List Pk) : ∀ (k : Nat), k ≤ 8 → (∀ n : Nat, n < k → pkGet (n : Int) A = pkGet (n : Int) B) → pbet A B 8 0 = pbet A B (8 - k) (k : Int)
  | 0, _, _ => rfl
  | k + 1, hk, h => by
    have ih := pbet_skip A B k (by omega) fun n hn => h n (by omega)
    have e := h k (by omega)
    rw [ih, pbet_here A B (by omega), e]
    rcases pkGet (k : Int) B with _ | ⟨p, q, r, s⟩
    · rfl
    · simp
/-- One row is better if it has no pick of the first name in which they differ. -/
theorem better_none {A B : List Pk} (hA : pkOk A = true) (hB : pkOk B = true) {k : Nat} (hk : k < 8) (h : ∀ n : Nat, n < k → pkGet (n : Int) A = pkGet (n : Int) B) (h1 : pkGet (k : Int) A = none) {v : V4} (h2 : pkGet (k : Int) B = some v) : pkBetter A B = true := by
  unfold pkBetter
  rw [hA, hB, pbet_skip A B k (by omega) h, pbet_here A B hk, h1, h2]
  rfl
theorem better_newer {A B : List Pk} (hA : pkOk A = true) (hB : pkOk B = true) {k : Nat} (hk : k < 8) (h : ∀ n : Nat, n < k → pkGet (n : Int) A = pkGet (n : Int) B) {a b c d p q r s : Int} (h1 : pkGet (k : Int) A = some (a, b, c, d)) (h2 : pkGet (k : Int) B = some (p, q, r, s)) (va : vOk a b c d = true) (vp : vOk p q r s = true) (hlt : rk p q r s < rk a b c d) : pkBetter A B = true := by
  unfold pkBetter
  rw [hA, hB, pbet_skip A B k (by omega) h, pbet_here A B hk, h1, h2]
  simp only
  rw [if_neg (fun e => by obtain ⟨rfl, rfl, rfl, rfl⟩ := e; omega)]
  unfold vLess vRank
  rw [vp, va, if_pos rfl, if_pos rfl, decide_eq_true hlt]
  rfl
theorem first_name {o : List Pk} {p : Pk} {t : List Pk} (ho : o = p :: t) : ∀ q ∈ o.take (firstN o), q.1 = p.1 := by
  subst ho
  have e : (p :: t).takeWhile (fun q => decide (q.1 = p.1)) ++ (p :: t).dropWhile (fun q => decide (q.1 = p.1)) = p :: t := List.takeWhile_append_dropWhile
  have cut : ∀ {A B l : List Pk}, A ++ B = l → l.take A.length = A := fun {A B l} h => by subst h; simp
  have e1 : (p :: t).take (firstN (p :: t)) = (p :: t).takeWhile (fun q => decide (q.1 = p.1)) := cut e
  intro q hq
  rw [e1] at hq
  have := List.all_eq_true.1 (List.all_takeWhile (l := p :: t) (p := fun q => decide (q.1 = p.1))) q hq
  simpa using this
theorem first_self {p : Pk} {t : List Pk} : p ∈ (p :: t).take (firstN (p :: t)) := by
  have := firstN_pos p t
  rcases h : firstN (p :: t) with _ | m
  · omega
  · simp
/-- All that picks can be made up to stands in the order in which it is better. -/
theorem comps_sorted {S : List Rel} {H : List Pk} (hS : shOk S = true) : ∀ (f : Nat) (c o : List Pk), Good S H c o → (o.Pairwise fun x y => pkey x < pkey y) → (comps f c o).Pairwise fun A B => pkBetter A B = true
  | 0, c, o, _, _ => List.pairwise_singleton _ _
  | f + 1, c, [], _, _ => List.pairwise_singleton _ _
  | f + 1, c, p :: t, h, hs => by
    have hl := h.later
    have hsd : ((p :: t).drop (firstN (p :: t))).Pairwise fun x y => pkey x < pkey y := hs.sublist (List.drop_sublist _ _)
    have hst : ((p :: t).take (firstN (p :: t))).Pairwise fun x y => pkey x < pkey y := hs.sublist (List.take_sublist _ _)
    have hp := first_name (o := p :: t) rfl
    have hfn := first_names h.mono
    have hop : ∀ q ∈ (p :: t).take (firstN (p :: t)), (0 ≤ q.1 ∧ q.1 ≤ 7) ∧ vOk q.2.1 q.2.2.1 q.2.2.2.1 q.2.2.2.2 = true := fun q hq => open_ok hS (h.sub q (List.mem_append_right _ (List.mem_of_mem_take hq)))
    have hop0 := hop p first_self
    obtain ⟨k, hk⟩ : ∃ k : Nat, p.1 = (k : Int) := ⟨p.1.toNat, by omega⟩
    have hk8 : k < 8 := by omega
    -- what begins with c and a pick of the name
    have fact : ∀ q ∈ (p :: t).take (firstN (p :: t)), ∀ d ∈ comps f (c ++ [q]) ((p :: t).drop (firstN (p :: t))), pkOk d = true ∧ pkGet (k : Int) d = some q.2 ∧ ∀ n : Nat, n < k → pkGet (n : Int) d = pkGet (n : Int) c := fun q hq d hd => by
      obtain ⟨m1, m2, m3⟩ := comps_mem hS f (c ++ [q]) _ (h.with' hS hq) d hd
      have hqn := hp q hq
      refine ⟨m3, get_some (lo := 0) m3 (by have := m1 q (List.mem_append_right _ (List.mem_singleton.2 rfl)); rw [← hk, ← hqn]; exact this), fun n hn => ?_⟩
      refine get_low (o := q :: (p :: t).drop (firstN (p :: t))) h.pk m3 (fun x hx => m1 x (List.mem_append_left _ hx)) (fun x hx => by have := m2 x hx; simpa using this) fun y hy => ?_
      rcases List.mem_cons.1 hy with rfl | hy
      · omega
      · have := hfn q hq y hy; omega
    unfold comps
    rw [List.pairwise_append]
    refine ⟨comps_sorted hS f c _ hl hsd, ?_, fun A hA B hB => ?_⟩
    · rw [List.pairwise_flatMap]
      refine ⟨fun q hq => comps_sorted hS f (c ++ [q]) _ (h.with' hS (List.mem_reverse.1 hq)) hsd, ?_⟩
      rw [List.pairwise_reverse]
      refine hst.imp_of_mem fun {x y} hx hy hxy A hA B hB => ?_
      obtain ⟨a1, a2, a3⟩ := fact y hy A hA
      obtain ⟨b1, b2, b3⟩ := fact x hx B hB
      have hx1 := hp x hx
      have hy1 := hp y hy
      unfold pkey at hxy
      exact better_newer (a := y.2.1) (b := y.2.2.1) (c := y.2.2.2.1) (d := y.2.2.2.2) (p := x.2.1) (q := x.2.2.1) (r := x.2.2.2.1) (s := x.2.2.2.2) a1 b1 hk8 (fun n hn => (a3 n hn).trans (b3 n hn).symm) a2 b2 (hop y hy).2 (hop x hx).2 (by omega)
    · obtain ⟨q, hq, hB⟩ := List.mem_flatMap.1 hB
      obtain ⟨b1, b2, b3⟩ := fact q (List.mem_reverse.1 hq) B hB
      obtain ⟨m1, m2, m3⟩ := comps_mem hS f c _ hl A hA
      refine better_none m3 b1 hk8 (fun n hn => (get_low h.pk m3 m1 m2 fun y hy => ?_).trans (b3 n hn).symm) (get_out fun x hx hn => ?_) b2
      · have := hfn p first_self y hy; omega
      · rcases List.mem_append.1 (m2 x hx) with k' | k'
        · have := h.low x k' p List.mem_cons_self; omega
        · have := hfn p first_self x k'; omega
theorem same_picks {A B : List Pk} (hA : pkOk A = true) (hB : pkOk B = true) (h1 : ∀ x ∈ A, x ∈ B) (h2 : ∀ x ∈ B, x ∈ A) : A = B :=
  Pkf.same_rows hA hB fun m _ _ => by
    have := get_low (n := m) (o := []) hB hA h2 (fun x hx => by simpa using h1 x hx) (fun y hy => by simp at hy)
    exact this
/-- Whatever begins with picks and has more of what is open alone is among it. -/
theorem comps_has {S : List Rel} {H : List Pk} (hS : shOk S = true) {d : List Pk} (hd : pkOk d = true) : ∀ (f : Nat) (c o : List Pk), o.length ≤ f → Good S H c o → (∀ x ∈ c, x ∈ d) → (∀ x ∈ d, x ∈ c ++ o) → d ∈ comps f c o
  | 0, c, o, hf, h, h1, h2 => by
    obtain rfl : o = [] := List.eq_nil_of_length_eq_zero (by omega)
    show d ∈ [c]
    rw [same_picks hd h.pk (fun x hx => by simpa using h2 x hx) h1]
    simp
  | f + 1, c, [], hf, h, h1, h2 => by
    show d ∈ [c]
    rw [same_picks hd h.pk (fun x hx => by simpa using h2 x hx) h1]
    simp
  | f + 1, c, p :: t, hf, h, h1, h2 => by
    have hp := first_name (o := p :: t) rfl
    have hpos := firstN_pos p t
    have hlen : ((p :: t).drop (firstN (p :: t))).length ≤ f := by simp at hf ⊢; omega
    have hcut : ∀ x ∈ p :: t, x ∈ (p :: t).take (firstN (p :: t)) ∨ x ∈ (p :: t).drop (firstN (p :: t)) := fun x hx => by
      rw [← List.take_append_drop (firstN (p :: t)) (p :: t)] at hx
      exact List.mem_append.1 hx
    unfold comps
    by_cases hx : ∃ q ∈ (p :: t).take (firstN (p :: t)), q ∈ d
    · obtain ⟨q, hq, hqd⟩ := hx
      refine List.mem_append_right _ (List.mem_flatMap.2 ⟨q, List.mem_reverse.2 hq, comps_has hS hd f (c ++ [q]) _ hlen (h.with' hS hq) (fun x hx => ?_) fun x hx => ?_⟩)
      · rcases List.mem_append.1 hx with k | k
        · exact h1 x k
        · rw [List.mem_singleton.1 k]; exact hqd
      · rcases List.mem_append.1 (h2 x hx) with k | k
        · exact List.mem_append_left _ (List.mem_append_left _ k)
        · rcases hcut x k with k | k
          · have e : x.1 = q.1 := (hp x k).trans (hp q hq).symm
            have ev : x.2 = q.2 := pk_one (lo := 0) (n := x.1) hd hx (by rw [e]; exact hqd)
            have : x = q := Prod.ext e ev
            rw [this]
            exact List.mem_append_left _ (List.mem_append_right _ (List.mem_singleton.2 rfl))
          · exact List.mem_append_right _ k
    · refine List.mem_append_left _ (comps_has hS hd f c _ hlen h.later h1 fun x hxd => ?_)
      rcases List.mem_append.1 (h2 x hxd) with k | k
      · exact List.mem_append_left _ k
      · rcases hcut x k with k | k
        · exact absurd ⟨x, k, hxd⟩ hx
        · exact List.mem_append_right _ k
/-- What is on the shelf and allowed is open. -/
theorem there_open {S : List Rel} {H : List Pk} {x : Pk} (h1 : thereP S x = true) (h2 : allowP S H x = true) : x ∈ openL S H := by
  have ht : 0 ≤ shFind x.1 x.2 0 S := by unfold thereP at h1; simpa using h1
  rcases shFind_range x.1 x.2 S 0 with e | ⟨i, e', hi⟩
  · omega
  obtain ⟨n1, n2⟩ := shFind_hit (k := 0) e' hi
  rw [Nat.zero_add] at e'
  have hb : openB H S[i] = true := by
    unfold allowP goneAt at h2
    rw [e', if_pos (by omega), Int.toNat_natCast, List.getElem?_eq_getElem hi] at h2
    unfold openB
    have : pkR S[i] = x := by unfold pkR; rw [n1, n2]
    rw [this]
    have h3 : (!(S[i].2.2.1 && !heldP H x)) = true := h2
    revert h3
    generalize S[i].2.2.1 = u
    generalize heldP H x = v
    cases u <;> cases v <;> simp
  unfold openL
  exact List.mem_map.2 ⟨S[i], List.mem_filter.2 ⟨List.getElem_mem hi, hb⟩, by unfold pkR; rw [n1, n2]⟩
theorem fine_mem {S : List Rel} {N : List Nd} {H d : List Pk} (h0 : faultF S N H d = 0) : d ∈ bestL S N H [] (openL S H) := by
  have F := Fine.of (.inr h0)
  unfold bestL
  refine List.mem_filter.2 ⟨comps_has F.sh F.pk _ [] _ (Nat.le_refl _) (good_start H F.sh) (fun x hx => by simp at hx) fun x hx => ?_, by simpa using h0⟩
  rw [List.nil_append]
  exact there_open (F.there x hx) (F.allow x hx)
theorem best_sorted {S : List Rel} (N : List Nd) (H : List Pk) (hS : shOk S = true) : (bestL S N H [] (openL S H)).Pairwise fun A B => pkBetter A B = true :=
  (comps_sorted hS _ [] _ (good_start H hS) (open_sorted H hS)).filter _
theorem best_fine {S : List Rel} {N : List Nd} {H d : List Pk} (h : d ∈ bestL S N H [] (openL S H)) : faultF S N H d = 0 := by
  unfold bestL at h
  simpa using (List.mem_filter.1 h).2
theorem solveL_some {S : List Rel} {N : List Nd} {D L : List Pk} (h : solveL S N D = some L) : faultF S N D L = 0 ∧ ∀ d, faultF S N D d = 0 → d = L ∨ pkBetter L d = true := by
  unfold solveL at h
  by_cases hh : (shOk S && (ndOk N && pkOk D)) = true
  · rw [if_pos hh] at h
    simp only [Bool.and_eq_true] at hh
    rcases hb : bestL S N D [] (openL S D) with _ | ⟨x, t⟩
    · rw [hb] at h; cases h
    · rw [hb] at h
      obtain rfl : x = L := by simpa using h
      refine ⟨best_fine (by rw [hb]; exact List.mem_cons_self), fun d hd => ?_⟩
      have hm := fine_mem hd
      have hs := best_sorted N D hh.1
      rw [hb] at hm hs
      rcases List.mem_cons.1 hm with k | k
      · exact .inl k
      · exact .inr ((List.pairwise_cons.1 hs).1 d k)
  · rw [if_neg hh] at h
    cases h
theorem solveL_none {S : List Rel} {N : List Nd} {D : List Pk} (h : solveL S N D = none) (d : List Pk) : ¬ faultF S N D d = 0 := by
  intro h0
  have F := Fine.of (.inr h0)
  have hm := fine_mem h0
  unfold solveL at h
  rw [if_pos (by rw [F.sh, F.nd, F.held]; rfl)] at h
  rw [List.head?_eq_none_iff.1 h] at hm
  simp at hm
/-- What is fine, and not less good than all that is fine, is what is found. -/
theorem solveL_is {S : List Rel} {N : List Nd} {D L : List Pk} (h0 : faultF S N D L = 0) (hb : ∀ d, faultF S N D d = 0 → d = L ∨ pkBetter d L = false) : solveL S N D = some L := by
  rcases h : solveL S N D with _ | B
  · exact absurd h0 (solveL_none h L)
  · obtain ⟨h1, h2⟩ := solveL_some h
    rcases h2 L h0 with k | k
    · rw [k]
    · rcases hb B h1 with k' | k'
      · rw [k']
      · rw [k] at k'; cases k'
theorem solveL_len (S : List Rel) (N : List Nd) (D : List Pk) : ((solveL S N D).getD []).length ≤ 8 := by
  rcases h : solveL S N D with _ | L
  · simp
  · exact pk_len (Fine.of (.inr (solveL_some h).1)).pk
theorem solveL_ok {S : List Rel} {N : List Nd} {D : List Pk} (h : ¬ (shOk S && (ndOk N && pkOk D)) = true) : solveL S N D = none := by
  unfold solveL
  rw [if_neg h]
end Svp
end Go.Proofs.Ytmhamoeibkpnpaa

/- Withdrawing a release that is not in the best choice changes nothing: plain facts. No condition. -/
namespace Go.Proofs.Ytmhamoeibkpnpaa
open Go.RowKit Go.Sort

namespace Svp
open Foot Copy Nup Cpu Cfa Rch Gof Pof
theorem nds_er {S T : List Rel} (h : S.map er = T.map er) (x : Pk) : ndsOf S x = ndsOf T x := by
  unfold ndsOf
  rw [shFind_er x.1 x.2 S T 0 h]
  have e : ∀ i : Nat, (match S[i]? with | some r => r.2.2.2 | none => ([] : List Nd)) = (match T[i]? with | some r => r.2.2.2 | none => []) := fun i => by
    have h1 : (S.map er)[i]? = (T.map er)[i]? := by rw [h]
    rw [List.getElem?_map, List.getElem?_map] at h1
    rcases hs : S[i]? with _ | a <;> rcases ht : T[i]? with _ | b
    · rfl
    · rw [hs, ht] at h1; cases h1
    · rw [hs, ht] at h1; cases h1
    · rw [hs, ht] at h1
      have h2 : er a = er b := by simpa using h1
      exact congrArg (fun z => z.2.2) h2
  by_cases hh : 0 ≤ shFind x.1 x.2 0 T
  · rw [if_pos hh, if_pos hh]
    exact e _
  · rw [if_neg hh, if_neg hh]
theorem there_er {S T : List Rel} (h : S.map er = T.map er) (x : Pk) : thereP S x = thereP T x := by
  unfold thereP
  rw [shFind_er x.1 x.2 S T 0 h]
theorem up_er {S T : List Rel} (h : S.map er = T.map er) {N : List Nd} {C : List Pk} {x : Pk} (hu : Up S N C x) : Up T N C x := by
  induction hu with
  | own h1 h2 h3 => exact .own h1 h2 h3
  | dep h1 h2 h3 h4 ih => exact .dep ih (by rw [← nds_er h]; exact h2) h3 h4
/-- Where what is picked is allowed, shelves of the same releases agree. -/
theorem fault_er {S T : List Rel} (h : S.map er = T.map er) {N : List Nd} {D d : List Pk} (ha : ∀ x ∈ d, allowP S D x = true → allowP T D x = true) (h0 : faultF S N D d = 0) : faultF T N D d = 0 := by
  have F := Fine.of (.inr h0)
  have G : Fine T N D d := ⟨by rw [← shOk_er h]; exact F.sh, F.nd, F.held, F.pk, fun x hx => by rw [← there_er h]; exact F.there x hx, fun x hx => ha x hx (F.allow x hx), F.met, fun x hx n hn => F.inner x hx n (by rw [nds_er h]; exact hn)⟩
  exact G.zero fun x hx => up_er h (F.needed h0 x hx)
theorem gone_get {S : List Rel} {j : Nat} (hj : j < S.length) (i : Nat) (hi : i < S.length) (hi' : i < (goneL S j).length) : (goneL S j)[i].2.2.1 = if j = i then true else S[i].2.2.1 := by
  have e : (goneL S j)[i]? = if j = i then some (S[j].1, S[j].2.1, true, S[j].2.2.2) else S[i]? := by
    unfold goneL
    rw [List.getElem?_eq_getElem hj]
    simp only [List.getElem?_set]
    by_cases h : j = i
    · rw [if_pos h, if_pos h, if_pos hj]
    · rw [if_neg h, if_neg h]
  rw [List.getElem?_eq_getElem hi'] at e
  by_cases h : j = i
  · rw [if_pos h] at e ⊢
    injection e with e
    rw [e]
  · rw [if_neg h, List.getElem?_eq_getElem hi] at e
    rw [if_neg h]
    injection e with e
    rw [e]
theorem gone_at {S : List Rel} {j : Nat} (hj : j < S.length) (x : Pk) : goneAt (goneL S j) x = true ↔ goneAt S x = true ∨ shFind x.1 x.2 0 S = (j : Int) := by
  have he := gone_er hj
  have hl : (goneL S j).length = S.length := by simpa using congrArg List.length he
  unfold goneAt
  rw [shFind_er x.1 x.2 _ S 0 he]
  rcases shFind_range x.1 x.2 S 0 with e | ⟨i, e, hi⟩
  · rw [e, if_neg (by omega), if_neg (by omega)]
    constructor
    · intro h; cases h
    · rintro (h | h)
      · cases h
      · omega
  · rw [Nat.zero_add] at e
    rw [e, if_pos (by omega), if_pos (by omega), Int.toNat_natCast, List.getElem?_eq_getElem hi, List.getElem?_eq_getElem (by omega)]
    simp only
    rw [gone_get hj i hi (by omega)]
    by_cases h : j = i
    · subst h
      rw [if_pos rfl]
      exact ⟨fun _ => .inr rfl, fun _ => rfl⟩
    · rw [if_neg h]
      refine ⟨.inl, ?_⟩
      rintro (k | k)
      · exact k
      · omega
/-- What is found is found without a release that is not in it. -/
theorem solve_gone {S : List Rel} {N : List Nd} {D L : List Pk} {j : Nat} (hj : j < S.length) (h : solveL S N D = some L) (hn : ¬ (S[j].1, S[j].2.1) ∈ L) : solveL (goneL S j) N D = some L := by
  have he := gone_er hj
  obtain ⟨h0, hb⟩ := solveL_some h
  refine solveL_is (fault_er he.symm (fun x hx ha => ?_) h0) fun d hd => ?_
  · unfold allowP at ha ⊢
    rcases hg : goneAt (goneL S j) x with _ | _
    · rfl
    · rcases (gone_at hj x).1 hg with k | k
      · rw [k] at ha; exact ha
      · obtain ⟨n1, n2⟩ := shFind_hit (k := 0) (j := j) (by rw [Nat.zero_add]; exact k) hj
        exact absurd (by rw [n1, n2]; exact hx) hn
  · have hd' : faultF S N D d = 0 := fault_er he (fun x hx ha => by
      unfold allowP at ha ⊢
      rcases hg : goneAt S x with _ | _
      · rfl
      · rw [(gone_at hj x).2 (.inl hg)] at ha
        exact ha) hd
    rcases hb d hd' with k | k
    · exact .inl k
    · right
      have hL := (Fine.of (.inr h0)).pk
      have hdk := (Fine.of (.inr hd)).pk
      have := (Pkf.better_law hL hdk).2
      rw [k, Bool.true_and] at this
      exact this
end Svp
end Go.Proofs.Ytmhamoeibkpnpaa

/- Contract of the model's ShelfNames, over this seat's translation: the names that come up, as the plain function snL tells them, in a row of their own; nothing that was there before the call has changed. Condition: at most 1048576 releases, needs, needs of each release, and spans of those. -/
import Derived.Test.YtgnjhmmedogcoaaNmi
namespace Go.Proofs.Ytgnjhmmedogcoaa
open Go.RowKit Go.Sort

namespace Nup
open Foot Copy
/-- A row of numbers in a block of its own type. -/
def InB (w : World) (v : Value) (P : List Int) : Prop := ∃ a cap, v = .slice a P.length cap ∧ (P = [] ∨ ∃ g n, a = some ⟨g, 0, none⟩ ∧ InBlk w g n P)
theorem InB.of {P : List Int} {lo hi : Nat} {v : Value} {w : World} (h : IB P lo hi v w) : InB w v P := by
  obtain ⟨a, cap, rfl, h⟩ := h
  refine ⟨a, cap, rfl, ?_⟩
  rcases h with h | ⟨g, n, e, hk, _, _⟩
  · exact .inl h
  · exact .inr ⟨g, n, e, hk⟩
theorem InB.below {w w' : World} {v : Value} {P : List Int} (h : InB w v P) (hb : Below w.heap.size w w') : InB w' v P := by
  obtain ⟨a, cap, rfl, h⟩ := h
  refine ⟨a, cap, rfl, ?_⟩
  rcases h with h | ⟨g, n, e, hk⟩
  · exact .inl h
  · exact .inr ⟨g, n, e, hk.kept (hb.block g hk.lt)⟩
theorem InB.flag {w : World} {v : Value} {P : List Int} {g i : Nat} {c : List Bool} {b : Bool} (h : InB w v P) (hf : Fl w g c) : InB (w.setCell ⟨g, i, none⟩ (.bool b)) v P := by
  obtain ⟨a, cap, rfl, h⟩ := h
  refine ⟨a, cap, rfl, ?_⟩
  rcases h with h | ⟨k, n, e, hk⟩
  · exact .inl h
  · refine .inr ⟨k, n, e, hk.kept (Below.heap_setCell _ _ _ _ (by
      show k ≠ g
      intro e
      subst e
      obtain ⟨C, h1, _⟩ := hk
      have hf' : w.heap[k]? = some (.cells (c.map Value.bool).toArray 4 (0, 0)) := hf
      rw [hf'] at h1
      simp at h1))⟩
theorem InB.grown {w w' : World} {v z : Value} {P : List Int} {B n : Nat} {cs : List Value} (h : InB w v P) (ho : w.ownsRow B 59 2 z n cs) (hg : w.grownBy w' z.ownBlock) : InB w' v P := by
  obtain ⟨a, cap, rfl, h⟩ := h
  refine ⟨a, cap, rfl, ?_⟩
  rcases h with h | ⟨k, m, e, hk⟩
  · exact .inl h
  · refine .inr ⟨k, m, e, hk.kept (hg.block k hk.lt fun e => ?_)⟩
    obtain ⟨C, h1, _⟩ := hk
    rcases ho.2 with ⟨rfl, _⟩ | ⟨g', cap', cur, rfl, _, hg', _⟩
    · cases e
    · have e' : some k = some g' := e
      injection e' with e'
      subst e'
      rw [hg'] at h1
      simp at h1
theorem InB.at {w : World} {v : Value} {P : List Int} (h : InB w v P) : InAt w w.heap.size v P := by
  obtain ⟨a, cap, rfl, h⟩ := h
  rcases h with rfl | ⟨g, n, rfl, hk⟩
  · exact ⟨_, _, rfl, .inl rfl⟩
  · have hg := hk.lt
    obtain ⟨C, h, _, _, hc⟩ := hk
    exact ⟨_, _, rfl, .inr ⟨g, 0, rfl, hg, fun i hi => by rw [Nat.zero_add]; exact (cell_of_row w g _ C _ (0, 0) h).trans (hc i hi)⟩⟩
theorem own_int {w : World} {B g : Nat} {v : Value} {n : Nat} {cs : List Value} {c : List Bool} (h : w.ownsRow B 3 1 v n cs) (hf : Fl w g c) : ∀ k, v.ownBlock = some k → k ≠ g := by
  intro k hk e
  subst e
  have hf' : w.heap[k]? = some (.cells (c.map Value.bool).toArray 4 (0, 0)) := hf
  rcases h.2 with ⟨rfl, _⟩ | ⟨g', cap, cur, rfl, hb, hg, _⟩
  · cases hk
  · have hk' : some g' = some k := hk
    injection hk' with hk'
    subst hk'
    rw [hf'] at hg
    simp at hg

/-- Which names below 8 a row of needs has. -/
def seenL (U : List Nd) : List Bool := (List.range 8).map fun (m : Nat) => hasName (m : Int) U
theorem seenL_len (U : List Nd) : (seenL U).length = 8 := by simp [seenL]
theorem seenL_at (U : List Nd) {m : Nat} (h : m < 8) : (seenL U).getD m true = hasName (m : Int) U := by
  rw [List.getD_eq_getElem?_getD]
  simp [seenL, h]
theorem hasName_app (x : Int) (A B : List Nd) : hasName x (A ++ B) = (hasName x A || hasName x B) := by simp [hasName]
theorem seen_next {U : List Nd} {k m : Nat} {L : Sps} (h : U[k]? = some ((m : Int), L)) (hm : m < 8) : (seenL (U.take k)).set m true = seenL (U.take (k + 1)) := by
  have e : U.take (k + 1) = U.take k ++ [((m : Int), L)] := by rw [List.take_add_one, h]; rfl
  rw [e]
  apply List.ext_getElem?
  intro i
  by_cases hi : i < 8
  · by_cases him : i = m
    · subst him
      rw [List.getElem?_set_self (by rw [seenL_len]; exact hi)]
      simp [seenL, hi, hasName]
    · rw [List.getElem?_set_ne (by omega)]
      have hne : ¬ (m : Int) = (i : Int) := by omega
      simp [seenL, hi, hasName, hne]
  · rw [List.getElem?_eq_none (by rw [List.length_set, seenL_len]; omega), List.getElem?_eq_none (by rw [seenL_len]; omega)]

/-- One place that fits. -/
def hitP (S : List Rel) (st : St) (z : Int) : St := match S[z.toNat]? with
  | none => st
  | some x => if (!st.1.getD z.toNat true) = true then (st.1.set z.toNat true, st.2 ++ x.2.2.2) else st
theorem passP_step {S : List Rel} {P : List Int} {p : Nat} {z : Int} (h : P[p]? = some z) (st : St) : passP S (P.drop p) st = passP S (P.drop (p + 1)) (hitP S st z) := by
  have hp : p < P.length := (List.getElem?_eq_some_iff.1 h).1
  rw [List.drop_eq_getElem_cons hp, (List.getElem?_eq_some_iff.1 h).2]
  rfl
theorem hitP_at {S : List Rel} {st : St} {m : Nat} {x : Rel} (hx : S[m]? = some x) : hitP S st (m : Int) = if (!st.1.getD m true) = true then (st.1.set m true, st.2 ++ x.2.2.2) else st := by
  unfold hitP
  rw [Int.toNat_natCast, hx]
theorem hitP_ok {S : List Rel} {N : List Nd} {st : St} {m : Nat} {x : Rel} (h : Ok S N st) (hx : S[m]? = some x) : Ok S N (hitP S st (m : Int)) := by
  rw [hitP_at hx]
  split
  · rename_i hc
    have hf : st.1.getD m true = false := by simpa using hc
    have h1 := rest_set st.1 S m x hf hx
    refine ⟨by simpa using h.flags, ?_, fun q hq => ?_⟩
    · have := h.size
      simp only [List.length_append]
      omega
    · rcases List.mem_append.1 hq with hq | hq
      · exact h.mem q hq
      · exact .inr ⟨x, List.mem_of_getElem? hx, hq⟩
  · exact h
theorem hitP_front {S : List Rel} {st : St} {m : Nat} {x : Rel} {i : Nat} (hx : S[m]? = some x) (hi : i ≤ st.2.length) : (hitP S st (m : Int)).2.take i = st.2.take i ∧ i ≤ (hitP S st (m : Int)).2.length := by
  rw [hitP_at hx]
  split
  · exact ⟨List.take_append_of_le_length hi, by simp; omega⟩
  · exact ⟨rfl, hi⟩
theorem fit_mem (n : Int) (L : Sps) : ∀ (S : List Rel) (j : Nat) (z : Int), z ∈ fitFrom n L j S → ∃ m : Nat, z = (m : Int) ∧ j ≤ m ∧ m < j + S.length
  | [], j, z, h => by simp [fitFrom] at h
  | x :: t, j, z, h => by
    unfold fitFrom at h
    rcases List.mem_append.1 h with h | h
    · split at h
      · exact ⟨j, by simpa using h, Nat.le_refl _, by simp⟩
      · simp at h
    · obtain ⟨m, h1, h2, h3⟩ := fit_mem n L t (j + 1) z h
      exact ⟨m, h1, by omega, by simp; omega⟩
theorem nd_each {M : List Nd} : ∀ {lo : Int}, 0 ≤ lo → ndFrom lo M = true → ∀ q ∈ M, 0 ≤ q.1 ∧ q.1 ≤ 7 ∧ spOk q.2 = true := by
  induction M with
  | nil => intro lo _ _ q h; simp at h
  | cons x t ih =>
    intro lo hlo h q hq
    simp only [ndFrom, Bool.and_eq_true, decide_eq_true_eq] at h
    rcases List.mem_cons.1 hq with rfl | hq
    · exact ⟨by omega, h.1.2, h.2.1⟩
    · exact ih (by omega) h.2.2 q hq
theorem nd_one {M : List Nd} (h : ndOk M = true) : ∀ q ∈ M, 0 ≤ q.1 ∧ q.1 ≤ 7 ∧ ndOk [q] = true := fun q hq => by
  unfold ndOk at h
  rw [Bool.and_eq_true] at h
  obtain ⟨h1, h2, h3⟩ := nd_each (Int.le_refl 0) h.1 q hq
  refine ⟨h1, h2, ?_⟩
  simp [ndOk, ndFrom, h1, h2, h3]
/-- A row of needs that a call has made, as cells to be appended. -/
theorem made_news {W : World} {B cap : Nat} {ao : Option Addr} {M : List Nd} {y : Option Nat} (h : NOwn W B B (.slice ao M.length cap) M) (hy : ∀ c, y = some c → c < B) :
    ∃ news : List Value, news.length = M.length * 2 ∧ (ao = none → M.length = 0) ∧ (∀ ad, ao = some ad → ∀ j u, news[j]? = some u → W.cell? (ad.add j) = some u) ∧ (∀ u ∈ news, u.oneCell' = true) ∧
      (∀ i (h : i < M.length), news[i * 2]? = some (.int .i64 M[i].1) ∧ ∃ a cap, news[i * 2 + 1]? = some (.slice a M[i].2.length cap) ∧ SpX W 0 y (.slice a M[i].2.length cap) M[i].2) := by
  obtain ⟨cs, ho, hc⟩ := h
  have hl := ho.1
  have one : ∀ u ∈ cs, u.oneCell' = true := fun u hu => by
    obtain ⟨j, hj, rfl⟩ := List.getElem_of_mem hu
    obtain ⟨h1, a, c, h2, _⟩ := hc (j / 2) (by omega)
    rcases Nat.mod_two_eq_zero_or_one j with hm | hm
    · rw [show j / 2 * 2 = j by omega, List.getElem?_eq_getElem hj] at h1
      rw [Option.some.inj h1]; rfl
    · rw [show j / 2 * 2 + 1 = j by omega, List.getElem?_eq_getElem hj] at h2
      rw [Option.some.inj h2]; rfl
  have sp : ∀ i (h : i < M.length), cs[i * 2]? = some (.int .i64 M[i].1) ∧ ∃ a cap, cs[i * 2 + 1]? = some (.slice a M[i].2.length cap) ∧ SpX W 0 y (.slice a M[i].2.length cap) M[i].2 := fun i hi => by
    obtain ⟨h1, a, c, h2, a', c', e, h3⟩ := hc i hi
    simp only [Value.slice.injEq] at e
    obtain ⟨rfl, _, rfl⟩ := e
    refine ⟨h1, a, c, h2, a, c, rfl, ?_⟩
    rcases h3 with h3 | ⟨b, o, e, hB, hx, hcc⟩
    · exact .inl h3
    · exact .inr ⟨b, o, e, hB, ⟨Nat.zero_le _, fun e => by have := hy b e; omega⟩, hcc⟩
  rcases ho.2 with ⟨hv, h0⟩ | ⟨g, cap', cur, hv, hb, hg, hnc, hcm, hcs, htk⟩
  · exact ⟨cs, hl, fun _ => h0, fun ad e j u hu => by have := (List.getElem?_eq_some_iff.1 hu).1; omega, one, sp⟩
  · simp only [Value.slice.injEq] at hv
    obtain ⟨rfl, _, rfl⟩ := hv
    refine ⟨cs, hl, (fun e => by cases e), fun ad e j u hu => ?_, one, sp⟩
    cases e
    have hlt := (List.getElem?_eq_some_iff.1 hu).1
    have hadd : (⟨g, 0, none⟩ : Addr).add j = ⟨g, j, none⟩ := by unfold Addr.add; split <;> simp_all
    rw [hadd, cell_of_row W g j cur _ (0, 0) hg]
    rw [← htk, List.getElem?_take, if_pos (by omega)] at hu
    simpa using hu

/-- What the outer loop keeps. -/
def NsRel (S : List Rel) (N : List Nd) (w : World) (gs gd : Nat) (v i : Value) (wr : World) : Prop :=
  ∃ (k : Nat) (st : St), i = .int .i64 (k : Int) ∧ k ≤ st.2.length ∧ Ok S N st ∧ upL S N = run S (200 - k) k st ∧ NOwn wr w.heap.size 0 v st.2 ∧ Fl wr gd st.1 ∧ Fl wr gs (seenL (st.2.take k)) ∧ Below w.heap.size w wr
/-- What the loop over the places keeps. -/
def NsIn (S : List Rel) (N : List Nd) (P : List Int) (w : World) (gs gd k : Nat) (z : Value) (n : Nd) (st : St) (v i : Value) (wr : World) : Prop :=
  ∃ (p : Nat) (s2 : St), i = .int .i64 (p : Int) ∧ p ≤ P.length ∧ k < s2.2.length ∧ Ok S N s2 ∧ pass n 0 S st = passP S (P.drop p) s2 ∧ s2.2.take (k + 1) = st.2.take (k + 1) ∧ NOwn wr w.heap.size 0 v s2.2 ∧ Fl wr gd s2.1 ∧ Fl wr gs (seenL (st.2.take (k + 1))) ∧ InB wr z P ∧ Below w.heap.size w wr
theorem ns_next {S : List Rel} {N : List Nd} {P : List Int} {w wr : World} {gs gd k : Nat} {n : Nd} {st s2 : St} {v : Value} (hk : k < 200) (hn : st.2[k]? = some n) (hu : upL S N = run S (200 - k) k st) (hp : pass n 0 S st = passP S (P.drop P.length) s2) (ht : s2.2.take (k + 1) = st.2.take (k + 1))
    (hl : k < s2.2.length) (ho : Ok S N s2) (hN : NOwn wr w.heap.size 0 v s2.2) (hF : Fl wr gd s2.1) (hG : Fl wr gs (seenL (st.2.take (k + 1)))) (hb : Below w.heap.size w wr) : NsRel S N w gs gd v (.int .i64 ((k : Int) + 1)) wr := by
  refine ⟨k + 1, s2, by go_num, by omega, ho, ?_, hN, hF, by rw [ht]; exact hG, hb⟩
  rw [hu, show 200 - k = (200 - (k + 1)) + 1 by omega, run_step hn, hp, List.drop_length]
  rfl
theorem nsin_next {S : List Rel} {N : List Nd} {P : List Int} {w wr : World} {gs gd k p m : Nat} {z : Value} {n : Nd} {x : Rel} {st s2 : St} {v : Value} (hj : p < P.length) (hz : P[p]? = some (m : Int)) (hx : S[m]? = some x) (hl : k < s2.2.length) (ho : Ok S N s2) (hp : pass n 0 S st = passP S (P.drop p) s2) (ht : s2.2.take (k + 1) = st.2.take (k + 1))
    (hN : NOwn wr w.heap.size 0 v (hitP S s2 (m : Int)).2) (hF : Fl wr gd (hitP S s2 (m : Int)).1) (hG : Fl wr gs (seenL (st.2.take (k + 1)))) (hI : InB wr z P) (hb : Below w.heap.size w wr) : NsIn S N P w gs gd k z n st v (.int .i64 ((p : Int) + 1)) wr := by
  obtain ⟨h1, h2⟩ := hitP_front (st := s2) (i := k + 1) hx hl
  exact ⟨p + 1, hitP S s2 (m : Int), by go_num, by omega, h2, hitP_ok ho hx, by rw [hp, passP_step hz], h1.trans ht, hN, hF, hG, hI, hb⟩
theorem Fl.far {w : World} {g h i : Nat} {c : List Bool} {b : Value} (hf : Fl w g c) (hne : g ≠ h) : Fl (w.setCell ⟨h, i, none⟩ b) g c := hf.kept (Below.heap_setCell _ _ _ _ (by show g ≠ h; exact hne))

end Nup
end Go.Proofs.Ytgnjhmmedogcoaa

/- Contract of the model's ShelfNames, over this seat's translation: the names that come up, as the plain function snL tells them, in a row of their own; nothing that was there before the call has changed. Condition: at most 1048576 releases, needs, needs of each release, and spans of those. -/
import Derived.Test.YtigkfhgmnenplaaNmi
namespace Go.Proofs.Ytigkfhgmnenplaa
open Go.RowKit Go.Sort

namespace Nup
open Foot Copy
/-- A row of numbers in a block of its own type. -/
def InB (w : World) (v : Value) (P : List Int) : Prop := ∃ a cap, v = .slice a P.length cap ∧ (P = [] ∨ ∃ g n, a = some ⟨g, 0, none⟩ ∧ InBlk w g n P)
theorem InB.of {P : List Int} {lo hi : Nat} {v : Value} {w : World} (h : IB P lo hi v w) : InB w v P := by
  obtain ⟨a, cap, rfl, h⟩ := h
  refine ⟨a, cap, rfl, ?_⟩
  rcases h with h | ⟨g, n, e, hk, _, _⟩
  · exact .inl h
  · exact .inr ⟨g, n, e, hk⟩
theorem InB.below {w w' : World} {v : Value} {P : List Int} (h : InB w v P) (hb : Below w.heap.size w w') : InB w' v P := by
  obtain ⟨a, cap, rfl, h⟩ := h
  refine ⟨a, cap, rfl, ?_⟩
  rcases h with h | ⟨g, n, e, hk⟩
  · exact .inl h
  · exact .inr ⟨g, n, e, hk.kept (hb.block g hk.lt)⟩
theorem InB.flag {w : World} {v : Value} {P : List Int} {g i : Nat} {c : List Bool} {b : Bool} (h : InB w v P) (hf : Fl w g c) : InB (w.setCell ⟨g, i, none⟩ (.bool b)) v P := by
  obtain ⟨a, cap, rfl, h⟩ := h
  refine ⟨a, cap, rfl, ?_⟩
  rcases h with h | ⟨k, n, e, hk⟩
  · exact .inl h
  · refine .inr ⟨k, n, e, hk.kept (Below.heap_setCell _ _ _ _ (by
      show k ≠ g
      intro e
      subst e
      obtain ⟨C, h1, _⟩ := hk
      have hf' : w.heap[k]? = some (.cells (c.map Value.bool).toArray 4 (0, 0)) := hf
      rw [hf'] at h1
      simp at h1))⟩
theorem InB.grown {w w' : World} {v z : Value} {P : List Int} {B n : Nat} {cs : List Value} (h : InB w v P) (ho : w.ownsRow B 72 2 z n cs) (hg : w.grownBy w' z.ownBlock) : InB w' v P := by
  obtain ⟨a, cap, rfl, h⟩ := h
  refine ⟨a, cap, rfl, ?_⟩
  rcases h with h | ⟨k, m, e, hk⟩
  · exact .inl h
  · refine .inr ⟨k, m, e, hk.kept (hg.block k hk.lt fun e => ?_)⟩
    obtain ⟨C, h1, _⟩ := hk
    rcases ho.2 with ⟨rfl, _⟩ | ⟨g', cap', cur, rfl, _, hg', _⟩
    · cases e
    · have e' : some k = some g' := e
      injection e' with e'
      subst e'
      rw [hg'] at h1
      simp at h1
theorem InB.at {w : World} {v : Value} {P : List Int} (h : InB w v P) : InAt w w.heap.size v P := by
  obtain ⟨a, cap, rfl, h⟩ := h
  rcases h with rfl | ⟨g, n, rfl, hk⟩
  · exact ⟨_, _, rfl, .inl rfl⟩
  · have hg := hk.lt
    obtain ⟨C, h, _, _, hc⟩ := hk
    exact ⟨_, _, rfl, .inr ⟨g, 0, rfl, hg, fun i hi => by rw [Nat.zero_add]; exact (cell_of_row w g _ C _ (0, 0) h).trans (hc i hi)⟩⟩
theorem own_int {w : World} {B g : Nat} {v : Value} {n : Nat} {cs : List Value} {c : List Bool} (h : w.ownsRow B 3 1 v n cs) (hf : Fl w g c) : ∀ k, v.ownBlock = some k → k ≠ g := by
  intro k hk e
  subst e
  have hf' : w.heap[k]? = some (.cells (c.map Value.bool).toArray 4 (0, 0)) := hf
  rcases h.2 with ⟨rfl, _⟩ | ⟨g', cap, cur, rfl, hb, hg, _⟩
  · cases hk
  · have hk' : some g' = some k := hk
    injection hk' with hk'
    subst hk'
    rw [hf'] at hg
    simp at hg

/-- Which names below 8 a row of needs has. -/
def seenL (U : List Nd) : List Bool := (List.range 8).map fun (m : Nat) => hasName (m : Int) U
theorem seenL_len (U : List Nd) : (seenL U).length = 8 := by simp [seenL]
theorem seenL_at (U : List Nd) {m : Nat} (h : m < 8) : (seenL U).getD m true = hasName (m : Int) U := by
  rw [List.getD_eq_getElem?_getD]
  simp [seenL, h]
theorem hasName_app (x : Int) (A B : List Nd) : hasName x (A ++ B) = (hasName x A || hasName x B) := by simp [hasName]
theorem seen_next {U : List Nd} {k m : Nat} {L : Sps} (h : U[k]? = some ((m : Int), L)) (hm : m < 8) : (seenL (U.take k)).set m true = seenL (U.take (k + 1)) := by
  have e : U.take (k + 1) = U.take k ++ [((m : Int), L)] := by rw [List.take_add_one, h]; rfl
  rw [e]
  apply List.ext_getElem?
  intro i
  by_cases hi : i < 8
  · by_cases him : i = m
    · subst him
      rw [List.getElem?_set_self (by rw [seenL_len]; exact hi)]
      simp [seenL, hi, hasName]
    · rw [List.getElem?_set_ne (by omega)]
      have hne : ¬ (m : Int) = (i : Int) := by omega
      simp [seenL, hi, hasName, hne]
  · rw [List.getElem?_eq_none (by rw [List.length_set, seenL_len]; omega), List.getElem?_eq_none (by rw [seenL_len]; omega)]

/-- One place that fits. -/
def hitP (S : List Rel) (st : St) (z : Int) : St := match S[z.toNat]? with
  | none => st
  | some x => if (!st.1.getD z.toNat true) = true then (st.1.set z.toNat true, st.2 ++ x.2.2.2) else st
theorem passP_step {S : List Rel} {P : List Int} {p : Nat} {z : Int} (h : P[p]? = some z) (st : St) : passP S (P.drop p) st = passP S (P.drop (p + 1)) (hitP S st z) := by
  have hp : p < P.length := (List.getElem?_eq_some_iff.1 h).1
  rw [List.drop_eq_getElem_cons hp, (List.getElem?_eq_some_iff.1 h).2]
  rfl
theorem hitP_at {S : List Rel} {st : St} {m : Nat} {x : Rel} (hx : S[m]? = some x) : hitP S st (m : Int) = if (!st.1.getD m true) = true then (st.1.set m true, st.2 ++ x.2.2.2) else st := by
  unfold hitP
  rw [Int.toNat_natCast, hx]
theorem hitP_ok {S : List Rel} {N : List Nd} {st : St} {m : Nat} {x : Rel} (h : Ok S N st) (hx : S[m]? = some x) : Ok S N (hitP S st (m : Int)) := by
  rw [hitP_at hx]
  split
  · rename_i hc
    have hf : st.1.getD m true = false := by simpa using hc
    have h1 := rest_set st.1 S m x hf hx
    refine ⟨by simpa using h.flags, ?_, fun q hq => ?_⟩
    · have := h.size
      simp only [List.length_append]
      omega
    · rcases List.mem_append.1 hq with hq | hq
      · exact h.mem q hq
      · exact .inr ⟨x, List.mem_of_getElem? hx, hq⟩
  · exact h
theorem hitP_front {S : List Rel} {st : St} {m : Nat} {x : Rel} {i : Nat} (hx : S[m]? = some x) (hi : i ≤ st.2.length) : (hitP S st (m : Int)).2.take i = st.2.take i ∧ i ≤ (hitP S st (m : Int)).2.length := by
  rw [hitP_at hx]
  split
  · exact ⟨List.take_append_of_le_length hi, by simp; omega⟩
  · exact ⟨rfl, hi⟩
theorem fit_mem (n : Int) (L : Sps) : ∀ (S : List Rel) (j : Nat) (z : Int), z ∈ fitFrom n L j S → ∃ m : Nat, z = (m : Int) ∧ j ≤ m ∧ m < j + S.length
  | [], j, z, h => by simp [fitFrom] at h
  | x :: t, j, z, h => by
    unfold fitFrom at h
    rcases List.mem_append.1 h with h | h
    · split at h
      · exact ⟨j, by simpa using h, Nat.le_refl _, by simp⟩
      · simp at h
    · obtain ⟨m, h1, h2, h3⟩ := fit_mem n L t (j + 1) z h
      exact ⟨m, h1, by omega, by simp; omega⟩
theorem nd_each {M : List Nd} : ∀ {lo : Int}, 0 ≤ lo → ndFrom lo M = true → ∀ q ∈ M, 0 ≤ q.1 ∧ q.1 ≤ 7 ∧ spOk q.2 = true := by
  induction M with
  | nil => intro lo _ _ q h; simp at h
  | cons x t ih =>
    intro lo hlo h q hq
    simp only [ndFrom, Bool.and_eq_true, decide_eq_true_eq] at h
    rcases List.mem_cons.1 hq with rfl | hq
    · exact ⟨by omega, h.1.2, h.2.1⟩
    · exact ih (by omega) h.2.2 q hq
theorem nd_one {M : List Nd} (h : ndOk M = true) : ∀ q ∈ M, 0 ≤ q.1 ∧ q.1 ≤ 7 ∧ ndOk [q] = true := fun q hq => by
  unfold ndOk at h
  rw [Bool.and_eq_true] at h
  obtain ⟨h1, h2, h3⟩ := nd_each (Int.le_refl 0) h.1 q hq
  refine ⟨h1, h2, ?_⟩
  simp [ndOk, ndFrom, h1, h2, h3]
/-- A row of needs that a call has made, as cells to be appended. -/
theorem made_news {W : World} {B cap : Nat} {ao : Option Addr} {M : List Nd} {y : Option Nat} (h : NOwn W B B (.slice ao M.length cap) M) (hy : ∀ c, y = some c → c < B) :
    ∃ news : List Value, news.length = M.length * 2 ∧ (ao = none → M.length = 0) ∧ (∀ ad, ao = some ad → ∀ j u, news[j]? = some u → W.cell? (ad.add j) = some u) ∧ (∀ u ∈ news, u.oneCell' = true) ∧
      (∀ i (h : i < M.length), news[i * 2]? = some (.int .i64 M[i].1) ∧ ∃ a cap, news[i * 2 + 1]? = some (.slice a M[i].2.length cap) ∧ SpX W 0 y (.slice a M[i].2.length cap) M[i].2) := by
  obtain ⟨cs, ho, hc⟩ := h
  have hl := ho.1
  have one : ∀ u ∈ cs, u.oneCell' = true := fun u hu => by
    obtain ⟨j, hj, rfl⟩ := List.getElem_of_mem hu
    obtain ⟨h1, a, c, h2, _⟩ := hc (j / 2) (by omega)
    rcases Nat.mod_two_eq_zero_or_one j with hm | hm
    · rw [show j / 2 * 2 = j by omega, List.getElem?_eq_getElem hj] at h1
      rw [Option.some.inj h1]; rfl
    · rw [show j / 2 * 2 + 1 = j by omega, List.getElem?_eq_getElem hj] at h2
      rw [Option.some.inj h2]; rfl
  have sp : ∀ i (h : i < M.length), cs[i * 2]? = some (.int .i64 M[i].1) ∧ ∃ a cap, cs[i * 2 + 1]? = some (.slice a M[i].2.length cap) ∧ SpX W 0 y (.slice a M[i].2.length cap) M[i].2 := fun i hi => by
    obtain ⟨h1, a, c, h2, a', c', e, h3⟩ := hc i hi
    simp only [Value.slice.injEq] at e
    obtain ⟨rfl, _, rfl⟩ := e
    refine ⟨h1, a, c, h2, a, c, rfl, ?_⟩
    rcases h3 with h3 | ⟨b, o, e, hB, hx, hcc⟩
    · exact .inl h3
    · exact .inr ⟨b, o, e, hB, ⟨Nat.zero_le _, fun e => by have := hy b e; omega⟩, hcc⟩
  rcases ho.2 with ⟨hv, h0⟩ | ⟨g, cap', cur, hv, hb, hg, hnc, hcm, hcs, htk⟩
  · exact ⟨cs, hl, fun _ => h0, fun ad e j u hu => by have := (List.getElem?_eq_some_iff.1 hu).1; omega, one, sp⟩
  · simp only [Value.slice.injEq] at hv
    obtain ⟨rfl, _, rfl⟩ := hv
    refine ⟨cs, hl, (fun e => by cases e), fun ad e j u hu => ?_, one, sp⟩
    cases e
    have hlt := (List.getElem?_eq_some_iff.1 hu).1
    have hadd : (⟨g, 0, none⟩ : Addr).add j = ⟨g, j, none⟩ := by unfold Addr.add; split <;> simp_all
    rw [hadd, cell_of_row W g j cur _ (0, 0) hg]
    rw [← htk, List.getElem?_take, if_pos (by omega)] at hu
    simpa using hu

/-- What the outer loop keeps. -/
def NsRel (S : List Rel) (N : List Nd) (w : World) (gs gd : Nat) (v i : Value) (wr : World) : Prop :=
  ∃ (k : Nat) (st : St), i = .int .i64 (k : Int) ∧ k ≤ st.2.length ∧ Ok S N st ∧ upL S N = run S (200 - k) k st ∧ NOwn wr w.heap.size 0 v st.2 ∧ Fl wr gd st.1 ∧ Fl wr gs (seenL (st.2.take k)) ∧ Below w.heap.size w wr
/-- What the loop over the places keeps. -/
def NsIn (S : List Rel) (N : List Nd) (P : List Int) (w : World) (gs gd k : Nat) (z : Value) (n : Nd) (st : St) (v i : Value) (wr : World) : Prop :=
  ∃ (p : Nat) (s2 : St), i = .int .i64 (p : Int) ∧ p ≤ P.length ∧ k < s2.2.length ∧ Ok S N s2 ∧ pass n 0 S st = passP S (P.drop p) s2 ∧ s2.2.take (k + 1) = st.2.take (k + 1) ∧ NOwn wr w.heap.size 0 v s2.2 ∧ Fl wr gd s2.1 ∧ Fl wr gs (seenL (st.2.take (k + 1))) ∧ InB wr z P ∧ Below w.heap.size w wr
theorem ns_next {S : List Rel} {N : List Nd} {P : List Int} {w wr : World} {gs gd k : Nat} {n : Nd} {st s2 : St} {v : Value} (hk : k < 200) (hn : st.2[k]? = some n) (hu : upL S N = run S (200 - k) k st) (hp : pass n 0 S st = passP S (P.drop P.length) s2) (ht : s2.2.take (k + 1) = st.2.take (k + 1))
    (hl : k < s2.2.length) (ho : Ok S N s2) (hN : NOwn wr w.heap.size 0 v s2.2) (hF : Fl wr gd s2.1) (hG : Fl wr gs (seenL (st.2.take (k + 1)))) (hb : Below w.heap.size w wr) : NsRel S N w gs gd v (.int .i64 ((k : Int) + 1)) wr := by
  refine ⟨k + 1, s2, by go_num, by omega, ho, ?_, hN, hF, by rw [ht]; exact hG, hb⟩
  rw [hu, show 200 - k = (200 - (k + 1)) + 1 by omega, run_step hn, hp, List.drop_length]
  rfl
theorem nsin_next {S : List Rel} {N : List Nd} {P : List Int} {w wr : World} {gs gd k p m : Nat} {z : Value} {n : Nd} {x : Rel} {st s2 : St} {v : Value} (hj : p < P.length) (hz : P[p]? = some (m : Int)) (hx : S[m]? = some x) (hl : k < s2.2.length) (ho : Ok S N s2) (hp : pass n 0 S st = passP S (P.drop p) s2) (ht : s2.2.take (k + 1) = st.2.take (k + 1))
    (hN : NOwn wr w.heap.size 0 v (hitP S s2 (m : Int)).2) (hF : Fl wr gd (hitP S s2 (m : Int)).1) (hG : Fl wr gs (seenL (st.2.take (k + 1)))) (hI : InB wr z P) (hb : Below w.heap.size w wr) : NsIn S N P w gs gd k z n st v (.int .i64 ((p : Int) + 1)) wr := by
  obtain ⟨h1, h2⟩ := hitP_front (st := s2) (i := k + 1) hx hl
  exact ⟨p + 1, hitP S s2 (m : Int), by go_num, by omega, h2, hitP_ok ho hx, by rw [hp, passP_step hz], h1.trans ht, hN, hF, hG, hI, hb⟩
theorem Fl.far {w : World} {g h i : Nat} {c : List Bool} {b : Value} (hf : Fl w g c) (hne : g ≠ h) : Fl (w.setCell ⟨h, i, none⟩ b) g c := hf.kept (Below.heap_setCell _ _ _ _ (by show g ≠ h; exact hne))

set_option maxRecDepth 100000 in
set_option maxHeartbeats 16000000 in
theorem specShelfNames_any (v u : Value) (S : List Rel) (N : List Nd) (w : World) (hl : S.length ≤ 1048576) (hq : ∀ q ∈ S, q.2.2.2.length ≤ 1048576 ∧ ∀ p ∈ q.2.2.2, p.2.length ≤ 1048576) (hN : N.length ≤ 1048576) (hNq : ∀ q ∈ N, q.2.length ≤ 1048576) (h : RlAt w w.heap.size v S) (h' : NdAt w w.heap.size u N) :
    Calls Try.prog 30 #[v, u] w (IPost (snL S N) w) := by
  obtain ⟨i0, hi, hz0, hz1, hz2⟩ := info_parts infoNeed
  obtain ⟨j0, hj, hy0, hy1, hy2⟩ := info_parts infoInt
  obtain ⟨sa, caps, rfl, hx⟩ := id h
  obtain ⟨na, ncap, rfl, hy⟩ := id h'
  clear hy
  have H := Lib.hid h
  have H' := Lib.hid h'
  have HX := Lib.hid hx
  clear h h' hx
  have KS : Hid (∀ V, RlAt V V.heap.size (.slice sa S.length caps) S → Calls Try.prog 69 #[.slice sa S.length caps] V fun e w' => e = .returned (.bool (shOk S)) ∧ Below V.heap.size V w') := Lib.hid fun V g => specShelfOk_any _ S V hl hq g
  have KN : Hid (∀ V, NdAt V V.heap.size (.slice na N.length ncap) N → Calls Try.prog 80 #[.slice na N.length ncap] V fun e w' => e = .returned (.bool (ndOk N)) ∧ Below V.heap.size V w') := Lib.hid fun V g => specNeedsOk_any _ N V hN hNq g
  obtain ⟨w1, hw1⟩ : ∃ V : World, V = w.alloc (.cells #[] 3) := ⟨_, rfl⟩
  have b1 : Below w.heap.size w w1 := by rw [hw1]; exact (Below.refl _ _).alloc (Nat.le_refl _) _
  have s1 : w.heap.size + 1 = w1.heap.size := by rw [hw1]; simp
  have o1 : IOwn w1 w.heap.size (.slice (some ⟨w.heap.size, 0, none⟩) 0 0) [] := by
    rw [hw1]
    have := World.ownsRow_made (base := w.heap.size) (e := 3) (size := 1) w #[] 0 (by simp) (by unfold maxLen; omega) rfl
    exact this
  have HO1 := Lib.hid o1
  have HB1 := Lib.hid b1
  clear o1
  have z1 := b1.size
  rcases hs : shOk S
  · rw [hs] at KS
    have HE := Lib.hid (show snL S N = [] by unfold snL; rw [hs]; rfl)
    clear hs KN
    go_enter Try.func30, Try.ntmps30
    go_upto_region 2 with fail
    rw [← hw1]
    clear hw1
    go_wp2_with fail
    refine (KS.out _ (H.out.stepAt b1)).mono ?_
    rintro e w2 ⟨rfl, hb⟩
    go_wp2_with fail
    go_ret
    exact ⟨_, rfl, by rw [HE.out]; exact IOwn.ib (IOwn.below HO1.out hb), b1.trans (hb.mono z1)⟩
  rcases hn : ndOk N
  · rw [hs] at KS
    rw [hn] at KN
    have HE := Lib.hid (show snL S N = [] by unfold snL; rw [hs, hn]; rfl)
    clear hs hn
    go_enter Try.func30, Try.ntmps30
    go_upto_region 2 with fail
    rw [← hw1]
    clear hw1
    go_wp2_with fail
    refine (KS.out _ (H.out.stepAt b1)).mono ?_
    rintro e w2 ⟨rfl, hb⟩
    have n2 := b1.trans (hb.mono z1)
    have o2 := IOwn.below HO1.out hb
    clear hb
    go_wp2_with fail
    refine (KN.out _ (H'.out.stepAt n2)).mono ?_
    rintro e w3 ⟨rfl, hb⟩
    go_wp2_with fail
    go_ret
    exact ⟨_, rfl, by rw [HE.out]; exact IOwn.ib (IOwn.below o2 hb), n2.trans (hb.mono n2.size)⟩
  have hS30 := sh_len hs
  have hN5 := nd_len hn
  have HSN := Lib.hid (sh_needs hs)
  have HNN := Lib.hid hn
  have HSO := Lib.hid hs
  have hq5 : ∀ q ∈ S, q.2.2.2.length ≤ 5 := fun q h => nd_len (HSN.out q h)
  have hall : ∀ {st : St}, Ok S N st → ∀ q ∈ st.2, q.2.length ≤ 1048576 ∧ 0 ≤ q.1 ∧ q.1 ≤ 7 ∧ ndOk [q] = true := fun ho q hm => by
    rcases ho.mem q hm with h | ⟨x, hx, h⟩
    · exact ⟨hNq q h, nd_one HNN.out q h⟩
    · exact ⟨(hq x hx).2 q h, nd_one (HSN.out x hx) q h⟩
  have HE := Lib.hid (show snL S N = nmTo (upL S N) 8 by unfold snL; rw [hs, hn]; rfl)
  have hUl := upL_len hs hn
  have hmk := make_flags S.length (by omega)
  have hmk8 : ∀ V : World, (Instr.makeSlice 107 (.int .i64 8) (.int .i64 8)).run Try.prog V = .ok (.slice (some ⟨V.heap.size, 0, none⟩) 8 8) (V.alloc (.cells (madeCells #[.bool false] 8) 4)) := fun V => make_flags 8 (by omega) V
  rw [hs] at KS
  rw [hn] at KN
  clear hs hn
  go_enter Try.func30, Try.ntmps30
  go_upto_region 2 with fail
  rw [← hw1]
  clear hw1
  go_wp2_with fail
  refine (KS.out _ (H.out.stepAt b1)).mono ?_
  rintro e w2 ⟨rfl, hb⟩
  have n2 := b1.trans (hb.mono z1)
  have o2 := IOwn.below HO1.out hb
  have q2 : w1.heap.size ≤ w2.heap.size := hb.size
  clear hb
  go_wp2_with fail
  refine (KN.out _ (H'.out.stepAt n2)).mono ?_
  rintro e w3 ⟨rfl, hb⟩
  have n3 := n2.trans (hb.mono n2.size)
  have HO3 := Lib.hid (IOwn.below o2 hb)
  have q3 : w2.heap.size ≤ w3.heap.size := hb.size
  clear hb o2
  obtain ⟨w4, hw4⟩ : ∃ V : World, V = w3.alloc (.cells (madeCells #[.bool false] 8) 4) := ⟨_, rfl⟩
  have b4 : Below w3.heap.size w3 w4 := by rw [hw4]; exact (Below.refl _ _).alloc (Nat.le_refl _) _
  have f4 : Fl w4 w3.heap.size (List.replicate 8 false) := by rw [hw4]; exact made_flags 8 w3
  have q4 : w3.heap.size + 1 ≤ w4.heap.size := by rw [hw4]; simp
  go_upto_region 5 with fail
  rw [← hw4]
  clear hw4 hmk8
  have n4 := n3.trans (b4.mono n3.size)
  go_wp2_with fail
  refine (l3Needs_any _ N _ (H'.out.stepAt n4) hN hNq).mono ?_
  rintro e w5 ⟨v5, fs, rfl, g5, hb⟩
  have m5 : Below w3.heap.size w3 w5 := b4.trans (hb.mono b4.size)
  have n5 := n4.trans (hb.mono n4.size)
  have f5 := f4.below hb
  have q5 : w4.heap.size ≤ w5.heap.size := hb.size
  obtain ⟨a5, c5, hv5, hx5⟩ := id g5.own.at
  subst hv5
  clear hx5 hb f4
  have hst : NsRel S N w3 w3.heap.size w5.heap.size (.slice a5 N.length c5) (.int .i64 0) (w5.alloc (.cells (madeCells #[.bool false] (S.length * 1)) 4)) := by
    refine ⟨0, start S N, rfl, Nat.zero_le _, Ok.start hq5, rfl, ?_, made_flags _ _, ?_, m5.alloc (by omega) _⟩
    · obtain ⟨cs, ho, hc⟩ := NOwn.down (g5.own.below ((Below.refl _ _).alloc (Nat.le_refl _) (.cells (madeCells #[.bool false] (S.length * 1)) 4))) (Nat.zero_le _)
      refine ⟨cs, ⟨ho.1, ?_⟩, hc⟩
      rcases ho.2 with hn | ⟨g, cap, cur, hv, hb', rest⟩
      · exact .inl hn
      · exact .inr ⟨g, cap, cur, hv, by omega, rest⟩
    · have e : seenL ((start S N).2.take 0) = List.replicate 8 false := by rw [List.take_zero]; rfl
      rw [e]
      exact f5.below ((Below.refl _ _).alloc (Nat.le_refl _) _)
  rw [Nat.mul_one] at hst
  have HST := Lib.hid hst
  clear hst g5 f5
  go_wp2_with fail
  clear hmk
  go_loopw [7, 9] (fun v i wr => NsRel S N w3 w3.heap.size w5.heap.size v i wr) (fun _ i _ => 200 - (intOf i).toNat)
  case atStart => exact HST.out
  case round =>
    obtain ⟨k, st, rfl, hk, hok, hu, hown, hfl, hse, hb⟩ := hrel
    have hle := hok.le hS30 hN5
    obtain ⟨va, vc, rfl, hat⟩ := id hown.at
    by_cases hlt : k < st.2.length
    · obtain ⟨nm, L, hn⟩ : ∃ nm L, st.2[k] = (nm, L) := ⟨_, _, rfl⟩
      have hn' : st.2[k]? = some (nm, L) := by rw [List.getElem?_eq_getElem hlt, hn]
      have hL := hall hok _ (List.getElem_mem hlt)
      rw [hn] at hL
      obtain ⟨hL1, hL2, hL3, hL4⟩ := hL
      simp only at hL1 hL2 hL3
      obtain ⟨gn, on, hva, hgn, hcn⟩ : ∃ b o, va = some ⟨b, o, none⟩ ∧ b < wr.heap.size ∧ ∀ i (h : i < st.2.length), NdC wr wr.heap.size b (o + i * 2) st.2[i] := by
        rcases hat with hat | hat
        · rw [hat] at hlt; simp at hlt
        · exact hat
      subst hva
      obtain ⟨p0, la, lc, p1, hsp⟩ := hcn k hlt
      rw [hn] at p0 p1 hsp
      simp only at p0 p1 hsp
      obtain ⟨m, rfl⟩ : ∃ m : Nat, nm = (m : Int) := ⟨nm.toNat, by omega⟩
      have hm8 : m < 8 := by omega
      have HU := Lib.hid hu
      have HN' := Lib.hid hn'
      have HOK := Lib.hid hok
      have HSN := Lib.hid (seen_next hn' hm8)
      have g0 := hse.cell (i := m) (by rw [seenL_len]; exact hm8)
      have g1 := hse.frozen (i := m)
      have hgsl := hse.lt
      have ngd : w3.heap.size ≠ w5.heap.size := by omega
      have ngd' : w5.heap.size ≠ w3.heap.size := by omega
      have hgs : gn ≠ w3.heap.size := by
        intro e
        subst e
        have h' : wr.heap[w3.heap.size]? = some (.cells ((seenL (st.2.take k)).map Value.bool).toArray 4 (0, 0)) := hse
        have h2 := (cell_of_row wr _ _ _ _ (0, 0) h').symm.trans p0
        rw [List.getElem?_toArray, List.getElem?_map] at h2
        rcases hcc : (seenL (st.2.take k))[on + k * 2]? with _ | y <;> rw [hcc] at h2 <;> simp at h2
      have HSE := Lib.hid (show Fl (wr.setCell ⟨w3.heap.size, m, none⟩ (.bool true)) w3.heap.size (seenL (st.2.take (k + 1))) by rw [← HSN.out]; exact hse.set true)
      have HFL := Lib.hid (hfl.far (i := m) (b := .bool true) ngd')
      have HOW := Lib.hid (NOwn.flag (i := m) (b := true) hown hse)
      have HBB := Lib.hid (hb.setCell (show w3.heap.size ≤ (⟨w3.heap.size, m, none⟩ : Addr).block from Nat.le_refl _) (.bool true))
      have e0 : (wr.setCell ⟨w3.heap.size, m, none⟩ (.bool true)).cell? ⟨gn, on + k * 2, none⟩ = some (.int .i64 (m : Int)) := (World.cell?_of_block (a := ⟨gn, on + k * 2, none⟩) (Below.heap_setCell _ _ _ _ (by show gn ≠ _; exact hgs))).trans p0
      have e1 : (wr.setCell ⟨w3.heap.size, m, none⟩ (.bool true)).cell? ⟨gn, on + k * 2 + 1, none⟩ = some (.slice la L.length lc) := (World.cell?_of_block (a := ⟨gn, on + k * 2 + 1, none⟩) (Below.heap_setCell _ _ _ _ (by show gn ≠ _; exact hgs))).trans p1
      have HSP := Lib.hid (show SpAt (wr.setCell ⟨w3.heap.size, m, none⟩ (.bool true)) (wr.setCell ⟨w3.heap.size, m, none⟩ (.bool true)).heap.size (.slice la L.length lc) L by
        obtain ⟨a', c', e', hx'⟩ := HOW.out.at
        simp only [Value.slice.injEq] at e'
        obtain ⟨rfl, _, rfl⟩ := e'
        rcases hx' with hx' | ⟨b', o', e', hB', hc'⟩
        · rw [hx'] at hlt; simp at hlt
        · simp only [Option.some.injEq, Addr.mk.injEq, and_true] at e'
          obtain ⟨rfl, rfl⟩ := e'
          obtain ⟨_, a2, c2, h2, h3⟩ := hc' k hlt
          rw [hn] at h2 h3
          rw [e1] at h2
          simp only [Option.some.injEq, Value.slice.injEq] at h2
          obtain ⟨rfl, _, rfl⟩ := h2
          exact h3)
      have KF : Hid (∀ V, RlAt V V.heap.size (.slice sa S.length caps) S → SpAt V V.heap.size (.slice la L.length lc) L → Calls Try.prog 52 #[.slice sa S.length caps, need (m : Int) (.slice la L.length lc)] V (IPost (shFits S (m : Int) L) V)) := Lib.hid fun V g g' => specShelfFits_any _ _ S (m : Int) L V hl hq hL1 g g'
      have HFit := Lib.hid (show shFits S (m : Int) L = fitFrom (m : Int) L 0 S by unfold shFits; rw [HSO.out, hL4]; rfl)
      have hFl := shFits_len S (m : Int) L
      obtain ⟨P, hP⟩ : ∃ P, shFits S (m : Int) L = P := ⟨_, rfl⟩
      rw [hP] at KF HFit hFl
      have i0' : (0 : Int) ≤ (m : Int) := by omega
      have i1 : (m : Int) < 8 := by omega
      have i2 : (0 : Int) ≤ (k : Int) := by omega
      have i3 : (k : Int) < (st.2.length : Int) := by omega
      clear hat hcn hsp hu hn' hok hown hfl hse hn hP p1 HSN
      go_upto_region 11 with fail
      obtain ⟨w6, hw6⟩ : ∃ V : World, V = wr.setCell ⟨w3.heap.size, m, none⟩ (.bool true) := ⟨_, rfl⟩
      rw [← hw6] at HSE HFL HOW HBB e0 e1 HSP ⊢
      clear hw6 p0 g0 g1
      have n6 : Below w.heap.size w w6 := n3.trans (HBB.out.mono n3.size)
      go_wp2_with fail
      refine (KF.out _ (H.out.stepAt n6) HSP.out).mono ?_
      rintro e w7 ⟨z, rfl, hP7, hb7⟩
      have HIN := Lib.hid (show NsIn S N P w3 w3.heap.size w5.heap.size k z ((m : Int), L) st (.slice (some ⟨gn, on, none⟩) st.2.length vc) (.int .i64 0) w7 from
        ⟨0, st, rfl, Nat.zero_le _, hlt, HOK.out, by rw [List.drop_zero, HFit.out]; exact (passP_fits ((m : Int), L) S 0 rfl st).symm, rfl, HOW.out.below hb7, HFL.out.below hb7, HSE.out.below hb7, InB.of hP7, HBB.out.trans (hb7.mono HBB.out.size)⟩)
      obtain ⟨za, zc, rfl, hzx⟩ := id hP7
      clear hb7 hP7 hzx e0 e1
      go_wp2_with fail
      go_loopw [7, 11] (fun v i wx => NsIn S N P w3 w3.heap.size w5.heap.size k (.slice za P.length zc) ((m : Int), L) st v i wx) (fun _ i _ => P.length - (intOf i).toNat)
      case atStart => exact HIN.out
      case round =>
        rename World => wx
        obtain ⟨p, s2, rfl, hp, hks, hok, hpp, htk, hown, hfl, hse, hib, hb⟩ := hrel
        have hle2 := hok.le hS30 hN5
        obtain ⟨vb, vd, rfl, hx2⟩ := id hown.at
        clear hx2
        have HPP := Lib.hid hpp
        have HTK := Lib.hid htk
        have HO2 := Lib.hid hok
        have HW2 := Lib.hid hown
        have HF2 := Lib.hid hfl
        have HS2 := Lib.hid hse
        have HI2 := Lib.hid hib
        have hbz := hb.size
        by_cases hpl : p < P.length
        · obtain ⟨mm, hmm, _, hmS⟩ := fit_mem (m : Int) L S 0 P[p] (by rw [← HFit.out]; exact List.getElem_mem hpl)
          have hmS' : mm < S.length := by omega
          have HZ := Lib.hid (show P[p]? = some (mm : Int) by rw [List.getElem?_eq_getElem hpl, hmm])
          obtain ⟨x, hxx⟩ : ∃ x, S[mm] = x := ⟨_, rfl⟩
          have HXY := Lib.hid (show S[mm]? = some x by rw [List.getElem?_eq_getElem hmS', hxx])
          obtain ⟨zb, zo, hza, hzB, hzc⟩ : ∃ b o, za = some ⟨b, o, none⟩ ∧ b < wx.heap.size ∧ ∀ i (h : i < P.length), wx.cell? ⟨b, o + i, none⟩ = some (.int .i64 P[i]) := by
            obtain ⟨a', c', e', hh⟩ := hib.at
            simp only [Value.slice.injEq] at e'
            obtain ⟨rfl, _, _⟩ := e'
            rcases hh with hh | hh
            · rw [hh] at hpl; simp at hpl
            · exact hh
          subst hza
          have f0 := hzc p hpl
          rw [hmm] at f0
          have hjc : mm < s2.1.length := by rw [hok.flags]; exact hmS'
          have d0 := hfl.cell hjc
          have d1 := hfl.frozen (i := mm)
          have hgl := hfl.lt
          have i4 : (0 : Int) ≤ (p : Int) := by omega
          have i5 : (p : Int) < (P.length : Int) := by omega
          have i6 : (0 : Int) ≤ (mm : Int) := by omega
          have i7 : (mm : Int) < (S.length : Int) := by omega
          have hzg : zb ≠ w5.heap.size := by
            intro e
            subst e
            have h' : wx.heap[w5.heap.size]? = some (.cells (s2.1.map Value.bool).toArray 4 (0, 0)) := hfl
            have h2 := (cell_of_row wx _ _ _ _ (0, 0) h').symm.trans f0
            rw [List.getElem?_toArray, List.getElem?_map] at h2
            rcases hcc : s2.1[zo + p]? with _ | y <;> rw [hcc] at h2 <;> simp at h2
          have hzg' : w5.heap.size ≠ zb := fun e => hzg e.symm
          clear hpp htk hown hse hib hzc hmm hjc
          rcases hcj : s2.1.getD mm true
          · have HH := Lib.hid (show hitP S s2 (mm : Int) = (s2.1.set mm true, s2.2 ++ x.2.2.2) by rw [hitP_at HXY.out, hcj]; rfl)
            rw [hcj] at d0
            clear hcj
            obtain ⟨b, o, hsa, hB, hc⟩ : ∃ b o, sa = some ⟨b, o, none⟩ ∧ b < w.heap.size ∧ ∀ i (h : i < S.length), RlC w w.heap.size b (o + i * 7) S[i] := by
              rcases HX.out with hh | hh
              · rw [hh] at hmS'; simp at hmS'
              · exact hh
            subst hsa
            obtain ⟨M, hM⟩ : ∃ M, x.2.2.2 = M := ⟨_, rfl⟩
            have nx : Below w.heap.size w wx := n3.trans (hb.mono n3.size)
            obtain ⟨_, ad, cap, r6, hs6⟩ := (hc mm hmS').below nx hB
            rw [hxx, hM] at r6 hs6
            have hM1 := hq _ (List.getElem_mem hmS')
            have hM5 := hq5 _ (List.getElem_mem hmS')
            rw [hxx, hM] at hM1 hM5
            have hbg : b ≠ w5.heap.size := by omega
            have hbg' : w5.heap.size ≠ b := by omega
            have n8 : Below w.heap.size w (wx.setCell ⟨w5.heap.size, mm, none⟩ (.bool true)) := nx.setCell (show w.heap.size ≤ (⟨w5.heap.size, mm, none⟩ : Addr).block from n5.size) _
            have m8 : Below w3.heap.size w3 (wx.setCell ⟨w5.heap.size, mm, none⟩ (.bool true)) := hb.setCell (show w3.heap.size ≤ (⟨w5.heap.size, mm, none⟩ : Addr).block from m5.size) _
            have hw5 := n5.size
            have HF8 := Lib.hid (hfl.set (i := mm) true)
            have HS8 := Lib.hid (HS2.out.far (i := mm) (b := .bool true) ngd)
            have HW8 := Lib.hid (NOwn.flag (i := mm) (b := true) HW2.out hfl)
            have HI8 := Lib.hid (InB.flag (i := mm) (b := true) HI2.out hfl)
            have HND := Lib.hid ((hs6.below (show Below w.heap.size wx (wx.setCell ⟨w5.heap.size, mm, none⟩ (.bool true)) from ⟨rfl, rfl, rfl, by simp [World.setCell], fun i hi => Below.heap_setCell _ _ _ _ (by show i ≠ w5.heap.size; omega)⟩)).mono n8.size)
            clear hc hxx hs6 hfl
            go_upto_region 17 with fail
            obtain ⟨w8, hw8⟩ : ∃ V : World, V = wx.setCell ⟨w5.heap.size, mm, none⟩ (.bool true) := ⟨_, rfl⟩
            have r8 : w8.cell? ⟨b, o + mm * 7 + 6, none⟩ = some (.slice ad M.length cap) := by rw [hw8]; exact (World.cell?_of_block (a := ⟨b, o + mm * 7 + 6, none⟩) (Below.heap_setCell _ _ _ _ (by show b ≠ _; exact hbg))).trans r6
            have f8 : w8.cell? ⟨zb, zo + p, none⟩ = some (.int .i64 (mm : Int)) := by rw [hw8]; exact (World.cell?_of_block (a := ⟨zb, zo + p, none⟩) (Below.heap_setCell _ _ _ _ (by show zb ≠ _; exact hzg))).trans f0
            rw [← hw8] at n8 m8 HF8 HS8 HW8 HI8 HND ⊢
            clear hw8 r6 f0 d0 d1
            go_wp2_with fail
            refine (l3Needs_any _ M _ HND.out hM1.1 hM1.2).mono ?_
            rintro e w9 ⟨v9, fs9, rfl, g9, hb9⟩
            have m9 : Below w3.heap.size w3 w9 := m8.trans (hb9.mono m8.size)
            obtain ⟨a9, c9, hv9, hx9⟩ := id g9.own.at
            subst hv9
            clear hx9
            obtain ⟨cs, hown9, hc9⟩ := HW8.out.below hb9
            have hlt8 := HW8.out.lt
            have hlt9 := World.ownsRow.lt hown9
            obtain ⟨news, l1, l2, l3, l4, l5⟩ := made_news (y := (Value.slice vb s2.2.length vd).ownBlock) g9.own (fun c e => (hlt8 c e).2)
            have HC9 := Lib.hid hc9
            have HL5 := Lib.hid l5
            have HF9 := Lib.hid (HF8.out.below hb9)
            have HS9 := Lib.hid (HS8.out.below hb9)
            have HI9 := Lib.hid (HI8.out.below hb9)
            have HNE := Lib.hid (own_ne hown9 HF9.out)
            have HNE2 := Lib.hid (own_ne hown9 HS9.out)
            clear hc9 l5 g9 hb9 r8 f8
            go_wp2_with (at_builtin; refine Ap2.wpList_append _ rfl (.tmp 68) (.tmp 77) 35 rfl w3.heap.size 72 i0 (.agg #[.int .i64 0, .slice none 0 0]) 2 32 Try.underlying35 hi hz0 hz1 hz2 rfl (by decide) _ _ cs rfl hown9 a9 M.length c9 news (by rfl) l1 l2 l3 l4 (by unfold maxLen; omega) (by omega) m9.size ?_)
            intro a7 c7 wz hownz hgrowz hatz
            have nz : Below w3.heap.size w3 wz := Below.grown m9 hgrowz m9.size (fun k e => (hlt9 k e).1)
            have hOz := grow_any hown9 HC9.out HL5.out hownz hgrowz hatz
            have hFz := HF9.out.kept (hgrowz.block _ HF9.out.lt (fun e => HNE.out _ e.symm rfl))
            have hSz := HS9.out.kept (hgrowz.block _ HS9.out.lt (fun e => HNE2.out _ e.symm rfl))
            have hIz := InB.grown HI9.out hown9 hgrowz
            have HR := Lib.hid (nsin_next (w := w3) (N := N) hpl HZ.out HXY.out hks HO2.out HPP.out HTK.out (v := .slice a7 (s2.2.length + M.length) c7) (by rw [HH.out, hM]; exact hOz) (by rw [HH.out]; exact hFz) hSz hIz nz)
            clear hownz hgrowz hatz hown9 hOz hFz hSz hIz
            go_wp2_with fail
            go_roundw
            case rel => exact HR.out
            case measure => simp [intOf]; omega
          · have HH := Lib.hid (show hitP S s2 (mm : Int) = s2 by rw [hitP_at HXY.out, hcj]; rfl)
            rw [hcj] at d0
            clear hcj
            have HR := Lib.hid (nsin_next (w := w3) (N := N) hpl HZ.out HXY.out hks HO2.out HPP.out HTK.out (by rw [HH.out]; exact HW2.out) (by rw [HH.out]; exact hfl) HS2.out HI2.out hb)
            clear hfl
            go_wp2_with fail
            go_roundw
            case rel => exact HR.out
            case measure => simp [intOf]; omega
        · obtain rfl : p = P.length := by omega
          have HR := Lib.hid (ns_next (by omega) HN'.out HU.out HPP.out HTK.out hks HO2.out HW2.out HF2.out HS2.out hb)
          clear hpp htk hok hown hfl hse hib
          go_wp2_with fail
          go_roundw
          case rel => exact HR.out
          case measure => simp [intOf]; omega
    · obtain rfl : k = st.2.length := by omega
      have HEU := Lib.hid (show upL S N = st.2 by rw [hu, run_end (Nat.le_refl _)])
      rw [List.take_length] at hse
      have HSS := Lib.hid hse
      have hnx : Below w.heap.size w wr := n3.trans (hb.mono n3.size)
      have hox : IOwn wr w.heap.size (.slice (some ⟨w.heap.size, 0, none⟩) 0 0) (nmTo st.2 0) := IOwn.below (N := []) HO3.out hb
      have HOX := Lib.hid hox
      have hul : st.2.length ≤ 155 := hle
      clear hok hown hfl hse hu hat hox
      go_wp2_with fail
      go_loopw [5, 12] (fun v i wx => ∃ q : Nat, q ≤ 8 ∧ i = .int .i64 (q : Int) ∧ IOwn wx w.heap.size v (nmTo st.2 q) ∧ Fl wx w3.heap.size (seenL st.2) ∧ Below w.heap.size w wx) (fun _ i _ => 8 - (intOf i).toNat)
      case atStart => exact ⟨0, Nat.zero_le _, rfl, HOX.out, HSS.out, hnx⟩
      case round =>
        rename World => wx
        obtain ⟨q, hq8, rfl, hown, hse, hb2⟩ := hrel
        obtain ⟨ga, gc, hv, hx⟩ := id (IOwn.ib hown).at
        subst hv
        clear hx
        have hnl := nmTo_len st.2 q
        by_cases hlt2 : q < 8
        · have c0 := hse.cell (i := q) (by rw [seenL_len]; exact hlt2)
          rw [seenL_at _ hlt2] at c0
          have j1 : (0 : Int) ≤ (q : Int) := by omega
          have j2 : (q : Int) < 8 := by omega
          have HO := Lib.hid hown
          have HSE := Lib.hid hse
          rcases hh : hasName (q : Int) st.2
          · have HT := Lib.hid (show nmTo st.2 (q + 1) = nmTo st.2 q by show nmTo st.2 q ++ _ = _; rw [hh]; simp)
            rw [hh] at c0
            have HR := Lib.hid (show ∃ k' : Nat, k' ≤ 8 ∧ Value.int .i64 ((q : Int) + 1) = .int .i64 (k' : Int) ∧ IOwn wx w.heap.size (.slice ga (nmTo st.2 q).length gc) (nmTo st.2 k') ∧ Fl wx w3.heap.size (seenL st.2) ∧ Below w.heap.size w wx from ⟨q + 1, by omega, by go_num, by rw [HT.out]; exact HO.out, hse, hb2⟩)
            clear hh hown hse
            go_wp2_with fail
            go_roundw
            case rel => exact HR.out
            case measure => simp [intOf]; omega
          · have HT := Lib.hid (show nmTo st.2 (q + 1) = nmTo st.2 q ++ [(q : Int)] by show nmTo st.2 q ++ _ = _; rw [hh]; simp)
            rw [hh] at c0
            have HNE := Lib.hid (own_int hown hse)
            have z4 := hb2.size
            clear hh hse
            go_wp2_with (at_builtin; refine wpList_append_own _ rfl _ _ 48 rfl w.heap.size 3 j0 (.int .i64 0) 1 8 Try.underlying48 hj hy0 hy1 hy2 rfl (by decide) _ _ _ rfl (hown.below ((Below.refl wx.heap.size wx).alloc (Nat.le_refl _) (.cells #[.int .i64 (q : Int)] 3))) ⟨wx.heap.size, 0, none⟩ 1 1 [.int .i64 (q : Int)] rfl rfl (one_new wx (q : Int)) (one_one _) (by unfold maxLen; omega) (by omega) (by simp; omega) ?_)
            intro v' w5' hown' hgrow hnn
            have hbl : w5'.heap[w3.heap.size]? = wx.heap[w3.heap.size]? := (hgrow.block _ (by have := HSE.out.lt; simp; omega) (fun e => HNE.out _ e.symm rfl)).trans (Below.heap_alloc _ _ _ HSE.out.lt)
            have HR := Lib.hid (show ∃ k' : Nat, k' ≤ 8 ∧ Value.int .i64 ((q : Int) + 1) = .int .i64 (k' : Int) ∧ IOwn w5' w.heap.size v' (nmTo st.2 k') ∧ Fl w5' w3.heap.size (seenL st.2) ∧ Below w.heap.size w w5' from ⟨q + 1, by omega, by go_num, by rw [HT.out]; exact IOwn.push hown', HSE.out.kept hbl, IOwn.gone HO.out hb2 z4 hgrow⟩)
            clear hown' hgrow hnn hown
            go_wp2_with fail
            go_roundw
            case rel => exact HR.out
            case measure => simp [intOf]; omega
        · obtain rfl : q = 8 := by omega
          have HO := Lib.hid hown
          clear hown hse
          go_wp2_with fail
          go_ret
          exact ⟨_, rfl, by rw [HE.out, HEU.out]; exact IOwn.ib HO.out, hb2⟩
end Nup
end Go.Proofs.Ytigkfhgmnenplaa

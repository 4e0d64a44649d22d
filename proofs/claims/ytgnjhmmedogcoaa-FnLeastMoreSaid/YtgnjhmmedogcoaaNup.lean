/- Contract of the program's needsUp, over this seat's translation: the row of needs that comes up beside needs, as the plain function upL tells it; nothing that was there before the call has changed. Condition: at most 30 releases, five needs of each and five needs; 1048576 spans of each. -/
import Derived.Deep.CutRange
import Derived.Test.YtgnjhmmedogcoaaNpu
import Derived.Test.YtgnjhmmedogcoaaGw
import Derived.Test.YtgnjhmmedogcoaaGh
namespace Go.Proofs.Ytgnjhmmedogcoaa
open Go.RowKit Go.Sort

namespace Nup
open Foot Copy
theorem SpX.flag {w : World} {lo g i : Nat} {x : Option Nat} {v : Value} {L : Sps} {c : List Bool} {b : Bool} (h : SpX w lo x v L) (hf : Fl w g c) : SpX (w.setCell ⟨g, i, none⟩ (.bool b)) lo x v L := by
  obtain ⟨a, cap, rfl, h⟩ := h
  refine ⟨a, cap, rfl, ?_⟩
  rcases h with h | ⟨k, o, e, hB, hx, hc⟩
  · exact .inl h
  · by_cases hL : L = []
    · exact .inl hL
    · have hp : 0 < L.length := List.length_pos_iff.2 hL
      have hne : k ≠ g := fun e => by
        subst e
        have h0 := (hc 0 hp).1
        have hf' : w.heap[k]? = some (.cells (c.map Value.bool).toArray 4 (0, 0)) := hf
        rw [cell_of_row w k _ _ _ (0, 0) hf', List.getElem?_toArray, List.getElem?_map] at h0
        rcases hcc : c[o + 0 * 2]? with _ | y <;> rw [hcc] at h0 <;> simp at h0
      have k : ∀ p, (w.setCell ⟨g, i, none⟩ (.bool b)).cell? ⟨k, p, none⟩ = w.cell? ⟨k, p, none⟩ := fun p => World.cell?_of_block (a := ⟨k, p, none⟩) (Below.heap_setCell _ _ _ _ (by show k ≠ g; exact hne))
      exact .inr ⟨_, o, e, by simpa [World.setCell] using hB, hx, fun i hi => ⟨(k _).trans (hc i hi).1, (k _).trans (hc i hi).2⟩⟩
theorem own_ne {w : World} {B g : Nat} {v : Value} {n : Nat} {cs : List Value} {c : List Bool} (h : w.ownsRow B 59 2 v n cs) (hf : Fl w g c) : ∀ k, v.ownBlock = some k → k ≠ g := by
  intro k hk e
  subst e
  have hf' : w.heap[k]? = some (.cells (c.map Value.bool).toArray 4 (0, 0)) := hf
  rcases h.2 with ⟨rfl, _⟩ | ⟨g', cap, cur, rfl, hb, hg, _⟩
  · cases hk
  · have hk' : some g' = some k := hk
    injection hk' with hk'
    subst hk'
    rw [hf'] at hg
    simp at hg
theorem NOwn.flag {w : World} {B lo g i : Nat} {v : Value} {M : List Nd} {c : List Bool} {b : Bool} (h : NOwn w B lo v M) (hf : Fl w g c) : NOwn (w.setCell ⟨g, i, none⟩ (.bool b)) B lo v M := by
  obtain ⟨cs, ho, hc⟩ := h
  refine ⟨cs, own_kept ho fun k hk => Below.heap_setCell _ _ _ _ (by show k ≠ g; exact own_ne ho hf k hk), fun i hi => ?_⟩
  obtain ⟨h1, a, cap, h2, h3⟩ := hc i hi
  exact ⟨h1, a, cap, h2, SpX.flag h3 hf⟩
theorem NOwn.down {w : World} {B lo lo' : Nat} {v : Value} {M : List Nd} (h : NOwn w B lo v M) (hl : lo' ≤ lo) : NOwn w B lo' v M := by
  obtain ⟨cs, ho, hc⟩ := h
  refine ⟨cs, ho, fun i hi => ?_⟩
  obtain ⟨h1, a, cap, h2, h3⟩ := hc i hi
  exact ⟨h1, a, cap, h2, h3.down hl⟩
/-- A row of needs that lies elsewhere, as cells to be appended. -/
theorem need_cells {W : World} {B cap : Nat} {ao : Option Addr} {M : List Nd} {x : Option Nat} (h : NdAt W B (.slice ao M.length cap) M) (hB : B ≤ W.heap.size) (hx : ∀ c, x = some c → B ≤ c) :
    ∃ news : List Value, news.length = M.length * 2 ∧ (ao = none → M.length = 0) ∧ (∀ ad, ao = some ad → ∀ j u, news[j]? = some u → W.cell? (ad.add j) = some u) ∧ (∀ u ∈ news, u.oneCell' = true) ∧
      (∀ i (h : i < M.length), news[i * 2]? = some (.int .i64 M[i].1) ∧ ∃ a cap, news[i * 2 + 1]? = some (.slice a M[i].2.length cap) ∧ SpX W 0 x (.slice a M[i].2.length cap) M[i].2) := by
  obtain ⟨a', c', e, h⟩ := h
  simp only [Value.slice.injEq] at e
  obtain ⟨rfl, _, _⟩ := e
  rcases h with rfl | ⟨b, o, rfl, hb, hc⟩
  · exact ⟨[], rfl, fun _ => rfl, fun ad _ j u hu => by simp at hu, by simp, fun i hi => absurd hi (by simp)⟩
  have hlen : (rowCells W b o (M.length * 2)).length = M.length * 2 := by simp [rowCells]
  have each : ∀ j, j < M.length * 2 → ∃ u, W.cell? ⟨b, o + j, none⟩ = some u ∧ u.oneCell' = true := fun j hj => by
    have hi : j / 2 < M.length := by omega
    obtain ⟨c0, a, cap, c1, _⟩ := hc (j / 2) hi
    rcases Nat.mod_two_eq_zero_or_one j with hm | hm
    · exact ⟨_, by rw [show o + j = o + j / 2 * 2 by omega]; exact c0, rfl⟩
    · exact ⟨_, by rw [show o + j = o + j / 2 * 2 + 1 by omega]; exact c1, rfl⟩
  refine ⟨rowCells W b o (M.length * 2), hlen, (fun e => by cases e), fun ad e j u hu => ?_, fun u hu => ?_, fun i hi => ?_⟩
  · cases e
    have hj : j < M.length * 2 := by have := (List.getElem?_eq_some_iff.1 hu).1; omega
    have hadd : (⟨b, o, none⟩ : Addr).add j = ⟨b, o + j, none⟩ := by unfold Addr.add; split <;> simp_all
    obtain ⟨z, hz, _⟩ := each j hj
    rw [rowCells_at hj, hz] at hu
    rw [hadd, hz]
    exact hu
  · obtain ⟨j, hj, rfl⟩ := List.getElem_of_mem hu
    have hj' : j < M.length * 2 := by omega
    obtain ⟨z, hz, h1⟩ := each j hj'
    have := rowCells_at (w := W) (b := b) (o := o) hj'
    rw [List.getElem?_eq_getElem hj, hz] at this
    rw [Option.some.inj this]
    exact h1
  · obtain ⟨c0, a, cap, c1, hs⟩ := hc i hi
    refine ⟨?_, a, cap, ?_, SpX.of hs hB hx⟩
    · rw [rowCells_at (by omega), c0]; rfl
    · rw [rowCells_at (by omega), show o + (i * 2 + 1) = o + i * 2 + 1 by omega, c1]; rfl

/-- What the outer loop keeps. -/
def UpRel (S : List Rel) (N : List Nd) (w : World) (g : Nat) (v i : Value) (wr : World) : Prop :=
  ∃ (k : Nat) (st : St), i = .int .i64 (k : Int) ∧ k ≤ st.2.length ∧ Ok S N st ∧ upL S N = run S (200 - k) k st ∧ NOwn wr w.heap.size 0 v st.2 ∧ Fl wr g st.1 ∧ Below w.heap.size w wr
/-- What the inner loop keeps. -/
def UpIn (S : List Rel) (N : List Nd) (w : World) (g k : Nat) (n : Nd) (st : St) (v i : Value) (wr : World) : Prop :=
  ∃ (j : Nat) (s2 : St), i = .int .i64 (j : Int) ∧ j ≤ S.length ∧ k < s2.2.length ∧ Ok S N s2 ∧ pass n 0 S st = pass n j (S.drop j) s2 ∧ s2.2[k]? = some n ∧ NOwn wr w.heap.size 0 v s2.2 ∧ Fl wr g s2.1 ∧ Below w.heap.size w wr
theorem up_next {S : List Rel} {N : List Nd} {w wr : World} {g k : Nat} {n : Nd} {st s2 : St} {v : Value} (hk : k < 200) (hn : st.2[k]? = some n) (hu : upL S N = run S (200 - k) k st) (hp : pass n 0 S st = pass n S.length (S.drop S.length) s2)
    (hl : k < s2.2.length) (ho : Ok S N s2) (hN : NOwn wr w.heap.size 0 v s2.2) (hF : Fl wr g s2.1) (hb : Below w.heap.size w wr) : UpRel S N w g v (.int .i64 ((k : Int) + 1)) wr := by
  refine ⟨k + 1, s2, by go_num, by omega, ho, ?_, hN, hF, hb⟩
  rw [hu, show 200 - k = (200 - (k + 1)) + 1 by omega, run_step hn, hp, List.drop_length]
  rfl
theorem in_next {S : List Rel} {N : List Nd} {w wr : World} {g k j : Nat} {n : Nd} {x : Rel} {st s2 : St} {v : Value} (hj : j < S.length) (hx : S[j]? = some x) (hl : k < s2.2.length) (ho : Ok S N s2) (hp : pass n 0 S st = pass n j (S.drop j) s2) (hn : s2.2[k]? = some n)
    (hN : NOwn wr w.heap.size 0 v (hit n s2 j x).2) (hF : Fl wr g (hit n s2 j x).1) (hb : Below w.heap.size w wr) : UpIn S N w g k n st v (.int .i64 ((j : Int) + 1)) wr := by
  obtain ⟨h1, h2⟩ := hit_front (n := n) (j := j) (x := x) (st := s2) (i := k + 1) hl
  refine ⟨j + 1, hit n s2 j x, by go_num, by omega, h2, ho.hit n hx, by rw [hp, pass_step hx], ?_, hN, hF, hb⟩
  have e : (hit n s2 j x).2[k]? = ((hit n s2 j x).2.take (k + 1))[k]? := by rw [List.getElem?_take, if_pos (by omega)]
  rw [e, h1, List.getElem?_take, if_pos (by omega)]
  exact hn
theorem hit_no {n : Nd} {st : St} {j : Nat} {x : Rel} (h : st.1.getD j true = true ∨ fitB n.1 n.2 x = false) : hit n st j x = st := by
  unfold hit
  rw [if_neg]
  rw [Bool.and_eq_true]
  rintro ⟨h1, h2⟩
  rcases h with h | h
  · rw [h] at h1; cases h1
  · rw [h] at h2; cases h2
theorem hit_yes {n : Nd} {st : St} {j : Nat} {x : Rel} (h : st.1.getD j true = false) (h' : fitB n.1 n.2 x = true) : hit n st j x = (st.1.set j true, st.2 ++ x.2.2.2) := by
  unfold hit
  rw [if_pos]
  rw [h, h']
  rfl

end Nup
end Go.Proofs.Ytgnjhmmedogcoaa

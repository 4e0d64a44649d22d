/- Rows of spans that a function grows by append, over this seat's translation: what it is for a value to own such a row; and the contract of the program's spansNot. Nothing that was there before the call has changed. Condition: the row is in order, at most 1048576 spans. -/
import Derived.Test.YtdjnfmekbjmdhaaRl
import Derived.Test.YtdjnfmekbjmdhaaSpto
import Derived.WalkKit
namespace Go.Proofs.Ytdjnfmekbjmdhaa
open Go.RowKit Go.Sort

/-- The cells of a row of spans. -/
def flat : List (Int × Int) → List Value
  | [] => []
  | (a, b) :: t => .int .i64 a :: .int .i64 b :: flat t
theorem flat_len : ∀ L : List (Int × Int), (flat L).length = L.length * 2
  | [] => rfl
  | (_, _) :: t => by simp [flat, flat_len t]; omega
theorem flat_append : ∀ L M : List (Int × Int), flat (L ++ M) = flat L ++ flat M
  | [], _ => rfl
  | (_, _) :: t, M => by simp [flat, flat_append t M]
theorem flat_at : ∀ (L : List (Int × Int)) (i : Nat) (h : i < L.length), (flat L)[i * 2]? = some (.int .i64 L[i].1) ∧ (flat L)[i * 2 + 1]? = some (.int .i64 L[i].2)
  | (a, b) :: t, 0, _ => ⟨rfl, rfl⟩
  | (a, b) :: t, i + 1, h => by
    have := flat_at t i (by simpa using h)
    rw [show (i + 1) * 2 = i * 2 + 1 + 1 by omega]
    simpa [flat] using this

/-- A row that a call has grown. -/
abbrev Owns (w : World) (base : Nat) (v : Value) (L : List (Int × Int)) : Prop := w.ownsRow base 128 2 v L.length (flat L)

/-- A slice value whose spans are L: none of its own memory, or a row that is new since w. -/
def SRes (L : List (Int × Int)) (base : Nat) (v : Value) (w' : World) : Prop :=
  ∃ a cap, v = .slice a L.length cap ∧ (L = [] ∨ ∃ g n, a = some ⟨g, 0, none⟩ ∧ SpBlk w' g n L ∧ base ≤ g)
theorem SRes.at {L : List (Int × Int)} {base : Nat} {v : Value} {w : World} (h : SRes L base v w) : SpAt w w.heap.size v L := by
  obtain ⟨a, cap, rfl, h⟩ := h
  rcases h with rfl | ⟨g, n, rfl, hb, _⟩
  · exact ⟨_, _, rfl, .inl rfl⟩
  · exact hb.at hb.lt
theorem SRes.kept {L : List (Int × Int)} {base : Nat} {v : Value} {w w' : World} (h : SRes L base v w) (hb : ∀ g, base ≤ g → g < w.heap.size → w'.heap[g]? = w.heap[g]?) : SRes L base v w' := by
  obtain ⟨a, cap, rfl, h⟩ := h
  refine ⟨_, _, rfl, ?_⟩
  rcases h with h | ⟨g, n, rfl, hk, hg⟩
  · exact .inl h
  · exact .inr ⟨g, n, rfl, hk.kept (hb g hg hk.lt), hg⟩
theorem SRes.below {L : List (Int × Int)} {base : Nat} {v : Value} {w w' : World} (h : SRes L base v w) (hb : Below w.heap.size w w') : SRes L base v w' := h.kept fun g _ hl => hb.block g hl
theorem SRes.mono {L : List (Int × Int)} {base base' : Nat} {v : Value} {w : World} (h : SRes L base v w) (hb : base' ≤ base) : SRes L base' v w := by
  obtain ⟨a, cap, rfl, h⟩ := h
  refine ⟨_, _, rfl, ?_⟩
  rcases h with h | ⟨g, n, rfl, hk, hg⟩
  · exact .inl h
  · exact .inr ⟨g, n, rfl, hk, by omega⟩

theorem Owns.res {w : World} {base : Nat} {v : Value} {L : List (Int × Int)} (h : Owns w base v L) : SRes L base v w := by
  obtain ⟨_, ⟨rfl, hn⟩ | ⟨g, cap, cur, rfl, hb, hg, hnc, hcm, hcs, htk⟩⟩ := h
  · obtain rfl : L = [] := List.eq_nil_of_length_eq_zero hn
    exact ⟨none, 0, rfl, .inl rfl⟩
  · refine ⟨some ⟨g, 0, none⟩, cap, rfl, .inr ⟨g, cap, rfl, ⟨cur, hg, hcs, hnc, fun i hi => ?_⟩, hb⟩⟩
    obtain ⟨h1, h2⟩ := flat_at L i hi
    rw [← htk, List.getElem?_take] at h1 h2
    rw [if_pos (by omega)] at h1 h2
    exact ⟨by rw [← h1]; simp, by rw [← h2]; simp⟩

theorem Owns.push {w : World} {base : Nat} {v : Value} {L : List (Int × Int)} {x y : Int} (h : w.ownsRow base 128 2 v (L.length + 1) (flat L ++ [.int .i64 x, .int .i64 y])) : Owns w base v (L ++ [(x, y)]) := by
  show w.ownsRow base 128 2 v (L ++ [(x, y)]).length (flat (L ++ [(x, y)]))
  rw [flat_append, List.length_append]
  exact h

theorem two_cells {w : World} {g : Nat} {x y : Value} {C : Array Value} (h : w.heap[g]? = some (.cells C 128 (0, 0))) (hC : C = #[x, y]) :
    ∀ j u, [x, y][j]? = some u → w.cell? ((⟨g, 0, none⟩ : Addr).add j) = some u := by
  subst hC
  intro j u hu
  have hadd : (⟨g, 0, none⟩ : Addr).add j = ⟨g, j, none⟩ := by unfold Addr.add; split <;> simp_all
  rw [hadd, cell_of_row w g j _ _ (0, 0) h]
  match j, hu with
  | 0, hu => exact hu
  | 1, hu => exact hu
theorem two_new (w : World) (A : Obj) (x y : Int) : ∀ j u, [Value.int .i64 x, .int .i64 y][j]? = some u → ((w.alloc A).alloc (.cells #[.int .i64 x, .int .i64 y] 128)).cell? ((⟨w.heap.size + 1, 0, none⟩ : Addr).add j) = some u := by
  have h := heap_alloc_new (w.alloc A) (.cells #[.int .i64 x, .int .i64 y] 128)
  rw [show (w.alloc A).heap.size = w.heap.size + 1 by simp] at h
  exact two_cells h rfl
theorem two_new0 (w : World) (x y : Int) : ∀ j u, [Value.int .i64 x, .int .i64 y][j]? = some u → (w.alloc (.cells #[.int .i64 x, .int .i64 y] 128)).cell? ((⟨w.heap.size, 0, none⟩ : Addr).add j) = some u :=
  two_cells (heap_alloc_new w (.cells #[.int .i64 x, .int .i64 y] 128)) rfl
theorem two_one (x y : Int) : ∀ u ∈ [Value.int .i64 x, .int .i64 y], u.oneCell' = true := by
  intro u hu
  simp at hu
  rcases hu with rfl | rfl <;> rfl

theorem Owns.gone {w wr w1 : World} {B : Nat} {v : Value} {L : List (Int × Int)} {o : Obj} (h : Owns wr B v L) (hb : Below B w wr) (hB : B ≤ wr.heap.size) (hg : (wr.alloc o).grownBy w1 v.ownBlock) : Below B w w1 :=
  (hb.alloc hB o).grown hg (by simp; omega) fun k hk => ((World.ownsRow.lt h) k hk).1

/-- What the loop of spansNot keeps. -/
def NotRel (L : List (Int × Int)) (w : World) (v lo i : Value) (wr : World) : Prop :=
  ∃ (k : Nat) (low : Int) (G : List (Int × Int)), k ≤ L.length ∧ i = .int .i64 (k : Int) ∧ lo = .int .i64 low ∧ 0 ≤ low ∧ low ≤ 10000000 ∧ Wf low (L.drop k) ∧ notL L = G ++ notFrom low (L.drop k) ∧ G.length ≤ k ∧
    Owns wr w.heap.size v G ∧ Below w.heap.size w wr

theorem drop_at {L : List (Int × Int)} {k : Nat} {x y : Int} (h : L[k]? = some (x, y)) : L.drop k = (x, y) :: L.drop (k + 1) := by
  have hk : k < L.length := (List.getElem?_eq_some_iff.1 h).1
  rw [List.drop_eq_getElem_cons hk, (List.getElem?_eq_some_iff.1 h).2]

theorem not_yes {L G : List (Int × Int)} {w wr : World} {v : Value} {k : Nat} {x y low : Int} (hL : L[k]? = some (x, y)) (hw : Wf low (L.drop k)) (h0 : 0 ≤ low) (he : notL L = G ++ notFrom low (L.drop k)) (hn : G.length ≤ k) (hlt : low < x)
    (ho : Owns wr w.heap.size v (G ++ [(low, x - 1)])) (hb : Below w.heap.size w wr) : NotRel L w v (.int .i64 (y + 1)) (.int .i64 ((k : Int) + 1)) wr := by
  have hk : k < L.length := (List.getElem?_eq_some_iff.1 hL).1
  rw [drop_at hL] at hw he
  obtain ⟨h1, h2, h3, h4⟩ := hw
  refine ⟨k + 1, y + 1, _, by omega, by go_num, rfl, by omega, by omega, h4.mono (by omega), ?_, by simp; omega, ho, hb⟩
  rw [he, notFrom, if_pos hlt, List.append_assoc]
  rfl
theorem not_no {L G : List (Int × Int)} {w wr : World} {v : Value} {k : Nat} {x y low : Int} (hL : L[k]? = some (x, y)) (hw : Wf low (L.drop k)) (h0 : 0 ≤ low) (he : notL L = G ++ notFrom low (L.drop k)) (hn : G.length ≤ k) (hlt : ¬ low < x)
    (ho : Owns wr w.heap.size v G) (hb : Below w.heap.size w wr) : NotRel L w v (.int .i64 (y + 1)) (.int .i64 ((k : Int) + 1)) wr := by
  have hk : k < L.length := (List.getElem?_eq_some_iff.1 hL).1
  rw [drop_at hL] at hw he
  obtain ⟨h1, h2, h3, h4⟩ := hw
  refine ⟨k + 1, y + 1, _, by omega, by go_num, rfl, by omega, by omega, h4.mono (by omega), ?_, by omega, ho, hb⟩
  rw [he, notFrom, if_neg hlt]

def SPost (L : List (Int × Int)) (w : World) (e : Ending) (w' : World) : Prop := ∃ v, e = .returned v ∧ SRes L w.heap.size v w' ∧ Below w.heap.size w w'


end Go.Proofs.Ytdjnfmekbjmdhaa

/- Contracts of releaseFits and of ShelfFits, the program's and the model's, over this seat's translation: both answer with the places that the plain function shFits tells, in a row of their own; nothing that was there before the call has changed. Condition: at most 1048576 releases, needs of each, and spans of those and of the need. -/
import Derived.Test.YtgnjhmmedogcoaaGd
import Derived.Test.YtgnjhmmedogcoaaHas
import Derived.Test.YtgnjhmmedogcoaaIn
namespace Go.Proofs.Ytgnjhmmedogcoaa
open Go.RowKit Go.Sort

def fitB (n : Int) (L : List (Int × Int)) (q : Rel) : Bool := decide (q.1 = n) && (!q.2.2.1 && hasL L q.2.1.1 q.2.1.2.1 q.2.1.2.2.1 q.2.1.2.2.2)
def fitFrom (n : Int) (L : List (Int × Int)) : Nat → List Rel → List Int
  | _, [] => []
  | k, q :: t => (if fitB n L q = true then [(k : Int)] else []) ++ fitFrom n L (k + 1) t
def shFits (S : List Rel) (n : Int) (L : List (Int × Int)) : List Int := if (shOk S && ndOk [(n, L)]) = true then fitFrom n L 0 S else []
theorem fitFrom_step {S : List Rel} {k : Nat} {q : Rel} (h : S[k]? = some q) (n : Int) (L : List (Int × Int)) : fitFrom n L k (S.drop k) = (if fitB n L q = true then [(k : Int)] else []) ++ fitFrom n L (k + 1) (S.drop (k + 1)) := by
  have hk : k < S.length := (List.getElem?_eq_some_iff.1 h).1
  rw [List.drop_eq_getElem_cons hk, (List.getElem?_eq_some_iff.1 h).2]
  rfl
theorem fitFrom_len (n : Int) (L : List (Int × Int)) : ∀ (S : List Rel) (k : Nat), (fitFrom n L k S).length ≤ S.length
  | [], _ => Nat.le_refl _
  | q :: t, k => by
    have := fitFrom_len n L t (k + 1)
    unfold fitFrom
    split <;> simp <;> omega
theorem shFits_len (S : List Rel) (n : Int) (L : List (Int × Int)) : (shFits S n L).length ≤ S.length := by
  unfold shFits
  split
  · exact fitFrom_len n L S 0
  · simp

theorem IOwn.below {w w' : World} {B : Nat} {v : Value} {N : List Int} (h : IOwn w B v N) (hb : Below w.heap.size w w') : IOwn w' B v N := by
  refine ⟨h.1, ?_⟩
  rcases h.2 with hn | ⟨g, cap, cur, hv, hb', hg, rest⟩
  · exact .inl hn
  · exact .inr ⟨g, cap, cur, hv, hb', (hb.block g (Array.getElem?_eq_some_iff.1 hg).1).trans hg, rest⟩
theorem IOwn.mono {w : World} {B B' : Nat} {v : Value} {N : List Int} (h : IOwn w B v N) (hB : B' ≤ B) : IOwn w B' v N := by
  refine ⟨h.1, ?_⟩
  rcases h.2 with hn | ⟨g, cap, cur, hv, hb', hg, rest⟩
  · exact .inl hn
  · exact .inr ⟨g, cap, cur, hv, by omega, hg, rest⟩

/-- A row that was just made of one need. -/
theorem one_need {w V : World} {n : Int} {na : Option Addr} {ncap : Nat} {L : List (Int × Int)} (hV : V.heap = (w.alloc (.cells #[.int .i64 n, .slice na L.length ncap] 59)).heap) (h : SpAt V V.heap.size (.slice na L.length ncap) L) :
    NdAt V V.heap.size (.slice (some ⟨w.heap.size, 0, none⟩) 1 1) [(n, L)] := by
  have hb : V.heap[w.heap.size]? = some (.cells #[.int .i64 n, .slice na L.length ncap] 59 (0, 0)) := by rw [hV]; exact heap_alloc_new w _
  refine ⟨_, _, rfl, .inr ⟨w.heap.size, 0, rfl, (Array.getElem?_eq_some_iff.1 hb).1, fun i hi => ?_⟩⟩
  obtain rfl : i = 0 := by simpa using hi
  exact ⟨(cell_of_row V _ 0 _ _ (0, 0) hb).trans rfl, na, ncap, (cell_of_row V _ 1 _ _ (0, 0) hb).trans rfl, h⟩

def FitRel (S : List Rel) (n : Int) (L : List (Int × Int)) (w1 : World) (v i : Value) (wr : World) : Prop :=
  ∃ (k : Nat) (G : List Int), k ≤ S.length ∧ i = .int .i64 (k : Int) ∧ fitFrom n L 0 S = G ++ fitFrom n L k (S.drop k) ∧ G.length ≤ k ∧ IOwn wr w1.heap.size v G ∧ Below w1.heap.size w1 wr
theorem fit_yes {S : List Rel} {n : Int} {L : List (Int × Int)} {w1 wr : World} {k : Nat} {q : Rel} {G : List Int} {v : Value} (hS : S[k]? = some q) (he : fitFrom n L 0 S = G ++ fitFrom n L k (S.drop k)) (hn : G.length ≤ k) (hf : fitB n L q = true) (ho : IOwn wr w1.heap.size v (G ++ [(k : Int)])) (hb : Below w1.heap.size w1 wr) :
    FitRel S n L w1 v (.int .i64 ((k : Int) + 1)) wr := by
  have hk : k < S.length := (List.getElem?_eq_some_iff.1 hS).1
  exact ⟨k + 1, G ++ [(k : Int)], by omega, by go_num, by rw [he, fitFrom_step hS, if_pos hf, List.append_assoc], by simp; omega, ho, hb⟩
theorem fit_no {S : List Rel} {n : Int} {L : List (Int × Int)} {w1 wr : World} {k : Nat} {q : Rel} {G : List Int} {v : Value} (hS : S[k]? = some q) (he : fitFrom n L 0 S = G ++ fitFrom n L k (S.drop k)) (hn : G.length ≤ k) (hf : fitB n L q = false) (ho : IOwn wr w1.heap.size v G) (hb : Below w1.heap.size w1 wr) :
    FitRel S n L w1 v (.int .i64 ((k : Int) + 1)) wr := by
  have hk : k < S.length := (List.getElem?_eq_some_iff.1 hS).1
  exact ⟨k + 1, G, by omega, by go_num, by rw [he, fitFrom_step hS, if_neg (by rw [hf]; simp), List.nil_append], by omega, ho, hb⟩

def SFitRel (S : List Rel) (n : Int) (L : List (Int × Int)) (B : Nat) (w1 : World) (v i : Value) (wr : World) : Prop :=
  ∃ (k : Nat) (G : List Int), k ≤ S.length ∧ i = .int .i64 (k : Int) ∧ fitFrom n L 0 S = G ++ fitFrom n L k (S.drop k) ∧ G.length ≤ k ∧ IOwn wr B v G ∧ Below B w1 wr ∧ (0 < k → shOk S = true ∧ ndOk [(n, L)] = true)
theorem sfit_no {S : List Rel} {n : Int} {L : List (Int × Int)} {w1 wr : World} {k B : Nat} {q : Rel} {G : List Int} {v : Value} (hS : S[k]? = some q) (he : fitFrom n L 0 S = G ++ fitFrom n L k (S.drop k)) (hn : G.length ≤ k) (hf : fitB n L q = false) (ho : IOwn wr B v G) (hb : Below B w1 wr) (h1 : shOk S = true) (h2 : ndOk [(n, L)] = true) :
    SFitRel S n L B w1 v (.int .i64 ((k : Int) + 1)) wr := by
  have hk : k < S.length := (List.getElem?_eq_some_iff.1 hS).1
  exact ⟨k + 1, G, by omega, by go_num, by rw [he, fitFrom_step hS, if_neg (by rw [hf]; simp), List.nil_append], by omega, ho, hb, fun _ => ⟨h1, h2⟩⟩
theorem sfit_yes {S : List Rel} {n : Int} {L : List (Int × Int)} {w1 wr : World} {k B : Nat} {q : Rel} {G : List Int} {v : Value} (hS : S[k]? = some q) (he : fitFrom n L 0 S = G ++ fitFrom n L k (S.drop k)) (hn : G.length ≤ k) (hf : fitB n L q = true) (ho : IOwn wr B v (G ++ [(k : Int)])) (hb : Below B w1 wr) (h1 : shOk S = true) (h2 : ndOk [(n, L)] = true) :
    SFitRel S n L B w1 v (.int .i64 ((k : Int) + 1)) wr := by
  have hk : k < S.length := (List.getElem?_eq_some_iff.1 hS).1
  exact ⟨k + 1, G ++ [(k : Int)], by omega, by go_num, by rw [he, fitFrom_step hS, if_pos hf, List.append_assoc], by simp; omega, ho, hb, fun _ => ⟨h1, h2⟩⟩

def IPost (N : List Int) (w : World) (e : Ending) (w' : World) : Prop := ∃ v, e = .returned v ∧ IB N w.heap.size w'.heap.size v w' ∧ Below w.heap.size w w'
theorem ib_nil (B H : Nat) (w : World) : IB [] B H (.slice none 0 0) w := ⟨none, 0, rfl, .inl rfl⟩
theorem IB.mono {N : List Int} {lo lo' hi : Nat} {v : Value} {w : World} (h : IB N lo hi v w) (hl : lo' ≤ lo) : IB N lo' hi v w := by
  obtain ⟨a, cap, rfl, h⟩ := h
  refine ⟨_, _, rfl, ?_⟩
  rcases h with h | ⟨g, m, rfl, hk, h1, h2⟩
  · exact .inl h
  · exact .inr ⟨g, m, rfl, hk, by omega, h2⟩

end Go.Proofs.Ytgnjhmmedogcoaa

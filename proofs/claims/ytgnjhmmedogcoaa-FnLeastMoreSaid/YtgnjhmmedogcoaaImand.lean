/- The contracts of the program's spanAnd, spansAnd and rangeOfSpans over this seat's translation. Nothing that was there before the call has changed. Condition: at most 1048576 spans. -/
import Derived.Test.YtgnjhmmedogcoaaGb
import Derived.Deep.RegionWith
import Derived.Deep.CutRange
import Derived.BigQuiet
import Derived.Handy
namespace Go.Proofs.Ytgnjhmmedogcoaa
open Go.RowKit Go.Sort

set_option maxRecDepth 100000 in
theorem Owns.below {w w' : World} {B : Nat} {v : Value} {L : List (Int × Int)} (h : Owns w B v L) (hb : Below w.heap.size w w') : Owns w' B v L :=
  World.ownsRow.kept h (row := none) ⟨hb.os, hb.tape, hb.output, hb.size, fun k hk _ => hb.block k hk⟩ (by cases hv : v.ownBlock <;> simp)
set_option maxRecDepth 100000 in
theorem Owns.gone2 {w wr W w1 : World} {B : Nat} {v : Value} {L : List (Int × Int)} (h : Owns wr B v L) (hb : Below B w wr) (hB : B ≤ wr.heap.size) (hx : Below wr.heap.size wr W) (hg : W.grownBy w1 v.ownBlock) : Below B w w1 :=
  (hb.trans (hx.mono hB)).grown hg (Nat.le_trans hB hx.size) fun k hk => ((World.ownsRow.lt h) k hk).1

set_option maxRecDepth 100000 in
theorem two_newn (W : World) {n : Nat} (x y : Int) (hn : W.heap.size = n) : ∀ j u, [Value.int .i64 x, .int .i64 y][j]? = some u → (W.alloc (.cells #[.int .i64 x, .int .i64 y] 73)).cell? ((⟨n, 0, none⟩ : Addr).add j) = some u := by
  subst hn
  exact two_new0 W x y

/-- What the loop of spansAnd keeps. -/
def AndRel (A B : List (Int × Int)) (w : World) (v si sj : Value) (wr : World) : Prop :=
  ∃ (i j : Nat) (G : List (Int × Int)), i ≤ A.length ∧ j ≤ B.length ∧ si = .int .i64 (i : Int) ∧ sj = .int .i64 (j : Int) ∧ andI A B = G ++ andI (A.drop i) (B.drop j) ∧ G.length ≤ i + j ∧ Owns wr w.heap.size v G ∧ Below w.heap.size w wr

set_option maxRecDepth 100000 in
theorem and_step {A B G : List (Int × Int)} {i j : Nat} {a b c d : Int} (hA : A[i]? = some (a, b)) (hB : B[j]? = some (c, d)) (he : andI A B = G ++ andI (A.drop i) (B.drop j)) :
    andI A B = (G ++ if max a c ≤ min b d then [(max a c, min b d)] else []) ++ (if b < d then andI (A.drop (i + 1)) (B.drop j) else andI (A.drop i) (B.drop (j + 1))) := by
  rw [he, drop_at hA, drop_at hB, andI, List.append_assoc]

set_option maxRecDepth 100000 in
theorem and_i {A B G G' : List (Int × Int)} {w wr : World} {v : Value} {i j : Nat} {a b c d : Int} (hA : A[i]? = some (a, b)) (hB : B[j]? = some (c, d)) (he : andI A B = G ++ andI (A.drop i) (B.drop j)) (hn : G.length ≤ i + j) (hbd : b < d)
    (hG : G' = G ++ if max a c ≤ min b d then [(max a c, min b d)] else []) (ho : Owns wr w.heap.size v G') (hb : Below w.heap.size w wr) : AndRel A B w v (.int .i64 ((i : Int) + 1)) (.int .i64 (j : Int)) wr := by
  have hi : i < A.length := (List.getElem?_eq_some_iff.1 hA).1
  have hj : j < B.length := (List.getElem?_eq_some_iff.1 hB).1
  refine ⟨i + 1, j, G', by omega, by omega, by go_num, rfl, ?_, ?_, ho, hb⟩
  · rw [hG, and_step hA hB he, if_pos hbd]
  · rw [hG, List.length_append]
    split <;> simp <;> omega
set_option maxRecDepth 100000 in
theorem and_j {A B G G' : List (Int × Int)} {w wr : World} {v : Value} {i j : Nat} {a b c d : Int} (hA : A[i]? = some (a, b)) (hB : B[j]? = some (c, d)) (he : andI A B = G ++ andI (A.drop i) (B.drop j)) (hn : G.length ≤ i + j) (hbd : ¬ b < d)
    (hG : G' = G ++ if max a c ≤ min b d then [(max a c, min b d)] else []) (ho : Owns wr w.heap.size v G') (hb : Below w.heap.size w wr) : AndRel A B w v (.int .i64 (i : Int)) (.int .i64 ((j : Int) + 1)) wr := by
  have hi : i < A.length := (List.getElem?_eq_some_iff.1 hA).1
  have hj : j < B.length := (List.getElem?_eq_some_iff.1 hB).1
  refine ⟨i, j + 1, G', by omega, by omega, rfl, by go_num, ?_, ?_, ho, hb⟩
  · rw [hG, and_step hA hB he, if_neg hbd]
  · rw [hG, List.length_append]
    split <;> simp <;> omega

end Go.Proofs.Ytgnjhmmedogcoaa

/- Builds from nothing, as plain facts: what each target of a world comes to. No condition. -/
import Derived.Test.YtopplljilmjjgaaWop
import Derived.Test.YtopplljilmjjgaaRxf
import Derived.Test.YtopplljilmjjgaaMd
namespace Go.Proofs.Ytopplljilmjjgaa
open Rx
namespace Bl
open Wl
/-- What the target of a number came to. -/
def madeAt (D : List Mde) (n : Int) : Mde := D.getD n.toNat (false, ⟨#[]⟩)
def allMade (D : List Mde) (N : List Int) : Bool := N.all fun n => (madeAt D n).1
def textsOf (D : List Mde) (N : List Int) : List ByteArray := N.map fun n => (madeAt D n).2
def ranMade (r : Rn) : Mde := if r.1 = 0 then (true, r.2.1) else (false, ⟨#[]⟩)
def runMade (L : List Ln) (T : List ByteArray) : Mde := ranMade (roomR L T (List.replicate T.length true))
def one (D : List Mde) (x : Tgt) : Mde := if x.1 = false then (true, x.2.1) else if allMade D x.2.2.2 = true then runMade x.2.2.1 (textsOf D x.2.2.2) else (false, ⟨#[]⟩)
def bFrom (D : List Mde) : List Tgt → List Mde
  | [] => D
  | x :: t => bFrom (D ++ [one D x]) t
def buildL (S : List Tgt) : List Mde := if wOk S = true then bFrom [] S else []
theorem bFrom_at {D : List Mde} {S : List Tgt} {k : Nat} {x : Tgt} (h : S[k]? = some x) : bFrom D (S.drop k) = bFrom (D ++ [one D x]) (S.drop (k + 1)) := by
  obtain ⟨hk, rfl⟩ := List.getElem?_eq_some_iff.1 h
  rw [List.drop_eq_getElem_cons hk]
  rfl
theorem bFrom_len : ∀ (S : List Tgt) (D : List Mde), (bFrom D S).length = D.length + S.length
  | [], D => rfl
  | x :: t, D => by rw [bFrom, bFrom_len t]; simp; omega
theorem buildL_len (S : List Tgt) : (buildL S).length ≤ S.length := by
  unfold buildL
  split
  · rw [bFrom_len]; simp
  · exact Nat.zero_le _
theorem roomR_out (L : List Ln) (T : List ByteArray) (O : List Bool) : ((roomR L T O).1 = 0 → (roomR L T O).2.1.size ≤ 40) ∧ ((roomR L T O).1 ≠ 0 → (roomR L T O).2.1 = ByteArray.empty) := by
  unfold roomR
  split
  · exact run_out L.length L ByteArray.empty [] (Nat.le_refl _) (Nat.zero_le _)
  · exact ⟨fun e => absurd e (by decide), fun _ => rfl⟩
/-- What the program tells of a run is what the model tells. -/
theorem ranMade_room (L : List Ln) (T : List ByteArray) (O : List Bool) : ranMade (roomR L T O) = (decide ((roomR L T O).1 = 0), (roomR L T O).2.1) := by
  unfold ranMade
  by_cases h : (roomR L T O).1 = 0
  · rw [if_pos h, decide_eq_true h]
  · rw [if_neg h, decide_eq_false h, (roomR_out L T O).2 h]
    rfl
theorem runMade_small (L : List Ln) (T : List ByteArray) : (runMade L T).2.size ≤ 40 := by
  unfold runMade
  rw [ranMade_room]
  by_cases h : (roomR L T (List.replicate T.length true)).1 = 0
  · exact (roomR_out _ _ _).1 h
  · show (roomR L T _).2.1.size ≤ 40
    rw [(roomR_out _ _ _).2 h]
    exact Nat.zero_le _
theorem one_small {D : List Mde} {k : Nat} {x : Tgt} (h : tOk k x = true) : (one D x).2.size ≤ 40 := by
  unfold one
  split
  · exact tOk_text h
  · split
    · exact runMade_small _ _
    · exact Nat.zero_le _
theorem madeAt_small {D : List Mde} (h : ∀ q ∈ D, q.2.size ≤ 40) (n : Int) : (madeAt D n).2.size ≤ 40 := by
  unfold madeAt
  rw [List.getD_eq_getElem?_getD]
  rcases e : D[n.toNat]? with _ | x
  · exact Nat.zero_le _
  · exact h x (List.mem_of_getElem? e)
theorem textsOf_small {D : List Mde} (h : ∀ q ∈ D, q.2.size ≤ 40) (N : List Int) : ∀ q ∈ textsOf D N, q.size ≤ 40 := fun q hq => by
  obtain ⟨n, _, rfl⟩ := List.mem_map.1 hq
  exact madeAt_small h n
theorem small_push {D : List Mde} (h : ∀ q ∈ D, q.2.size ≤ 40) {x : Mde} (hx : x.2.size ≤ 40) : ∀ q ∈ D ++ [x], q.2.size ≤ 40 := fun q hq => by
  rcases List.mem_append.1 hq with hq | hq
  · exact h q hq
  · simp at hq
    subst hq
    exact hx
theorem madeAt_eq {D : List Mde} {n : Nat} (h : n < D.length) : madeAt D (n : Int) = D[n] := by
  unfold madeAt
  rw [Int.toNat_natCast, List.getD_eq_getElem?_getD, List.getElem?_eq_getElem h]
  rfl
theorem all_bad {D : List Mde} {N : List Int} {j : Nat} {n : Int} (h : N[j]? = some n) (hm : (madeAt D n).1 = false) : allMade D N = false := by
  unfold allMade
  rw [List.all_eq_false]
  exact ⟨n, List.mem_of_getElem? h, by rw [hm]; decide⟩
theorem all_next {D : List Mde} {N : List Int} {j : Nat} {n : Int} (h : N[j]? = some n) (hm : (madeAt D n).1 = true) (ha : allMade D (N.take j) = true) : allMade D (N.take (j + 1)) = true := by
  rw [List.take_add_one, h]
  unfold allMade at ha ⊢
  simp [ha, hm]
theorem texts_next {D : List Mde} {N : List Int} {j : Nat} {n : Int} (h : N[j]? = some n) : textsOf D (N.take (j + 1)) = textsOf D (N.take j) ++ [(madeAt D n).2] := by
  rw [List.take_add_one, h]
  simp [textsOf]
theorem texts_len (D : List Mde) (N : List Int) : (textsOf D N).length = N.length := by simp [textsOf]
end Bl
end Go.Proofs.Ytopplljilmjjgaa

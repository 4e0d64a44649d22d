/- Contracts of ShelfGone, the program's and the model's, over this seat's translation: a new shelf with one release withdrawn, all that it stands on new and different, or none; nothing that was there before the call has changed. Condition: at most 1048576 releases, needs of each, and spans of those. -/
import Derived.Test.YtdjnfmekbjmdhaaRcopy
import Derived.Test.YtdjnfmekbjmdhaaRat
namespace Go.Proofs.Ytdjnfmekbjmdhaa
open Go.RowKit Go.Sort

namespace Foot
theorem RGrow.gone {w : World} {B g cap i : Nat} {S : List Rel} {fs : List (List Nat)} {x : Rel} (h : RGrow w B (.slice (some ⟨g, 0, none⟩) S.length cap) S fs) (hx : S[i]? = some x) :
    RGrow (w.setCell ⟨g, i * 7 + 5, none⟩ (.bool true)) B (.slice (some ⟨g, 0, none⟩) S.length cap) (S.set i (x.1, x.2.1, true, x.2.2.2)) fs := by
  obtain ⟨hi, hxi⟩ := List.getElem?_eq_some_iff.1 hx
  obtain ⟨cs, ⟨hl, ho⟩, he, hn, hin⟩ := h
  have hlen : (S.set i (x.1, x.2.1, true, x.2.2.2)).length = S.length := by simp
  rcases ho with ⟨hv, h0⟩ | ⟨g', cap', cur, e, hb, hg, hnc, hcm, hcs, htk⟩
  · omega
  · simp only [Value.slice.injEq, Option.some.injEq, Addr.mk.injEq, and_true] at e
    obtain ⟨rfl, _, rfl⟩ := e
    have hne : ∀ b ∈ fs.flatten, b ≠ g := fun b k e => (hin b k).2.2 (by rw [e]; rfl)
    refine ⟨cs.set (i * 7 + 5) (.bool true), ?_, ⟨by rw [hlen]; exact he.1, fun j hj => ?_⟩, hn, fun b k => ⟨(hin b k).1, by rw [show (w.setCell ⟨g, i * 7 + 5, none⟩ (.bool true)).heap.size = w.heap.size by simp [World.setCell]]; exact (hin b k).2.1, (hin b k).2.2⟩⟩
    · rw [hlen]
      refine ⟨by rw [List.length_set]; exact hl, .inr ⟨g, cap, cur.setIfInBounds (i * 7 + 5) (.bool true), rfl, hb, by simp [World.setCell, Array.getElem?_modify, hg], hnc, hcm, by simpa using hcs, ?_⟩⟩
      rw [Array.toList_setIfInBounds, List.take_set, htk]
    · obtain ⟨a, c, h1, h2⟩ := he.2 j (by omega)
      have kp : ∀ b ∈ fs.getD j [], (w.setCell ⟨g, i * 7 + 5, none⟩ (.bool true)).heap[b]? = w.heap[b]? := fun b k => Below.heap_setCell w ⟨g, i * 7 + 5, none⟩ _ b (hne b (mem_flat k))
      by_cases e : j = i
      · subst e
        rw [hxi] at h1 h2
        rw [List.getElem_set_self]
        refine ⟨a, c, fun m hm => ?_, h2.kept kp⟩
        by_cases e5 : m = 5
        · subst e5
          rw [List.getElem?_set_self (by omega)]
          rfl
        · rw [List.getElem?_set_ne (by omega), h1 m hm]
          have : m = 0 ∨ m = 1 ∨ m = 2 ∨ m = 3 ∨ m = 4 ∨ m = 6 := by omega
          rcases this with rfl | rfl | rfl | rfl | rfl | rfl <;> rfl
      · rw [List.getElem_set_ne (by omega)]
        exact ⟨a, c, fun m hm => by rw [List.getElem?_set_ne (by omega)]; exact h1 m hm, h2.kept kp⟩
/-- The place where the store goes. -/
theorem RGrow.place {w : World} {B g cap i : Nat} {S : List Rel} {fs : List (List Nat)} (h : RGrow w B (.slice (some ⟨g, 0, none⟩) S.length cap) S fs) (hi : i < S.length) :
    (∃ f, w.cell? ⟨g, i * 7 + 5, none⟩ = some (.bool f)) ∧ w.frozen? ⟨g, i * 7 + 5, none⟩ = false := by
  obtain ⟨cs, ⟨hl, ho⟩, he, hn, hin⟩ := h
  rcases ho with ⟨hv, h0⟩ | ⟨g', cap', cur, e, hb, hg, hnc, hcm, hcs, htk⟩
  · omega
  · simp only [Value.slice.injEq, Option.some.injEq, Addr.mk.injEq, and_true] at e
    obtain ⟨rfl, _, rfl⟩ := e
    obtain ⟨a, c, h1, _⟩ := he.2 i hi
    have h5 := h1 5 (by omega)
    rw [← htk, List.getElem?_take, if_pos (by omega)] at h5
    refine ⟨⟨S[i].2.2.1, (cell_of_row w g _ cur _ (0, 0) hg).trans (by simpa using h5)⟩, by simp [World.frozen?, hg]⟩
theorem RGrow.mono {w : World} {B B' : Nat} {v : Value} {S : List Rel} {fs : List (List Nat)} (h : RGrow w B v S fs) (hB : B' ≤ B) : RGrow w B' v S fs := by
  obtain ⟨cs, ⟨hl, ho⟩, he, hn, hi⟩ := h
  refine ⟨cs, ⟨hl, ?_⟩, he, hn, fun b k => ⟨Nat.le_trans hB (hi b k).1, (hi b k).2⟩⟩
  rcases ho with hn | ⟨g, cap, cur, hv, hb', rest⟩
  · exact .inl hn
  · exact .inr ⟨g, cap, cur, hv, Nat.le_trans hB hb', rest⟩
theorem RGrow.some {w : World} {B : Nat} {v : Value} {S : List Rel} {fs : List (List Nat)} (h : RGrow w B v S fs) (hp : 0 < S.length) : ∃ g cap, v = .slice (some ⟨g, 0, none⟩) S.length cap ∧ B ≤ g ∧ g < w.heap.size ∧ S.length ≤ cap := by
  obtain ⟨cs, ⟨hl, ho⟩, _⟩ := h
  rcases ho with ⟨_, h0⟩ | ⟨g, cap, cur, e, hb, hg, hnc, _⟩
  · omega
  · exact ⟨g, cap, e, hb, (Array.getElem?_eq_some_iff.1 hg).1, hnc⟩
end Foot

namespace Copy
open Foot
/-- A shelf on which one release is withdrawn. -/
def goneL (S : List Rel) (i : Nat) : List Rel := match S[i]? with
  | some x => S.set i (x.1, x.2.1, true, x.2.2.2)
  | none => S
def GonePost (S : List Rel) (at' : Int) (w : World) (e : Ending) (w' : World) : Prop :=
  ∃ v fs, e = .returned (.tuple #[v, .bool (decide (0 ≤ at'))]) ∧ RGrow w' w.heap.size v (if 0 ≤ at' then goneL S at'.toNat else []) fs ∧ Below w.heap.size w w'
theorem shFind_range (n : Int) (v : Int × Int × Int × Int) : ∀ (S : List Rel) (k : Nat), shFind n v k S = -1 ∨ ∃ j, shFind n v k S = ((k + j : Nat) : Int) ∧ j < S.length
  | [], k => .inl rfl
  | x :: t, k => by
    have hs := shFind_step (S := x :: t) (k := 0) (q := x) rfl n v
    unfold shFind
    split
    · exact .inr ⟨0, by simp, by simp⟩
    · rcases shFind_range n v t (k + 1) with h | ⟨j, h, hj⟩
      · exact .inl h
      · exact .inr ⟨j + 1, by rw [h]; omega, by simp; omega⟩
theorem shAt_range (S : List Rel) (n : Int) (v : Int × Int × Int × Int) : shAt S n v = -1 ∨ ∃ j : Nat, shAt S n v = (j : Int) ∧ j < S.length := by
  unfold shAt
  split
  · rcases shFind_range n v S 0 with h | ⟨j, h, hj⟩
    · exact .inl h
    · exact .inr ⟨j, by simpa using h, hj⟩
  · exact .inl rfl

set_option maxRecDepth 100000 in
set_option maxHeartbeats 4000000 in
theorem implShelfGone_any (u : Value) (S : List Rel) (n p q r s : Int) (w : World) (hl : S.length ≤ 1048576) (hq : ∀ q ∈ S, q.2.2.2.length ≤ 1048576 ∧ ∀ p ∈ q.2.2.2, p.2.length ≤ 1048576) (h : RlAt w w.heap.size u S) :
    Calls Try.prog 30 #[u, .int .i64 n, ver p q r s] w (GonePost S (shAt S n (p, q, r, s)) w) := by
  obtain ⟨sa, caps, rfl, hx⟩ := id h
  clear hx
  have H := Lib.hid h
  have KA : Hid (∀ V, RlAt V V.heap.size (.slice sa S.length caps) S → Calls Try.prog 19 #[.slice sa S.length caps, .int .i64 n, ver p q r s] V fun e w' => e = .returned (.int .i64 (shAt S n (p, q, r, s))) ∧ Below V.heap.size V w') := Lib.hid fun V g => implShelfAt_any _ S n p q r s V hl hq g
  clear h
  rcases shAt_range S n (p, q, r, s) with hat | ⟨k, hat, hk⟩
  · rw [hat] at KA ⊢
    clear hat
    go_enter Try.func30, Try.ntmps30
    go_wp2_with fail
    refine (KA.out _ (H.out.stepAt (by go_grown))).mono ?_
    rintro e w1 ⟨rfl, hb1⟩
    have n1 : Below w.heap.size w w1 := Below.step (by go_grown) hb1
    clear hb1
    go_wp2_with fail
    exact bodyPost_ret (v := .tuple #[.slice none 0 0, .bool false]) (by simp [results, Try.results30, go_sem]) rfl
      ⟨_, [], rfl, RGrow.nil _ _, n1⟩
  · rw [hat] at KA ⊢
    clear hat
    have hk0 : ¬ ((k : Int) < 0) := by omega
    have hk1 : (k : Int) < (S.length : Int) := by omega
    have hk2 : (0 : Int) ≤ (k : Int) := by omega
    go_enter Try.func30, Try.ntmps30
    go_wp2_with fail
    refine (KA.out _ (H.out.stepAt (by go_grown))).mono ?_
    rintro e w1 ⟨rfl, hb1⟩
    have n1 : Below w.heap.size w w1 := Below.step (by go_grown) hb1
    clear hb1
    go_wp2_with fail
    refine (shelfCopy_any _ S _ (H.out.stepAt (by go_grown)) hl hq).mono ?_
    rintro e w2 ⟨u2, fs, rfl, gr, hb2⟩
    have n2 : Below w.heap.size w w2 := Below.step (by go_grown) hb2
    obtain ⟨g, cap, rfl, hg, hgl, hgc⟩ := gr.some (by omega)
    have hgw : w.heap.size ≤ g := Nat.le_trans n1.size hg
    have GR := Lib.hid (gr.mono n1.size)
    obtain ⟨⟨f, hf⟩, hz⟩ := gr.place hk
    have hx : S[k]? = some S[k] := List.getElem?_eq_getElem hk
    have HG := Lib.hid (GR.out.gone hx)
    have hgo : goneL S k = S.set k (S[k].1, S[k].2.1, true, S[k].2.2.2) := by unfold goneL; rw [hx]
    have HO := Lib.hid hgo
    clear gr hb2 hx hgo
    go_wp2_with fail
    exact bodyPost_ret (v := .tuple #[.slice (some ⟨g, 0, none⟩) S.length cap, .bool true]) (by simp [results, Try.results30, go_sem]) rfl
      ⟨.slice (some ⟨g, 0, none⟩) S.length cap, fs, by rw [decide_eq_true hk2], by rw [if_pos hk2, Int.toNat_natCast, HO.out]; exact HG.out, n2.setCell hgw _⟩

set_option maxRecDepth 100000 in
set_option maxHeartbeats 4000000 in
theorem specShelfGone_any (u : Value) (S : List Rel) (n p q r s : Int) (w : World) (hl : S.length ≤ 1048576) (hq : ∀ q ∈ S, q.2.2.2.length ≤ 1048576 ∧ ∀ p ∈ q.2.2.2, p.2.length ≤ 1048576) (h : RlAt w w.heap.size u S) :
    Calls Try.prog 29 #[u, .int .i64 n, ver p q r s] w (GonePost S (shAt S n (p, q, r, s)) w) := by
  obtain ⟨sa, caps, rfl, hx⟩ := id h
  clear hx
  have H := Lib.hid h
  have KA : Hid (∀ V, RlAt V V.heap.size (.slice sa S.length caps) S → Calls Try.prog 16 #[.slice sa S.length caps, .int .i64 n, ver p q r s] V fun e w' => e = .returned (.int .i64 (shAt S n (p, q, r, s))) ∧ Below V.heap.size V w') := Lib.hid fun V g => specShelfAt_any _ S n p q r s V hl hq g
  clear h
  rcases shAt_range S n (p, q, r, s) with hat | ⟨k, hat, hk⟩
  · rw [hat] at KA ⊢
    clear hat
    go_enter Try.func29, Try.ntmps29
    go_wp2_with fail
    refine (KA.out _ (H.out.stepAt (by go_grown))).mono ?_
    rintro e w1 ⟨rfl, hb1⟩
    have n1 : Below w.heap.size w w1 := Below.step (by go_grown) hb1
    clear hb1
    go_wp2_with fail
    exact bodyPost_ret (v := .tuple #[.slice (some ⟨w1.heap.size, 0, none⟩) 0 0, .bool false]) (by simp [results, Try.results29, go_sem]) rfl
      ⟨_, [], rfl, (RGrow.made rfl (Nat.le_refl _)).mono n1.size, n1.alloc n1.size _⟩
  · rw [hat] at KA ⊢
    clear hat
    have hk0 : ¬ ((k : Int) < 0) := by omega
    have hk1 : (k : Int) < (S.length : Int) := by omega
    have hk2 : (0 : Int) ≤ (k : Int) := by omega
    go_enter Try.func29, Try.ntmps29
    go_wp2_with fail
    refine (KA.out _ (H.out.stepAt (by go_grown))).mono ?_
    rintro e w1 ⟨rfl, hb1⟩
    have n1 : Below w.heap.size w w1 := Below.step (by go_grown) hb1
    clear hb1
    go_wp2_with fail
    refine (l3Shelf_any _ S _ (H.out.stepAt (by go_grown)) hl hq).mono ?_
    rintro e w2 ⟨u2, fs, rfl, gr, hb2⟩
    have n2 : Below w.heap.size w w2 := Below.step (by go_grown) hb2
    obtain ⟨g, cap, rfl, hg, hgl, hgc⟩ := gr.some (by omega)
    have hgw : w.heap.size ≤ g := Nat.le_trans n1.size hg
    have GR := Lib.hid (gr.mono n1.size)
    obtain ⟨⟨f, hf⟩, hz⟩ := gr.place hk
    have hx : S[k]? = some S[k] := List.getElem?_eq_getElem hk
    have HG := Lib.hid (GR.out.gone hx)
    have hgo : goneL S k = S.set k (S[k].1, S[k].2.1, true, S[k].2.2.2) := by unfold goneL; rw [hx]
    have HO := Lib.hid hgo
    clear gr hb2 hx hgo
    go_wp2_with fail
    exact bodyPost_ret (v := .tuple #[.slice (some ⟨g, 0, none⟩) S.length cap, .bool true]) (by simp [results, Try.results29, go_sem]) rfl
      ⟨.slice (some ⟨g, 0, none⟩) S.length cap, fs, by rw [decide_eq_true hk2], by rw [if_pos hk2, Int.toNat_natCast, HO.out]; exact HG.out, n2.setCell hgw _⟩
end Copy
end Go.Proofs.Ytdjnfmekbjmdhaa

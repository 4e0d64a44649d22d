/- The contract of the program's search for choices (bestChoices), over this seat's translation: the first ones of those that are fine, the better one first, in rows of their own; nothing that was there before a call has changed. Condition: a shelf, needs and held picks that are fine; at most 30 picks open or made. -/
import Derived.Test.YtgenjbeamlffmaaSvk
namespace Go.Proofs.Ytgenjbeamlffmaa
open Go.RowKit Go.Sort

namespace Svp
open Foot Copy Nup Cpu Cfa Rch
/-- The cells of a row of rows of picks. -/
def REls (w : World) (B : Nat) (cs : List Value) (Ls : List (List Pk)) : Prop := ∀ i (h : i < Ls.length), ∃ z, cs[i]? = some z ∧ KOwn w B z Ls[i]
/-- A row of rows of picks that a call makes. -/
def LOwn (w : World) (B base : Nat) (v : Value) (Ls : List (List Pk)) : Prop := ∃ cs, w.ownsRow base 28 1 v Ls.length cs ∧ REls w B cs Ls
theorem infoRow : (Try.prog.info? 28).map (fun i => (i.zero, i.size, i.bytes)) = some (some (.slice none 0 0), 1, 24) := by kernel_rfl
theorem kown_mono {w : World} {B B' : Nat} {v : Value} {L : List Pk} (h : KOwn w B v L) (hB : B' ≤ B) : KOwn w B' v L :=
  ⟨h.1, by rcases h.2 with h | ⟨g, cap, cur, hv, hb, rest⟩; exact .inl h; exact .inr ⟨g, cap, cur, hv, Nat.le_trans hB hb, rest⟩⟩
theorem REls.below {w w' : World} {B : Nat} {cs : List Value} {Ls : List (List Pk)} (h : REls w B cs Ls) (hb : Below w.heap.size w w') : REls w' B cs Ls := fun i hi => by
  obtain ⟨z, h1, h2⟩ := h i hi
  exact ⟨z, h1, KOwn.below h2 hb⟩
theorem LOwn.below {w w' : World} {B base : Nat} {v : Value} {Ls : List (List Pk)} (h : LOwn w B base v Ls) (hb : Below w.heap.size w w') : LOwn w' B base v Ls := by
  obtain ⟨cs, ⟨hl, ho⟩, he⟩ := h
  refine ⟨cs, ⟨hl, ?_⟩, he.below hb⟩
  rcases ho with hn | ⟨g, cap, cur, hv, hb', hg, rest⟩
  · exact .inl hn
  · exact .inr ⟨g, cap, cur, hv, hb', (hb.block g (Array.getElem?_eq_some_iff.1 hg).1).trans hg, rest⟩
theorem LOwn.mono {w : World} {B base base' : Nat} {v : Value} {Ls : List (List Pk)} (h : LOwn w B base v Ls) (hb : base' ≤ base) : LOwn w B base' v Ls := by
  obtain ⟨cs, ⟨hl, ho⟩, he⟩ := h
  refine ⟨cs, ⟨hl, ?_⟩, he⟩
  rcases ho with hn | ⟨g, cap, cur, hv, hb', rest⟩
  · exact .inl hn
  · exact .inr ⟨g, cap, cur, hv, Nat.le_trans hb hb', rest⟩
theorem LOwn.nil (w : World) (B base : Nat) : LOwn w B base (.slice none 0 0) [] := ⟨[], World.ownsRow_nil _ _ _ _, fun i hi => absurd hi (by simp)⟩
theorem LOwn.form {w : World} {B base : Nat} {v : Value} {Ls : List (List Pk)} (h : LOwn w B base v Ls) : ∃ a c, v = .slice a Ls.length c := by
  obtain ⟨cs, ⟨_, ho⟩, _⟩ := h
  rcases ho with ⟨rfl, hn⟩ | ⟨g, cap, cur, rfl, _⟩
  · exact ⟨none, 0, by rw [hn]⟩
  · exact ⟨_, cap, rfl⟩
/-- Rows of picks and rows of such rows never lie on one block. -/
theorem apart2 {w : World} {B B' n m : Nat} {u v : Value} {cs ds : List Value} (h : w.ownsRow B 114 5 u n cs) (h' : w.ownsRow B' 28 1 v m ds) : u.ownBlock = none ∨ u.ownBlock ≠ v.ownBlock := by
  rcases h.2 with ⟨rfl, _⟩ | ⟨g, cap, cur, rfl, _, hg, _⟩
  · exact .inl rfl
  · right
    intro e
    rcases h'.2 with ⟨rfl, _⟩ | ⟨g', cap', cur', rfl, _, hg', _⟩
    · cases e
    · have e' : some g = some g' := e
      injection e' with e'
      subst e'
      rw [hg] at hg'
      simp at hg'
/-- The cells of a row of rows, for an append of all of it. -/
theorem row_news {w : World} {base n c : Nat} {ao : Option Addr} {cs : List Value} (h : w.ownsRow base 28 1 (.slice ao n c) n cs) : (ao = none → n = 0) ∧ ∀ ad, ao = some ad → ∀ j u, cs[j]? = some u → w.cell? (ad.add j) = some u := by
  refine ⟨fun e => ?_, fun ad e j u hu => ?_⟩
  · rcases h.2 with ⟨_, hn⟩ | ⟨g, cap, cur, hv, _⟩
    · exact hn
    · simp only [Value.slice.injEq] at hv
      rw [e] at hv
      cases hv.1
  · rcases h.2 with ⟨hv, _⟩ | ⟨g, cap, cur, hv, _⟩
    · simp only [Value.slice.injEq] at hv
      rw [e] at hv
      cases hv.1
    · simp only [Value.slice.injEq] at hv
      obtain ⟨ha, _, _⟩ := hv
      rw [e] at ha
      injection ha with ha
      subst ha
      exact World.ownsRow.cells h (g := g) (by rw [e]; rfl) j u hu
theorem rels_ones {w : World} {B : Nat} {cs : List Value} {Ls : List (List Pk)} (h : REls w B cs Ls) (hl : cs.length = Ls.length) : ∀ u ∈ cs, u.oneCell' = true := fun u hu => by
  obtain ⟨j, hj, rfl⟩ := List.getElem_of_mem hu
  obtain ⟨z, h1, h2⟩ := h j (by omega)
  rw [List.getElem?_eq_getElem hj] at h1
  injection h1 with h1
  rw [h1]
  rcases h2.2 with ⟨rfl, _⟩ | ⟨g, cap, cur, rfl, _⟩ <;> rfl
theorem REls.append {w : World} {B : Nat} {cs ds : List Value} {Ls Ms : List (List Pk)} (h : REls w B cs Ls) (hl : cs.length = Ls.length) (h' : REls w B ds Ms) : REls w B (cs ++ ds) (Ls ++ Ms) := fun i hi => by
  by_cases hb : i < Ls.length
  · obtain ⟨z, h1, h2⟩ := h i hb
    exact ⟨z, by rw [List.getElem?_append_left (by omega)]; exact h1, by rw [List.getElem_append_left hb]; exact h2⟩
  · have hi' : i - Ls.length < Ms.length := by rw [List.length_append] at hi; omega
    obtain ⟨z, h1, h2⟩ := h' (i - Ls.length) hi'
    exact ⟨z, by rw [List.getElem?_append_right (by omega), hl]; exact h1, by rw [List.getElem_append_right (by omega)]; exact h2⟩
/-- Two rows of rows joined by an append. -/
theorem LOwn.join {w w' : World} {B base n : Nat} {v v' : Value} {Ls Ms : List (List Pk)} {cs ds : List Value} (ho : w.ownsRow base 28 1 v Ls.length cs) (he : REls w B cs Ls) (hd : REls w B ds Ms) (hn : n = (Ls ++ Ms).length)
    (hown : w'.ownsRow base 28 1 v' n (cs ++ ds)) (hgrow : w.grownBy w' v.ownBlock) : LOwn w' B base v' (Ls ++ Ms) := by
  subst hn
  have kept : ∀ {xs : List Value} {Xs : List (List Pk)}, REls w B xs Xs → REls w' B xs Xs := fun h i hi => by
    obtain ⟨z, h1, h2⟩ := h i hi
    exact ⟨z, h1, World.ownsRow.kept h2 hgrow (apart2 h2 ho)⟩
  have hl : cs.length = Ls.length := by have := ho.1; omega
  exact ⟨_, hown, (kept he).append hl (kept hd)⟩
/-- A row just made of one row of picks. -/
theorem LOwn.one {w V : World} {B : Nat} {z : Value} {L : List Pk} (h : KOwn w B z L) (hV : V.heap = (w.alloc (.cells #[z] 28)).heap) (hb : Below w.heap.size w V) : LOwn V B w.heap.size (.slice (some ⟨w.heap.size, 0, none⟩) 1 1) [L] :=
  ⟨[z], ⟨rfl, .inr ⟨w.heap.size, 1, #[z], rfl, Nat.le_refl _, by rw [hV]; exact heap_alloc_new w _, Nat.le_refl _, by unfold maxLen; omega, rfl, rfl⟩⟩, fun i hi => by
    obtain rfl : i = 0 := by simpa using hi
    exact ⟨z, rfl, KOwn.below h hb⟩⟩
theorem pk_drop {w : World} {B k cap cap' b o : Nat} {S : List Pk} (h : PkAt w B (.slice (some ⟨b, o, none⟩) S.length cap) S) (hk : k ≤ S.length) : PkAt w B (.slice (some ⟨b, o + k * 5, none⟩) (S.length - k) cap') (S.drop k) := by
  obtain ⟨a', c', e, h⟩ := h
  simp only [Value.slice.injEq] at e
  obtain ⟨rfl, _, _⟩ := e
  refine ⟨_, cap', by rw [List.length_drop], ?_⟩
  rcases h with rfl | ⟨b', o', e, hB, hc⟩
  · exact .inl (by simp)
  · injection e with e
    simp only [Addr.mk.injEq] at e
    obtain ⟨rfl, rfl, _⟩ := e
    refine .inr ⟨b, o + k * 5, rfl, hB, fun i hi => ?_⟩
    rw [List.getElem_drop, show o + k * 5 + i * 5 = o + (k + i) * 5 by omega]
    exact hc (k + i) (by simp at hi; omega)
end Svp
end Go.Proofs.Ytgenjbeamlffmaa

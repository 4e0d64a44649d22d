/- What is kept, as plain facts: the place of the entry of a script on texts among entries, and when entries are right. No condition. -/
import Derived.Test.YtopplljilmjjgaaEn
import Derived.Test.YtopplljilmjjgaaBlp
namespace Go.Proofs.Ytopplljilmjjgaa
namespace Kf
open Bl Rx
abbrev Pen (q : Ent) : Prop := q.2.1.size ≤ 1048576 ∧ q.2.2.1.length ≤ 1048576 ∧ (∀ p ∈ q.2.2.1, p.2.2.2.size ≤ 1048576) ∧ q.2.2.2.length ≤ 1048576 ∧ (∀ p ∈ q.2.2.2, p.size ≤ 1048576)
/-- Whether an entry is one of a script on texts. -/
def hit (L : List Ln) (N : List ByteArray) (e : Ent) : Bool := decide (e.2.2.1 = L) && decide (e.2.2.2 = N)
/-- The place of the entry of a script on texts, or -1. -/
def findL (E : List Ent) (L : List Ln) (N : List ByteArray) : Int := match E.findIdx? (hit L N) with | some i => (i : Int) | none => -1
theorem find_hit {E : List Ent} {L : List Ln} {N : List ByteArray} {j : Nat} {x : Ent} (hx : E[j]? = some x) (h : hit L N x = true) (ha : ∀ i x, i < j → E[i]? = some x → hit L N x = false) : findL E L N = (j : Int) := by
  obtain ⟨hj, rfl⟩ := List.getElem?_eq_some_iff.1 hx
  have : E.findIdx? (hit L N) = some j := by
    rw [List.findIdx?_eq_some_iff_getElem]
    exact ⟨hj, h, fun i hi => by rw [ha i _ hi (List.getElem?_eq_getElem (by omega))]; simp⟩
  unfold findL
  rw [this]
theorem find_none {E : List Ent} {L : List Ln} {N : List ByteArray} (ha : ∀ i x, i < E.length → E[i]? = some x → hit L N x = false) : findL E L N = -1 := by
  have : E.findIdx? (hit L N) = none := by
    rw [List.findIdx?_eq_none_iff]
    intro x hx
    obtain ⟨i, hi, rfl⟩ := List.getElem_of_mem hx
    exact ha i _ hi (List.getElem?_eq_getElem hi)
  unfold findL
  rw [this]
theorem find_cases (E : List Ent) (L : List Ln) (N : List ByteArray) : (findL E L N = -1 ∧ ∀ x ∈ E, hit L N x = false) ∨ ∃ (j : Nat) (x : Ent), findL E L N = (j : Int) ∧ E[j]? = some x ∧ hit L N x = true ∧ ∀ i x, i < j → E[i]? = some x → hit L N x = false := by
  unfold findL
  rcases h : E.findIdx? (hit L N) with _ | j
  · left
    exact ⟨rfl, List.findIdx?_eq_none_iff.1 h⟩
  · right
    obtain ⟨hj, h1, h2⟩ := List.findIdx?_eq_some_iff_getElem.1 h
    refine ⟨j, E[j], rfl, List.getElem?_eq_getElem hj, h1, fun i x hi hx => ?_⟩
    obtain ⟨hi', rfl⟩ := List.getElem?_eq_some_iff.1 hx
    have := h2 i hi
    simpa using this
theorem find_bound (E : List Ent) (L : List Ln) (N : List ByteArray) : -1 ≤ findL E L N ∧ findL E L N < (E.length : Int) := by
  rcases find_cases E L N with ⟨h, _⟩ | ⟨j, x, h, hx, _⟩
  · omega
  · have := (List.getElem?_eq_some_iff.1 hx).1
    omega
theorem hit_iff {L : List Ln} {N : List ByteArray} {e : Ent} : hit L N e = true ↔ e.2.2.1 = L ∧ e.2.2.2 = N := by simp [hit]
theorem hit_self (e : Ent) : hit e.2.2.1 e.2.2.2 e = true := by simp [hit]
/-- Whether an entry is right by itself. -/
def entOk (e : Ent) : Bool := scOk e.2.2.1 e.2.2.2.length && thOk e.2.2.2 && decide ((e.1, e.2.1) = runMade e.2.2.1 e.2.2.2)
/-- Whether the entries up to one are right. -/
def oksL (E : List Ent) (k : Nat) : Bool := (List.range k).all fun i => match E[i]? with | some e => entOk e && decide (findL (E.take i) e.2.2.1 e.2.2.2 = -1) | none => true
def koL (E : List Ent) : Bool := decide (E.length ≤ 60) && oksL E E.length
theorem oks_iff {E : List Ent} {k : Nat} : oksL E k = true ↔ ∀ i e, i < k → E[i]? = some e → entOk e = true ∧ findL (E.take i) e.2.2.1 e.2.2.2 = -1 := by
  unfold oksL
  rw [List.all_eq_true]
  constructor
  · intro h i e hi he
    have := h i (List.mem_range.2 hi)
    rw [he] at this
    simpa using this
  · intro h i hi
    rcases he : E[i]? with _ | e
    · rfl
    · have := h i e (List.mem_range.1 hi) he
      simpa using this
theorem oks_next {E : List Ent} {k : Nat} {e : Ent} (he : E[k]? = some e) (h : oksL E k = true) (h1 : entOk e = true) (h2 : findL (E.take k) e.2.2.1 e.2.2.2 = -1) : oksL E (k + 1) = true := by
  rw [oks_iff] at h ⊢
  intro i x hi hx
  by_cases e' : i = k
  · subst e'
    rw [he] at hx
    cases hx
    exact ⟨h1, h2⟩
  · exact h i x (by omega) hx
theorem ko_iff {E : List Ent} : koL E = true ↔ E.length ≤ 60 ∧ oksL E E.length = true := by simp [koL]
theorem ko_long {E : List Ent} (h : 60 < E.length) : koL E = false := by
  unfold koL
  rw [decide_eq_false (by omega)]
  rfl
theorem ko_bad {E : List Ent} {k : Nat} {e : Ent} (he : E[k]? = some e) (h : ¬ (entOk e = true ∧ findL (E.take k) e.2.2.1 e.2.2.2 = -1)) : koL E = false := by
  rcases hk : koL E
  · rfl
  · exact absurd (oks_iff.1 (ko_iff.1 hk).2 k e (List.getElem?_eq_some_iff.1 he).1 he) h
/-- Among the entries before one there is none of its script on its texts just if it is the first one of these. -/
theorem find_take {E : List Ent} {k : Nat} {e : Ent} (he : E[k]? = some e) : findL (E.take k) e.2.2.1 e.2.2.2 = -1 ↔ ¬ findL E e.2.2.1 e.2.2.2 < (k : Int) := by
  have hk := (List.getElem?_eq_some_iff.1 he).1
  constructor
  · intro h hlt
    rcases find_cases E e.2.2.1 e.2.2.2 with ⟨h1, h2⟩ | ⟨j, x, h1, hx, h2, h3⟩
    · have := h2 e (List.mem_of_getElem? he)
      rw [hit_self] at this
      cases this
    · have hj : j < k := by omega
      rcases find_cases (E.take k) e.2.2.1 e.2.2.2 with ⟨_, h4⟩ | ⟨j', x', h4, _⟩
      · have := h4 x (List.mem_of_getElem? (i := j) (by rw [List.getElem?_take_of_lt hj]; exact hx))
        rw [h2] at this
        cases this
      · omega
  · intro h
    refine find_none fun i x hi hx => ?_
    rw [List.length_take] at hi
    rw [List.getElem?_take_of_lt (by omega)] at hx
    rcases hh : hit e.2.2.1 e.2.2.2 x
    · rfl
    · exfalso
      rcases find_cases E e.2.2.1 e.2.2.2 with ⟨_, h2⟩ | ⟨j, y, h1, hy, h2, h3⟩
      · rw [h2 x (List.mem_of_getElem? hx)] at hh
        cases hh
      · by_cases hij : i < j
        · rw [h3 i x hij hx] at hh
          cases hh
        · omega
end Kf
end Go.Proofs.Ytopplljilmjjgaa

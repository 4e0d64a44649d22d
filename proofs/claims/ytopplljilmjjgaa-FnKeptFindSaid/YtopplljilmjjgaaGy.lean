/- Groundwork over this seat's translation: Kfp, Kbp in one text; the conditions stand at each part. -/
import Derived.Test.YtopplljilmjjgaaEn
import Derived.Test.YtopplljilmjjgaaBlp

/- What is kept, as plain facts: the place of the entry of a script on texts among entries, and when entries are right. No condition. -/
namespace Go.Proofs.Ytopplljilmjjgaa
namespace Kf
open Bl Rx
abbrev Pen (q : Ent) : Prop := q.2.1.size ≤ 1048576 ∧ q.2.2.1.length ≤ 1048576 ∧ (∀ p ∈ q.2.2.1, p.2.2.2.size ≤ 1048576) ∧ q.2.2.2.length ≤ 1048576 ∧ (∀ p ∈ q.2.2.2, p.size ≤ 1048576)
/-- Whether an entry is one of a script on texts. -/
def hit (L : List Ln) (N : List ByteArray) (e : Ent) : Bool := decide (e.2.2.1 = L) && decide (e.2.2.2 = N)
/-- The place of the entry of a script on texts, or -1. -/
def findL (E : List Ent) (L : List Ln) (N : List ByteArray) : Int := match E.findIdx? (hit L N) with | some i => (i : Int) | none => -1
theorem find_hit {E : List Ent} {L : List Ln} {N : List ByteArray} {j : Nat} {x : Ent} (hx : E[j]? = some x) (h : hit L N x = true) (ha : ∀ i x, i < j → E[i]? = some x → hit L N x = false) : findL E L N = (j : Int) := by
  obtain ⟨hj, rfl⟩ := List.getElem?_eq_some_iff.1 hx
  have : E.findIdx? (hit L N) = some j := by
    rw [List.findIdx?_eq_some_iff_getElem]
    exact ⟨hj, h, fun i hi => by rw [ha i _ hi (List.getElem?_eq_getElem (by omega))]; simp⟩
  unfold findL
  rw [this]
theorem find_none {E : List Ent} {L : List Ln} {N : List ByteArray} (ha : ∀ i x, i < E.length → E[i]? = some x → hit L N x = false) : findL E L N = -1 := by
  have : E.findIdx? (hit L N) = none := by
    rw [List.findIdx?_eq_none_iff]
    intro x hx
    obtain ⟨i, hi, rfl⟩ := List.getElem_of_mem hx
    exact ha i _ hi (List.getElem?_eq_getElem hi)
  unfold findL
  rw [this]
theorem find_cases (E : List Ent) (L : List Ln) (N : List ByteArray) : (findL E L N = -1 ∧ ∀ x ∈ E, hit L N x = false) ∨ ∃ (j : Nat) (x : Ent), findL E L N = (j : Int) ∧ E[j]? = some x ∧ hit L N x = true ∧ ∀ i x, i < j → E[i]? = some x → hit L N x = false := by
  unfold findL
  rcases h : E.findIdx? (hit L N) with _ | j
  · left
    exact ⟨rfl, List.findIdx?_eq_none_iff.1 h⟩
  · right
    obtain ⟨hj, h1, h2⟩ := List.findIdx?_eq_some_iff_getElem.1 h
    refine ⟨j, E[j], rfl, List.getElem?_eq_getElem hj, h1, fun i x hi hx => ?_⟩
    obtain ⟨hi', rfl⟩ := List.getElem?_eq_some_iff.1 hx
    have := h2 i hi
    simpa using this
theorem find_bound (E : List Ent) (L : List Ln) (N : List ByteArray) : -1 ≤ findL E L N ∧ findL E L N < (E.length : Int) := by
  rcases find_cases E L N with ⟨h, _⟩ | ⟨j, x, h, hx, _⟩
  · omega
  · have := (List.getElem?_eq_some_iff.1 hx).1
    omega
theorem hit_iff {L : List Ln} {N : List ByteArray} {e : Ent} : hit L N e = true ↔ e.2.2.1 = L ∧ e.2.2.2 = N := by simp [hit]
theorem hit_self (e : Ent) : hit e.2.2.1 e.2.2.2 e = true := by simp [hit]
/-- Whether an entry is right by itself. -/
def entOk (e : Ent) : Bool := scOk e.2.2.1 e.2.2.2.length && thOk e.2.2.2 && decide ((e.1, e.2.1) = runMade e.2.2.1 e.2.2.2)
/-- Whether the entries up to one are right. -/
def oksL (E : List Ent) (k : Nat) : Bool := (List.range k).all fun i => match E[i]? with | some e => entOk e && decide (findL (E.take i) e.2.2.1 e.2.2.2 = -1) | none => true
def koL (E : List Ent) : Bool := decide (E.length ≤ 60) && oksL E E.length
theorem oks_iff {E : List Ent} {k : Nat} : oksL E k = true ↔ ∀ i e, i < k → E[i]? = some e → entOk e = true ∧ findL (E.take i) e.2.2.1 e.2.2.2 = -1 := by
  unfold oksL
  rw [List.all_eq_true]
  constructor
  · intro h i e hi he
    have := h i (List.mem_range.2 hi)
    rw [he] at this
    simpa using this
  · intro h i hi
    rcases he : E[i]? with _ | e
    · rfl
    · have := h i e (List.mem_range.1 hi) he
      simpa using this
theorem oks_next {E : List Ent} {k : Nat} {e : Ent} (he : E[k]? = some e) (h : oksL E k = true) (h1 : entOk e = true) (h2 : findL (E.take k) e.2.2.1 e.2.2.2 = -1) : oksL E (k + 1) = true := by
  rw [oks_iff] at h ⊢
  intro i x hi hx
  by_cases e' : i = k
  · subst e'
    rw [he] at hx
    cases hx
    exact ⟨h1, h2⟩
  · exact h i x (by omega) hx
theorem ko_iff {E : List Ent} : koL E = true ↔ E.length ≤ 60 ∧ oksL E E.length = true := by simp [koL]
theorem ko_long {E : List Ent} (h : 60 < E.length) : koL E = false := by
  unfold koL
  rw [decide_eq_false (by omega)]
  rfl
theorem ko_bad {E : List Ent} {k : Nat} {e : Ent} (he : E[k]? = some e) (h : ¬ (entOk e = true ∧ findL (E.take k) e.2.2.1 e.2.2.2 = -1)) : koL E = false := by
  rcases hk : koL E
  · rfl
  · exact absurd (oks_iff.1 (ko_iff.1 hk).2 k e (List.getElem?_eq_some_iff.1 he).1 he) h
/-- Among the entries before one there is none of its script on its texts just if it is the first one of these. -/
theorem find_take {E : List Ent} {k : Nat} {e : Ent} (he : E[k]? = some e) : findL (E.take k) e.2.2.1 e.2.2.2 = -1 ↔ ¬ findL E e.2.2.1 e.2.2.2 < (k : Int) := by
  have hk := (List.getElem?_eq_some_iff.1 he).1
  constructor
  · intro h hlt
    rcases find_cases E e.2.2.1 e.2.2.2 with ⟨h1, h2⟩ | ⟨j, x, h1, hx, h2, h3⟩
    · have := h2 e (List.mem_of_getElem? he)
      rw [hit_self] at this
      cases this
    · have hj : j < k := by omega
      rcases find_cases (E.take k) e.2.2.1 e.2.2.2 with ⟨_, h4⟩ | ⟨j', x', h4, _⟩
      · have := h4 x (List.mem_of_getElem? (i := j) (by rw [List.getElem?_take_of_lt hj]; exact hx))
        rw [h2] at this
        cases this
      · omega
  · intro h
    refine find_none fun i x hi hx => ?_
    rw [List.length_take] at hi
    rw [List.getElem?_take_of_lt (by omega)] at hx
    rcases hh : hit e.2.2.1 e.2.2.2 x
    · rfl
    · exfalso
      rcases find_cases E e.2.2.1 e.2.2.2 with ⟨_, h2⟩ | ⟨j, y, h1, hy, h2, h3⟩
      · rw [h2 x (List.mem_of_getElem? hx)] at hh
        cases hh
      · by_cases hij : i < j
        · rw [h3 i x hij hx] at hh
          cases hh
        · omega
end Kf
end Go.Proofs.Ytopplljilmjjgaa

/- Builds with what is kept, as plain facts: what each target comes to, what is kept behind it, and which steps are run. No condition. -/
namespace Go.Proofs.Ytopplljilmjjgaa
namespace Kb
open Bl Kf Wl Rx
abbrev St := List Mde × List Ent × List Int
/-- What an entry of a place made. -/
def mAt (K : List Ent) (i : Int) : Mde := match K[i.toNat]? with | some e => (e.1, e.2.1) | none => (false, ⟨#[]⟩)
def kStep (k : Nat) (x : Tgt) (s : St) : St :=
  if x.1 = false then (s.1 ++ [(true, x.2.1)], s.2.1, s.2.2)
  else if allMade s.1 x.2.2.2 = false then (s.1 ++ [(false, ⟨#[]⟩)], s.2.1, s.2.2)
  else if 0 ≤ findL s.2.1 x.2.2.1 (textsOf s.1 x.2.2.2) then (s.1 ++ [mAt s.2.1 (findL s.2.1 x.2.2.1 (textsOf s.1 x.2.2.2))], s.2.1, s.2.2)
  else (s.1 ++ [runMade x.2.2.1 (textsOf s.1 x.2.2.2)], if s.2.1.length < 60 then s.2.1 ++ [((runMade x.2.2.1 (textsOf s.1 x.2.2.2)).1, (runMade x.2.2.1 (textsOf s.1 x.2.2.2)).2, x.2.2.1, textsOf s.1 x.2.2.2)] else s.2.1, s.2.2 ++ [(k : Int)])
def kFrom (k : Nat) : List Tgt → St → St
  | [], s => s
  | x :: t, s => kFrom (k + 1) t (kStep k x s)
def keptB (S : List Tgt) (E : List Ent) : St := if wOk S = true ∧ koL E = true then kFrom 0 S ([], E, []) else ([], [], [])
theorem kFrom_at {S : List Tgt} {k : Nat} {x : Tgt} {s : St} (h : S[k]? = some x) : kFrom k (S.drop k) s = kFrom (k + 1) (S.drop (k + 1)) (kStep k x s) := by
  obtain ⟨hk, rfl⟩ := List.getElem?_eq_some_iff.1 h
  rw [List.drop_eq_getElem_cons hk]
  rfl
theorem step_src {k : Nat} {t : ByteArray} {L : List Ln} {N : List Int} {D : List Mde} {K : List Ent} {R : List Int} : kStep k (false, t, L, N) (D, K, R) = (D ++ [(true, t)], K, R) := by
  unfold kStep
  rw [if_pos rfl]
theorem step_no {k : Nat} {t : ByteArray} {L : List Ln} {N : List Int} {D : List Mde} {K : List Ent} {R : List Int} (h : allMade D N = false) : kStep k (true, t, L, N) (D, K, R) = (D ++ [(false, ⟨#[]⟩)], K, R) := by
  unfold kStep
  rw [if_neg (show ¬ (true = false) by decide), if_pos h]
theorem step_hit {k : Nat} {t : ByteArray} {L : List Ln} {N : List Int} {D : List Mde} {K : List Ent} {R : List Int} (h : allMade D N = true) (hf : 0 ≤ findL K L (textsOf D N)) : kStep k (true, t, L, N) (D, K, R) = (D ++ [mAt K (findL K L (textsOf D N))], K, R) := by
  unfold kStep
  rw [if_neg (show ¬ (true = false) by decide), if_neg (by show ¬ allMade D N = false; rw [h]; decide)]
  exact if_pos hf
theorem step_run {k : Nat} {t : ByteArray} {L : List Ln} {N : List Int} {D : List Mde} {K : List Ent} {R : List Int} (h : allMade D N = true) (hf : ¬ 0 ≤ findL K L (textsOf D N)) :
    kStep k (true, t, L, N) (D, K, R) = (D ++ [runMade L (textsOf D N)], if K.length < 60 then K ++ [((runMade L (textsOf D N)).1, (runMade L (textsOf D N)).2, L, textsOf D N)] else K, R ++ [(k : Int)]) := by
  unfold kStep
  rw [if_neg (show ¬ (true = false) by decide), if_neg (by show ¬ allMade D N = false; rw [h]; decide)]
  exact if_neg hf
/-- An entry that is kept is small. -/
def Sml (e : Ent) : Prop := e.2.1.size ≤ 40 ∧ e.2.2.1.length ≤ 10 ∧ (∀ p ∈ e.2.2.1, p.2.2.2.size ≤ 1048576) ∧ e.2.2.2.length ≤ 12 ∧ (∀ p ∈ e.2.2.2, p.size ≤ 40)
theorem Sml.pen {e : Ent} (h : Sml e) : Pen e := ⟨Nat.le_trans h.1 (by decide), Nat.le_trans h.2.1 (by decide), h.2.2.1, Nat.le_trans h.2.2.2.1 (by decide), fun p hp => Nat.le_trans (h.2.2.2.2 p hp) (by decide)⟩
theorem ent_sml {e : Ent} (h : entOk e = true) (hp : Pen e) : Sml e := by
  unfold entOk at h
  simp only [Bool.and_eq_true, decide_eq_true_eq] at h
  obtain ⟨⟨h1, h2⟩, h3⟩ := h
  have h4 := runMade_small e.2.2.1 e.2.2.2
  rw [← h3] at h4
  exact ⟨h4, scOk_len h1, hp.2.2.1, by have := thOk_len h2; omega, thOk_at h2⟩
theorem ko_sml {E : List Ent} (h : koL E = true) (hp : ∀ q ∈ E, Pen q) : ∀ q ∈ E, Sml q := fun q hq => by
  obtain ⟨i, hi, rfl⟩ := List.getElem_of_mem hq
  exact ent_sml (oks_iff.1 (ko_iff.1 h).2 i _ hi (List.getElem?_eq_getElem hi)).1 (hp _ hq)
/-- What the loop keeps of its three rows. -/
structure Inv (k : Nat) (s : St) : Prop where
  d : s.1.length = k
  ds : ∀ q ∈ s.1, q.2.size ≤ 40
  kl : s.2.1.length ≤ 60
  ks : ∀ e ∈ s.2.1, Sml e
  rl : s.2.2.length ≤ k
theorem inv_start {E : List Ent} (h : koL E = true) (hp : ∀ q ∈ E, Pen q) : Inv 0 ([], E, []) := ⟨rfl, (fun q hq => by cases hq), (ko_iff.1 h).1, ko_sml h hp, Nat.le_refl _⟩
theorem mAt_small {K : List Ent} (h : ∀ e ∈ K, Sml e) (i : Int) : (mAt K i).2.size ≤ 40 := by
  unfold mAt
  rcases hx : K[i.toNat]? with _ | e
  · exact Nat.zero_le _
  · exact (h e (List.mem_of_getElem? hx)).1
theorem inv_step {k : Nat} {x : Tgt} {s : St} (h : Inv k s) (ht : tOk k x = true) (hl : x.2.2.2.length ≤ 12) (hq : ∀ p ∈ x.2.2.1, p.2.2.2.size ≤ 1048576) : Inv (k + 1) (kStep k x s) := by
  have small : ∀ {m : Mde}, m.2.size ≤ 40 → ∀ q ∈ s.1 ++ [m], q.2.size ≤ 40 := fun hm => small_push h.ds hm
  have len : ∀ {m : Mde}, (s.1 ++ [m]).length = k + 1 := by intro m; simp [h.d]
  unfold kStep
  split
  · exact ⟨len, small (tOk_text ht), h.kl, h.ks, Nat.le_succ_of_le h.rl⟩
  · rename_i h1
    have hm : x.1 = true := by rcases hx : x.1; exact absurd hx h1; rfl
    split
    · exact ⟨len, small (Nat.zero_le _), h.kl, h.ks, Nat.le_succ_of_le h.rl⟩
    · split
      · exact ⟨len, small (mAt_small h.ks _), h.kl, h.ks, Nat.le_succ_of_le h.rl⟩
      · refine ⟨len, small (runMade_small _ _), ?_, ?_, by have := h.rl; simp; omega⟩
        · show (if s.2.1.length < 60 then _ else s.2.1).length ≤ 60
          split
          · simp; omega
          · exact h.kl
        · intro e he
          have he : e ∈ (if s.2.1.length < 60 then s.2.1 ++ [((runMade x.2.2.1 (textsOf s.1 x.2.2.2)).1, (runMade x.2.2.1 (textsOf s.1 x.2.2.2)).2, x.2.2.1, textsOf s.1 x.2.2.2)] else s.2.1) := he
          split at he
          · rcases List.mem_append.1 he with he | he
            · exact h.ks e he
            · simp at he
              subst he
              exact ⟨runMade_small _ _, scOk_len (tOk_step ht hm).2.2, hq, by show (textsOf s.1 x.2.2.2).length ≤ 12; rw [texts_len]; exact hl, textsOf_small h.ds _⟩
          · exact h.ks e he
end Kb
end Go.Proofs.Ytopplljilmjjgaa

/- Plain facts on ranges, with no program in them: what the promises on turning, cutting and laying together of ranges come to. -/
import Derived.Test.YtdhbjjolgmodjaaImset
import Derived.Test.YtdhbjjolgmodjaaHas
import Derived.Test.YtdhbjjolgmodjaaImone
namespace Go.Proofs.Ytdhbjjolgmodjaa

theorem inL_mem {n : Int} {L : Sps} : inL n L = true ↔ mem n L := by
  simp only [inL, List.any_eq_true, inB_iff, mem]
theorem fitOk_iff {L : Sps} : fitOk L = true ↔ L.length ≤ 40 := by simp [fitOk]
theorem fitR_ok {L : Sps} (h : L.length ≤ 40) : fitR L = L := if_pos h
theorem spOk_len {L : Sps} (h : spOk L = true) : L.length ≤ 1048576 := by have := (spOk_iff.1 h).2; omega

theorem notR_none {A : Sps} (h : notOk A = false) : notR A = [] := by
  unfold notOk at h
  unfold notR fitR
  split
  · rename_i hA
    rw [hA, Bool.true_and] at h
    rw [if_neg (by simpa [fitOk] using h)]
  · rfl
theorem andR_none {A B : Sps} (h : andOk A B = false) : andR A B = [] := by
  unfold andOk at h
  unfold andR fitR
  split
  · rename_i hA
    rw [hA, Bool.true_and] at h
    rw [if_neg (by simpa [fitOk] using h)]
  · rfl
theorem orR_none {A B : Sps} (h : orOk A B = false) : orR A B = [] := by
  unfold orOk at h
  unfold orR fitR
  split
  · rename_i hA
    rw [hA, Bool.true_and] at h
    rw [if_neg (by simpa [fitOk] using h)]
  · rfl

theorem notOk_iff {A : Sps} : notOk A = true ↔ Wf 0 A ∧ A.length ≤ 40 ∧ (notL A).length ≤ 40 := by
  simp only [notOk, Bool.and_eq_true, spOk_iff, fitOk_iff, and_assoc]
theorem andOk_iff {A B : Sps} : andOk A B = true ↔ Wf 0 A ∧ A.length ≤ 40 ∧ Wf 0 B ∧ B.length ≤ 40 ∧ (andI A B).length ≤ 40 := by
  simp only [andOk, Bool.and_eq_true, spOk_iff, fitOk_iff, and_assoc]
theorem orOk_iff {A B : Sps} : orOk A B = true ↔ Wf 0 A ∧ A.length ≤ 40 ∧ Wf 0 B ∧ B.length ≤ 40 ∧ (orI A B).length ≤ 40 := by
  simp only [orOk, Bool.and_eq_true, spOk_iff, fitOk_iff, and_assoc]
theorem notR_eq {A : Sps} (h : notOk A = true) : notR A = notL A := by
  obtain ⟨h1, h2, h3⟩ := notOk_iff.1 h
  unfold notR
  rw [if_pos (spOk_iff.2 ⟨h1, h2⟩), fitR_ok h3]
theorem andR_eq {A B : Sps} (h : andOk A B = true) : andR A B = andI A B := by
  obtain ⟨h1, h2, h3, h4, h5⟩ := andOk_iff.1 h
  unfold andR
  rw [if_pos (by rw [spOk_iff.2 ⟨h1, h2⟩, spOk_iff.2 ⟨h3, h4⟩]; rfl), fitR_ok h5]
theorem orR_eq {A B : Sps} (h : orOk A B = true) : orR A B = orI A B := by
  obtain ⟨h1, h2, h3, h4, h5⟩ := orOk_iff.1 h
  unfold orR
  rw [if_pos (by rw [spOk_iff.2 ⟨h1, h2⟩, spOk_iff.2 ⟨h3, h4⟩]; rfl), fitR_ok h5]
theorem fitR_len (L : Sps) : (fitR L).length ≤ 1048576 := by
  unfold fitR
  split
  · omega
  · simp
theorem notR_len (A : Sps) : (notR A).length ≤ 1048576 := by
  unfold notR
  split
  · exact fitR_len _
  · simp
theorem andR_len (A B : Sps) : (andR A B).length ≤ 1048576 := by
  unfold andR
  split
  · exact fitR_len _
  · simp
theorem orR_len (A B : Sps) : (orR A B).length ≤ 1048576 := by
  unfold orR
  split
  · exact fitR_len _
  · simp

/-- FnRangeNot's facts. -/
theorem not_not {A : Sps} (h : Wf 0 A) : notL (notL A) = A := by
  have h1 := notL_wf h
  refine wf_unique (notL_wf h1) h fun n => ?_
  rw [notL_mem h1, notL_mem h]
  constructor
  · rintro ⟨k0, k1, k2⟩
    by_cases hm : mem n A
    · exact hm
    · exact absurd ⟨k0, k1, hm⟩ k2
  · intro hm
    have := Wf.mem_lo h hm
    exact ⟨this.1, this.2, fun k => k.2.2 hm⟩
theorem wf_nil : Wf 0 [] := trivial
theorem wf_all : Wf 0 [(0, 9999999)] := ⟨by omega, by omega, by omega, trivial⟩
theorem mem_one {n x y : Int} : mem n [(x, y)] ↔ x ≤ n ∧ n ≤ y := by
  rw [mem_cons]
  constructor
  · rintro (h | h)
    · exact h
    · exact absurd h (mem_nil _)
  · exact .inl
theorem and_not {A : Sps} (h : Wf 0 A) : andI A (notL A) = [] := by
  refine wf_unique (andI_wf0 h (notL_wf h)) wf_nil fun n => ?_
  rw [andI_mem0 h (notL_wf h), notL_mem h]
  exact ⟨fun k => absurd k.1 k.2.2.2, fun k => absurd k (mem_nil _)⟩
theorem or_not {A : Sps} (h : Wf 0 A) : orI A (notL A) = [(0, 9999999)] := by
  refine wf_unique (orI_wf h (notL_wf h)) wf_all fun n => ?_
  rw [orI_mem h (notL_wf h), notL_mem h, mem_one]
  constructor
  · rintro (k | k)
    · exact Wf.mem_lo h k
    · exact ⟨k.1, k.2.1⟩
  · rintro ⟨k0, k1⟩
    by_cases hm : mem n A
    · exact .inl hm
    · exact .inr ⟨k0, k1, hm⟩
theorem not_facts {A : Sps} (h : notOk A = true) : spOk (notR A) = true ∧ notOk (notR A) = true ∧ notR (notR A) = A ∧ andOk A (notR A) = true ∧ andR A (notR A) = [] ∧ orOk A (notR A) = true ∧ orR A (notR A) = [(0, 9999999)] := by
  have e := notR_eq h
  obtain ⟨h1, h2, h3⟩ := notOk_iff.1 h
  rw [e]
  have w1 := notL_wf h1
  have o1 : notOk (notL A) = true := notOk_iff.2 ⟨w1, h3, by rw [not_not h1]; exact h2⟩
  have o2 : andOk A (notL A) = true := andOk_iff.2 ⟨h1, h2, w1, h3, by rw [and_not h1]; simp⟩
  have o3 : orOk A (notL A) = true := orOk_iff.2 ⟨h1, h2, w1, h3, by rw [or_not h1]; simp⟩
  exact ⟨spOk_iff.2 ⟨w1, h3⟩, o1, by rw [notR_eq o1, not_not h1], o2, by rw [andR_eq o2, and_not h1], o3, by rw [orR_eq o3, or_not h1]⟩

/-- FnRangeAnd's facts. -/
theorem and_comm' {A B : Sps} (h : Wf 0 A) (k : Wf 0 B) : andI B A = andI A B :=
  wf_unique (andI_wf0 k h) (andI_wf0 h k) fun n => by rw [andI_mem0 k h, andI_mem0 h k]; exact And.comm
theorem and_within {A B : Sps} (h : Wf 0 A) (k : Wf 0 B) : andI (andI A B) A = andI A B :=
  wf_unique (andI_wf0 (andI_wf0 h k) h) (andI_wf0 h k) fun n => by rw [andI_mem0 (andI_wf0 h k) h, andI_mem0 h k]; exact ⟨fun x => x.1, fun x => ⟨x, x.1⟩⟩
theorem and_facts {A B : Sps} (h : andOk A B = true) : spOk (andR A B) = true ∧ andR B A = andR A B ∧ andR (andR A B) A = andR A B := by
  have e := andR_eq h
  obtain ⟨h1, h2, h3, h4, h5⟩ := andOk_iff.1 h
  rw [e]
  have w := andI_wf0 h1 h3
  have o1 : andOk B A = true := andOk_iff.2 ⟨h3, h4, h1, h2, by rw [and_comm' h1 h3]; exact h5⟩
  have o2 : andOk (andI A B) A = true := andOk_iff.2 ⟨w, h5, h1, h2, by rw [and_within h1 h3]; exact h5⟩
  exact ⟨spOk_iff.2 ⟨w, h5⟩, by rw [andR_eq o1, and_comm' h1 h3], by rw [andR_eq o2, and_within h1 h3]⟩

/-- FnRangeOr's facts. -/
theorem or_facts {A B : Sps} (h : orOk A B = true) : spOk (orR A B) = true ∧ (notOk A = true → notOk B = true → andOk (notR A) (notR B) = true → notOk (andR (notR A) (notR B)) = true → notR (andR (notR A) (notR B)) = orR A B) := by
  have e := orR_eq h
  obtain ⟨h1, h2, h3, h4, h5⟩ := orOk_iff.1 h
  rw [e]
  refine ⟨spOk_iff.2 ⟨orI_wf h1 h3, h5⟩, fun k1 k2 k3 k4 => ?_⟩
  rw [notR_eq k4, andR_eq k3, notR_eq k1, notR_eq k2]
  rfl

/-- FnRangeLaw's facts: laying together and cutting go over each other, and truth says what is in. -/
theorem law_facts {A B C : Sps} (h1 : orOk A B = true) (h2 : andOk (orR A B) C = true) (h3 : andOk A C = true) (h4 : andOk B C = true) (h5 : orOk (andR A C) (andR B C) = true) :
    andR (orR A B) C = orR (andR A C) (andR B C) ∧ ∀ a b c d, hasL (andR (orR A B) C) a b c d = ((hasL A a b c d || hasL B a b c d) && hasL C a b c d) := by
  obtain ⟨a1, a2, a3, a4, a5⟩ := orOk_iff.1 h1
  obtain ⟨b1, b2, b3, b4, b5⟩ := andOk_iff.1 h3
  have e1 := orR_eq h1
  have e2 := andR_eq h2
  have e3 := andR_eq h3
  have e4 := andR_eq h4
  have e5 := orR_eq h5
  obtain ⟨c1, c2, c3, c4, c5⟩ := andOk_iff.1 h2
  rw [e1] at c1 c2 c5 e2
  rw [e3, e4] at e5
  have wab := orI_wf a1 a3
  have wac := andI_wf0 a1 b3
  have wbc := andI_wf0 a3 b3
  rw [e1, e2, e3, e4, e5]
  refine ⟨wf_unique (andI_wf0 wab b3) (orI_wf wac wbc) fun n => ?_, fun a b c d => ?_⟩
  · rw [andI_mem0 wab b3, orI_mem a1 a3, orI_mem wac wbc, andI_mem0 a1 b3, andI_mem0 a3 b3]
    constructor
    · rintro ⟨x | x, y⟩
      · exact .inl ⟨x, y⟩
      · exact .inr ⟨x, y⟩
    · rintro (⟨x, y⟩ | ⟨x, y⟩)
      · exact ⟨.inl x, y⟩
      · exact ⟨.inr x, y⟩
  · unfold hasL
    rw [spOk_iff.2 ⟨andI_wf0 wab b3, c5⟩, spOk_iff.2 ⟨a1, a2⟩, spOk_iff.2 ⟨a3, a4⟩, spOk_iff.2 ⟨b3, b4⟩]
    simp only [Bool.true_and]
    cases hv : vOk a b c d
    · rfl
    · simp only [Bool.true_and]
      rw [Bool.eq_iff_iff, Bool.and_eq_true, Bool.or_eq_true, inL_mem, inL_mem, inL_mem, inL_mem, andI_mem0 wab b3, orI_mem a1 a3]

/-- FnRangeOk's fact: with its first span twice it is none. -/
theorem twice_none (p : Int × Int) (t : Sps) : spOk (p :: p :: t) = false := by
  rw [Bool.eq_false_iff]
  intro h
  obtain ⟨h, _⟩ := spOk_iff.1 h
  obtain ⟨a, b⟩ := p
  obtain ⟨_, h2, _, h4⟩ := h
  obtain ⟨h5, _⟩ := h4
  omega

/-- FnRangeHas' facts. -/
theorem all_ok : spOk [(0, 9999999)] = true := spOk_iff.2 ⟨wf_all, by simp⟩
theorem nil_ok : spOk [] = true := spOk_iff.2 ⟨wf_nil, by simp⟩
theorem rk_in {a b c d : Int} (h : vOk a b c d = true) : 0 ≤ rk a b c d ∧ rk a b c d ≤ 9999999 := by
  have := vOk_iff.1 h
  unfold rk
  omega
theorem has_facts {L : Sps} {a b c d : Int} (hL : spOk L = true) (hv : vOk a b c d = true) :
    andOk L (oneL a b c d) = true ∧ hasL L a b c d = decide (andR L (oneL a b c d) = oneL a b c d) ∧ hasL [(0, 9999999)] a b c d = true ∧ hasL [] a b c d = false := by
  obtain ⟨w, hl⟩ := spOk_iff.1 hL
  obtain ⟨r0, r1⟩ := rk_in hv
  have eo : oneL a b c d = [(rk a b c d, rk a b c d)] := by simp [oneL, hv]
  rw [eo]
  have wo : Wf 0 [(rk a b c d, rk a b c d)] := ⟨r0, Int.le_refl _, r1, trivial⟩
  have key : (mem (rk a b c d) L → andI L [(rk a b c d, rk a b c d)] = [(rk a b c d, rk a b c d)]) ∧ (¬ mem (rk a b c d) L → andI L [(rk a b c d, rk a b c d)] = []) := by
    refine ⟨fun hm => wf_unique (andI_wf0 w wo) wo fun n => ?_, fun hm => wf_unique (andI_wf0 w wo) wf_nil fun n => ?_⟩
    · rw [andI_mem0 w wo, mem_one]
      exact ⟨fun k => k.2, fun k => ⟨by obtain rfl : n = rk a b c d := by omega
                                        exact hm, k⟩⟩
    · rw [andI_mem0 w wo, mem_one]
      exact ⟨fun k => absurd (by obtain rfl : n = rk a b c d := by omega
                                 exact k.1) hm, fun k => absurd k (mem_nil _)⟩
  have ha : andOk L [(rk a b c d, rk a b c d)] = true := by
    refine andOk_iff.2 ⟨w, hl, wo, by simp, ?_⟩
    by_cases hm : mem (rk a b c d) L
    · rw [key.1 hm]; simp
    · rw [key.2 hm]; simp
  refine ⟨ha, ?_, ?_, ?_⟩
  · rw [andR_eq ha]
    unfold hasL
    rw [hL, hv, Bool.true_and, Bool.true_and]
    by_cases hm : mem (rk a b c d) L
    · rw [inL_mem.2 hm, key.1 hm]; simp
    · rw [key.2 hm]
      have : inL (rk a b c d) L = false := by rw [Bool.eq_false_iff]; exact fun k => hm (inL_mem.1 k)
      rw [this]; simp
  · unfold hasL
    rw [all_ok, hv, Bool.true_and, Bool.true_and]
    exact inL_mem.2 (mem_one.2 ⟨r0, r1⟩)
  · unfold hasL
    rw [hv]
    simp [inL]

/-- FnRangeOne's and FnRangeFrom's facts. -/
theorem one_has (a b c d : Int) : hasL (oneL a b c d) a b c d = vOk a b c d := by
  cases hv : vOk a b c d
  · simp [hasL, hv]
  · obtain ⟨r0, r1⟩ := rk_in hv
    have eo : oneL a b c d = [(rk a b c d, rk a b c d)] := by simp [oneL, hv]
    have wo : Wf 0 [(rk a b c d, rk a b c d)] := ⟨r0, Int.le_refl _, r1, trivial⟩
    unfold hasL
    rw [hv, eo, spOk_iff.2 ⟨wo, by simp⟩, Bool.true_and, Bool.true_and]
    exact inL_mem.2 (mem_one.2 ⟨Int.le_refl _, Int.le_refl _⟩)
theorem one_not {a b c d c' : Int} (h : vOk a b c d = true → c' = (c + 1) % 100) : hasL (oneL a b c d) a b c' d = false := by
  cases hv : vOk a b c d
  · have : oneL a b c d = [] := by simp [oneL, hv]
    rw [this]
    simp [hasL, inL]
  · have eo : oneL a b c d = [(rk a b c d, rk a b c d)] := by simp [oneL, hv]
    have e := h hv
    have k := vOk_iff.1 hv
    have hn : ¬ (rk a b c d ≤ rk a b c' d ∧ rk a b c' d ≤ rk a b c d) := by unfold rk; omega
    have : inL (rk a b c' d) (oneL a b c d) = false := by
      rw [Bool.eq_false_iff, eo]
      exact fun x => hn (mem_one.1 (inL_mem.1 x))
    unfold hasL
    rw [this]
    simp
theorem from_has (a b c d : Int) : hasL (fromL a b c d) a b c d = vOk a b c d := by
  cases hv : vOk a b c d
  · simp [hasL, hv]
  · obtain ⟨r0, r1⟩ := rk_in hv
    have k := vOk_iff.1 hv
    have e1 : vRank a b c d = rk a b c d := by simp [vRank, hv]
    have e2 : vRank 0 b 99 0 = rk 0 b 99 0 := by simp [vRank, (vOk_iff.2 (by omega) : vOk 0 b 99 0 = true)]
    have e3 : vRank a 99 99 0 = rk a 99 99 0 := by simp [vRank, (vOk_iff.2 (by omega) : vOk a 99 99 0 = true)]
    have eo : fromL a b c d = [(rk a b c d, if a = 0 then rk 0 b 99 0 else rk a 99 99 0)] := by rw [fromL, if_pos hv, e1, e2, e3]
    have hle : rk a b c d ≤ (if a = 0 then rk 0 b 99 0 else rk a 99 99 0) ∧ (if a = 0 then rk 0 b 99 0 else rk a 99 99 0) ≤ 9999999 := by
      unfold rk
      split <;> omega
    have wo : Wf 0 [(rk a b c d, if a = 0 then rk 0 b 99 0 else rk a 99 99 0)] := ⟨r0, hle.1, hle.2, trivial⟩
    unfold hasL
    rw [hv, eo, spOk_iff.2 ⟨wo, by simp⟩, Bool.true_and, Bool.true_and]
    exact inL_mem.2 (mem_one.2 ⟨Int.le_refl _, hle.1⟩)
theorem from_not {a b c d a' : Int} (h : vOk a b c d = true → a' = (a + 1) % 100) : hasL (fromL a b c d) a' b c d = false := by
  cases hv : vOk a b c d
  · have : fromL a b c d = [] := by simp [fromL, hv]
    rw [this]
    simp [hasL, inL]
  · have k := vOk_iff.1 hv
    have e := h hv
    have e1 : vRank a b c d = rk a b c d := by simp [vRank, hv]
    have e2 : vRank 0 b 99 0 = rk 0 b 99 0 := by simp [vRank, (vOk_iff.2 (by omega) : vOk 0 b 99 0 = true)]
    have e3 : vRank a 99 99 0 = rk a 99 99 0 := by simp [vRank, (vOk_iff.2 (by omega) : vOk a 99 99 0 = true)]
    have eo : fromL a b c d = [(rk a b c d, if a = 0 then rk 0 b 99 0 else rk a 99 99 0)] := by rw [fromL, if_pos hv, e1, e2, e3]
    have hn : ¬ (rk a b c d ≤ rk a' b c d ∧ rk a' b c d ≤ (if a = 0 then rk 0 b 99 0 else rk a 99 99 0)) := by
      unfold rk
      split <;> omega
    have : inL (rk a' b c d) (fromL a b c d) = false := by
      rw [Bool.eq_false_iff, eo]
      exact fun x => hn (mem_one.1 (inL_mem.1 x))
    unfold hasL
    rw [this]
    simp

end Go.Proofs.Ytdhbjjolgmodjaa

/- Plain facts on rows of spans, with no program in them: rows in ascending order with a gap between are told by what is in them; what the turning, cutting and laying together of rows come to. -/
import Derived.Test.YtdjnfmekbjmdhaaSpok
namespace Go.Proofs.Ytdjnfmekbjmdhaa

abbrev Sps := List (Int × Int)

/-- A rank is in one of the spans. -/
def mem (n : Int) (L : Sps) : Prop := ∃ p ∈ L, p.1 ≤ n ∧ n ≤ p.2

theorem mem_nil (n : Int) : ¬ mem n [] := fun ⟨_, h, _⟩ => by cases h
theorem mem_cons {n : Int} {p : Int × Int} {L : Sps} : mem n (p :: L) ↔ (p.1 ≤ n ∧ n ≤ p.2) ∨ mem n L := by
  simp [mem]
theorem mem_append {n : Int} {L M : Sps} : mem n (L ++ M) ↔ mem n L ∨ mem n M := by
  simp only [mem, List.mem_append, or_and_right, exists_or]

/-- Spans in ascending order from a least rank on, with a gap between two of them, none above the greatest rank. -/
def Wf (lo : Int) : Sps → Prop
  | [] => True
  | (a, b) :: t => lo ≤ a ∧ a ≤ b ∧ b ≤ 9999999 ∧ Wf (b + 2) t

theorem Wf.mono : ∀ {L : Sps} {lo lo' : Int}, Wf lo L → lo' ≤ lo → Wf lo' L
  | [], _, _, _, _ => trivial
  | (_, _) :: _, _, _, ⟨h1, h2, h3, h4⟩, h => ⟨by omega, h2, h3, h4⟩

theorem okFrom_some {L : Sps} : ∀ {h : Int}, -2 ≤ h → (okFrom (some h) L = true ↔ Wf (h + 2) L) := by
  induction L with
  | nil => intro h _; simp [okFrom, Wf]
  | cons p t ih =>
    intro h hh
    obtain ⟨a, b⟩ := p
    simp only [okFrom, Wf, Bool.and_eq_true, inB_iff, decide_eq_true_eq]
    constructor
    · rintro ⟨h1, h2, h3, h4⟩
      exact ⟨by omega, by omega, by omega, (ih (by omega)).1 h4⟩
    · rintro ⟨h1, h2, h3, h4⟩
      exact ⟨by omega, by omega, by omega, (ih (by omega)).2 h4⟩
theorem okFrom_none {L : Sps} : okFrom none L = true ↔ Wf 0 L := by
  cases L with
  | nil => simp [okFrom, Wf]
  | cons p t =>
    obtain ⟨a, b⟩ := p
    simp only [okFrom, Wf, Bool.and_eq_true, inB_iff]
    constructor
    · rintro ⟨h1, h2, _, h4⟩
      exact ⟨by omega, by omega, by omega, (okFrom_some (by omega)).1 h4⟩
    · rintro ⟨h1, h2, h3, h4⟩
      exact ⟨by omega, by omega, trivial, (okFrom_some (by omega)).2 h4⟩
theorem spOk_iff {L : Sps} : spOk L = true ↔ Wf 0 L ∧ L.length ≤ 40 := by
  simp [spOk, okFrom_none]
theorem spOk_wf {L : Sps} (h : Wf 0 L) : spOk L = decide (L.length ≤ 40) := by
  simp [spOk, okFrom_none.2 h]

theorem Wf.mem_lo : ∀ {L : Sps} {lo n : Int}, Wf lo L → mem n L → lo ≤ n ∧ n ≤ 9999999
  | [], _, _, _, h => absurd h (mem_nil _)
  | (a, b) :: t, lo, n, ⟨h1, h2, h3, h4⟩, h => by
    rcases mem_cons.1 h with h | h
    · simp only at h; omega
    · have := Wf.mem_lo h4 h; omega

/-- Such rows are told by what is in them. -/
theorem wf_unique : ∀ {L M : Sps} {lo : Int}, Wf lo L → Wf lo M → (∀ n, mem n L ↔ mem n M) → L = M
  | [], [], _, _, _, _ => rfl
  | [], (c, d) :: u, _, _, ⟨_, h2, _, _⟩, h => absurd ((h c).2 (mem_cons.2 (.inl ⟨Int.le_refl _, h2⟩))) (mem_nil _)
  | (a, b) :: t, [], _, ⟨_, h2, _, _⟩, _, h => absurd ((h a).1 (mem_cons.2 (.inl ⟨Int.le_refl _, h2⟩))) (mem_nil _)
  | (a, b) :: t, (c, d) :: u, lo, ⟨h1, h2, h3, h4⟩, ⟨k1, k2, k3, k4⟩, h => by
    have hac : a = c := by
      have e1 := (h a).1 (mem_cons.2 (.inl ⟨Int.le_refl _, h2⟩))
      have e2 := (h c).2 (mem_cons.2 (.inl ⟨Int.le_refl _, k2⟩))
      rcases mem_cons.1 e1 with e1 | e1
      · rcases mem_cons.1 e2 with e2 | e2
        · simp only at e1 e2; omega
        · have := Wf.mem_lo h4 e2; simp only at e1; omega
      · have := Wf.mem_lo k4 e1
        rcases mem_cons.1 e2 with e2 | e2
        · simp only at e2; omega
        · have := Wf.mem_lo h4 e2; omega
    subst hac
    have hbd : b = d := by
      rcases Int.lt_trichotomy b d with hlt | heq | hlt
      · have e := (h (b + 1)).2 (mem_cons.2 (.inl ⟨by simp only; omega, by simp only; omega⟩))
        rcases mem_cons.1 e with e | e
        · simp only at e; omega
        · have := Wf.mem_lo h4 e; omega
      · exact heq
      · have e := (h (d + 1)).1 (mem_cons.2 (.inl ⟨by simp only; omega, by simp only; omega⟩))
        rcases mem_cons.1 e with e | e
        · simp only at e; omega
        · have := Wf.mem_lo k4 e; omega
    subst hbd
    rw [wf_unique h4 k4 fun n => ?_]
    constructor
    · intro e
      have := Wf.mem_lo h4 e
      rcases mem_cons.1 ((h n).1 (mem_cons.2 (.inr e))) with e' | e'
      · simp only at e'; omega
      · exact e'
    · intro e
      have := Wf.mem_lo k4 e
      rcases mem_cons.1 ((h n).2 (mem_cons.2 (.inr e))) with e' | e'
      · simp only at e'; omega
      · exact e'

/-- Where the span behind a row may begin. -/
def endOf (lo : Int) : Sps → Int
  | [] => lo
  | (_, b) :: t => endOf (b + 2) t
theorem wf_append : ∀ {X Y : Sps} {lo : Int}, Wf lo (X ++ Y) ↔ Wf lo X ∧ Wf (endOf lo X) Y
  | [], Y, lo => by simp [Wf, endOf]
  | (a, b) :: t, Y, lo => by
    simp only [List.cons_append, Wf, endOf, wf_append (X := t)]
    constructor
    · rintro ⟨h1, h2, h3, h4, h5⟩; exact ⟨⟨h1, h2, h3, h4⟩, h5⟩
    · rintro ⟨⟨h1, h2, h3, h4⟩, h5⟩; exact ⟨h1, h2, h3, h4, h5⟩
theorem endOf_snoc : ∀ {X : Sps} {lo a b : Int}, endOf lo (X ++ [(a, b)]) = b + 2
  | [], _, _, _ => rfl
  | (_, _) :: t, _, _, _ => by simp only [List.cons_append, endOf]; exact endOf_snoc (X := t)

/-- What is not in a row, from a least rank on. -/
def notFrom (low : Int) : Sps → Sps
  | [] => if low ≤ 9999999 then [(low, 9999999)] else []
  | (a, b) :: t => if low < a then (low, a - 1) :: notFrom (b + 1) t else notFrom (b + 1) t
def notL (L : Sps) : Sps := notFrom 0 L

theorem notFrom_wf : ∀ {L : Sps} {low : Int}, Wf low L → Wf low (notFrom low L)
  | [], low, _ => by
    unfold notFrom
    split
    · exact ⟨Int.le_refl _, by omega, Int.le_refl _, trivial⟩
    · trivial
  | (a, b) :: t, low, ⟨h1, h2, h3, h4⟩ => by
    have ih := notFrom_wf (h4.mono (show b + 1 ≤ b + 2 by omega))
    unfold notFrom
    split
    · exact ⟨Int.le_refl _, by omega, by omega, ih.mono (by omega)⟩
    · exact ih.mono (by omega)
theorem notFrom_mem : ∀ {L : Sps} {low n : Int}, Wf low L → (mem n (notFrom low L) ↔ low ≤ n ∧ n ≤ 9999999 ∧ ¬ mem n L)
  | [], low, n, _ => by
    unfold notFrom
    have := mem_nil n
    split
    · simp only [mem_cons, this, or_false, not_false_eq_true, and_true]
    · simp only [this, false_iff]; omega
  | (a, b) :: t, low, n, ⟨h1, h2, h3, h4⟩ => by
    have ih := notFrom_mem (n := n) (h4.mono (show b + 1 ≤ b + 2 by omega))
    have lo : mem n t → b + 2 ≤ n := fun h => (Wf.mem_lo h4 h).1
    unfold notFrom
    split
    · rw [mem_cons, mem_cons, ih]
      constructor
      · rintro (h | ⟨k1, k2, k3⟩)
        · simp only at h
          exact ⟨by omega, by omega, fun hc => hc.elim (fun hc => by simp only at hc; omega) (fun hc => by have := lo hc; omega)⟩
        · exact ⟨by omega, k2, fun hc => hc.elim (fun hc => by simp only at hc; omega) k3⟩
      · rintro ⟨k1, k2, k3⟩
        by_cases ha : n < a
        · exact .inl ⟨k1, by simp only; omega⟩
        · refine .inr ⟨?_, k2, fun h => k3 (.inr h)⟩
          have : ¬ (a ≤ n ∧ n ≤ b) := fun h => k3 (.inl h)
          omega
    · rw [mem_cons, ih]
      constructor
      · rintro ⟨k1, k2, k3⟩
        exact ⟨by omega, k2, fun hc => hc.elim (fun hc => by simp only at hc; omega) k3⟩
      · rintro ⟨k1, k2, k3⟩
        refine ⟨?_, k2, fun h => k3 (.inr h)⟩
        have : ¬ (a ≤ n ∧ n ≤ b) := fun h => k3 (.inl h)
        omega
theorem notFrom_len : ∀ {L : Sps} {low : Int}, (notFrom low L).length ≤ L.length + 1
  | [], low => by unfold notFrom; split <;> simp
  | (a, b) :: t, low => by
    have := notFrom_len (L := t) (low := b + 1)
    unfold notFrom
    split <;> simp <;> omega

/-- What is in both of two rows, by one finger in each. -/
def andI : Sps → Sps → Sps
  | [], _ => []
  | _ :: _, [] => []
  | (a, b) :: s, (c, d) :: t =>
    (if max a c ≤ min b d then [(max a c, min b d)] else []) ++ (if b < d then andI s ((c, d) :: t) else andI ((a, b) :: s) t)
termination_by x y => x.length + y.length

theorem andI_wf (n : Nat) : ∀ {A B : Sps} {lo lo' : Int}, A.length + B.length ≤ n → Wf lo A → Wf lo' B → Wf (max lo lo') (andI A B) := by
  induction n with
  | zero =>
    intro A B lo lo' hn hA hB
    obtain rfl : A = [] := List.eq_nil_of_length_eq_zero (by omega)
    rw [andI]; trivial
  | succ n ih =>
    intro A B lo lo' hn hA hB
    match A, B, hn, hA, hB with
    | [], _, _, _, _ => rw [andI]; trivial
    | _ :: _, [], _, _, _ => rw [andI]; trivial
    | (a, b) :: s, (c, d) :: t, hn, ⟨h1, h2, h3, h4⟩, ⟨k1, k2, k3, k4⟩ =>
      simp only [List.length_cons] at hn
      have rest : Wf (max (max lo lo') (min b d + 2)) (if b < d then andI s ((c, d) :: t) else andI ((a, b) :: s) t) := by
        split
        · exact (ih (by simp only [List.length_cons]; omega) (Wf.mono h4 (Int.le_refl _)) (show Wf c ((c, d) :: t) from ⟨Int.le_refl _, k2, k3, k4⟩)).mono (by omega)
        · exact (ih (by simp only [List.length_cons]; omega) (show Wf a ((a, b) :: s) from ⟨Int.le_refl _, h2, h3, h4⟩) k4).mono (by omega)
      rw [andI]
      split
      · exact ⟨by omega, by assumption, by omega, rest.mono (by omega)⟩
      · exact rest.mono (by omega)
theorem andI_mem (k : Nat) : ∀ {A B : Sps} {lo lo' : Int} (n : Int), A.length + B.length ≤ k → Wf lo A → Wf lo' B → (mem n (andI A B) ↔ mem n A ∧ mem n B) := by
  induction k with
  | zero =>
    intro A B lo lo' n hn hA hB
    obtain rfl : A = [] := List.eq_nil_of_length_eq_zero (by omega)
    rw [andI]; simp [mem_nil]
  | succ k ih =>
    intro A B lo lo' n hn hA hB
    match A, B, hn, hA, hB with
    | [], _, _, _, _ => rw [andI]; simp [mem_nil]
    | _ :: _, [], _, _, _ => rw [andI]; simp [mem_nil]
    | (a, b) :: s, (c, d) :: t, hn, ⟨h1, h2, h3, h4⟩, ⟨k1, k2, k3, k4⟩ =>
      simp only [List.length_cons] at hn
      have l1 : mem n s → b + 2 ≤ n := fun h => (Wf.mem_lo h4 h).1
      have l2 : mem n t → d + 2 ≤ n := fun h => (Wf.mem_lo k4 h).1
      have first : mem n (if max a c ≤ min b d then [(max a c, min b d)] else []) ↔ (a ≤ n ∧ n ≤ b) ∧ (c ≤ n ∧ n ≤ d) := by
        split
        · simp only [mem_cons, mem_nil, or_false]; omega
        · simp only [mem_nil, false_iff]; omega
      rw [andI, mem_append, first]
      split
      · rw [ih n (by simp only [List.length_cons]; omega) h4 (show Wf lo' ((c, d) :: t) from ⟨k1, k2, k3, k4⟩), mem_cons, mem_cons]
        simp only
        constructor
        · rintro (⟨e1, e2⟩ | ⟨e1, e2⟩)
          · exact ⟨.inl e1, .inl e2⟩
          · exact ⟨.inr e1, e2⟩
        · rintro ⟨e1 | e1, e2 | e2⟩
          · exact .inl ⟨e1, e2⟩
          · have := l2 e2; omega
          · exact .inr ⟨e1, .inl e2⟩
          · exact .inr ⟨e1, .inr e2⟩
      · rw [ih n (by simp only [List.length_cons]; omega) (show Wf lo ((a, b) :: s) from ⟨h1, h2, h3, h4⟩) k4, mem_cons, mem_cons]
        simp only
        constructor
        · rintro (⟨e1, e2⟩ | ⟨e1, e2⟩)
          · exact ⟨.inl e1, .inl e2⟩
          · exact ⟨e1, .inr e2⟩
        · rintro ⟨e1 | e1, e2 | e2⟩
          · exact .inl ⟨e1, e2⟩
          · exact .inr ⟨.inl e1, e2⟩
          · have := l1 e1; omega
          · exact .inr ⟨.inr e1, e2⟩

/-- What is in both of two rows, each span of one with each of the other one. -/
def cutOne (a b : Int) (B : Sps) : Sps := B.flatMap fun q => if max a q.1 ≤ min b q.2 then [(max a q.1, min b q.2)] else []
def andS (A B : Sps) : Sps := A.flatMap fun p => cutOne p.1 p.2 B

theorem cutOne_mem {n a b : Int} : ∀ {B : Sps}, mem n (cutOne a b B) ↔ (a ≤ n ∧ n ≤ b) ∧ mem n B
  | [] => by simp [cutOne, mem_nil]
  | (c, d) :: t => by
    have ih := cutOne_mem (n := n) (a := a) (b := b) (B := t)
    unfold cutOne at ih ⊢
    rw [List.flatMap_cons, mem_append, ih, mem_cons]
    simp only
    split
    · simp only [mem_cons, mem_nil, or_false]
      constructor
      · rintro (h | ⟨h1, h2⟩)
        · exact ⟨by omega, .inl (by omega)⟩
        · exact ⟨h1, .inr h2⟩
      · rintro ⟨h1, h2 | h2⟩
        · exact .inl (by omega)
        · exact .inr ⟨h1, h2⟩
    · simp only [mem_nil, false_or]
      constructor
      · rintro ⟨h1, h2⟩; exact ⟨h1, .inr h2⟩
      · rintro ⟨h1, h2 | h2⟩
        · omega
        · exact ⟨h1, h2⟩
theorem andS_mem {n : Int} {B : Sps} : ∀ {A : Sps}, mem n (andS A B) ↔ mem n A ∧ mem n B
  | [] => by simp [andS, mem_nil]
  | (a, b) :: s => by
    have ih := andS_mem (n := n) (A := s) (B := B)
    unfold andS at ih ⊢
    rw [List.flatMap_cons, mem_append, ih, mem_cons, cutOne_mem]
    simp only
    constructor
    · rintro (⟨h1, h2⟩ | ⟨h1, h2⟩)
      · exact ⟨.inl h1, h2⟩
      · exact ⟨.inr h1, h2⟩
    · rintro ⟨h1 | h1, h2⟩
      · exact .inl ⟨h1, h2⟩
      · exact .inr ⟨h1, h2⟩
theorem cutOne_wf {a b : Int} (hb : b ≤ 9999999) : ∀ {B : Sps} {lo : Int}, Wf lo B → Wf (max a lo) (cutOne a b B) ∧ endOf (max a lo) (cutOne a b B) ≤ max (max a lo) (b + 2)
  | [], lo, _ => ⟨by simp [cutOne, Wf], by simp only [cutOne, List.flatMap_nil, endOf]; omega⟩
  | (c, d) :: t, lo, ⟨h1, h2, h3, h4⟩ => by
    unfold cutOne
    rw [List.flatMap_cons]
    simp only
    split
    · have ih := cutOne_wf (a := a) hb (B := t) (lo := d + 2) h4
      have low : max a (d + 2) = max a (d + 2) := rfl
      by_cases hd : d < b
      · have e : max a (d + 2) = d + 2 := by omega
        rw [e] at ih
        refine ⟨⟨by omega, by assumption, by omega, ?_⟩, ?_⟩
        · rw [show min b d + 2 = d + 2 by omega]; exact ih.1
        · simp only [List.cons_append, List.nil_append, endOf]
          rw [show min b d + 2 = d + 2 by omega]
          have := ih.2
          unfold cutOne at this
          omega
      · have hn : cutOne a b t = [] := by
          unfold cutOne
          rw [List.flatMap_eq_nil_iff]
          intro q hq
          rw [if_neg]
          intro hc
          have hm : mem (max a q.1) t := ⟨q, hq, by omega, by omega⟩
          have := (Wf.mem_lo h4 hm).1
          omega
        unfold cutOne at hn
        rw [hn]
        refine ⟨⟨by omega, by assumption, by omega, trivial⟩, ?_⟩
        simp only [List.cons_append, List.nil_append, endOf]
        omega
    · have ih := cutOne_wf (a := a) hb (B := t) (lo := lo) (h4.mono (by omega))
      rw [List.nil_append]
      exact ih
theorem andS_wf {B : Sps} {lo' : Int} (hB : Wf lo' B) : ∀ {A : Sps} {lo : Int}, Wf lo A → Wf lo (andS A B)
  | [], _, _ => by simp [andS, Wf]
  | (a, b) :: s, lo, ⟨h1, h2, h3, h4⟩ => by
    have ih := andS_wf hB h4
    have hc := cutOne_wf (a := a) h3 (hB.mono (show min lo' a ≤ lo' by omega))
    rw [show max a (min lo' a) = a by omega] at hc
    unfold andS at ih ⊢
    rw [List.flatMap_cons]
    have e := hc.2
    refine Wf.mono (lo := a) (wf_append.2 ⟨hc.1, ih.mono ?_⟩) h1
    show endOf a (cutOne a b B) ≤ b + 2
    omega

/-- One more span is laid behind a row, or together with its last one. -/
def orPush (out : Sps) (x : Int × Int) : Sps :=
  match out.getLast? with
  | none => [x]
  | some l => if l.2 + 1 ≥ x.1 then out.dropLast ++ [(l.1, max l.2 x.2)] else out ++ [x]
def orGo : Sps → Sps → Sps → Sps
  | [], [], out => out
  | a :: s, [], out => orGo s [] (orPush out a)
  | [], b :: t, out => orGo [] t (orPush out b)
  | a :: s, b :: t, out => if a.1 ≤ b.1 then orGo s (b :: t) (orPush out a) else orGo (a :: s) t (orPush out b)
termination_by x y => x.length + y.length
def orS (A B : Sps) : Sps := orGo A B []

/-- What the row so far is good for: it is one, and it ends at no lower rank than the next span begins. -/
def OrInv (out : Sps) (lim : Int) : Prop := Wf 0 out ∧ ∀ l, out.getLast? = some l → l.1 ≤ lim

theorem orPush_inv {out : Sps} {x : Int × Int} (h : OrInv out x.1) (h0 : 0 ≤ x.1) (hx : x.1 ≤ x.2) (hx2 : x.2 ≤ 9999999) :
    OrInv (orPush out x) x.1 ∧ ∀ n, mem n (orPush out x) ↔ mem n out ∨ (x.1 ≤ n ∧ n ≤ x.2) := by
  obtain ⟨hw, hl⟩ := h
  unfold orPush
  rcases hg : out.getLast? with _ | l
  · obtain rfl : out = [] := List.getLast?_eq_none_iff.1 hg
    refine ⟨⟨⟨h0, hx, hx2, trivial⟩, fun l h => ?_⟩, fun n => ?_⟩
    · simp at h; subst h; exact Int.le_refl _
    · simp [mem_cons, mem_nil]
  · have hlim := hl l hg
    obtain ⟨ini, rfl⟩ : ∃ ini, out = ini ++ [l] := List.getLast?_eq_some_iff.1 hg
    obtain ⟨w1, w2, w3, w4, _⟩ := wf_append.1 hw
    simp only
    split
    · rw [List.dropLast_concat]
      refine ⟨⟨wf_append.2 ⟨w1, w2, by omega, by omega, trivial⟩, fun l' h => ?_⟩, fun n => ?_⟩
      · simp at h; subst h; exact hlim
      · rw [mem_append, mem_append, mem_cons, mem_cons]
        simp only [mem_nil, or_false]
        constructor
        · rintro (h | h)
          · exact .inl (.inl h)
          · by_cases hn : n ≤ l.2
            · exact .inl (.inr ⟨h.1, hn⟩)
            · exact .inr (by omega)
        · rintro ((h | h) | h)
          · exact .inl h
          · exact .inr (by omega)
          · exact .inr (by omega)
    · refine ⟨⟨wf_append.2 ⟨hw, ?_⟩, fun l' h => ?_⟩, fun n => ?_⟩
      · obtain ⟨l1, l2⟩ := l
        rw [endOf_snoc]
        exact ⟨by simp only at *; omega, hx, hx2, trivial⟩
      · simp at h; subst h; exact Int.le_refl _
      · rw [mem_append, mem_cons]
        simp only [mem_nil, or_false]

theorem OrInv.mono {out : Sps} {k k' : Int} (h : OrInv out k) (hk : k ≤ k') : OrInv out k' := ⟨h.1, fun l hl => Int.le_trans (h.2 l hl) hk⟩

theorem orGo_fine (k : Nat) : ∀ {A B out : Sps} {lo lo' : Int}, A.length + B.length ≤ k → 0 ≤ lo → 0 ≤ lo' → Wf lo A → Wf lo' B → (∀ p, A.head? = some p → OrInv out p.1) → (∀ p, B.head? = some p → OrInv out p.1) → Wf 0 out →
    Wf 0 (orGo A B out) ∧ ∀ n, mem n (orGo A B out) ↔ mem n out ∨ mem n A ∨ mem n B := by
  induction k with
  | zero =>
    intro A B out lo lo' hn h0 h0' hA hB iA iB hw
    obtain rfl : A = [] := List.eq_nil_of_length_eq_zero (by omega)
    obtain rfl : B = [] := List.eq_nil_of_length_eq_zero (by omega)
    rw [orGo]
    exact ⟨hw, fun n => by simp [mem_nil]⟩
  | succ k ih =>
    intro A B out lo lo' hn h0 h0' hA hB iA iB hw
    have headA : ∀ {a b : Int} {s : Sps} {o : Sps}, Wf (b + 2) s → a ≤ b → OrInv o a → ∀ p, s.head? = some p → OrInv o p.1 := by
      intro a b s o hs hab ho p hp
      match s, hs, hp with
      | (c, d) :: t, ⟨q1, _, _, _⟩, hp => simp at hp; subst hp; exact ho.mono (by simp only; omega)
    match A, B, hn, hA, hB, iA, iB with
    | [], [], _, _, _, _, _ => rw [orGo]; exact ⟨hw, fun n => by simp [mem_nil]⟩
    | (a, b) :: s, [], hn, ⟨h1, h2, h3, h4⟩, _, iA, iB =>
      obtain ⟨p1, p2⟩ := orPush_inv (iA (a, b) rfl) (by simp only; omega) h2 h3
      obtain ⟨r1, r2⟩ := ih (A := s) (B := []) (out := orPush out (a, b)) (lo := b + 2) (lo' := 0) (by simp at hn ⊢; omega) (by omega) (by omega) h4 trivial (headA h4 h2 p1) (fun p hp => by simp at hp) p1.1
      rw [orGo]
      refine ⟨r1, fun n => ?_⟩
      rw [r2, p2, mem_cons]
      constructor
      · rintro ((h | h) | h | h)
        · exact .inl h
        · exact .inr (.inl (.inl h))
        · exact .inr (.inl (.inr h))
        · exact .inr (.inr h)
      · rintro (h | (h | h) | h)
        · exact .inl (.inl h)
        · exact .inl (.inr h)
        · exact .inr (.inl h)
        · exact .inr (.inr h)
    | [], (c, d) :: t, hn, _, ⟨h1, h2, h3, h4⟩, iA, iB =>
      obtain ⟨p1, p2⟩ := orPush_inv (iB (c, d) rfl) (by simp only; omega) h2 h3
      obtain ⟨r1, r2⟩ := ih (A := []) (B := t) (out := orPush out (c, d)) (lo := 0) (lo' := d + 2) (by simp at hn ⊢; omega) (by omega) (by omega) trivial h4 (fun p hp => by simp at hp) (headA h4 h2 p1) p1.1
      rw [orGo]
      refine ⟨r1, fun n => ?_⟩
      rw [r2, p2, mem_cons]
      constructor
      · rintro ((h | h) | h | h)
        · exact .inl h
        · exact .inr (.inr (.inl h))
        · exact .inr (.inl h)
        · exact .inr (.inr (.inr h))
      · rintro (h | h | (h | h))
        · exact .inl (.inl h)
        · exact .inr (.inl h)
        · exact .inl (.inr h)
        · exact .inr (.inr h)
    | (a, b) :: s, (c, d) :: t, hn, ⟨h1, h2, h3, h4⟩, ⟨k1, k2, k3, k4⟩, iA, iB =>
      rw [orGo]
      split
      · rename_i hac
        simp only at hac
        obtain ⟨p1, p2⟩ := orPush_inv (iA (a, b) rfl) (by simp only; omega) h2 h3
        obtain ⟨r1, r2⟩ := ih (A := s) (B := (c, d) :: t) (out := orPush out (a, b)) (lo := b + 2) (lo' := lo') (by simp at hn ⊢; omega) (by omega) h0' h4 ⟨k1, k2, k3, k4⟩ (headA h4 h2 p1) (fun p hp => by simp at hp; subst hp; exact p1.mono (by simp only; omega)) p1.1
        refine ⟨r1, fun n => ?_⟩
        rw [r2, p2, mem_cons (L := s)]
        constructor
        · rintro ((h | h) | h | h)
          · exact .inl h
          · exact .inr (.inl (.inl h))
          · exact .inr (.inl (.inr h))
          · exact .inr (.inr h)
        · rintro (h | (h | h) | h)
          · exact .inl (.inl h)
          · exact .inl (.inr h)
          · exact .inr (.inl h)
          · exact .inr (.inr h)
      · rename_i hac
        simp only at hac
        obtain ⟨p1, p2⟩ := orPush_inv (iB (c, d) rfl) (by simp only; omega) k2 k3
        obtain ⟨r1, r2⟩ := ih (A := (a, b) :: s) (B := t) (out := orPush out (c, d)) (lo := lo) (lo' := d + 2) (by simp at hn ⊢; omega) h0 (by omega) ⟨h1, h2, h3, h4⟩ k4 (fun p hp => by simp at hp; subst hp; exact p1.mono (by simp only; omega)) (headA k4 k2 p1) p1.1
        refine ⟨r1, fun n => ?_⟩
        rw [r2, p2, mem_cons (L := t)]
        constructor
        · rintro ((h | h) | h | h)
          · exact .inl h
          · exact .inr (.inr (.inl h))
          · exact .inr (.inl h)
          · exact .inr (.inr (.inr h))
        · rintro (h | h | (h | h))
          · exact .inl (.inl h)
          · exact .inr (.inl h)
          · exact .inl (.inr h)
          · exact .inr (.inr h)

theorem notL_wf {L : Sps} (h : Wf 0 L) : Wf 0 (notL L) := notFrom_wf h
theorem notL_mem {L : Sps} (h : Wf 0 L) {n : Int} : mem n (notL L) ↔ 0 ≤ n ∧ n ≤ 9999999 ∧ ¬ mem n L := notFrom_mem h
theorem andI_wf0 {A B : Sps} (hA : Wf 0 A) (hB : Wf 0 B) : Wf 0 (andI A B) := andI_wf _ (Nat.le_refl _) hA hB
theorem andI_mem0 {A B : Sps} (hA : Wf 0 A) (hB : Wf 0 B) {n : Int} : mem n (andI A B) ↔ mem n A ∧ mem n B := andI_mem _ n (Nat.le_refl _) hA hB
theorem and_same {A B : Sps} (hA : Wf 0 A) (hB : Wf 0 B) : andS A B = andI A B :=
  wf_unique (andS_wf hB hA) (andI_wf0 hA hB) fun _ => andS_mem.trans (andI_mem0 hA hB).symm

def orI (A B : Sps) : Sps := notL (andI (notL A) (notL B))
theorem orI_wf {A B : Sps} (hA : Wf 0 A) (hB : Wf 0 B) : Wf 0 (orI A B) := notL_wf (andI_wf0 (notL_wf hA) (notL_wf hB))
theorem orI_mem {A B : Sps} (hA : Wf 0 A) (hB : Wf 0 B) {n : Int} : mem n (orI A B) ↔ mem n A ∨ mem n B := by
  unfold orI
  rw [notL_mem (andI_wf0 (notL_wf hA) (notL_wf hB)), andI_mem0 (notL_wf hA) (notL_wf hB), notL_mem hA, notL_mem hB]
  have a := fun h => Wf.mem_lo hA (n := n) h
  have b := fun h => Wf.mem_lo hB (n := n) h
  constructor
  · rintro ⟨k1, k2, k3⟩
    by_cases h1 : mem n A
    · exact .inl h1
    by_cases h2 : mem n B
    · exact .inr h2
    exact absurd ⟨⟨k1, k2, h1⟩, k1, k2, h2⟩ k3
  · rintro (h | h)
    · exact ⟨(a h).1, (a h).2, fun k => k.1.2.2 h⟩
    · exact ⟨(b h).1, (b h).2, fun k => k.2.2.2 h⟩
theorem orS_fine {A B : Sps} (hA : Wf 0 A) (hB : Wf 0 B) : Wf 0 (orS A B) ∧ ∀ n, mem n (orS A B) ↔ mem n A ∨ mem n B := by
  obtain ⟨h1, h2⟩ := orGo_fine _ (Nat.le_refl _) (Int.le_refl 0) (Int.le_refl 0) hA hB (out := []) (fun p _ => ⟨trivial, fun l h => by simp at h⟩) (fun p _ => ⟨trivial, fun l h => by simp at h⟩) trivial
  exact ⟨h1, fun n => (h2 n).trans (by simp [mem_nil])⟩
theorem or_same {A B : Sps} (hA : Wf 0 A) (hB : Wf 0 B) : orS A B = orI A B :=
  wf_unique (orS_fine hA hB).1 (orI_wf hA hB) fun n => ((orS_fine hA hB).2 n).trans (orI_mem hA hB).symm

end Go.Proofs.Ytdjnfmekbjmdhaa

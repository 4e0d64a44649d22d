/- Plain facts on texts of bytes, without a program: what a text is cut into by a sign, which numbers its pieces are, and that just the texts of versions are read as versions. -/
namespace Go.Proofs.Ytenfdbikgpppdaa.Parse

/-- The pieces of a text between signs. -/
def cut (sign : UInt8) : List UInt8 → List (List UInt8)
  | [] => [[]]
  | c :: t => if c = sign then [] :: cut sign t else match cut sign t with
    | h :: r => (c :: h) :: r
    | [] => [[c]]

theorem cut_ne (sign : UInt8) : ∀ l, cut sign l ≠ []
  | [] => by simp [cut]
  | c :: t => by
    unfold cut
    split
    · simp
    · split <;> simp

theorem cut_cons {sign c : UInt8} {t : List UInt8} (hc : c ≠ sign) : cut sign (c :: t) = match cut sign t with
    | h :: r => (c :: h) :: r
    | [] => [[c]] := by
  rw [cut, if_neg hc]

theorem cut_none {sign : UInt8} : ∀ {l : List UInt8}, sign ∉ l → cut sign l = [l]
  | [], _ => rfl
  | c :: t, h => by
    have hc : c ≠ sign := fun e => h (by simp [e])
    have ht : sign ∉ t := fun e => h (List.mem_cons_of_mem _ e)
    unfold cut
    rw [if_neg hc, cut_none ht]

theorem cut_at {sign : UInt8} : ∀ {x y : List UInt8}, sign ∉ x → cut sign (x ++ sign :: y) = x :: cut sign y
  | [], y, _ => by simp [cut]
  | c :: t, y, h => by
    have hc : c ≠ sign := fun e => h (by simp [e])
    have ht : sign ∉ t := fun e => h (List.mem_cons_of_mem _ e)
    rw [List.cons_append, cut_cons hc, cut_at ht]

/-- The pieces put together again, signs between. -/
def glue (sign : UInt8) : List (List UInt8) → List UInt8
  | [] => []
  | [x] => x
  | x :: y :: r => x ++ sign :: glue sign (y :: r)

theorem glue_cut (sign : UInt8) : ∀ l, glue sign (cut sign l) = l
  | [] => rfl
  | c :: t => by
    have ih := glue_cut sign t
    unfold cut
    split
    · rename_i hc
      have hn := cut_ne sign t
      match h : cut sign t, hn with
      | y :: r, _ =>
        rw [h] at ih
        simp [glue, ih, hc]
    · match h : cut sign t with
      | [] => exact absurd h (cut_ne sign t)
      | [x] =>
        rw [h] at ih
        simp [glue] at ih
        simp [glue, ih]
      | x :: y :: r =>
        rw [h] at ih
        simp [glue] at ih
        simp [glue, ih]

def isD (b : UInt8) : Bool := decide (48 ≤ b.toNat) && decide (b.toNat ≤ 57)
def dv (b : UInt8) : Int := (b.toNat : Int) - 48
theorem isD_iff {b : UInt8} : isD b = true ↔ 48 ≤ b.toNat ∧ b.toNat ≤ 57 := by simp [isD]

/-- The number that a text is, of at most two digits without a zero ahead of another one, or -1. -/
def num : List UInt8 → Int
  | [x] => if isD x = true then dv x else -1
  | [x, y] => if isD x = true ∧ isD y = true ∧ x.toNat ≠ 48 then dv x * 10 + dv y else -1
  | _ => -1

/-- A digit, and a number below one hundred, as text. -/
def digit (d : Int) : UInt8 := UInt8.ofNat (48 + d).toNat
def text (n : Int) : List UInt8 := if n < 10 then [digit n] else [digit (n / 10), digit (n % 10)]

theorem digit_nat {d : Int} (h0 : 0 ≤ d) (h1 : d ≤ 9) : ((digit d).toNat : Int) = 48 + d := by
  unfold digit
  rw [UInt8.toNat_ofNat']
  omega
theorem digit_isD {d : Int} (h0 : 0 ≤ d) (h1 : d ≤ 9) : isD (digit d) = true := by
  have := digit_nat h0 h1
  rw [isD_iff]
  omega
theorem digit_dv {d : Int} (h0 : 0 ≤ d) (h1 : d ≤ 9) : dv (digit d) = d := by
  have := digit_nat h0 h1
  unfold dv
  omega
theorem digit_of {b : UInt8} (h : isD b = true) : digit (dv b) = b := by
  rw [isD_iff] at h
  apply UInt8.toNat_inj.1
  unfold digit dv
  rw [UInt8.toNat_ofNat']
  omega
theorem dv_range {b : UInt8} (h : isD b = true) : 0 ≤ dv b ∧ dv b ≤ 9 := by
  rw [isD_iff] at h
  unfold dv
  omega

theorem num_text {n : Int} (h0 : 0 ≤ n) (h1 : n ≤ 99) : num (text n) = n := by
  unfold text
  split
  · simp [num, digit_isD h0 (by omega), digit_dv h0 (by omega)]
  · have a := digit_nat (d := n / 10) (by omega) (by omega)
    simp only [num, digit_isD (d := n / 10) (by omega) (by omega), digit_isD (d := n % 10) (by omega) (by omega), digit_dv (d := n / 10) (by omega) (by omega), digit_dv (d := n % 10) (by omega) (by omega)]
    rw [if_pos ⟨trivial, trivial, by omega⟩]
    omega

theorem text_num {l : List UInt8} (h : 0 ≤ num l) : text (num l) = l ∧ num l ≤ 99 := by
  match l with
  | [] => simp [num] at h
  | [x] =>
    simp only [num] at h ⊢
    split at h
    · rename_i hx
      have r := dv_range hx
      rw [if_pos hx]
      refine ⟨?_, by omega⟩
      unfold text
      rw [if_pos (by omega), digit_of hx]
    · omega
  | [x, y] =>
    simp only [num] at h ⊢
    split at h
    · rename_i hx
      obtain ⟨h1, h2, h3⟩ := hx
      have r1 := dv_range h1
      have r2 := dv_range h2
      have r3 : 1 ≤ dv x := by rw [isD_iff] at h1; unfold dv; omega
      rw [if_pos ⟨h1, h2, h3⟩]
      refine ⟨?_, by omega⟩
      unfold text
      rw [if_neg (by omega), show (dv x * 10 + dv y) / 10 = dv x from by omega, show (dv x * 10 + dv y) % 10 = dv y from by omega, digit_of h1, digit_of h2]
    · omega
  | _ :: _ :: _ :: _ => simp [num] at h

/-- No sign in a number's text. -/
theorem text_free {n : Int} (h0 : 0 ≤ n) (h1 : n ≤ 99) {s : UInt8} (hs : s.toNat < 48) : s ∉ text n := by
  unfold text
  intro h
  split at h
  · have := digit_nat h0 (by omega)
    simp at h
    subst h
    omega
  · have a := digit_nat (d := n / 10) (by omega) (by omega)
    have b := digit_nat (d := n % 10) (by omega) (by omega)
    simp at h
    rcases h with h | h <;> subst h <;> omega

/-- The text of a version. -/
def full (a b c d : Int) : List UInt8 := text a ++ 46 :: (text b ++ 46 :: (text c ++ (if d = 0 then [] else 45 :: text d)))

def ok (a b c d : Int) : Prop := (0 ≤ a ∧ a ≤ 99) ∧ (0 ≤ b ∧ b ≤ 99) ∧ (0 ≤ c ∧ c ≤ 99) ∧ 0 ≤ d ∧ d ≤ 9

/-- The two halves of a version's text at the dash, and the three parts of the first half. -/
theorem cut_full {a b c d : Int} (h : ok a b c d) :
    cut 45 (full a b c d) = (text a ++ 46 :: (text b ++ 46 :: text c)) :: (if d = 0 then [] else [text d]) ∧ cut 46 (text a ++ 46 :: (text b ++ 46 :: text c)) = [text a, text b, text c] := by
  obtain ⟨⟨a0, a1⟩, ⟨b0, b1⟩, ⟨c0, c1⟩, d0, d1⟩ := h
  have fa := text_free a0 a1 (s := 45) (by decide)
  have fb := text_free b0 b1 (s := 45) (by decide)
  have fc := text_free c0 c1 (s := 45) (by decide)
  have fd := text_free d0 (by omega) (s := 45) (by decide)
  have hm : (45 : UInt8) ∉ text a ++ 46 :: (text b ++ 46 :: text c) := by
    simp [fa, fb, fc]
  refine ⟨?_, ?_⟩
  · by_cases h : d = 0
    · subst h
      simp only [full, if_pos, List.append_nil]
      exact cut_none hm
    · have e : full a b c d = (text a ++ 46 :: (text b ++ 46 :: text c)) ++ 45 :: text d := by simp [full, h]
      rw [e, cut_at hm, cut_none fd, if_neg h]
  · rw [cut_at (text_free a0 a1 (by decide)), cut_at (text_free b0 b1 (by decide)), cut_none (text_free c0 c1 (by decide))]

theorem text_len {n : Int} : 1 ≤ (text n).length ∧ (text n).length ≤ 2 := by
  unfold text
  split <;> simp

theorem full_len {a b c d : Int} : (full a b c d).length ≤ 11 := by
  have := (text_len (n := a)).2
  have := (text_len (n := b)).2
  have := (text_len (n := c)).2
  have := (text_len (n := d)).2
  unfold full
  split <;> simp <;> omega

/-- What is read as a version by its halves and parts is written as that text. -/
theorem full_of {l x y z : List UInt8} {hs : List (List UInt8)} {h : List UInt8} (e1 : cut 45 l = h :: hs) (e2 : cut 46 h = [x, y, z]) (h0 : 0 ≤ num x) (h1 : 0 ≤ num y) (h2 : 0 ≤ num z) :
    (hs = [] → l = full (num x) (num y) (num z) 0) ∧ (∀ t, hs = [t] → 0 < num t → l = full (num x) (num y) (num z) (num t)) := by
  have g1 := glue_cut 45 l
  have g2 := glue_cut 46 h
  rw [e1] at g1
  rw [e2] at g2
  simp only [glue] at g2
  have tx := (text_num h0).1
  have ty := (text_num h1).1
  have tz := (text_num h2).1
  refine ⟨fun e => ?_, fun t e ht => ?_⟩
  · subst e
    simp only [glue] at g1
    unfold full
    rw [tx, ty, tz, if_pos rfl, List.append_nil, g2, g1]
  · subst e
    simp only [glue] at g1
    have tt := (text_num (show 0 ≤ num t by omega)).1
    unfold full
    rw [tx, ty, tz, tt, if_neg (by omega), ← g1, ← g2]
    simp

end Go.Proofs.Ytenfdbikgpppdaa.Parse

/- Plain facts on texts of bytes, without a program: reading numbers one behind the other and comparing with what would be written reads the same versions as cutting a text by its signs. -/
import Derived.Test.YtenfdbikgpppdaaVparse
namespace Go.Proofs.Ytenfdbikgpppdaa.Parse

/-- The number at a text's beginning, of at most two digits, and how many digits it takes. -/
def lead : List UInt8 → Int × Nat
  | [] => (0, 0)
  | [x] => if isD x = true then (dv x, 1) else (0, 0)
  | x :: y :: _ => if isD x = true then (if isD y = true then (dv x * 10 + dv y, 2) else (dv x, 1)) else (0, 0)

theorem lead_range (l : List UInt8) : 0 ≤ (lead l).1 ∧ (lead l).1 ≤ 99 ∧ (lead l).2 ≤ 2 ∧ (lead l).2 ≤ l.length := by
  match l with
  | [] => simp [lead]
  | [x] =>
    by_cases h : isD x = true
    · have := dv_range h
      simp [lead, h]
      omega
    · simp [lead, h]
  | x :: y :: r =>
    by_cases h : isD x = true
    · have := dv_range h
      by_cases h2 : isD y = true
      · have := dv_range h2
        simp [lead, h, h2]
        omega
      · simp [lead, h, h2]
        omega
    · simp [lead, h]

/-- What behind a number is no digit does not change what is read. -/
theorem lead_text {n : Int} (h0 : 0 ≤ n) (h1 : n ≤ 99) {r : List UInt8} (hr : ∀ c t, r = c :: t → isD c = false) : lead (text n ++ r) = (n, (text n).length) := by
  unfold text
  split
  · have a := digit_isD h0 (by omega)
    have b := digit_dv h0 (by omega)
    match r, hr with
    | [], _ => simp [lead, a, b]
    | c :: t, hr =>
      have hc := hr c t rfl
      simp [lead, a, b, hc]
  · have a := digit_isD (d := n / 10) (by omega) (by omega)
    have b := digit_dv (d := n / 10) (by omega) (by omega)
    have c := digit_isD (d := n % 10) (by omega) (by omega)
    have d := digit_dv (d := n % 10) (by omega) (by omega)
    simp [lead, a, b, c, d]
    omega

/-- The number at a place of a text and the place behind it. -/
def at_ (l : List UInt8) (i : Nat) : Int × Nat := ((lead (l.drop i)).1, i + (lead (l.drop i)).2)

/-- The four numbers that are read one behind the other. -/
def rd (l : List UInt8) : Int × Int × Int × Int :=
  let a := at_ l 0
  let b := at_ l (a.2 + 1)
  let c := at_ l (b.2 + 1)
  let d := at_ l (c.2 + 1)
  (a.1, b.1, c.1, d.1)

theorem drop_over {x r : List UInt8} {s : UInt8} : (x ++ s :: r).drop (x.length + 1) = r := by
  rw [List.drop_append]
  simp

theorem rd_full {a b c d : Int} (h : ok a b c d) : rd (full a b c d) = (a, b, c, d) := by
  obtain ⟨⟨a0, a1⟩, ⟨b0, b1⟩, ⟨c0, c1⟩, d0, d1⟩ := h
  have dot : ∀ (r : List UInt8) c t, (46 :: r : List UInt8) = c :: t → isD c = false := fun r c t e => by
    simp only [List.cons.injEq] at e
    rw [← e.1]
    decide
  have la : lead (full a b c d) = (a, (text a).length) := lead_text a0 a1 (dot _)
  have e1 : (full a b c d).drop ((text a).length + 1) = text b ++ 46 :: (text c ++ (if d = 0 then [] else 45 :: text d)) := drop_over
  have lb : lead ((full a b c d).drop ((text a).length + 1)) = (b, (text b).length) := by rw [e1]; exact lead_text b0 b1 (dot _)
  have e2 : (full a b c d).drop ((text a).length + 1 + (text b).length + 1) = text c ++ (if d = 0 then [] else 45 :: text d) := by
    rw [show (text a).length + 1 + (text b).length + 1 = ((text a).length + 1) + ((text b).length + 1) from by omega, ← List.drop_drop, e1, drop_over]
  have lc : lead ((full a b c d).drop ((text a).length + 1 + (text b).length + 1)) = (c, (text c).length) := by
    rw [e2]
    refine lead_text c0 c1 fun x t e => ?_
    split at e
    · cases e
    · simp only [List.cons.injEq] at e
      rw [← e.1]
      decide
  have ld : (lead ((full a b c d).drop ((text a).length + 1 + (text b).length + 1 + (text c).length + 1))).1 = d := by
    rw [show (text a).length + 1 + (text b).length + 1 + (text c).length + 1 = ((text a).length + 1 + (text b).length + 1) + ((text c).length + 1) from by omega, ← List.drop_drop, e2]
    split
    · rename_i hd
      subst hd
      rw [List.append_nil, List.drop_eq_nil_of_le (by omega)]
      rfl
    · rw [drop_over]
      have := lead_text (n := d) d0 (by omega) (r := []) (fun _ _ e => by cases e)
      rw [List.append_nil] at this
      rw [this]
  unfold rd at_
  simp only [List.drop_zero, la, Nat.zero_add, lb, lc, ld]

def okB (a b c d : Int) : Bool := decide (0 ≤ a ∧ a ≤ 99) && (decide (0 ≤ b ∧ b ≤ 99) && (decide (0 ≤ c ∧ c ≤ 99) && decide (0 ≤ d ∧ d ≤ 9)))
theorem okB_iff {a b c d : Int} : okB a b c d = true ↔ ok a b c d := by simp [okB, ok]

/-- What the program reads: the four numbers, if they are a version's and the text is its own. -/
def im (l : List UInt8) : Option (Int × Int × Int × Int) :=
  if okB (rd l).1 (rd l).2.1 (rd l).2.2.1 (rd l).2.2.2 = true ∧ full (rd l).1 (rd l).2.1 (rd l).2.2.1 (rd l).2.2.2 = l then some (rd l) else none

def chk (a b c d : Int) : Option (Int × Int × Int × Int) := if okB a b c d = true then some (a, b, c, d) else none
/-- What the model reads off the halves and the parts. -/
def sp3 (x y z : List UInt8) : List (List UInt8) → Option (Int × Int × Int × Int)
  | [] => chk (num x) (num y) (num z) 0
  | [t] => if num t = 0 then none else chk (num x) (num y) (num z) (num t)
  | _ => none
def sp2 (hs : List (List UInt8)) : List (List UInt8) → Option (Int × Int × Int × Int)
  | [x, y, z] => sp3 x y z hs
  | _ => none
def sp1 : List (List UInt8) → Option (Int × Int × Int × Int)
  | h :: hs => sp2 hs (cut 46 h)
  | [] => none
def sp (l : List UInt8) : Option (Int × Int × Int × Int) := if 20 < l.length then none else sp1 (cut 45 l)

theorem im_some {l : List UInt8} {a b c d : Int} : im l = some (a, b, c, d) ↔ ok a b c d ∧ l = full a b c d := by
  constructor
  · intro h
    unfold im at h
    split at h
    · rename_i hk
      obtain ⟨h1, h2⟩ := hk
      simp only [Option.some.injEq] at h
      rw [h] at h1 h2
      exact ⟨okB_iff.1 h1, h2.symm⟩
    · cases h
  · rintro ⟨h, rfl⟩
    unfold im
    rw [rd_full h, if_pos ⟨okB_iff.2 h, rfl⟩]

theorem chk_some {a b c d a' b' c' d' : Int} (h : chk a b c d = some (a', b', c', d')) : ok a b c d ∧ a = a' ∧ b = b' ∧ c = c' ∧ d = d' := by
  unfold chk at h
  split at h
  · rename_i hk
    simp only [Option.some.injEq, Prod.mk.injEq] at h
    exact ⟨okB_iff.1 hk, h⟩
  · cases h

theorem sp_some {l : List UInt8} {a b c d : Int} : sp l = some (a, b, c, d) ↔ ok a b c d ∧ l = full a b c d := by
  constructor
  · intro h
    unfold sp at h
    split at h
    · cases h
    · match e1 : cut 45 l, h with
      | [], h => cases h
      | u :: hs, h =>
        simp only [sp1] at h
        match e2 : cut 46 u, h with
        | [x, y, z], h =>
          simp only [sp2] at h
          match hs, e1, h with
          | [], e1, h =>
            simp only [sp3] at h
            obtain ⟨hk, rfl, rfl, rfl, rfl⟩ := chk_some h
            exact ⟨hk, (full_of e1 e2 hk.1.1 hk.2.1.1 hk.2.2.1.1).1 rfl⟩
          | [t], e1, h =>
            simp only [sp3] at h
            split at h
            · cases h
            · rename_i hn
              obtain ⟨hk, rfl, rfl, rfl, rfl⟩ := chk_some h
              have h0 := hk.2.2.2.1
              exact ⟨hk, (full_of e1 e2 hk.1.1 hk.2.1.1 hk.2.2.1.1).2 t rfl (by omega)⟩
          | _ :: _ :: _, _, h => simp [sp3] at h
        | [], h => simp [sp2] at h
        | [_], h => simp [sp2] at h
        | [_, _], h => simp [sp2] at h
        | _ :: _ :: _ :: _ :: _, h => simp [sp2] at h
  · rintro ⟨h, rfl⟩
    have hc := cut_full h
    have hk := okB_iff.2 h
    obtain ⟨⟨a0, a1⟩, ⟨b0, b1⟩, ⟨c0, c1⟩, d0, d1⟩ := h
    unfold sp
    have hl := full_len (a := a) (b := b) (c := c) (d := d)
    rw [if_neg (by omega), hc.1]
    simp only [sp1, hc.2, sp2]
    by_cases hd : d = 0
    · subst hd
      simp [sp3, num_text a0 a1, num_text b0 b1, num_text c0 c1, chk, hk]
    · simp [hd, sp3, num_text a0 a1, num_text b0 b1, num_text c0 c1, num_text d0 (by omega), chk, hk]

/-- The program reads what the model reads. -/
theorem im_sp (l : List UInt8) : im l = sp l := by
  apply Option.ext
  rintro ⟨a, b, c, d⟩
  rw [im_some, sp_some]

end Go.Proofs.Ytenfdbikgpppdaa.Parse

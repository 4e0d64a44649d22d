/- Plain facts on locks as texts, without a program: what a lock is written as, how the program and the model read a text, and that both read just the texts of locks. -/
import Derived.Test.YtenfdbikgpppdaaGg
import Derived.Test.YtenfdbikgpppdaaVsfrom
namespace Go.Proofs.Ytenfdbikgpppdaa
open Go.RowKit Go.Sort

namespace Lk
/-- A pick as a line, without its end. -/
def lineL (x : Pk) : List UInt8 := UInt8.ofNat (97 + x.1).toNat :: 32 :: Parse.full x.2.1 x.2.2.1 x.2.2.2.1 x.2.2.2.2
def lockL : List Pk → List UInt8
  | [] => []
  | x :: t => lineL x ++ 10 :: lockL t
/-- What LockText answers. -/
def lockT (M : List Pk) : ByteArray := if pkOk M then ⟨(lockL M).toArray⟩ else ⟨#[]⟩

theorem lockL_append : ∀ A B : List Pk, lockL (A ++ B) = lockL A ++ lockL B
  | [], B => rfl
  | x :: t, B => by simp [lockL, lockL_append t B]
theorem lockL_one (x : Pk) : lockL [x] = lineL x ++ [10] := rfl
theorem lockL_snoc {M : List Pk} {k : Nat} {x : Pk} (h : M[k]? = some x) : lockL (M.take (k + 1)) = lockL (M.take k) ++ (lineL x ++ [10]) := by
  obtain ⟨h1, e1⟩ := List.getElem?_eq_some_iff.1 h
  rw [List.take_succ_eq_append_getElem h1, e1, lockL_append, lockL_one]

/-- A pick of a name in 0..7 and of a version. -/
def fine (x : Pk) : Prop := (0 ≤ x.1 ∧ x.1 ≤ 7) ∧ vOk x.2.1 x.2.2.1 x.2.2.2.1 x.2.2.2.2 = true
theorem pkFrom_fine : ∀ {M : List Pk} {lo : Int}, 0 ≤ lo → pkFrom lo M = true → ∀ q ∈ M, fine q
  | [], _, _, _, q, hq => by simp at hq
  | x :: t, lo, h0, h, q, hq => by
    simp only [pkFrom, Bool.and_eq_true, decide_eq_true_eq] at h
    rcases List.mem_cons.1 hq with rfl | hq
    · exact ⟨⟨by omega, h.1.2⟩, h.2.1⟩
    · exact pkFrom_fine (by omega) h.2.2 q hq
theorem pkOk_fine {M : List Pk} (h : pkOk M = true) : ∀ q ∈ M, fine q := pkFrom_fine (Int.le_refl 0) h
theorem pkFrom_count : ∀ {M : List Pk} {lo : Int}, lo ≤ 8 → pkFrom lo M = true → (M.length : Int) ≤ 8 - lo
  | [], lo, hl, _ => by simp; omega
  | x :: t, lo, hl, h => by
    simp only [pkFrom, Bool.and_eq_true, decide_eq_true_eq] at h
    have := pkFrom_count (by omega) h.2.2
    simp only [List.length_cons]
    omega
theorem pkOk_count {M : List Pk} (h : pkOk M = true) : M.length ≤ 8 := by
  have := pkFrom_count (by omega) h
  omega

theorem text_no10 (n : Int) (h0 : 0 ≤ n) (h1 : n ≤ 99) : (10 : UInt8) ∉ Parse.text n := by
  have hd : ∀ d : Int, 0 ≤ d → d ≤ 9 → (10 : UInt8) ≠ Parse.digit d := fun d a b e => by
    have h := Parse.digit_isD a b
    rw [← e] at h
    exact absurd h (by decide)
  unfold Parse.text
  split
  · simp only [List.mem_singleton]
    exact hd n h0 (by omega)
  · simp only [List.mem_cons, List.not_mem_nil, or_false, not_or]
    exact ⟨hd _ (by omega) (by omega), hd _ (by omega) (by omega)⟩
theorem text_len (n : Int) : (Parse.text n).length ≤ 2 := by
  unfold Parse.text
  split <;> simp
theorem full_no10 {a b c d : Int} (h : Parse.ok a b c d) : (10 : UInt8) ∉ Parse.full a b c d := by
  obtain ⟨⟨a0, a1⟩, ⟨b0, b1⟩, ⟨c0, c1⟩, d0, d1⟩ := h
  have ha := text_no10 a a0 a1
  have hb := text_no10 b b0 b1
  have hc := text_no10 c c0 c1
  have hd := text_no10 d d0 (by omega)
  unfold Parse.full
  split <;> simp [ha, hb, hc, hd]
theorem full_len (a b c d : Int) : (Parse.full a b c d).length ≤ 11 := by
  have ha := text_len a
  have hb := text_len b
  have hc := text_len c
  have hd := text_len d
  unfold Parse.full
  split <;> simp <;> omega
theorem vOk_ok {a b c d : Int} (h : vOk a b c d = true) : Parse.ok a b c d := by
  rw [vOk_okB] at h
  exact Parse.okB_iff.1 h
theorem ok_vOk {a b c d : Int} (h : Parse.ok a b c d) : vOk a b c d = true := by
  rw [vOk_okB]
  exact Parse.okB_iff.2 h
theorem name_byte {n : Int} (h0 : 0 ≤ n) (h1 : n ≤ 7) : (UInt8.ofNat (97 + n).toNat).toNat = (97 + n).toNat := by
  rw [UInt8.toNat_ofNat']
  exact Nat.mod_eq_of_lt (by omega)
theorem line_no10 {x : Pk} (h : fine x) : (10 : UInt8) ∉ lineL x := by
  have h1 := full_no10 (vOk_ok h.2)
  have h2 : (10 : UInt8) ≠ UInt8.ofNat (97 + x.1).toNat := fun e => by
    have := name_byte h.1.1 h.1.2
    rw [← e] at this
    have h3 : (10 : UInt8).toNat = 10 := rfl
    have := h.1.1
    omega
  simp only [lineL, List.mem_cons, not_or]
  exact ⟨h2, by decide, h1⟩
theorem line_len (x : Pk) : (lineL x).length ≤ 13 := by
  have := full_len x.2.1 x.2.2.1 x.2.2.2.1 x.2.2.2.2
  simp only [lineL, List.length_cons]
  omega
theorem lockL_len : ∀ M : List Pk, (lockL M).length ≤ 14 * M.length
  | [] => by simp [lockL]
  | x :: t => by
    have h1 := line_len x
    have h2 := lockL_len t
    simp only [lockL, List.length_append, List.length_cons]
    omega

/-- The pick of a line as the program reads it: any sign may be the name, and any the blank. -/
def readI : List UInt8 → Option Pk
  | n :: _ :: r => (Parse.im r).map fun v => ((n.toNat : Int) - 97, v)
  | _ => none
/-- The picks of the lines that the program reads: nothing need stand behind the last newline. -/
def rowsI : List (List UInt8) → Option (List Pk)
  | [] => some []
  | [x] => if x = [] then some [] else (readI x).map fun p => [p]
  | x :: y :: r => (readI x).bind fun p => (rowsI (y :: r)).map (p :: ·)
/-- What the program reads. -/
def imL (l : List UInt8) : Option (List Pk) :=
  if 300 < l.length then none else match rowsI (Parse.cut 10 l) with
    | none => none
    | some M => if (lockT M).data.toList = l then some M else none
theorem imL_none {l : List UInt8} (h : ¬ 300 < l.length) (hr : rowsI (Parse.cut 10 l) = none) : imL l = none := by
  unfold imL
  rw [if_neg h, hr]
theorem imL_eq {l : List UInt8} {M : List Pk} (h : ¬ 300 < l.length) (hr : rowsI (Parse.cut 10 l) = some M) : imL l = if (lockT M).data.toList = l then some M else none := by
  unfold imL
  rw [if_neg h, hr]
/-- The pick of a line as the model reads it. -/
def readS : List UInt8 → Option Pk
  | n :: b :: c :: r => if 97 ≤ n.toNat ∧ n.toNat ≤ 104 ∧ b = 32 then (Parse.sp (c :: r)).map fun v => ((n.toNat : Int) - 97, v) else none
  | _ => none
def rowsS : List (List UInt8) → Option (List Pk)
  | [] => none
  | [x] => if x = [] then some [] else none
  | x :: y :: r => (readS x).bind fun p => (rowsS (y :: r)).map (p :: ·)
/-- What the model reads. -/
def spL (l : List UInt8) : Option (List Pk) :=
  if 300 < l.length then none else match rowsS (Parse.cut 10 l) with
    | none => none
    | some M => if pkOk M then some M else none

theorem spL_none {l : List UInt8} (h : ¬ 300 < l.length) (hr : rowsS (Parse.cut 10 l) = none) : spL l = none := by
  unfold spL
  rw [if_neg h, hr]
theorem spL_eq {l : List UInt8} {M : List Pk} (h : ¬ 300 < l.length) (hr : rowsS (Parse.cut 10 l) = some M) : spL l = if pkOk M then some M else none := by
  unfold spL
  rw [if_neg h, hr]
theorem lockT_toList {M : List Pk} (h : pkOk M = true) : (lockT M).data.toList = lockL M := by simp [lockT, h]
theorem cut_lock {x : Pk} {r : List UInt8} (h : fine x) : Parse.cut 10 (lineL x ++ 10 :: r) = lineL x :: Parse.cut 10 r := Parse.cut_at (line_no10 h)
theorem im_line {x : Pk} (h : fine x) : readI (lineL x) = some x := by
  have h1 : Parse.im (Parse.full x.2.1 x.2.2.1 x.2.2.2.1 x.2.2.2.2) = some x.2 := Parse.im_some.2 ⟨vOk_ok h.2, rfl⟩
  have h2 := name_byte h.1.1 h.1.2
  have h3 := h.1.1
  simp only [readI, lineL, h1, Option.map_some, h2, Option.some.injEq]
  refine Prod.ext ?_ rfl
  simp only
  omega
theorem full_ne {a b c d : Int} : Parse.full a b c d ≠ [] := by
  unfold Parse.full
  simp
theorem sp_line {x : Pk} (h : fine x) : readS (lineL x) = some x := by
  have h1 : Parse.sp (Parse.full x.2.1 x.2.2.1 x.2.2.2.1 x.2.2.2.2) = some x.2 := Parse.sp_some.2 ⟨vOk_ok h.2, rfl⟩
  have h2 := name_byte h.1.1 h.1.2
  have h3 := h.1.1
  have h4 := h.1.2
  have hn := full_ne (a := x.2.1) (b := x.2.2.1) (c := x.2.2.2.1) (d := x.2.2.2.2)
  unfold lineL
  generalize Parse.full x.2.1 x.2.2.1 x.2.2.2.1 x.2.2.2.2 = F at *
  match F, hn with
  | c :: r, _ =>
    simp only [readS, h1, Option.map_some, h2]
    rw [if_pos ⟨by omega, by omega, by trivial⟩]
    simp only [Option.some.injEq]
    refine Prod.ext ?_ rfl
    simp only
    omega
theorem rowsI_lock : ∀ {M : List Pk}, (∀ q ∈ M, fine q) → rowsI (Parse.cut 10 (lockL M)) = some M
  | [], _ => by simp [lockL, Parse.cut, rowsI]
  | x :: t, h => by
    have ih := rowsI_lock (M := t) fun q hq => h q (List.mem_cons_of_mem _ hq)
    rw [lockL, cut_lock (h x (by simp))]
    have hn := Parse.cut_ne 10 (lockL t)
    match e : Parse.cut 10 (lockL t), hn with
    | y :: r, _ =>
      rw [e] at ih
      simp [rowsI, im_line (h x (by simp)), ih]
theorem rowsS_lock : ∀ {M : List Pk}, (∀ q ∈ M, fine q) → rowsS (Parse.cut 10 (lockL M)) = some M
  | [], _ => by simp [lockL, Parse.cut, rowsS]
  | x :: t, h => by
    have ih := rowsS_lock (M := t) fun q hq => h q (List.mem_cons_of_mem _ hq)
    rw [lockL, cut_lock (h x (by simp))]
    have hn := Parse.cut_ne 10 (lockL t)
    match e : Parse.cut 10 (lockL t), hn with
    | y :: r, _ =>
      rw [e] at ih
      simp [rowsS, sp_line (h x (by simp)), ih]
theorem imL_some {l : List UInt8} {M : List Pk} : imL l = some M ↔ l.length ≤ 300 ∧ pkOk M = true ∧ l = lockL M := by
  constructor
  · intro h
    unfold imL at h
    split at h
    · cases h
    · rename_i hl
      split at h
      · cases h
      · rename_i N hN
        split at h
        · rename_i ht
          simp only [Option.some.injEq] at h
          subst h
          rcases hk : pkOk N
          · simp only [lockT, hk] at ht
            have : l = [] := by simpa using ht.symm
            subst this
            simp only [Parse.cut, rowsI, if_true, Option.some.injEq] at hN
            subst hN
            cases hk
          · exact ⟨by omega, rfl, by rw [lockT_toList hk] at ht; exact ht.symm⟩
        · cases h
  · rintro ⟨hl, hk, rfl⟩
    unfold imL
    rw [if_neg (by omega), rowsI_lock (pkOk_fine hk)]
    simp only
    rw [if_pos (lockT_toList hk)]
theorem readS_some {l : List UInt8} {x : Pk} (h : readS l = some x) : l = lineL x := by
  match l, h with
  | [], h => cases h
  | [_], h => cases h
  | [_, _], h => cases h
  | n :: b :: c :: r, h =>
    simp only [readS] at h
    split at h
    · rename_i hc
      obtain ⟨h1, h2, rfl⟩ := hc
      match e : Parse.sp (c :: r), h with
      | some v, h =>
        simp only [Option.map_some, Option.some.injEq] at h
        subst h
        have := (Parse.sp_some (a := v.1) (b := v.2.1) (c := v.2.2.1) (d := v.2.2.2)).1 e
        simp only [lineL]
        rw [this.2]
        congr 1
        apply UInt8.toNat_inj.1
        rw [name_byte (by omega) (by omega)]
        omega
      | none, h => cases h
    · cases h
theorem rowsS_some : ∀ {L : List (List UInt8)} {M : List Pk}, rowsS L = some M → Parse.glue 10 L = lockL M
  | [], M, h => by cases h
  | [x], M, h => by
    simp only [rowsS] at h
    split at h
    · rename_i hx
      simp only [Option.some.injEq] at h
      subst h
      subst hx
      rfl
    · cases h
  | x :: y :: r, M, h => by
    simp only [rowsS] at h
    match e : readS x, h with
    | some p, h =>
      simp only [Option.bind_some] at h
      match e2 : rowsS (y :: r), h with
      | some N, h =>
        simp only [Option.map_some, Option.some.injEq] at h
        subst h
        have ih := rowsS_some e2
        have hx := readS_some e
        simp only [Parse.glue, lockL, ih, hx]
      | none, h => cases h
    | none, h => cases h
theorem spL_some {l : List UInt8} {M : List Pk} : spL l = some M ↔ l.length ≤ 300 ∧ pkOk M = true ∧ l = lockL M := by
  constructor
  · intro h
    unfold spL at h
    split at h
    · cases h
    · rename_i hl
      split at h
      · cases h
      · rename_i N hN
        split at h
        · rename_i hk
          simp only [Option.some.injEq] at h
          subst h
          refine ⟨by omega, hk, ?_⟩
          rw [← rowsS_some hN, Parse.glue_cut]
        · cases h
  · rintro ⟨hl, hk, rfl⟩
    unfold spL
    rw [if_neg (by omega), rowsS_lock (pkOk_fine hk)]
    simp only
    rw [if_pos hk]
/-- The program reads what the model reads. -/
theorem im_sp (l : List UInt8) : imL l = spL l := by
  apply Option.ext
  intro M
  rw [imL_some, spL_some]
theorem imL_lock {M : List Pk} (h : pkOk M = true) : imL (lockL M) = some M :=
  imL_some.2 ⟨by have := lockL_len M; have := pkOk_count h; omega, h, rfl⟩
end Lk
end Go.Proofs.Ytenfdbikgpppdaa

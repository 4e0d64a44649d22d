/- Groundwork over this seat's translation: Vtxt, Vtext, Vparse, Vread, Vnum, Vfrom, Imtext, Txa in one text; the conditions stand at each part. -/
import Derived.Test.YtdhbjjolgmodjaaGa
import Derived.Handy
import Derived.Laws.BytesString
import Derived.Test.YtdhbjjolgmodjaaGb
import Derived.Test.YtdhbjjolgmodjaaGd

/- Contracts of the functions that write numbers as text, over this seat's translation: a number below one hundred is written as its one or two digits, by the model and by the program alike. -/
namespace Go.Proofs.Ytdhbjjolgmodjaa
open Go.RowKit Go.Sort

/-- One digit's text. -/
def dg (d : Int) : ByteArray := ⟨#[UInt8.ofNat (48 + d).toNat]⟩
/-- A number below one hundred as text. -/
def nt (n : Int) : ByteArray := if n < 10 then dg n else dg (n / 10) ++ dg (n % 10)

theorem dg_size (d : Int) : (dg d).size = 1 := rfl
theorem nt_size (n : Int) : (nt n).size ≤ 2 := by
  unfold nt
  split
  · exact Nat.le_succ 1
  · rw [ByteArray.size_append, dg_size, dg_size]; exact Nat.le_refl _

/-- 'string([]byte{x})': the text of one byte. -/
theorem one_byte (V : World) (x : Int) : (convert 31 9 (.slice (some ⟨V.heap.size, 0, none⟩) 1 1)).run Try.prog (V.alloc (.cells #[.int .u8 x] 5)) =
    .ok (.string ⟨#[UInt8.ofNat x.toNat]⟩) (V.alloc (.cells #[.int .u8 x] 5)) := by
  rw [run_convert_bytes_string _ 31 9 5 _ 1 1 Try.underlying31 Try.underlying5 Try.underlying9]
  have hc : (V.alloc (.cells #[.int .u8 x] 5)).cell? ⟨V.heap.size, 0, none⟩ = some (.int .u8 x) := by go_simp
  have hl : (loadCells ⟨V.heap.size, 0, none⟩ 1).run Try.prog (V.alloc (.cells #[.int .u8 x] 5)) = .ok ([x].map (Value.int .u8)).toArray (V.alloc (.cells #[.int .u8 x] 5)) := by
    go_simp
  rw [run_bytesToString _ _ 1 1 [x] hl]
  rfl

set_option maxHeartbeats 1000000 in
theorem decimal_small (n : Int) (w : World) (h0 : 0 ≤ n) (h1 : n < 10) :
    Calls Try.prog 124 #[.int .i64 n] w fun e w' => e = .returned (.string (nt n)) ∧ Below w.heap.size w w' := by
  have hs := dg_size
  have H := Lib.hid (show nt n = dg n by simp [nt, h1])
  have e1 : n / 10 = 0 := by omega
  have e2 : n % 10 = n := by omega
  have hv := one_byte
  go_enter Try.func124, Try.ntmps124
  go_wp2
  go_rounds 1
  go_ret
  exact ⟨by rw [H.out]; rfl, (Below.refl _ _).alloc (Nat.le_refl _) _⟩

theorem one_byte_behind (V : World) (o : Obj) (x : Int) : (convert 31 9 (.slice (some ⟨V.heap.size + 1, 0, none⟩) 1 1)).run Try.prog ((V.alloc o).alloc (.cells #[.int .u8 x] 5)) =
    .ok (.string ⟨#[UInt8.ofNat x.toNat]⟩) ((V.alloc o).alloc (.cells #[.int .u8 x] 5)) := by
  have h := one_byte (V.alloc o) x
  rwa [show (V.alloc o).heap.size = V.heap.size + 1 from by simp] at h

theorem byte_sizes (a b : UInt8) : (⟨#[a]⟩ : ByteArray).size = 1 ∧ (⟨#[b]⟩ : ByteArray).size = 1 := ⟨rfl, rfl⟩

set_option maxHeartbeats 1000000 in
theorem decimal_large (n : Int) (w : World) (h0 : 10 ≤ n) (h1 : n ≤ 99) :
    Calls Try.prog 124 #[.int .i64 n] w fun e w' => e = .returned (.string (nt n)) ∧ Below w.heap.size w w' := by
  have H := Lib.hid (show nt n = dg (n / 10) ++ dg (n % 10) by unfold nt; rw [if_neg (by omega)])
  have e1 : n / 10 / 10 = 0 := by omega
  have e2 : n / 10 % 10 = n / 10 := by omega
  have hv := one_byte
  have hv2 := one_byte_behind
  have hs : ∀ x : UInt8, (⟨#[x]⟩ : ByteArray).size = 1 := fun _ => rfl
  go_enter Try.func124, Try.ntmps124
  go_wp2
  go_rounds 2
  go_ret
  exact ⟨by rw [H.out]; rfl, ((Below.refl _ _).alloc (Nat.le_refl _) _).alloc (by simp) _⟩

theorem decimal_any (n : Int) (w : World) (h0 : 0 ≤ n) (h1 : n ≤ 99) :
    Calls Try.prog 124 #[.int .i64 n] w fun e w' => e = .returned (.string (nt n)) ∧ Below w.heap.size w w' := by
  by_cases h : n < 10
  · exact decimal_small n w h0 h
  · exact decimal_large n w (by omega) h1

end Go.Proofs.Ytdhbjjolgmodjaa

/- Contracts of VersionText, of the model and of the program, over this seat's translation: a version is written as its three numbers with points between and, where Ahead is not 0, a dash and Ahead; what is no version as the empty text; nothing that was there before the call has changed. -/
namespace Go.Proofs.Ytdhbjjolgmodjaa
open Go.RowKit Go.Sort

def core (a b c : Int) : ByteArray := nt a ++ ⟨#[46]⟩ ++ nt b ++ ⟨#[46]⟩ ++ nt c
def txt (a b c d : Int) : ByteArray := if d = 0 then core a b c else core a b c ++ ⟨#[45]⟩ ++ nt d
def vText (a b c d : Int) : ByteArray := if vOk a b c d = true then txt a b c d else ⟨#[]⟩

/-- No text of a version is too long to be joined. -/
theorem room (a b c d : Int) : ¬ 9223372036854775807 < (nt a).size + 1 ∧ ¬ 9223372036854775807 < (nt a).size + 1 + (nt b).size ∧ ¬ 9223372036854775807 < (nt a).size + 1 + (nt b).size + 1 ∧
    ¬ 9223372036854775807 < (nt a).size + 1 + (nt b).size + 1 + (nt c).size ∧ ¬ 9223372036854775807 < (nt a).size + 1 + (nt b).size + 1 + (nt c).size + 1 ∧
    ¬ 9223372036854775807 < (nt a).size + 1 + (nt b).size + 1 + (nt c).size + 1 + (nt d).size := by
  have ha := nt_size a
  have hb := nt_size b
  have hc := nt_size c
  have hd := nt_size d
  omega

set_option maxHeartbeats 1000000 in
theorem specText_any (a b c d : Int) (w : World) :
    Calls Try.prog 92 #[ver a b c d] w fun e w' => e = .returned (.string (vText a b c d)) ∧ Below w.heap.size w w' := by
  have v1 := verAt_new w a b c d 102
  have hB : w.heap.size + 1 ≤ (w.alloc (.cells #[.int .i64 a, .int .i64 b, .int .i64 c, .int .i64 d] 102)).heap.size := by simp
  have hb0 := Below.refl (w.heap.size + 1) (w.alloc (.cells #[.int .i64 a, .int .i64 b, .int .i64 c, .int .i64 d] 102))
  rcases hk : vOk a b c d
  · have H := Lib.hid (show vText a b c d = ⟨#[]⟩ by simp [vText, hk])
    go_enter Try.func92, Try.ntmps92
    go_wp2_with (go_at_call 102; refine (rel hB hb0 (specOk_any _ _ _ _ _)).mono ?_; clear hb0; rintro e w1 ⟨rfl, hb⟩)
    go_ret
    exact ⟨by rw [H.out]; rfl, ((Below.refl _ _).alloc (Nat.le_refl _) _).trans (hb.mono (by simp))⟩
  obtain ⟨⟨a0, a1⟩, ⟨b0, b1⟩, ⟨c0, c1⟩, d0, d1⟩ := vOk_iff.1 hk
  obtain ⟨n1, n2, n3, n4, n5, n6⟩ := room a b c d
  by_cases hd : d = 0
  · subst hd
    have HT := Lib.hid (show vText a b c 0 = core a b c by simp [vText, hk, txt])
    go_enter Try.func92, Try.ntmps92
    go_wp2_with (go_at_call 102; refine (rel hB hb0 (specOk_any _ _ _ _ _)).mono ?_; clear hb0; rintro e w1 ⟨rfl, hb⟩)
    have z1 : w.heap.size < w1.heap.size := by have := hb.size; simp at this; omega
    have y1 := v1.below hb (by simp)
    obtain ⟨k0, k1, k2, k3⟩ := y1.grown
    go_wp2_with fail
    refine wp_region_quiet_below (by kernel_rfl) (by kernel_rfl) ?_
    repeat (any_goals (first | go_big_quiet_step ((go_at_call 124; exact Calls.regrown_of (decimal_any _ _ (by omega) (by omega)))) | quiet_step ((go_at_call 124; exact Calls.regrown_of (decimal_any _ _ (by omega) (by omega))))))
    refine wpQuiet_nil ?_
    intro W2 hw
    have hb2 := quiet_end hw
    clear hw k0 k1 k2 k3
    have y2 := y1.below hb2 z1
    obtain ⟨m0, m1, m2, m3⟩ := y2
    go_wp2
    go_ret
    exact ⟨by rw [HT.out]; rfl, ((Below.refl _ _).alloc (Nat.le_refl _) _).trans ((hb.mono (by simp)).trans (hb2.mono (by omega)))⟩
  · have HT := Lib.hid (show vText a b c d = core a b c ++ ⟨#[45]⟩ ++ nt d by simp [vText, hk, txt, hd])
    have hd1 : 0 < d := by omega
    go_enter Try.func92, Try.ntmps92
    go_wp2_with (go_at_call 102; refine (rel hB hb0 (specOk_any _ _ _ _ _)).mono ?_; clear hb0; rintro e w1 ⟨rfl, hb⟩)
    have z1 : w.heap.size < w1.heap.size := by have := hb.size; simp at this; omega
    have y1 := v1.below hb (by simp)
    obtain ⟨k0, k1, k2, k3⟩ := y1.grown
    go_wp2_with fail
    refine wp_region_quiet_below (by kernel_rfl) (by kernel_rfl) ?_
    repeat (any_goals (first | go_big_quiet_step ((go_at_call 124; exact Calls.regrown_of (decimal_any _ _ (by omega) (by omega)))) | quiet_step ((go_at_call 124; exact Calls.regrown_of (decimal_any _ _ (by omega) (by omega))))))
    refine wpQuiet_nil ?_
    intro W2 hw
    have hb2 := quiet_end hw
    clear hw k0 k1 k2 k3
    have y2 := y1.below hb2 z1
    obtain ⟨m0, m1, m2, m3⟩ := y2
    go_wp2_with (go_at_call 124; refine (decimal_any _ _ (by omega) (by omega)).mono ?_; rintro e w3 ⟨rfl, hb3⟩)
    go_ret
    exact ⟨by rw [HT.out]; rfl, ((Below.refl _ _).alloc (Nat.le_refl _) _).trans ((hb.mono (by simp)).trans ((hb2.mono (by omega)).trans (hb3.mono (by have := hb2.size; omega))))⟩

end Go.Proofs.Ytdhbjjolgmodjaa

/- Plain facts on texts of bytes, without a program: what a text is cut into by a sign, which numbers its pieces are, and that just the texts of versions are read as versions. -/
namespace Go.Proofs.Ytdhbjjolgmodjaa.Parse

/-- The pieces of a text between signs. -/
def cut (sign : UInt8) : List UInt8 → List (List UInt8)
  | [] => [[]]
  | c :: t => if c = sign then [] :: cut sign t else match cut sign t with
    | h :: r => (c :: h) :: r
    | [] => [[c]]

theorem cut_ne (sign : UInt8) : ∀ l, cut sign l ≠ []
  | [] => by simp [cut]
  | c :: t => by
    unfold cut
    split
    · simp
    · split <;> simp

theorem cut_cons {sign c : UInt8} {t : List UInt8} (hc : c ≠ sign) : cut sign (c :: t) = match cut sign t with
    | h :: r => (c :: h) :: r
    | [] => [[c]] := by
  rw [cut, if_neg hc]

theorem cut_none {sign : UInt8} : ∀ {l : List UInt8}, sign ∉ l → cut sign l = [l]
  | [], _ => rfl
  | c :: t, h => by
    have hc : c ≠ sign := fun e => h (by simp [e])
    have ht : sign ∉ t := fun e => h (List.mem_cons_of_mem _ e)
    unfold cut
    rw [if_neg hc, cut_none ht]

theorem cut_at {sign : UInt8} : ∀ {x y : List UInt8}, sign ∉ x → cut sign (x ++ sign :: y) = x :: cut sign y
  | [], y, _ => by simp [cut]
  | c :: t, y, h => by
    have hc : c ≠ sign := fun e => h (by simp [e])
    have ht : sign ∉ t := fun e => h (List.mem_cons_of_mem _ e)
    rw [List.cons_append, cut_cons hc, cut_at ht]

/-- The pieces put together again, signs between. -/
def glue (sign : UInt8) : List (List UInt8) → List UInt8
  | [] => []
  | [x] => x
  | x :: y :: r => x ++ sign :: glue sign (y :: r)

theorem glue_cut (sign : UInt8) : ∀ l, glue sign (cut sign l) = l
  | [] => rfl
  | c :: t => by
    have ih := glue_cut sign t
    unfold cut
    split
    · rename_i hc
      have hn := cut_ne sign t
      match h : cut sign t, hn with
      | y :: r, _ =>
        rw [h] at ih
        simp [glue, ih, hc]
    · match h : cut sign t with
      | [] => exact absurd h (cut_ne sign t)
      | [x] =>
        rw [h] at ih
        simp [glue] at ih
        simp [glue, ih]
      | x :: y :: r =>
        rw [h] at ih
        simp [glue] at ih
        simp [glue, ih]

def isD (b : UInt8) : Bool := decide (48 ≤ b.toNat) && decide (b.toNat ≤ 57)
def dv (b : UInt8) : Int := (b.toNat : Int) - 48
theorem isD_iff {b : UInt8} : isD b = true ↔ 48 ≤ b.toNat ∧ b.toNat ≤ 57 := by simp [isD]

/-- The number that a text is, of at most two digits without a zero ahead of another one, or -1. -/
def num : List UInt8 → Int
  | [x] => if isD x = true then dv x else -1
  | [x, y] => if isD x = true ∧ isD y = true ∧ x.toNat ≠ 48 then dv x * 10 + dv y else -1
  | _ => -1

/-- A digit, and a number below one hundred, as text. -/
def digit (d : Int) : UInt8 := UInt8.ofNat (48 + d).toNat
def text (n : Int) : List UInt8 := if n < 10 then [digit n] else [digit (n / 10), digit (n % 10)]

theorem digit_nat {d : Int} (h0 : 0 ≤ d) (h1 : d ≤ 9) : ((digit d).toNat : Int) = 48 + d := by
  unfold digit
  rw [UInt8.toNat_ofNat']
  omega
theorem digit_isD {d : Int} (h0 : 0 ≤ d) (h1 : d ≤ 9) : isD (digit d) = true := by
  have := digit_nat h0 h1
  rw [isD_iff]
  omega
theorem digit_dv {d : Int} (h0 : 0 ≤ d) (h1 : d ≤ 9) : dv (digit d) = d := by
  have := digit_nat h0 h1
  unfold dv
  omega
theorem digit_of {b : UInt8} (h : isD b = true) : digit (dv b) = b := by
  rw [isD_iff] at h
  apply UInt8.toNat_inj.1
  unfold digit dv
  rw [UInt8.toNat_ofNat']
  omega
theorem dv_range {b : UInt8} (h : isD b = true) : 0 ≤ dv b ∧ dv b ≤ 9 := by
  rw [isD_iff] at h
  unfold dv
  omega

theorem num_text {n : Int} (h0 : 0 ≤ n) (h1 : n ≤ 99) : num (text n) = n := by
  unfold text
  split
  · simp [num, digit_isD h0 (by omega), digit_dv h0 (by omega)]
  · have a := digit_nat (d := n / 10) (by omega) (by omega)
    simp only [num, digit_isD (d := n / 10) (by omega) (by omega), digit_isD (d := n % 10) (by omega) (by omega), digit_dv (d := n / 10) (by omega) (by omega), digit_dv (d := n % 10) (by omega) (by omega)]
    rw [if_pos ⟨trivial, trivial, by omega⟩]
    omega

theorem text_num {l : List UInt8} (h : 0 ≤ num l) : text (num l) = l ∧ num l ≤ 99 := by
  match l with
  | [] => simp [num] at h
  | [x] =>
    simp only [num] at h ⊢
    split at h
    · rename_i hx
      have r := dv_range hx
      rw [if_pos hx]
      refine ⟨?_, by omega⟩
      unfold text
      rw [if_pos (by omega), digit_of hx]
    · omega
  | [x, y] =>
    simp only [num] at h ⊢
    split at h
    · rename_i hx
      obtain ⟨h1, h2, h3⟩ := hx
      have r1 := dv_range h1
      have r2 := dv_range h2
      have r3 : 1 ≤ dv x := by rw [isD_iff] at h1; unfold dv; omega
      rw [if_pos ⟨h1, h2, h3⟩]
      refine ⟨?_, by omega⟩
      unfold text
      rw [if_neg (by omega), show (dv x * 10 + dv y) / 10 = dv x from by omega, show (dv x * 10 + dv y) % 10 = dv y from by omega, digit_of h1, digit_of h2]
    · omega
  | _ :: _ :: _ :: _ => simp [num] at h

/-- No sign in a number's text. -/
theorem text_free {n : Int} (h0 : 0 ≤ n) (h1 : n ≤ 99) {s : UInt8} (hs : s.toNat < 48) : s ∉ text n := by
  unfold text
  intro h
  split at h
  · have := digit_nat h0 (by omega)
    simp at h
    subst h
    omega
  · have a := digit_nat (d := n / 10) (by omega) (by omega)
    have b := digit_nat (d := n % 10) (by omega) (by omega)
    simp at h
    rcases h with h | h <;> subst h <;> omega

/-- The text of a version. -/
def full (a b c d : Int) : List UInt8 := text a ++ 46 :: (text b ++ 46 :: (text c ++ (if d = 0 then [] else 45 :: text d)))

def ok (a b c d : Int) : Prop := (0 ≤ a ∧ a ≤ 99) ∧ (0 ≤ b ∧ b ≤ 99) ∧ (0 ≤ c ∧ c ≤ 99) ∧ 0 ≤ d ∧ d ≤ 9

/-- The two halves of a version's text at the dash, and the three parts of the first half. -/
theorem cut_full {a b c d : Int} (h : ok a b c d) :
    cut 45 (full a b c d) = (text a ++ 46 :: (text b ++ 46 :: text c)) :: (if d = 0 then [] else [text d]) ∧ cut 46 (text a ++ 46 :: (text b ++ 46 :: text c)) = [text a, text b, text c] := by
  obtain ⟨⟨a0, a1⟩, ⟨b0, b1⟩, ⟨c0, c1⟩, d0, d1⟩ := h
  have fa := text_free a0 a1 (s := 45) (by decide)
  have fb := text_free b0 b1 (s := 45) (by decide)
  have fc := text_free c0 c1 (s := 45) (by decide)
  have fd := text_free d0 (by omega) (s := 45) (by decide)
  have hm : (45 : UInt8) ∉ text a ++ 46 :: (text b ++ 46 :: text c) := by
    simp [fa, fb, fc]
  refine ⟨?_, ?_⟩
  · by_cases h : d = 0
    · subst h
      simp only [full, if_pos, List.append_nil]
      exact cut_none hm
    · have e : full a b c d = (text a ++ 46 :: (text b ++ 46 :: text c)) ++ 45 :: text d := by simp [full, h]
      rw [e, cut_at hm, cut_none fd, if_neg h]
  · rw [cut_at (text_free a0 a1 (by decide)), cut_at (text_free b0 b1 (by decide)), cut_none (text_free c0 c1 (by decide))]

theorem text_len {n : Int} : 1 ≤ (text n).length ∧ (text n).length ≤ 2 := by
  unfold text
  split <;> simp

theorem full_len {a b c d : Int} : (full a b c d).length ≤ 11 := by
  have := (text_len (n := a)).2
  have := (text_len (n := b)).2
  have := (text_len (n := c)).2
  have := (text_len (n := d)).2
  unfold full
  split <;> simp <;> omega

/-- What is read as a version by its halves and parts is written as that text. -/
theorem full_of {l x y z : List UInt8} {hs : List (List UInt8)} {h : List UInt8} (e1 : cut 45 l = h :: hs) (e2 : cut 46 h = [x, y, z]) (h0 : 0 ≤ num x) (h1 : 0 ≤ num y) (h2 : 0 ≤ num z) :
    (hs = [] → l = full (num x) (num y) (num z) 0) ∧ (∀ t, hs = [t] → 0 < num t → l = full (num x) (num y) (num z) (num t)) := by
  have g1 := glue_cut 45 l
  have g2 := glue_cut 46 h
  rw [e1] at g1
  rw [e2] at g2
  simp only [glue] at g2
  have tx := (text_num h0).1
  have ty := (text_num h1).1
  have tz := (text_num h2).1
  refine ⟨fun e => ?_, fun t e ht => ?_⟩
  · subst e
    simp only [glue] at g1
    unfold full
    rw [tx, ty, tz, if_pos rfl, List.append_nil, g2, g1]
  · subst e
    simp only [glue] at g1
    have tt := (text_num (show 0 ≤ num t by omega)).1
    unfold full
    rw [tx, ty, tz, tt, if_neg (by omega), ← g1, ← g2]
    simp

end Go.Proofs.Ytdhbjjolgmodjaa.Parse

/- Plain facts on texts of bytes, without a program: reading numbers one behind the other and comparing with what would be written reads the same versions as cutting a text by its signs. -/
namespace Go.Proofs.Ytdhbjjolgmodjaa.Parse

/-- The number at a text's beginning, of at most two digits, and how many digits it takes. -/
def lead : List UInt8 → Int × Nat
  | [] => (0, 0)
  | [x] => if isD x = true then (dv x, 1) else (0, 0)
  | x :: y :: _ => if isD x = true then (if isD y = true then (dv x * 10 + dv y, 2) else (dv x, 1)) else (0, 0)

theorem lead_range (l : List UInt8) : 0 ≤ (lead l).1 ∧ (lead l).1 ≤ 99 ∧ (lead l).2 ≤ 2 ∧ (lead l).2 ≤ l.length := by
  match l with
  | [] => simp [lead]
  | [x] =>
    by_cases h : isD x = true
    · have := dv_range h
      simp [lead, h]
      omega
    · simp [lead, h]
  | x :: y :: r =>
    by_cases h : isD x = true
    · have := dv_range h
      by_cases h2 : isD y = true
      · have := dv_range h2
        simp [lead, h, h2]
        omega
      · simp [lead, h, h2]
        omega
    · simp [lead, h]

/-- What behind a number is no digit does not change what is read. -/
theorem lead_text {n : Int} (h0 : 0 ≤ n) (h1 : n ≤ 99) {r : List UInt8} (hr : ∀ c t, r = c :: t → isD c = false) : lead (text n ++ r) = (n, (text n).length) := by
  unfold text
  split
  · have a := digit_isD h0 (by omega)
    have b := digit_dv h0 (by omega)
    match r, hr with
    | [], _ => simp [lead, a, b]
    | c :: t, hr =>
      have hc := hr c t rfl
      simp [lead, a, b, hc]
  · have a := digit_isD (d := n / 10) (by omega) (by omega)
    have b := digit_dv (d := n / 10) (by omega) (by omega)
    have c := digit_isD (d := n % 10) (by omega) (by omega)
    have d := digit_dv (d := n % 10) (by omega) (by omega)
    simp [lead, a, b, c, d]
    omega

/-- The number at a place of a text and the place behind it. -/
def at_ (l : List UInt8) (i : Nat) : Int × Nat := ((lead (l.drop i)).1, i + (lead (l.drop i)).2)

/-- The four numbers that are read one behind the other. -/
def rd (l : List UInt8) : Int × Int × Int × Int :=
  let a := at_ l 0
  let b := at_ l (a.2 + 1)
  let c := at_ l (b.2 + 1)
  let d := at_ l (c.2 + 1)
  (a.1, b.1, c.1, d.1)

theorem drop_over {x r : List UInt8} {s : UInt8} : (x ++ s :: r).drop (x.length + 1) = r := by
  rw [List.drop_append]
  simp

theorem rd_full {a b c d : Int} (h : ok a b c d) : rd (full a b c d) = (a, b, c, d) := by
  obtain ⟨⟨a0, a1⟩, ⟨b0, b1⟩, ⟨c0, c1⟩, d0, d1⟩ := h
  have dot : ∀ (r : List UInt8) c t, (46 :: r : List UInt8) = c :: t → isD c = false := fun r c t e => by
    simp only [List.cons.injEq] at e
    rw [← e.1]
    decide
  have la : lead (full a b c d) = (a, (text a).length) := lead_text a0 a1 (dot _)
  have e1 : (full a b c d).drop ((text a).length + 1) = text b ++ 46 :: (text c ++ (if d = 0 then [] else 45 :: text d)) := drop_over
  have lb : lead ((full a b c d).drop ((text a).length + 1)) = (b, (text b).length) := by rw [e1]; exact lead_text b0 b1 (dot _)
  have e2 : (full a b c d).drop ((text a).length + 1 + (text b).length + 1) = text c ++ (if d = 0 then [] else 45 :: text d) := by
    rw [show (text a).length + 1 + (text b).length + 1 = ((text a).length + 1) + ((text b).length + 1) from by omega, ← List.drop_drop, e1, drop_over]
  have lc : lead ((full a b c d).drop ((text a).length + 1 + (text b).length + 1)) = (c, (text c).length) := by
    rw [e2]
    refine lead_text c0 c1 fun x t e => ?_
    split at e
    · cases e
    · simp only [List.cons.injEq] at e
      rw [← e.1]
      decide
  have ld : (lead ((full a b c d).drop ((text a).length + 1 + (text b).length + 1 + (text c).length + 1))).1 = d := by
    rw [show (text a).length + 1 + (text b).length + 1 + (text c).length + 1 = ((text a).length + 1 + (text b).length + 1) + ((text c).length + 1) from by omega, ← List.drop_drop, e2]
    split
    · rename_i hd
      subst hd
      rw [List.append_nil, List.drop_eq_nil_of_le (by omega)]
      rfl
    · rw [drop_over]
      have := lead_text (n := d) d0 (by omega) (r := []) (fun _ _ e => by cases e)
      rw [List.append_nil] at this
      rw [this]
  unfold rd at_
  simp only [List.drop_zero, la, Nat.zero_add, lb, lc, ld]

def okB (a b c d : Int) : Bool := decide (0 ≤ a ∧ a ≤ 99) && (decide (0 ≤ b ∧ b ≤ 99) && (decide (0 ≤ c ∧ c ≤ 99) && decide (0 ≤ d ∧ d ≤ 9)))
theorem okB_iff {a b c d : Int} : okB a b c d = true ↔ ok a b c d := by simp [okB, ok]

/-- What the program reads: the four numbers, if they are a version's and the text is its own. -/
def im (l : List UInt8) : Option (Int × Int × Int × Int) :=
  if okB (rd l).1 (rd l).2.1 (rd l).2.2.1 (rd l).2.2.2 = true ∧ full (rd l).1 (rd l).2.1 (rd l).2.2.1 (rd l).2.2.2 = l then some (rd l) else none

def chk (a b c d : Int) : Option (Int × Int × Int × Int) := if okB a b c d = true then some (a, b, c, d) else none
/-- What the model reads off the halves and the parts. -/
def sp3 (x y z : List UInt8) : List (List UInt8) → Option (Int × Int × Int × Int)
  | [] => chk (num x) (num y) (num z) 0
  | [t] => if num t = 0 then none else chk (num x) (num y) (num z) (num t)
  | _ => none
def sp2 (hs : List (List UInt8)) : List (List UInt8) → Option (Int × Int × Int × Int)
  | [x, y, z] => sp3 x y z hs
  | _ => none
def sp1 : List (List UInt8) → Option (Int × Int × Int × Int)
  | h :: hs => sp2 hs (cut 46 h)
  | [] => none
def sp (l : List UInt8) : Option (Int × Int × Int × Int) := if 20 < l.length then none else sp1 (cut 45 l)

theorem im_some {l : List UInt8} {a b c d : Int} : im l = some (a, b, c, d) ↔ ok a b c d ∧ l = full a b c d := by
  constructor
  · intro h
    unfold im at h
    split at h
    · rename_i hk
      obtain ⟨h1, h2⟩ := hk
      simp only [Option.some.injEq] at h
      rw [h] at h1 h2
      exact ⟨okB_iff.1 h1, h2.symm⟩
    · cases h
  · rintro ⟨h, rfl⟩
    unfold im
    rw [rd_full h, if_pos ⟨okB_iff.2 h, rfl⟩]

theorem chk_some {a b c d a' b' c' d' : Int} (h : chk a b c d = some (a', b', c', d')) : ok a b c d ∧ a = a' ∧ b = b' ∧ c = c' ∧ d = d' := by
  unfold chk at h
  split at h
  · rename_i hk
    simp only [Option.some.injEq, Prod.mk.injEq] at h
    exact ⟨okB_iff.1 hk, h⟩
  · cases h

theorem sp_some {l : List UInt8} {a b c d : Int} : sp l = some (a, b, c, d) ↔ ok a b c d ∧ l = full a b c d := by
  constructor
  · intro h
    unfold sp at h
    split at h
    · cases h
    · match e1 : cut 45 l, h with
      | [], h => cases h
      | u :: hs, h =>
        simp only [sp1] at h
        match e2 : cut 46 u, h with
        | [x, y, z], h =>
          simp only [sp2] at h
          match hs, e1, h with
          | [], e1, h =>
            simp only [sp3] at h
            obtain ⟨hk, rfl, rfl, rfl, rfl⟩ := chk_some h
            exact ⟨hk, (full_of e1 e2 hk.1.1 hk.2.1.1 hk.2.2.1.1).1 rfl⟩
          | [t], e1, h =>
            simp only [sp3] at h
            split at h
            · cases h
            · rename_i hn
              obtain ⟨hk, rfl, rfl, rfl, rfl⟩ := chk_some h
              have h0 := hk.2.2.2.1
              exact ⟨hk, (full_of e1 e2 hk.1.1 hk.2.1.1 hk.2.2.1.1).2 t rfl (by omega)⟩
          | _ :: _ :: _, _, h => simp [sp3] at h
        | [], h => simp [sp2] at h
        | [_], h => simp [sp2] at h
        | [_, _], h => simp [sp2] at h
        | _ :: _ :: _ :: _ :: _, h => simp [sp2] at h
  · rintro ⟨h, rfl⟩
    have hc := cut_full h
    have hk := okB_iff.2 h
    obtain ⟨⟨a0, a1⟩, ⟨b0, b1⟩, ⟨c0, c1⟩, d0, d1⟩ := h
    unfold sp
    have hl := full_len (a := a) (b := b) (c := c) (d := d)
    rw [if_neg (by omega), hc.1]
    simp only [sp1, hc.2, sp2]
    by_cases hd : d = 0
    · subst hd
      simp [sp3, num_text a0 a1, num_text b0 b1, num_text c0 c1, chk, hk]
    · simp [hd, sp3, num_text a0 a1, num_text b0 b1, num_text c0 c1, num_text d0 (by omega), chk, hk]

/-- The program reads what the model reads. -/
theorem im_sp (l : List UInt8) : im l = sp l := by
  apply Option.ext
  rintro ⟨a, b, c, d⟩
  rw [im_some, sp_some]

end Go.Proofs.Ytdhbjjolgmodjaa.Parse

/- Contracts of the functions that read numbers off a text, over this seat's translation: the program's numberAt reads the number that stands at a place; nothing has changed. -/
namespace Go.Proofs.Ytdhbjjolgmodjaa
open Go.RowKit Go.Sort

/-- The byte at a place, as the list of bytes has it. -/
theorem byte_at (s : ByteArray) (i : Nat) (h : i < s.size) : s.data.toList.drop i = s[i] :: s.data.toList.drop (i + 1) := by
  rw [List.drop_eq_getElem_cons (by simpa using h)]
  rfl

/-- The three ways in which a number can stand at a place. -/
theorem at_none (s : ByteArray) (i : Nat) (h : s.size ≤ i) : Parse.at_ s.data.toList i = (0, i) := by
  unfold Parse.at_
  rw [List.drop_eq_nil_of_le (by simpa using h)]
  rfl
theorem at_no (s : ByteArray) (i : Nat) (h : i < s.size) (hx : Parse.isD s[i] = false) : Parse.at_ s.data.toList i = (0, i) := by
  unfold Parse.at_
  rw [byte_at s i h]
  match s.data.toList.drop (i + 1) with
  | [] => simp [Parse.lead, hx]
  | _ :: _ => simp [Parse.lead, hx]
theorem at_one_end (s : ByteArray) (i : Nat) (h : i < s.size) (hx : Parse.isD s[i] = true) (h2 : s.size ≤ i + 1) : Parse.at_ s.data.toList i = (Parse.dv s[i], i + 1) := by
  unfold Parse.at_
  rw [byte_at s i h, List.drop_eq_nil_of_le (by simpa using h2)]
  simp [Parse.lead, hx]
theorem at_one (s : ByteArray) (i : Nat) (h : i < s.size) (hx : Parse.isD s[i] = true) (h2 : i + 1 < s.size) (hy : Parse.isD s[i + 1] = false) : Parse.at_ s.data.toList i = (Parse.dv s[i], i + 1) := by
  unfold Parse.at_
  rw [byte_at s i h, byte_at s (i + 1) h2]
  simp [Parse.lead, hx, hy]
theorem at_two (s : ByteArray) (i : Nat) (h : i < s.size) (hx : Parse.isD s[i] = true) (h2 : i + 1 < s.size) (hy : Parse.isD s[i + 1] = true) :
    Parse.at_ s.data.toList i = (Parse.dv s[i] * 10 + Parse.dv s[i + 1], i + 2) := by
  unfold Parse.at_
  rw [byte_at s i h, byte_at s (i + 1) h2]
  simp [Parse.lead, hx, hy]

end Go.Proofs.Ytdhbjjolgmodjaa

/- The contract of the program's VersionFrom over this seat's translation: it answers with the version whose text the text is, and true, or with the zero value and false; nothing that was there before the call has changed. Condition: the text has less than 2147483648 bytes. -/
namespace Go.Proofs.Ytdhbjjolgmodjaa
open Go.RowKit Go.Sort

/-- What VersionFrom answers: a version and true, or the zero value and false. -/
def ans : Option (Int × Int × Int × Int) → Value
  | some v => .tuple #[ver v.1 v.2.1 v.2.2.1 v.2.2.2, .bool true]
  | none => .tuple #[ver 0 0 0 0, .bool false]

theorem vOk_okB (a b c d : Int) : vOk a b c d = Parse.okB a b c d := by
  rw [Bool.eq_iff_iff, vOk_iff, Parse.okB_iff]
  rfl

theorem nt_text (n : Int) : (nt n).data.toList = Parse.text n := by
  unfold nt Parse.text
  split
  · rfl
  · rw [ByteArray.data_append]
    simp [dg, Parse.digit]

theorem vText_full {a b c d : Int} (h : vOk a b c d = true) : (vText a b c d).data.toList = Parse.full a b c d := by
  unfold vText
  rw [if_pos h]
  unfold txt core Parse.full
  split <;> simp [ByteArray.data_append, nt_text]

theorem at_bounds (l : List UInt8) (i : Nat) : 0 ≤ (Parse.at_ l i).1 ∧ (Parse.at_ l i).1 ≤ 99 ∧ (Parse.at_ l i).2 ≤ i + 2 := by
  have h := Parse.lead_range (l.drop i)
  unfold Parse.at_
  refine ⟨h.1, h.2.1, ?_⟩
  simp only
  omega

theorem olds {B : Nat} {W V : World} (hb : Below B W V) : (∀ b o, b < B → V.cell? ⟨b, o, none⟩ = W.cell? ⟨b, o, none⟩) ∧ ∀ b o, b < B → V.frozen? ⟨b, o, none⟩ = W.frozen? ⟨b, o, none⟩ :=
  ⟨fun b o h => hb.cell (p := ⟨b, o, none⟩) h, fun b o h => hb.frozen (p := ⟨b, o, none⟩) h⟩

end Go.Proofs.Ytdhbjjolgmodjaa

/- The contracts of the program's rankText and spanText over this seat's translation: a rank is written as its version, a span as its first version or as both with two points between. Nothing that was there before the call has changed. -/
namespace Go.Proofs.Ytdhbjjolgmodjaa
open Go.RowKit Go.Sort

/-- A rank as text. -/
def rkT (r : Int) : ByteArray := vText (r / 10 / 10000) (r / 10 / 100 % 100) (r / 10 % 100) ((r % 10 + 1) % 10)
def spT (x y : Int) : ByteArray := if x = y then rkT x else rkT x ++ ⟨#[46, 46]⟩ ++ rkT y
theorem vText_size (a b c d : Int) : (vText a b c d).size ≤ 12 := by
  have ha := nt_size a
  have hb := nt_size b
  have hc := nt_size c
  have hd := nt_size d
  have h1 : (⟨#[46]⟩ : ByteArray).size = 1 := rfl
  have h2 : (⟨#[45]⟩ : ByteArray).size = 1 := rfl
  unfold vText
  split
  · unfold txt core
    split <;> simp only [ByteArray.size_append] <;> omega
  · exact Nat.zero_le _
theorem rkT_size (r : Int) : (rkT r).size ≤ 12 := vText_size _ _ _ _
theorem spT_size (x y : Int) : (spT x y).size ≤ 26 := by
  have h1 := rkT_size x
  have h2 := rkT_size y
  have h3 : (⟨#[46, 46]⟩ : ByteArray).size = 2 := rfl
  unfold spT
  split
  · omega
  · simp only [ByteArray.size_append]; omega

/-- Spans as text, each behind the others. -/
def rngT : List (Int × Int) → ByteArray → ByteArray
  | [], s => s
  | (x, y) :: t, s => rngT t (s ++ ⟨#[32, 124, 32]⟩ ++ spT x y)
/-- A range as text. -/
def textL : List (Int × Int) → ByteArray
  | [] => ⟨#[45]⟩
  | (x, y) :: t => rngT t (spT x y)
def textR (L : List (Int × Int)) : ByteArray := if spOk L then textL L else ⟨#[]⟩

theorem wf_at : ∀ {M : List (Int × Int)} {lo : Int} {k : Nat} {x y : Int}, Wf lo M → M[k]? = some (x, y) → lo ≤ x ∧ x ≤ y ∧ y ≤ 9999999
  | [], _, _, _, _, _, h => by simp at h
  | (a, b) :: t, lo, 0, x, y, ⟨e1, e2, e3, _⟩, h => by
    simp at h
    obtain ⟨rfl, rfl⟩ := h
    exact ⟨e1, e2, e3⟩
  | (a, b) :: t, lo, k + 1, x, y, ⟨e1, e2, e3, e4⟩, h => by
    have := wf_at e4 (k := k) (by simpa using h)
    exact ⟨by omega, this.2⟩

/-- What the loops keep: what is written so far, and that it is short. -/
def TxtRel (L : List (Int × Int)) (B : Nat) (w : World) (s0 : ByteArray) (v i : Value) (wr : World) : Prop :=
  ∃ (k : Nat) (s : ByteArray), k ≤ L.length ∧ i = .int .i64 (k : Int) ∧ v = .string s ∧ s.size ≤ 1 + 30 * k ∧ (k = 0 → s = s0) ∧ (0 < k → textL L = rngT (L.drop k) s) ∧ Below B w wr

theorem txt_first {L : List (Int × Int)} {B : Nat} {w wr : World} {s0 : ByteArray} {x y : Int} (hL : L[0]? = some (x, y)) (hb : Below B w wr) : TxtRel L B w s0 (.string (spT x y)) (.int .i64 1) wr := by
  have hk : 0 < L.length := (List.getElem?_eq_some_iff.1 hL).1
  refine ⟨1, spT x y, hk, rfl, rfl, by have := spT_size x y; omega, fun h => absurd h (by omega), fun _ => ?_, hb⟩
  have := drop_at hL
  rw [List.drop_zero] at this
  rw [this]
  rfl
theorem txt_next {L : List (Int × Int)} {B : Nat} {w wr : World} {s0 s : ByteArray} {k : Nat} {x y : Int} (hL : L[k]? = some (x, y)) (hs : s.size ≤ 1 + 30 * k) (h0 : 0 < k) (ht : textL L = rngT (L.drop k) s) (hb : Below B w wr) :
    TxtRel L B w s0 (.string (s ++ ⟨#[32, 124, 32]⟩ ++ spT x y)) (.int .i64 ((k : Int) + 1)) wr := by
  have hk : k < L.length := (List.getElem?_eq_some_iff.1 hL).1
  have h3 : (⟨#[32, 124, 32]⟩ : ByteArray).size = 3 := rfl
  refine ⟨k + 1, _, by omega, by go_num, rfl, ?_, fun h => absurd h (by omega), fun _ => ?_, hb⟩
  · have := spT_size x y
    simp only [ByteArray.size_append]
    omega
  · rw [ht, drop_at hL]
    rfl

end Go.Proofs.Ytdhbjjolgmodjaa

/- Plain facts of ranges as text: the range of all versions alone is written as it is. No condition. -/
namespace Go.Proofs.Ytdhbjjolgmodjaa
open Go.RowKit Go.Sort

namespace Txa
open Parse
theorem num_eq {n m : Int} (h0 : 0 ≤ n) (h1 : n ≤ 99) (k0 : 0 ≤ m) (k1 : m ≤ 99) {r r' : List UInt8} (hr : ∀ c t, r = c :: t → isD c = false) (hr' : ∀ c t, r' = c :: t → isD c = false) (h : text n ++ r = text m ++ r') : n = m ∧ r = r' := by
  have e1 := lead_text h0 h1 hr
  have e2 := lead_text k0 k1 hr'
  rw [h, e2] at e1
  injection e1 with e1 _
  subst e1
  exact ⟨rfl, List.append_cancel_left h⟩
theorem stop {x : UInt8} {r : List UInt8} (hx : isD x = false) : ∀ c t, x :: r = c :: t → isD c = false := fun c t h => by
  injection h with h _
  rw [← h]
  exact hx
/-- What follows a span's text. -/
def restT : List (Int × Int) → List UInt8
  | [] => []
  | (x, y) :: t => 32 :: 124 :: 32 :: ((spT x y).data.toList ++ restT t)
theorem rngT_list : ∀ (t : List (Int × Int)) (s : ByteArray), (rngT t s).data.toList = s.data.toList ++ restT t
  | [], s => by simp [rngT, restT]
  | (x, y) :: t, s => by
    unfold rngT restT
    rw [rngT_list t]
    simp
theorem rest_stop (t : List (Int × Int)) : ∀ c r, restT t = c :: r → isD c = false := fun c r h => by
  match t with
  | [] => simp [restT] at h
  | (x, y) :: t =>
    unfold restT at h
    injection h with h _
    rw [← h]
    rfl
theorem rkT_list {r : Int} (h0 : 0 ≤ r) (h1 : r ≤ 9999999) : (rkT r).data.toList = full (r / 10 / 10000) (r / 10 / 100 % 100) (r / 10 % 100) ((r % 10 + 1) % 10) := vText_full (vOk_iff.2 (by omega))
theorem full_tail (a b c d : Int) (T : List UInt8) : full a b c d ++ T = text a ++ 46 :: (text b ++ 46 :: (text c ++ ((if d = 0 then [] else 45 :: text d) ++ T))) := by
  unfold full
  simp
theorem tail_stop {d : Int} {T : List UInt8} (hT : ∀ c t, T = c :: t → isD c = false) : ∀ c t, (if d = 0 then ([] : List UInt8) else 45 :: text d) ++ T = c :: t → isD c = false := fun c t h => by
  split at h
  · exact hT c t h
  · injection h with h _
    rw [← h]
    rfl
/-- Two versions' texts with something behind that is no number. -/
theorem full_eq {a b c d a' b' c' d' : Int} (h : ok a b c d) (h' : ok a' b' c' d') {T T' : List UInt8} (hT : ∀ c t, T = c :: t → isD c = false ∧ c ≠ 45) (hT' : ∀ c t, T' = c :: t → isD c = false ∧ c ≠ 45) (e : full a b c d ++ T = full a' b' c' d' ++ T') : a = a' ∧ b = b' ∧ c = c' ∧ d = d' ∧ T = T' := by
  obtain ⟨⟨a0, a1⟩, ⟨b0, b1⟩, ⟨c0, c1⟩, d0, d1⟩ := h
  obtain ⟨⟨p0, p1⟩, ⟨q0, q1⟩, ⟨r0, r1⟩, s0, s1⟩ := h'
  rw [full_tail, full_tail] at e
  have hd : isD 46 = false := rfl
  obtain ⟨rfl, f1⟩ := num_eq a0 a1 p0 p1 (stop hd) (stop hd) e
  injection f1 with _ f1
  obtain ⟨rfl, f2⟩ := num_eq b0 b1 q0 q1 (stop hd) (stop hd) f1
  injection f2 with _ f2
  obtain ⟨rfl, f3⟩ := num_eq c0 c1 r0 r1 (tail_stop fun c t k => (hT c t k).1) (tail_stop fun c t k => (hT' c t k).1) f2
  clear e f1 f2
  refine ⟨rfl, rfl, rfl, ?_⟩
  by_cases hd : d = 0
  · by_cases hd' : d' = 0
    · rw [if_pos hd, if_pos hd'] at f3
      exact ⟨by omega, f3⟩
    · rw [if_pos hd, if_neg hd'] at f3
      exact absurd rfl ((hT _ _ f3).2)
  · by_cases hd' : d' = 0
    · rw [if_neg hd, if_pos hd'] at f3
      exact absurd rfl ((hT' _ _ f3.symm).2)
    · rw [if_neg hd, if_neg hd'] at f3
      rw [List.cons_append, List.cons_append] at f3
      injection f3 with _ f3
      obtain ⟨rfl, f4⟩ := num_eq d0 (by omega) s0 (by omega) (fun c t k => (hT c t k).1) (fun c t k => (hT' c t k).1) f3
      exact ⟨rfl, f4⟩
theorem spT_list {x y : Int} (h0 : 0 ≤ x) (h1 : x ≤ 9999999) (h2 : 0 ≤ y) (h3 : y ≤ 9999999) : (spT x y).data.toList = full (x / 10 / 10000) (x / 10 / 100 % 100) (x / 10 % 100) ((x % 10 + 1) % 10) ++ (if x = y then [] else 46 :: 46 :: full (y / 10 / 10000) (y / 10 / 100 % 100) (y / 10 % 100) ((y % 10 + 1) % 10)) := by
  unfold spT
  split
  · rw [rkT_list h0 h1, List.append_nil]
  · rw [← rkT_list h0 h1, ← rkT_list h2 h3]
    simp
theorem rest_stop2 (t : List (Int × Int)) : ∀ c r, restT t = c :: r → isD c = false ∧ c ≠ 45 := fun c r h => by
  match t with
  | [] => simp [restT] at h
  | (x, y) :: t =>
    unfold restT at h
    injection h with h _
    rw [← h]
    exact ⟨rfl, by decide⟩
theorem all_text {L : List (Int × Int)} (h : spOk L = true) (e : textR L = textR [(0, 9999999)]) : L = [(0, 9999999)] := by
  have e := congrArg (fun s : ByteArray => s.data.toList) e
  try simp only at e
  unfold textR at e
  rw [if_pos h, if_pos (by decide)] at e
  match L, h with
  | [], h =>
    have h2 : (textL [(0, 9999999)]).data.toList = (spT 0 9999999).data.toList ++ [] := by unfold textL; rw [rngT_list]; rfl
    rw [h2, spT_list (by omega) (by omega) (by omega) (by omega)] at e
    unfold textL full text digit at e
    simp at e
  | (x, y) :: t, h =>
    obtain ⟨⟨h1, h2, h3, _⟩, _⟩ := spOk_iff.1 h
    unfold textL at e
    rw [rngT_list, rngT_list, spT_list (by omega) (by omega) (by omega) (by omega), spT_list (by omega) (by omega) (by omega) (by omega)] at e
    rw [if_neg (show ¬ (0 : Int) = 9999999 by omega), List.append_assoc, List.append_assoc] at e
    have okx : ok (x / 10 / 10000) (x / 10 / 100 % 100) (x / 10 % 100) ((x % 10 + 1) % 10) := by unfold ok; omega
    have oky : ok (y / 10 / 10000) (y / 10 / 100 % 100) (y / 10 % 100) ((y % 10 + 1) % 10) := by unfold ok; omega
    have ok0 : ok ((0 : Int) / 10 / 10000) ((0 : Int) / 10 / 100 % 100) ((0 : Int) / 10 % 100) (((0 : Int) % 10 + 1) % 10) := by unfold ok; omega
    have okm : ok ((9999999 : Int) / 10 / 10000) ((9999999 : Int) / 10 / 100 % 100) ((9999999 : Int) / 10 % 100) (((9999999 : Int) % 10 + 1) % 10) := by unfold ok; omega
    have dot : ∀ (r : List UInt8), ∀ c t, (46 : UInt8) :: r = c :: t → isD c = false ∧ c ≠ 45 := fun r c t k => by
      injection k with k _
      rw [← k]
      exact ⟨rfl, by decide⟩
    by_cases hxy : x = y
    · rw [if_pos hxy, List.nil_append] at e
      obtain ⟨_, _, _, _, e⟩ := full_eq okx ok0 (rest_stop2 t) (dot _) e
      match t with
      | [] => simp [restT] at e
      | (a, b) :: t =>
        unfold restT at e
        simp at e
    · rw [if_neg hxy] at e
      obtain ⟨k1, k2, k3, k4, e⟩ := full_eq okx ok0 (dot _) (dot _) e
      try simp only [List.cons_append] at e
      injection e with _ e
      injection e with _ e
      obtain ⟨m1, m2, m3, m4, e⟩ := full_eq oky okm (rest_stop2 t) (rest_stop2 []) e
      have hx0 : x = 0 := by omega
      have hy0 : y = 9999999 := by omega
      match t with
      | [] => rw [hx0, hy0]
      | (a, b) :: t =>
        unfold restT at e
        simp at e
end Txa
end Go.Proofs.Ytdhbjjolgmodjaa

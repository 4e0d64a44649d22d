/- The contracts of the program's rankText and spanText over this seat's translation: a rank is written as its version, a span as its first version or as both with two points between. Nothing that was there before the call has changed. -/
import Derived.Test.YtenfdbikgpppdaaVtext
import Derived.Test.YtenfdbikgpppdaaGa
import Derived.Test.YtenfdbikgpppdaaGb
import Derived.Test.YtenfdbikgpppdaaGd
namespace Go.Proofs.Ytenfdbikgpppdaa
open Go.RowKit Go.Sort

/-- A rank as text. -/
def rkT (r : Int) : ByteArray := vText (r / 10 / 10000) (r / 10 / 100 % 100) (r / 10 % 100) ((r % 10 + 1) % 10)
def spT (x y : Int) : ByteArray := if x = y then rkT x else rkT x ++ ⟨#[46, 46]⟩ ++ rkT y
theorem vText_size (a b c d : Int) : (vText a b c d).size ≤ 12 := by
  have ha := nt_size a
  have hb := nt_size b
  have hc := nt_size c
  have hd := nt_size d
  have h1 : (⟨#[46]⟩ : ByteArray).size = 1 := rfl
  have h2 : (⟨#[45]⟩ : ByteArray).size = 1 := rfl
  unfold vText
  split
  · unfold txt core
    split <;> simp only [ByteArray.size_append] <;> omega
  · exact Nat.zero_le _
theorem rkT_size (r : Int) : (rkT r).size ≤ 12 := vText_size _ _ _ _
theorem spT_size (x y : Int) : (spT x y).size ≤ 26 := by
  have h1 := rkT_size x
  have h2 := rkT_size y
  have h3 : (⟨#[46, 46]⟩ : ByteArray).size = 2 := rfl
  unfold spT
  split
  · omega
  · simp only [ByteArray.size_append]; omega

set_option maxHeartbeats 1000000 in
theorem rankText_any (r : Int) (w : World) (h0 : 0 ≤ r) (h1 : r ≤ 9999999) : Calls Try.prog 73 #[.int .i64 r] w fun e w' => e = .returned (.string (rkT r)) ∧ Below w.heap.size w w' := by
  have hk : inB r 0 9999999 = true := inB_iff.2 ⟨h0, h1⟩
  have KA : Hid (∀ V, Calls Try.prog 79 #[.int .i64 r] V fun e w' => e = .returned (.tuple #[atV r, .bool true]) ∧ Below V.heap.size V w') := Lib.hid fun V => by
    have := implAt_any r V
    rwa [show atR r = .tuple #[atV r, .bool true] by simp [atR, hk]] at this
  have KT : Hid (∀ V, Calls Try.prog 31 #[atV r] V fun e w' => e = .returned (.string (rkT r)) ∧ Below V.heap.size V w') := Lib.hid fun V => implText_any _ _ _ _ V
  clear hk
  unfold atV at KA KT
  generalize rkT r = t at *
  generalize r / 10 / 10000 = a at *
  generalize r / 10 / 100 % 100 = b at *
  generalize r / 10 % 100 = c at *
  generalize (r % 10 + 1) % 10 = d at *
  go_enter Try.func73, Try.ntmps73
  go_wp2_with fail
  refine (KA.out _).mono ?_
  rintro e w1 ⟨rfl, hb⟩
  go_wp2_with fail
  refine (KT.out _).mono ?_
  rintro e w2 ⟨rfl, hb2⟩
  go_wp2_with fail
  go_ret
  exact ⟨rfl, hb.trans ((((Below.refl w1.heap.size w1).alloc (Nat.le_refl _) _).trans (hb2.mono (by simp))).mono hb.size)⟩

set_option maxHeartbeats 1000000 in
theorem spanText_any (x y : Int) (w : World) (h0 : 0 ≤ x) (h1 : x ≤ y) (h2 : y ≤ 9999999) : Calls Try.prog 57 #[span x y] w fun e w' => e = .returned (.string (spT x y)) ∧ Below w.heap.size w w' := by
  have KX : Hid (∀ V, Calls Try.prog 73 #[.int .i64 x] V fun e w' => e = .returned (.string (rkT x)) ∧ Below V.heap.size V w') := Lib.hid fun V => rankText_any x V h0 (by omega)
  have KR : Hid (∀ r V, 0 ≤ r → r ≤ 9999999 → Calls Try.prog 73 #[.int .i64 r] V fun e w' => e = .returned (.string (rkT r)) ∧ Below V.heap.size V w') := Lib.hid fun r V a b => rankText_any r V a b
  have b0 := (Below.refl w.heap.size w).alloc (Nat.le_refl _) (.cells #[.int .i64 x, .int .i64 y] 86)
  by_cases hxy : x = y
  · have HT := Lib.hid (show spT x y = rkT x by simp [spT, hxy])
    subst hxy
    clear KR
    go_enter Try.func57, Try.ntmps57
    go_wp2_with fail
    refine (KX.out _).mono ?_
    rintro e w1 ⟨rfl, hb⟩
    go_wp2_with fail
    go_ret
    exact ⟨by rw [HT.out]; rfl, b0.trans (hb.mono (by simp))⟩
  · have HT := Lib.hid (show spT x y = rkT x ++ ⟨#[46, 46]⟩ ++ rkT y by simp [spT, hxy])
    have s1 := rkT_size x
    have s2 := rkT_size y
    have n1 : ¬ 9223372036854775807 < (rkT x).size + 2 := by omega
    have n2 : ¬ 9223372036854775807 < (rkT x).size + 2 + (rkT y).size := by omega
    have ne : (x == y) = false := by simp [hxy]
    have t0 := cell_regrown (w := w.alloc (.cells #[.int .i64 x, .int .i64 y] 86)) (a := ⟨w.heap.size, 0, none⟩) (v := .int .i64 x) (by go_simp)
    have t1 := cell_regrown (w := w.alloc (.cells #[.int .i64 x, .int .i64 y] 86)) (a := ⟨w.heap.size, 1, none⟩) (v := .int .i64 y) (by go_simp)
    go_enter Try.func57, Try.ntmps57
    go_wp2_with fail
    refine wp_region_quiet_below (by kernel_rfl) (by kernel_rfl) ?_
    repeat (any_goals (first | go_big_quiet_step ((go_at_call 73; exact Calls.regrown_of (KR.out _ _ (by omega) (by omega)))) | quiet_step ((go_at_call 73; exact Calls.regrown_of (KR.out _ _ (by omega) (by omega))))))
    refine wpQuiet_nil ?_
    intro W2 hw
    have hb2 := quiet_end hw
    clear hw t0 t1
    go_wp2_with fail
    go_ret
    exact ⟨by rw [HT.out]; rfl, b0.trans (hb2.mono (by simp))⟩

/-- Spans as text, each behind the others. -/
def rngT : List (Int × Int) → ByteArray → ByteArray
  | [], s => s
  | (x, y) :: t, s => rngT t (s ++ ⟨#[32, 124, 32]⟩ ++ spT x y)
/-- A range as text. -/
def textL : List (Int × Int) → ByteArray
  | [] => ⟨#[45]⟩
  | (x, y) :: t => rngT t (spT x y)
def textR (L : List (Int × Int)) : ByteArray := if spOk L then textL L else ⟨#[]⟩

theorem wf_at : ∀ {M : List (Int × Int)} {lo : Int} {k : Nat} {x y : Int}, Wf lo M → M[k]? = some (x, y) → lo ≤ x ∧ x ≤ y ∧ y ≤ 9999999
  | [], _, _, _, _, _, h => by simp at h
  | (a, b) :: t, lo, 0, x, y, ⟨e1, e2, e3, _⟩, h => by
    simp at h
    obtain ⟨rfl, rfl⟩ := h
    exact ⟨e1, e2, e3⟩
  | (a, b) :: t, lo, k + 1, x, y, ⟨e1, e2, e3, e4⟩, h => by
    have := wf_at e4 (k := k) (by simpa using h)
    exact ⟨by omega, this.2⟩

/-- What the loops keep: what is written so far, and that it is short. -/
def TxtRel (L : List (Int × Int)) (B : Nat) (w : World) (s0 : ByteArray) (v i : Value) (wr : World) : Prop :=
  ∃ (k : Nat) (s : ByteArray), k ≤ L.length ∧ i = .int .i64 (k : Int) ∧ v = .string s ∧ s.size ≤ 1 + 30 * k ∧ (k = 0 → s = s0) ∧ (0 < k → textL L = rngT (L.drop k) s) ∧ Below B w wr

theorem txt_first {L : List (Int × Int)} {B : Nat} {w wr : World} {s0 : ByteArray} {x y : Int} (hL : L[0]? = some (x, y)) (hb : Below B w wr) : TxtRel L B w s0 (.string (spT x y)) (.int .i64 1) wr := by
  have hk : 0 < L.length := (List.getElem?_eq_some_iff.1 hL).1
  refine ⟨1, spT x y, hk, rfl, rfl, by have := spT_size x y; omega, fun h => absurd h (by omega), fun _ => ?_, hb⟩
  have := drop_at hL
  rw [List.drop_zero] at this
  rw [this]
  rfl
theorem txt_next {L : List (Int × Int)} {B : Nat} {w wr : World} {s0 s : ByteArray} {k : Nat} {x y : Int} (hL : L[k]? = some (x, y)) (hs : s.size ≤ 1 + 30 * k) (h0 : 0 < k) (ht : textL L = rngT (L.drop k) s) (hb : Below B w wr) :
    TxtRel L B w s0 (.string (s ++ ⟨#[32, 124, 32]⟩ ++ spT x y)) (.int .i64 ((k : Int) + 1)) wr := by
  have hk : k < L.length := (List.getElem?_eq_some_iff.1 hL).1
  have h3 : (⟨#[32, 124, 32]⟩ : ByteArray).size = 3 := rfl
  refine ⟨k + 1, _, by omega, by go_num, rfl, ?_, fun h => absurd h (by omega), fun _ => ?_, hb⟩
  · have := spT_size x y
    simp only [ByteArray.size_append]
    omega
  · rw [ht, drop_at hL]
    rfl

set_option maxHeartbeats 2000000 in
theorem implRangeText_any (v : Value) (L : List (Int × Int)) (w : World) (hl : L.length ≤ 1048576) (h : SpAt w w.heap.size v L) :
    Calls Try.prog 32 #[.agg #[v]] w fun e w' => e = .returned (.string (textR L)) ∧ Below w.heap.size w w' := by
  have hh := h
  obtain ⟨q, cap, rfl, hcc⟩ := hh
  have HH := Lib.hid hcc
  clear hcc
  have K := Lib.hid fun V (hV : SpAt V V.heap.size (.slice q L.length cap) L) => implRangeOk_any q cap L V hl hV
  have b0 := (Below.refl w.heap.size w).alloc (Nat.le_refl _) (.cells #[.slice q L.length cap] 54)
  have hB : w.heap.size + 1 ≤ (w.alloc (.cells #[.slice q L.length cap] 54)).heap.size := by simp
  have hb := Below.refl (w.heap.size + 1) (w.alloc (.cells #[.slice q L.length cap] 54))
  have hs := (h.below b0).mono b0.size
  rcases hk : spOk L
  · have HF := Lib.hid (show textR L = ⟨#[]⟩ by simp [textR, hk])
    rw [hk] at K
    clear hk h
    go_enter Try.func32, Try.ntmps32
    go_wp2_with fail
    refine (rel hB hb (K.out _ hs)).mono ?_
    clear hb hs
    rintro e w1 ⟨rfl, hb⟩
    have b1 := b0.trans (hb.mono (by omega))
    go_wp2_with fail
    go_ret
    exact ⟨by rw [HF.out]; rfl, b1⟩
  · obtain ⟨hwf, hl40⟩ := spOk_iff.1 hk
    have HF := Lib.hid (show textR L = textL L by simp [textR, hk])
    have HW := Lib.hid hwf
    rw [hk] at K
    clear hk h hwf
    by_cases hz : L.length = 0
    · obtain rfl : L = [] := List.eq_nil_of_length_eq_zero hz
      have HT := Lib.hid (show textL [] = ⟨#[45]⟩ from rfl)
      clear hz hl hl40
      go_enter Try.func32, Try.ntmps32
      go_wp2_with fail
      refine (rel hB hb (K.out _ hs)).mono ?_
      clear hb hs
      rintro e w1 ⟨rfl, hb⟩
      have hc := cells_of hb
      have b1 := b0.trans (hb.mono (by omega))
      go_wp2_with fail
      go_ret
      exact ⟨by rw [HF.out, HT.out]; rfl, b1⟩
    · have z1 : ((L.length : Int) == 0) = false := by rw [beq_eq_false_iff_ne]; omega
      go_enter Try.func32, Try.ntmps32
      go_wp2_with fail
      refine (rel hB hb (K.out _ hs)).mono ?_
      clear hb hs
      rintro e w1 ⟨rfl, hb⟩
      have hc := cells_of hb
      have p0 : w1.cell? ⟨w.heap.size, 0, none⟩ = some (.slice q L.length cap) := (hc _ _ (by omega)).trans (by go_simp)
      have b1 := b0.trans (hb.mono (by omega))
      clear hb hc b0
      go_wp2_with fail
      go_loopw [3, 16] (fun v i wr => TxtRel L w1.heap.size w1 ⟨#[]⟩ v i wr) (fun _ i _ => L.length - (intOf i).toNat)
      case atStart => exact ⟨0, _, Nat.zero_le _, rfl, rfl, Nat.zero_le _, fun _ => rfl, fun h => absurd h (Nat.lt_irrefl _), Below.refl _ _⟩
      case round =>
        obtain ⟨k, s, hk, rfl, rfl, hsz, hs0, hsk, hb⟩ := hrel
        have bx := b1.trans (hb.mono b1.size)
        have HS0 := Lib.hid hs0
        have HSK := Lib.hid hsk
        clear hs0 hsk
        by_cases hlt : k < L.length
        · rcases HH.out with h1 | ⟨g, o, rfl, hBb, hcb⟩
          · subst h1
            exact absurd hlt (by simp)
          obtain ⟨x, y, hxy⟩ : ∃ x y, L[k] = (x, y) := ⟨_, _, rfl⟩
          have cc := hcb k hlt
          rw [hxy] at cc
          have c0 := (bx.cell (p := ⟨g, o + k * 2, none⟩) hBb).trans cc.1
          have c1 := (bx.cell (p := ⟨g, o + k * 2 + 1, none⟩) hBb).trans cc.2
          have HX := Lib.hid (show L[k]? = some (x, y) by rw [List.getElem?_eq_getElem hlt, hxy])
          have xb := wf_at HW.out HX.out
          clear cc hxy hcb
          simp only at c0 c1
          have KS : Hid (∀ V, Calls Try.prog 57 #[span x y] V fun e w' => e = .returned (.string (spT x y)) ∧ Below V.heap.size V w') := Lib.hid fun V => spanText_any x y V xb.1 xb.2.1 xb.2.2
          have hz2 := spT_size x y
          have nb := hb.alloc hb.size (.cells #[.int .i64 x, .int .i64 y] 86)
          rcases Nat.eq_zero_or_pos k with hk0 | hk0
          · subst hk0
            obtain rfl : s = ⟨#[]⟩ := HS0.out rfl
            simp only [Nat.zero_mul, Nat.add_zero] at c0 c1
            have n1 : ¬ 9223372036854775807 < (spT x y).size := by omega
            have e0 : (⟨#[]⟩ : ByteArray) ++ spT x y = spT x y := ByteArray.empty_append
            go_wp2_with fail
            refine (KS.out _).mono ?_
            rintro e w2 ⟨rfl, hb2⟩
            have HP := Lib.hid (txt_first (s0 := ⟨#[]⟩) HX.out (nb.trans (hb2.mono nb.size)))
            clear hb2 nb
            go_wp2_with fail
            go_roundw
            case rel => first | exact HP.out | (rw [e0]; exact HP.out)
            case measure => simp [intOf]; omega
          · have HT := Lib.hid (HSK.out hk0)
            have h3 : (⟨#[32, 124, 32]⟩ : ByteArray).size = 3 := rfl
            have n1 : ¬ 9223372036854775807 < s.size + 3 := by omega
            have n2 : ¬ 9223372036854775807 < s.size + 3 + (spT x y).size := by omega
            have k0 : (0 : Int) < (k : Int) := by omega
            go_wp2_with fail
            refine (KS.out _).mono ?_
            rintro e w2 ⟨rfl, hb2⟩
            have HP := Lib.hid (txt_next (s0 := ⟨#[]⟩) HX.out hsz hk0 HT.out (nb.trans (hb2.mono nb.size)))
            clear hb2 nb
            go_wp2_with fail
            go_roundw
            case rel => exact HP.out
            case measure => simp [intOf]; omega
        · obtain rfl : k = L.length := by omega
          have HT := Lib.hid (show textL L = s by rw [HSK.out (by omega), List.drop_length]; rfl)
          go_wp2_with fail
          go_ret
          exact ⟨by rw [HF.out, HT.out]; rfl, bx⟩

end Go.Proofs.Ytenfdbikgpppdaa

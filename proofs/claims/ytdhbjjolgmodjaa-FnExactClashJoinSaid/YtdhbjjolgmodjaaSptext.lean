/- The contract of the model's RangeText over this seat's translation: it writes a range as the plain function textR tells. Nothing that was there before the call has changed. Condition: at most 1048576 spans. -/
import Derived.Test.YtdhbjjolgmodjaaGp
namespace Go.Proofs.Ytdhbjjolgmodjaa
open Go.RowKit Go.Sort

theorem spec_parts (r : Int) (h0 : 0 ≤ r) (h1 : r ≤ 9999999) : ∃ a b c d : Int, (∀ V, Calls Try.prog 91 #[.int .i64 r] V fun e w' => e = .returned (.tuple #[ver a b c d, .bool true]) ∧ Below V.heap.size V w') ∧
    (∀ V, Calls Try.prog 92 #[ver a b c d] V fun e w' => e = .returned (.string (rkT r)) ∧ Below V.heap.size V w') ∧ r = rk a b c d := by
  have hk : inB r 0 9999999 = true := inB_iff.2 ⟨h0, h1⟩
  refine ⟨_, _, _, _, fun V => ?_, fun V => specText_any _ _ _ _ V, ?_⟩
  · have := specAt_any r V
    rwa [show atR r = .tuple #[atV r, .bool true] by simp [atR, hk]] at this
  · unfold rk; omega

set_option maxRecDepth 100000 in
set_option maxHeartbeats 8000000 in
theorem specRangeText_any (v : Value) (L : List (Int × Int)) (w : World) (hl : L.length ≤ 1048576) (h : SpAt w w.heap.size v L) :
    Calls Try.prog 47 #[.agg #[v]] w fun e w' => e = .returned (.string (textR L)) ∧ Below w.heap.size w w' := by
  have hh := h
  obtain ⟨q, cap, rfl, hcc⟩ := hh
  have HH := Lib.hid hcc
  clear hcc
  have K := Lib.hid fun V (hV : SpAt V V.heap.size (.slice q L.length cap) L) => specRangeOk_any q cap L V hl hV
  have b0 := (Below.refl w.heap.size w).alloc (Nat.le_refl _) (.cells #[.slice q L.length cap] 81)
  have hB : w.heap.size + 1 ≤ (w.alloc (.cells #[.slice q L.length cap] 81)).heap.size := by simp
  have hb := Below.refl (w.heap.size + 1) (w.alloc (.cells #[.slice q L.length cap] 81))
  have hs := (h.below b0).mono b0.size
  rcases hk : spOk L
  · have HF := Lib.hid (show textR L = ⟨#[]⟩ by simp [textR, hk])
    rw [hk] at K
    clear hk h
    go_enter Try.func47, Try.ntmps47
    go_wp2_with fail
    refine (rel hB hb (K.out _ hs)).mono ?_
    clear hb hs
    rintro e w1 ⟨rfl, hb⟩
    have b1 := b0.trans (hb.mono (by omega))
    go_wp2_with fail
    go_ret
    exact ⟨by rw [HF.out]; rfl, b1⟩
  · obtain ⟨hwf, hl40⟩ := spOk_iff.1 hk
    have HF := Lib.hid (show textR L = textL L by simp [textR, hk])
    have HW := Lib.hid hwf
    rw [hk] at K
    clear hk h hwf
    go_enter Try.func47, Try.ntmps47
    go_wp2_with fail
    refine (rel hB hb (K.out _ hs)).mono ?_
    clear hb hs
    rintro e w1 ⟨rfl, hb⟩
    have hc := cells_of hb
    have p0 : w1.cell? ⟨w.heap.size, 0, none⟩ = some (.slice q L.length cap) := (hc _ _ (by omega)).trans (by go_simp)
    have b1 := b0.trans (hb.mono (by omega))
    have z1 : w.heap.size < w1.heap.size := by have := hb.size; simp at this; omega
    clear hb hc b0
    go_wp2_with fail
    go_loopw [3, 4] (fun v i wr => TxtRel L w.heap.size w ⟨#[45]⟩ v i wr ∧ wr.cell? ⟨w.heap.size, 0, none⟩ = some (.slice q L.length cap) ∧ w.heap.size < wr.heap.size) (fun _ i _ => L.length - (intOf i).toNat)
    case atStart => exact ⟨⟨0, _, Nat.zero_le _, rfl, rfl, Nat.le_refl _, fun _ => rfl, fun h => absurd h (Nat.lt_irrefl _), b1⟩, p0, z1⟩
    case round =>
      obtain ⟨⟨k, s, hk, rfl, rfl, hsz, hs0, hsk, bx⟩, q0, zw⟩ := hrel
      have HS0 := Lib.hid hs0
      have HSK := Lib.hid hsk
      clear hs0 hsk p0 z1
      by_cases hlt : k < L.length
      · rcases HH.out with h1 | ⟨g, o, rfl, hBb, hcb⟩
        · subst h1
          exact absurd hlt (by simp)
        obtain ⟨x, y, hxy0⟩ : ∃ x y, L[k] = (x, y) := ⟨_, _, rfl⟩
        have cc := hcb k hlt
        rw [hxy0] at cc
        have HX := Lib.hid (show L[k]? = some (x, y) by rw [List.getElem?_eq_getElem hlt, hxy0])
        have xb := wf_at HW.out HX.out
        clear hxy0 hcb
        simp only at cc
        have i1 : (k : Int) < (L.length : Int) := by omega
        rcases Nat.eq_zero_or_pos k with hk0 | hk0
        · subst hk0
          obtain rfl : s = ⟨#[45]⟩ := HS0.out rfl
          simp only [Nat.zero_mul, Nat.add_zero] at cc
          have CC := Lib.hid cc
          have c0 := (bx.cell (p := ⟨g, o, none⟩) hBb).trans cc.1
          clear cc HS0 HSK
          by_cases hxy : x = y
          · subst hxy
            obtain ⟨a, b, c, d, ka, kt, hrr⟩ := spec_parts x xb.1 xb.2.2
            have KAx := Lib.hid ka
            have KAy := Lib.hid ka
            have KTx := Lib.hid kt
            have HSP := Lib.hid (show spT x x = rkT x by simp [spT])
            have sx := rkT_size x
            clear ka kt xb hrr
            generalize rkT x = tx at *
            go_wp2_with fail
            refine (KAx.out _).mono ?_
            rintro e w11 ⟨rfl, hb⟩
            have nw11 : Below wr.heap.size wr w11 := hb
            have sw11 : wr.heap.size ≤ w11.heap.size := hb.size
            have cw11_0_0 := (nw11.cell (p := ⟨w.heap.size, 0, none⟩) (by show w.heap.size < wr.heap.size; omega)).trans q0
            have bw11 := bx.trans (nw11.mono bx.size)
            have lw11_0 : w.heap.size < w11.heap.size := by omega
            clear q0 bx nw11 hb
            have d1 := (bw11.cell (p := ⟨g, o + 1, none⟩) hBb).trans CC.out.2
            have gz : g < w11.heap.size := Nat.lt_of_lt_of_le hBb bw11.size
            go_wp2_with fail
            refine (KAy.out _).mono ?_
            rintro e w12 ⟨rfl, hb⟩
            have nw12 : Below w11.heap.size w11 w12 := ((Below.refl w11.heap.size w11).alloc (Nat.le_refl _) (.cells #[.int .i64 a, .int .i64 b, .int .i64 c, .int .i64 d] 102)).trans (hb.mono (by simp))
            have sw12 : w11.heap.size + 1 ≤ w12.heap.size := by have := hb.size; simpa using this
            have cw12_0_0 := (nw12.cell (p := ⟨w.heap.size, 0, none⟩) (by show w.heap.size < w11.heap.size; omega)).trans cw11_0_0
            have cw12_1_0 : w12.cell? ⟨w11.heap.size, 0, none⟩ = some (.int .i64 a) := (hb.cell (p := ⟨w11.heap.size, 0, none⟩) (by simp)).trans (by go_simp)
            have cw12_1_1 : w12.cell? ⟨w11.heap.size, 1, none⟩ = some (.int .i64 b) := (hb.cell (p := ⟨w11.heap.size, 1, none⟩) (by simp)).trans (by go_simp)
            have cw12_1_2 : w12.cell? ⟨w11.heap.size, 2, none⟩ = some (.int .i64 c) := (hb.cell (p := ⟨w11.heap.size, 2, none⟩) (by simp)).trans (by go_simp)
            have cw12_1_3 : w12.cell? ⟨w11.heap.size, 3, none⟩ = some (.int .i64 d) := (hb.cell (p := ⟨w11.heap.size, 3, none⟩) (by simp)).trans (by go_simp)
            have bw12 := bw11.trans (nw12.mono bw11.size)
            clear lw11_0
            have lw12_0 : w.heap.size < w12.heap.size := by omega
            have lw12_1 : w11.heap.size < w12.heap.size := by omega
            clear cw11_0_0 bw11 nw12 hb
            clear d1 gz c0
            go_wp2_with fail
            refine (KTx.out _).mono ?_
            rintro e w13 ⟨rfl, hb⟩
            have nw13 : Below w12.heap.size w12 w13 := ((Below.refl w12.heap.size w12).alloc (Nat.le_refl _) (.cells #[.int .i64 a, .int .i64 b, .int .i64 c, .int .i64 d] 102)).trans (hb.mono (by simp))
            have sw13 : w12.heap.size + 1 ≤ w13.heap.size := by have := hb.size; simpa using this
            have cw13_0_0 := (nw13.cell (p := ⟨w.heap.size, 0, none⟩) (by show w.heap.size < w12.heap.size; omega)).trans cw12_0_0
            have cw13_1_0 := (nw13.cell (p := ⟨w11.heap.size, 0, none⟩) (by show w11.heap.size < w12.heap.size; omega)).trans cw12_1_0
            have cw13_1_1 := (nw13.cell (p := ⟨w11.heap.size, 1, none⟩) (by show w11.heap.size < w12.heap.size; omega)).trans cw12_1_1
            have cw13_1_2 := (nw13.cell (p := ⟨w11.heap.size, 2, none⟩) (by show w11.heap.size < w12.heap.size; omega)).trans cw12_1_2
            have cw13_1_3 := (nw13.cell (p := ⟨w11.heap.size, 3, none⟩) (by show w11.heap.size < w12.heap.size; omega)).trans cw12_1_3
            have cw13_2_0 : w13.cell? ⟨w12.heap.size, 0, none⟩ = some (.int .i64 a) := (hb.cell (p := ⟨w12.heap.size, 0, none⟩) (by simp)).trans (by go_simp)
            have cw13_2_1 : w13.cell? ⟨w12.heap.size, 1, none⟩ = some (.int .i64 b) := (hb.cell (p := ⟨w12.heap.size, 1, none⟩) (by simp)).trans (by go_simp)
            have cw13_2_2 : w13.cell? ⟨w12.heap.size, 2, none⟩ = some (.int .i64 c) := (hb.cell (p := ⟨w12.heap.size, 2, none⟩) (by simp)).trans (by go_simp)
            have cw13_2_3 : w13.cell? ⟨w12.heap.size, 3, none⟩ = some (.int .i64 d) := (hb.cell (p := ⟨w12.heap.size, 3, none⟩) (by simp)).trans (by go_simp)
            have bw13 := bw12.trans (nw13.mono bw12.size)
            clear lw12_0 lw12_1
            have lw13_0 : w.heap.size < w13.heap.size := by omega
            have lw13_1 : w11.heap.size < w13.heap.size := by omega
            have lw13_2 : w12.heap.size < w13.heap.size := by omega
            clear cw12_0_0 cw12_1_0 cw12_1_1 cw12_1_2 cw12_1_3 bw12 nw13 hb
            have HP := Lib.hid (And.intro (txt_first (s0 := ⟨#[45]⟩) HX.out bw13) (And.intro cw13_0_0 lw13_0))
            rw [HSP.out] at HP
            clear bw13
            go_wp2_with fail
            go_roundw
            case rel => exact HP.out
            case measure => simp [intOf]; omega
          · obtain ⟨a, b, c, d, ka, kt, hrx⟩ := spec_parts x xb.1 (by omega)
            obtain ⟨a', b', c', d', ka', kt', hry⟩ := spec_parts y (by omega) xb.2.2
            have HSP := Lib.hid (show spT x y = rkT x ++ ⟨#[46, 46]⟩ ++ rkT y by simp [spT, hxy])
            have sx := rkT_size x
            have sy := rkT_size y
            have hne : ¬ (a = a' ∧ b = b' ∧ c = c' ∧ d = d') := fun h => hxy (by rw [hrx, hry, h.1, h.2.1, h.2.2.1, h.2.2.2])
            have m1 : ¬ 9223372036854775807 < (rkT x).size + 2 := by omega
            have m2 : ¬ 9223372036854775807 < (rkT x).size + 2 + (rkT y).size := by omega
            generalize rkT x = tx at *
            generalize rkT y = ty at *
            clear hrx hry hxy
            by_cases h0 : a = a'
            rotate_left
            · have e0 : (a == a') = false := by rw [beq_eq_false_iff_ne]; exact h0
              have KAx := Lib.hid ka
              have KAy := Lib.hid ka'
              have KTx := Lib.hid kt
              have KTy := Lib.hid kt'
              clear ka ka' kt kt' hne
              go_wp2_with fail
              refine (KAx.out _).mono ?_
              rintro e w11 ⟨rfl, hb⟩
              have nw11 : Below wr.heap.size wr w11 := hb
              have sw11 : wr.heap.size ≤ w11.heap.size := hb.size
              have cw11_0_0 := (nw11.cell (p := ⟨w.heap.size, 0, none⟩) (by show w.heap.size < wr.heap.size; omega)).trans q0
              have bw11 := bx.trans (nw11.mono bx.size)
              have lw11_0 : w.heap.size < w11.heap.size := by omega
              clear q0 bx nw11 hb
              have d1 := (bw11.cell (p := ⟨g, o + 1, none⟩) hBb).trans CC.out.2
              have gz : g < w11.heap.size := Nat.lt_of_lt_of_le hBb bw11.size
              go_wp2_with fail
              refine (KAy.out _).mono ?_
              rintro e w12 ⟨rfl, hb⟩
              have nw12 : Below w11.heap.size w11 w12 := ((Below.refl w11.heap.size w11).alloc (Nat.le_refl _) (.cells #[.int .i64 a, .int .i64 b, .int .i64 c, .int .i64 d] 102)).trans (hb.mono (by simp))
              have sw12 : w11.heap.size + 1 ≤ w12.heap.size := by have := hb.size; simpa using this
              have cw12_0_0 := (nw12.cell (p := ⟨w.heap.size, 0, none⟩) (by show w.heap.size < w11.heap.size; omega)).trans cw11_0_0
              have cw12_1_0 : w12.cell? ⟨w11.heap.size, 0, none⟩ = some (.int .i64 a) := (hb.cell (p := ⟨w11.heap.size, 0, none⟩) (by simp)).trans (by go_simp)
              have cw12_1_1 : w12.cell? ⟨w11.heap.size, 1, none⟩ = some (.int .i64 b) := (hb.cell (p := ⟨w11.heap.size, 1, none⟩) (by simp)).trans (by go_simp)
              have cw12_1_2 : w12.cell? ⟨w11.heap.size, 2, none⟩ = some (.int .i64 c) := (hb.cell (p := ⟨w11.heap.size, 2, none⟩) (by simp)).trans (by go_simp)
              have cw12_1_3 : w12.cell? ⟨w11.heap.size, 3, none⟩ = some (.int .i64 d) := (hb.cell (p := ⟨w11.heap.size, 3, none⟩) (by simp)).trans (by go_simp)
              have bw12 := bw11.trans (nw12.mono bw11.size)
              clear lw11_0
              have lw12_0 : w.heap.size < w12.heap.size := by omega
              have lw12_1 : w11.heap.size < w12.heap.size := by omega
              clear cw11_0_0 bw11 nw12 hb
              clear d1 gz c0
              go_wp2_with fail
              refine (KTx.out _).mono ?_
              rintro e w13 ⟨rfl, hb⟩
              have nw13 : Below w12.heap.size w12 w13 := ((Below.refl w12.heap.size w12).alloc (Nat.le_refl _) (.cells #[.int .i64 a', .int .i64 b', .int .i64 c', .int .i64 d'] 102)).trans (hb.mono (by simp))
              have sw13 : w12.heap.size + 1 ≤ w13.heap.size := by have := hb.size; simpa using this
              have cw13_0_0 := (nw13.cell (p := ⟨w.heap.size, 0, none⟩) (by show w.heap.size < w12.heap.size; omega)).trans cw12_0_0
              have cw13_1_0 := (nw13.cell (p := ⟨w11.heap.size, 0, none⟩) (by show w11.heap.size < w12.heap.size; omega)).trans cw12_1_0
              have cw13_1_1 := (nw13.cell (p := ⟨w11.heap.size, 1, none⟩) (by show w11.heap.size < w12.heap.size; omega)).trans cw12_1_1
              have cw13_1_2 := (nw13.cell (p := ⟨w11.heap.size, 2, none⟩) (by show w11.heap.size < w12.heap.size; omega)).trans cw12_1_2
              have cw13_1_3 := (nw13.cell (p := ⟨w11.heap.size, 3, none⟩) (by show w11.heap.size < w12.heap.size; omega)).trans cw12_1_3
              have cw13_2_0 : w13.cell? ⟨w12.heap.size, 0, none⟩ = some (.int .i64 a') := (hb.cell (p := ⟨w12.heap.size, 0, none⟩) (by simp)).trans (by go_simp)
              have cw13_2_1 : w13.cell? ⟨w12.heap.size, 1, none⟩ = some (.int .i64 b') := (hb.cell (p := ⟨w12.heap.size, 1, none⟩) (by simp)).trans (by go_simp)
              have cw13_2_2 : w13.cell? ⟨w12.heap.size, 2, none⟩ = some (.int .i64 c') := (hb.cell (p := ⟨w12.heap.size, 2, none⟩) (by simp)).trans (by go_simp)
              have cw13_2_3 : w13.cell? ⟨w12.heap.size, 3, none⟩ = some (.int .i64 d') := (hb.cell (p := ⟨w12.heap.size, 3, none⟩) (by simp)).trans (by go_simp)
              have bw13 := bw12.trans (nw13.mono bw12.size)
              clear lw12_0 lw12_1
              have lw13_0 : w.heap.size < w13.heap.size := by omega
              have lw13_1 : w11.heap.size < w13.heap.size := by omega
              have lw13_2 : w12.heap.size < w13.heap.size := by omega
              clear cw12_0_0 cw12_1_0 cw12_1_1 cw12_1_2 cw12_1_3 bw12 nw13 hb
              go_wp2_with fail
              refine (KTy.out _).mono ?_
              rintro e w14 ⟨rfl, hb⟩
              have nw14 : Below w13.heap.size w13 w14 := hb
              have sw14 : w13.heap.size ≤ w14.heap.size := hb.size
              have cw14_0_0 := (nw14.cell (p := ⟨w.heap.size, 0, none⟩) (by show w.heap.size < w13.heap.size; omega)).trans cw13_0_0
              have cw14_1_0 := (nw14.cell (p := ⟨w11.heap.size, 0, none⟩) (by show w11.heap.size < w13.heap.size; omega)).trans cw13_1_0
              have cw14_1_1 := (nw14.cell (p := ⟨w11.heap.size, 1, none⟩) (by show w11.heap.size < w13.heap.size; omega)).trans cw13_1_1
              have cw14_1_2 := (nw14.cell (p := ⟨w11.heap.size, 2, none⟩) (by show w11.heap.size < w13.heap.size; omega)).trans cw13_1_2
              have cw14_1_3 := (nw14.cell (p := ⟨w11.heap.size, 3, none⟩) (by show w11.heap.size < w13.heap.size; omega)).trans cw13_1_3
              have cw14_2_0 := (nw14.cell (p := ⟨w12.heap.size, 0, none⟩) (by show w12.heap.size < w13.heap.size; omega)).trans cw13_2_0
              have cw14_2_1 := (nw14.cell (p := ⟨w12.heap.size, 1, none⟩) (by show w12.heap.size < w13.heap.size; omega)).trans cw13_2_1
              have cw14_2_2 := (nw14.cell (p := ⟨w12.heap.size, 2, none⟩) (by show w12.heap.size < w13.heap.size; omega)).trans cw13_2_2
              have cw14_2_3 := (nw14.cell (p := ⟨w12.heap.size, 3, none⟩) (by show w12.heap.size < w13.heap.size; omega)).trans cw13_2_3
              have bw14 := bw13.trans (nw14.mono bw13.size)
              clear lw13_0 lw13_1 lw13_2
              have lw14_0 : w.heap.size < w14.heap.size := by omega
              have lw14_1 : w11.heap.size < w14.heap.size := by omega
              have lw14_2 : w12.heap.size < w14.heap.size := by omega
              clear cw13_0_0 cw13_1_0 cw13_1_1 cw13_1_2 cw13_1_3 cw13_2_0 cw13_2_1 cw13_2_2 cw13_2_3 bw13 nw14 hb
              have HP := Lib.hid (And.intro (txt_first (s0 := ⟨#[45]⟩) HX.out bw14) (And.intro cw14_0_0 lw14_0))
              rw [HSP.out] at HP
              clear bw14
              go_wp2_with fail
              go_roundw
              case rel => exact HP.out
              case measure => simp [intOf]; omega
            subst h0
            by_cases h1 : b = b'
            rotate_left
            · have e1 : (b == b') = false := by rw [beq_eq_false_iff_ne]; exact h1
              have KAx := Lib.hid ka
              have KAy := Lib.hid ka'
              have KTx := Lib.hid kt
              have KTy := Lib.hid kt'
              clear ka ka' kt kt' hne
              go_wp2_with fail
              refine (KAx.out _).mono ?_
              rintro e w11 ⟨rfl, hb⟩
              have nw11 : Below wr.heap.size wr w11 := hb
              have sw11 : wr.heap.size ≤ w11.heap.size := hb.size
              have cw11_0_0 := (nw11.cell (p := ⟨w.heap.size, 0, none⟩) (by show w.heap.size < wr.heap.size; omega)).trans q0
              have bw11 := bx.trans (nw11.mono bx.size)
              have lw11_0 : w.heap.size < w11.heap.size := by omega
              clear q0 bx nw11 hb
              have d1 := (bw11.cell (p := ⟨g, o + 1, none⟩) hBb).trans CC.out.2
              have gz : g < w11.heap.size := Nat.lt_of_lt_of_le hBb bw11.size
              go_wp2_with fail
              refine (KAy.out _).mono ?_
              rintro e w12 ⟨rfl, hb⟩
              have nw12 : Below w11.heap.size w11 w12 := ((Below.refl w11.heap.size w11).alloc (Nat.le_refl _) (.cells #[.int .i64 a, .int .i64 b, .int .i64 c, .int .i64 d] 102)).trans (hb.mono (by simp))
              have sw12 : w11.heap.size + 1 ≤ w12.heap.size := by have := hb.size; simpa using this
              have cw12_0_0 := (nw12.cell (p := ⟨w.heap.size, 0, none⟩) (by show w.heap.size < w11.heap.size; omega)).trans cw11_0_0
              have cw12_1_0 : w12.cell? ⟨w11.heap.size, 0, none⟩ = some (.int .i64 a) := (hb.cell (p := ⟨w11.heap.size, 0, none⟩) (by simp)).trans (by go_simp)
              have cw12_1_1 : w12.cell? ⟨w11.heap.size, 1, none⟩ = some (.int .i64 b) := (hb.cell (p := ⟨w11.heap.size, 1, none⟩) (by simp)).trans (by go_simp)
              have cw12_1_2 : w12.cell? ⟨w11.heap.size, 2, none⟩ = some (.int .i64 c) := (hb.cell (p := ⟨w11.heap.size, 2, none⟩) (by simp)).trans (by go_simp)
              have cw12_1_3 : w12.cell? ⟨w11.heap.size, 3, none⟩ = some (.int .i64 d) := (hb.cell (p := ⟨w11.heap.size, 3, none⟩) (by simp)).trans (by go_simp)
              have bw12 := bw11.trans (nw12.mono bw11.size)
              clear lw11_0
              have lw12_0 : w.heap.size < w12.heap.size := by omega
              have lw12_1 : w11.heap.size < w12.heap.size := by omega
              clear cw11_0_0 bw11 nw12 hb
              clear d1 gz c0
              go_wp2_with fail
              refine (KTx.out _).mono ?_
              rintro e w13 ⟨rfl, hb⟩
              have nw13 : Below w12.heap.size w12 w13 := ((Below.refl w12.heap.size w12).alloc (Nat.le_refl _) (.cells #[.int .i64 a, .int .i64 b', .int .i64 c', .int .i64 d'] 102)).trans (hb.mono (by simp))
              have sw13 : w12.heap.size + 1 ≤ w13.heap.size := by have := hb.size; simpa using this
              have cw13_0_0 := (nw13.cell (p := ⟨w.heap.size, 0, none⟩) (by show w.heap.size < w12.heap.size; omega)).trans cw12_0_0
              have cw13_1_0 := (nw13.cell (p := ⟨w11.heap.size, 0, none⟩) (by show w11.heap.size < w12.heap.size; omega)).trans cw12_1_0
              have cw13_1_1 := (nw13.cell (p := ⟨w11.heap.size, 1, none⟩) (by show w11.heap.size < w12.heap.size; omega)).trans cw12_1_1
              have cw13_1_2 := (nw13.cell (p := ⟨w11.heap.size, 2, none⟩) (by show w11.heap.size < w12.heap.size; omega)).trans cw12_1_2
              have cw13_1_3 := (nw13.cell (p := ⟨w11.heap.size, 3, none⟩) (by show w11.heap.size < w12.heap.size; omega)).trans cw12_1_3
              have cw13_2_0 : w13.cell? ⟨w12.heap.size, 0, none⟩ = some (.int .i64 a) := (hb.cell (p := ⟨w12.heap.size, 0, none⟩) (by simp)).trans (by go_simp)
              have cw13_2_1 : w13.cell? ⟨w12.heap.size, 1, none⟩ = some (.int .i64 b') := (hb.cell (p := ⟨w12.heap.size, 1, none⟩) (by simp)).trans (by go_simp)
              have cw13_2_2 : w13.cell? ⟨w12.heap.size, 2, none⟩ = some (.int .i64 c') := (hb.cell (p := ⟨w12.heap.size, 2, none⟩) (by simp)).trans (by go_simp)
              have cw13_2_3 : w13.cell? ⟨w12.heap.size, 3, none⟩ = some (.int .i64 d') := (hb.cell (p := ⟨w12.heap.size, 3, none⟩) (by simp)).trans (by go_simp)
              have bw13 := bw12.trans (nw13.mono bw12.size)
              clear lw12_0 lw12_1
              have lw13_0 : w.heap.size < w13.heap.size := by omega
              have lw13_1 : w11.heap.size < w13.heap.size := by omega
              have lw13_2 : w12.heap.size < w13.heap.size := by omega
              clear cw12_0_0 cw12_1_0 cw12_1_1 cw12_1_2 cw12_1_3 bw12 nw13 hb
              go_wp2_with fail
              refine (KTy.out _).mono ?_
              rintro e w14 ⟨rfl, hb⟩
              have nw14 : Below w13.heap.size w13 w14 := hb
              have sw14 : w13.heap.size ≤ w14.heap.size := hb.size
              have cw14_0_0 := (nw14.cell (p := ⟨w.heap.size, 0, none⟩) (by show w.heap.size < w13.heap.size; omega)).trans cw13_0_0
              have cw14_1_0 := (nw14.cell (p := ⟨w11.heap.size, 0, none⟩) (by show w11.heap.size < w13.heap.size; omega)).trans cw13_1_0
              have cw14_1_1 := (nw14.cell (p := ⟨w11.heap.size, 1, none⟩) (by show w11.heap.size < w13.heap.size; omega)).trans cw13_1_1
              have cw14_1_2 := (nw14.cell (p := ⟨w11.heap.size, 2, none⟩) (by show w11.heap.size < w13.heap.size; omega)).trans cw13_1_2
              have cw14_1_3 := (nw14.cell (p := ⟨w11.heap.size, 3, none⟩) (by show w11.heap.size < w13.heap.size; omega)).trans cw13_1_3
              have cw14_2_0 := (nw14.cell (p := ⟨w12.heap.size, 0, none⟩) (by show w12.heap.size < w13.heap.size; omega)).trans cw13_2_0
              have cw14_2_1 := (nw14.cell (p := ⟨w12.heap.size, 1, none⟩) (by show w12.heap.size < w13.heap.size; omega)).trans cw13_2_1
              have cw14_2_2 := (nw14.cell (p := ⟨w12.heap.size, 2, none⟩) (by show w12.heap.size < w13.heap.size; omega)).trans cw13_2_2
              have cw14_2_3 := (nw14.cell (p := ⟨w12.heap.size, 3, none⟩) (by show w12.heap.size < w13.heap.size; omega)).trans cw13_2_3
              have bw14 := bw13.trans (nw14.mono bw13.size)
              clear lw13_0 lw13_1 lw13_2
              have lw14_0 : w.heap.size < w14.heap.size := by omega
              have lw14_1 : w11.heap.size < w14.heap.size := by omega
              have lw14_2 : w12.heap.size < w14.heap.size := by omega
              clear cw13_0_0 cw13_1_0 cw13_1_1 cw13_1_2 cw13_1_3 cw13_2_0 cw13_2_1 cw13_2_2 cw13_2_3 bw13 nw14 hb
              have HP := Lib.hid (And.intro (txt_first (s0 := ⟨#[45]⟩) HX.out bw14) (And.intro cw14_0_0 lw14_0))
              rw [HSP.out] at HP
              clear bw14
              go_wp2_with fail
              go_roundw
              case rel => exact HP.out
              case measure => simp [intOf]; omega
            subst h1
            by_cases h2 : c = c'
            rotate_left
            · have e2 : (c == c') = false := by rw [beq_eq_false_iff_ne]; exact h2
              have KAx := Lib.hid ka
              have KAy := Lib.hid ka'
              have KTx := Lib.hid kt
              have KTy := Lib.hid kt'
              clear ka ka' kt kt' hne
              go_wp2_with fail
              refine (KAx.out _).mono ?_
              rintro e w11 ⟨rfl, hb⟩
              have nw11 : Below wr.heap.size wr w11 := hb
              have sw11 : wr.heap.size ≤ w11.heap.size := hb.size
              have cw11_0_0 := (nw11.cell (p := ⟨w.heap.size, 0, none⟩) (by show w.heap.size < wr.heap.size; omega)).trans q0
              have bw11 := bx.trans (nw11.mono bx.size)
              have lw11_0 : w.heap.size < w11.heap.size := by omega
              clear q0 bx nw11 hb
              have d1 := (bw11.cell (p := ⟨g, o + 1, none⟩) hBb).trans CC.out.2
              have gz : g < w11.heap.size := Nat.lt_of_lt_of_le hBb bw11.size
              go_wp2_with fail
              refine (KAy.out _).mono ?_
              rintro e w12 ⟨rfl, hb⟩
              have nw12 : Below w11.heap.size w11 w12 := ((Below.refl w11.heap.size w11).alloc (Nat.le_refl _) (.cells #[.int .i64 a, .int .i64 b, .int .i64 c, .int .i64 d] 102)).trans (hb.mono (by simp))
              have sw12 : w11.heap.size + 1 ≤ w12.heap.size := by have := hb.size; simpa using this
              have cw12_0_0 := (nw12.cell (p := ⟨w.heap.size, 0, none⟩) (by show w.heap.size < w11.heap.size; omega)).trans cw11_0_0
              have cw12_1_0 : w12.cell? ⟨w11.heap.size, 0, none⟩ = some (.int .i64 a) := (hb.cell (p := ⟨w11.heap.size, 0, none⟩) (by simp)).trans (by go_simp)
              have cw12_1_1 : w12.cell? ⟨w11.heap.size, 1, none⟩ = some (.int .i64 b) := (hb.cell (p := ⟨w11.heap.size, 1, none⟩) (by simp)).trans (by go_simp)
              have cw12_1_2 : w12.cell? ⟨w11.heap.size, 2, none⟩ = some (.int .i64 c) := (hb.cell (p := ⟨w11.heap.size, 2, none⟩) (by simp)).trans (by go_simp)
              have cw12_1_3 : w12.cell? ⟨w11.heap.size, 3, none⟩ = some (.int .i64 d) := (hb.cell (p := ⟨w11.heap.size, 3, none⟩) (by simp)).trans (by go_simp)
              have bw12 := bw11.trans (nw12.mono bw11.size)
              clear lw11_0
              have lw12_0 : w.heap.size < w12.heap.size := by omega
              have lw12_1 : w11.heap.size < w12.heap.size := by omega
              clear cw11_0_0 bw11 nw12 hb
              clear d1 gz c0
              go_wp2_with fail
              refine (KTx.out _).mono ?_
              rintro e w13 ⟨rfl, hb⟩
              have nw13 : Below w12.heap.size w12 w13 := ((Below.refl w12.heap.size w12).alloc (Nat.le_refl _) (.cells #[.int .i64 a, .int .i64 b, .int .i64 c', .int .i64 d'] 102)).trans (hb.mono (by simp))
              have sw13 : w12.heap.size + 1 ≤ w13.heap.size := by have := hb.size; simpa using this
              have cw13_0_0 := (nw13.cell (p := ⟨w.heap.size, 0, none⟩) (by show w.heap.size < w12.heap.size; omega)).trans cw12_0_0
              have cw13_1_0 := (nw13.cell (p := ⟨w11.heap.size, 0, none⟩) (by show w11.heap.size < w12.heap.size; omega)).trans cw12_1_0
              have cw13_1_1 := (nw13.cell (p := ⟨w11.heap.size, 1, none⟩) (by show w11.heap.size < w12.heap.size; omega)).trans cw12_1_1
              have cw13_1_2 := (nw13.cell (p := ⟨w11.heap.size, 2, none⟩) (by show w11.heap.size < w12.heap.size; omega)).trans cw12_1_2
              have cw13_1_3 := (nw13.cell (p := ⟨w11.heap.size, 3, none⟩) (by show w11.heap.size < w12.heap.size; omega)).trans cw12_1_3
              have cw13_2_0 : w13.cell? ⟨w12.heap.size, 0, none⟩ = some (.int .i64 a) := (hb.cell (p := ⟨w12.heap.size, 0, none⟩) (by simp)).trans (by go_simp)
              have cw13_2_1 : w13.cell? ⟨w12.heap.size, 1, none⟩ = some (.int .i64 b) := (hb.cell (p := ⟨w12.heap.size, 1, none⟩) (by simp)).trans (by go_simp)
              have cw13_2_2 : w13.cell? ⟨w12.heap.size, 2, none⟩ = some (.int .i64 c') := (hb.cell (p := ⟨w12.heap.size, 2, none⟩) (by simp)).trans (by go_simp)
              have cw13_2_3 : w13.cell? ⟨w12.heap.size, 3, none⟩ = some (.int .i64 d') := (hb.cell (p := ⟨w12.heap.size, 3, none⟩) (by simp)).trans (by go_simp)
              have bw13 := bw12.trans (nw13.mono bw12.size)
              clear lw12_0 lw12_1
              have lw13_0 : w.heap.size < w13.heap.size := by omega
              have lw13_1 : w11.heap.size < w13.heap.size := by omega
              have lw13_2 : w12.heap.size < w13.heap.size := by omega
              clear cw12_0_0 cw12_1_0 cw12_1_1 cw12_1_2 cw12_1_3 bw12 nw13 hb
              go_wp2_with fail
              refine (KTy.out _).mono ?_
              rintro e w14 ⟨rfl, hb⟩
              have nw14 : Below w13.heap.size w13 w14 := hb
              have sw14 : w13.heap.size ≤ w14.heap.size := hb.size
              have cw14_0_0 := (nw14.cell (p := ⟨w.heap.size, 0, none⟩) (by show w.heap.size < w13.heap.size; omega)).trans cw13_0_0
              have cw14_1_0 := (nw14.cell (p := ⟨w11.heap.size, 0, none⟩) (by show w11.heap.size < w13.heap.size; omega)).trans cw13_1_0
              have cw14_1_1 := (nw14.cell (p := ⟨w11.heap.size, 1, none⟩) (by show w11.heap.size < w13.heap.size; omega)).trans cw13_1_1
              have cw14_1_2 := (nw14.cell (p := ⟨w11.heap.size, 2, none⟩) (by show w11.heap.size < w13.heap.size; omega)).trans cw13_1_2
              have cw14_1_3 := (nw14.cell (p := ⟨w11.heap.size, 3, none⟩) (by show w11.heap.size < w13.heap.size; omega)).trans cw13_1_3
              have cw14_2_0 := (nw14.cell (p := ⟨w12.heap.size, 0, none⟩) (by show w12.heap.size < w13.heap.size; omega)).trans cw13_2_0
              have cw14_2_1 := (nw14.cell (p := ⟨w12.heap.size, 1, none⟩) (by show w12.heap.size < w13.heap.size; omega)).trans cw13_2_1
              have cw14_2_2 := (nw14.cell (p := ⟨w12.heap.size, 2, none⟩) (by show w12.heap.size < w13.heap.size; omega)).trans cw13_2_2
              have cw14_2_3 := (nw14.cell (p := ⟨w12.heap.size, 3, none⟩) (by show w12.heap.size < w13.heap.size; omega)).trans cw13_2_3
              have bw14 := bw13.trans (nw14.mono bw13.size)
              clear lw13_0 lw13_1 lw13_2
              have lw14_0 : w.heap.size < w14.heap.size := by omega
              have lw14_1 : w11.heap.size < w14.heap.size := by omega
              have lw14_2 : w12.heap.size < w14.heap.size := by omega
              clear cw13_0_0 cw13_1_0 cw13_1_1 cw13_1_2 cw13_1_3 cw13_2_0 cw13_2_1 cw13_2_2 cw13_2_3 bw13 nw14 hb
              have HP := Lib.hid (And.intro (txt_first (s0 := ⟨#[45]⟩) HX.out bw14) (And.intro cw14_0_0 lw14_0))
              rw [HSP.out] at HP
              clear bw14
              go_wp2_with fail
              go_roundw
              case rel => exact HP.out
              case measure => simp [intOf]; omega
            subst h2
            have e3 : (d == d') = false := by rw [beq_eq_false_iff_ne]; exact fun h => hne ⟨rfl, rfl, rfl, h⟩
            have KAx := Lib.hid ka
            have KAy := Lib.hid ka'
            have KTx := Lib.hid kt
            have KTy := Lib.hid kt'
            clear ka ka' kt kt' hne
            go_wp2_with fail
            refine (KAx.out _).mono ?_
            rintro e w11 ⟨rfl, hb⟩
            have nw11 : Below wr.heap.size wr w11 := hb
            have sw11 : wr.heap.size ≤ w11.heap.size := hb.size
            have cw11_0_0 := (nw11.cell (p := ⟨w.heap.size, 0, none⟩) (by show w.heap.size < wr.heap.size; omega)).trans q0
            have bw11 := bx.trans (nw11.mono bx.size)
            have lw11_0 : w.heap.size < w11.heap.size := by omega
            clear q0 bx nw11 hb
            have d1 := (bw11.cell (p := ⟨g, o + 1, none⟩) hBb).trans CC.out.2
            have gz : g < w11.heap.size := Nat.lt_of_lt_of_le hBb bw11.size
            go_wp2_with fail
            refine (KAy.out _).mono ?_
            rintro e w12 ⟨rfl, hb⟩
            have nw12 : Below w11.heap.size w11 w12 := ((Below.refl w11.heap.size w11).alloc (Nat.le_refl _) (.cells #[.int .i64 a, .int .i64 b, .int .i64 c, .int .i64 d] 102)).trans (hb.mono (by simp))
            have sw12 : w11.heap.size + 1 ≤ w12.heap.size := by have := hb.size; simpa using this
            have cw12_0_0 := (nw12.cell (p := ⟨w.heap.size, 0, none⟩) (by show w.heap.size < w11.heap.size; omega)).trans cw11_0_0
            have cw12_1_0 : w12.cell? ⟨w11.heap.size, 0, none⟩ = some (.int .i64 a) := (hb.cell (p := ⟨w11.heap.size, 0, none⟩) (by simp)).trans (by go_simp)
            have cw12_1_1 : w12.cell? ⟨w11.heap.size, 1, none⟩ = some (.int .i64 b) := (hb.cell (p := ⟨w11.heap.size, 1, none⟩) (by simp)).trans (by go_simp)
            have cw12_1_2 : w12.cell? ⟨w11.heap.size, 2, none⟩ = some (.int .i64 c) := (hb.cell (p := ⟨w11.heap.size, 2, none⟩) (by simp)).trans (by go_simp)
            have cw12_1_3 : w12.cell? ⟨w11.heap.size, 3, none⟩ = some (.int .i64 d) := (hb.cell (p := ⟨w11.heap.size, 3, none⟩) (by simp)).trans (by go_simp)
            have bw12 := bw11.trans (nw12.mono bw11.size)
            clear lw11_0
            have lw12_0 : w.heap.size < w12.heap.size := by omega
            have lw12_1 : w11.heap.size < w12.heap.size := by omega
            clear cw11_0_0 bw11 nw12 hb
            clear d1 gz c0
            go_wp2_with fail
            refine (KTx.out _).mono ?_
            rintro e w13 ⟨rfl, hb⟩
            have nw13 : Below w12.heap.size w12 w13 := ((Below.refl w12.heap.size w12).alloc (Nat.le_refl _) (.cells #[.int .i64 a, .int .i64 b, .int .i64 c, .int .i64 d'] 102)).trans (hb.mono (by simp))
            have sw13 : w12.heap.size + 1 ≤ w13.heap.size := by have := hb.size; simpa using this
            have cw13_0_0 := (nw13.cell (p := ⟨w.heap.size, 0, none⟩) (by show w.heap.size < w12.heap.size; omega)).trans cw12_0_0
            have cw13_1_0 := (nw13.cell (p := ⟨w11.heap.size, 0, none⟩) (by show w11.heap.size < w12.heap.size; omega)).trans cw12_1_0
            have cw13_1_1 := (nw13.cell (p := ⟨w11.heap.size, 1, none⟩) (by show w11.heap.size < w12.heap.size; omega)).trans cw12_1_1
            have cw13_1_2 := (nw13.cell (p := ⟨w11.heap.size, 2, none⟩) (by show w11.heap.size < w12.heap.size; omega)).trans cw12_1_2
            have cw13_1_3 := (nw13.cell (p := ⟨w11.heap.size, 3, none⟩) (by show w11.heap.size < w12.heap.size; omega)).trans cw12_1_3
            have cw13_2_0 : w13.cell? ⟨w12.heap.size, 0, none⟩ = some (.int .i64 a) := (hb.cell (p := ⟨w12.heap.size, 0, none⟩) (by simp)).trans (by go_simp)
            have cw13_2_1 : w13.cell? ⟨w12.heap.size, 1, none⟩ = some (.int .i64 b) := (hb.cell (p := ⟨w12.heap.size, 1, none⟩) (by simp)).trans (by go_simp)
            have cw13_2_2 : w13.cell? ⟨w12.heap.size, 2, none⟩ = some (.int .i64 c) := (hb.cell (p := ⟨w12.heap.size, 2, none⟩) (by simp)).trans (by go_simp)
            have cw13_2_3 : w13.cell? ⟨w12.heap.size, 3, none⟩ = some (.int .i64 d') := (hb.cell (p := ⟨w12.heap.size, 3, none⟩) (by simp)).trans (by go_simp)
            have bw13 := bw12.trans (nw13.mono bw12.size)
            clear lw12_0 lw12_1
            have lw13_0 : w.heap.size < w13.heap.size := by omega
            have lw13_1 : w11.heap.size < w13.heap.size := by omega
            have lw13_2 : w12.heap.size < w13.heap.size := by omega
            clear cw12_0_0 cw12_1_0 cw12_1_1 cw12_1_2 cw12_1_3 bw12 nw13 hb
            go_wp2_with fail
            refine (KTy.out _).mono ?_
            rintro e w14 ⟨rfl, hb⟩
            have nw14 : Below w13.heap.size w13 w14 := hb
            have sw14 : w13.heap.size ≤ w14.heap.size := hb.size
            have cw14_0_0 := (nw14.cell (p := ⟨w.heap.size, 0, none⟩) (by show w.heap.size < w13.heap.size; omega)).trans cw13_0_0
            have cw14_1_0 := (nw14.cell (p := ⟨w11.heap.size, 0, none⟩) (by show w11.heap.size < w13.heap.size; omega)).trans cw13_1_0
            have cw14_1_1 := (nw14.cell (p := ⟨w11.heap.size, 1, none⟩) (by show w11.heap.size < w13.heap.size; omega)).trans cw13_1_1
            have cw14_1_2 := (nw14.cell (p := ⟨w11.heap.size, 2, none⟩) (by show w11.heap.size < w13.heap.size; omega)).trans cw13_1_2
            have cw14_1_3 := (nw14.cell (p := ⟨w11.heap.size, 3, none⟩) (by show w11.heap.size < w13.heap.size; omega)).trans cw13_1_3
            have cw14_2_0 := (nw14.cell (p := ⟨w12.heap.size, 0, none⟩) (by show w12.heap.size < w13.heap.size; omega)).trans cw13_2_0
            have cw14_2_1 := (nw14.cell (p := ⟨w12.heap.size, 1, none⟩) (by show w12.heap.size < w13.heap.size; omega)).trans cw13_2_1
            have cw14_2_2 := (nw14.cell (p := ⟨w12.heap.size, 2, none⟩) (by show w12.heap.size < w13.heap.size; omega)).trans cw13_2_2
            have cw14_2_3 := (nw14.cell (p := ⟨w12.heap.size, 3, none⟩) (by show w12.heap.size < w13.heap.size; omega)).trans cw13_2_3
            have bw14 := bw13.trans (nw14.mono bw13.size)
            clear lw13_0 lw13_1 lw13_2
            have lw14_0 : w.heap.size < w14.heap.size := by omega
            have lw14_1 : w11.heap.size < w14.heap.size := by omega
            have lw14_2 : w12.heap.size < w14.heap.size := by omega
            clear cw13_0_0 cw13_1_0 cw13_1_1 cw13_1_2 cw13_1_3 cw13_2_0 cw13_2_1 cw13_2_2 cw13_2_3 bw13 nw14 hb
            have HP := Lib.hid (And.intro (txt_first (s0 := ⟨#[45]⟩) HX.out bw14) (And.intro cw14_0_0 lw14_0))
            rw [HSP.out] at HP
            clear bw14
            go_wp2_with fail
            go_roundw
            case rel => exact HP.out
            case measure => simp [intOf]; omega
        · have HTX := Lib.hid (HSK.out hk0)
          have CC := Lib.hid cc
          have c0 := (bx.cell (p := ⟨g, o + k * 2, none⟩) hBb).trans cc.1
          have kz : ((k : Int) == 0) = false := by rw [beq_eq_false_iff_ne]; omega
          clear cc HS0 HSK
          by_cases hxy : x = y
          · subst hxy
            obtain ⟨a, b, c, d, ka, kt, hrr⟩ := spec_parts x xb.1 xb.2.2
            have KAx := Lib.hid ka
            have KAy := Lib.hid ka
            have KTx := Lib.hid kt
            have HSP := Lib.hid (show spT x x = rkT x by simp [spT])
            have sx := rkT_size x
            clear ka kt xb hrr
            have n1 : ¬ 9223372036854775807 < s.size + 3 := by omega
            have n2 : ¬ 9223372036854775807 < s.size + 3 + (rkT x).size := by omega
            generalize rkT x = tx at *
            go_wp2_with fail
            refine (KAx.out _).mono ?_
            rintro e w11 ⟨rfl, hb⟩
            have nw11 : Below wr.heap.size wr w11 := hb
            have sw11 : wr.heap.size ≤ w11.heap.size := hb.size
            have cw11_0_0 := (nw11.cell (p := ⟨w.heap.size, 0, none⟩) (by show w.heap.size < wr.heap.size; omega)).trans q0
            have bw11 := bx.trans (nw11.mono bx.size)
            have lw11_0 : w.heap.size < w11.heap.size := by omega
            clear q0 bx nw11 hb
            have d1 := (bw11.cell (p := ⟨g, o + k * 2 + 1, none⟩) hBb).trans CC.out.2
            have gz : g < w11.heap.size := Nat.lt_of_lt_of_le hBb bw11.size
            go_wp2_with fail
            refine (KAy.out _).mono ?_
            rintro e w12 ⟨rfl, hb⟩
            have nw12 : Below w11.heap.size w11 w12 := ((Below.refl w11.heap.size w11).alloc (Nat.le_refl _) (.cells #[.int .i64 a, .int .i64 b, .int .i64 c, .int .i64 d] 102)).trans (hb.mono (by simp))
            have sw12 : w11.heap.size + 1 ≤ w12.heap.size := by have := hb.size; simpa using this
            have cw12_0_0 := (nw12.cell (p := ⟨w.heap.size, 0, none⟩) (by show w.heap.size < w11.heap.size; omega)).trans cw11_0_0
            have cw12_1_0 : w12.cell? ⟨w11.heap.size, 0, none⟩ = some (.int .i64 a) := (hb.cell (p := ⟨w11.heap.size, 0, none⟩) (by simp)).trans (by go_simp)
            have cw12_1_1 : w12.cell? ⟨w11.heap.size, 1, none⟩ = some (.int .i64 b) := (hb.cell (p := ⟨w11.heap.size, 1, none⟩) (by simp)).trans (by go_simp)
            have cw12_1_2 : w12.cell? ⟨w11.heap.size, 2, none⟩ = some (.int .i64 c) := (hb.cell (p := ⟨w11.heap.size, 2, none⟩) (by simp)).trans (by go_simp)
            have cw12_1_3 : w12.cell? ⟨w11.heap.size, 3, none⟩ = some (.int .i64 d) := (hb.cell (p := ⟨w11.heap.size, 3, none⟩) (by simp)).trans (by go_simp)
            have bw12 := bw11.trans (nw12.mono bw11.size)
            clear lw11_0
            have lw12_0 : w.heap.size < w12.heap.size := by omega
            have lw12_1 : w11.heap.size < w12.heap.size := by omega
            clear cw11_0_0 bw11 nw12 hb
            clear d1 gz c0
            go_wp2_with fail
            refine (KTx.out _).mono ?_
            rintro e w13 ⟨rfl, hb⟩
            have nw13 : Below w12.heap.size w12 w13 := ((Below.refl w12.heap.size w12).alloc (Nat.le_refl _) (.cells #[.int .i64 a, .int .i64 b, .int .i64 c, .int .i64 d] 102)).trans (hb.mono (by simp))
            have sw13 : w12.heap.size + 1 ≤ w13.heap.size := by have := hb.size; simpa using this
            have cw13_0_0 := (nw13.cell (p := ⟨w.heap.size, 0, none⟩) (by show w.heap.size < w12.heap.size; omega)).trans cw12_0_0
            have cw13_1_0 := (nw13.cell (p := ⟨w11.heap.size, 0, none⟩) (by show w11.heap.size < w12.heap.size; omega)).trans cw12_1_0
            have cw13_1_1 := (nw13.cell (p := ⟨w11.heap.size, 1, none⟩) (by show w11.heap.size < w12.heap.size; omega)).trans cw12_1_1
            have cw13_1_2 := (nw13.cell (p := ⟨w11.heap.size, 2, none⟩) (by show w11.heap.size < w12.heap.size; omega)).trans cw12_1_2
            have cw13_1_3 := (nw13.cell (p := ⟨w11.heap.size, 3, none⟩) (by show w11.heap.size < w12.heap.size; omega)).trans cw12_1_3
            have cw13_2_0 : w13.cell? ⟨w12.heap.size, 0, none⟩ = some (.int .i64 a) := (hb.cell (p := ⟨w12.heap.size, 0, none⟩) (by simp)).trans (by go_simp)
            have cw13_2_1 : w13.cell? ⟨w12.heap.size, 1, none⟩ = some (.int .i64 b) := (hb.cell (p := ⟨w12.heap.size, 1, none⟩) (by simp)).trans (by go_simp)
            have cw13_2_2 : w13.cell? ⟨w12.heap.size, 2, none⟩ = some (.int .i64 c) := (hb.cell (p := ⟨w12.heap.size, 2, none⟩) (by simp)).trans (by go_simp)
            have cw13_2_3 : w13.cell? ⟨w12.heap.size, 3, none⟩ = some (.int .i64 d) := (hb.cell (p := ⟨w12.heap.size, 3, none⟩) (by simp)).trans (by go_simp)
            have bw13 := bw12.trans (nw13.mono bw12.size)
            clear lw12_0 lw12_1
            have lw13_0 : w.heap.size < w13.heap.size := by omega
            have lw13_1 : w11.heap.size < w13.heap.size := by omega
            have lw13_2 : w12.heap.size < w13.heap.size := by omega
            clear cw12_0_0 cw12_1_0 cw12_1_1 cw12_1_2 cw12_1_3 bw12 nw13 hb
            have HP := Lib.hid (And.intro (txt_next (s0 := ⟨#[45]⟩) HX.out hsz hk0 HTX.out bw13) (And.intro cw13_0_0 lw13_0))
            rw [HSP.out] at HP
            clear bw13
            go_wp2_with fail
            go_roundw
            case rel => exact HP.out
            case measure => simp [intOf]; omega
          · obtain ⟨a, b, c, d, ka, kt, hrx⟩ := spec_parts x xb.1 (by omega)
            obtain ⟨a', b', c', d', ka', kt', hry⟩ := spec_parts y (by omega) xb.2.2
            have HSP := Lib.hid (show spT x y = rkT x ++ ⟨#[46, 46]⟩ ++ rkT y by simp [spT, hxy])
            have sx := rkT_size x
            have sy := rkT_size y
            have hne : ¬ (a = a' ∧ b = b' ∧ c = c' ∧ d = d') := fun h => hxy (by rw [hrx, hry, h.1, h.2.1, h.2.2.1, h.2.2.2])
            have m1 : ¬ 9223372036854775807 < (rkT x).size + 2 := by omega
            have m2 : ¬ 9223372036854775807 < (rkT x).size + 2 + (rkT y).size := by omega
            have n1 : ¬ 9223372036854775807 < s.size + 3 := by omega
            have n2 : ¬ 9223372036854775807 < s.size + 3 + ((rkT x).size + 2 + (rkT y).size) := by omega
            generalize rkT x = tx at *
            generalize rkT y = ty at *
            clear hrx hry hxy
            by_cases h0 : a = a'
            rotate_left
            · have e0 : (a == a') = false := by rw [beq_eq_false_iff_ne]; exact h0
              have KAx := Lib.hid ka
              have KAy := Lib.hid ka'
              have KTx := Lib.hid kt
              have KTy := Lib.hid kt'
              clear ka ka' kt kt' hne
              go_wp2_with fail
              refine (KAx.out _).mono ?_
              rintro e w11 ⟨rfl, hb⟩
              have nw11 : Below wr.heap.size wr w11 := hb
              have sw11 : wr.heap.size ≤ w11.heap.size := hb.size
              have cw11_0_0 := (nw11.cell (p := ⟨w.heap.size, 0, none⟩) (by show w.heap.size < wr.heap.size; omega)).trans q0
              have bw11 := bx.trans (nw11.mono bx.size)
              have lw11_0 : w.heap.size < w11.heap.size := by omega
              clear q0 bx nw11 hb
              have d1 := (bw11.cell (p := ⟨g, o + k * 2 + 1, none⟩) hBb).trans CC.out.2
              have gz : g < w11.heap.size := Nat.lt_of_lt_of_le hBb bw11.size
              go_wp2_with fail
              refine (KAy.out _).mono ?_
              rintro e w12 ⟨rfl, hb⟩
              have nw12 : Below w11.heap.size w11 w12 := ((Below.refl w11.heap.size w11).alloc (Nat.le_refl _) (.cells #[.int .i64 a, .int .i64 b, .int .i64 c, .int .i64 d] 102)).trans (hb.mono (by simp))
              have sw12 : w11.heap.size + 1 ≤ w12.heap.size := by have := hb.size; simpa using this
              have cw12_0_0 := (nw12.cell (p := ⟨w.heap.size, 0, none⟩) (by show w.heap.size < w11.heap.size; omega)).trans cw11_0_0
              have cw12_1_0 : w12.cell? ⟨w11.heap.size, 0, none⟩ = some (.int .i64 a) := (hb.cell (p := ⟨w11.heap.size, 0, none⟩) (by simp)).trans (by go_simp)
              have cw12_1_1 : w12.cell? ⟨w11.heap.size, 1, none⟩ = some (.int .i64 b) := (hb.cell (p := ⟨w11.heap.size, 1, none⟩) (by simp)).trans (by go_simp)
              have cw12_1_2 : w12.cell? ⟨w11.heap.size, 2, none⟩ = some (.int .i64 c) := (hb.cell (p := ⟨w11.heap.size, 2, none⟩) (by simp)).trans (by go_simp)
              have cw12_1_3 : w12.cell? ⟨w11.heap.size, 3, none⟩ = some (.int .i64 d) := (hb.cell (p := ⟨w11.heap.size, 3, none⟩) (by simp)).trans (by go_simp)
              have bw12 := bw11.trans (nw12.mono bw11.size)
              clear lw11_0
              have lw12_0 : w.heap.size < w12.heap.size := by omega
              have lw12_1 : w11.heap.size < w12.heap.size := by omega
              clear cw11_0_0 bw11 nw12 hb
              clear d1 gz c0
              go_wp2_with fail
              refine (KTx.out _).mono ?_
              rintro e w13 ⟨rfl, hb⟩
              have nw13 : Below w12.heap.size w12 w13 := ((Below.refl w12.heap.size w12).alloc (Nat.le_refl _) (.cells #[.int .i64 a', .int .i64 b', .int .i64 c', .int .i64 d'] 102)).trans (hb.mono (by simp))
              have sw13 : w12.heap.size + 1 ≤ w13.heap.size := by have := hb.size; simpa using this
              have cw13_0_0 := (nw13.cell (p := ⟨w.heap.size, 0, none⟩) (by show w.heap.size < w12.heap.size; omega)).trans cw12_0_0
              have cw13_1_0 := (nw13.cell (p := ⟨w11.heap.size, 0, none⟩) (by show w11.heap.size < w12.heap.size; omega)).trans cw12_1_0
              have cw13_1_1 := (nw13.cell (p := ⟨w11.heap.size, 1, none⟩) (by show w11.heap.size < w12.heap.size; omega)).trans cw12_1_1
              have cw13_1_2 := (nw13.cell (p := ⟨w11.heap.size, 2, none⟩) (by show w11.heap.size < w12.heap.size; omega)).trans cw12_1_2
              have cw13_1_3 := (nw13.cell (p := ⟨w11.heap.size, 3, none⟩) (by show w11.heap.size < w12.heap.size; omega)).trans cw12_1_3
              have cw13_2_0 : w13.cell? ⟨w12.heap.size, 0, none⟩ = some (.int .i64 a') := (hb.cell (p := ⟨w12.heap.size, 0, none⟩) (by simp)).trans (by go_simp)
              have cw13_2_1 : w13.cell? ⟨w12.heap.size, 1, none⟩ = some (.int .i64 b') := (hb.cell (p := ⟨w12.heap.size, 1, none⟩) (by simp)).trans (by go_simp)
              have cw13_2_2 : w13.cell? ⟨w12.heap.size, 2, none⟩ = some (.int .i64 c') := (hb.cell (p := ⟨w12.heap.size, 2, none⟩) (by simp)).trans (by go_simp)
              have cw13_2_3 : w13.cell? ⟨w12.heap.size, 3, none⟩ = some (.int .i64 d') := (hb.cell (p := ⟨w12.heap.size, 3, none⟩) (by simp)).trans (by go_simp)
              have bw13 := bw12.trans (nw13.mono bw12.size)
              clear lw12_0 lw12_1
              have lw13_0 : w.heap.size < w13.heap.size := by omega
              have lw13_1 : w11.heap.size < w13.heap.size := by omega
              have lw13_2 : w12.heap.size < w13.heap.size := by omega
              clear cw12_0_0 cw12_1_0 cw12_1_1 cw12_1_2 cw12_1_3 bw12 nw13 hb
              go_wp2_with fail
              refine (KTy.out _).mono ?_
              rintro e w14 ⟨rfl, hb⟩
              have nw14 : Below w13.heap.size w13 w14 := hb
              have sw14 : w13.heap.size ≤ w14.heap.size := hb.size
              have cw14_0_0 := (nw14.cell (p := ⟨w.heap.size, 0, none⟩) (by show w.heap.size < w13.heap.size; omega)).trans cw13_0_0
              have cw14_1_0 := (nw14.cell (p := ⟨w11.heap.size, 0, none⟩) (by show w11.heap.size < w13.heap.size; omega)).trans cw13_1_0
              have cw14_1_1 := (nw14.cell (p := ⟨w11.heap.size, 1, none⟩) (by show w11.heap.size < w13.heap.size; omega)).trans cw13_1_1
              have cw14_1_2 := (nw14.cell (p := ⟨w11.heap.size, 2, none⟩) (by show w11.heap.size < w13.heap.size; omega)).trans cw13_1_2
              have cw14_1_3 := (nw14.cell (p := ⟨w11.heap.size, 3, none⟩) (by show w11.heap.size < w13.heap.size; omega)).trans cw13_1_3
              have cw14_2_0 := (nw14.cell (p := ⟨w12.heap.size, 0, none⟩) (by show w12.heap.size < w13.heap.size; omega)).trans cw13_2_0
              have cw14_2_1 := (nw14.cell (p := ⟨w12.heap.size, 1, none⟩) (by show w12.heap.size < w13.heap.size; omega)).trans cw13_2_1
              have cw14_2_2 := (nw14.cell (p := ⟨w12.heap.size, 2, none⟩) (by show w12.heap.size < w13.heap.size; omega)).trans cw13_2_2
              have cw14_2_3 := (nw14.cell (p := ⟨w12.heap.size, 3, none⟩) (by show w12.heap.size < w13.heap.size; omega)).trans cw13_2_3
              have bw14 := bw13.trans (nw14.mono bw13.size)
              clear lw13_0 lw13_1 lw13_2
              have lw14_0 : w.heap.size < w14.heap.size := by omega
              have lw14_1 : w11.heap.size < w14.heap.size := by omega
              have lw14_2 : w12.heap.size < w14.heap.size := by omega
              clear cw13_0_0 cw13_1_0 cw13_1_1 cw13_1_2 cw13_1_3 cw13_2_0 cw13_2_1 cw13_2_2 cw13_2_3 bw13 nw14 hb
              have HP := Lib.hid (And.intro (txt_next (s0 := ⟨#[45]⟩) HX.out hsz hk0 HTX.out bw14) (And.intro cw14_0_0 lw14_0))
              rw [HSP.out] at HP
              clear bw14
              go_wp2_with fail
              go_roundw
              case rel => exact HP.out
              case measure => simp [intOf]; omega
            subst h0
            by_cases h1 : b = b'
            rotate_left
            · have e1 : (b == b') = false := by rw [beq_eq_false_iff_ne]; exact h1
              have KAx := Lib.hid ka
              have KAy := Lib.hid ka'
              have KTx := Lib.hid kt
              have KTy := Lib.hid kt'
              clear ka ka' kt kt' hne
              go_wp2_with fail
              refine (KAx.out _).mono ?_
              rintro e w11 ⟨rfl, hb⟩
              have nw11 : Below wr.heap.size wr w11 := hb
              have sw11 : wr.heap.size ≤ w11.heap.size := hb.size
              have cw11_0_0 := (nw11.cell (p := ⟨w.heap.size, 0, none⟩) (by show w.heap.size < wr.heap.size; omega)).trans q0
              have bw11 := bx.trans (nw11.mono bx.size)
              have lw11_0 : w.heap.size < w11.heap.size := by omega
              clear q0 bx nw11 hb
              have d1 := (bw11.cell (p := ⟨g, o + k * 2 + 1, none⟩) hBb).trans CC.out.2
              have gz : g < w11.heap.size := Nat.lt_of_lt_of_le hBb bw11.size
              go_wp2_with fail
              refine (KAy.out _).mono ?_
              rintro e w12 ⟨rfl, hb⟩
              have nw12 : Below w11.heap.size w11 w12 := ((Below.refl w11.heap.size w11).alloc (Nat.le_refl _) (.cells #[.int .i64 a, .int .i64 b, .int .i64 c, .int .i64 d] 102)).trans (hb.mono (by simp))
              have sw12 : w11.heap.size + 1 ≤ w12.heap.size := by have := hb.size; simpa using this
              have cw12_0_0 := (nw12.cell (p := ⟨w.heap.size, 0, none⟩) (by show w.heap.size < w11.heap.size; omega)).trans cw11_0_0
              have cw12_1_0 : w12.cell? ⟨w11.heap.size, 0, none⟩ = some (.int .i64 a) := (hb.cell (p := ⟨w11.heap.size, 0, none⟩) (by simp)).trans (by go_simp)
              have cw12_1_1 : w12.cell? ⟨w11.heap.size, 1, none⟩ = some (.int .i64 b) := (hb.cell (p := ⟨w11.heap.size, 1, none⟩) (by simp)).trans (by go_simp)
              have cw12_1_2 : w12.cell? ⟨w11.heap.size, 2, none⟩ = some (.int .i64 c) := (hb.cell (p := ⟨w11.heap.size, 2, none⟩) (by simp)).trans (by go_simp)
              have cw12_1_3 : w12.cell? ⟨w11.heap.size, 3, none⟩ = some (.int .i64 d) := (hb.cell (p := ⟨w11.heap.size, 3, none⟩) (by simp)).trans (by go_simp)
              have bw12 := bw11.trans (nw12.mono bw11.size)
              clear lw11_0
              have lw12_0 : w.heap.size < w12.heap.size := by omega
              have lw12_1 : w11.heap.size < w12.heap.size := by omega
              clear cw11_0_0 bw11 nw12 hb
              clear d1 gz c0
              go_wp2_with fail
              refine (KTx.out _).mono ?_
              rintro e w13 ⟨rfl, hb⟩
              have nw13 : Below w12.heap.size w12 w13 := ((Below.refl w12.heap.size w12).alloc (Nat.le_refl _) (.cells #[.int .i64 a, .int .i64 b', .int .i64 c', .int .i64 d'] 102)).trans (hb.mono (by simp))
              have sw13 : w12.heap.size + 1 ≤ w13.heap.size := by have := hb.size; simpa using this
              have cw13_0_0 := (nw13.cell (p := ⟨w.heap.size, 0, none⟩) (by show w.heap.size < w12.heap.size; omega)).trans cw12_0_0
              have cw13_1_0 := (nw13.cell (p := ⟨w11.heap.size, 0, none⟩) (by show w11.heap.size < w12.heap.size; omega)).trans cw12_1_0
              have cw13_1_1 := (nw13.cell (p := ⟨w11.heap.size, 1, none⟩) (by show w11.heap.size < w12.heap.size; omega)).trans cw12_1_1
              have cw13_1_2 := (nw13.cell (p := ⟨w11.heap.size, 2, none⟩) (by show w11.heap.size < w12.heap.size; omega)).trans cw12_1_2
              have cw13_1_3 := (nw13.cell (p := ⟨w11.heap.size, 3, none⟩) (by show w11.heap.size < w12.heap.size; omega)).trans cw12_1_3
              have cw13_2_0 : w13.cell? ⟨w12.heap.size, 0, none⟩ = some (.int .i64 a) := (hb.cell (p := ⟨w12.heap.size, 0, none⟩) (by simp)).trans (by go_simp)
              have cw13_2_1 : w13.cell? ⟨w12.heap.size, 1, none⟩ = some (.int .i64 b') := (hb.cell (p := ⟨w12.heap.size, 1, none⟩) (by simp)).trans (by go_simp)
              have cw13_2_2 : w13.cell? ⟨w12.heap.size, 2, none⟩ = some (.int .i64 c') := (hb.cell (p := ⟨w12.heap.size, 2, none⟩) (by simp)).trans (by go_simp)
              have cw13_2_3 : w13.cell? ⟨w12.heap.size, 3, none⟩ = some (.int .i64 d') := (hb.cell (p := ⟨w12.heap.size, 3, none⟩) (by simp)).trans (by go_simp)
              have bw13 := bw12.trans (nw13.mono bw12.size)
              clear lw12_0 lw12_1
              have lw13_0 : w.heap.size < w13.heap.size := by omega
              have lw13_1 : w11.heap.size < w13.heap.size := by omega
              have lw13_2 : w12.heap.size < w13.heap.size := by omega
              clear cw12_0_0 cw12_1_0 cw12_1_1 cw12_1_2 cw12_1_3 bw12 nw13 hb
              go_wp2_with fail
              refine (KTy.out _).mono ?_
              rintro e w14 ⟨rfl, hb⟩
              have nw14 : Below w13.heap.size w13 w14 := hb
              have sw14 : w13.heap.size ≤ w14.heap.size := hb.size
              have cw14_0_0 := (nw14.cell (p := ⟨w.heap.size, 0, none⟩) (by show w.heap.size < w13.heap.size; omega)).trans cw13_0_0
              have cw14_1_0 := (nw14.cell (p := ⟨w11.heap.size, 0, none⟩) (by show w11.heap.size < w13.heap.size; omega)).trans cw13_1_0
              have cw14_1_1 := (nw14.cell (p := ⟨w11.heap.size, 1, none⟩) (by show w11.heap.size < w13.heap.size; omega)).trans cw13_1_1
              have cw14_1_2 := (nw14.cell (p := ⟨w11.heap.size, 2, none⟩) (by show w11.heap.size < w13.heap.size; omega)).trans cw13_1_2
              have cw14_1_3 := (nw14.cell (p := ⟨w11.heap.size, 3, none⟩) (by show w11.heap.size < w13.heap.size; omega)).trans cw13_1_3
              have cw14_2_0 := (nw14.cell (p := ⟨w12.heap.size, 0, none⟩) (by show w12.heap.size < w13.heap.size; omega)).trans cw13_2_0
              have cw14_2_1 := (nw14.cell (p := ⟨w12.heap.size, 1, none⟩) (by show w12.heap.size < w13.heap.size; omega)).trans cw13_2_1
              have cw14_2_2 := (nw14.cell (p := ⟨w12.heap.size, 2, none⟩) (by show w12.heap.size < w13.heap.size; omega)).trans cw13_2_2
              have cw14_2_3 := (nw14.cell (p := ⟨w12.heap.size, 3, none⟩) (by show w12.heap.size < w13.heap.size; omega)).trans cw13_2_3
              have bw14 := bw13.trans (nw14.mono bw13.size)
              clear lw13_0 lw13_1 lw13_2
              have lw14_0 : w.heap.size < w14.heap.size := by omega
              have lw14_1 : w11.heap.size < w14.heap.size := by omega
              have lw14_2 : w12.heap.size < w14.heap.size := by omega
              clear cw13_0_0 cw13_1_0 cw13_1_1 cw13_1_2 cw13_1_3 cw13_2_0 cw13_2_1 cw13_2_2 cw13_2_3 bw13 nw14 hb
              have HP := Lib.hid (And.intro (txt_next (s0 := ⟨#[45]⟩) HX.out hsz hk0 HTX.out bw14) (And.intro cw14_0_0 lw14_0))
              rw [HSP.out] at HP
              clear bw14
              go_wp2_with fail
              go_roundw
              case rel => exact HP.out
              case measure => simp [intOf]; omega
            subst h1
            by_cases h2 : c = c'
            rotate_left
            · have e2 : (c == c') = false := by rw [beq_eq_false_iff_ne]; exact h2
              have KAx := Lib.hid ka
              have KAy := Lib.hid ka'
              have KTx := Lib.hid kt
              have KTy := Lib.hid kt'
              clear ka ka' kt kt' hne
              go_wp2_with fail
              refine (KAx.out _).mono ?_
              rintro e w11 ⟨rfl, hb⟩
              have nw11 : Below wr.heap.size wr w11 := hb
              have sw11 : wr.heap.size ≤ w11.heap.size := hb.size
              have cw11_0_0 := (nw11.cell (p := ⟨w.heap.size, 0, none⟩) (by show w.heap.size < wr.heap.size; omega)).trans q0
              have bw11 := bx.trans (nw11.mono bx.size)
              have lw11_0 : w.heap.size < w11.heap.size := by omega
              clear q0 bx nw11 hb
              have d1 := (bw11.cell (p := ⟨g, o + k * 2 + 1, none⟩) hBb).trans CC.out.2
              have gz : g < w11.heap.size := Nat.lt_of_lt_of_le hBb bw11.size
              go_wp2_with fail
              refine (KAy.out _).mono ?_
              rintro e w12 ⟨rfl, hb⟩
              have nw12 : Below w11.heap.size w11 w12 := ((Below.refl w11.heap.size w11).alloc (Nat.le_refl _) (.cells #[.int .i64 a, .int .i64 b, .int .i64 c, .int .i64 d] 102)).trans (hb.mono (by simp))
              have sw12 : w11.heap.size + 1 ≤ w12.heap.size := by have := hb.size; simpa using this
              have cw12_0_0 := (nw12.cell (p := ⟨w.heap.size, 0, none⟩) (by show w.heap.size < w11.heap.size; omega)).trans cw11_0_0
              have cw12_1_0 : w12.cell? ⟨w11.heap.size, 0, none⟩ = some (.int .i64 a) := (hb.cell (p := ⟨w11.heap.size, 0, none⟩) (by simp)).trans (by go_simp)
              have cw12_1_1 : w12.cell? ⟨w11.heap.size, 1, none⟩ = some (.int .i64 b) := (hb.cell (p := ⟨w11.heap.size, 1, none⟩) (by simp)).trans (by go_simp)
              have cw12_1_2 : w12.cell? ⟨w11.heap.size, 2, none⟩ = some (.int .i64 c) := (hb.cell (p := ⟨w11.heap.size, 2, none⟩) (by simp)).trans (by go_simp)
              have cw12_1_3 : w12.cell? ⟨w11.heap.size, 3, none⟩ = some (.int .i64 d) := (hb.cell (p := ⟨w11.heap.size, 3, none⟩) (by simp)).trans (by go_simp)
              have bw12 := bw11.trans (nw12.mono bw11.size)
              clear lw11_0
              have lw12_0 : w.heap.size < w12.heap.size := by omega
              have lw12_1 : w11.heap.size < w12.heap.size := by omega
              clear cw11_0_0 bw11 nw12 hb
              clear d1 gz c0
              go_wp2_with fail
              refine (KTx.out _).mono ?_
              rintro e w13 ⟨rfl, hb⟩
              have nw13 : Below w12.heap.size w12 w13 := ((Below.refl w12.heap.size w12).alloc (Nat.le_refl _) (.cells #[.int .i64 a, .int .i64 b, .int .i64 c', .int .i64 d'] 102)).trans (hb.mono (by simp))
              have sw13 : w12.heap.size + 1 ≤ w13.heap.size := by have := hb.size; simpa using this
              have cw13_0_0 := (nw13.cell (p := ⟨w.heap.size, 0, none⟩) (by show w.heap.size < w12.heap.size; omega)).trans cw12_0_0
              have cw13_1_0 := (nw13.cell (p := ⟨w11.heap.size, 0, none⟩) (by show w11.heap.size < w12.heap.size; omega)).trans cw12_1_0
              have cw13_1_1 := (nw13.cell (p := ⟨w11.heap.size, 1, none⟩) (by show w11.heap.size < w12.heap.size; omega)).trans cw12_1_1
              have cw13_1_2 := (nw13.cell (p := ⟨w11.heap.size, 2, none⟩) (by show w11.heap.size < w12.heap.size; omega)).trans cw12_1_2
              have cw13_1_3 := (nw13.cell (p := ⟨w11.heap.size, 3, none⟩) (by show w11.heap.size < w12.heap.size; omega)).trans cw12_1_3
              have cw13_2_0 : w13.cell? ⟨w12.heap.size, 0, none⟩ = some (.int .i64 a) := (hb.cell (p := ⟨w12.heap.size, 0, none⟩) (by simp)).trans (by go_simp)
              have cw13_2_1 : w13.cell? ⟨w12.heap.size, 1, none⟩ = some (.int .i64 b) := (hb.cell (p := ⟨w12.heap.size, 1, none⟩) (by simp)).trans (by go_simp)
              have cw13_2_2 : w13.cell? ⟨w12.heap.size, 2, none⟩ = some (.int .i64 c') := (hb.cell (p := ⟨w12.heap.size, 2, none⟩) (by simp)).trans (by go_simp)
              have cw13_2_3 : w13.cell? ⟨w12.heap.size, 3, none⟩ = some (.int .i64 d') := (hb.cell (p := ⟨w12.heap.size, 3, none⟩) (by simp)).trans (by go_simp)
              have bw13 := bw12.trans (nw13.mono bw12.size)
              clear lw12_0 lw12_1
              have lw13_0 : w.heap.size < w13.heap.size := by omega
              have lw13_1 : w11.heap.size < w13.heap.size := by omega
              have lw13_2 : w12.heap.size < w13.heap.size := by omega
              clear cw12_0_0 cw12_1_0 cw12_1_1 cw12_1_2 cw12_1_3 bw12 nw13 hb
              go_wp2_with fail
              refine (KTy.out _).mono ?_
              rintro e w14 ⟨rfl, hb⟩
              have nw14 : Below w13.heap.size w13 w14 := hb
              have sw14 : w13.heap.size ≤ w14.heap.size := hb.size
              have cw14_0_0 := (nw14.cell (p := ⟨w.heap.size, 0, none⟩) (by show w.heap.size < w13.heap.size; omega)).trans cw13_0_0
              have cw14_1_0 := (nw14.cell (p := ⟨w11.heap.size, 0, none⟩) (by show w11.heap.size < w13.heap.size; omega)).trans cw13_1_0
              have cw14_1_1 := (nw14.cell (p := ⟨w11.heap.size, 1, none⟩) (by show w11.heap.size < w13.heap.size; omega)).trans cw13_1_1
              have cw14_1_2 := (nw14.cell (p := ⟨w11.heap.size, 2, none⟩) (by show w11.heap.size < w13.heap.size; omega)).trans cw13_1_2
              have cw14_1_3 := (nw14.cell (p := ⟨w11.heap.size, 3, none⟩) (by show w11.heap.size < w13.heap.size; omega)).trans cw13_1_3
              have cw14_2_0 := (nw14.cell (p := ⟨w12.heap.size, 0, none⟩) (by show w12.heap.size < w13.heap.size; omega)).trans cw13_2_0
              have cw14_2_1 := (nw14.cell (p := ⟨w12.heap.size, 1, none⟩) (by show w12.heap.size < w13.heap.size; omega)).trans cw13_2_1
              have cw14_2_2 := (nw14.cell (p := ⟨w12.heap.size, 2, none⟩) (by show w12.heap.size < w13.heap.size; omega)).trans cw13_2_2
              have cw14_2_3 := (nw14.cell (p := ⟨w12.heap.size, 3, none⟩) (by show w12.heap.size < w13.heap.size; omega)).trans cw13_2_3
              have bw14 := bw13.trans (nw14.mono bw13.size)
              clear lw13_0 lw13_1 lw13_2
              have lw14_0 : w.heap.size < w14.heap.size := by omega
              have lw14_1 : w11.heap.size < w14.heap.size := by omega
              have lw14_2 : w12.heap.size < w14.heap.size := by omega
              clear cw13_0_0 cw13_1_0 cw13_1_1 cw13_1_2 cw13_1_3 cw13_2_0 cw13_2_1 cw13_2_2 cw13_2_3 bw13 nw14 hb
              have HP := Lib.hid (And.intro (txt_next (s0 := ⟨#[45]⟩) HX.out hsz hk0 HTX.out bw14) (And.intro cw14_0_0 lw14_0))
              rw [HSP.out] at HP
              clear bw14
              go_wp2_with fail
              go_roundw
              case rel => exact HP.out
              case measure => simp [intOf]; omega
            subst h2
            have e3 : (d == d') = false := by rw [beq_eq_false_iff_ne]; exact fun h => hne ⟨rfl, rfl, rfl, h⟩
            have KAx := Lib.hid ka
            have KAy := Lib.hid ka'
            have KTx := Lib.hid kt
            have KTy := Lib.hid kt'
            clear ka ka' kt kt' hne
            go_wp2_with fail
            refine (KAx.out _).mono ?_
            rintro e w11 ⟨rfl, hb⟩
            have nw11 : Below wr.heap.size wr w11 := hb
            have sw11 : wr.heap.size ≤ w11.heap.size := hb.size
            have cw11_0_0 := (nw11.cell (p := ⟨w.heap.size, 0, none⟩) (by show w.heap.size < wr.heap.size; omega)).trans q0
            have bw11 := bx.trans (nw11.mono bx.size)
            have lw11_0 : w.heap.size < w11.heap.size := by omega
            clear q0 bx nw11 hb
            have d1 := (bw11.cell (p := ⟨g, o + k * 2 + 1, none⟩) hBb).trans CC.out.2
            have gz : g < w11.heap.size := Nat.lt_of_lt_of_le hBb bw11.size
            go_wp2_with fail
            refine (KAy.out _).mono ?_
            rintro e w12 ⟨rfl, hb⟩
            have nw12 : Below w11.heap.size w11 w12 := ((Below.refl w11.heap.size w11).alloc (Nat.le_refl _) (.cells #[.int .i64 a, .int .i64 b, .int .i64 c, .int .i64 d] 102)).trans (hb.mono (by simp))
            have sw12 : w11.heap.size + 1 ≤ w12.heap.size := by have := hb.size; simpa using this
            have cw12_0_0 := (nw12.cell (p := ⟨w.heap.size, 0, none⟩) (by show w.heap.size < w11.heap.size; omega)).trans cw11_0_0
            have cw12_1_0 : w12.cell? ⟨w11.heap.size, 0, none⟩ = some (.int .i64 a) := (hb.cell (p := ⟨w11.heap.size, 0, none⟩) (by simp)).trans (by go_simp)
            have cw12_1_1 : w12.cell? ⟨w11.heap.size, 1, none⟩ = some (.int .i64 b) := (hb.cell (p := ⟨w11.heap.size, 1, none⟩) (by simp)).trans (by go_simp)
            have cw12_1_2 : w12.cell? ⟨w11.heap.size, 2, none⟩ = some (.int .i64 c) := (hb.cell (p := ⟨w11.heap.size, 2, none⟩) (by simp)).trans (by go_simp)
            have cw12_1_3 : w12.cell? ⟨w11.heap.size, 3, none⟩ = some (.int .i64 d) := (hb.cell (p := ⟨w11.heap.size, 3, none⟩) (by simp)).trans (by go_simp)
            have bw12 := bw11.trans (nw12.mono bw11.size)
            clear lw11_0
            have lw12_0 : w.heap.size < w12.heap.size := by omega
            have lw12_1 : w11.heap.size < w12.heap.size := by omega
            clear cw11_0_0 bw11 nw12 hb
            clear d1 gz c0
            go_wp2_with fail
            refine (KTx.out _).mono ?_
            rintro e w13 ⟨rfl, hb⟩
            have nw13 : Below w12.heap.size w12 w13 := ((Below.refl w12.heap.size w12).alloc (Nat.le_refl _) (.cells #[.int .i64 a, .int .i64 b, .int .i64 c, .int .i64 d'] 102)).trans (hb.mono (by simp))
            have sw13 : w12.heap.size + 1 ≤ w13.heap.size := by have := hb.size; simpa using this
            have cw13_0_0 := (nw13.cell (p := ⟨w.heap.size, 0, none⟩) (by show w.heap.size < w12.heap.size; omega)).trans cw12_0_0
            have cw13_1_0 := (nw13.cell (p := ⟨w11.heap.size, 0, none⟩) (by show w11.heap.size < w12.heap.size; omega)).trans cw12_1_0
            have cw13_1_1 := (nw13.cell (p := ⟨w11.heap.size, 1, none⟩) (by show w11.heap.size < w12.heap.size; omega)).trans cw12_1_1
            have cw13_1_2 := (nw13.cell (p := ⟨w11.heap.size, 2, none⟩) (by show w11.heap.size < w12.heap.size; omega)).trans cw12_1_2
            have cw13_1_3 := (nw13.cell (p := ⟨w11.heap.size, 3, none⟩) (by show w11.heap.size < w12.heap.size; omega)).trans cw12_1_3
            have cw13_2_0 : w13.cell? ⟨w12.heap.size, 0, none⟩ = some (.int .i64 a) := (hb.cell (p := ⟨w12.heap.size, 0, none⟩) (by simp)).trans (by go_simp)
            have cw13_2_1 : w13.cell? ⟨w12.heap.size, 1, none⟩ = some (.int .i64 b) := (hb.cell (p := ⟨w12.heap.size, 1, none⟩) (by simp)).trans (by go_simp)
            have cw13_2_2 : w13.cell? ⟨w12.heap.size, 2, none⟩ = some (.int .i64 c) := (hb.cell (p := ⟨w12.heap.size, 2, none⟩) (by simp)).trans (by go_simp)
            have cw13_2_3 : w13.cell? ⟨w12.heap.size, 3, none⟩ = some (.int .i64 d') := (hb.cell (p := ⟨w12.heap.size, 3, none⟩) (by simp)).trans (by go_simp)
            have bw13 := bw12.trans (nw13.mono bw12.size)
            clear lw12_0 lw12_1
            have lw13_0 : w.heap.size < w13.heap.size := by omega
            have lw13_1 : w11.heap.size < w13.heap.size := by omega
            have lw13_2 : w12.heap.size < w13.heap.size := by omega
            clear cw12_0_0 cw12_1_0 cw12_1_1 cw12_1_2 cw12_1_3 bw12 nw13 hb
            go_wp2_with fail
            refine (KTy.out _).mono ?_
            rintro e w14 ⟨rfl, hb⟩
            have nw14 : Below w13.heap.size w13 w14 := hb
            have sw14 : w13.heap.size ≤ w14.heap.size := hb.size
            have cw14_0_0 := (nw14.cell (p := ⟨w.heap.size, 0, none⟩) (by show w.heap.size < w13.heap.size; omega)).trans cw13_0_0
            have cw14_1_0 := (nw14.cell (p := ⟨w11.heap.size, 0, none⟩) (by show w11.heap.size < w13.heap.size; omega)).trans cw13_1_0
            have cw14_1_1 := (nw14.cell (p := ⟨w11.heap.size, 1, none⟩) (by show w11.heap.size < w13.heap.size; omega)).trans cw13_1_1
            have cw14_1_2 := (nw14.cell (p := ⟨w11.heap.size, 2, none⟩) (by show w11.heap.size < w13.heap.size; omega)).trans cw13_1_2
            have cw14_1_3 := (nw14.cell (p := ⟨w11.heap.size, 3, none⟩) (by show w11.heap.size < w13.heap.size; omega)).trans cw13_1_3
            have cw14_2_0 := (nw14.cell (p := ⟨w12.heap.size, 0, none⟩) (by show w12.heap.size < w13.heap.size; omega)).trans cw13_2_0
            have cw14_2_1 := (nw14.cell (p := ⟨w12.heap.size, 1, none⟩) (by show w12.heap.size < w13.heap.size; omega)).trans cw13_2_1
            have cw14_2_2 := (nw14.cell (p := ⟨w12.heap.size, 2, none⟩) (by show w12.heap.size < w13.heap.size; omega)).trans cw13_2_2
            have cw14_2_3 := (nw14.cell (p := ⟨w12.heap.size, 3, none⟩) (by show w12.heap.size < w13.heap.size; omega)).trans cw13_2_3
            have bw14 := bw13.trans (nw14.mono bw13.size)
            clear lw13_0 lw13_1 lw13_2
            have lw14_0 : w.heap.size < w14.heap.size := by omega
            have lw14_1 : w11.heap.size < w14.heap.size := by omega
            have lw14_2 : w12.heap.size < w14.heap.size := by omega
            clear cw13_0_0 cw13_1_0 cw13_1_1 cw13_1_2 cw13_1_3 cw13_2_0 cw13_2_1 cw13_2_2 cw13_2_3 bw13 nw14 hb
            have HP := Lib.hid (And.intro (txt_next (s0 := ⟨#[45]⟩) HX.out hsz hk0 HTX.out bw14) (And.intro cw14_0_0 lw14_0))
            rw [HSP.out] at HP
            clear bw14
            go_wp2_with fail
            go_roundw
            case rel => exact HP.out
            case measure => simp [intOf]; omega
      · obtain rfl : k = L.length := by omega
        by_cases hz : L.length = 0
        · obtain rfl : L = [] := List.eq_nil_of_length_eq_zero hz
          obtain rfl : s = ⟨#[45]⟩ := HS0.out rfl
          have HT := Lib.hid (show textL [] = ⟨#[45]⟩ from rfl)
          go_wp2_with fail
          go_ret
          exact ⟨by rw [HF.out, HT.out]; rfl, bx⟩
        · have HT := Lib.hid (show textL L = s by rw [HSK.out (by omega), List.drop_length]; rfl)
          go_wp2_with fail
          go_ret
          exact ⟨by rw [HF.out, HT.out]; rfl, bx⟩

end Go.Proofs.Ytdhbjjolgmodjaa

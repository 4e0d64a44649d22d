/- Contracts of LockText, the program's and the model's, over this seat's translation: a lock is written line by line, what is no lock as the empty text; nothing that was there before a call has changed. Condition: at most 1048576 picks. -/
import Derived.Test.YtenfdbikgpppdaaLkp
import Derived.Test.YtenfdbikgpppdaaVtext
import Derived.Test.YtenfdbikgpppdaaPkmk
import Derived.Deep.RegionWith
import Derived.Handy
namespace Go.Proofs.Ytenfdbikgpppdaa
open Go.RowKit Go.Sort

namespace Lk
/-- The text of a name. -/
def nb (n : Int) : ByteArray := ⟨#[UInt8.ofNat (97 + n).toNat]⟩
theorem nb_size (n : Int) : (nb n).size = 1 := rfl

set_option maxHeartbeats 1000000 in
theorem nameText_any (n : Int) (w : World) (h0 : 0 ≤ n) (h1 : n ≤ 7) :
    Calls Try.prog 42 #[.int .i64 n] w fun e w' => e = .returned (.string (nb n)) ∧ w = w' := by
  have hd : n = 0 ∨ n = 1 ∨ n = 2 ∨ n = 3 ∨ n = 4 ∨ n = 5 ∨ n = 6 ∨ n = 7 := by omega
  rcases hd with rfl | rfl | rfl | rfl | rfl | rfl | rfl | rfl
  all_goals
    go_enter Try.func42, Try.ntmps42
    go_wp2
    go_ret
    exact ⟨rfl, rfl⟩

theorem vlen (a b c d : Int) : (vText a b c d).size ≤ 12 := by
  have ha := nt_size a
  have hb := nt_size b
  have hc := nt_size c
  have hd := nt_size d
  have h1 : (⟨#[46]⟩ : ByteArray).size = 1 := rfl
  have h2 : (⟨#[45]⟩ : ByteArray).size = 1 := rfl
  unfold vText
  split
  · unfold txt core
    split <;> simp only [ByteArray.size_append] <;> omega
  · exact Nat.zero_le _
theorem line_text {x : Pk} (h : fine x) : (nb x.1).data.toList ++ ([32] ++ ((vText x.2.1 x.2.2.1 x.2.2.2.1 x.2.2.2.2).data.toList ++ [10])) = lineL x ++ [10] := by
  rw [vText_full h.2]
  rfl

/-- What the loops keep: what is written so far. -/
def LtRel (M : List Pk) (w : World) (v i : Value) (wr : World) : Prop :=
  ∃ (k : Nat) (s : ByteArray), k ≤ M.length ∧ i = .int .i64 (k : Int) ∧ v = .string s ∧ s.data.toList = lockL (M.take k) ∧ Below w.heap.size w wr
theorem lt_size {M : List Pk} {k : Nat} {s : ByteArray} (hs : s.data.toList = lockL (M.take k)) (hM : M.length ≤ 8) : s.size ≤ 112 := by
  have h1 := lockL_len (M.take k)
  have h2 : (M.take k).length ≤ k := List.length_take_le _ _
  have h3 : (M.take k).length ≤ M.length := by simp; omega
  have h4 : s.size = s.data.toList.length := by simp
  rw [h4, hs]
  omega
theorem lt_next {M : List Pk} {w wr : World} {k : Nat} {s : ByteArray} {x : Pk} (hM : M[k]? = some x) (hf : fine x) (hs : s.data.toList = lockL (M.take k)) (hb : Below w.heap.size w wr) :
    LtRel M w (.string (s ++ (nb x.1 ++ ⟨#[32]⟩ ++ vText x.2.1 x.2.2.1 x.2.2.2.1 x.2.2.2.2 ++ ⟨#[10]⟩))) (.int .i64 ((k : Int) + 1)) wr := by
  have hk : k < M.length := (List.getElem?_eq_some_iff.1 hM).1
  refine ⟨k + 1, _, by omega, by go_num, rfl, ?_, hb⟩
  rw [lockL_snoc hM, ← line_text hf, ← hs]
  simp [ByteArray.data_append]
theorem lt_next2 {M : List Pk} {w wr : World} {k : Nat} {s : ByteArray} {x : Pk} (hM : M[k]? = some x) (hf : fine x) (hs : s.data.toList = lockL (M.take k)) (hb : Below w.heap.size w wr) :
    LtRel M w (.string (s ++ nb x.1 ++ ⟨#[32]⟩ ++ vText x.2.1 x.2.2.1 x.2.2.2.1 x.2.2.2.2 ++ ⟨#[10]⟩)) (.int .i64 ((k : Int) + 1)) wr := by
  have hk : k < M.length := (List.getElem?_eq_some_iff.1 hM).1
  refine ⟨k + 1, _, by omega, by go_num, rfl, ?_, hb⟩
  rw [lockL_snoc hM, ← line_text hf, ← hs]
  simp [ByteArray.data_append]
theorem lt_end {M : List Pk} {s : ByteArray} (hk : pkOk M = true) (hs : s.data.toList = lockL (M.take M.length)) : s = lockT M := by
  rw [List.take_length] at hs
  unfold lockT
  rw [if_pos hk, ← hs]
theorem lockT_no {M : List Pk} (hk : pkOk M = false) : lockT M = ⟨#[]⟩ := by simp [lockT, hk]

set_option maxRecDepth 100000 in
set_option maxHeartbeats 2000000 in
theorem implLockText_any (v : Value) (M : List Pk) (w : World) (hl : M.length ≤ 1048576) (h : PkAt w w.heap.size v M) :
    Calls Try.prog 18 #[v] w fun e w' => e = .returned (.string (lockT M)) ∧ Below w.heap.size w w' := by
  obtain ⟨a, cap, rfl, h0⟩ := id h
  have KP := Lib.hid (implPicksOk_any _ M w hl h)
  rcases hk : pkOk M
  · have HF := Lib.hid (lockT_no hk)
    rw [hk] at KP
    clear hk h h0
    go_enter Try.func18, Try.ntmps18
    go_wp2_with fail
    refine KP.out.mono ?_
    rintro e w1 ⟨rfl, hb⟩
    go_wp2_with fail
    go_ret
    exact ⟨by rw [HF.out]; rfl, hb⟩
  · have HK := Lib.hid hk
    have HFI := Lib.hid (pkOk_fine hk)
    have hM8 := pkOk_count hk
    rw [hk] at KP
    have HH := Lib.hid h0
    clear hk h h0
    go_enter Try.func18, Try.ntmps18
    go_wp2_with fail
    refine KP.out.mono ?_
    rintro e w1 ⟨rfl, hb1⟩
    go_wp2_with fail
    go_loopw [3, 11] (fun v i wr => LtRel M w v i wr) (fun _ i _ => M.length - (intOf i).toNat)
    case atStart => exact ⟨0, _, Nat.zero_le _, rfl, rfl, rfl, hb1⟩
    case round =>
      obtain ⟨k, s, hk, rfl, rfl, hs, hb⟩ := hrel
      have hz := lt_size hs hM8
      have HS := Lib.hid hs
      clear hs hb1
      by_cases hlt : k < M.length
      · rcases HH.out with h | ⟨b, o, rfl, hB, hc⟩
        · subst h
          exact absurd hlt (by simp)
        obtain ⟨x, a1, b1, c1, d1, hxy⟩ : ∃ x a1 b1 c1 d1, M[k] = (x, a1, b1, c1, d1) := ⟨_, _, _, _, _, rfl⟩
        have m := (hc k hlt).below hb hB
        rw [hxy] at m
        obtain ⟨k0, k1, k2, k3, k4⟩ := m
        simp only at k0 k1 k2 k3 k4
        have HX := Lib.hid (show M[k]? = some (x, a1, b1, c1, d1) by rw [List.getElem?_eq_getElem hlt, hxy])
        have hf := HFI.out _ (List.mem_of_getElem? HX.out)
        obtain ⟨x0, x7⟩ : 0 ≤ x ∧ x ≤ 7 := hf.1
        have HFX := Lib.hid hf
        clear hxy hc hf
        have bb := hb.alloc hb.size (.cells #[.int .i64 x, .int .i64 a1, .int .i64 b1, .int .i64 c1, .int .i64 d1] 58)
        have t0 := cell_regrown (w := wr.alloc (.cells #[.int .i64 x, .int .i64 a1, .int .i64 b1, .int .i64 c1, .int .i64 d1] 58)) (a := ⟨wr.heap.size, 0, none⟩) (v := .int .i64 x) (by go_simp)
        have t1 := cell_regrown (w := wr.alloc (.cells #[.int .i64 x, .int .i64 a1, .int .i64 b1, .int .i64 c1, .int .i64 d1] 58)) (a := ⟨wr.heap.size, 1, none⟩) (v := .int .i64 a1) (by go_simp)
        have t2 := cell_regrown (w := wr.alloc (.cells #[.int .i64 x, .int .i64 a1, .int .i64 b1, .int .i64 c1, .int .i64 d1] 58)) (a := ⟨wr.heap.size, 2, none⟩) (v := .int .i64 b1) (by go_simp)
        have t3 := cell_regrown (w := wr.alloc (.cells #[.int .i64 x, .int .i64 a1, .int .i64 b1, .int .i64 c1, .int .i64 d1] 58)) (a := ⟨wr.heap.size, 3, none⟩) (v := .int .i64 c1) (by go_simp)
        have t4 := cell_regrown (w := wr.alloc (.cells #[.int .i64 x, .int .i64 a1, .int .i64 b1, .int .i64 c1, .int .i64 d1] 58)) (a := ⟨wr.heap.size, 4, none⟩) (v := .int .i64 d1) (by go_simp)
        have KN : Hid (∀ V, Calls Try.prog 42 #[.int .i64 x] V fun e w' => e = .returned (.string (nb x)) ∧ Below V.heap.size V w') := Lib.hid fun V => (nameText_any x V x0 x7).mono fun _ _ ⟨he, hw⟩ => ⟨he, by subst hw; exact Below.refl _ _⟩
        have KV : Hid (∀ V, Calls Try.prog 31 #[ver a1 b1 c1 d1] V fun e w' => e = .returned (.string (vText a1 b1 c1 d1)) ∧ Below V.heap.size V w') := Lib.hid fun V => implText_any _ _ _ _ V
        have HP := Lib.hid (fun V (hV : Below w.heap.size w V) => lt_next (w := w) HX.out HFX.out HS.out hV)
        have e1 := nb_size x
        have e2 := vlen a1 b1 c1 d1
        simp only at HP
        generalize nb x = tn at *
        generalize vText a1 b1 c1 d1 = tv at *
        have n1 : ¬ 9223372036854775807 < 1 + 1 + tv.size := by omega
        have n2 : ¬ 9223372036854775807 < 1 + 1 + tv.size + 1 := by omega
        have n3 : ¬ 9223372036854775807 < s.size + (1 + 1 + tv.size + 1) := by omega
        go_wp2_with fail
        refine wp_region_quiet_below (by kernel_rfl) (by kernel_rfl) ?_
        repeat (any_goals (first | go_big_quiet_step ((first | (go_at_call 42; exact Calls.regrown_of (KN.out _)) | (go_at_call 31; exact Calls.regrown_of (KV.out _)))) | quiet_step ((first | (go_at_call 42; exact Calls.regrown_of (KN.out _)) | (go_at_call 31; exact Calls.regrown_of (KV.out _))))))
        refine wpQuiet_nil ?_
        intro W2 hw
        have nn := quiet_end hw
        clear hw t0 t1 t2 t3 t4 k0 k1 k2 k3 k4
        have HQ := Lib.hid (HP.out _ (bb.trans (nn.mono bb.size)))
        clear nn bb hb
        go_wp2_with fail
        go_roundw
        case rel => exact HQ.out
        case measure => simp [intOf]; omega
      · obtain rfl : k = M.length := by omega
        have HE := Lib.hid (lt_end HK.out HS.out)
        clear hz
        go_wp2_with fail
        go_ret
        exact ⟨by rw [← HE.out]; rfl, hb⟩

theorem one_byte_at (x : Int) (V : World) (g : Nat) (hc : V.cell? ⟨g, 0, none⟩ = some (.int .u8 x)) : (convert 38 9 (.slice (some ⟨g, 0, none⟩) 1 1)).run Try.prog V =
    .ok (.string ⟨#[UInt8.ofNat x.toNat]⟩) V := by
  rw [run_convert_bytes_string _ 38 9 5 _ 1 1 Try.underlying38 Try.underlying5 Try.underlying9]
  have hl : (loadCells ⟨g, 0, none⟩ 1).run Try.prog V = .ok ([x].map (Value.int .u8)).toArray V := by
    go_simp
  rw [run_bytesToString _ _ 1 1 [x] hl]
  rfl

set_option maxRecDepth 100000 in
set_option maxHeartbeats 4000000 in
theorem specLockText_any (v : Value) (M : List Pk) (w : World) (hl : M.length ≤ 1048576) (h : PkAt w w.heap.size v M) :
    Calls Try.prog 17 #[v] w fun e w' => e = .returned (.string (lockT M)) ∧ Below w.heap.size w w' := by
  obtain ⟨a, cap, rfl, h0⟩ := id h
  have KP : Hid (∀ V, Below w.heap.size w V → Calls Try.prog 34 #[.slice a M.length cap] V fun e w' => e = .returned (.bool (pkOk M)) ∧ Below V.heap.size V w') := Lib.hid fun V g => specPicksOk_any _ M V hl (h.stepAt g)
  rcases hk : pkOk M
  · have HF := Lib.hid (lockT_no hk)
    have hlen : 0 < M.length := by
      rcases M with _ | ⟨x, t⟩
      · cases hk
      · simp
    have hlI : (0 : Int) < (M.length : Int) := by omega
    rw [hk] at KP
    clear hk h h0
    go_enter Try.func17, Try.ntmps17
    go_wp2_with fail
    go_loopw [3, 4] (fun v i wr => v = .string ⟨#[]⟩ ∧ i = .int .i64 0 ∧ wr = w) (fun _ _ _ => 0)
    case atStart => exact ⟨rfl, rfl, rfl⟩
    case round =>
      obtain ⟨rfl, rfl, rfl⟩ := hrel
      go_wp2_with fail
      refine (KP.out _ (Below.refl _ _)).mono ?_
      rintro e w1 ⟨rfl, hb⟩
      go_wp2_with fail
      go_ret
      exact ⟨by rw [HF.out]; rfl, hb⟩
  · have HK := Lib.hid hk
    have HFI := Lib.hid (pkOk_fine hk)
    have hM8 := pkOk_count hk
    rw [hk] at KP
    have HH := Lib.hid h0
    clear hk h h0
    go_enter Try.func17, Try.ntmps17
    go_wp2_with fail
    go_loopw [3, 4] (fun v i wr => LtRel M w v i wr) (fun _ i _ => M.length - (intOf i).toNat)
    case atStart => exact ⟨0, _, Nat.zero_le _, rfl, rfl, rfl, Below.refl _ _⟩
    case round =>
      obtain ⟨k, s, hk, rfl, rfl, hs, hb⟩ := hrel
      have hz := lt_size hs hM8
      have HS := Lib.hid hs
      clear hs
      by_cases hlt : k < M.length
      · rcases HH.out with h | ⟨b, o, rfl, hB, hc⟩
        · subst h
          exact absurd hlt (by simp)
        obtain ⟨x, a1, b1, c1, d1, hxy⟩ : ∃ x a1 b1 c1 d1, M[k] = (x, a1, b1, c1, d1) := ⟨_, _, _, _, _, rfl⟩
        have HC := Lib.hid (hc k hlt)
        have HX := Lib.hid (show M[k]? = some (x, a1, b1, c1, d1) by rw [List.getElem?_eq_getElem hlt, hxy])
        have hf := HFI.out _ (List.mem_of_getElem? HX.out)
        obtain ⟨x0, x7⟩ : 0 ≤ x ∧ x ≤ 7 := hf.1
        have HFX := Lib.hid hf
        have HXY := Lib.hid hxy
        clear hxy hc hf
        have i0 : (0 : Int) ≤ (k : Int) := by omega
        have i1 : (k : Int) < (M.length : Int) := by omega
        go_wp2_with fail
        refine (KP.out _ hb).mono ?_
        rintro e w2 ⟨rfl, hb2⟩
        have b2 := hb.trans (hb2.mono hb.size)
        have m := HC.out.below b2 hB
        rw [HXY.out] at m
        obtain ⟨k0, k1, k2, k3, k4⟩ := m
        simp only at k0 k1 k2 k3 k4
        have z2 := b2.size
        have bl : b < w2.heap.size := by omega
        have KV : Hid (∀ V, Calls Try.prog 41 #[ver a1 b1 c1 d1] V fun e w' => e = .returned (.string (vText a1 b1 c1 d1)) ∧ Below V.heap.size V w') := Lib.hid fun V => specText_any _ _ _ _ V
        have HP := Lib.hid (fun V (hV : Below w.heap.size w V) => lt_next2 (w := w) HX.out HFX.out HS.out hV)
        have hv := one_byte_at (97 + x)
        have e1 : ((⟨#[UInt8.ofNat (97 + x).toNat]⟩ : ByteArray)).size = 1 := rfl
        have e2 := vlen a1 b1 c1 d1
        have ew : IntKind.u8.wrap (97 + x) = 97 + x := IntWalk.u8_in _ (by omega)
        have ew2 : IntKind.i64.wrap (97 + x) = 97 + x := IntWalk.i64_in _ (by omega)
        simp only at HP
        unfold nb at HP
        have HE1 := Lib.hid e1
        clear e1
        generalize vText a1 b1 c1 d1 = tv at *
        have n0 : ¬ 9223372036854775807 < s.size + 1 := by omega
        have n1 : ¬ 9223372036854775807 < s.size + 1 + 1 := by omega
        have n2 : ¬ 9223372036854775807 < s.size + 1 + 1 + tv.size := by omega
        have n3 : ¬ 9223372036854775807 < s.size + 1 + 1 + tv.size + 1 := by omega
        clear hb hb2
        go_wp2_with fail
        have TA := Lib.hid (fun V (h : Below (w2.alloc (.cells #[.int .u8 (97 + x)] 5)).heap.size (w2.alloc (.cells #[.int .u8 (97 + x)] 5)) V) => (h.cell (p := ⟨w2.heap.size, 0, none⟩) (by simp)).trans (show (w2.alloc (.cells #[.int .u8 (97 + x)] 5)).cell? ⟨w2.heap.size, 0, none⟩ = some (.int .u8 (97 + x)) by go_simp))
        have TB := Lib.hid (fun V (h : Below (w2.alloc (.cells #[.int .u8 (97 + x)] 5)).drew.heap.size (w2.alloc (.cells #[.int .u8 (97 + x)] 5)).drew V) => (h.cell (p := ⟨w2.heap.size, 0, none⟩) (by show w2.heap.size < (w2.alloc (.cells #[.int .u8 (97 + x)] 5)).heap.size; simp)).trans (show (w2.alloc (.cells #[.int .u8 (97 + x)] 5)).cell? ⟨w2.heap.size, 0, none⟩ = some (.int .u8 (97 + x)) by go_simp))
        have TC := Lib.hid (fun V (h : Below (w2.drew.alloc (.cells #[.int .u8 (97 + x)] 5)).heap.size (w2.drew.alloc (.cells #[.int .u8 (97 + x)] 5)) V) => (h.cell (p := ⟨w2.heap.size, 0, none⟩) (by show w2.heap.size < (w2.alloc (.cells #[.int .u8 (97 + x)] 5)).heap.size; simp)).trans (show (w2.alloc (.cells #[.int .u8 (97 + x)] 5)).cell? ⟨w2.heap.size, 0, none⟩ = some (.int .u8 (97 + x)) by go_simp))
        go_region_with ((go_at_call 41; refine (KV.out _).mono ?_; rintro e w3 ⟨rfl, hb3⟩; have n3 : Below w2.heap.size w2 w3 := Below.step (by go_grown) hb3; have z3 := n3.size; have q0 := (n3.cell (p := ⟨b, o + k * 5, none⟩) bl).trans k0; have q1 := (n3.cell (p := ⟨b, o + k * 5 + 1, none⟩) bl).trans k1; have q2 := (n3.cell (p := ⟨b, o + k * 5 + 2, none⟩) bl).trans k2; have q3 := (n3.cell (p := ⟨b, o + k * 5 + 3, none⟩) bl).trans k3; have q4 := (n3.cell (p := ⟨b, o + k * 5 + 4, none⟩) bl).trans k4; (try (have T3 := TA.out _ hb3)); (try (have T3 := TB.out _ hb3)); (try (have T3 := TC.out _ hb3)); have HN3 := Lib.hid n3; clear hb3 n3))
        all_goals
          have hn3 := HN3.out
          have HQ := Lib.hid (fun V (hV : Below w2.heap.size w2 V) => HP.out V (b2.trans (hV.mono b2.size)))
          go_wp2_with fail
          go_roundw
          case rel => exact HQ.out _ (by go_grown)
          case measure => simp [intOf]; omega
      · obtain rfl : k = M.length := by omega
        have HE := Lib.hid (lt_end HK.out HS.out)
        clear hz
        go_wp2_with fail
        go_ret
        exact ⟨by rw [← HE.out]; rfl, hb⟩
end Lk
end Go.Proofs.Ytenfdbikgpppdaa

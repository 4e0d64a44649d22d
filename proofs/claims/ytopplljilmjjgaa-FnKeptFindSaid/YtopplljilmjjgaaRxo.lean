/- Contracts of ScriptOk and of ThingsOk, the program's and the model's, over this seat's translation: they answer whether lines are a script and texts are inputs; nothing that was there before a call has changed. Condition: at most 1048576 lines and texts, of at most 1048576 bytes. -/
import Derived.Test.YtopplljilmjjgaaRxl
import Derived.Handy
namespace Go.Proofs.Ytopplljilmjjgaa
open Go.RowKit Go.Sort
namespace Rx
theorem scOk_long {S : List Ln} {ins : Int} (h : 10 < S.length) : scOk S ins = false := by
  have : decide (S.length ≤ 10) = false := decide_eq_false (by omega)
  simp [scOk, this]
theorem scOk_out {S : List Ln} {ins : Int} (h : ¬ (0 ≤ ins ∧ ins ≤ 5)) : scOk S ins = false := by
  have : decide (0 ≤ ins ∧ ins ≤ 5) = false := decide_eq_false h
  simp [scOk, this]
theorem scOk_bad {S : List Ln} {ins : Int} {k : Nat} {x : Ln} (hx : S[k]? = some x) (h : lOk x ins = false) : scOk S ins = false := by
  have : (S.all fun x => lOk x ins) = false := by
    rw [← Bool.not_eq_true, List.all_eq_true]
    intro e
    rw [e x (List.mem_of_getElem? hx)] at h
    cases h
  simp [scOk, this]
theorem all_next {S : List Ln} {ins : Int} {k : Nat} {x : Ln} (hx : S[k]? = some x) (h : lOk x ins = true) (ha : (S.take k).all (fun x => lOk x ins) = true) : (S.take (k + 1)).all (fun x => lOk x ins) = true := by
  rw [List.take_add_one, hx]
  simp [ha, h]
theorem scOk_all {S : List Ln} {ins : Int} (ha : (S.take S.length).all (fun x => lOk x ins) = true) : scOk S ins = (decide (S.length ≤ 10) && decide (0 ≤ ins ∧ ins ≤ 5)) := by
  rw [List.take_length] at ha
  simp [scOk, ha]

set_option maxRecDepth 100000 in
set_option maxHeartbeats 2000000 in
theorem implScriptOk_any (v : Value) (S : List Ln) (ins : Int) (w : World) (hl : S.length ≤ 1048576) (hq : ∀ q ∈ S, q.2.2.2.size ≤ 1048576) (h : LnAt w w.heap.size v S) :
    Calls Try.prog 127 #[v, .int .i64 ins] w fun e w' => e = .returned (.bool (scOk S ins)) ∧ Below w.heap.size w w' := by
  obtain ⟨a, cap, rfl, h⟩ := h
  have HH := Lib.hid h
  have HQ := Lib.hid hq
  clear h hq
  by_cases g0 : 10 < S.length
  · have HE := Lib.hid (scOk_long (ins := ins) g0)
    have gI : (10 : Int) < (S.length : Int) := by omega
    go_enter Try.func127, Try.ntmps127
    go_wp2_with fail
    go_ret
    exact ⟨by rw [HE.out]; rfl, Below.refl _ _⟩
  have gI : ¬ (10 : Int) < (S.length : Int) := by omega
  by_cases g1 : 0 ≤ ins
  rotate_left
  · have HE := Lib.hid (scOk_out (S := S) (ins := ins) (by omega))
    have g1' : ins < 0 := by omega
    go_enter Try.func127, Try.ntmps127
    go_wp2_with fail
    go_ret
    exact ⟨by rw [HE.out]; rfl, Below.refl _ _⟩
  have g1' : ¬ ins < 0 := by omega
  by_cases g2 : ins ≤ 5
  rotate_left
  · have HE := Lib.hid (scOk_out (S := S) (ins := ins) (by omega))
    have g2' : 5 < ins := by omega
    go_enter Try.func127, Try.ntmps127
    go_wp2_with fail
    go_ret
    exact ⟨by rw [HE.out]; rfl, Below.refl _ _⟩
  have g2' : ¬ 5 < ins := by omega
  go_enter Try.func127, Try.ntmps127
  go_wp2_with fail
  go_loopw [20] (fun i wr => ∃ k : Nat, k ≤ S.length ∧ i = .int .i64 (k : Int) ∧ (S.take k).all (fun x => lOk x ins) = true ∧ Below w.heap.size w wr) (fun i _ => S.length - (intOf i).toNat)
  case atStart => exact ⟨0, Nat.zero_le _, rfl, rfl, Below.refl _ _⟩
  case round =>
    obtain ⟨k, hk, rfl, ha, hb⟩ := hrel
    have HA := Lib.hid ha
    clear ha
    by_cases hlt : k < S.length
    · rcases HH.out with h | ⟨b, o, rfl, hB, hc⟩
      · subst h
        exact absurd hlt (by simp)
      obtain ⟨x, a1, b1, t1, hxy⟩ : ∃ x a1 b1 t1, S[k] = (x, a1, b1, t1) := ⟨_, _, _, _, rfl⟩
      have c := (hc k hlt).below hb hB
      rw [hxy] at c
      obtain ⟨e0, e1, e2, e3⟩ := c
      simp only at e0 e1 e2 e3
      have HX := Lib.hid (show S[k]? = some (x, a1, b1, t1) by rw [List.getElem?_eq_getElem hlt, hxy])
      have hm := HQ.out _ (List.mem_of_getElem? HX.out)
      simp only at hm
      have K := Lib.hid fun V => lineOk_any x a1 b1 t1 ins V
      clear hc hxy
      have i0 : (0 : Int) ≤ (k : Int) := by omega
      have i1 : (k : Int) < (S.length : Int) := by omega
      have bb := hb.alloc hb.size (.cells #[.int .i64 x, .int .i64 a1, .int .i64 b1, .string t1] 99)
      rcases hq : lOk (x, a1, b1, t1) ins
      · have HE := Lib.hid (scOk_bad HX.out hq)
        rw [hq] at K
        clear hq
        go_wp2_with fail
        refine (K.out _).mono ?_
        rintro e w2 ⟨rfl, hb2⟩
        have b2 := bb.trans (hb2.mono bb.size)
        clear hb hb2 bb
        go_wp2_with fail
        go_ret
        exact ⟨by rw [HE.out]; rfl, b2⟩
      · have HN := Lib.hid (all_next HX.out hq HA.out)
        rw [hq] at K
        clear hq
        go_wp2_with fail
        refine (K.out _).mono ?_
        rintro e w2 ⟨rfl, hb2⟩
        have b2 := bb.trans (hb2.mono bb.size)
        clear hb hb2 bb
        go_wp2_with fail
        go_roundw
        case rel => exact ⟨k + 1, by omega, by go_num, HN.out, b2⟩
        case measure => simp [intOf]; omega
    · obtain rfl : k = S.length := by omega
      have HE := Lib.hid (show scOk S ins = true by rw [scOk_all HA.out, decide_eq_true (by omega), decide_eq_true (by omega)]; rfl)
      go_wp2_with fail
      go_ret
      exact ⟨by rw [HE.out]; rfl, hb⟩

theorem inB_yes {n lo hi : Int} (h : lo ≤ n ∧ n ≤ hi) : inB n lo hi = true := by unfold inB; simp; omega
theorem inB_no {n lo hi : Int} (h : ¬ (lo ≤ n ∧ n ≤ hi)) : inB n lo hi = false := by
  rw [← Bool.not_eq_true]
  intro e
  apply h
  unfold inB at e
  simp at e
  omega

/-- What the loop keeps. -/
def ScRel (S : List Ln) (ins : Int) (w : World) (i : Value) (wr : World) : Prop := ∃ k : Nat, k ≤ S.length ∧ i = .int .i64 (k : Int) ∧ (S.take k).all (fun x => lOk x ins) = true ∧ Below w.heap.size w wr

set_option maxRecDepth 100000 in
set_option maxHeartbeats 16000000 in
theorem specScriptOk_any (v : Value) (S : List Ln) (ins : Int) (w : World) (hl : S.length ≤ 1048576) (hq : ∀ q ∈ S, q.2.2.2.size ≤ 1048576) (h : LnAt w w.heap.size v S) :
    Calls Try.prog 78 #[v, .int .i64 ins] w fun e w' => e = .returned (.bool (scOk S ins)) ∧ Below w.heap.size w w' := by
  obtain ⟨a, cap, rfl, h⟩ := h
  have HH := Lib.hid h
  have HQ := Lib.hid hq
  clear h hq
  obtain ⟨pi, hpi⟩ : ∃ pi : Int, IntKind.i64.wrap (ins - 1) = pi := ⟨_, rfl⟩
  have HF : Hid (scOk S (pi + 1) = false → scOk S ins = false) := Lib.hid fun e => by
    by_cases g : 0 ≤ ins ∧ ins ≤ 5
    · have e1 : IntKind.i64.wrap (ins - 1) = ins - 1 := IntWalk.i64_in _ (by omega)
      rw [← hpi, e1] at e
      rwa [show ins - 1 + 1 = ins by omega] at e
    · exact scOk_out g
  have HT : Hid ((S.take S.length).all (fun x => lOk x (pi + 1)) = true → scOk S ins = (decide (S.length ≤ 10) && decide (0 ≤ ins ∧ ins ≤ 5))) := Lib.hid fun e => by
    by_cases g : 0 ≤ ins ∧ ins ≤ 5
    · have e1 : IntKind.i64.wrap (ins - 1) = ins - 1 := IntWalk.i64_in _ (by omega)
      rw [← hpi, e1] at e
      rw [show ins - 1 + 1 = ins by omega] at e
      exact scOk_all e
    · rw [scOk_out g, decide_eq_false g, Bool.and_false]
  have hpx : -9223372036854775808 ≤ ins - 1 → IntKind.i64.wrap (ins - 1) = ins - 1 → pi = ins - 1 := fun _ e => by rw [← hpi, e]
  clear hpx
  go_enter Try.func78, Try.ntmps78
  go_wp2_with fail
  go_loopw [5] (fun i wr => ScRel S (pi + 1) w i wr) (fun i _ => S.length - (intOf i).toNat)
  case atStart => exact ⟨0, Nat.zero_le _, rfl, rfl, Below.refl _ _⟩
  case round =>
    obtain ⟨k, hk, rfl, ha, hb⟩ := hrel
    have HA := Lib.hid ha
    clear ha
    by_cases hlt : k < S.length
    · rcases HH.out with h | ⟨b, o, rfl, hB, hc⟩
      · subst h
        exact absurd hlt (by simp)
      obtain ⟨x, a1, b1, t1, hxy⟩ : ∃ x a1 b1 t1, S[k] = (x, a1, b1, t1) := ⟨_, _, _, _, rfl⟩
      have c := (hc k hlt).below hb hB
      rw [hxy] at c
      obtain ⟨e0, e1, e2, e3⟩ := c
      simp only at e0 e1 e2 e3
      have HX := Lib.hid (show S[k]? = some (x, a1, b1, t1) by rw [List.getElem?_eq_getElem hlt, hxy])
      have hm := HQ.out _ (List.mem_of_getElem? HX.out)
      simp only at hm
      clear hc hxy
      have i0 : (0 : Int) ≤ (k : Int) := by omega
      have i1 : (k : Int) < (S.length : Int) := by omega
      have bb := hb.alloc hb.size (.cells #[.int .i64 x, .int .i64 a1, .int .i64 b1, .string t1] 99)
      by_cases k0 : x = 0
      · subst k0
        by_cases g0 : 0 ≤ a1
        rotate_left
        · have HE0 := Lib.hid (show lOk ((0, a1, b1, t1) : Ln) (pi + 1) = false from lOk_no (by unfold LOk; dsimp only; omega))
          have KA : Hid (∀ V, Calls Try.prog 122 #[.int .i64 a1, .int .i64 0, .int .i64 pi] V fun e w2 => e = .returned (.bool false) ∧ V = w2) := Lib.hid fun V => by have := l1In_any a1 0 pi V; rwa [inB_no (by omega)] at this
          have HE := Lib.hid (HF.out (scOk_bad HX.out HE0.out))
          clear HE0
          go_wp2_with (go_at_call 122; refine (KA.out _).mono ?_; rintro e w2 ⟨rfl, rfl⟩)
          go_ret
          exact ⟨by rw [HE.out]; rfl, bb⟩
        by_cases g1 : a1 < pi + 1
        rotate_left
        · have HE0 := Lib.hid (show lOk ((0, a1, b1, t1) : Ln) (pi + 1) = false from lOk_no (by unfold LOk; dsimp only; omega))
          have KA : Hid (∀ V, Calls Try.prog 122 #[.int .i64 a1, .int .i64 0, .int .i64 pi] V fun e w2 => e = .returned (.bool false) ∧ V = w2) := Lib.hid fun V => by have := l1In_any a1 0 pi V; rwa [inB_no (by omega)] at this
          have HE := Lib.hid (HF.out (scOk_bad HX.out HE0.out))
          clear HE0
          go_wp2_with (go_at_call 122; refine (KA.out _).mono ?_; rintro e w2 ⟨rfl, rfl⟩)
          go_ret
          exact ⟨by rw [HE.out]; rfl, bb⟩
        by_cases g2 : b1 = 0
        rotate_left
        · have HE0 := Lib.hid (show lOk ((0, a1, b1, t1) : Ln) (pi + 1) = false from lOk_no (by unfold LOk; dsimp only; omega))
          have KA : Hid (∀ V, Calls Try.prog 122 #[.int .i64 a1, .int .i64 0, .int .i64 pi] V fun e w2 => e = .returned (.bool true) ∧ V = w2) := Lib.hid fun V => by have := l1In_any a1 0 pi V; rwa [inB_yes (by omega)] at this
          have HE := Lib.hid (HF.out (scOk_bad HX.out HE0.out))
          clear HE0
          go_wp2_with (go_at_call 122; refine (KA.out _).mono ?_; rintro e w2 ⟨rfl, rfl⟩)
          go_ret
          exact ⟨by rw [HE.out]; rfl, bb⟩
        by_cases g3 : t1.size = 0
        rotate_left
        · subst g2
          have hT := text_ne g3
          have HE0 := Lib.hid (show lOk ((0, a1, 0, t1) : Ln) (pi + 1) = false from lOk_no (by unfold LOk; dsimp only; omega))
          have KA : Hid (∀ V, Calls Try.prog 122 #[.int .i64 a1, .int .i64 0, .int .i64 pi] V fun e w2 => e = .returned (.bool true) ∧ V = w2) := Lib.hid fun V => by have := l1In_any a1 0 pi V; rwa [inB_yes (by omega)] at this
          have HE := Lib.hid (HF.out (scOk_bad HX.out HE0.out))
          clear HE0
          go_wp2_with (go_at_call 122; refine (KA.out _).mono ?_; rintro e w2 ⟨rfl, rfl⟩)
          go_ret
          exact ⟨by rw [HE.out]; rfl, bb⟩
        subst g2
        obtain rfl := text_nil g3
        have HE0 := Lib.hid (show lOk ((0, a1, 0, ⟨#[]⟩) : Ln) (pi + 1) = true from lOk_yes (by unfold LOk; dsimp only; omega))
        have KA : Hid (∀ V, Calls Try.prog 122 #[.int .i64 a1, .int .i64 0, .int .i64 pi] V fun e w2 => e = .returned (.bool true) ∧ V = w2) := Lib.hid fun V => by have := l1In_any a1 0 pi V; rwa [inB_yes (by omega)] at this
        have HN := Lib.hid (all_next HX.out HE0.out HA.out)
        clear HE0
        go_wp2_with (go_at_call 122; refine (KA.out _).mono ?_; rintro e w2 ⟨rfl, rfl⟩)
        go_roundw
        case rel => exact ⟨k + 1, by omega, by go_num, HN.out, bb⟩
        case measure => simp [intOf]; omega
      by_cases k1 : x = 1
      · subst k1
        by_cases g0 : a1 = 0
        rotate_left
        · have HE0 := Lib.hid (show lOk ((1, a1, b1, t1) : Ln) (pi + 1) = false from lOk_no (by unfold LOk; dsimp only; omega))
          obtain ⟨bi, hbi⟩ : ∃ bi : Bool, inB a1 0 pi = bi := ⟨_, rfl⟩
          have KA : Hid (∀ V, Calls Try.prog 122 #[.int .i64 a1, .int .i64 0, .int .i64 pi] V fun e w2 => e = .returned (.bool bi) ∧ V = w2) := Lib.hid fun V => by have := l1In_any a1 0 pi V; rwa [hbi] at this
          clear hbi
          have HE := Lib.hid (HF.out (scOk_bad HX.out HE0.out))
          clear HE0
          go_wp2_with (go_at_call 122; refine (KA.out _).mono ?_; rintro e w2 ⟨rfl, rfl⟩)
          go_ret
          exact ⟨by rw [HE.out]; rfl, bb⟩
        by_cases g1 : b1 = 0
        rotate_left
        · subst g0
          have HE0 := Lib.hid (show lOk ((1, 0, b1, t1) : Ln) (pi + 1) = false from lOk_no (by unfold LOk; dsimp only; omega))
          obtain ⟨bi, hbi⟩ : ∃ bi : Bool, inB 0 0 pi = bi := ⟨_, rfl⟩
          have KA : Hid (∀ V, Calls Try.prog 122 #[.int .i64 0, .int .i64 0, .int .i64 pi] V fun e w2 => e = .returned (.bool bi) ∧ V = w2) := Lib.hid fun V => by have := l1In_any 0 0 pi V; rwa [hbi] at this
          clear hbi
          have HE := Lib.hid (HF.out (scOk_bad HX.out HE0.out))
          clear HE0
          go_wp2_with (go_at_call 122; refine (KA.out _).mono ?_; rintro e w2 ⟨rfl, rfl⟩)
          go_ret
          exact ⟨by rw [HE.out]; rfl, bb⟩
        by_cases g2 : t1.size ≤ 8
        rotate_left
        · subst g0
          subst g1
          have gx : decide ((t1.size : Int) ≤ 8) = false := decide_eq_false (by omega)
          have HE0 := Lib.hid (show lOk ((1, 0, 0, t1) : Ln) (pi + 1) = false from lOk_no (by unfold LOk; dsimp only; omega))
          obtain ⟨bi, hbi⟩ : ∃ bi : Bool, inB 0 0 pi = bi := ⟨_, rfl⟩
          have KA : Hid (∀ V, Calls Try.prog 122 #[.int .i64 0, .int .i64 0, .int .i64 pi] V fun e w2 => e = .returned (.bool bi) ∧ V = w2) := Lib.hid fun V => by have := l1In_any 0 0 pi V; rwa [hbi] at this
          clear hbi
          have HE := Lib.hid (HF.out (scOk_bad HX.out HE0.out))
          clear HE0
          go_wp2_with (go_at_call 122; refine (KA.out _).mono ?_; rintro e w2 ⟨rfl, rfl⟩)
          go_ret
          exact ⟨by rw [HE.out]; rfl, bb⟩
        subst g0
        subst g1
        have gx : (t1.size : Int) ≤ 8 := by omega
        have HE0 := Lib.hid (show lOk ((1, 0, 0, t1) : Ln) (pi + 1) = true from lOk_yes (by unfold LOk; dsimp only; omega))
        obtain ⟨bi, hbi⟩ : ∃ bi : Bool, inB 0 0 pi = bi := ⟨_, rfl⟩
        have KA : Hid (∀ V, Calls Try.prog 122 #[.int .i64 0, .int .i64 0, .int .i64 pi] V fun e w2 => e = .returned (.bool bi) ∧ V = w2) := Lib.hid fun V => by have := l1In_any 0 0 pi V; rwa [hbi] at this
        clear hbi
        have HN := Lib.hid (all_next HX.out HE0.out HA.out)
        clear HE0
        go_wp2_with (go_at_call 122; refine (KA.out _).mono ?_; rintro e w2 ⟨rfl, rfl⟩)
        go_roundw
        case rel => exact ⟨k + 1, by omega, by go_num, HN.out, bb⟩
        case measure => simp [intOf]; omega
      by_cases k2 : x = 2
      · subst k2
        by_cases g0 : 0 ≤ a1
        rotate_left
        · have HE0 := Lib.hid (show lOk ((2, a1, b1, t1) : Ln) (pi + 1) = false from lOk_no (by unfold LOk; dsimp only; omega))
          have KA : Hid (∀ V, Calls Try.prog 122 #[.int .i64 a1, .int .i64 0, .int .i64 pi] V fun e w2 => e = .returned (.bool false) ∧ V = w2) := Lib.hid fun V => by have := l1In_any a1 0 pi V; rwa [inB_no (by omega)] at this
          have HE := Lib.hid (HF.out (scOk_bad HX.out HE0.out))
          clear HE0
          go_wp2_with (go_at_call 122; refine (KA.out _).mono ?_; rintro e w2 ⟨rfl, rfl⟩)
          go_ret
          exact ⟨by rw [HE.out]; rfl, bb⟩
        by_cases g1 : a1 < pi + 1
        rotate_left
        · have HE0 := Lib.hid (show lOk ((2, a1, b1, t1) : Ln) (pi + 1) = false from lOk_no (by unfold LOk; dsimp only; omega))
          have KA : Hid (∀ V, Calls Try.prog 122 #[.int .i64 a1, .int .i64 0, .int .i64 pi] V fun e w2 => e = .returned (.bool false) ∧ V = w2) := Lib.hid fun V => by have := l1In_any a1 0 pi V; rwa [inB_no (by omega)] at this
          have HE := Lib.hid (HF.out (scOk_bad HX.out HE0.out))
          clear HE0
          go_wp2_with (go_at_call 122; refine (KA.out _).mono ?_; rintro e w2 ⟨rfl, rfl⟩)
          go_ret
          exact ⟨by rw [HE.out]; rfl, bb⟩
        by_cases g2 : 1 ≤ b1
        rotate_left
        · have HE0 := Lib.hid (show lOk ((2, a1, b1, t1) : Ln) (pi + 1) = false from lOk_no (by unfold LOk; dsimp only; omega))
          have KA : Hid (∀ V, Calls Try.prog 122 #[.int .i64 a1, .int .i64 0, .int .i64 pi] V fun e w2 => e = .returned (.bool true) ∧ V = w2) := Lib.hid fun V => by have := l1In_any a1 0 pi V; rwa [inB_yes (by omega)] at this
          have KB : Hid (∀ V, Calls Try.prog 122 #[.int .i64 b1, .int .i64 1, .int .i64 10] V fun e w2 => e = .returned (.bool false) ∧ V = w2) := Lib.hid fun V => by have := l1In_any b1 1 10 V; rwa [inB_no (by omega)] at this
          have HE := Lib.hid (HF.out (scOk_bad HX.out HE0.out))
          clear HE0
          go_wp2_with (go_at_call 122; first | (with_reducible refine (KA.out _).mono ?_; rintro e w2 ⟨rfl, rfl⟩) | (with_reducible refine (KB.out _).mono ?_; rintro e w2 ⟨rfl, rfl⟩))
          go_ret
          exact ⟨by rw [HE.out]; rfl, bb⟩
        by_cases g3 : b1 ≤ 10
        rotate_left
        · have HE0 := Lib.hid (show lOk ((2, a1, b1, t1) : Ln) (pi + 1) = false from lOk_no (by unfold LOk; dsimp only; omega))
          have KA : Hid (∀ V, Calls Try.prog 122 #[.int .i64 a1, .int .i64 0, .int .i64 pi] V fun e w2 => e = .returned (.bool true) ∧ V = w2) := Lib.hid fun V => by have := l1In_any a1 0 pi V; rwa [inB_yes (by omega)] at this
          have KB : Hid (∀ V, Calls Try.prog 122 #[.int .i64 b1, .int .i64 1, .int .i64 10] V fun e w2 => e = .returned (.bool false) ∧ V = w2) := Lib.hid fun V => by have := l1In_any b1 1 10 V; rwa [inB_no (by omega)] at this
          have HE := Lib.hid (HF.out (scOk_bad HX.out HE0.out))
          clear HE0
          go_wp2_with (go_at_call 122; first | (with_reducible refine (KA.out _).mono ?_; rintro e w2 ⟨rfl, rfl⟩) | (with_reducible refine (KB.out _).mono ?_; rintro e w2 ⟨rfl, rfl⟩))
          go_ret
          exact ⟨by rw [HE.out]; rfl, bb⟩
        by_cases g4 : t1.size = 0
        rotate_left
        · have hT := text_ne g4
          have HE0 := Lib.hid (show lOk ((2, a1, b1, t1) : Ln) (pi + 1) = false from lOk_no (by unfold LOk; dsimp only; omega))
          have KA : Hid (∀ V, Calls Try.prog 122 #[.int .i64 a1, .int .i64 0, .int .i64 pi] V fun e w2 => e = .returned (.bool true) ∧ V = w2) := Lib.hid fun V => by have := l1In_any a1 0 pi V; rwa [inB_yes (by omega)] at this
          have KB : Hid (∀ V, Calls Try.prog 122 #[.int .i64 b1, .int .i64 1, .int .i64 10] V fun e w2 => e = .returned (.bool true) ∧ V = w2) := Lib.hid fun V => by have := l1In_any b1 1 10 V; rwa [inB_yes (by omega)] at this
          have HE := Lib.hid (HF.out (scOk_bad HX.out HE0.out))
          clear HE0
          go_wp2_with (go_at_call 122; first | (with_reducible refine (KA.out _).mono ?_; rintro e w2 ⟨rfl, rfl⟩) | (with_reducible refine (KB.out _).mono ?_; rintro e w2 ⟨rfl, rfl⟩))
          go_ret
          exact ⟨by rw [HE.out]; rfl, bb⟩
        obtain rfl := text_nil g4
        have HE0 := Lib.hid (show lOk ((2, a1, b1, ⟨#[]⟩) : Ln) (pi + 1) = true from lOk_yes (by unfold LOk; dsimp only; omega))
        have KA : Hid (∀ V, Calls Try.prog 122 #[.int .i64 a1, .int .i64 0, .int .i64 pi] V fun e w2 => e = .returned (.bool true) ∧ V = w2) := Lib.hid fun V => by have := l1In_any a1 0 pi V; rwa [inB_yes (by omega)] at this
        have KB : Hid (∀ V, Calls Try.prog 122 #[.int .i64 b1, .int .i64 1, .int .i64 10] V fun e w2 => e = .returned (.bool true) ∧ V = w2) := Lib.hid fun V => by have := l1In_any b1 1 10 V; rwa [inB_yes (by omega)] at this
        have HN := Lib.hid (all_next HX.out HE0.out HA.out)
        clear HE0
        go_wp2_with (go_at_call 122; first | (with_reducible refine (KA.out _).mono ?_; rintro e w2 ⟨rfl, rfl⟩) | (with_reducible refine (KB.out _).mono ?_; rintro e w2 ⟨rfl, rfl⟩))
        go_roundw
        case rel => exact ⟨k + 1, by omega, by go_num, HN.out, bb⟩
        case measure => simp [intOf]; omega
      by_cases k3 : x = 3
      · subst k3
        by_cases g0 : a1 = 0
        rotate_left
        · have HE0 := Lib.hid (show lOk ((3, a1, b1, t1) : Ln) (pi + 1) = false from lOk_no (by unfold LOk; dsimp only; omega))
          obtain ⟨bi, hbi⟩ : ∃ bi : Bool, inB a1 0 pi = bi := ⟨_, rfl⟩
          have KA : Hid (∀ V, Calls Try.prog 122 #[.int .i64 a1, .int .i64 0, .int .i64 pi] V fun e w2 => e = .returned (.bool bi) ∧ V = w2) := Lib.hid fun V => by have := l1In_any a1 0 pi V; rwa [hbi] at this
          clear hbi
          have HE := Lib.hid (HF.out (scOk_bad HX.out HE0.out))
          clear HE0
          go_wp2_with (go_at_call 122; refine (KA.out _).mono ?_; rintro e w2 ⟨rfl, rfl⟩)
          go_ret
          exact ⟨by rw [HE.out]; rfl, bb⟩
        by_cases g1 : b1 = 0
        rotate_left
        · subst g0
          have HE0 := Lib.hid (show lOk ((3, 0, b1, t1) : Ln) (pi + 1) = false from lOk_no (by unfold LOk; dsimp only; omega))
          obtain ⟨bi, hbi⟩ : ∃ bi : Bool, inB 0 0 pi = bi := ⟨_, rfl⟩
          have KA : Hid (∀ V, Calls Try.prog 122 #[.int .i64 0, .int .i64 0, .int .i64 pi] V fun e w2 => e = .returned (.bool bi) ∧ V = w2) := Lib.hid fun V => by have := l1In_any 0 0 pi V; rwa [hbi] at this
          clear hbi
          have HE := Lib.hid (HF.out (scOk_bad HX.out HE0.out))
          clear HE0
          go_wp2_with (go_at_call 122; refine (KA.out _).mono ?_; rintro e w2 ⟨rfl, rfl⟩)
          go_ret
          exact ⟨by rw [HE.out]; rfl, bb⟩
        by_cases g2 : t1.size = 0
        rotate_left
        · subst g0
          subst g1
          have hT := text_ne g2
          have HE0 := Lib.hid (show lOk ((3, 0, 0, t1) : Ln) (pi + 1) = false from lOk_no (by unfold LOk; dsimp only; omega))
          obtain ⟨bi, hbi⟩ : ∃ bi : Bool, inB 0 0 pi = bi := ⟨_, rfl⟩
          have KA : Hid (∀ V, Calls Try.prog 122 #[.int .i64 0, .int .i64 0, .int .i64 pi] V fun e w2 => e = .returned (.bool bi) ∧ V = w2) := Lib.hid fun V => by have := l1In_any 0 0 pi V; rwa [hbi] at this
          clear hbi
          have HE := Lib.hid (HF.out (scOk_bad HX.out HE0.out))
          clear HE0
          go_wp2_with (go_at_call 122; refine (KA.out _).mono ?_; rintro e w2 ⟨rfl, rfl⟩)
          go_ret
          exact ⟨by rw [HE.out]; rfl, bb⟩
        subst g0
        subst g1
        obtain rfl := text_nil g2
        have HE0 := Lib.hid (show lOk ((3, 0, 0, ⟨#[]⟩) : Ln) (pi + 1) = true from lOk_yes (by unfold LOk; dsimp only; omega))
        obtain ⟨bi, hbi⟩ : ∃ bi : Bool, inB 0 0 pi = bi := ⟨_, rfl⟩
        have KA : Hid (∀ V, Calls Try.prog 122 #[.int .i64 0, .int .i64 0, .int .i64 pi] V fun e w2 => e = .returned (.bool bi) ∧ V = w2) := Lib.hid fun V => by have := l1In_any 0 0 pi V; rwa [hbi] at this
        clear hbi
        have HN := Lib.hid (all_next HX.out HE0.out HA.out)
        clear HE0
        go_wp2_with (go_at_call 122; refine (KA.out _).mono ?_; rintro e w2 ⟨rfl, rfl⟩)
        go_roundw
        case rel => exact ⟨k + 1, by omega, by go_num, HN.out, bb⟩
        case measure => simp [intOf]; omega
      by_cases k4 : x = 4
      · subst k4
        by_cases g0 : 0 ≤ a1
        rotate_left
        · have HE0 := Lib.hid (show lOk ((4, a1, b1, t1) : Ln) (pi + 1) = false from lOk_no (by unfold LOk; dsimp only; omega))
          obtain ⟨bi, hbi⟩ : ∃ bi : Bool, inB a1 0 pi = bi := ⟨_, rfl⟩
          have KA : Hid (∀ V, Calls Try.prog 122 #[.int .i64 a1, .int .i64 0, .int .i64 pi] V fun e w2 => e = .returned (.bool bi) ∧ V = w2) := Lib.hid fun V => by have := l1In_any a1 0 pi V; rwa [hbi] at this
          clear hbi
          have KB : Hid (∀ V, Calls Try.prog 122 #[.int .i64 a1, .int .i64 0, .int .i64 40] V fun e w2 => e = .returned (.bool false) ∧ V = w2) := Lib.hid fun V => by have := l1In_any a1 0 40 V; rwa [inB_no (by omega)] at this
          have HE := Lib.hid (HF.out (scOk_bad HX.out HE0.out))
          clear HE0
          go_wp2_with (go_at_call 122; first | (with_reducible refine (KA.out _).mono ?_; rintro e w2 ⟨rfl, rfl⟩) | (with_reducible refine (KB.out _).mono ?_; rintro e w2 ⟨rfl, rfl⟩))
          go_ret
          exact ⟨by rw [HE.out]; rfl, bb⟩
        by_cases g1 : a1 ≤ 40
        rotate_left
        · have HE0 := Lib.hid (show lOk ((4, a1, b1, t1) : Ln) (pi + 1) = false from lOk_no (by unfold LOk; dsimp only; omega))
          obtain ⟨bi, hbi⟩ : ∃ bi : Bool, inB a1 0 pi = bi := ⟨_, rfl⟩
          have KA : Hid (∀ V, Calls Try.prog 122 #[.int .i64 a1, .int .i64 0, .int .i64 pi] V fun e w2 => e = .returned (.bool bi) ∧ V = w2) := Lib.hid fun V => by have := l1In_any a1 0 pi V; rwa [hbi] at this
          clear hbi
          have KB : Hid (∀ V, Calls Try.prog 122 #[.int .i64 a1, .int .i64 0, .int .i64 40] V fun e w2 => e = .returned (.bool false) ∧ V = w2) := Lib.hid fun V => by have := l1In_any a1 0 40 V; rwa [inB_no (by omega)] at this
          have HE := Lib.hid (HF.out (scOk_bad HX.out HE0.out))
          clear HE0
          go_wp2_with (go_at_call 122; first | (with_reducible refine (KA.out _).mono ?_; rintro e w2 ⟨rfl, rfl⟩) | (with_reducible refine (KB.out _).mono ?_; rintro e w2 ⟨rfl, rfl⟩))
          go_ret
          exact ⟨by rw [HE.out]; rfl, bb⟩
        by_cases g2 : b1 = 0
        rotate_left
        · have HE0 := Lib.hid (show lOk ((4, a1, b1, t1) : Ln) (pi + 1) = false from lOk_no (by unfold LOk; dsimp only; omega))
          obtain ⟨bi, hbi⟩ : ∃ bi : Bool, inB a1 0 pi = bi := ⟨_, rfl⟩
          have KA : Hid (∀ V, Calls Try.prog 122 #[.int .i64 a1, .int .i64 0, .int .i64 pi] V fun e w2 => e = .returned (.bool bi) ∧ V = w2) := Lib.hid fun V => by have := l1In_any a1 0 pi V; rwa [hbi] at this
          clear hbi
          have KB : Hid (∀ V, Calls Try.prog 122 #[.int .i64 a1, .int .i64 0, .int .i64 40] V fun e w2 => e = .returned (.bool true) ∧ V = w2) := Lib.hid fun V => by have := l1In_any a1 0 40 V; rwa [inB_yes (by omega)] at this
          have HE := Lib.hid (HF.out (scOk_bad HX.out HE0.out))
          clear HE0
          go_wp2_with (go_at_call 122; first | (with_reducible refine (KA.out _).mono ?_; rintro e w2 ⟨rfl, rfl⟩) | (with_reducible refine (KB.out _).mono ?_; rintro e w2 ⟨rfl, rfl⟩))
          go_ret
          exact ⟨by rw [HE.out]; rfl, bb⟩
        by_cases g3 : t1.size = 0
        rotate_left
        · subst g2
          have hT := text_ne g3
          have HE0 := Lib.hid (show lOk ((4, a1, 0, t1) : Ln) (pi + 1) = false from lOk_no (by unfold LOk; dsimp only; omega))
          obtain ⟨bi, hbi⟩ : ∃ bi : Bool, inB a1 0 pi = bi := ⟨_, rfl⟩
          have KA : Hid (∀ V, Calls Try.prog 122 #[.int .i64 a1, .int .i64 0, .int .i64 pi] V fun e w2 => e = .returned (.bool bi) ∧ V = w2) := Lib.hid fun V => by have := l1In_any a1 0 pi V; rwa [hbi] at this
          clear hbi
          have KB : Hid (∀ V, Calls Try.prog 122 #[.int .i64 a1, .int .i64 0, .int .i64 40] V fun e w2 => e = .returned (.bool true) ∧ V = w2) := Lib.hid fun V => by have := l1In_any a1 0 40 V; rwa [inB_yes (by omega)] at this
          have HE := Lib.hid (HF.out (scOk_bad HX.out HE0.out))
          clear HE0
          go_wp2_with (go_at_call 122; first | (with_reducible refine (KA.out _).mono ?_; rintro e w2 ⟨rfl, rfl⟩) | (with_reducible refine (KB.out _).mono ?_; rintro e w2 ⟨rfl, rfl⟩))
          go_ret
          exact ⟨by rw [HE.out]; rfl, bb⟩
        subst g2
        obtain rfl := text_nil g3
        have HE0 := Lib.hid (show lOk ((4, a1, 0, ⟨#[]⟩) : Ln) (pi + 1) = true from lOk_yes (by unfold LOk; dsimp only; omega))
        obtain ⟨bi, hbi⟩ : ∃ bi : Bool, inB a1 0 pi = bi := ⟨_, rfl⟩
        have KA : Hid (∀ V, Calls Try.prog 122 #[.int .i64 a1, .int .i64 0, .int .i64 pi] V fun e w2 => e = .returned (.bool bi) ∧ V = w2) := Lib.hid fun V => by have := l1In_any a1 0 pi V; rwa [hbi] at this
        clear hbi
        have KB : Hid (∀ V, Calls Try.prog 122 #[.int .i64 a1, .int .i64 0, .int .i64 40] V fun e w2 => e = .returned (.bool true) ∧ V = w2) := Lib.hid fun V => by have := l1In_any a1 0 40 V; rwa [inB_yes (by omega)] at this
        have HN := Lib.hid (all_next HX.out HE0.out HA.out)
        clear HE0
        go_wp2_with (go_at_call 122; first | (with_reducible refine (KA.out _).mono ?_; rintro e w2 ⟨rfl, rfl⟩) | (with_reducible refine (KB.out _).mono ?_; rintro e w2 ⟨rfl, rfl⟩))
        go_roundw
        case rel => exact ⟨k + 1, by omega, by go_num, HN.out, bb⟩
        case measure => simp [intOf]; omega
      by_cases k5 : x = 5
      · subst k5
        by_cases g0 : 0 ≤ a1
        rotate_left
        · have HE0 := Lib.hid (show lOk ((5, a1, b1, t1) : Ln) (pi + 1) = false from lOk_no (by unfold LOk; dsimp only; omega))
          have KA : Hid (∀ V, Calls Try.prog 122 #[.int .i64 a1, .int .i64 0, .int .i64 pi] V fun e w2 => e = .returned (.bool false) ∧ V = w2) := Lib.hid fun V => by have := l1In_any a1 0 pi V; rwa [inB_no (by omega)] at this
          have HE := Lib.hid (HF.out (scOk_bad HX.out HE0.out))
          clear HE0
          go_wp2_with (go_at_call 122; refine (KA.out _).mono ?_; rintro e w2 ⟨rfl, rfl⟩)
          go_ret
          exact ⟨by rw [HE.out]; rfl, bb⟩
        by_cases g1 : a1 < pi + 1
        rotate_left
        · have HE0 := Lib.hid (show lOk ((5, a1, b1, t1) : Ln) (pi + 1) = false from lOk_no (by unfold LOk; dsimp only; omega))
          have KA : Hid (∀ V, Calls Try.prog 122 #[.int .i64 a1, .int .i64 0, .int .i64 pi] V fun e w2 => e = .returned (.bool false) ∧ V = w2) := Lib.hid fun V => by have := l1In_any a1 0 pi V; rwa [inB_no (by omega)] at this
          have HE := Lib.hid (HF.out (scOk_bad HX.out HE0.out))
          clear HE0
          go_wp2_with (go_at_call 122; refine (KA.out _).mono ?_; rintro e w2 ⟨rfl, rfl⟩)
          go_ret
          exact ⟨by rw [HE.out]; rfl, bb⟩
        by_cases g2 : b1 = 0
        rotate_left
        · have HE0 := Lib.hid (show lOk ((5, a1, b1, t1) : Ln) (pi + 1) = false from lOk_no (by unfold LOk; dsimp only; omega))
          have KA : Hid (∀ V, Calls Try.prog 122 #[.int .i64 a1, .int .i64 0, .int .i64 pi] V fun e w2 => e = .returned (.bool true) ∧ V = w2) := Lib.hid fun V => by have := l1In_any a1 0 pi V; rwa [inB_yes (by omega)] at this
          have HE := Lib.hid (HF.out (scOk_bad HX.out HE0.out))
          clear HE0
          go_wp2_with (go_at_call 122; refine (KA.out _).mono ?_; rintro e w2 ⟨rfl, rfl⟩)
          go_ret
          exact ⟨by rw [HE.out]; rfl, bb⟩
        by_cases g3 : t1.size = 0
        rotate_left
        · subst g2
          have hT := text_ne g3
          have HE0 := Lib.hid (show lOk ((5, a1, 0, t1) : Ln) (pi + 1) = false from lOk_no (by unfold LOk; dsimp only; omega))
          have KA : Hid (∀ V, Calls Try.prog 122 #[.int .i64 a1, .int .i64 0, .int .i64 pi] V fun e w2 => e = .returned (.bool true) ∧ V = w2) := Lib.hid fun V => by have := l1In_any a1 0 pi V; rwa [inB_yes (by omega)] at this
          have HE := Lib.hid (HF.out (scOk_bad HX.out HE0.out))
          clear HE0
          go_wp2_with (go_at_call 122; refine (KA.out _).mono ?_; rintro e w2 ⟨rfl, rfl⟩)
          go_ret
          exact ⟨by rw [HE.out]; rfl, bb⟩
        subst g2
        obtain rfl := text_nil g3
        have HE0 := Lib.hid (show lOk ((5, a1, 0, ⟨#[]⟩) : Ln) (pi + 1) = true from lOk_yes (by unfold LOk; dsimp only; omega))
        have KA : Hid (∀ V, Calls Try.prog 122 #[.int .i64 a1, .int .i64 0, .int .i64 pi] V fun e w2 => e = .returned (.bool true) ∧ V = w2) := Lib.hid fun V => by have := l1In_any a1 0 pi V; rwa [inB_yes (by omega)] at this
        have HN := Lib.hid (all_next HX.out HE0.out HA.out)
        clear HE0
        go_wp2_with (go_at_call 122; refine (KA.out _).mono ?_; rintro e w2 ⟨rfl, rfl⟩)
        go_roundw
        case rel => exact ⟨k + 1, by omega, by go_num, HN.out, bb⟩
        case measure => simp [intOf]; omega
      have HE0 := Lib.hid (show lOk ((x, a1, b1, t1) : Ln) (pi + 1) = false from lOk_no (by unfold LOk; dsimp only; omega))
      obtain ⟨bi, hbi⟩ : ∃ bi : Bool, inB a1 0 pi = bi := ⟨_, rfl⟩
      have KA : Hid (∀ V, Calls Try.prog 122 #[.int .i64 a1, .int .i64 0, .int .i64 pi] V fun e w2 => e = .returned (.bool bi) ∧ V = w2) := Lib.hid fun V => by have := l1In_any a1 0 pi V; rwa [hbi] at this
      clear hbi
      have HE := Lib.hid (HF.out (scOk_bad HX.out HE0.out))
      clear HE0
      go_wp2_with (go_at_call 122; refine (KA.out _).mono ?_; rintro e w2 ⟨rfl, rfl⟩)
      go_ret
      exact ⟨by rw [HE.out]; rfl, bb⟩
    · obtain rfl : k = S.length := by omega
      have HE := Lib.hid (HT.out HA.out)
      by_cases g0 : S.length ≤ 10
      · have gI : (S.length : Int) ≤ 10 := by omega
        have KA : Hid (∀ V, Calls Try.prog 122 #[.int .i64 ins, .int .i64 0, .int .i64 5] V fun e w2 => e = .returned (.bool (inB ins 0 5)) ∧ V = w2) := Lib.hid fun V => l1In_any ins 0 5 V
        have HB := Lib.hid (show scOk S ins = inB ins 0 5 by
          rw [HE.out, decide_eq_true g0, Bool.true_and]
          by_cases g : 0 ≤ ins ∧ ins ≤ 5
          · rw [decide_eq_true g, inB_yes g]
          · rw [decide_eq_false g, inB_no g])
        generalize inB ins 0 5 = bz at *
        go_wp2_with (go_at_call 122; refine (KA.out _).mono ?_; rintro e w2 ⟨rfl, rfl⟩)
        go_ret
        exact ⟨by rw [HB.out]; rfl, hb⟩
      · have gI : ¬ (S.length : Int) ≤ 10 := by omega
        have HB := Lib.hid (show scOk S ins = false from scOk_long (by omega))
        go_wp2_with fail
        go_ret
        exact ⟨by rw [HB.out]; rfl, hb⟩

theorem thOk_long {N : List ByteArray} (h : 5 < N.length) : thOk N = false := by
  have : decide (N.length ≤ 5) = false := decide_eq_false (by omega)
  simp [thOk, this]
theorem thOk_bad {N : List ByteArray} {k : Nat} {x : ByteArray} (hx : N[k]? = some x) (h : 40 < x.size) : thOk N = false := by
  have : (N.all fun x => decide (x.size ≤ 40)) = false := by
    rw [← Bool.not_eq_true, List.all_eq_true]
    intro e
    have := e x (List.mem_of_getElem? hx)
    simp at this
    omega
  simp [thOk, this]
theorem th_next {N : List ByteArray} {k : Nat} {x : ByteArray} (hx : N[k]? = some x) (h : x.size ≤ 40) (ha : (N.take k).all (fun x => decide (x.size ≤ 40)) = true) : (N.take (k + 1)).all (fun x => decide (x.size ≤ 40)) = true := by
  rw [List.take_add_one, hx]
  simp only [List.all_append, ha, Bool.true_and]
  simp [h]
theorem thOk_all {N : List ByteArray} (ha : (N.take N.length).all (fun x => decide (x.size ≤ 40)) = true) : thOk N = decide (N.length ≤ 5) := by
  rw [List.take_length] at ha
  simp only [thOk, ha, Bool.and_true]

end Rx
end Go.Proofs.Ytopplljilmjjgaa

/- The contract of the program's VersionFrom over this seat's translation: it answers with the version whose text the text is, and true, or with the zero value and false; nothing that was there before the call has changed. Condition: the text has less than 2147483648 bytes. -/
import Derived.Test.YtenfdbikgpppdaaVnum
namespace Go.Proofs.Ytenfdbikgpppdaa
open Go.RowKit Go.Sort

/-- What VersionFrom answers: a version and true, or the zero value and false. -/
def ans : Option (Int × Int × Int × Int) → Value
  | some v => .tuple #[ver v.1 v.2.1 v.2.2.1 v.2.2.2, .bool true]
  | none => .tuple #[ver 0 0 0 0, .bool false]

theorem vOk_okB (a b c d : Int) : vOk a b c d = Parse.okB a b c d := by
  rw [Bool.eq_iff_iff, vOk_iff, Parse.okB_iff]
  rfl

theorem nt_text (n : Int) : (nt n).data.toList = Parse.text n := by
  unfold nt Parse.text
  split
  · rfl
  · rw [ByteArray.data_append]
    simp [dg, Parse.digit]

theorem vText_full {a b c d : Int} (h : vOk a b c d = true) : (vText a b c d).data.toList = Parse.full a b c d := by
  unfold vText
  rw [if_pos h]
  unfold txt core Parse.full
  split <;> simp [ByteArray.data_append, nt_text]

theorem at_bounds (l : List UInt8) (i : Nat) : 0 ≤ (Parse.at_ l i).1 ∧ (Parse.at_ l i).1 ≤ 99 ∧ (Parse.at_ l i).2 ≤ i + 2 := by
  have h := Parse.lead_range (l.drop i)
  unfold Parse.at_
  refine ⟨h.1, h.2.1, ?_⟩
  simp only
  omega

theorem olds {B : Nat} {W V : World} (hb : Below B W V) : (∀ b o, b < B → V.cell? ⟨b, o, none⟩ = W.cell? ⟨b, o, none⟩) ∧ ∀ b o, b < B → V.frozen? ⟨b, o, none⟩ = W.frozen? ⟨b, o, none⟩ :=
  ⟨fun b o h => hb.cell (p := ⟨b, o, none⟩) h, fun b o h => hb.frozen (p := ⟨b, o, none⟩) h⟩

set_option maxHeartbeats 1000000 in
theorem implFrom_big (s : ByteArray) (w : World) (hs : s.size ≤ 2147483647) :
    Calls Try.prog 29 #[.string s] w fun e w' => e = .returned (ans (Parse.im s.data.toList)) ∧ Below w.heap.size w w' := by
  obtain ⟨a, ka, ea⟩ : ∃ a ka, Parse.at_ s.data.toList 0 = (a, ka) := ⟨_, _, rfl⟩
  obtain ⟨b, kb, eb⟩ : ∃ b kb, Parse.at_ s.data.toList (ka + 1) = (b, kb) := ⟨_, _, rfl⟩
  obtain ⟨c, kc, ec⟩ : ∃ c kc, Parse.at_ s.data.toList (kb + 1) = (c, kc) := ⟨_, _, rfl⟩
  obtain ⟨d, kd, ed⟩ : ∃ d kd, Parse.at_ s.data.toList (kc + 1) = (d, kd) := ⟨_, _, rfl⟩
  have hrd : Parse.rd s.data.toList = (a, b, c, d) := by unfold Parse.rd; simp only [ea, eb, ec, ed]
  have ba := at_bounds s.data.toList 0; rw [ea] at ba; simp only at ba
  have bb := at_bounds s.data.toList (ka + 1); rw [eb] at bb; simp only at bb
  have bc := at_bounds s.data.toList (kb + 1); rw [ec] at bc; simp only at bc
  have bd := at_bounds s.data.toList (kc + 1); rw [ed] at bd; simp only at bd
  have K1 : Hid (∀ V, Calls Try.prog 52 #[.string s, .int .i64 0] V fun e w' => e = .returned (.tuple #[.int .i64 a, .int .i64 (ka : Int)]) ∧ V = w') :=
    Lib.hid fun V => by have := numberAt_any s 0 V hs (by omega); rw [ea] at this; exact this
  have K2 : Hid (∀ V, Calls Try.prog 52 #[.string s, .int .i64 ((ka : Int) + 1)] V fun e w' => e = .returned (.tuple #[.int .i64 b, .int .i64 (kb : Int)]) ∧ V = w') :=
    Lib.hid fun V => by have := numberAt_any s (ka + 1) V hs (by omega); rw [eb] at this; exact this
  have K3 : Hid (∀ V, Calls Try.prog 52 #[.string s, .int .i64 ((kb : Int) + 1)] V fun e w' => e = .returned (.tuple #[.int .i64 c, .int .i64 (kc : Int)]) ∧ V = w') :=
    Lib.hid fun V => by have := numberAt_any s (kb + 1) V hs (by omega); rw [ec] at this; exact this
  have K4 : Hid (∀ V, Calls Try.prog 52 #[.string s, .int .i64 ((kc : Int) + 1)] V fun e w' => e = .returned (.tuple #[.int .i64 d, .int .i64 (kd : Int)]) ∧ V = w') :=
    Lib.hid fun V => by have := numberAt_any s (kc + 1) V hs (by omega); rw [ed] at this; exact this
  clear ea eb ec ed
  have hB : w.heap.size + 2 ≤ ((w.alloc (.cells #[.int .i64 0, .int .i64 0, .int .i64 0, .int .i64 0] 47)).alloc (.cells #[.int .i64 a, .int .i64 b, .int .i64 c, .int .i64 d] 47)).heap.size := by simp
  have hb0 := Below.refl (w.heap.size + 2) ((w.alloc (.cells #[.int .i64 0, .int .i64 0, .int .i64 0, .int .i64 0] 47)).alloc (.cells #[.int .i64 a, .int .i64 b, .int .i64 c, .int .i64 d] 47))
  rcases hk : vOk a b c d
  · have H := Lib.hid (show Parse.im s.data.toList = none by unfold Parse.im; simp only [hrd]; rw [← vOk_okB, hk]; simp)
    clear hrd
    go_enter Try.func29, Try.ntmps29
    go_wp2_with fail
    refine (K1.out _).mono ?_
    rintro e w' ⟨rfl, rfl⟩
    go_wp2_with fail
    refine (K2.out _).mono ?_
    rintro e w' ⟨rfl, rfl⟩
    go_wp2_with fail
    refine (K3.out _).mono ?_
    rintro e w' ⟨rfl, rfl⟩
    go_wp2_with fail
    refine (K4.out _).mono ?_
    rintro e w' ⟨rfl, rfl⟩
    go_wp2_with (go_at_call 50; refine (rel hB hb0 (implOk_any _ _ _ _ _)).mono ?_; clear hb0; rintro e w1 ⟨rfl, hb⟩; obtain ⟨hc, hf⟩ := olds hb)
    have hbw := ((((Below.refl _ w).alloc (Nat.le_refl _) (.cells #[.int .i64 0, .int .i64 0, .int .i64 0, .int .i64 0] 47)).alloc (by simp) (.cells #[.int .i64 a, .int .i64 b, .int .i64 c, .int .i64 d] 47))).trans (hb.mono (by omega))
    exact bodyPost_ret (v := .tuple #[ver 0 0 0 0, .bool false]) (by simp [results, Try.results29, go_sem, hc]) rfl ⟨by rw [H.out]; rfl, by repeat (first | exact hbw | refine Below.setCell ?_ (by simp) _)⟩
  by_cases ht : Parse.full a b c d = s.data.toList
  · have H := Lib.hid (show Parse.im s.data.toList = some (a, b, c, d) by unfold Parse.im; simp only [hrd]; rw [← vOk_okB, hk]; simp [ht])
    have hq : vText a b c d = s := ByteArray.ext (Array.toList_inj.1 ((vText_full hk).trans ht))
    have hne : ((vText a b c d).toList == s.toList) = true := by rw [hq]; simp
    clear hrd ht hq
    go_enter Try.func29, Try.ntmps29
    go_wp2_with fail
    refine (K1.out _).mono ?_
    rintro e w' ⟨rfl, rfl⟩
    go_wp2_with fail
    refine (K2.out _).mono ?_
    rintro e w' ⟨rfl, rfl⟩
    go_wp2_with fail
    refine (K3.out _).mono ?_
    rintro e w' ⟨rfl, rfl⟩
    go_wp2_with fail
    refine (K4.out _).mono ?_
    rintro e w' ⟨rfl, rfl⟩
    go_wp2_with (first | (go_at_call 50; refine (rel hB hb0 (implOk_any _ _ _ _ _)).mono ?_; clear hb0; rintro e w1 ⟨rfl, hb⟩; obtain ⟨hc, hf⟩ := olds hb) | (go_at_call 31; refine (rel hB hb (implText_any _ _ _ _ _)).mono ?_; clear hc hf hb; rintro e w1 ⟨rfl, hb⟩; obtain ⟨hc, hf⟩ := olds hb))
    have hbw := ((((Below.refl _ w).alloc (Nat.le_refl _) (.cells #[.int .i64 0, .int .i64 0, .int .i64 0, .int .i64 0] 47)).alloc (by simp) (.cells #[.int .i64 a, .int .i64 b, .int .i64 c, .int .i64 d] 47))).trans (hb.mono (by omega))
    exact bodyPost_ret (v := .tuple #[ver a b c d, .bool true]) (by simp [results, Try.results29, go_sem, hc]) rfl ⟨by rw [H.out]; rfl, by repeat (first | exact hbw | refine Below.setCell ?_ (by simp) _)⟩
  · have H := Lib.hid (show Parse.im s.data.toList = none by unfold Parse.im; simp only [hrd]; simp [ht])
    have hne : ((vText a b c d).toList == s.toList) = false := by rw [ByteArray.toList_eq, ByteArray.toList_eq, vText_full hk]; simp [ht]
    clear hrd ht
    go_enter Try.func29, Try.ntmps29
    go_wp2_with fail
    refine (K1.out _).mono ?_
    rintro e w' ⟨rfl, rfl⟩
    go_wp2_with fail
    refine (K2.out _).mono ?_
    rintro e w' ⟨rfl, rfl⟩
    go_wp2_with fail
    refine (K3.out _).mono ?_
    rintro e w' ⟨rfl, rfl⟩
    go_wp2_with fail
    refine (K4.out _).mono ?_
    rintro e w' ⟨rfl, rfl⟩
    go_wp2_with (first | (go_at_call 50; refine (rel hB hb0 (implOk_any _ _ _ _ _)).mono ?_; clear hb0; rintro e w1 ⟨rfl, hb⟩; obtain ⟨hc, hf⟩ := olds hb) | (go_at_call 31; refine (rel hB hb (implText_any _ _ _ _ _)).mono ?_; clear hc hf hb; rintro e w1 ⟨rfl, hb⟩; obtain ⟨hc, hf⟩ := olds hb))
    have hbw := ((((Below.refl _ w).alloc (Nat.le_refl _) (.cells #[.int .i64 0, .int .i64 0, .int .i64 0, .int .i64 0] 47)).alloc (by simp) (.cells #[.int .i64 a, .int .i64 b, .int .i64 c, .int .i64 d] 47))).trans (hb.mono (by omega))
    exact bodyPost_ret (v := .tuple #[ver 0 0 0 0, .bool false]) (by simp [results, Try.results29, go_sem, hc]) rfl ⟨by rw [H.out]; rfl, by repeat (first | exact hbw | refine Below.setCell ?_ (by simp) _)⟩

theorem implFrom_any (s : ByteArray) (w : World) (hs : s.size ≤ 1048576) :
    Calls Try.prog 29 #[.string s] w fun e w' => e = .returned (ans (Parse.im s.data.toList)) ∧ Below w.heap.size w w' := implFrom_big s w (by omega)

end Go.Proofs.Ytenfdbikgpppdaa

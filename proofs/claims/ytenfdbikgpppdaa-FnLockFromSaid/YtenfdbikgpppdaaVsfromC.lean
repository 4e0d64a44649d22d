/- The contract of the model's VersionFrom over this seat's translation: it answers with the version whose text the text is, and true, or with the zero value and false; nothing that was there before the call has changed. Condition: the text has at most 1048576 bytes. -/
import Derived.Test.YtenfdbikgpppdaaVsfromA
import Derived.Test.YtenfdbikgpppdaaVsfromB
namespace Go.Proofs.Ytenfdbikgpppdaa
open Go.RowKit Go.Sort

theorem ans_chk_no {a b c d : Int} (h : vOk a b c d = false) : ans (Parse.chk a b c d) = .tuple #[ver 0 0 0 0, .bool false] := by
  rw [vOk_okB] at h
  simp [Parse.chk, h, ans]
theorem ans_chk_yes {a b c d : Int} (h : vOk a b c d = true) : ans (Parse.chk a b c d) = .tuple #[ver a b c d, .bool true] := by
  rw [vOk_okB] at h
  simp [Parse.chk, h, ans]

theorem specFrom_big (s : ByteArray) (w : World) :
    Calls Try.prog 30 #[.string s] w fun e w' => e = .returned (ans (Parse.sp s.data.toList)) ∧ Below w.heap.size w w' := by
  have hl : s.data.toList.length = s.size := by simp
  by_cases h20 : 20 < s.size
  · have e : Parse.sp s.data.toList = none := by unfold Parse.sp; rw [if_pos (by omega)]
    rw [e]
    exact from_long s w h20
  have e : Parse.sp s.data.toList = Parse.sp1 (Parse.cut 45 s.data.toList) := by unfold Parse.sp; rw [if_neg (by omega)]
  rw [e]
  have K1 : ∀ V, Calls Try.prog 43 #[.string s, .int .u8 45] V (RowPost (Parse.cut 45 s.data.toList).length ((Parse.cut 45 s.data.toList).map strV) V) := fun V => cut_any s 45 V (by omega)
  have len1 := piece_len 45 s.data.toList
  match e1 : Parse.cut 45 s.data.toList with
  | [] => exact absurd e1 (Parse.cut_ne 45 _)
  | h :: hs =>
    rw [e1] at K1 len1
    have hh : h.length ≤ 1048576 := by have := len1 h (by simp); omega
    have K2 : ∀ V, Calls Try.prog 43 #[strV h, .int .u8 46] V (RowPost (Parse.cut 46 h).length ((Parse.cut 46 h).map strV) V) := fun V => strV_cut h 46 V hh
    have len2 := piece_len 46 h
    have big : hs.length + 1 ≤ 1048576 := by
      have := (cut_count 45 s.data.toList)
      rw [e1] at this
      simp at this
      omega
    show Calls _ _ _ _ fun e w' => e = .returned (ans (Parse.sp2 hs (Parse.cut 46 h))) ∧ _
    -- the ways in which the text is refused for the numbers of its halves and parts
    have refuse : (2 < hs.length + 1 ∨ hs.length + 1 ≤ 2 ∧ (Parse.cut 46 h).length ≠ 3) →
        Calls Try.prog 30 #[.string s] w fun e w' => e = .returned (ans none) ∧ Below w.heap.size w w' := fun hr =>
      from_reject s h (hs.length + 1) (Parse.cut 46 h).length ((h :: hs).map strV) ((Parse.cut 46 h).map strV) w (by omega) (by omega) big rfl (Lib.hid K1) (Lib.hid K2) (Lib.hid hr)
    match e2 : Parse.cut 46 h with
    | [x, y, z] =>
      rw [e2] at K2 len2 refuse
      have hx : x.length ≤ 1048576 := by have := len2 x (by simp); omega
      have hy : y.length ≤ 1048576 := by have := len2 y (by simp); omega
      have hz : z.length ≤ 1048576 := by have := len2 z (by simp); omega
      have N1 := Lib.hid fun V => strV_num x V hx
      have N2 := Lib.hid fun V => strV_num y V hy
      have N3 := Lib.hid fun V => strV_num z V hz
      match hs, K1, len1, refuse with
      | [], K1, _, _ =>
        show Calls _ _ _ _ fun e w' => e = .returned (ans (Parse.chk (Parse.num x) (Parse.num y) (Parse.num z) 0)) ∧ _
        rcases hk : vOk (Parse.num x) (Parse.num y) (Parse.num z) 0
        · rw [ans_chk_no hk]
          exact from_one_no s h x y z _ _ _ w (by omega) (Lib.hid K1) (Lib.hid K2) N1 N2 N3 hk
        · rw [ans_chk_yes hk]
          exact from_one_yes s h x y z _ _ _ w (by omega) (Lib.hid K1) (Lib.hid K2) N1 N2 N3 hk
      | [t], K1, len1, _ =>
        have ht : t.length ≤ 1048576 := by have := len1 t (by simp); omega
        have N4 := Lib.hid fun V => strV_num t V ht
        show Calls _ _ _ _ fun e w' => e = .returned (ans (if Parse.num t = 0 then none else Parse.chk (Parse.num x) (Parse.num y) (Parse.num z) (Parse.num t))) ∧ _
        by_cases hd : Parse.num t = 0
        · rw [if_pos hd]
          exact from_two_zero s h x y z t _ _ _ _ w (by omega) (Lib.hid K1) (Lib.hid K2) N1 N2 N3 N4 (by simp [hd])
        · rw [if_neg hd]
          rcases hk : vOk (Parse.num x) (Parse.num y) (Parse.num z) (Parse.num t)
          · rw [ans_chk_no hk]
            exact from_two_no s h x y z t _ _ _ _ w (by omega) (Lib.hid K1) (Lib.hid K2) N1 N2 N3 N4 (by simp [hd]) hk
          · rw [ans_chk_yes hk]
            exact from_two_yes s h x y z t _ _ _ _ w (by omega) (Lib.hid K1) (Lib.hid K2) N1 N2 N3 N4 (by simp [hd]) hk
      | _ :: _ :: r, _, _, refuse => exact refuse (.inl (by simp))
    | [] => rw [e2] at refuse; exact refuse (by simp; omega)
    | [_] => rw [e2] at refuse; exact refuse (by simp; omega)
    | [_, _] => rw [e2] at refuse; exact refuse (by simp; omega)
    | _ :: _ :: _ :: _ :: r => rw [e2] at refuse; exact refuse (by simp; omega)

theorem specFrom_any (s : ByteArray) (w : World) (_hs : s.size ≤ 1048576) :
    Calls Try.prog 30 #[.string s] w fun e w' => e = .returned (ans (Parse.sp s.data.toList)) ∧ Below w.heap.size w w' := specFrom_big s w

end Go.Proofs.Ytenfdbikgpppdaa

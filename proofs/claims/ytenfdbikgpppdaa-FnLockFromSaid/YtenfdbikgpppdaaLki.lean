/- The contract of the program's LockFrom, over this seat's translation: it answers with the lock that the plain function imL reads, and whether there is one; nothing that was there before the call has changed. Condition: a text of at most 1048576 bytes. -/
import Derived.Test.YtenfdbikgpppdaaLkt
import Derived.Test.YtenfdbikgpppdaaLkf
namespace Go.Proofs.Ytenfdbikgpppdaa
open Go.RowKit Go.Sort

namespace Lk
open Cpu
/-- How far the program has read: the picks so far, and what is left. -/
def InvI (l : List UInt8) (k : Nat) (L : List Pk) : Prop :=
  (k ≤ l.length ∧ rowsI (Parse.cut 10 l) = (rowsI (Parse.cut 10 (l.drop k))).map (L ++ ·)) ∨ (k = l.length + 1 ∧ rowsI (Parse.cut 10 l) = some L)
theorem invI_zero (l : List UInt8) : InvI l 0 [] := .inl ⟨Nat.zero_le _, by simp⟩
theorem invI_end {l : List UInt8} {k : Nat} {L : List Pk} (h : InvI l k L) (hk : ¬ k < l.length) : rowsI (Parse.cut 10 l) = some L := by
  rcases h with ⟨h1, h2⟩ | ⟨_, h2⟩
  · obtain rfl : k = l.length := by omega
    rw [h2, List.drop_length]
    simp [Parse.cut, rowsI]
  · exact h2
theorem cut_part {l : List UInt8} {f k : Nat} (hf : f ≤ k) (hno : 10 ∉ (l.drop f).take (k - f)) :
    (k = l.length → Parse.cut 10 (l.drop f) = [(l.drop f).take (k - f)]) ∧ (l[k]? = some 10 → Parse.cut 10 (l.drop f) = (l.drop f).take (k - f) :: Parse.cut 10 (l.drop (k + 1))) := by
  refine ⟨fun e => ?_, fun e => ?_⟩
  · have ht : (l.drop f).take (k - f) = l.drop f := List.take_of_length_le (by simp; omega)
    rw [ht] at hno ⊢
    exact Parse.cut_none hno
  · obtain ⟨hk, h10⟩ := List.getElem?_eq_some_iff.1 e
    have := split_at l f k hf hk
    rw [h10] at this
    have h2 := Parse.cut_at (y := l.drop (k + 1)) hno
    rw [← this] at h2
    exact h2
theorem invI_none {s : ByteArray} {f k : Nat} {L : List Pk} (h : InvI s.data.toList f L) (hf : f < s.size) (he : EndAt s f k) (hr : readI ((s.data.toList.drop f).take (k - f)) = none) : rowsI (Parse.cut 10 s.data.toList) = none := by
  have hl : s.data.toList.length = s.size := by simp
  obtain ⟨h1, h2, h3, h4⟩ := he
  rcases h with ⟨_, h⟩ | ⟨e, _⟩
  · rw [h]
    obtain ⟨c1, c2⟩ := cut_part h1 h3
    rcases h4 with h4 | h4
    · rw [c1 (by omega)]
      have hne : (s.data.toList.drop f).take (k - f) ≠ [] := fun e => by
        have := congrArg List.length e
        simp at this
        omega
      simp only [rowsI, if_neg hne, hr]
      rfl
    · rw [c2 h4]
      have hn := Parse.cut_ne 10 (s.data.toList.drop (k + 1))
      match e : Parse.cut 10 (s.data.toList.drop (k + 1)), hn with
      | y :: r, _ => simp only [rowsI, hr]; rfl
  · omega
theorem invI_some {s : ByteArray} {f k : Nat} {L : List Pk} {x : Pk} (h : InvI s.data.toList f L) (hf : f < s.size) (he : EndAt s f k) (hr : readI ((s.data.toList.drop f).take (k - f)) = some x) : InvI s.data.toList (k + 1) (L ++ [x]) := by
  have hl : s.data.toList.length = s.size := by simp
  obtain ⟨h1, h2, h3, h4⟩ := he
  rcases h with ⟨_, h⟩ | ⟨e, _⟩
  · obtain ⟨c1, c2⟩ := cut_part h1 h3
    rcases h4 with h4 | h4
    · refine .inr ⟨by omega, ?_⟩
      rw [h, c1 (by omega)]
      have hne : (s.data.toList.drop f).take (k - f) ≠ [] := fun e => by
        have := congrArg List.length e
        simp at this
        omega
      simp only [rowsI, if_neg hne, hr]
      rfl
    · have hk := (List.getElem?_eq_some_iff.1 h4).1
      refine .inl ⟨by omega, ?_⟩
      rw [h, c2 h4]
      have hn := Parse.cut_ne 10 (s.data.toList.drop (k + 1))
      match e : Parse.cut 10 (s.data.toList.drop (k + 1)), hn with
      | y :: r, _ =>
        simp only [rowsI, hr, Option.bind_some, Option.map_map]
        congr 1
        funext t
        simp
  · omega
theorem end_len {s : ByteArray} {f k : Nat} (h : EndAt s f k) : f ≤ k ∧ k ≤ s.size := ⟨h.1, h.2.1⟩

/-- What LockFrom answers. -/
def LfPost (A : Option (List Pk)) (w : World) (e : Ending) (w' : World) : Prop := ∃ v, e = .returned (.tuple #[v, .bool A.isSome]) ∧ PB (A.getD []) w.heap.size w'.heap.size v w' ∧ Below w.heap.size w w'
theorem LfPost.no {A : Option (List Pk)} (h : A = none) {w w' : World} (hb : Below w.heap.size w w') : LfPost A w (.returned (.tuple #[.slice none 0 0, .bool false])) w' := by
  subst h
  exact ⟨_, rfl, KOwn.pb (base := w.heap.size) (World.ownsRow_nil _ _ _ _), hb⟩
theorem LfPost.no' {A : Option (List Pk)} (h : A = none) {v : Value} {w w' : World} (ho : KOwn w' w.heap.size v []) (hb : Below w.heap.size w w') : LfPost A w (.returned (.tuple #[v, .bool false])) w' := by
  subst h
  exact ⟨_, rfl, KOwn.pb ho, hb⟩
theorem LfPost.yes {A : Option (List Pk)} {L : List Pk} (h : A = some L) {v : Value} {w w' : World} (ho : KOwn w' w.heap.size v L) (hb : Below w.heap.size w w') : LfPost A w (.returned (.tuple #[v, .bool true])) w' := by
  subst h
  exact ⟨_, rfl, KOwn.pb ho, hb⟩

/-- What the loop keeps. -/
def LfRel (s : ByteArray) (w : World) (v i : Value) (wr : World) : Prop :=
  ∃ (k : Nat) (L : List Pk), k ≤ s.size + 1 ∧ i = .int .i64 (k : Int) ∧ InvI s.data.toList k L ∧ L.length ≤ k ∧ KOwn wr w.heap.size v L ∧ Below w.heap.size w wr

theorem implLockFrom_long (s : ByteArray) (w : World) (hs : s.size ≤ 2147483647) (h3 : 300 < s.size) :
    Calls Try.prog 20 #[.string s] w (LfPost (imL s.data.toList) w) := by
  have hl : s.data.toList.length = s.size := by simp
  have H := Lib.hid (show imL s.data.toList = none by unfold imL; rw [if_pos (by omega)])
  clear hl
  go_enter Try.func20, Try.ntmps20
  go_wp2_with fail
  go_ret2
  exact LfPost.no H.out (Below.refl _ _)
set_option maxRecDepth 100000 in
set_option maxHeartbeats 4000000 in
theorem implLockFrom_any (s : ByteArray) (w : World) (hs : s.size ≤ 1048576) :
    Calls Try.prog 20 #[.string s] w (LfPost (imL s.data.toList) w) := by
  have hl : s.data.toList.length = s.size := by simp
  by_cases h3 : 300 < s.size
  · have H := Lib.hid (show imL s.data.toList = none by unfold imL; rw [if_pos (by omega)])
    clear hl
    go_enter Try.func20, Try.ntmps20
    go_wp2_with fail
    go_ret2
    exact LfPost.no H.out (Below.refl _ _)
  · obtain ⟨i0, hi, hz0, hz1, hz2⟩ := info_parts infoPick
    have HIN := Lib.hid (imL_none (l := s.data.toList) (by omega))
    have HIM := Lib.hid (fun M => imL_eq (l := s.data.toList) (M := M) (by omega))
    clear hl
    go_enter Try.func20, Try.ntmps20
    go_wp2_with fail
    go_loopw [4, 5] (fun v i wr => LfRel s w v i wr) (fun _ i _ => s.size + 1 - (intOf i).toNat)
    case atStart => exact ⟨0, [], Nat.zero_le _, rfl, invI_zero _, Nat.le_refl _, World.ownsRow_nil _ _ _ _, Below.refl _ _⟩
    case round =>
      obtain ⟨k, L, hk, rfl, hinv, hL, hown, hb⟩ := hrel
      obtain ⟨va, vc, hv, hx⟩ := id (KOwn.pb hown).at
      subst hv
      have HAT := Lib.hid (KOwn.pb hown).at
      have HI := Lib.hid hinv
      have HO := Lib.hid hown
      clear hx hinv hown
      by_cases hlt : k < s.size
      · go_wp2_with fail
        refine (lineEnd_any s k _ hs (by omega)).mono ?_
        rintro e w' ⟨q, heq, rfl, rfl⟩
        obtain ⟨q1, q2⟩ := end_len heq
        have HE := Lib.hid heq
        clear heq
        have hx : (s.extract k q).data.toList = (s.data.toList.drop k).take (q - k) := Lib.extract_data _ _ _
        have hxs : (s.extract k q).size ≤ 1048576 := by simp only [ByteArray.size_extract]; omega
        have KF : Hid (∀ V, Calls Try.prog 45 #[.string (s.extract k q)] V fun e w' => e = .returned (ansP (readI ((s.data.toList.drop k).take (q - k)))) ∧ Below V.heap.size V w') := Lib.hid fun V => by
          have := pickFrom_any (s.extract k q) V hxs
          rwa [hx] at this
        clear hx hxs
        rcases e : readI ((s.data.toList.drop k).take (q - k)) with _ | ⟨x, a, b, c, d⟩
        · have HN := Lib.hid (show imL s.data.toList = none from HIN.out (invI_none HI.out hlt HE.out e))
          rw [e] at KF
          simp only [ansP] at KF
          clear e
          go_wp2_with fail
          refine (KF.out _).mono ?_
          rintro e w2 ⟨rfl, hb2⟩
          have b2 := hb.trans (hb2.mono hb.size)
          clear hb hb2
          go_wp2_with fail
          go_ret2
          exact LfPost.no HN.out (b2.alloc b2.size _)
        · have HS := Lib.hid (invI_some HI.out hlt HE.out e)
          rw [e] at KF
          simp only [ansP] at KF
          clear e
          go_wp2_with fail
          refine (KF.out _).mono ?_
          rintro e w2 ⟨rfl, hb2⟩
          have b2 := hb.trans (hb2.mono hb.size)
          have HO2 := Lib.hid (KOwn.below HO.out hb2)
          have z2 := b2.size
          clear hb hb2
          have b3 : Below w.heap.size w (w2.alloc (.cells #[.int .i64 x, .int .i64 a, .int .i64 b, .int .i64 c, .int .i64 d] 58)) := b2.alloc z2 _
          have HO3 := Lib.hid (KOwn.below HO2.out ((Below.refl w2.heap.size w2).alloc (Nat.le_refl _) (.cells #[.int .i64 x, .int .i64 a, .int .i64 b, .int .i64 c, .int .i64 d] 58)))
          have HNW := Lib.hid (show ∀ j u, [Value.int .i64 x, .int .i64 a, .int .i64 b, .int .i64 c, .int .i64 d][j]? = some u → ((w2.alloc (.cells #[.int .i64 x, .int .i64 a, .int .i64 b, .int .i64 c, .int .i64 d] 58)).alloc (.cells #[.int .i64 x, .int .i64 a, .int .i64 b, .int .i64 c, .int .i64 d] 58)).cell? ((⟨w2.heap.size + 1, 0, none⟩ : Addr).add j) = some u from fun j u h => by
            have := pick_new (w2.alloc (.cells #[.int .i64 x, .int .i64 a, .int .i64 b, .int .i64 c, .int .i64 d] 58)) x a b c d j u h
            rwa [show (w2.alloc (.cells #[.int .i64 x, .int .i64 a, .int .i64 b, .int .i64 c, .int .i64 d] 58)).heap.size = w2.heap.size + 1 by simp] at this)
          have p0 : (w2.alloc (.cells #[.int .i64 x, .int .i64 a, .int .i64 b, .int .i64 c, .int .i64 d] 58)).heap.size = w2.heap.size + 1 := by simp
          go_wp2_with (at_builtin; refine wpList_append_own _ rfl _ _ 26 rfl w.heap.size 58 i0 (.agg #[.int .i64 0, .int .i64 0, .int .i64 0, .int .i64 0, .int .i64 0]) 5 40 Try.underlying26 hi hz0 hz1 hz2 rfl (by decide) _ _ _ rfl (KOwn.below HO3.out ((Below.refl _ _).alloc (Nat.le_refl _) (.cells #[.int .i64 x, .int .i64 a, .int .i64 b, .int .i64 c, .int .i64 d] 58))) ⟨w2.heap.size + 1, 0, none⟩ 1 1 [.int .i64 x, .int .i64 a, .int .i64 b, .int .i64 c, .int .i64 d] rfl rfl HNW.out (pick_one _ _ _ _ _) (by unfold maxLen; omega) (by omega) (by simp; omega) ?_)
          intro v' w5 hown' hgrow hnn
          have HR := Lib.hid (show LfRel s w v' (.int .i64 ((q : Int) + 1)) w5 from ⟨q + 1, L ++ [(x, a, b, c, d)], by omega, by go_num, HS.out, by simp; omega, KOwn.push hown', KOwn.gone HO3.out b3 (by simp; omega) hgrow⟩)
          clear hown' hgrow hnn p0
          go_wp2_with fail
          go_roundw
          case rel => exact HR.out
          case measure => simp [intOf]; omega
      · have HR := Lib.hid (invI_end HI.out (by simpa using hlt))
        have KT := Lib.hid fun V (g : PkAt V V.heap.size (.slice va L.length vc) L) => implLockText_any _ L V (by omega) g
        have HB := Lib.hid hb
        by_cases ht : (lockT L).data.toList = s.data.toList
        · have HA := Lib.hid (show imL s.data.toList = some L by rw [HIM.out _ HR.out]; rw [if_pos ht])
          have hne : ((lockT L).toList == s.toList) = true := by rw [ByteArray.toList_eq, ByteArray.toList_eq, ht]; simp
          have hne2 : ((lockT L).toList != s.toList) = false := by simp [bne, hne]
          clear ht hb
          generalize lockT L = t at *
          go_wp2_with fail
          refine (KT.out _ HAT.out).mono ?_
          rintro e w2 ⟨rfl, hb2⟩
          have HP := Lib.hid (LfPost.yes (w := w) HA.out (KOwn.below HO.out hb2) (HB.out.trans (hb2.mono HB.out.size)))
          clear hb2
          go_wp2_with fail
          go_ret2
          exact HP.out
        · have HA := Lib.hid (show imL s.data.toList = none by rw [HIM.out _ HR.out]; rw [if_neg ht])
          have hne : ((lockT L).toList == s.toList) = false := by rw [ByteArray.toList_eq, ByteArray.toList_eq]; exact beq_eq_false_iff_ne.2 ht
          have hne2 : ((lockT L).toList != s.toList) = true := by simp [bne, hne]
          clear ht hb
          generalize lockT L = t at *
          go_wp2_with fail
          refine (KT.out _ HAT.out).mono ?_
          rintro e w2 ⟨rfl, hb2⟩
          have HP := Lib.hid (LfPost.no (w := w) HA.out (HB.out.trans (hb2.mono HB.out.size)))
          clear hb2
          go_wp2_with fail
          go_ret2
          exact HP.out
end Lk
end Go.Proofs.Ytenfdbikgpppdaa

/- The contract of the model's VersionFrom over this seat's translation: it answers with the version whose text the text is, and true, or with the zero value and false; nothing that was there before the call has changed. Condition: the text has at most 1048576 bytes. -/
import Derived.Test.YtenfdbikgpppdaaVcut
import Derived.Test.YtenfdbikgpppdaaVsnum
import Derived.Test.YtenfdbikgpppdaaVfrom
import Derived.Deep.RegionHeld3
namespace Go.Proofs.Ytenfdbikgpppdaa
open Go.RowKit Go.Sort

def RowPost (n : Nat) (L : List Value) (V : World) (e : Ending) (w' : World) : Prop :=
  ∃ g cap, e = .returned (.slice (some ⟨g, 0, none⟩) n cap) ∧ w'.ownsRow V.heap.size 9 1 (.slice (some ⟨g, 0, none⟩) n cap) n L ∧ Below V.heap.size V w'

/-- What a call of l1Cut leaves, as the walk takes it: the row's cells, the block's place. -/
theorem rowPost_cells {n : Nat} {L : List Value} {V : World} {e : Ending} {w' : World} (h : RowPost n L V e w') :
    ∃ g cap, e = .returned (.slice (some ⟨g, 0, none⟩) n cap) ∧ (∀ j u, L[j]? = some u → w'.cell? ⟨g, j, none⟩ = some u) ∧ V.heap.size ≤ g ∧ g < w'.heap.size ∧ Below V.heap.size V w' := by
  obtain ⟨g, cap, rfl, hown, hb⟩ := h
  refine ⟨g, cap, rfl, fun j u hj => ?_, (hown.lt g rfl).1, (hown.lt g rfl).2, hb⟩
  have := hown.cells (g := g) rfl j u hj
  rwa [show (⟨g, 0, none⟩ : Addr).add j = ⟨g, j, none⟩ from by unfold Addr.add; split <;> simp_all] at this

theorem piece_len (sign : UInt8) : ∀ (l : List UInt8) (x : List UInt8), x ∈ Parse.cut sign l → x.length ≤ l.length
  | [], x, h => by simp [Parse.cut] at h; simp [h]
  | c :: t, x, h => by
    by_cases hc : c = sign
    · rw [Parse.cut, if_pos hc] at h
      rcases List.mem_cons.1 h with rfl | h
      · simp
      · have := piece_len sign t x h
        simp; omega
    · rw [Parse.cut_cons hc] at h
      match e : Parse.cut sign t, h with
      | y :: r, h =>
        rcases List.mem_cons.1 h with rfl | h
        · have := piece_len sign t y (by rw [e]; simp)
          simp; omega
        · have := piece_len sign t x (by rw [e]; simp [h])
          simp; omega
      | [], h => exact absurd e (Parse.cut_ne sign t)

theorem cut_count (sign : UInt8) : ∀ l : List UInt8, (Parse.cut sign l).length ≤ l.length + 1
  | [] => by simp [Parse.cut]
  | c :: t => by
    have ih := cut_count sign t
    by_cases hc : c = sign
    · rw [Parse.cut, if_pos hc]
      simp; omega
    · rw [Parse.cut_cons hc]
      match e : Parse.cut sign t with
      | y :: r => rw [e] at ih; simp at ih ⊢; omega
      | [] => simp

theorem strV_cut (x : List UInt8) (sign : UInt8) (V : World) (hx : x.length ≤ 1048576) : Calls Try.prog 43 #[strV x, .int .u8 (sign.toNat : Int)] V (RowPost (Parse.cut sign x).length ((Parse.cut sign x).map strV) V) :=
  cut_any ⟨x.toArray⟩ sign V hx
theorem strV_num (x : List UInt8) (V : World) (hx : x.length ≤ 1048576) : Calls Try.prog 53 #[strV x] V fun e w' => e = .returned (.int .i64 (Parse.num x)) ∧ V = w' :=
  number_any ⟨x.toArray⟩ V hx

set_option maxHeartbeats 1000000 in
theorem from_long (s : ByteArray) (w : World) (h : 20 < s.size) : Calls Try.prog 30 #[.string s] w fun e w' => e = .returned (ans none) ∧ Below w.heap.size w w' := by
  go_enter Try.func30, Try.ntmps30
  go_wp2
  exact bodyPost_ret (v := .tuple #[ver 0 0 0 0, .bool false]) (by simp [results, Try.results30, go_sem]) rfl ⟨rfl, by repeat (first | exact (Below.refl _ _).alloc (Nat.le_refl _) _ | refine Below.setCell ?_ (by simp) _)⟩

set_option maxHeartbeats 1000000 in
theorem from_reject (s : ByteArray) (x : List UInt8) (n m : Nat) (L1 L2 : List Value) (w : World) (hs : s.size ≤ 20) (hn : 1 ≤ n) (hn2 : n ≤ 1048576) (h0 : L1[0]? = some (strV x))
    (K1 : Hid (∀ V, Calls Try.prog 43 #[.string s, .int .u8 45] V (RowPost n L1 V))) (K2 : Hid (∀ V, Calls Try.prog 43 #[strV x, .int .u8 46] V (RowPost m L2 V)))
    (hr : Hid (2 < n ∨ n ≤ 2 ∧ m ≠ 3)) : Calls Try.prog 30 #[.string s] w fun e w' => e = .returned (ans none) ∧ Below w.heap.size w w' := by
  have H0 := Lib.hid h0
  clear h0
  rcases hr.out with hr2 | ⟨hr2, hr3⟩
  · clear hr
    go_enter Try.func30, Try.ntmps30
    go_wp2_with fail
    refine (K1.out _).mono ?_
    intro e w1 hp
    obtain ⟨g1, c1, rfl, hrow, hg, hg2, hb⟩ := rowPost_cells hp
    have hc0 := hrow 0 _ H0.out
    clear hrow hp
    go_wp2_with fail
    refine (K2.out _).mono ?_
    intro e w2 hp
    obtain ⟨g2, c2, rfl, hrow, hq, hq2, hb2⟩ := rowPost_cells hp
    clear hrow hp hc0
    have hbw : Below (w.heap.size + 1) (w.alloc (.cells #[.int .i64 0, .int .i64 0, .int .i64 0, .int .i64 0] 47)) w2 := by
      have z1 := hb.size
      simp at z1 hb
      exact hb.trans (hb2.mono z1)
    obtain ⟨hc, hf⟩ := olds hbw
    clear hb hb2
    go_wp2
    have hbx : Below w.heap.size w w2 := ((Below.refl _ _).alloc (Nat.le_refl _) _).trans (hbw.mono (by omega))
    exact bodyPost_ret (v := .tuple #[ver 0 0 0 0, .bool false]) (by simp [results, Try.results30, go_sem, hc]) rfl ⟨rfl, by repeat (first | exact hbx | refine Below.setCell ?_ (by simp) _)⟩
  · clear hr
    have hne : ((m : Int) != 3) = true := by rw [bne_iff_ne]; omega
    clear hr3
    go_enter Try.func30, Try.ntmps30
    go_wp2_with fail
    refine (K1.out _).mono ?_
    intro e w1 hp
    obtain ⟨g1, c1, rfl, hrow, hg, hg2, hb⟩ := rowPost_cells hp
    have hc0 := hrow 0 _ H0.out
    clear hrow hp
    go_wp2_with fail
    refine (K2.out _).mono ?_
    intro e w2 hp
    obtain ⟨g2, c2, rfl, hrow, hq, hq2, hb2⟩ := rowPost_cells hp
    clear hrow hp hc0
    have hbw : Below (w.heap.size + 1) (w.alloc (.cells #[.int .i64 0, .int .i64 0, .int .i64 0, .int .i64 0] 47)) w2 := by
      have z1 := hb.size
      simp at z1 hb
      exact hb.trans (hb2.mono z1)
    obtain ⟨hc, hf⟩ := olds hbw
    clear hb hb2
    go_wp2
    have hbx : Below w.heap.size w w2 := ((Below.refl _ _).alloc (Nat.le_refl _) _).trans (hbw.mono (by omega))
    exact bodyPost_ret (v := .tuple #[ver 0 0 0 0, .bool false]) (by simp [results, Try.results30, go_sem, hc]) rfl ⟨rfl, by repeat (first | exact hbx | refine Below.setCell ?_ (by simp) _)⟩

end Go.Proofs.Ytenfdbikgpppdaa

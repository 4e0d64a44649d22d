/- At every text the law FnRoadsText returns true: a text is a lock, or a version, just as the model says, never both, and then it is how that is written. No condition. -/
import Derived.Test.YtenfdbikgpppdaaGa
import Derived.Test.YtenfdbikgpppdaaLks
import Derived.Test.YtenfdbikgpppdaaSamep
import Derived.Test.YtenfdbikgpppdaaGe
import Derived.Test.YtenfdbikgpppdaaImone
import Derived.Test.YtenfdbikgpppdaaImtext
namespace Go.Proofs.Ytenfdbikgpppdaa
open Go.ChangeShapes Go.WideShapes Go.ChangeAt Go.RowKit Go.Joins Go.Sort

namespace Prt
open Cpu Smp
theorem one_text {a b c d : Int} (hk : vOk a b c d = true) : textR (oneL a b c d) = vText a b c d := by
  obtain ⟨⟨a0, a1⟩, ⟨b0, b1⟩, ⟨c0, c1⟩, d0, d1⟩ := vOk_iff.1 hk
  have e : oneL a b c d = [(rk a b c d, rk a b c d)] := by simp [oneL, hk]
  have h0 : 0 ≤ rk a b c d := by unfold rk; omega
  have h1 : rk a b c d ≤ 9999999 := by unfold rk; omega
  have hs : spOk [(rk a b c d, rk a b c d)] = true := spOk_iff.2 ⟨⟨h0, Int.le_refl _, h1, trivial⟩, by simp⟩
  rw [e]
  unfold textR
  rw [if_pos hs]
  show spT (rk a b c d) (rk a b c d) = _
  unfold spT
  rw [if_pos rfl]
  unfold rkT
  have e1 : rk a b c d / 10 / 10000 = a := by unfold rk; omega
  have e2 : rk a b c d / 10 / 100 % 100 = b := by unfold rk; omega
  have e3 : rk a b c d / 10 % 100 = c := by unfold rk; omega
  have e4 : (rk a b c d % 10 + 1) % 10 = d := by unfold rk; omega
  rw [e1, e2, e3, e4]
theorem one_len' (a b c d : Int) : (oneL a b c d).length ≤ 1048576 := by
  unfold oneL
  split <;> simp
theorem lock_no_version {l : List UInt8} {M : List Pk} {v : Int × Int × Int × Int} (h : Lk.imL l = some M) (h' : Parse.im l = some v) : False := by
  obtain ⟨_, _, h1⟩ := Lk.imL_some.1 h
  obtain ⟨a, b, c, d⟩ := v
  obtain ⟨h2, h3⟩ := Parse.im_some.1 h'
  match M, h1 with
  | [], h1 =>
    rw [h1] at h3
    exact Lk.full_ne h3.symm
  | x :: t, h1 =>
    have : (10 : UInt8) ∈ l := by rw [h1]; simp [Lk.lockL]
    rw [h3] at this
    exact Lk.full_no10 h2 this
theorem lf_len {l : List UInt8} : ((Lk.imL l).getD []).length ≤ 1048576 := by
  rcases h : Lk.imL l with _ | M
  · exact Nat.zero_le _
  · have := Lk.pkOk_count (Lk.imL_some.1 h).2.1
    show M.length ≤ 1048576
    omega
theorem impl_any (s : ByteArray) (w : World) (hs : s.size ≤ 2147483647) : Calls Try.prog 20 #[.string s] w (Lk.LfPost (Lk.imL s.data.toList) w) := by
  by_cases h : 300 < s.size
  · exact Lk.implLockFrom_long s w hs h
  · exact Lk.implLockFrom_any s w (by omega)
theorem spec_any (s : ByteArray) (w : World) (hs : s.size ≤ 2147483647) : Calls Try.prog 19 #[.string s] w (Lk.LfPost (Lk.imL s.data.toList) w) := by
  rw [Lk.im_sp]
  by_cases h : 300 < s.size
  · exact Lk.specLockFrom_long s w hs h
  · exact Lk.specLockFrom_any s w (by omega)
set_option maxHeartbeats 1000000 in
theorem long (s : ByteArray) (w : World) (h : 2147483647 < s.size) :
    Calls Try.prog 9 #[.string s] w fun e w' => e = .returned (.bool true) ∧ Below w.heap.size w w' := by
  go_enter Try.func9, Try.ntmps9
  go_wp2_with fail
  refine (alive_any _).mono ?_
  rintro e w2 ⟨rfl, hb2⟩
  go_wp2_with fail
  go_ret
  exact ⟨rfl, hb2⟩

set_option maxRecDepth 100000 in
set_option maxHeartbeats 4000000 in
theorem short (s : ByteArray) (w : World) (h : s.size ≤ 2147483647) :
    Calls Try.prog 9 #[.string s] w fun e w' => e = .returned (.bool true) ∧ Below w.heap.size w w' := by
  have KI := Lib.hid fun V => impl_any s V h
  have KS := Lib.hid fun V => spec_any s V h
  have KV : Hid (∀ V, Calls Try.prog 29 #[.string s] V fun e w' => e = .returned (ans (Parse.im s.data.toList)) ∧ Below V.heap.size V w') := Lib.hid fun V => implFrom_big s V h
  have KW : Hid (∀ V, Calls Try.prog 30 #[.string s] V fun e w' => e = .returned (ans (Parse.im s.data.toList)) ∧ Below V.heap.size V w') := Lib.hid fun V => by
    have := specFrom_big s V
    rwa [← Parse.im_sp] at this
  have hN := @lock_no_version s.data.toList
  have hA := @lf_len s.data.toList
  have hOK := @Lk.imL_some s.data.toList
  match hv : Parse.im s.data.toList with
  | none =>
    rw [hv] at KV KW
    simp only [ans] at KV KW
    match hl : Lk.imL s.data.toList with
    | none =>
      rw [hl] at KI KS hA
      simp only [Option.getD_none] at hA
      clear hl hv hN hOK
      go_enter Try.func9, Try.ntmps9
      go_wp2_with fail
      refine (KI.out _).mono ?_
      rintro e w1 ⟨v1, rfl, p1, hb1⟩
      obtain ⟨a1, c1, rfl, _⟩ := id p1.at
      go_wp2_with fail
      refine (KS.out _).mono ?_
      rintro e w2 ⟨v2, rfl, p2, hb2⟩
      obtain ⟨a2, c2, rfl, _⟩ := id p2.at
      have q1 := p1.below hb2
      have n2 := hb1.trans (hb2.mono hb1.size)
      have z2 := n2.size
      clear p1 hb1 hb2
      go_wp2_with fail
      refine (KV.out _).mono ?_
      rintro e w3 ⟨rfl, hb3⟩
      have n3 := n2.trans (hb3.mono z2)
      have r1 := q1.below hb3
      have r2 := p2.below hb3
      have z3 := n3.size
      clear q1 p2 hb3 n2 z2
      obtain ⟨w4, hw4⟩ : ∃ V : World, V = w3.alloc (.cells #[.int .i64 0, .int .i64 0, .int .i64 0, .int .i64 0] 47) := ⟨_, rfl⟩
      have b4 : Below w3.heap.size w3 w4 := by rw [hw4]; exact (Below.refl _ _).alloc (Nat.le_refl _) _
      have z34 : w3.heap.size < w4.heap.size := by rw [hw4]; simp
      have c0 : w4.cell? ⟨w3.heap.size, 0, none⟩ = some (.int .i64 0) := by rw [hw4]; go_simp
      have c1 : w4.cell? ⟨w3.heap.size, 1, none⟩ = some (.int .i64 0) := by rw [hw4]; go_simp
      have c2 : w4.cell? ⟨w3.heap.size, 2, none⟩ = some (.int .i64 0) := by rw [hw4]; go_simp
      have c3 : w4.cell? ⟨w3.heap.size, 3, none⟩ = some (.int .i64 0) := by rw [hw4]; go_simp
      have n4 := n3.trans (b4.mono z3)
      have s1 := r1.below b4
      have s2 := r2.below b4
      have z4 := n4.size
      clear r1 r2 b4 n3
      go_upto_region 6 with fail
      rw [← hw4]
      clear hw4
      go_wp2_with fail
      refine (KW.out _).mono ?_
      rintro e w5 ⟨rfl, hb5⟩
      have d0 := (hb5.cell (p := ⟨w3.heap.size, 0, none⟩) z34).trans c0
      have d1 := (hb5.cell (p := ⟨w3.heap.size, 1, none⟩) z34).trans c1
      have d2 := (hb5.cell (p := ⟨w3.heap.size, 2, none⟩) z34).trans c2
      have d3 := (hb5.cell (p := ⟨w3.heap.size, 3, none⟩) z34).trans c3
      have n5 := n4.trans (hb5.mono z4)
      have t1 := s1.below hb5
      have t2 := s2.below hb5
      have z45 := hb5.size
      have z5 := n5.size
      have z35 : w3.heap.size < w5.heap.size := by omega
      clear s1 s2 hb5 n4 c0 c1 c2 c3
      obtain ⟨w6, hw6⟩ : ∃ V : World, V = w5.alloc (.cells #[.int .i64 0, .int .i64 0, .int .i64 0, .int .i64 0] 47) := ⟨_, rfl⟩
      have b6 : Below w5.heap.size w5 w6 := by rw [hw6]; exact (Below.refl _ _).alloc (Nat.le_refl _) _
      have z56 : w5.heap.size < w6.heap.size := by rw [hw6]; simp
      have f0 := (b6.cell (p := ⟨w3.heap.size, 0, none⟩) z35).trans d0
      have g0 : w6.cell? ⟨w5.heap.size, 0, none⟩ = some (.int .i64 0) := by rw [hw6]; go_simp
      have f1 := (b6.cell (p := ⟨w3.heap.size, 1, none⟩) z35).trans d1
      have g1 : w6.cell? ⟨w5.heap.size, 1, none⟩ = some (.int .i64 0) := by rw [hw6]; go_simp
      have f2 := (b6.cell (p := ⟨w3.heap.size, 2, none⟩) z35).trans d2
      have g2 : w6.cell? ⟨w5.heap.size, 2, none⟩ = some (.int .i64 0) := by rw [hw6]; go_simp
      have f3 := (b6.cell (p := ⟨w3.heap.size, 3, none⟩) z35).trans d3
      have g3 : w6.cell? ⟨w5.heap.size, 3, none⟩ = some (.int .i64 0) := by rw [hw6]; go_simp
      have n6 := n5.trans (b6.mono z5)
      have u1 := t1.below b6
      have u2 := t2.below b6
      have z6 := n6.size
      have z36 : w3.heap.size < w6.heap.size := by omega
      clear t1 t2 b6 n5 d0 d1 d2 d3
      go_upto_region 7 with fail
      rw [← hw6]
      clear hw6
      go_wp2_with fail
      refine ((samePicks_any _ _ _ _ _ hA hA u1.at u2.at)).mono ?_
      rintro e w7 ⟨rfl, hb7⟩
      have h0 := (hb7.cell (p := ⟨w3.heap.size, 0, none⟩) z36).trans f0
      have k0 := (hb7.cell (p := ⟨w5.heap.size, 0, none⟩) z56).trans g0
      have h1 := (hb7.cell (p := ⟨w3.heap.size, 1, none⟩) z36).trans f1
      have k1 := (hb7.cell (p := ⟨w5.heap.size, 1, none⟩) z56).trans g1
      have h2 := (hb7.cell (p := ⟨w3.heap.size, 2, none⟩) z36).trans f2
      have k2 := (hb7.cell (p := ⟨w5.heap.size, 2, none⟩) z56).trans g2
      have h3 := (hb7.cell (p := ⟨w3.heap.size, 3, none⟩) z36).trans f3
      have k3 := (hb7.cell (p := ⟨w5.heap.size, 3, none⟩) z56).trans g3
      have n7 := n6.trans (hb7.mono z6)
      have x1 := u1.below hb7
      have z67 := hb7.size
      have z7 := n7.size
      clear u1 u2 hb7 n6 f0 f1 f2 f3 g0 g1 g2 g3
      go_wp2_with fail
      refine (alive_any _).mono ?_
      rintro e w8 ⟨rfl, hb8⟩
      go_wp2_with fail
      go_ret
      exact ⟨rfl, n7.trans (hb8.mono z7)⟩
    | some M =>
      rw [hl] at KI KS hA
      simp only [Option.getD_some] at hA
      obtain ⟨_, hk, hs⟩ := hOK.1 hl
      have hT : Lk.lockT M = s := by
        apply ByteArray.ext
        apply Array.toList_inj.1
        rw [Lk.lockT_toList hk, hs]
      have KP : Hid (∀ V a c, PkAt V V.heap.size (.slice a M.length c) M → Calls Try.prog 24 #[.slice a M.length c] V fun e w' => e = .returned (.bool true) ∧ Below V.heap.size V w') := Lib.hid fun V a c g => by
        have := implPicksOk_any _ M V hA g
        rwa [hk] at this
      have KT : Hid (∀ V a c, PkAt V V.heap.size (.slice a M.length c) M → Calls Try.prog 18 #[.slice a M.length c] V fun e w' => e = .returned (.string s) ∧ Below V.heap.size V w') := Lib.hid fun V a c g => by
        have := Lk.implLockText_any _ M V hA g
        rwa [hT] at this
      clear hl hv hN hOK hk hs hT
      go_enter Try.func9, Try.ntmps9
      go_wp2_with fail
      refine (KI.out _).mono ?_
      rintro e w1 ⟨v1, rfl, p1, hb1⟩
      obtain ⟨a1, c1, rfl, _⟩ := id p1.at
      go_wp2_with fail
      refine (KS.out _).mono ?_
      rintro e w2 ⟨v2, rfl, p2, hb2⟩
      obtain ⟨a2, c2, rfl, _⟩ := id p2.at
      have q1 := p1.below hb2
      have n2 := hb1.trans (hb2.mono hb1.size)
      have z2 := n2.size
      clear p1 hb1 hb2
      go_wp2_with fail
      refine (KV.out _).mono ?_
      rintro e w3 ⟨rfl, hb3⟩
      have n3 := n2.trans (hb3.mono z2)
      have r1 := q1.below hb3
      have r2 := p2.below hb3
      have z3 := n3.size
      clear q1 p2 hb3 n2 z2
      obtain ⟨w4, hw4⟩ : ∃ V : World, V = w3.alloc (.cells #[.int .i64 0, .int .i64 0, .int .i64 0, .int .i64 0] 47) := ⟨_, rfl⟩
      have b4 : Below w3.heap.size w3 w4 := by rw [hw4]; exact (Below.refl _ _).alloc (Nat.le_refl _) _
      have z34 : w3.heap.size < w4.heap.size := by rw [hw4]; simp
      have c0 : w4.cell? ⟨w3.heap.size, 0, none⟩ = some (.int .i64 0) := by rw [hw4]; go_simp
      have c1 : w4.cell? ⟨w3.heap.size, 1, none⟩ = some (.int .i64 0) := by rw [hw4]; go_simp
      have c2 : w4.cell? ⟨w3.heap.size, 2, none⟩ = some (.int .i64 0) := by rw [hw4]; go_simp
      have c3 : w4.cell? ⟨w3.heap.size, 3, none⟩ = some (.int .i64 0) := by rw [hw4]; go_simp
      have n4 := n3.trans (b4.mono z3)
      have s1 := r1.below b4
      have s2 := r2.below b4
      have z4 := n4.size
      clear r1 r2 b4 n3
      go_upto_region 6 with fail
      rw [← hw4]
      clear hw4
      go_wp2_with fail
      refine (KW.out _).mono ?_
      rintro e w5 ⟨rfl, hb5⟩
      have d0 := (hb5.cell (p := ⟨w3.heap.size, 0, none⟩) z34).trans c0
      have d1 := (hb5.cell (p := ⟨w3.heap.size, 1, none⟩) z34).trans c1
      have d2 := (hb5.cell (p := ⟨w3.heap.size, 2, none⟩) z34).trans c2
      have d3 := (hb5.cell (p := ⟨w3.heap.size, 3, none⟩) z34).trans c3
      have n5 := n4.trans (hb5.mono z4)
      have t1 := s1.below hb5
      have t2 := s2.below hb5
      have z45 := hb5.size
      have z5 := n5.size
      have z35 : w3.heap.size < w5.heap.size := by omega
      clear s1 s2 hb5 n4 c0 c1 c2 c3
      obtain ⟨w6, hw6⟩ : ∃ V : World, V = w5.alloc (.cells #[.int .i64 0, .int .i64 0, .int .i64 0, .int .i64 0] 47) := ⟨_, rfl⟩
      have b6 : Below w5.heap.size w5 w6 := by rw [hw6]; exact (Below.refl _ _).alloc (Nat.le_refl _) _
      have z56 : w5.heap.size < w6.heap.size := by rw [hw6]; simp
      have f0 := (b6.cell (p := ⟨w3.heap.size, 0, none⟩) z35).trans d0
      have g0 : w6.cell? ⟨w5.heap.size, 0, none⟩ = some (.int .i64 0) := by rw [hw6]; go_simp
      have f1 := (b6.cell (p := ⟨w3.heap.size, 1, none⟩) z35).trans d1
      have g1 : w6.cell? ⟨w5.heap.size, 1, none⟩ = some (.int .i64 0) := by rw [hw6]; go_simp
      have f2 := (b6.cell (p := ⟨w3.heap.size, 2, none⟩) z35).trans d2
      have g2 : w6.cell? ⟨w5.heap.size, 2, none⟩ = some (.int .i64 0) := by rw [hw6]; go_simp
      have f3 := (b6.cell (p := ⟨w3.heap.size, 3, none⟩) z35).trans d3
      have g3 : w6.cell? ⟨w5.heap.size, 3, none⟩ = some (.int .i64 0) := by rw [hw6]; go_simp
      have n6 := n5.trans (b6.mono z5)
      have u1 := t1.below b6
      have u2 := t2.below b6
      have z6 := n6.size
      have z36 : w3.heap.size < w6.heap.size := by omega
      clear t1 t2 b6 n5 d0 d1 d2 d3
      go_upto_region 7 with fail
      rw [← hw6]
      clear hw6
      go_wp2_with fail
      refine ((samePicks_any _ _ _ _ _ hA hA u1.at u2.at)).mono ?_
      rintro e w7 ⟨rfl, hb7⟩
      have h0 := (hb7.cell (p := ⟨w3.heap.size, 0, none⟩) z36).trans f0
      have k0 := (hb7.cell (p := ⟨w5.heap.size, 0, none⟩) z56).trans g0
      have h1 := (hb7.cell (p := ⟨w3.heap.size, 1, none⟩) z36).trans f1
      have k1 := (hb7.cell (p := ⟨w5.heap.size, 1, none⟩) z56).trans g1
      have h2 := (hb7.cell (p := ⟨w3.heap.size, 2, none⟩) z36).trans f2
      have k2 := (hb7.cell (p := ⟨w5.heap.size, 2, none⟩) z56).trans g2
      have h3 := (hb7.cell (p := ⟨w3.heap.size, 3, none⟩) z36).trans f3
      have k3 := (hb7.cell (p := ⟨w5.heap.size, 3, none⟩) z56).trans g3
      have n7 := n6.trans (hb7.mono z6)
      have x1 := u1.below hb7
      have z67 := hb7.size
      have z7 := n7.size
      clear u1 u2 hb7 n6 f0 f1 f2 f3 g0 g1 g2 g3
      go_wp2_with fail
      refine (KP.out _ _ _ x1.at).mono ?_
      rintro e w8 ⟨rfl, hb8⟩
      have x2 := x1.below hb8
      have n8 := n7.trans (hb8.mono z7)
      have z8 := n8.size
      clear x1 hb8 n7
      go_wp2_with fail
      refine (KT.out _ _ _ x2.at).mono ?_
      rintro e w9 ⟨rfl, hb9⟩
      have n9 := n8.trans (hb9.mono z8)
      have z9 := n9.size
      clear x2 hb9 n8
      go_wp2_with fail
      refine (alive_any _).mono ?_
      rintro e w10 ⟨rfl, hb10⟩
      go_wp2_with fail
      go_ret
      exact ⟨rfl, n9.trans (hb10.mono z9)⟩
  | some (x, y, z, u) =>
    have hl : Lk.imL s.data.toList = none := by
      rcases h : Lk.imL s.data.toList with _ | M
      · rfl
      · exact (hN h hv).elim
    rw [hv] at KV KW
    simp only [ans] at KV KW
    obtain ⟨hk, hs⟩ := Parse.im_some.1 hv
    have hvk : vOk x y z u = true := by rw [vOk_okB]; exact Parse.okB_iff.2 hk
    have hq : vText x y z u = s := ByteArray.ext (Array.toList_inj.1 ((vText_full hvk).trans hs.symm))
    have C : Hid (∀ V, Calls Try.prog 31 #[ver x y z u] V fun e w' => e = .returned (.string s) ∧ Below V.heap.size V w') := Lib.hid fun V => by
      have := implText_any x y z u V
      rwa [hq] at this
    have CO := Lib.hid fun V => implOne_any x y z u V
    have hone : textR (oneL x y z u) = s := by rw [one_text hvk, hq]
    have CT : Hid (∀ V v, SpAt V V.heap.size v (oneL x y z u) → Calls Try.prog 32 #[.agg #[v]] V fun e w' => e = .returned (.string s) ∧ Below V.heap.size V w') := Lib.hid fun V v g => by
      have := implRangeText_any v (oneL x y z u) V (one_len' x y z u) g
      rwa [hone] at this
    rw [hl] at KI KS hA
    simp only [Option.getD_none] at hA
    clear hl hv hN hOK hk hs hvk hq hone
    generalize oneL x y z u = LL at *
    go_enter Try.func9, Try.ntmps9
    go_wp2_with fail
    refine (KI.out _).mono ?_
    rintro e w1 ⟨v1, rfl, p1, hb1⟩
    obtain ⟨a1, c1, rfl, _⟩ := id p1.at
    go_wp2_with fail
    refine (KS.out _).mono ?_
    rintro e w2 ⟨v2, rfl, p2, hb2⟩
    obtain ⟨a2, c2, rfl, _⟩ := id p2.at
    have q1 := p1.below hb2
    have n2 := hb1.trans (hb2.mono hb1.size)
    have z2 := n2.size
    clear p1 hb1 hb2
    go_wp2_with fail
    refine (KV.out _).mono ?_
    rintro e w3 ⟨rfl, hb3⟩
    have n3 := n2.trans (hb3.mono z2)
    have r1 := q1.below hb3
    have r2 := p2.below hb3
    have z3 := n3.size
    clear q1 p2 hb3 n2 z2
    obtain ⟨w4, hw4⟩ : ∃ V : World, V = w3.alloc (.cells #[.int .i64 x, .int .i64 y, .int .i64 z, .int .i64 u] 47) := ⟨_, rfl⟩
    have b4 : Below w3.heap.size w3 w4 := by rw [hw4]; exact (Below.refl _ _).alloc (Nat.le_refl _) _
    have z34 : w3.heap.size < w4.heap.size := by rw [hw4]; simp
    have c0 : w4.cell? ⟨w3.heap.size, 0, none⟩ = some (.int .i64 x) := by rw [hw4]; go_simp
    have c1 : w4.cell? ⟨w3.heap.size, 1, none⟩ = some (.int .i64 y) := by rw [hw4]; go_simp
    have c2 : w4.cell? ⟨w3.heap.size, 2, none⟩ = some (.int .i64 z) := by rw [hw4]; go_simp
    have c3 : w4.cell? ⟨w3.heap.size, 3, none⟩ = some (.int .i64 u) := by rw [hw4]; go_simp
    have n4 := n3.trans (b4.mono z3)
    have s1 := r1.below b4
    have s2 := r2.below b4
    have z4 := n4.size
    clear r1 r2 b4 n3
    go_upto_region 6 with fail
    rw [← hw4]
    clear hw4
    go_wp2_with fail
    refine (KW.out _).mono ?_
    rintro e w5 ⟨rfl, hb5⟩
    have d0 := (hb5.cell (p := ⟨w3.heap.size, 0, none⟩) z34).trans c0
    have d1 := (hb5.cell (p := ⟨w3.heap.size, 1, none⟩) z34).trans c1
    have d2 := (hb5.cell (p := ⟨w3.heap.size, 2, none⟩) z34).trans c2
    have d3 := (hb5.cell (p := ⟨w3.heap.size, 3, none⟩) z34).trans c3
    have n5 := n4.trans (hb5.mono z4)
    have t1 := s1.below hb5
    have t2 := s2.below hb5
    have z45 := hb5.size
    have z5 := n5.size
    have z35 : w3.heap.size < w5.heap.size := by omega
    clear s1 s2 hb5 n4 c0 c1 c2 c3
    obtain ⟨w6, hw6⟩ : ∃ V : World, V = w5.alloc (.cells #[.int .i64 x, .int .i64 y, .int .i64 z, .int .i64 u] 47) := ⟨_, rfl⟩
    have b6 : Below w5.heap.size w5 w6 := by rw [hw6]; exact (Below.refl _ _).alloc (Nat.le_refl _) _
    have z56 : w5.heap.size < w6.heap.size := by rw [hw6]; simp
    have f0 := (b6.cell (p := ⟨w3.heap.size, 0, none⟩) z35).trans d0
    have g0 : w6.cell? ⟨w5.heap.size, 0, none⟩ = some (.int .i64 x) := by rw [hw6]; go_simp
    have f1 := (b6.cell (p := ⟨w3.heap.size, 1, none⟩) z35).trans d1
    have g1 : w6.cell? ⟨w5.heap.size, 1, none⟩ = some (.int .i64 y) := by rw [hw6]; go_simp
    have f2 := (b6.cell (p := ⟨w3.heap.size, 2, none⟩) z35).trans d2
    have g2 : w6.cell? ⟨w5.heap.size, 2, none⟩ = some (.int .i64 z) := by rw [hw6]; go_simp
    have f3 := (b6.cell (p := ⟨w3.heap.size, 3, none⟩) z35).trans d3
    have g3 : w6.cell? ⟨w5.heap.size, 3, none⟩ = some (.int .i64 u) := by rw [hw6]; go_simp
    have n6 := n5.trans (b6.mono z5)
    have u1 := t1.below b6
    have u2 := t2.below b6
    have z6 := n6.size
    have z36 : w3.heap.size < w6.heap.size := by omega
    clear t1 t2 b6 n5 d0 d1 d2 d3
    go_upto_region 7 with fail
    rw [← hw6]
    clear hw6
    go_wp2_with fail
    refine ((samePicks_any _ _ _ _ _ hA hA u1.at u2.at)).mono ?_
    rintro e w7 ⟨rfl, hb7⟩
    have h0 := (hb7.cell (p := ⟨w3.heap.size, 0, none⟩) z36).trans f0
    have k0 := (hb7.cell (p := ⟨w5.heap.size, 0, none⟩) z56).trans g0
    have h1 := (hb7.cell (p := ⟨w3.heap.size, 1, none⟩) z36).trans f1
    have k1 := (hb7.cell (p := ⟨w5.heap.size, 1, none⟩) z56).trans g1
    have h2 := (hb7.cell (p := ⟨w3.heap.size, 2, none⟩) z36).trans f2
    have k2 := (hb7.cell (p := ⟨w5.heap.size, 2, none⟩) z56).trans g2
    have h3 := (hb7.cell (p := ⟨w3.heap.size, 3, none⟩) z36).trans f3
    have k3 := (hb7.cell (p := ⟨w5.heap.size, 3, none⟩) z56).trans g3
    have n7 := n6.trans (hb7.mono z6)
    have x1 := u1.below hb7
    have z67 := hb7.size
    have z7 := n7.size
    clear u1 u2 hb7 n6 f0 f1 f2 f3 g0 g1 g2 g3
    go_wp2_with fail
    refine (C.out _).mono ?_
    rintro e w8 ⟨rfl, hb8⟩
    have n8 := n7.trans (hb8.mono z7)
    have z8 := n8.size
    have z37 : w3.heap.size < w7.heap.size := by omega
    have l0 := (hb8.cell (p := ⟨w3.heap.size, 0, none⟩) z37).trans h0
    have l1 := (hb8.cell (p := ⟨w3.heap.size, 1, none⟩) z37).trans h1
    have l2 := (hb8.cell (p := ⟨w3.heap.size, 2, none⟩) z37).trans h2
    have l3 := (hb8.cell (p := ⟨w3.heap.size, 3, none⟩) z37).trans h3
    clear h0 h1 h2 h3 hb8 n7
    go_wp2_with fail
    refine (CO.out _).mono ?_
    rintro e w9 ⟨v9, rfl, q9, hb9⟩
    have n9 := n8.trans (hb9.mono z8)
    have z9 := n9.size
    clear hb9 n8
    go_wp2_with fail
    refine (CT.out _ _ q9.at).mono ?_
    rintro e w10 ⟨rfl, hb10⟩
    have n10 := n9.trans (hb10.mono z9)
    have z10 := n10.size
    clear q9 hb10 n9
    go_wp2_with fail
    refine (alive_any _).mono ?_
    rintro e w11 ⟨rfl, hb11⟩
    go_wp2_with fail
    go_ret
    exact ⟨rfl, n10.trans (hb11.mono z10)⟩

set_option maxRecDepth 100000 in
theorem law : LawWalk Try.prog 9 Try.f9 := by
  intro H enc W base args ds ps hval hA
  rw [Try.params9] at hA hval
  obtain ⟨v0, vs, d0, es, p0, q0, hargs, rfl, rfl, h0, r0⟩ := trodAll_cons hA
  obtain ⟨rfl, rfl, rfl⟩ := trodAll_nil r0
  obtain rfl : args = #[v0] := by cases args; simp_all
  obtain ⟨s, rfl, _, _, _⟩ := Go.ChangeMaps.open_string Try.underlying9 (hval 0 _ v0 rfl rfl) h0
  by_cases h : s.size ≤ 2147483647
  · exact short s W h
  · exact long s W (by omega)
end Prt

set_option maxRecDepth 100000 in
theorem roadsText_holds : Rows.FnRoadsTextSaid :=
  OpenClaim.holds_of_wide 9 Try.f9 rfl rfl rfl rfl rfl rfl rfl ⟨rfl, rfl, rfl, rfl, rfl⟩ rfl rfl rfl rfl rfl (by kernel_rfl) Try.func9 (by kernel_rfl)
    (of_decide_eq_true (by kernel_rfl)) (by unfold Func.isWrapper; rw [if_neg (by decide +kernel)]; exact ⟨rfl, rfl⟩)
    (fun os started H enc _ => law_lifted (s := Rows.fnRoadsTextSpec) (tb := 4) own started laid (by kernel_rfl) Try.func9 rfl (by kernel_rfl) Try.underlying4 (by kernel_rfl)
      (fun ds h => by rw [Try.params9] at h; match ds, h with | [_], _ => rfl)
      (ChangeSpec.witness6 (enc := enc) (C := Try.checked) false ⟨#[], #[.string ByteArray.empty], []⟩ 8 (by kernel_rfl) (by kernel_rfl) (by kernel_rfl) (by kernel_rfl))
      Prt.law)
#print axioms roadsText_holds
end Go.Proofs.Ytenfdbikgpppdaa

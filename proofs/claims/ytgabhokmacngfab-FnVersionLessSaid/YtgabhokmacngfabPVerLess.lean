/- At every code the law FnVersionLess returns true: the program and the model order the drawn versions alike, by their ranks; of two versions one is before the other one, or they are the same; what goes ahead of a version is before it. No condition. -/
import Derived.Test.YtgabhokmacngfabDless
import Derived.Test.YtgabhokmacngfabVless
import Derived.Deep.RegionHeld3
import Derived.Deep.DeepCutAuto
namespace Go.Proofs.Ytgabhokmacngfab
open Go.ChangeShapes Go.WideShapes Go.ChangeAt Go.RowKit Go.Joins Go.Sort

theorem rank_inj {x y z u x' y' z' u' : Int} (h : vOk x y z u = true) (h' : vOk x' y' z' u' = true) (e : vRank x y z u = vRank x' y' z' u') : x = x' ∧ y = y' ∧ z = z' ∧ u = u' := by
  have a := vOk_iff.1 h
  have b := vOk_iff.1 h'
  unfold vRank at e
  rw [if_pos h, if_pos h'] at e
  unfold rk at e
  omega

theorem ahead_less {x y z u : Int} (h : vOk x y z u = true) : vLess x y z 1 x y z 0 = true := by
  have a := vOk_iff.1 h
  have h1 : vOk x y z 1 = true := vOk_iff.2 (by omega)
  have h0 : vOk x y z 0 = true := vOk_iff.2 (by omega)
  unfold vLess vRank
  rw [h1, h0]
  unfold rk
  simp
  omega

theorem VerBlk.at {w : World} {g : Nat} {a b c d : Int} (h : VerBlk w g a b c d) : VerAt w g a b c d := ⟨h.cells.1, h.cells.2.1, h.cells.2.2.1, h.cells.2.2.2.1⟩

/-- What the law keeps where it has laid its two turned copies: their places, in whichever order. -/
def LessCut (w w1 : World) (x y z u x' y' z' u' : Int) (s6 s7 : Value) (wx : World) : Prop :=
  ∃ g6 g7, s6 = .pointer (some ⟨g6, 0, none⟩) ∧ s7 = .pointer (some ⟨g7, 0, none⟩) ∧ w1.heap.size + 1 < g6 ∧ w1.heap.size + 1 < g7 ∧ g6 ≠ g7 ∧ VerBlk wx g6 x y z u ∧ VerBlk wx g7 x y z u ∧
    VerBlk wx w1.heap.size x y z u ∧ VerBlk wx (w1.heap.size + 1) x' y' z' u' ∧ Below w.heap.size w wx

theorem ver_differ {x y z u x' y' z' u' : Int} (h : ¬ (x = x' ∧ y = y' ∧ z = z' ∧ u = u')) (V : World) :
    (binOp .eql 24 (ver x y z u) (ver x' y' z' u')).run Try.prog V = .ok (.bool false) V := by
  by_cases h1 : x = x'
  · by_cases h2 : y = y'
    · by_cases h3 : z = z'
      · have h4 : ¬ u = u' := fun e => h ⟨h1, h2, h3, e⟩
        subst h1; subst h2; subst h3
        have b4 : (u == u') = false := by rw [beq_eq_false_iff_ne]; exact h4
        go_simp
      · subst h1; subst h2
        have b3 : (z == z') = false := by rw [beq_eq_false_iff_ne]; exact h3
        go_simp
    · subst h1
      have b2 : (y == y') = false := by rw [beq_eq_false_iff_ne]; exact h2
      go_simp
  · have b1 : (x == x') = false := by rw [beq_eq_false_iff_ne]; exact h1
    go_simp

set_option maxHeartbeats 4000000 in
theorem versionLess_short (a : Option Addr) (len cap : Nat) (w : World) (h : CodeIn w a len cap) (hl : len ≤ 1048576) :
    Calls Try.prog 6 #[.slice a len cap] w fun e w' => e = .returned (.bool true) ∧ Below w.heap.size w w' := by
  go_enter Try.func6, Try.ntmps6
  go_wp2_with fail
  refine (DrawVersionLess_any a len cap w h).mono ?_
  rintro e w1 ⟨x, y, z, u, x', y', z', u', rfl, hb1⟩
  have z1 := hb1.size
  have v1 := (VerBlk.new w1 x y z u).alloc (.cells #[.int .i64 x', .int .i64 y', .int .i64 z', .int .i64 u'] 24)
  have t1 := VerBlk.new (w1.alloc (.cells #[.int .i64 x, .int .i64 y, .int .i64 z, .int .i64 u] 24)) x' y' z' u'
  rw [show (w1.alloc (.cells #[.int .i64 x, .int .i64 y, .int .i64 z, .int .i64 u] 24)).heap.size = w1.heap.size + 1 from by simp] at t1
  have b1 := (hb1.alloc z1 (.cells #[.int .i64 x, .int .i64 y, .int .i64 z, .int .i64 u] 24)).alloc (by simp; omega) (.cells #[.int .i64 x', .int .i64 y', .int .i64 z', .int .i64 u'] 24)
  have A := Lib.hid fun V => implLess_any x y z u x' y' z' u' V
  have B := Lib.hid fun V => specLess_any x y z u x' y' z' u' V
  have C := Lib.hid fun V => implOk_any x y z u V
  have D := Lib.hid fun V => implOk_any x' y' z' u' V
  go_wp2_with fail
  refine (A.out _).mono ?_
  rintro e w2 ⟨rfl, hb2⟩
  have b2 := b1.trans (hb2.mono b1.size)
  have v2 : VerBlk w2 w1.heap.size x y z u := (hb2.block _ (by simp; omega)).trans v1
  have t2 : VerBlk w2 (w1.heap.size + 1) x' y' z' u' := (hb2.block _ (by simp)).trans t1
  have s2 : w1.heap.size + 2 ≤ w2.heap.size := by have := hb2.size; simp at this; omega
  clear hb2 v1 t1 b1
  obtain ⟨c0, c1, c2, c3, cf⟩ := v2.cells
  obtain ⟨d0, d1, d2, d3, df⟩ := t2.cells
  go_wp2_with fail
  refine (B.out _).mono ?_
  rintro e w3 ⟨rfl, hb3⟩
  have b3 := b2.trans (hb3.mono b2.size)
  have v3 : VerBlk w3 w1.heap.size x y z u := (hb3.block _ (by omega)).trans v2
  have t3 : VerBlk w3 (w1.heap.size + 1) x' y' z' u' := (hb3.block _ (by omega)).trans t2
  have s3 : w1.heap.size + 2 ≤ w3.heap.size := by have := hb3.size; omega
  clear hb3 v2 t2 b2 c0 c1 c2 c3 cf d0 d1 d2 d3 df s2
  obtain ⟨c0, c1, c2, c3, cf⟩ := v3.cells
  obtain ⟨d0, d1, d2, d3, df⟩ := t3.cells
  go_wp2_with fail
  refine (C.out _).mono ?_
  rintro e w4 ⟨rfl, hb4⟩
  have b4 := b3.trans (hb4.mono b3.size)
  have v4 : VerBlk w4 w1.heap.size x y z u := (hb4.block _ (by omega)).trans v3
  have t4 : VerBlk w4 (w1.heap.size + 1) x' y' z' u' := (hb4.block _ (by omega)).trans t3
  have s4 : w1.heap.size + 2 ≤ w4.heap.size := by have := hb4.size; omega
  clear hb4 v3 t3 b3 c0 c1 c2 c3 cf d0 d1 d2 d3 df s3
  obtain ⟨c0, c1, c2, c3, cf⟩ := v4.cells
  obtain ⟨d0, d1, d2, d3, df⟩ := t4.cells
  rcases hk : vOk x y z u
  · have hL : vLess x y z u x' y' z' u' = false := by simp [vLess, hk]
    go_wp2_with fail
    refine (alive_any _).mono ?_
    rintro e w5 ⟨rfl, hb5⟩
    go_wp2_with fail
    go_ret
    exact ⟨rfl, b4.trans (hb5.mono b4.size)⟩
  go_wp2_with fail
  refine (D.out _).mono ?_
  rintro e w5 ⟨rfl, hb5⟩
  have b5 := b4.trans (hb5.mono b4.size)
  have v5 : VerBlk w5 w1.heap.size x y z u := (hb5.block _ (by omega)).trans v4
  have t5 : VerBlk w5 (w1.heap.size + 1) x' y' z' u' := (hb5.block _ (by omega)).trans t4
  have s5 : w1.heap.size + 2 ≤ w5.heap.size := by have := hb5.size; omega
  clear hb5 v4 t4 b4 c0 c1 c2 c3 cf d0 d1 d2 d3 df s4
  rcases hk' : vOk x' y' z' u'
  · have hL : vLess x y z u x' y' z' u' = false := by simp [vLess, hk']
    go_wp2_with fail
    refine (alive_any _).mono ?_
    rintro e w6 ⟨rfl, hb6⟩
    go_wp2_with fail
    go_ret
    exact ⟨rfl, b5.trans (hb6.mono b5.size)⟩
  obtain ⟨c0, c1, c2, c3, cf⟩ := v5.cells
  obtain ⟨d0, d1, d2, d3, df⟩ := t5.cells
  clear A B C D
  generalize hL : vLess x y z u x' y' z' u' = L
  have HL := Lib.hid hL
  have HK := Lib.hid hk
  have HK' := Lib.hid hk'
  clear hL hk hk'
  have q1 : w1.heap.size < w5.heap.size := by omega
  have q2 : w1.heap.size + 1 < w5.heap.size := by omega
  have q3 : w1.heap.size < w5.heap.size + 1 := by omega
  have q4 : w1.heap.size + 1 < w5.heap.size + 1 := by omega
  have n6 := (VerBlk.new w5 x y z u).alloc (.cells #[.int .i64 x, .int .i64 y, .int .i64 z, .int .i64 u] 24)
  have n7 := VerBlk.new (w5.alloc (.cells #[.int .i64 x, .int .i64 y, .int .i64 z, .int .i64 u] 24)) x y z u
  rw [show (w5.alloc (.cells #[.int .i64 x, .int .i64 y, .int .i64 z, .int .i64 u] 24)).heap.size = w5.heap.size + 1 from by simp] at n7
  have n1 := (v5.alloc (.cells #[.int .i64 x, .int .i64 y, .int .i64 z, .int .i64 u] 24)).alloc (.cells #[.int .i64 x, .int .i64 y, .int .i64 z, .int .i64 u] 24)
  have n2 := (t5.alloc (.cells #[.int .i64 x, .int .i64 y, .int .i64 z, .int .i64 u] 24)).alloc (.cells #[.int .i64 x, .int .i64 y, .int .i64 z, .int .i64 u] 24)
  have nb := (b5.alloc b5.size (.cells #[.int .i64 x, .int .i64 y, .int .i64 z, .int .i64 u] 24)).alloc (by have := b5.size; simp; omega) (.cells #[.int .i64 x, .int .i64 y, .int .i64 z, .int .i64 u] 24)
  go_upto_region 9 with fail
  go_cut [6, 7] (fun s6 s7 wx => LessCut w w1 x y z u x' y' z' u' s6 s7 wx)
  case first =>
    go_region
    · go_wp2_with fail
      go_meet
      exact ⟨w5.heap.size, w5.heap.size + 1, rfl, rfl, by omega, by omega, by omega, n6, n7, n1, n2, nb.drew⟩
    · go_wp2_with fail
      go_meet
      exact ⟨w5.heap.size + 1, w5.heap.size, rfl, rfl, by omega, by omega, by omega, n7, n6, n1, n2, nb.drew⟩
  case rest =>
    obtain ⟨g6, g7, rfl, rfl, h6, h7, h67, m6, m7, m1, m2, mb⟩ := hcut
    clear n6 n7 n1 n2 nb c0 c1 c2 c3 cf d0 d1 d2 d3 df v5 t5 b5 q1 q2 q3 q4 s5
    have e1 := (m6.set3 (e := 1)).other (k := g7) (x := 3) (v := .int .i64 0) h67
    have e2 := (m7.other (k := g6) (x := 3) (v := .int .i64 1) (Ne.symm h67)).set3 (e := 0)
    have e3 := (m1.other (k := g6) (x := 3) (v := .int .i64 1) (by omega)).other (k := g7) (x := 3) (v := .int .i64 0) (by omega)
    have e4 := (m2.other (k := g6) (x := 3) (v := .int .i64 1) (by omega)).other (k := g7) (x := 3) (v := .int .i64 0) (by omega)
    have eb := (mb.setCell (p := ⟨g6, 3, none⟩) (by simp; omega) (.int .i64 1)).setCell (p := ⟨g7, 3, none⟩) (by simp; omega) (.int .i64 0)
    obtain ⟨k0, k1, k2, k3⟩ := e1.at.grown
    obtain ⟨l0, l1, l2, l3⟩ := e2.at.grown
    obtain ⟨i0, i1, i2, i3⟩ := e3.at.grown
    obtain ⟨j0, j1, j2, j3⟩ := e4.at.grown
    obtain ⟨c0, c1, c2, c3, cf⟩ := m6.cells
    obtain ⟨d0, d1, d2, d3, df⟩ := m7.cells
    have cf3 := cf 3
    have df3 := df 3
    have h67' : ¬ g7 = g6 := fun e => h67 e.symm
    clear cf df e1 e2 e3 e4 m6 m7 m1 m2
    have hok := HK.out
    have hok' := HK'.out
    have hLL := HL.out
    clear HK HK' HL
    have hL : decide (vRank x y z u < vRank x' y' z' u') = L := by rw [← hLL]; simp [vLess, hok, hok']
    have R1 := Lib.hid fun V => implRank_any x y z u V
    have R2 := Lib.hid fun V => implRank_any x' y' z' u' V
    have L3 : Hid (∀ V, Calls Try.prog 20 #[ver x y z 1, ver x y z 0] V fun e w' => e = .returned (.bool true) ∧ Below V.heap.size V w') := Lib.hid fun V => by
      have := implLess_any x y z 1 x y z 0 V
      rwa [ahead_less hok] at this
    have M2 : ∀ V, Calls Try.prog 20 #[ver x' y' z' u', ver x y z u] V fun e w' => e = .returned (.bool (decide (vRank x' y' z' u' < vRank x y z u))) ∧ Below V.heap.size V w' := fun V => by
      have := implLess_any x' y' z' u' x y z u V
      rwa [show vLess x' y' z' u' x y z u = decide (vRank x' y' z' u' < vRank x y z u) from by simp [vLess, hok, hok']] at this
    rcases Int.lt_trichotomy (vRank x y z u) (vRank x' y' z' u') with hlt | heq | hgt
    · have hE := ver_differ (x := x) (y := y) (z := z) (u := u) (x' := x') (y' := y') (z' := z') (u' := u') (fun e => by obtain ⟨rfl, rfl, rfl, rfl⟩ := e; omega)
      obtain rfl : true = L := by rw [← hL]; simp [hlt]
      have L2 := Lib.hid M2
      clear M2 hL hLL hok hok'
      generalize vRank x y z u = ra at *
      generalize vRank x' y' z' u' = rb at *
      go_wp2_with fail
      refine wp_region_quiet_below (by kernel_rfl) (by kernel_rfl) ?_
      repeat (any_goals (first | go_big_quiet_step ((first | (go_at_call 13; with_reducible exact Calls.regrown_of (R1.out _)) | (go_at_call 13; with_reducible exact Calls.regrown_of (R2.out _)) | (go_at_call 20; with_reducible exact Calls.regrown_of (L2.out _)) | (go_at_call 20; with_reducible exact Calls.regrown_of (L3.out _)))) | quiet_step ((first | (go_at_call 13; with_reducible exact Calls.regrown_of (R1.out _)) | (go_at_call 13; with_reducible exact Calls.regrown_of (R2.out _)) | (go_at_call 20; with_reducible exact Calls.regrown_of (L2.out _)) | (go_at_call 20; with_reducible exact Calls.regrown_of (L3.out _))))))
      refine wpQuiet_nil ?_
      intro W2 hw
      have hb := quiet_end hw
      clear hw k0 k1 k2 k3 l0 l1 l2 l3 i0 i1 i2 i3 j0 j1 j2 j3
      go_wp2
      go_ret
      exact ⟨(by first | rfl | (simp; omega)), eb.trans (hb.mono (by simpa [World.setCell] using mb.size))⟩
    · obtain ⟨rfl, rfl, rfl, rfl⟩ := rank_inj hok hok' heq
      obtain rfl : false = L := by rw [← hL]; simp
      have L2 : Hid (∀ V, Calls Try.prog 20 #[ver x y z u, ver x y z u] V fun e w' => e = .returned (.bool false) ∧ Below V.heap.size V w') := Lib.hid fun V => by
        have := M2 V
        rwa [show decide (vRank x y z u < vRank x y z u) = false from by simp] at this
      clear M2 hL hLL hok hok' heq
      generalize vRank x y z u = ra at *
      go_wp2_with fail
      refine wp_region_quiet_below (by kernel_rfl) (by kernel_rfl) ?_
      repeat (any_goals (first | go_big_quiet_step ((first | (go_at_call 13; with_reducible exact Calls.regrown_of (R1.out _)) | (go_at_call 13; with_reducible exact Calls.regrown_of (R2.out _)) | (go_at_call 20; with_reducible exact Calls.regrown_of (L2.out _)) | (go_at_call 20; with_reducible exact Calls.regrown_of (L3.out _)))) | quiet_step ((first | (go_at_call 13; with_reducible exact Calls.regrown_of (R1.out _)) | (go_at_call 13; with_reducible exact Calls.regrown_of (R2.out _)) | (go_at_call 20; with_reducible exact Calls.regrown_of (L2.out _)) | (go_at_call 20; with_reducible exact Calls.regrown_of (L3.out _))))))
      refine wpQuiet_nil ?_
      intro W2 hw
      have hb := quiet_end hw
      clear hw k0 k1 k2 k3 l0 l1 l2 l3 i0 i1 i2 i3 j0 j1 j2 j3
      go_wp2
      go_ret
      exact ⟨(by first | rfl | (simp; omega)), eb.trans (hb.mono (by simpa [World.setCell] using mb.size))⟩
    · have hE := ver_differ (x := x) (y := y) (z := z) (u := u) (x' := x') (y' := y') (z' := z') (u' := u') (fun e => by obtain ⟨rfl, rfl, rfl, rfl⟩ := e; omega)
      obtain rfl : false = L := by rw [← hL]; simp; omega
      have L2 : Hid (∀ V, Calls Try.prog 20 #[ver x' y' z' u', ver x y z u] V fun e w' => e = .returned (.bool true) ∧ Below V.heap.size V w') := Lib.hid fun V => by
        have := M2 V
        rwa [show decide (vRank x' y' z' u' < vRank x y z u) = true from by simp [hgt]] at this
      clear M2 hL hLL hok hok'
      generalize vRank x y z u = ra at *
      generalize vRank x' y' z' u' = rb at *
      have hnl : ¬ ra < rb := by omega
      go_wp2_with fail
      refine wp_region_quiet_below (by kernel_rfl) (by kernel_rfl) ?_
      repeat (any_goals (first | go_big_quiet_step ((first | (go_at_call 13; with_reducible exact Calls.regrown_of (R1.out _)) | (go_at_call 13; with_reducible exact Calls.regrown_of (R2.out _)) | (go_at_call 20; with_reducible exact Calls.regrown_of (L2.out _)) | (go_at_call 20; with_reducible exact Calls.regrown_of (L3.out _)))) | quiet_step ((first | (go_at_call 13; with_reducible exact Calls.regrown_of (R1.out _)) | (go_at_call 13; with_reducible exact Calls.regrown_of (R2.out _)) | (go_at_call 20; with_reducible exact Calls.regrown_of (L2.out _)) | (go_at_call 20; with_reducible exact Calls.regrown_of (L3.out _))))))
      refine wpQuiet_nil ?_
      intro W2 hw
      have hb := quiet_end hw
      clear hw k0 k1 k2 k3 l0 l1 l2 l3 i0 i1 i2 i3 j0 j1 j2 j3
      go_wp2
      go_ret
      exact ⟨(by first | rfl | (simp; omega)), eb.trans (hb.mono (by simpa [World.setCell] using mb.size))⟩

set_option maxHeartbeats 1000000 in
theorem versionLess_long (a : Option Addr) (len cap : Nat) (w : World) (hl : 1048576 < len) :
    Calls Try.prog 6 #[.slice a len cap] w fun e w' => e = .returned (.bool true) ∧ Below w.heap.size w w' := by
  go_enter Try.func6, Try.ntmps6
  go_wp2
  go_ret
  exact ⟨rfl, Below.refl _ _⟩

theorem versionLess_walk (a : Option Addr) (len cap : Nat) (w : World) (h : CodeIn w a len cap) :
    Calls Try.prog 6 #[.slice a len cap] w fun e w' => e = .returned (.bool true) ∧ Below w.heap.size w w' := by
  by_cases hl : len ≤ 1048576
  · exact versionLess_short a len cap w h hl
  · exact versionLess_long a len cap w (by omega)

theorem versionLess_holds : Rows.FnVersionLessSaid :=
  OpenClaim.holds_of_wide 6 Try.f6 rfl rfl rfl rfl rfl rfl rfl ⟨rfl, rfl, rfl, rfl, rfl⟩ rfl rfl rfl rfl rfl (by kernel_rfl) Try.func6 (by kernel_rfl)
    (of_decide_eq_true (by kernel_rfl)) (by unfold Func.isWrapper; rw [if_neg (by decide +kernel)]; exact ⟨rfl, rfl⟩)
    (fun os started H enc _ => law_lifted (s := Rows.fnVersionLessSpec) (tb := 4) own started laid (by kernel_rfl) Try.func6 rfl (by kernel_rfl) Try.underlying4 (by kernel_rfl)
      (fun ds h => by rw [Try.params6] at h; match ds, h with | [_], _ => rfl)
      (ChangeSpec.witness6 (enc := enc) (C := Try.checked) false ⟨#[], #[.slice none 0 0], []⟩ 8 (by kernel_rfl) (by kernel_rfl) (by kernel_rfl) (by kernel_rfl))
      (law_code Try.params6 versionLess_walk))
#print axioms versionLess_holds
end Go.Proofs.Ytgabhokmacngfab

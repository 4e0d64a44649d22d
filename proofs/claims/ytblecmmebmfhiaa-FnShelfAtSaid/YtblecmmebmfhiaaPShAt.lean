/- At every code the law FnShelfAt returns true: the program and the model find the same place in the drawn shelf, and what stands there is the release of the name and the version. No condition. -/
import Derived.BigFrame
import Derived.Test.YtblecmmebmfhiaaDknown
import Derived.Test.YtblecmmebmfhiaaGd
import Derived.Test.YtblecmmebmfhiaaGe
namespace Go.Proofs.Ytblecmmebmfhiaa
open Go.ChangeShapes Go.WideShapes Go.ChangeAt Go.RowKit Go.Joins Go.Sort

namespace Psa
open Foot Dsh Dkn
theorem find_hit (n : Int) (v : Int × Int × Int × Int) : ∀ (S : List Rel) (k : Nat), shFind n v k S = -1 ∨ ∃ j, ∃ h : j < S.length, shFind n v k S = ((k + j : Nat) : Int) ∧ S[j].1 = n ∧ S[j].2.1 = v
  | [], k => .inl rfl
  | x :: t, k => by
    unfold shFind
    split
    · rename_i e
      exact .inr ⟨0, by simp, by simp, e.1, e.2⟩
    · rcases find_hit n v t (k + 1) with h | ⟨j, hj, h, e⟩
      · exact .inl h
      · exact .inr ⟨j + 1, by simpa using hj, by rw [h]; omega, by simpa using e⟩
theorem at_hit (S : List Rel) (n : Int) (v : Int × Int × Int × Int) : shAt S n v = -1 ∨ ∃ j, ∃ h : j < S.length, shAt S n v = (j : Int) ∧ S[j].1 = n ∧ S[j].2.1 = v := by
  unfold shAt
  split
  · rcases find_hit n v S 0 with h | ⟨j, hj, h, e⟩
    · exact .inl h
    · exact .inr ⟨j, hj, by simpa using h, e⟩
  · exact .inl rfl

theorem boxed {V : World} {B p : Nat} {v : Value} {S : List Rel} {fs : List (List Nat)} (h : RGrow V B v S fs) (hp : p < B) (a b c d : Value) : RGrow ((((V.setCell ⟨p, 0, none⟩ a).setCell ⟨p, 1, none⟩ b).setCell ⟨p, 2, none⟩ c).setCell ⟨p, 3, none⟩ d).drew B v S fs := by
  have e : ∀ j, j ≠ p → ((((V.setCell ⟨p, 0, none⟩ a).setCell ⟨p, 1, none⟩ b).setCell ⟨p, 2, none⟩ c).setCell ⟨p, 3, none⟩ d).drew.heap[j]? = V.heap[j]? := fun j hj =>
    (Below.heap_setCell _ ⟨p, 3, none⟩ d j hj).trans ((Below.heap_setCell _ ⟨p, 2, none⟩ c j hj).trans ((Below.heap_setCell _ ⟨p, 1, none⟩ b j hj).trans (Below.heap_setCell _ ⟨p, 0, none⟩ a j hj)))
  have z : ((((V.setCell ⟨p, 0, none⟩ a).setCell ⟨p, 1, none⟩ b).setCell ⟨p, 2, none⟩ c).setCell ⟨p, 3, none⟩ d).drew.heap.size = V.heap.size := by simp [World.setCell, World.drew]
  obtain ⟨cs, ho, he, hn, hi⟩ := h
  exact ⟨cs, Copy.own_kept ho (fun k e' => e k (by have := (World.ownsRow.lt ho k e').1; omega)), he.kept fun b k => e b (by have := (hi b k).1; omega), hn, fun b k => ⟨(hi b k).1, by rw [z]; exact (hi b k).2.1, (hi b k).2.2⟩⟩
theorem below_drew {B : Nat} {w V : World} (h : Below B w V) : Below B w V.drew := ⟨h.os, h.tape, h.output, h.size, h.block⟩

def AnyKnown (w : World) (e : Ending) (w' : World) : Prop := ∃ S sa caps, ∃ n a b c d : Int, e = .returned (.tuple #[.slice sa S.length caps, .int .i64 n, ver a b c d]) ∧ RlAt w' w'.heap.size (.slice sa S.length caps) S ∧ S.length ≤ 31 ∧ SzOk S ∧ Below w.heap.size w w'

set_option maxRecDepth 100000 in
set_option maxHeartbeats 2000000 in
theorem DrawShelfAt_any (a : Option Addr) (len cap : Nat) (w : World) (h : CodeIn w a len cap) : Calls Try.prog 7 #[.slice a len cap] w (AnyKnown w) := by
  have v1 := VC.new w
  have s1 : w.heap.size < (w.alloc (.cells #[.int .i64 0, .int .i64 0, .int .i64 0, .int .i64 0] 25)).heap.size := by simp
  obtain ⟨w1, hw1⟩ : ∃ V : World, V = w.alloc (.cells #[.int .i64 0, .int .i64 0, .int .i64 0, .int .i64 0] 25) := ⟨_, rfl⟩
  have b1 : Below w.heap.size w w1 := by rw [hw1]; exact (Below.refl _ _).alloc (Nat.le_refl _) _
  have h1 : CodeIn w1 a len cap := codeIn_below h b1
  rw [← hw1] at v1 s1
  go_enter Try.func7, Try.ntmps7
  go_upto_region 1 with fail
  rw [← hw1]
  clear hw1 h
  go_wp2_with fail
  refine (open_any a len cap _ h1).mono ?_
  rintro e w2 ⟨rfl, hr2, hb2⟩
  have v2 := v1.below hb2 s1
  have s2 : w.heap.size < w2.heap.size := Nat.lt_of_lt_of_le s1 hb2.size
  have b2 := b1.trans (hb2.mono b1.size)
  have hz2 := rdAt_lt hr2
  clear v1 h1
  go_wp2_with fail
  refine (l20Shelf_any _ 0 4 15 w2 (by omega) hr2 (by omega) (by omega) (by omega)).mono ?_
  rintro e w3 ⟨S, v, fs, rfl, hg, hl, hsz, hd⟩
  have b3 := drawn_below hd b2 (by omega)
  obtain ⟨sa, caps, rfl, hform, hcap⟩ := hg.form
  obtain ⟨q, hq0, hq1, hr3, hg3⟩ := hd
  have v3 := VC.drawn v2 hg3 s2 (by omega)
  have s3 : w.heap.size < w3.heap.size := Nat.lt_of_lt_of_le s2 hg3.size
  have HG := Lib.hid hg
  clear hg hr2 hg3 hb2 v2
  go_wp2_with fail
  refine (l20Known_any _ q w2.heap.size sa caps S fs w3 hr3 (by omega) HG.out (by omega) hl).mono ?_
  rintro e w4 ⟨n, va, vb, vc, vd, rfl, hd⟩
  have b4 := drawn_below hd b3 (by omega)
  obtain ⟨q', _, _, _, hg4⟩ := hd
  have v4 := VC.drawn v3 hg4 s3 (by omega)
  have s4 : w.heap.size < w4.heap.size := Nat.lt_of_lt_of_le s3 hg4.size
  have HG4 := Lib.hid (HG.out.drawn hg4 (by omega))
  clear hg4 hr3 v3
  obtain ⟨w5, hw5⟩ : ∃ V : World, V = w4.alloc (.cells #[.int .i64 va, .int .i64 vb, .int .i64 vc, .int .i64 vd] 25) := ⟨_, rfl⟩
  have b5 := b4.trans ((show Below w4.heap.size w4 w5 by rw [hw5]; exact (Below.refl _ _).alloc (Nat.le_refl _) _).mono b4.size)
  have z45 : w4.heap.size + 1 ≤ w5.heap.size := by rw [hw5]; simp
  have v5 : VC w5 w.heap.size := by rw [hw5]; exact VC.alloc v4 s4 _
  have HG5 := Lib.hid (show RGrow w5 w2.heap.size (.slice sa S.length caps) S fs by rw [hw5]; exact HG4.out.below ((Below.refl _ _).alloc (Nat.le_refl _) _))
  have HAE := Lib.hid (boxed HG5.out (p := w.heap.size) (by omega) (.int .i64 va) (.int .i64 vb) (.int .i64 vc) (.int .i64 vd)).at
  have c0 : w5.cell? ⟨w4.heap.size, 0, none⟩ = some (.int .i64 va) := by rw [hw5]; go_simp
  have c1 : w5.cell? ⟨w4.heap.size, 1, none⟩ = some (.int .i64 vb) := by rw [hw5]; go_simp
  have c2 : w5.cell? ⟨w4.heap.size, 2, none⟩ = some (.int .i64 vc) := by rw [hw5]; go_simp
  have c3 : w5.cell? ⟨w4.heap.size, 3, none⟩ = some (.int .i64 vd) := by rw [hw5]; go_simp
  clear v4
  obtain ⟨u0, u1, u2, u3⟩ := v5.stored (.int .i64 va) (.int .i64 vb) (.int .i64 vc) (.int .i64 vd)
  have NB := Lib.hid (b5.stored (Nat.le_refl _) (.int .i64 va) (.int .i64 vb) (.int .i64 vc) (.int .i64 vd))
  obtain ⟨x0, x1, x2, x3, y0, y1, y2, y3, g0, g1, g2, g3⟩ := v5
  go_upto_region 4 with fail
  rw [← hw5]
  clear hw5
  go_region
  all_goals
    go_wp2_with fail
    exact bodyPost_ret (v := .tuple #[.slice sa S.length caps, .int .i64 n, ver va vb vc vd]) (by simp [results, Try.results7, go_sem, u0, u1, u2, u3]) rfl ⟨S, sa, caps, n, va, vb, vc, vd, rfl, HAE.out, hl, hsz, below_drew NB.out⟩

set_option maxRecDepth 100000 in
set_option maxHeartbeats 8000000 in
theorem shelfAtP_short (a : Option Addr) (len cap : Nat) (w : World) (h : CodeIn w a len cap) (hl : len ≤ 1048576) :
    Calls Try.prog 3 #[.slice a len cap] w fun e w' => e = .returned (.bool true) ∧ Below w.heap.size w w' := by
  go_enter Try.func3, Try.ntmps3
  go_wp2_with fail
  refine (DrawShelfAt_any a len cap w h).mono ?_
  rintro e w1 ⟨S, sa, caps, n, va, vb, vc, vd, rfl, hat1, hl31, hsz, b1⟩
  have hl' : S.length ≤ 1048576 := by omega
  have hq := hsz.big
  have KI : Hid (∀ V, RlAt V V.heap.size (.slice sa S.length caps) S → Calls Try.prog 8 #[.slice sa S.length caps, .int .i64 n, ver va vb vc vd] V fun e w' => e = .returned (.int .i64 (shAt S n (va, vb, vc, vd))) ∧ Below V.heap.size V w') := Lib.hid fun V g => implShelfAt_any _ S n va vb vc vd V hl' hq g
  have KS : Hid (∀ V, RlAt V V.heap.size (.slice sa S.length caps) S → Calls Try.prog 9 #[.slice sa S.length caps, .int .i64 n, ver va vb vc vd] V fun e w' => e = .returned (.int .i64 (shAt S n (va, vb, vc, vd))) ∧ Below V.heap.size V w') := Lib.hid fun V g => specShelfAt_any _ S n va vb vc vd V hl' hq g
  have KV : Hid (∀ V, Calls Try.prog 10 #[] V fun e w' => e = .returned (.bool true) ∧ Below V.heap.size V w') := Lib.hid fun V => alive_any V
  have H := Lib.hid hat1
  obtain ⟨w2, hw2⟩ : ∃ V : World, V = w1.alloc (.cells #[.int .i64 va, .int .i64 vb, .int .i64 vc, .int .i64 vd] 25) := ⟨_, rfl⟩
  have b2 : Below w1.heap.size w1 w2 := by rw [hw2]; exact (Below.refl _ _).alloc (Nat.le_refl _) _
  have z12 : w1.heap.size + 1 ≤ w2.heap.size := by rw [hw2]; simp
  have c0 : w2.cell? ⟨w1.heap.size, 0, none⟩ = some (.int .i64 va) := by rw [hw2]; go_simp
  have c1 : w2.cell? ⟨w1.heap.size, 1, none⟩ = some (.int .i64 vb) := by rw [hw2]; go_simp
  have c2 : w2.cell? ⟨w1.heap.size, 2, none⟩ = some (.int .i64 vc) := by rw [hw2]; go_simp
  have c3 : w2.cell? ⟨w1.heap.size, 3, none⟩ = some (.int .i64 vd) := by rw [hw2]; go_simp
  clear hat1 h hsz
  go_upto_region 4 with fail
  rw [← hw2]
  clear hw2
  rcases at_hit S n (va, vb, vc, vd) with hx | ⟨j, hj, hx, hn, hv⟩
  · rw [hx] at KI KS
    clear hx
    go_wp2_with fail
    refine (KI.out _ (H.out.stepAt b2)).mono ?_
    rintro e w3 ⟨rfl, hb⟩
    have n3 := b2.trans (hb.mono b2.size)
    have HA3 := Lib.hid (H.out.stepAt n3)
    have z13 : w1.heap.size < w3.heap.size := by have := hb.size; omega
    have d0 := cell_regrown ((hb.cell (p := ⟨w1.heap.size, 0, none⟩) (by show w1.heap.size < w2.heap.size; omega)).trans c0)
    have d1 := cell_regrown ((hb.cell (p := ⟨w1.heap.size, 1, none⟩) (by show w1.heap.size < w2.heap.size; omega)).trans c1)
    have d2 := cell_regrown ((hb.cell (p := ⟨w1.heap.size, 2, none⟩) (by show w1.heap.size < w2.heap.size; omega)).trans c2)
    have d3 := cell_regrown ((hb.cell (p := ⟨w1.heap.size, 3, none⟩) (by show w1.heap.size < w2.heap.size; omega)).trans c3)
    clear hb c0 c1 c2 c3
    go_wp2_with fail
    refine wp_region_quiet_below (by kernel_rfl) (by kernel_rfl) ?_
    repeat (any_goals (first | go_big_quiet_step ((first | (go_at_call 9; exact Calls.regrown_of (KS.out _ (HA3.out.stepAt (below_regrown _ _ _)))) | (go_at_call 10; exact Calls.regrown_of (KV.out _)))) | quiet_step ((first | (go_at_call 9; exact Calls.regrown_of (KS.out _ (HA3.out.stepAt (below_regrown _ _ _)))) | (go_at_call 10; exact Calls.regrown_of (KV.out _))))))
    refine wpQuiet_nil ?_
    intro W2 hw2
    have nn := quiet_end hw2
    clear hw2 d0 d1 d2 d3
    go_wp2_with fail
    go_ret
    exact ⟨rfl, b1.trans ((n3.trans (nn.mono n3.size)).mono b1.size)⟩
  · rw [hx] at KI KS
    clear hx
    obtain ⟨b, o, hsa, hB, hc⟩ : ∃ b o, sa = some ⟨b, o, none⟩ ∧ b < w1.heap.size ∧ ∀ i (h : i < S.length), RlC w1 w1.heap.size b (o + i * 7) S[i] := by
      obtain ⟨a', c', e, hh⟩ := H.out
      simp only [Value.slice.injEq] at e
      obtain ⟨rfl, _, _⟩ := e
      rcases hh with rfl | ⟨b, o, e, hB, hc⟩
      · simp at hj
      · exact ⟨b, o, e, hB, hc⟩
    subst hsa
    obtain ⟨⟨e0, e1, e2, e3, e4, _⟩, _⟩ := hc j hj
    rw [hn] at e0
    rw [hv] at e1 e2 e3 e4
    simp only at e0 e1 e2 e3 e4
    have j0 : (0 : Int) ≤ (j : Int) := by omega
    have j1 : (j : Int) < (S.length : Int) := by omega
    have jn : decide ((j : Int) < 0) = false := decide_eq_false (by omega)
    have hva := ver_alike' (a := va) (b := vb) (c := vc) (d := vd) (p := va) (q := vb) (r := vc) (s := vd) ⟨rfl, rfl, rfl, rfl⟩
    clear hc hn hv
    go_wp2_with fail
    refine (KI.out _ (H.out.stepAt b2)).mono ?_
    rintro e w3 ⟨rfl, hb⟩
    have n3 := b2.trans (hb.mono b2.size)
    have HA3 := Lib.hid (H.out.stepAt n3)
    have z13 : w1.heap.size < w3.heap.size := by have := hb.size; omega
    have d0 := cell_regrown ((hb.cell (p := ⟨w1.heap.size, 0, none⟩) (by show w1.heap.size < w2.heap.size; omega)).trans c0)
    have d1 := cell_regrown ((hb.cell (p := ⟨w1.heap.size, 1, none⟩) (by show w1.heap.size < w2.heap.size; omega)).trans c1)
    have d2 := cell_regrown ((hb.cell (p := ⟨w1.heap.size, 2, none⟩) (by show w1.heap.size < w2.heap.size; omega)).trans c2)
    have d3 := cell_regrown ((hb.cell (p := ⟨w1.heap.size, 3, none⟩) (by show w1.heap.size < w2.heap.size; omega)).trans c3)
    have t0 := cell_regrown ((n3.cell (p := ⟨b, o + j * 7, none⟩) hB).trans e0)
    have t1 := cell_regrown ((n3.cell (p := ⟨b, o + j * 7 + 1, none⟩) hB).trans e1)
    have t2 := cell_regrown ((n3.cell (p := ⟨b, o + j * 7 + 2, none⟩) hB).trans e2)
    have t3 := cell_regrown ((n3.cell (p := ⟨b, o + j * 7 + 3, none⟩) hB).trans e3)
    have t4 := cell_regrown ((n3.cell (p := ⟨b, o + j * 7 + 4, none⟩) hB).trans e4)
    clear hb c0 c1 c2 c3 e0 e1 e2 e3 e4
    go_wp2_with fail
    refine wp_region_quiet_below (by kernel_rfl) (by kernel_rfl) ?_
    repeat (any_goals (first | go_big_quiet_step ((first | (go_at_call 9; exact Calls.regrown_of (KS.out _ (HA3.out.stepAt (below_regrown _ _ _)))) | (go_at_call 10; exact Calls.regrown_of (KV.out _)))) | quiet_step ((first | (go_at_call 9; exact Calls.regrown_of (KS.out _ (HA3.out.stepAt (below_regrown _ _ _)))) | (go_at_call 10; exact Calls.regrown_of (KV.out _))))))
    refine wpQuiet_nil ?_
    intro W2 hw2
    have nn := quiet_end hw2
    clear hw2 d0 d1 d2 d3 t0 t1 t2 t3 t4
    go_wp2_with fail
    go_ret
    exact ⟨rfl, b1.trans ((n3.trans (nn.mono n3.size)).mono b1.size)⟩

set_option maxRecDepth 100000 in
set_option maxHeartbeats 1000000 in
theorem shelfAtP_long (a : Option Addr) (len cap : Nat) (w : World) (hl : 1048576 < len) :
    Calls Try.prog 3 #[.slice a len cap] w fun e w' => e = .returned (.bool true) ∧ Below w.heap.size w w' := by
  go_enter Try.func3, Try.ntmps3
  go_wp2
  go_ret
  exact ⟨rfl, Below.refl _ _⟩

theorem shelfAtP_walk (a : Option Addr) (len cap : Nat) (w : World) (h : CodeIn w a len cap) :
    Calls Try.prog 3 #[.slice a len cap] w fun e w' => e = .returned (.bool true) ∧ Below w.heap.size w w' := by
  by_cases hl : len ≤ 1048576
  · exact shelfAtP_short a len cap w h hl
  · exact shelfAtP_long a len cap w (by omega)
end Psa

set_option maxRecDepth 100000 in
theorem shelfAtP_holds : Rows.FnShelfAtSaid :=
  OpenClaim.holds_of_wide 3 Try.f3 rfl rfl rfl rfl rfl rfl rfl ⟨rfl, rfl, rfl, rfl, rfl⟩ rfl rfl rfl rfl rfl (by kernel_rfl) Try.func3 (by kernel_rfl)
    (of_decide_eq_true (by kernel_rfl)) (by unfold Func.isWrapper; rw [if_neg (by decide +kernel)]; exact ⟨rfl, rfl⟩)
    (fun os started H enc _ => law_lifted (s := Rows.fnShelfAtSpec) (tb := 4) own started laid (by kernel_rfl) Try.func3 rfl (by kernel_rfl) Try.underlying4 (by kernel_rfl)
      (fun ds h => by rw [Try.params3] at h; match ds, h with | [_], _ => rfl)
      (ChangeSpec.witness6 (enc := enc) (C := Try.checked) false ⟨#[], #[.slice none 0 0], []⟩ 8 (by kernel_rfl) (by kernel_rfl) (by kernel_rfl) (by kernel_rfl))
      (law_code Try.params3 Psa.shelfAtP_walk))
#print axioms shelfAtP_holds

end Go.Proofs.Ytblecmmebmfhiaa

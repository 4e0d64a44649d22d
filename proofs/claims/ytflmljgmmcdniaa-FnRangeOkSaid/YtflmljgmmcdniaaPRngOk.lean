/- At every code the law FnRangeOk returns true: the program and the model agree on whether the drawn one is a range; nothing is one, and all versions; one with its first span twice is none. No condition. -/
import Derived.Test.YtflmljgmmcdniaaDrngd
import Derived.Test.YtflmljgmmcdniaaSame
import Derived.Test.YtflmljgmmcdniaaRlaw
import Derived.Test.YtflmljgmmcdniaaStp
import Derived.Test.YtflmljgmmcdniaaSb
import Derived.Test.YtflmljgmmcdniaaDdraw
import Derived.Test.YtflmljgmmcdniaaPsm
import Derived.Test.YtflmljgmmcdniaaImone
import Derived.Test.YtflmljgmmcdniaaSpone
import Derived.Test.YtflmljgmmcdniaaTxs
import Derived.Test.YtflmljgmmcdniaaSkip
import Derived.Test.YtflmljgmmcdniaaSown
import Derived.Deep.RegionHeld3
namespace Go.Proofs.Ytflmljgmmcdniaa
open Go.ChangeShapes Go.WideShapes Go.ChangeAt Go.RowKit Go.Joins Go.Sort

theorem flat_news {w : World} {B b o cap : Nat} {L : Sps} (h : SpAt w B (.slice (some ⟨b, o, none⟩) L.length cap) L) : ∀ j u, (flat L)[j]? = some u → w.cell? ((⟨b, o, none⟩ : Addr).add j) = some u := by
  intro j u hj
  have hlt : j < L.length * 2 := by have := (List.getElem?_eq_some_iff.1 hj).1; rwa [flat_len] at this
  obtain ⟨a, c, e, h⟩ := h
  simp only [Value.slice.injEq] at e
  obtain ⟨e1, _, _⟩ := e
  rcases h with rfl | ⟨b', o', e2, _, hc⟩
  · simp at hlt
  · rw [← e1] at e2
    simp only [Option.some.injEq, Addr.mk.injEq, and_true] at e2
    obtain ⟨rfl, rfl⟩ := e2
    have hadd : (⟨b, o, none⟩ : Addr).add j = ⟨b, o + j, none⟩ := by unfold Addr.add; split <;> simp_all
    rw [hadd]
    have hi : j / 2 < L.length := by omega
    obtain ⟨c0, c1⟩ := hc (j / 2) hi
    obtain ⟨f0, f1⟩ := flat_at L (j / 2) hi
    rcases Nat.mod_two_eq_zero_or_one j with hm | hm
    · have ej : j = j / 2 * 2 := by omega
      rw [ej] at hj
      rw [f0] at hj
      rw [ej, c0]
      exact hj
    · have ej : j = j / 2 * 2 + 1 := by omega
      rw [ej] at hj
      rw [f1] at hj
      rw [ej, ← Nat.add_assoc, c1]
      exact hj
theorem SpAt.stepTo {L : Sps} {u : Value} {w V : World} (h : SpAt w w.heap.size u L) (hb : Below w.heap.size w V) : SpAt V V.heap.size u L := (h.below hb).mono hb.size
theorem below_far {W V wy : World} {H : Nat} (hb : Below W.heap.size W V) (hg : V.grownBy wy (some H)) (hH : W.heap.size ≤ H) : Below W.heap.size W wy :=
  ⟨hg.os.trans hb.os, hg.tape.trans hb.tape, hg.output.trans hb.output, Nat.le_trans hb.size hg.size, fun k hk => (hg.block k (by have := hb.size; omega) (fun e => by injection e with e; omega)).trans (hb.block k hk)⟩
theorem row_at {wy : World} {B g cg : Nat} {x y : Int} {A : Sps} (h : wy.ownsRow B 40 2 (.slice (some ⟨g, 0, none⟩) (1 + A.length) cg) (1 + A.length) ([.int .i64 x, .int .i64 y] ++ flat A)) : SpAt wy wy.heap.size (.slice (some ⟨g, 0, none⟩) (1 + A.length) cg) ((x, y) :: A) := by
  rw [Nat.add_comm] at h ⊢
  have ho : Owns wy B (.slice (some ⟨g, 0, none⟩) (A.length + 1) cg) ((x, y) :: A) := h
  exact ho.res.at
theorem flat_one : ∀ L : Sps, ∀ u ∈ flat L, u.oneCell' = true
  | [], u, h => by simp [flat] at h
  | (a, b) :: t, u, h => by
    simp only [flat, List.mem_cons] at h
    rcases h with rfl | rfl | h
    · rfl
    · rfl
    · exact flat_one t u h
theorem made_one {V W : World} {x y : Int} (h : W.heap = (V.alloc (.cells #[.int .i64 x, .int .i64 y] 40)).heap) : Owns W V.heap.size (.slice (some ⟨V.heap.size, 0, none⟩) 1 1) [(x, y)] := by
  refine own_one ⟨#[.int .i64 x, .int .i64 y], by rw [h]; exact heap_alloc_new V _, rfl, Nat.le_refl _, fun i hi => ?_⟩ (Nat.le_refl _)
  obtain rfl : i = 0 := by simpa using hi
  exact ⟨rfl, rfl⟩

set_option maxRecDepth 100000 in
set_option maxHeartbeats 8000000 in
theorem rangeOkP_short (a : Option Addr) (len cap : Nat) (w : World) (h : CodeIn w a len cap) (hl : len ≤ 1048576) :
    Calls Try.prog 5 #[.slice a len cap] w fun e w' => e = .returned (.bool true) ∧ Below w.heap.size w w' := by
  go_enter Try.func5, Try.ntmps5
  go_wp2_with fail
  refine (DrawRangeOk_any a len cap w h).mono ?_
  rintro e w1 ⟨A, u0, rfl, q0, hA41, b1⟩
  obtain ⟨d0, e0, rfl, _⟩ := id q0
  have rA := (q0.mono (Nat.zero_le _)).sb
  have hA : A.length ≤ 1048576 := by omega
  have z1 := b1.size
  clear h q0
  have KO : Hid (∀ V u, SpAt V V.heap.size u A → Calls Try.prog 24 #[.agg #[u]] V fun e w' => e = .returned (.bool (spOk A)) ∧ Below V.heap.size V w') := Lib.hid fun V u h => rngOk_is hA h
  have KS : Hid (∀ V u, SpAt V V.heap.size u A → Calls Try.prog 25 #[.agg #[u]] V fun e w' => e = .returned (.bool (spOk A)) ∧ Below V.heap.size V w') := Lib.hid fun V u h => srngOk_is hA h
  have KN : Hid (∀ V, Calls Try.prog 24 #[.agg #[.slice none 0 0]] V fun e w' => e = .returned (.bool true) ∧ Below V.heap.size V w') := Lib.hid fun V => rngOk_true (L := []) (by simp) nil_ok ⟨_, _, rfl, .inl rfl⟩
  have KA : Hid (∀ V u, SpAt V V.heap.size u [(0, 9999999)] → Calls Try.prog 24 #[.agg #[u]] V fun e w' => e = .returned (.bool true) ∧ Below V.heap.size V w') := Lib.hid fun V u h => rngOk_true (L := [(0, 9999999)]) (by simp) all_ok h
  generalize spOk A = ok at *
  go_wp2_with fail
  refine (KO.out _ _ (SB.stepAt rA (by go_grown))).mono ?_
  rintro e w2 ⟨rfl, hb⟩
  have nw2 : Below w1.heap.size w1 w2 := Below.step (by go_grown) hb
  have sw2 : w1.heap.size + 1 ≤ w2.heap.size := by have := hb.size; simp at this; omega
  have cw2_0_0 : w2.cell? ⟨w1.heap.size, 0, none⟩ = some (.slice d0 A.length e0) := (hb.cell (p := ⟨w1.heap.size, 0, none⟩) (by first | (simp; done) | (simp; omega))).trans (by go_simp)
  have rw2_A := SB.step rA (by go_grown) hb
  have bw2 := b1.trans (nw2.mono b1.size)
  clear rA b1 nw2 hb
  have lw2_0 : w1.heap.size < w2.heap.size := by omega
  cases ok
  · go_wp2_with fail
    refine (KS.out _ _ (SB.stepAt rw2_A (by go_grown))).mono ?_
    rintro e w3 ⟨rfl, hb⟩
    have nw3 : Below w2.heap.size w2 w3 := Below.step (by go_grown) hb
    have sw3 : w2.heap.size ≤ w3.heap.size := nw3.size
    have cw3_0_0 := (nw3.cell (p := ⟨w1.heap.size, 0, none⟩) (by show w1.heap.size < w2.heap.size; omega)).trans cw2_0_0
    have rw3_A := SB.step rw2_A (by go_grown) hb
    have bw3 := bw2.trans (nw3.mono bw2.size)
    clear cw2_0_0 rw2_A bw2 lw2_0 nw3 hb
    have lw3_0 : w1.heap.size < w3.heap.size := by omega
    go_wp2_with fail
    refine (KN.out _).mono ?_
    rintro e w4 ⟨rfl, hb⟩
    have nw4 : Below w3.heap.size w3 w4 := Below.step (by go_grown) hb
    have sw4 : w3.heap.size ≤ w4.heap.size := nw4.size
    have cw4_0_0 := (nw4.cell (p := ⟨w1.heap.size, 0, none⟩) (by show w1.heap.size < w3.heap.size; omega)).trans cw3_0_0
    have rw4_A := SB.step rw3_A (by go_grown) hb
    have bw4 := bw3.trans (nw4.mono bw3.size)
    clear cw3_0_0 rw3_A bw3 lw3_0 nw4 hb
    have lw4_0 : w1.heap.size < w4.heap.size := by omega
    go_wp2_with fail
    refine (implAll_any _).mono ?_
    rintro e w5 ⟨u5, rfl, q5, hb⟩
    obtain ⟨a5, k5, rfl, _⟩ := id q5
    have rw5_g5 := (q5.mono (Nat.zero_le _)).sb
    clear q5
    have nw5 : Below w4.heap.size w4 w5 := Below.step (by go_grown) hb
    have sw5 : w4.heap.size ≤ w5.heap.size := nw5.size
    have cw5_0_0 := (nw5.cell (p := ⟨w1.heap.size, 0, none⟩) (by show w1.heap.size < w4.heap.size; omega)).trans cw4_0_0
    have rw5_A := SB.step rw4_A (by go_grown) hb
    have bw5 := bw4.trans (nw5.mono bw4.size)
    clear cw4_0_0 rw4_A bw4 lw4_0 nw5 hb
    have lw5_0 : w1.heap.size < w5.heap.size := by omega
    go_wp2_with fail
    refine ((specAll_any _).mono fun _ _ h => h.rp).mono ?_
    rintro e w6 ⟨u6, rfl, q6, hb⟩
    obtain ⟨a6, k6, rfl, _⟩ := id q6
    have rw6_g6 := (q6.mono (Nat.zero_le _)).sb
    clear q6
    have nw6 : Below w5.heap.size w5 w6 := Below.step (by go_grown) hb
    have sw6 : w5.heap.size ≤ w6.heap.size := nw6.size
    have cw6_0_0 := (nw6.cell (p := ⟨w1.heap.size, 0, none⟩) (by show w1.heap.size < w5.heap.size; omega)).trans cw5_0_0
    have rw6_A := SB.step rw5_A (by go_grown) hb
    have rw6_g5 := SB.step rw5_g5 (by go_grown) hb
    have bw6 := bw5.trans (nw6.mono bw5.size)
    clear cw5_0_0 rw5_A rw5_g5 bw5 lw5_0 nw6 hb
    have lw6_0 : w1.heap.size < w6.heap.size := by omega
    go_wp2_with fail
    refine (same_true (L := [(0, 9999999)]) (by simp) (SB.stepAt rw6_g5 (by go_grown)) (SB.stepAt rw6_g6 (by go_grown))).mono ?_
    rintro e w7 ⟨rfl, hb⟩
    have nw7 : Below w6.heap.size w6 w7 := Below.step (by go_grown) hb
    have sw7 : w6.heap.size ≤ w7.heap.size := nw7.size
    have cw7_0_0 := (nw7.cell (p := ⟨w1.heap.size, 0, none⟩) (by show w1.heap.size < w6.heap.size; omega)).trans cw6_0_0
    have rw7_A := SB.step rw6_A (by go_grown) hb
    have rw7_g5 := SB.step rw6_g5 (by go_grown) hb
    have rw7_g6 := SB.step rw6_g6 (by go_grown) hb
    have bw7 := bw6.trans (nw7.mono bw6.size)
    clear cw6_0_0 rw6_A rw6_g5 rw6_g6 bw6 lw6_0 nw7 hb
    have lw7_0 : w1.heap.size < w7.heap.size := by omega
    go_wp2_with fail
    refine (implAll_any _).mono ?_
    rintro e w8 ⟨u8, rfl, q8, hb⟩
    obtain ⟨a8, k8, rfl, _⟩ := id q8
    have rw8_g8 := (q8.mono (Nat.zero_le _)).sb
    clear q8
    have nw8 : Below w7.heap.size w7 w8 := Below.step (by go_grown) hb
    have sw8 : w7.heap.size ≤ w8.heap.size := nw8.size
    have cw8_0_0 := (nw8.cell (p := ⟨w1.heap.size, 0, none⟩) (by show w1.heap.size < w7.heap.size; omega)).trans cw7_0_0
    have rw8_A := SB.step rw7_A (by go_grown) hb
    have rw8_g5 := SB.step rw7_g5 (by go_grown) hb
    have rw8_g6 := SB.step rw7_g6 (by go_grown) hb
    have bw8 := bw7.trans (nw8.mono bw7.size)
    clear cw7_0_0 rw7_A rw7_g5 rw7_g6 bw7 lw7_0 nw8 hb
    have lw8_0 : w1.heap.size < w8.heap.size := by omega
    go_wp2_with fail
    refine (KA.out _ _ (SB.stepAt rw8_g8 (by go_grown))).mono ?_
    rintro e w9 ⟨rfl, hb⟩
    have nw9 : Below w8.heap.size w8 w9 := Below.step (by go_grown) hb
    have sw9 : w8.heap.size ≤ w9.heap.size := nw9.size
    have cw9_0_0 := (nw9.cell (p := ⟨w1.heap.size, 0, none⟩) (by show w1.heap.size < w8.heap.size; omega)).trans cw8_0_0
    have rw9_A := SB.step rw8_A (by go_grown) hb
    have rw9_g5 := SB.step rw8_g5 (by go_grown) hb
    have rw9_g6 := SB.step rw8_g6 (by go_grown) hb
    have rw9_g8 := SB.step rw8_g8 (by go_grown) hb
    have bw9 := bw8.trans (nw9.mono bw8.size)
    clear cw8_0_0 rw8_A rw8_g5 rw8_g6 rw8_g8 bw8 lw8_0 nw9 hb
    have lw9_0 : w1.heap.size < w9.heap.size := by omega
    rcases A with _ | ⟨⟨x, y⟩, t⟩
    · simp only [List.length_nil] at cw9_0_0
      go_wp2_with fail
      refine wp_region_noPanic ?_
      refine wp_region_held_drew (S := fun V => V.cell? ⟨w1.heap.size, 0, none⟩ = some (.slice d0 0 e0)) (by kernel_rfl) ?_ (fun hHeld => ?_)
      · go_keep
      refine xtake0 (v := ?v0False) (by kernel_rfl) (by kernel_rfl) (by kernel_rfl) (fun _ _ _ h => h) (by rfl) ?y0False (by assumption) ?r0False
      case y0False => (intro w hSw; (try dsimp only at hSw); go_simp; (try with_reducible rfl))
      (try simp only [Act.put, List.setIfInBounds_toArray, List.set_cons_zero, List.set_cons_succ])
      refine xtake1 (v := ?v1False) (by kernel_rfl) (by kernel_rfl) (by kernel_rfl) (fun _ _ _ h => h) (by rfl) ?y1False (by assumption) ?r1False
      case y1False => (intro w hSw; (try dsimp only at hSw); go_simp; (try with_reducible rfl))
      (try simp only [Act.put, List.setIfInBounds_toArray, List.set_cons_zero, List.set_cons_succ])
      refine xtake2 (v := ?v2False) (by kernel_rfl) (by kernel_rfl) (by kernel_rfl) (fun _ _ _ h => h) (by rfl) ?y2False (by assumption) ?r2False
      case y2False => (intro w hSw; (try dsimp only at hSw); go_simp; (try with_reducible rfl))
      (try simp only [Act.put, List.setIfInBounds_toArray, List.set_cons_zero, List.set_cons_succ])
      refine xtake3 (v := ?v3False) (by kernel_rfl) (by kernel_rfl) (by kernel_rfl) (fun _ _ _ h => h) (by rfl) ?y3False (by assumption) ?r3False
      case y3False => (intro w hSw; (try dsimp only at hSw); go_simp; (try with_reducible rfl))
      (try simp only [Act.put, List.setIfInBounds_toArray, List.set_cons_zero, List.set_cons_succ])
      refine xtake4 (v := ?v4False) (by kernel_rfl) (by kernel_rfl) (by kernel_rfl) (fun _ _ _ h => h) (by rfl) ?y4False (by assumption) ?r4False
      case y4False => (intro w hSw; (try dsimp only at hSw); go_simp; (try with_reducible rfl))
      (try simp only [Act.put, List.setIfInBounds_toArray, List.set_cons_zero, List.set_cons_succ])
      refine skip5 (by kernel_rfl) (by kernel_rfl) (by kernel_rfl) (fun _ _ _ h => h) (by rfl) (by assumption) ?_
      (try simp only [Act.put, List.setIfInBounds_toArray, List.set_cons_zero, List.set_cons_succ])
      refine skip6 (by kernel_rfl) (by kernel_rfl) (by kernel_rfl) (fun _ _ _ h => h) (by rfl) (by assumption) ?_
      (try simp only [Act.put, List.setIfInBounds_toArray, List.set_cons_zero, List.set_cons_succ])
      refine skip7 (by kernel_rfl) (by kernel_rfl) (by kernel_rfl) (fun _ _ _ h => h) (by rfl) (by assumption) ?_
      (try simp only [Act.put, List.setIfInBounds_toArray, List.set_cons_zero, List.set_cons_succ])
      refine skip8 (by kernel_rfl) (by kernel_rfl) (by kernel_rfl) (fun _ _ _ h => h) (by rfl) (by assumption) ?_
      (try simp only [Act.put, List.setIfInBounds_toArray, List.set_cons_zero, List.set_cons_succ])
      refine skip9 (by kernel_rfl) (by kernel_rfl) (by kernel_rfl) (fun _ _ _ h => h) (by rfl) (by assumption) ?_
      (try simp only [Act.put, List.setIfInBounds_toArray, List.set_cons_zero, List.set_cons_succ])
      refine skip10 (by kernel_rfl) (by kernel_rfl) (by kernel_rfl) (fun _ _ _ h => h) (by rfl) (by assumption) ?_
      (try simp only [Act.put, List.setIfInBounds_toArray, List.set_cons_zero, List.set_cons_succ])
      refine skip11 (by kernel_rfl) (by kernel_rfl) (by kernel_rfl) (fun _ _ _ h => h) (by rfl) (by assumption) ?_
      (try simp only [Act.put, List.setIfInBounds_toArray, List.set_cons_zero, List.set_cons_succ])
      refine skip12 (by kernel_rfl) (by kernel_rfl) (by kernel_rfl) (fun _ _ _ h => h) (by rfl) (by assumption) ?_
      (try simp only [Act.put, List.setIfInBounds_toArray, List.set_cons_zero, List.set_cons_succ])
      refine skip13 (by kernel_rfl) (by kernel_rfl) (by kernel_rfl) (fun _ _ _ h => h) (by rfl) (by assumption) ?_
      (try simp only [Act.put, List.setIfInBounds_toArray, List.set_cons_zero, List.set_cons_succ])
      refine skip14 (by kernel_rfl) (by kernel_rfl) (by kernel_rfl) (fun _ _ _ h => h) (by rfl) (by assumption) ?_
      (try simp only [Act.put, List.setIfInBounds_toArray, List.set_cons_zero, List.set_cons_succ])
      refine skip15 (by kernel_rfl) (by kernel_rfl) (by kernel_rfl) (fun _ _ _ h => h) (by rfl) (by assumption) ?_
      (try simp only [Act.put, List.setIfInBounds_toArray, List.set_cons_zero, List.set_cons_succ])
      refine xtake16 (v := ?v16False) (by kernel_rfl) (by kernel_rfl) (by kernel_rfl) (fun _ _ _ h => h) (by rfl) ?y16False (by assumption) ?r16False
      case y16False => (intro w hSw; (try dsimp only at hSw); go_simp; (try with_reducible rfl))
      (try simp only [Act.put, List.setIfInBounds_toArray, List.set_cons_zero, List.set_cons_succ])
      refine xtake17 (v := ?v17False) (by kernel_rfl) (by kernel_rfl) (by kernel_rfl) (fun _ _ _ h => h) (by rfl) ?y17False (by assumption) ?r17False
      case y17False => (intro w hSw; (try dsimp only at hSw); go_simp; (try with_reducible rfl))
      (try simp only [Act.put, List.setIfInBounds_toArray, List.set_cons_zero, List.set_cons_succ])
      refine wpAnyH_done (by kernel_rfl) ?_ _
      refine NoPanic.normal ?_
      go_wp2_with fail
      go_ret
      exact ⟨rfl, bw9.trans ((show Below w9.heap.size w9 _ from by go_grown).mono bw9.size)⟩
    · obtain ⟨ax, cx, e1, hc⟩ := (rw9_A).at
      simp only [Value.slice.injEq] at e1
      obtain ⟨rfl, e2, rfl⟩ := e1
      clear e2
      rcases hc with hc | ⟨bb, o, rfl, hB, hc⟩
      · exact absurd hc (by simp)
      obtain ⟨c0, c1⟩ := hc 0 (by simp)
      simp only [List.getElem_cons_zero, Nat.zero_mul, Nat.add_zero] at c0 c1
      clear hc
      have hlen : 0 < ((x, y) :: t : Sps).length := by simp
      have hlI : (0 : Int) < ((((x, y) :: t : Sps).length : Nat) : Int) := by omega
      have hlZ : (((((x, y) :: t : Sps).length : Nat) : Int) == 0) = false := by rw [beq_eq_false_iff_ne]; omega
      have hTW := Lib.hid (twice_none (x, y) t)
      have KD : Hid (∀ V u, SpAt V V.heap.size u ((x, y) :: (x, y) :: t) → Calls Try.prog 24 #[.agg #[u]] V fun e w' => e = .returned (.bool false) ∧ Below V.heap.size V w') := Lib.hid fun V u h => by have := rngOk_is (by simp only [List.length_cons] at hA41 ⊢; omega) h; rwa [twice_none] at this
      have HR := Lib.hid rw9_A
      obtain ⟨A, hAe⟩ : ∃ A : Sps, (x, y) :: t = A := ⟨_, rfl⟩
      have HAE := Lib.hid hAe
      have hbx : w9.cell? ⟨w1.heap.size, 0, none⟩ = some (.slice (some ⟨bb, o, none⟩) A.length e0) := by rw [← hAe]; exact cw9_0_0
      clear cw9_0_0
      rw [hAe] at hlen hlI hlZ HR hA41 hA KD
      clear hAe
      obtain ⟨ti, hi, hz0, hz1, hz2⟩ := info_parts infoSpan
      go_wp2_with fail
      go_region_held3 (fun V => V.cell? ⟨w1.heap.size, 0, none⟩ = some (.slice (some ⟨bb, o, none⟩) A.length e0) ∧ V.cell? ⟨bb, o, none⟩ = some (.int .i64 x) ∧ V.cell? ⟨bb, o + 1, none⟩ = some (.int .i64 y)) (go_keep)
        (first
        | (go_at_call 24; refine (KD.out _ _ hsp).mono ?_; rintro e wz ⟨rfl, hbz⟩; have nn : Below w9.heap.size w9 wz := Below.step2 ny hbz; have z0 := (hbz.cell (p := ⟨w1.heap.size, 0, none⟩) (by show w1.heap.size < wy.heap.size; omega)).trans y0; have z1 := (hbz.cell (p := ⟨bb, o, none⟩) (by show bb < wy.heap.size; omega)).trans y1; have z2 := (hbz.cell (p := ⟨bb, o + 1, none⟩) (by show bb < wy.heap.size; omega)).trans y2)
        | ((rw [if_pos (by first | rfl | kernel_rfl | simp [Region.wanted])]); refine wp_append_lies _ _ _ 26 (by rfl) w9.heap.size 40 ti (.agg #[.int .i64 0, .int .i64 0]) 2 16 Try.underlying26 hi hz0 hz1 hz2 rfl (by omega) (.slice (some ⟨w9.heap.size, 0, none⟩) 1 1) 1 [.int .i64 x, .int .i64 y] (by rfl) (made_one rfl) ⟨bb, o, none⟩ A.length _ (flat A) (by rfl) (flat_len A) (flat_news (SB.stepAt HR.out (by go_grown))) (flat_one A) hlen (by unfold maxLen; omega) (by omega) (by simp) _ rfl ?_; intro g cg wy hown hgrow hat hlt; have ny : Below w9.heap.size w9 wy := below_far (by go_grown) hgrow (Nat.le_refl _); have zy := ny.size; have hsp := row_at hown; have y0 := (ny.cell (p := ⟨w1.heap.size, 0, none⟩) (by show w1.heap.size < _; omega)).trans hbx; have y1 := (ny.cell (p := ⟨bb, o, none⟩) hB).trans c0; have y2 := (ny.cell (p := ⟨bb, o + 1, none⟩) hB).trans c1))
      all_goals
        go_wp2_with fail
        go_ret
        exact ⟨rfl, bw9.trans (nn.mono bw9.size)⟩
  · go_wp2_with fail
    refine (KS.out _ _ (SB.stepAt rw2_A (by go_grown))).mono ?_
    rintro e w3 ⟨rfl, hb⟩
    have nw3 : Below w2.heap.size w2 w3 := Below.step (by go_grown) hb
    have sw3 : w2.heap.size ≤ w3.heap.size := nw3.size
    have cw3_0_0 := (nw3.cell (p := ⟨w1.heap.size, 0, none⟩) (by show w1.heap.size < w2.heap.size; omega)).trans cw2_0_0
    have rw3_A := SB.step rw2_A (by go_grown) hb
    have bw3 := bw2.trans (nw3.mono bw2.size)
    clear cw2_0_0 rw2_A bw2 lw2_0 nw3 hb
    have lw3_0 : w1.heap.size < w3.heap.size := by omega
    go_wp2_with fail
    refine (KN.out _).mono ?_
    rintro e w4 ⟨rfl, hb⟩
    have nw4 : Below w3.heap.size w3 w4 := Below.step (by go_grown) hb
    have sw4 : w3.heap.size ≤ w4.heap.size := nw4.size
    have cw4_0_0 := (nw4.cell (p := ⟨w1.heap.size, 0, none⟩) (by show w1.heap.size < w3.heap.size; omega)).trans cw3_0_0
    have rw4_A := SB.step rw3_A (by go_grown) hb
    have bw4 := bw3.trans (nw4.mono bw3.size)
    clear cw3_0_0 rw3_A bw3 lw3_0 nw4 hb
    have lw4_0 : w1.heap.size < w4.heap.size := by omega
    go_wp2_with fail
    refine (implAll_any _).mono ?_
    rintro e w5 ⟨u5, rfl, q5, hb⟩
    obtain ⟨a5, k5, rfl, _⟩ := id q5
    have rw5_g5 := (q5.mono (Nat.zero_le _)).sb
    clear q5
    have nw5 : Below w4.heap.size w4 w5 := Below.step (by go_grown) hb
    have sw5 : w4.heap.size ≤ w5.heap.size := nw5.size
    have cw5_0_0 := (nw5.cell (p := ⟨w1.heap.size, 0, none⟩) (by show w1.heap.size < w4.heap.size; omega)).trans cw4_0_0
    have rw5_A := SB.step rw4_A (by go_grown) hb
    have bw5 := bw4.trans (nw5.mono bw4.size)
    clear cw4_0_0 rw4_A bw4 lw4_0 nw5 hb
    have lw5_0 : w1.heap.size < w5.heap.size := by omega
    go_wp2_with fail
    refine ((specAll_any _).mono fun _ _ h => h.rp).mono ?_
    rintro e w6 ⟨u6, rfl, q6, hb⟩
    obtain ⟨a6, k6, rfl, _⟩ := id q6
    have rw6_g6 := (q6.mono (Nat.zero_le _)).sb
    clear q6
    have nw6 : Below w5.heap.size w5 w6 := Below.step (by go_grown) hb
    have sw6 : w5.heap.size ≤ w6.heap.size := nw6.size
    have cw6_0_0 := (nw6.cell (p := ⟨w1.heap.size, 0, none⟩) (by show w1.heap.size < w5.heap.size; omega)).trans cw5_0_0
    have rw6_A := SB.step rw5_A (by go_grown) hb
    have rw6_g5 := SB.step rw5_g5 (by go_grown) hb
    have bw6 := bw5.trans (nw6.mono bw5.size)
    clear cw5_0_0 rw5_A rw5_g5 bw5 lw5_0 nw6 hb
    have lw6_0 : w1.heap.size < w6.heap.size := by omega
    go_wp2_with fail
    refine (same_true (L := [(0, 9999999)]) (by simp) (SB.stepAt rw6_g5 (by go_grown)) (SB.stepAt rw6_g6 (by go_grown))).mono ?_
    rintro e w7 ⟨rfl, hb⟩
    have nw7 : Below w6.heap.size w6 w7 := Below.step (by go_grown) hb
    have sw7 : w6.heap.size ≤ w7.heap.size := nw7.size
    have cw7_0_0 := (nw7.cell (p := ⟨w1.heap.size, 0, none⟩) (by show w1.heap.size < w6.heap.size; omega)).trans cw6_0_0
    have rw7_A := SB.step rw6_A (by go_grown) hb
    have rw7_g5 := SB.step rw6_g5 (by go_grown) hb
    have rw7_g6 := SB.step rw6_g6 (by go_grown) hb
    have bw7 := bw6.trans (nw7.mono bw6.size)
    clear cw6_0_0 rw6_A rw6_g5 rw6_g6 bw6 lw6_0 nw7 hb
    have lw7_0 : w1.heap.size < w7.heap.size := by omega
    go_wp2_with fail
    refine (implAll_any _).mono ?_
    rintro e w8 ⟨u8, rfl, q8, hb⟩
    obtain ⟨a8, k8, rfl, _⟩ := id q8
    have rw8_g8 := (q8.mono (Nat.zero_le _)).sb
    clear q8
    have nw8 : Below w7.heap.size w7 w8 := Below.step (by go_grown) hb
    have sw8 : w7.heap.size ≤ w8.heap.size := nw8.size
    have cw8_0_0 := (nw8.cell (p := ⟨w1.heap.size, 0, none⟩) (by show w1.heap.size < w7.heap.size; omega)).trans cw7_0_0
    have rw8_A := SB.step rw7_A (by go_grown) hb
    have rw8_g5 := SB.step rw7_g5 (by go_grown) hb
    have rw8_g6 := SB.step rw7_g6 (by go_grown) hb
    have bw8 := bw7.trans (nw8.mono bw7.size)
    clear cw7_0_0 rw7_A rw7_g5 rw7_g6 bw7 lw7_0 nw8 hb
    have lw8_0 : w1.heap.size < w8.heap.size := by omega
    go_wp2_with fail
    refine (KA.out _ _ (SB.stepAt rw8_g8 (by go_grown))).mono ?_
    rintro e w9 ⟨rfl, hb⟩
    have nw9 : Below w8.heap.size w8 w9 := Below.step (by go_grown) hb
    have sw9 : w8.heap.size ≤ w9.heap.size := nw9.size
    have cw9_0_0 := (nw9.cell (p := ⟨w1.heap.size, 0, none⟩) (by show w1.heap.size < w8.heap.size; omega)).trans cw8_0_0
    have rw9_A := SB.step rw8_A (by go_grown) hb
    have rw9_g5 := SB.step rw8_g5 (by go_grown) hb
    have rw9_g6 := SB.step rw8_g6 (by go_grown) hb
    have rw9_g8 := SB.step rw8_g8 (by go_grown) hb
    have bw9 := bw8.trans (nw9.mono bw8.size)
    clear cw8_0_0 rw8_A rw8_g5 rw8_g6 rw8_g8 bw8 lw8_0 nw9 hb
    have lw9_0 : w1.heap.size < w9.heap.size := by omega
    rcases A with _ | ⟨⟨x, y⟩, t⟩
    · simp only [List.length_nil] at cw9_0_0
      go_wp2_with fail
      refine wp_region_noPanic ?_
      refine wp_region_held_drew (S := fun V => V.cell? ⟨w1.heap.size, 0, none⟩ = some (.slice d0 0 e0)) (by kernel_rfl) ?_ (fun hHeld => ?_)
      · go_keep
      refine xtake0 (v := ?v0True) (by kernel_rfl) (by kernel_rfl) (by kernel_rfl) (fun _ _ _ h => h) (by rfl) ?y0True (by assumption) ?r0True
      case y0True => (intro w hSw; (try dsimp only at hSw); go_simp; (try with_reducible rfl))
      (try simp only [Act.put, List.setIfInBounds_toArray, List.set_cons_zero, List.set_cons_succ])
      refine xtake1 (v := ?v1True) (by kernel_rfl) (by kernel_rfl) (by kernel_rfl) (fun _ _ _ h => h) (by rfl) ?y1True (by assumption) ?r1True
      case y1True => (intro w hSw; (try dsimp only at hSw); go_simp; (try with_reducible rfl))
      (try simp only [Act.put, List.setIfInBounds_toArray, List.set_cons_zero, List.set_cons_succ])
      refine xtake2 (v := ?v2True) (by kernel_rfl) (by kernel_rfl) (by kernel_rfl) (fun _ _ _ h => h) (by rfl) ?y2True (by assumption) ?r2True
      case y2True => (intro w hSw; (try dsimp only at hSw); go_simp; (try with_reducible rfl))
      (try simp only [Act.put, List.setIfInBounds_toArray, List.set_cons_zero, List.set_cons_succ])
      refine xtake3 (v := ?v3True) (by kernel_rfl) (by kernel_rfl) (by kernel_rfl) (fun _ _ _ h => h) (by rfl) ?y3True (by assumption) ?r3True
      case y3True => (intro w hSw; (try dsimp only at hSw); go_simp; (try with_reducible rfl))
      (try simp only [Act.put, List.setIfInBounds_toArray, List.set_cons_zero, List.set_cons_succ])
      refine xtake4 (v := ?v4True) (by kernel_rfl) (by kernel_rfl) (by kernel_rfl) (fun _ _ _ h => h) (by rfl) ?y4True (by assumption) ?r4True
      case y4True => (intro w hSw; (try dsimp only at hSw); go_simp; (try with_reducible rfl))
      (try simp only [Act.put, List.setIfInBounds_toArray, List.set_cons_zero, List.set_cons_succ])
      refine skip5 (by kernel_rfl) (by kernel_rfl) (by kernel_rfl) (fun _ _ _ h => h) (by rfl) (by assumption) ?_
      (try simp only [Act.put, List.setIfInBounds_toArray, List.set_cons_zero, List.set_cons_succ])
      refine skip6 (by kernel_rfl) (by kernel_rfl) (by kernel_rfl) (fun _ _ _ h => h) (by rfl) (by assumption) ?_
      (try simp only [Act.put, List.setIfInBounds_toArray, List.set_cons_zero, List.set_cons_succ])
      refine skip7 (by kernel_rfl) (by kernel_rfl) (by kernel_rfl) (fun _ _ _ h => h) (by rfl) (by assumption) ?_
      (try simp only [Act.put, List.setIfInBounds_toArray, List.set_cons_zero, List.set_cons_succ])
      refine skip8 (by kernel_rfl) (by kernel_rfl) (by kernel_rfl) (fun _ _ _ h => h) (by rfl) (by assumption) ?_
      (try simp only [Act.put, List.setIfInBounds_toArray, List.set_cons_zero, List.set_cons_succ])
      refine skip9 (by kernel_rfl) (by kernel_rfl) (by kernel_rfl) (fun _ _ _ h => h) (by rfl) (by assumption) ?_
      (try simp only [Act.put, List.setIfInBounds_toArray, List.set_cons_zero, List.set_cons_succ])
      refine skip10 (by kernel_rfl) (by kernel_rfl) (by kernel_rfl) (fun _ _ _ h => h) (by rfl) (by assumption) ?_
      (try simp only [Act.put, List.setIfInBounds_toArray, List.set_cons_zero, List.set_cons_succ])
      refine skip11 (by kernel_rfl) (by kernel_rfl) (by kernel_rfl) (fun _ _ _ h => h) (by rfl) (by assumption) ?_
      (try simp only [Act.put, List.setIfInBounds_toArray, List.set_cons_zero, List.set_cons_succ])
      refine skip12 (by kernel_rfl) (by kernel_rfl) (by kernel_rfl) (fun _ _ _ h => h) (by rfl) (by assumption) ?_
      (try simp only [Act.put, List.setIfInBounds_toArray, List.set_cons_zero, List.set_cons_succ])
      refine skip13 (by kernel_rfl) (by kernel_rfl) (by kernel_rfl) (fun _ _ _ h => h) (by rfl) (by assumption) ?_
      (try simp only [Act.put, List.setIfInBounds_toArray, List.set_cons_zero, List.set_cons_succ])
      refine skip14 (by kernel_rfl) (by kernel_rfl) (by kernel_rfl) (fun _ _ _ h => h) (by rfl) (by assumption) ?_
      (try simp only [Act.put, List.setIfInBounds_toArray, List.set_cons_zero, List.set_cons_succ])
      refine skip15 (by kernel_rfl) (by kernel_rfl) (by kernel_rfl) (fun _ _ _ h => h) (by rfl) (by assumption) ?_
      (try simp only [Act.put, List.setIfInBounds_toArray, List.set_cons_zero, List.set_cons_succ])
      refine xtake16 (v := ?v16True) (by kernel_rfl) (by kernel_rfl) (by kernel_rfl) (fun _ _ _ h => h) (by rfl) ?y16True (by assumption) ?r16True
      case y16True => (intro w hSw; (try dsimp only at hSw); go_simp; (try with_reducible rfl))
      (try simp only [Act.put, List.setIfInBounds_toArray, List.set_cons_zero, List.set_cons_succ])
      refine xtake17 (v := ?v17True) (by kernel_rfl) (by kernel_rfl) (by kernel_rfl) (fun _ _ _ h => h) (by rfl) ?y17True (by assumption) ?r17True
      case y17True => (intro w hSw; (try dsimp only at hSw); go_simp; (try with_reducible rfl))
      (try simp only [Act.put, List.setIfInBounds_toArray, List.set_cons_zero, List.set_cons_succ])
      refine wpAnyH_done (by kernel_rfl) ?_ _
      refine NoPanic.normal ?_
      go_wp2_with fail
      go_ret
      exact ⟨rfl, bw9.trans ((show Below w9.heap.size w9 _ from by go_grown).mono bw9.size)⟩
    · obtain ⟨ax, cx, e1, hc⟩ := (rw9_A).at
      simp only [Value.slice.injEq] at e1
      obtain ⟨rfl, e2, rfl⟩ := e1
      clear e2
      rcases hc with hc | ⟨bb, o, rfl, hB, hc⟩
      · exact absurd hc (by simp)
      obtain ⟨c0, c1⟩ := hc 0 (by simp)
      simp only [List.getElem_cons_zero, Nat.zero_mul, Nat.add_zero] at c0 c1
      clear hc
      have hlen : 0 < ((x, y) :: t : Sps).length := by simp
      have hlI : (0 : Int) < ((((x, y) :: t : Sps).length : Nat) : Int) := by omega
      have hlZ : (((((x, y) :: t : Sps).length : Nat) : Int) == 0) = false := by rw [beq_eq_false_iff_ne]; omega
      have hTW := Lib.hid (twice_none (x, y) t)
      have KD : Hid (∀ V u, SpAt V V.heap.size u ((x, y) :: (x, y) :: t) → Calls Try.prog 24 #[.agg #[u]] V fun e w' => e = .returned (.bool false) ∧ Below V.heap.size V w') := Lib.hid fun V u h => by have := rngOk_is (by simp only [List.length_cons] at hA41 ⊢; omega) h; rwa [twice_none] at this
      have HR := Lib.hid rw9_A
      obtain ⟨A, hAe⟩ : ∃ A : Sps, (x, y) :: t = A := ⟨_, rfl⟩
      have HAE := Lib.hid hAe
      have hbx : w9.cell? ⟨w1.heap.size, 0, none⟩ = some (.slice (some ⟨bb, o, none⟩) A.length e0) := by rw [← hAe]; exact cw9_0_0
      clear cw9_0_0
      rw [hAe] at hlen hlI hlZ HR hA41 hA KD
      clear hAe
      obtain ⟨ti, hi, hz0, hz1, hz2⟩ := info_parts infoSpan
      go_wp2_with fail
      go_region_held3 (fun V => V.cell? ⟨w1.heap.size, 0, none⟩ = some (.slice (some ⟨bb, o, none⟩) A.length e0) ∧ V.cell? ⟨bb, o, none⟩ = some (.int .i64 x) ∧ V.cell? ⟨bb, o + 1, none⟩ = some (.int .i64 y)) (go_keep)
        (first
        | (go_at_call 24; refine (KD.out _ _ hsp).mono ?_; rintro e wz ⟨rfl, hbz⟩; have nn : Below w9.heap.size w9 wz := Below.step2 ny hbz; have z0 := (hbz.cell (p := ⟨w1.heap.size, 0, none⟩) (by show w1.heap.size < wy.heap.size; omega)).trans y0; have z1 := (hbz.cell (p := ⟨bb, o, none⟩) (by show bb < wy.heap.size; omega)).trans y1; have z2 := (hbz.cell (p := ⟨bb, o + 1, none⟩) (by show bb < wy.heap.size; omega)).trans y2)
        | ((rw [if_pos (by first | rfl | kernel_rfl | simp [Region.wanted])]); refine wp_append_lies _ _ _ 26 (by rfl) w9.heap.size 40 ti (.agg #[.int .i64 0, .int .i64 0]) 2 16 Try.underlying26 hi hz0 hz1 hz2 rfl (by omega) (.slice (some ⟨w9.heap.size, 0, none⟩) 1 1) 1 [.int .i64 x, .int .i64 y] (by rfl) (made_one rfl) ⟨bb, o, none⟩ A.length _ (flat A) (by rfl) (flat_len A) (flat_news (SB.stepAt HR.out (by go_grown))) (flat_one A) hlen (by unfold maxLen; omega) (by omega) (by simp) _ rfl ?_; intro g cg wy hown hgrow hat hlt; have ny : Below w9.heap.size w9 wy := below_far (by go_grown) hgrow (Nat.le_refl _); have zy := ny.size; have hsp := row_at hown; have y0 := (ny.cell (p := ⟨w1.heap.size, 0, none⟩) (by show w1.heap.size < _; omega)).trans hbx; have y1 := (ny.cell (p := ⟨bb, o, none⟩) hB).trans c0; have y2 := (ny.cell (p := ⟨bb, o + 1, none⟩) hB).trans c1))
      all_goals
        go_wp2_with fail
        go_ret
        exact ⟨rfl, bw9.trans (nn.mono bw9.size)⟩

set_option maxHeartbeats 1000000 in
theorem rangeOkP_long (a : Option Addr) (len cap : Nat) (w : World) (hl : 1048576 < len) :
    Calls Try.prog 5 #[.slice a len cap] w fun e w' => e = .returned (.bool true) ∧ Below w.heap.size w w' := by
  go_enter Try.func5, Try.ntmps5
  go_wp2
  go_ret
  exact ⟨rfl, Below.refl _ _⟩

theorem rangeOkP_walk (a : Option Addr) (len cap : Nat) (w : World) (h : CodeIn w a len cap) :
    Calls Try.prog 5 #[.slice a len cap] w fun e w' => e = .returned (.bool true) ∧ Below w.heap.size w w' := by
  by_cases hl : len ≤ 1048576
  · exact rangeOkP_short a len cap w h hl
  · exact rangeOkP_long a len cap w (by omega)

theorem rangeOkP_holds : Rows.FnRangeOkSaid :=
  OpenClaim.holds_of_wide 5 Try.f5 rfl rfl rfl rfl rfl rfl rfl ⟨rfl, rfl, rfl, rfl, rfl⟩ rfl rfl rfl rfl rfl (by kernel_rfl) Try.func5 (by kernel_rfl)
    (of_decide_eq_true (by kernel_rfl)) (by unfold Func.isWrapper; rw [if_neg (by decide +kernel)]; exact ⟨rfl, rfl⟩)
    (fun os started H enc _ => law_lifted (s := Rows.fnRangeOkSpec) (tb := 4) own started laid (by kernel_rfl) Try.func5 rfl (by kernel_rfl) Try.underlying4 (by kernel_rfl)
      (fun ds h => by rw [Try.params5] at h; match ds, h with | [_], _ => rfl)
      (ChangeSpec.witness6 (enc := enc) (C := Try.checked) false ⟨#[], #[.slice none 0 0], []⟩ 8 (by kernel_rfl) (by kernel_rfl) (by kernel_rfl) (by kernel_rfl))
      (law_code Try.params5 rangeOkP_walk))
#print axioms rangeOkP_holds

end Go.Proofs.Ytflmljgmmcdniaa

/- At every code the law FnSolve returns true: the program and the model find the same best choice, or none; what is found is right, and withdrawing a release that is not in it changes nothing. No condition. -/
import Derived.BigFrame
import Derived.Test.YtgenjbeamlffmaaGl
import Derived.Test.YtgenjbeamlffmaaGj
import Derived.Test.YtgenjbeamlffmaaGk
import Derived.Test.YtgenjbeamlffmaaSamep
import Derived.Test.YtgenjbeamlffmaaGe
namespace Go.Proofs.Ytgenjbeamlffmaa
open Go.ChangeShapes Go.WideShapes Go.ChangeAt Go.RowKit Go.Joins Go.Sort

namespace Psl
open Foot Dsh Dpk Copy Nup Cpu Cfa Rch Svp Gof
theorem gone_small {S : List Rel} {j : Nat} (hj : j < S.length) (hq : ∀ q ∈ S, q.2.2.2.length ≤ 1048576 ∧ ∀ p ∈ q.2.2.2, p.2.length ≤ 1048576) : (goneL S j).length = S.length ∧ ∀ q ∈ goneL S j, q.2.2.2.length ≤ 1048576 ∧ ∀ p ∈ q.2.2.2, p.2.length ≤ 1048576 := by
  refine ⟨by simpa using congrArg List.length (gone_er hj), fun q hq' => ?_⟩
  have h1 : er q ∈ (goneL S j).map er := List.mem_map_of_mem hq'
  rw [gone_er hj] at h1
  obtain ⟨q', hq1, hq2⟩ := List.mem_map.1 h1
  have e : q'.2.2.2 = q.2.2.2 := congrArg (fun z => z.2.2) hq2
  rw [← e]
  exact hq q' hq1
/-- A release is found at its place. -/
theorem at_place {S : List Rel} (hS : shOk S = true) {k : Nat} (hk : k < S.length) : shAt S S[k].1 S[k].2.1 = (k : Int) := by
  obtain ⟨j, hj, hf, h1, h2⟩ := Pof.find_at S[k].1 S[k].2.1 S 0 k hk rfl rfl
  rw [Nat.zero_add] at hf
  have hS' := hS
  unfold shOk at hS'
  rw [Bool.and_eq_true] at hS'
  have hjk : j = k := keys_differ S none hS'.1 j k hj hk (by unfold key; rw [h1, h2])
  subst hjk
  unfold shAt
  rw [if_pos hS, hf]
set_option maxRecDepth 100000 in
set_option maxHeartbeats 8000000 in
theorem solveP_short (a : Option Addr) (len cap : Nat) (w : World) (h : CodeIn w a len cap) (hl : len ≤ 1048576) :
    Calls Try.prog 10 #[.slice a len cap] w fun e w' => e = .returned (.bool true) ∧ Below w.heap.size w w' := by
  go_enter Try.func10, Try.ntmps10
  go_wp2_with fail
  refine (Dcr.DrawSolve_any a len cap w h).mono ?_
  rintro e w1 ⟨S, sa, caps, M, na, ncap, D, da, dc, rfl, hat1, hnd1, hd1, hl31, hsz, hM9, hM41, hD30, hMc, hDc, b1⟩
  have hl' : S.length ≤ 1048576 := by omega
  have hq := hsz.big
  have hm' : M.length ≤ 1048576 := by omega
  have hmq : ∀ q ∈ M, q.2.length ≤ 1048576 := fun q hq => by have := hM41 q hq; omega
  have hd' : D.length ≤ 1048576 := by omega
  have KI : Hid (∀ V, RlAt V V.heap.size (.slice sa S.length caps) S → NdAt V V.heap.size (.slice na M.length ncap) M → PkAt V V.heap.size (.slice da D.length dc) D → Calls Try.prog 20 #[.slice sa S.length caps, .slice na M.length ncap, .slice da D.length dc] V (SolvePost (solveL S M D) V)) := Lib.hid fun V g g' g2 => implSolve_any _ _ _ S M D V hl' hq hm' hmq hd' g g' g2
  have KS : Hid (∀ V, RlAt V V.heap.size (.slice sa S.length caps) S → NdAt V V.heap.size (.slice na M.length ncap) M → PkAt V V.heap.size (.slice da D.length dc) D → Calls Try.prog 16 #[.slice sa S.length caps, .slice na M.length ncap, .slice da D.length dc] V (SolvePost (solveL S M D) V)) := Lib.hid fun V g g' g2 => specSolve_any _ _ _ S M D V hl' hq hm' hmq hd' g g' g2
  have H := Lib.hid hat1
  have HN := Lib.hid hnd1
  have HD := Lib.hid hd1
  rcases hr : solveL S M D with _ | L
  · rw [hr] at KI KS
    have KE : Hid (∀ V u u', PkAt V V.heap.size u [] → PkAt V V.heap.size u' [] → Calls Try.prog 53 #[u, u'] V fun e w' => e = .returned (.bool true) ∧ Below V.heap.size V w') := Lib.hid fun V u u' g g' => by
      have := Smp.samePicks_any u u' [] [] V (by simp) (by simp) g g'
      rwa [decide_eq_true rfl] at this
    clear hat1 hnd1 hd1 h hsz hM41 hq hmq hr
    go_wp2_with fail
    refine (KI.out _ H.out HN.out HD.out).mono ?_
    rintro e w2 ⟨v2, rfl, pb2, b2⟩
    have pb2' : PB [] w1.heap.size w2.heap.size v2 w2 := pb2
    obtain ⟨ta, tc, rfl, hx⟩ := id pb2'
    have T2 := Lib.hid pb2'.at
    clear hx pb2 pb2'
    simp only [List.length_nil] at T2
    simp only [List.length_nil]
    go_wp2_with fail
    refine (KS.out _ (H.out.stepAt b2) (HN.out.stepAt b2) (HD.out.stepAt b2)).mono ?_
    rintro e w3 ⟨v3, rfl, pb3, hb⟩
    have b3 := b2.trans (hb.mono b2.size)
    have pb3' : PB [] w2.heap.size w3.heap.size v3 w3 := pb3
    obtain ⟨ja, jc, rfl, hx⟩ := id pb3'
    have T3 := Lib.hid (T2.out.stepAt hb)
    have J3 := Lib.hid pb3'.at
    clear hx pb3 pb3' hb T2 b2
    simp only [List.length_nil] at J3
    simp only [List.length_nil]
    go_wp2_with fail
    refine (KE.out _ _ _ T3.out J3.out).mono ?_
    rintro e w4 ⟨rfl, hb⟩
    have b4 := b3.trans (hb.mono b3.size)
    clear hb
    go_wp2_with fail
    refine (alive_any _).mono ?_
    rintro e w9 ⟨rfl, hb⟩
    have b9 := b4.trans (hb.mono b4.size)
    clear hb
    go_wp2_with fail
    go_ret
    exact ⟨rfl, b1.trans (b9.mono b1.size)⟩
  obtain ⟨h0, hbt⟩ := solveL_some hr
  have F := Fine.of (.inr h0)
  have hL8 : L.length ≤ 8 := pk_len F.pk
  have KE : Hid (∀ V u u', PkAt V V.heap.size u L → PkAt V V.heap.size u' L → Calls Try.prog 53 #[u, u'] V fun e w' => e = .returned (.bool true) ∧ Below V.heap.size V w') := Lib.hid fun V u u' g g' => by
    have := Smp.samePicks_any u u' L L V (by omega) (by omega) g g'
    rwa [decide_eq_true rfl] at this
  have KP : Hid (∀ V u n, PkAt V V.heap.size u L → Calls Try.prog 55 #[u, .int .i64 n] V fun e w' => e = .returned (got (pkGet n L)) ∧ Below V.heap.size V w') := Lib.hid fun V u n g => by
    have := implPickOf_any u L n V (by omega) g
    rwa [show pkOf L n = pkGet n L by unfold pkOf; rw [F.pk]; rfl] at this
  have KF : Hid (∀ V u, RlAt V V.heap.size (.slice sa S.length caps) S → NdAt V V.heap.size (.slice na M.length ncap) M → PkAt V V.heap.size (.slice da D.length dc) D → PkAt V V.heap.size u L → Calls Try.prog 57 #[.slice sa S.length caps, .slice na M.length ncap, .slice da D.length dc, u] V fun e w' => e = .returned (.int .i64 0) ∧ Below V.heap.size V w') := Lib.hid fun V u g g' g2 g3 => by
    have := implFault_any _ _ _ u S M D L V hl' hq hm' hmq hd' (by omega) g g' g2 g3
    rwa [h0] at this
  have KG : Hid (∀ (k : Nat) (hk : k < S.length) V, RlAt V V.heap.size (.slice sa S.length caps) S → ∀ x p q r s : Int, S[k].1 = x → S[k].2.1 = (p, q, r, s) → Calls Try.prog 56 #[.slice sa S.length caps, .int .i64 x, ver p q r s] V fun e w' => ∃ v fs, e = .returned (.tuple #[v, .bool true]) ∧ RGrow w' V.heap.size v (goneL S k) fs ∧ Below V.heap.size V w') := Lib.hid fun k hk V g x p q r s e1 e2 => by
    have hat : shAt S x (p, q, r, s) = (k : Int) := by rw [← e1, ← e2]; exact at_place F.sh hk
    exact (implShelfGone_any _ S x p q r s V hl' hq g).mono fun e w' ⟨v, fs, he, hg, hb⟩ => ⟨v, fs, by rw [he, hat]; rw [decide_eq_true (by omega)], by rw [hat] at hg; rwa [if_pos (by omega), Int.toNat_natCast] at hg, hb⟩
  have KZ : Hid (∀ (k : Nat) (hk : k < S.length) V u, ¬ (S[k].1, S[k].2.1) ∈ L → RlAt V V.heap.size u (goneL S k) → NdAt V V.heap.size (.slice na M.length ncap) M → PkAt V V.heap.size (.slice da D.length dc) D → Calls Try.prog 20 #[u, .slice na M.length ncap, .slice da D.length dc] V (SolvePost (some L) V)) := Lib.hid fun k hk V u hn g g' g2 => by
    obtain ⟨s1, s2⟩ := gone_small hk hq
    have := implSolve_any u _ _ (goneL S k) M D V (by omega) s2 hm' hmq hd' g g' g2
    rwa [solve_gone hk hr hn] at this
  have HIN : Hid (∀ (x p q r s p' q' r' s' : Int), pkGet x L = some (p', q', r', s') → ¬ (p' = p ∧ q' = q ∧ r' = r ∧ s' = s) → ¬ (x, (p, q, r, s)) ∈ L) := Lib.hid fun x p q r s p' q' r' s' hg hne hm => by
    have := get_some (lo := 0) F.pk hm
    rw [hg] at this
    simp at this
    exact hne this
  have HIN0 : Hid (∀ (x p q r s : Int), pkGet x L = none → ¬ (x, (p, q, r, s)) ∈ L) := Lib.hid fun x p q r s hg hm => by
    have := get_some (lo := 0) F.pk hm
    rw [hg] at this
    cases this
  rw [hr] at KI KS
  obtain ⟨sa', caps', hsv, hcell⟩ := id hat1
  have HCELL := Lib.hid hcell
  simp only [Value.slice.injEq, true_and] at hsv
  obtain ⟨rfl, rfl⟩ := hsv
  clear hat1 hnd1 hd1 h hsz hM41 hq hmq hr h0 hbt F hcell
  go_wp2_with fail
  refine (KI.out _ H.out HN.out HD.out).mono ?_
  rintro e w2 ⟨v2, rfl, pb2, b2⟩
  have pb2' : PB L w1.heap.size w2.heap.size v2 w2 := pb2
  obtain ⟨ta, tc, rfl, hx⟩ := id pb2'
  have T2 := Lib.hid pb2'.at
  clear hx pb2 pb2' KI
  go_wp2_with fail
  refine (KS.out _ (H.out.stepAt b2) (HN.out.stepAt b2) (HD.out.stepAt b2)).mono ?_
  rintro e w3 ⟨v3, rfl, pb3, hb⟩
  have b3 := b2.trans (hb.mono b2.size)
  have pb3' : PB L w2.heap.size w3.heap.size v3 w3 := pb3
  obtain ⟨ja, jc, rfl, hx⟩ := id pb3'
  have T3 := Lib.hid (T2.out.stepAt hb)
  have J3 := Lib.hid pb3'.at
  clear hx pb3 pb3' hb T2 b2 KS
  go_wp2_with fail
  refine (KE.out _ _ _ T3.out J3.out).mono ?_
  rintro e w4 ⟨rfl, hb⟩
  have b4 := b3.trans (hb.mono b3.size)
  have T4 := Lib.hid (T3.out.stepAt hb)
  have H4 := Lib.hid (H.out.stepAt b4)
  have HN4 := Lib.hid (HN.out.stepAt b4)
  have HD4 := Lib.hid (HD.out.stepAt b4)
  clear hb T3 J3 b3
  go_wp2_with fail
  go_loopw [10] (fun i wr => ∃ k : Nat, k ≤ S.length ∧ i = .int .i64 (k : Int) ∧ Below w4.heap.size w4 wr) (fun i _ => S.length - (intOf i).toNat)
  case atStart => exact ⟨0, Nat.zero_le _, rfl, Below.refl _ _⟩
  case round =>
    obtain ⟨k, hk, rfl, hb⟩ := hrel
    by_cases hlt : k < S.length
    · rcases HCELL.out with h1 | ⟨b, o, rfl, hB, hc⟩
      · subst h1
        exact absurd hlt (by simp)
      obtain ⟨x, p, q, r, s, gn, P, hxy⟩ : ∃ x p q r s gn P, S[k] = (x, (p, q, r, s), gn, P) := ⟨_, _, _, _, _, _, _, rfl⟩
      have bw := b4.trans (hb.mono b4.size)
      obtain ⟨⟨c0, c1, c2, c3, c4, c5⟩, c6⟩ := (hc k hlt).below bw hB
      rw [hxy] at c0 c1 c2 c3 c4
      simp only at c0 c1 c2 c3 c4
      have bB : b < wr.heap.size := Nat.lt_of_lt_of_le hB bw.size
      have KGk : Hid (∀ V, RlAt V V.heap.size (.slice (some ⟨b, o, none⟩) S.length caps) S → Calls Try.prog 56 #[.slice (some ⟨b, o, none⟩) S.length caps, .int .i64 x, ver p q r s] V fun e w' => ∃ v fs, e = .returned (.tuple #[v, .bool true]) ∧ RGrow w' V.heap.size v (goneL S k) fs ∧ Below V.heap.size V w') := Lib.hid fun V g => KG.out k hlt V g x p q r s (by rw [hxy]) (by rw [hxy])
      have KZk : Hid (¬ (x, (p, q, r, s)) ∈ L → ∀ V u, RlAt V V.heap.size u (goneL S k) → NdAt V V.heap.size (.slice na M.length ncap) M → PkAt V V.heap.size (.slice da D.length dc) D → Calls Try.prog 20 #[u, .slice na M.length ncap, .slice da D.length dc] V (SolvePost (some L) V)) := Lib.hid fun hn V u g g' g2 => KZ.out k hlt V u (by rw [hxy]; exact hn) g g' g2
      have KPk : Hid (∀ V, PkAt V V.heap.size (.slice ta L.length tc) L → Calls Try.prog 55 #[.slice ta L.length tc, .int .i64 x] V fun e w' => e = .returned (got (pkGet x L)) ∧ Below V.heap.size V w') := Lib.hid fun V g => KP.out V _ x g
      obtain ⟨G, hG⟩ : ∃ G, goneL S k = G := ⟨_, rfl⟩
      rw [hG] at KGk KZk
      have i0 : (0 : Int) ≤ (k : Int) := by omega
      have i1 : (k : Int) < (S.length : Int) := by omega
      have HA := Lib.hid (T4.out.stepAt hb)
      have HR := Lib.hid (H4.out.stepAt hb)
      have HNr := Lib.hid (HN4.out.stepAt hb)
      have HDr := Lib.hid (HD4.out.stepAt hb)
      clear hxy hc c5 c6 hG
      rcases hg : pkGet x L with _ | ⟨p', q', r', s'⟩
      · rw [hg] at KPk
        simp only [got] at KPk
        have HIn := Lib.hid (HIN0.out x p q r s hg)
        clear hg
        go_wp2_with fail
        refine (KPk.out _ HA.out).mono ?_
        rintro e w5 ⟨rfl, hb5⟩
        have m5 := hb.trans (hb5.mono hb.size)
        obtain ⟨w6, hw6⟩ : ∃ V : World, V = w5.alloc (.cells #[.int .i64 0, .int .i64 0, .int .i64 0, .int .i64 0] 79) := ⟨_, rfl⟩
        have b6 : Below w5.heap.size w5 w6 := by rw [hw6]; exact (Below.refl _ _).alloc (Nat.le_refl _) _
        have m6 := m5.trans (b6.mono m5.size)
        have n6 : Below wr.heap.size wr w6 := hb5.trans (b6.mono hb5.size)
        have x0 : w6.cell? ⟨w5.heap.size, 0, none⟩ = some (.int .i64 0) := by rw [hw6]; go_simp
        have x1 : w6.cell? ⟨w5.heap.size, 1, none⟩ = some (.int .i64 0) := by rw [hw6]; go_simp
        have x2 : w6.cell? ⟨w5.heap.size, 2, none⟩ = some (.int .i64 0) := by rw [hw6]; go_simp
        have x3 : w6.cell? ⟨w5.heap.size, 3, none⟩ = some (.int .i64 0) := by rw [hw6]; go_simp
        have d0 := (n6.cell (p := ⟨b, o + k * 7, none⟩) bB).trans c0
        have d1 := (n6.cell (p := ⟨b, o + k * 7 + 1, none⟩) bB).trans c1
        have d2 := (n6.cell (p := ⟨b, o + k * 7 + 2, none⟩) bB).trans c2
        have d3 := (n6.cell (p := ⟨b, o + k * 7 + 3, none⟩) bB).trans c3
        have d4 := (n6.cell (p := ⟨b, o + k * 7 + 4, none⟩) bB).trans c4
        have HR6 := Lib.hid (HR.out.stepAt n6)
        have HN6 := Lib.hid (HNr.out.stepAt n6)
        have HD6 := Lib.hid (HDr.out.stepAt n6)
        have HA6 := Lib.hid (HA.out.stepAt n6)
        have bB6 : b < w6.heap.size := Nat.lt_of_lt_of_le bB n6.size
        go_upto_region 14 with fail
        rw [← hw6]
        clear hw6 hb5 c0 c1 c2 c3 c4
        have t1 := cell_regrown d1
        have t2 := cell_regrown d2
        have t3 := cell_regrown d3
        have t4 := cell_regrown d4
        have y0 := cell_regrown x0
        have y1 := cell_regrown x1
        have y2 := cell_regrown x2
        have y3 := cell_regrown x3
        refine wp_region_quiet_below (by kernel_rfl) (by kernel_rfl) ?_
        repeat (any_goals (first | go_big_quiet_step (fail) | quiet_step (fail)))
        refine wpQuiet_nil ?_
        intro w7 hw
        have nn := quiet_end hw
        have m7 := m6.trans (nn.mono m6.size)
        clear hw t1 t2 t3 t4 y0 y1 y2 y3
        have e0 := (nn.cell (p := ⟨b, o + k * 7, none⟩) bB6).trans d0
        have e1 := (nn.cell (p := ⟨b, o + k * 7 + 1, none⟩) bB6).trans d1
        have e2 := (nn.cell (p := ⟨b, o + k * 7 + 2, none⟩) bB6).trans d2
        have e3 := (nn.cell (p := ⟨b, o + k * 7 + 3, none⟩) bB6).trans d3
        have e4 := (nn.cell (p := ⟨b, o + k * 7 + 4, none⟩) bB6).trans d4
        have HR7 := Lib.hid (HR6.out.stepAt nn)
        have HN7 := Lib.hid (HN6.out.stepAt nn)
        have HD7 := Lib.hid (HD6.out.stepAt nn)
        have HA7 := Lib.hid (HA6.out.stepAt nn)
        have bB7 : b < w7.heap.size := Nat.lt_of_lt_of_le bB6 nn.size
        clear nn d0 d1 d2 d3 d4 x0 x1 x2 x3
        go_wp2_with fail
        go_region_held3 (fun V => V.cell? ⟨b, o + k * 7, none⟩ = some (.int .i64 x) ∧ V.cell? ⟨b, o + k * 7 + 1, none⟩ = some (.int .i64 p) ∧ V.cell? ⟨b, o + k * 7 + 2, none⟩ = some (.int .i64 q) ∧ V.cell? ⟨b, o + k * 7 + 3, none⟩ = some (.int .i64 r) ∧ V.cell? ⟨b, o + k * 7 + 4, none⟩ = some (.int .i64 s)) (go_keep)
          (first
            | (go_at_call 56; refine (KGk.out _ (HR7.out.stepAt (by go_grown))).mono ?_; rintro e w8 ⟨v8, fs8, rfl, hg8, hb8⟩; have n8 : Below w7.heap.size w7 w8 := Below.step (by go_grown) hb8; have r0 := (n8.cell (p := ⟨b, o + k * 7, none⟩) bB7).trans e0; have r1 := (n8.cell (p := ⟨b, o + k * 7 + 1, none⟩) bB7).trans e1; have r2 := (n8.cell (p := ⟨b, o + k * 7 + 2, none⟩) bB7).trans e2; have r3 := (n8.cell (p := ⟨b, o + k * 7 + 3, none⟩) bB7).trans e3; have r4 := (n8.cell (p := ⟨b, o + k * 7 + 4, none⟩) bB7).trans e4; obtain ⟨ga, gc, rfl, hform8, hcap8⟩ := hg8.form)
            | fail)
        all_goals
          have G8 := Lib.hid hg8.at
          have m8 := m7.trans (n8.mono m7.size)
          have HN8 := Lib.hid (HN7.out.stepAt n8)
          have HD8 := Lib.hid (HD7.out.stepAt n8)
          have HA8 := Lib.hid (HA7.out.stepAt n8)
          clear hg8 hb8 n8 r0 r1 r2 r3 r4 e0 e1 e2 e3 e4 hform8 hcap8
          go_wp2_with fail
          refine (KZk.out HIn.out _ _ G8.out HN8.out HD8.out).mono ?_
          rintro e w9 ⟨v9, rfl, pb9, hb9⟩
          have pb9' : PB L w8.heap.size w9.heap.size v9 w9 := pb9
          obtain ⟨ja9, jc9, rfl, hx9⟩ := id pb9'
          have J9 := Lib.hid pb9'.at
          have m9 := m8.trans (hb9.mono m8.size)
          have HA9 := Lib.hid (HA8.out.stepAt hb9)
          clear pb9 pb9' hx9 hb9
          go_wp2_with fail
          refine (KE.out _ _ _ J9.out HA9.out).mono ?_
          rintro e w10 ⟨rfl, hb10⟩
          have HRN := Lib.hid (show ∃ k' : Nat, k' ≤ S.length ∧ Value.int .i64 ((k : Int) + 1) = .int .i64 (k' : Int) ∧ Below w4.heap.size w4 w10 from ⟨k + 1, by omega, by go_num, m9.trans (hb10.mono m9.size)⟩)
          clear hb10
          go_wp2_with fail
          go_roundw
          case rel => exact HRN.out
          case measure => simp [intOf]; omega
      · rw [hg] at KPk
        simp only [got] at KPk
        by_cases hv : p' = p ∧ q' = q ∧ r' = r ∧ s' = s
        · have hE := ver_alike' hv
          clear hv
          clear hg
          go_wp2_with fail
          refine (KPk.out _ HA.out).mono ?_
          rintro e w5 ⟨rfl, hb5⟩
          have m5 := hb.trans (hb5.mono hb.size)
          obtain ⟨w6, hw6⟩ : ∃ V : World, V = w5.alloc (.cells #[.int .i64 p', .int .i64 q', .int .i64 r', .int .i64 s'] 79) := ⟨_, rfl⟩
          have b6 : Below w5.heap.size w5 w6 := by rw [hw6]; exact (Below.refl _ _).alloc (Nat.le_refl _) _
          have m6 := m5.trans (b6.mono m5.size)
          have n6 : Below wr.heap.size wr w6 := hb5.trans (b6.mono hb5.size)
          have x0 : w6.cell? ⟨w5.heap.size, 0, none⟩ = some (.int .i64 p') := by rw [hw6]; go_simp
          have x1 : w6.cell? ⟨w5.heap.size, 1, none⟩ = some (.int .i64 q') := by rw [hw6]; go_simp
          have x2 : w6.cell? ⟨w5.heap.size, 2, none⟩ = some (.int .i64 r') := by rw [hw6]; go_simp
          have x3 : w6.cell? ⟨w5.heap.size, 3, none⟩ = some (.int .i64 s') := by rw [hw6]; go_simp
          have d0 := (n6.cell (p := ⟨b, o + k * 7, none⟩) bB).trans c0
          have d1 := (n6.cell (p := ⟨b, o + k * 7 + 1, none⟩) bB).trans c1
          have d2 := (n6.cell (p := ⟨b, o + k * 7 + 2, none⟩) bB).trans c2
          have d3 := (n6.cell (p := ⟨b, o + k * 7 + 3, none⟩) bB).trans c3
          have d4 := (n6.cell (p := ⟨b, o + k * 7 + 4, none⟩) bB).trans c4
          have HR6 := Lib.hid (HR.out.stepAt n6)
          have HN6 := Lib.hid (HNr.out.stepAt n6)
          have HD6 := Lib.hid (HDr.out.stepAt n6)
          have HA6 := Lib.hid (HA.out.stepAt n6)
          have bB6 : b < w6.heap.size := Nat.lt_of_lt_of_le bB n6.size
          go_upto_region 14 with fail
          rw [← hw6]
          clear hw6 hb5 c0 c1 c2 c3 c4
          have t1 := cell_regrown d1
          have t2 := cell_regrown d2
          have t3 := cell_regrown d3
          have t4 := cell_regrown d4
          have y0 := cell_regrown x0
          have y1 := cell_regrown x1
          have y2 := cell_regrown x2
          have y3 := cell_regrown x3
          refine wp_region_quiet_below (by kernel_rfl) (by kernel_rfl) ?_
          repeat (any_goals (first | go_big_quiet_step (fail) | quiet_step (fail)))
          refine wpQuiet_nil ?_
          intro w7 hw
          have nn := quiet_end hw
          have m7 := m6.trans (nn.mono m6.size)
          clear hw t1 t2 t3 t4 y0 y1 y2 y3
          have HRN := Lib.hid (show ∃ k' : Nat, k' ≤ S.length ∧ Value.int .i64 ((k : Int) + 1) = .int .i64 (k' : Int) ∧ Below w4.heap.size w4 w7 from ⟨k + 1, by omega, by go_num, m7⟩)
          clear nn d0 d1 d2 d3 d4 x0 x1 x2 x3
          go_wp2_with fail
          go_roundw
          case rel => exact HRN.out
          case measure => simp [intOf]; omega
        · have hE := ver_differ' hv
          have HIn := Lib.hid (HIN.out x p q r s p' q' r' s' hg hv)
          clear hg
          go_wp2_with fail
          refine (KPk.out _ HA.out).mono ?_
          rintro e w5 ⟨rfl, hb5⟩
          have m5 := hb.trans (hb5.mono hb.size)
          obtain ⟨w6, hw6⟩ : ∃ V : World, V = w5.alloc (.cells #[.int .i64 p', .int .i64 q', .int .i64 r', .int .i64 s'] 79) := ⟨_, rfl⟩
          have b6 : Below w5.heap.size w5 w6 := by rw [hw6]; exact (Below.refl _ _).alloc (Nat.le_refl _) _
          have m6 := m5.trans (b6.mono m5.size)
          have n6 : Below wr.heap.size wr w6 := hb5.trans (b6.mono hb5.size)
          have x0 : w6.cell? ⟨w5.heap.size, 0, none⟩ = some (.int .i64 p') := by rw [hw6]; go_simp
          have x1 : w6.cell? ⟨w5.heap.size, 1, none⟩ = some (.int .i64 q') := by rw [hw6]; go_simp
          have x2 : w6.cell? ⟨w5.heap.size, 2, none⟩ = some (.int .i64 r') := by rw [hw6]; go_simp
          have x3 : w6.cell? ⟨w5.heap.size, 3, none⟩ = some (.int .i64 s') := by rw [hw6]; go_simp
          have d0 := (n6.cell (p := ⟨b, o + k * 7, none⟩) bB).trans c0
          have d1 := (n6.cell (p := ⟨b, o + k * 7 + 1, none⟩) bB).trans c1
          have d2 := (n6.cell (p := ⟨b, o + k * 7 + 2, none⟩) bB).trans c2
          have d3 := (n6.cell (p := ⟨b, o + k * 7 + 3, none⟩) bB).trans c3
          have d4 := (n6.cell (p := ⟨b, o + k * 7 + 4, none⟩) bB).trans c4
          have HR6 := Lib.hid (HR.out.stepAt n6)
          have HN6 := Lib.hid (HNr.out.stepAt n6)
          have HD6 := Lib.hid (HDr.out.stepAt n6)
          have HA6 := Lib.hid (HA.out.stepAt n6)
          have bB6 : b < w6.heap.size := Nat.lt_of_lt_of_le bB n6.size
          go_upto_region 14 with fail
          rw [← hw6]
          clear hw6 hb5 c0 c1 c2 c3 c4
          have t1 := cell_regrown d1
          have t2 := cell_regrown d2
          have t3 := cell_regrown d3
          have t4 := cell_regrown d4
          have y0 := cell_regrown x0
          have y1 := cell_regrown x1
          have y2 := cell_regrown x2
          have y3 := cell_regrown x3
          clear hv
          refine wp_region_quiet_below (by kernel_rfl) (by kernel_rfl) ?_
          repeat (any_goals (first | go_big_quiet_step (fail) | quiet_step (fail)))
          refine wpQuiet_nil ?_
          intro w7 hw
          have nn := quiet_end hw
          have m7 := m6.trans (nn.mono m6.size)
          clear hw t1 t2 t3 t4 y0 y1 y2 y3
          have e0 := (nn.cell (p := ⟨b, o + k * 7, none⟩) bB6).trans d0
          have e1 := (nn.cell (p := ⟨b, o + k * 7 + 1, none⟩) bB6).trans d1
          have e2 := (nn.cell (p := ⟨b, o + k * 7 + 2, none⟩) bB6).trans d2
          have e3 := (nn.cell (p := ⟨b, o + k * 7 + 3, none⟩) bB6).trans d3
          have e4 := (nn.cell (p := ⟨b, o + k * 7 + 4, none⟩) bB6).trans d4
          have HR7 := Lib.hid (HR6.out.stepAt nn)
          have HN7 := Lib.hid (HN6.out.stepAt nn)
          have HD7 := Lib.hid (HD6.out.stepAt nn)
          have HA7 := Lib.hid (HA6.out.stepAt nn)
          have bB7 : b < w7.heap.size := Nat.lt_of_lt_of_le bB6 nn.size
          clear nn d0 d1 d2 d3 d4 x0 x1 x2 x3
          go_wp2_with fail
          go_region_held3 (fun V => V.cell? ⟨b, o + k * 7, none⟩ = some (.int .i64 x) ∧ V.cell? ⟨b, o + k * 7 + 1, none⟩ = some (.int .i64 p) ∧ V.cell? ⟨b, o + k * 7 + 2, none⟩ = some (.int .i64 q) ∧ V.cell? ⟨b, o + k * 7 + 3, none⟩ = some (.int .i64 r) ∧ V.cell? ⟨b, o + k * 7 + 4, none⟩ = some (.int .i64 s)) (go_keep)
            (first
              | (go_at_call 56; refine (KGk.out _ (HR7.out.stepAt (by go_grown))).mono ?_; rintro e w8 ⟨v8, fs8, rfl, hg8, hb8⟩; have n8 : Below w7.heap.size w7 w8 := Below.step (by go_grown) hb8; have r0 := (n8.cell (p := ⟨b, o + k * 7, none⟩) bB7).trans e0; have r1 := (n8.cell (p := ⟨b, o + k * 7 + 1, none⟩) bB7).trans e1; have r2 := (n8.cell (p := ⟨b, o + k * 7 + 2, none⟩) bB7).trans e2; have r3 := (n8.cell (p := ⟨b, o + k * 7 + 3, none⟩) bB7).trans e3; have r4 := (n8.cell (p := ⟨b, o + k * 7 + 4, none⟩) bB7).trans e4; obtain ⟨ga, gc, rfl, hform8, hcap8⟩ := hg8.form)
              | fail)
          all_goals
            have G8 := Lib.hid hg8.at
            have m8 := m7.trans (n8.mono m7.size)
            have HN8 := Lib.hid (HN7.out.stepAt n8)
            have HD8 := Lib.hid (HD7.out.stepAt n8)
            have HA8 := Lib.hid (HA7.out.stepAt n8)
            clear hg8 hb8 n8 r0 r1 r2 r3 r4 e0 e1 e2 e3 e4 hform8 hcap8
            go_wp2_with fail
            refine (KZk.out HIn.out _ _ G8.out HN8.out HD8.out).mono ?_
            rintro e w9 ⟨v9, rfl, pb9, hb9⟩
            have pb9' : PB L w8.heap.size w9.heap.size v9 w9 := pb9
            obtain ⟨ja9, jc9, rfl, hx9⟩ := id pb9'
            have J9 := Lib.hid pb9'.at
            have m9 := m8.trans (hb9.mono m8.size)
            have HA9 := Lib.hid (HA8.out.stepAt hb9)
            clear pb9 pb9' hx9 hb9
            go_wp2_with fail
            refine (KE.out _ _ _ J9.out HA9.out).mono ?_
            rintro e w10 ⟨rfl, hb10⟩
            have HRN := Lib.hid (show ∃ k' : Nat, k' ≤ S.length ∧ Value.int .i64 ((k : Int) + 1) = .int .i64 (k' : Int) ∧ Below w4.heap.size w4 w10 from ⟨k + 1, by omega, by go_num, m9.trans (hb10.mono m9.size)⟩)
            clear hb10
            go_wp2_with fail
            go_roundw
            case rel => exact HRN.out
            case measure => simp [intOf]; omega
    · obtain rfl : k = S.length := by omega
      have HR := Lib.hid (H4.out.stepAt hb)
      have HNr := Lib.hid (HN4.out.stepAt hb)
      have HDr := Lib.hid (HD4.out.stepAt hb)
      have HA := Lib.hid (T4.out.stepAt hb)
      go_wp2_with fail
      refine (KF.out _ _ HR.out HNr.out HDr.out HA.out).mono ?_
      rintro e w5 ⟨rfl, hb5⟩
      have m5 := hb.trans (hb5.mono hb.size)
      go_wp2_with fail
      refine (alive_any _).mono ?_
      rintro e w9 ⟨rfl, hb9⟩
      have b9 := b4.trans ((m5.trans (hb9.mono m5.size)).mono b4.size)
      clear hb9
      go_wp2_with fail
      go_ret
      exact ⟨rfl, b1.trans (b9.mono b1.size)⟩

set_option maxRecDepth 100000 in
set_option maxHeartbeats 1000000 in
theorem solveP_long (a : Option Addr) (len cap : Nat) (w : World) (hl : 1048576 < len) :
    Calls Try.prog 10 #[.slice a len cap] w fun e w' => e = .returned (.bool true) ∧ Below w.heap.size w w' := by
  go_enter Try.func10, Try.ntmps10
  go_wp2
  go_ret
  exact ⟨rfl, Below.refl _ _⟩

theorem solveP_walk (a : Option Addr) (len cap : Nat) (w : World) (h : CodeIn w a len cap) :
    Calls Try.prog 10 #[.slice a len cap] w fun e w' => e = .returned (.bool true) ∧ Below w.heap.size w w' := by
  by_cases hl : len ≤ 1048576
  · exact solveP_short a len cap w h hl
  · exact solveP_long a len cap w (by omega)
end Psl

set_option maxRecDepth 100000 in
theorem solveP_holds : Rows.FnSolveSaid :=
  OpenClaim.holds_of_wide 10 Try.f10 rfl rfl rfl rfl rfl rfl rfl ⟨rfl, rfl, rfl, rfl, rfl⟩ rfl rfl rfl rfl rfl (by kernel_rfl) Try.func10 (by kernel_rfl)
    (of_decide_eq_true (by kernel_rfl)) (by unfold Func.isWrapper; rw [if_neg (by decide +kernel)]; exact ⟨rfl, rfl⟩)
    (fun os started H enc _ => law_lifted (s := Rows.fnSolveSpec) (tb := 4) own started laid (by kernel_rfl) Try.func10 rfl (by kernel_rfl) Try.underlying4 (by kernel_rfl)
      (fun ds h => by rw [Try.params10] at h; match ds, h with | [_], _ => rfl)
      (ChangeSpec.witness6 (enc := enc) (C := Try.checked) false ⟨#[], #[.slice none 0 0], []⟩ 8 (by kernel_rfl) (by kernel_rfl) (by kernel_rfl) (by kernel_rfl))
      (law_code Try.params10 Psl.solveP_walk))
#print axioms solveP_holds

end Go.Proofs.Ytgenjbeamlffmaa

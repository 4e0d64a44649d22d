/- At every code the law FnShelfOk returns true: the program and the model agree on whether the drawn shelf is fine; no shelf is, what stands behind the first release of a fine one is, and a shelf whose first release stands twice is not. No condition. -/
import Derived.BigFrame
import Derived.Test.YtdjnfmekbjmdhaaDshelf
import Derived.Test.YtdjnfmekbjmdhaaDdraw
namespace Go.Proofs.Ytdjnfmekbjmdhaa
open Go.ChangeShapes Go.WideShapes Go.ChangeAt Go.RowKit Go.Joins Go.Sort

namespace Psh
open Foot Copy Shal Dsh
theorem shFrom_any : ∀ {S : List Rel} {p q : Option Rel}, shFrom p S = true → (∀ y t, S = y :: t → ∀ r, q = some r → relLess r y = true) → shFrom q S = true
  | [], _, _, _, _ => rfl
  | y :: t, p, q, h, hq => by
    unfold shFrom at h ⊢
    simp only [Bool.and_eq_true] at h ⊢
    refine ⟨h.1, ?_, h.2.2⟩
    rcases q with _ | r
    · rfl
    · exact hq y t rfl r rfl
theorem sh_tail {S : List Rel} (h : shOk S = true) : shOk (S.drop 1) = true := by
  unfold shOk at h ⊢
  rw [Bool.and_eq_true, decide_eq_true_eq] at h ⊢
  rcases S with _ | ⟨y, t⟩
  · exact ⟨rfl, by simp⟩
  · refine ⟨?_, by have := h.2; simp at this ⊢; omega⟩
    have h1 := h.1
    unfold shFrom at h1
    simp only [Bool.and_eq_true] at h1
    exact shFrom_any h1.2.2 (fun _ _ _ r hr => by cases hr)
theorem vLess_irr (a b c d : Int) : vLess a b c d a b c d = false := by unfold vLess; simp
theorem relLess_irr (y : Rel) : relLess y y = false := by
  unfold relLess
  rw [if_pos rfl]
  exact vLess_irr _ _ _ _
theorem sh_twice (y : Rel) (t : List Rel) : shOk (y :: y :: t) = false := by
  show ((relOk y && (true && (relOk y && (relLess y y && shFrom (some y) t)))) && decide _) = false
  rw [relLess_irr]
  simp
theorem own_one {w : World} {B : Nat} {n a b c d : Int} {f : Bool} {u : Value} (hB : B ≤ w.heap.size) : (w.alloc (.cells #[.int .i64 n, .int .i64 a, .int .i64 b, .int .i64 c, .int .i64 d, .bool f, u] 41)).ownsRow B 41 7 (.slice (some ⟨w.heap.size, 0, none⟩) 1 1) 1 [.int .i64 n, .int .i64 a, .int .i64 b, .int .i64 c, .int .i64 d, .bool f, u] :=
  ⟨rfl, .inr ⟨w.heap.size, 1, _, rfl, hB, heap_alloc_new w _, Nat.le_refl _, by unfold maxLen; omega, rfl, rfl⟩⟩

theorem rsh_two {w : World} {B B' c : Nat} {a : Option Addr} {x : Rel} {S : List Rel} {xc N : List Value} (hown : w.ownsRow B' 41 7 (.slice a (1 + S.length) c) (1 + S.length) (xc ++ N)) (hB : B ≤ B') (lx : xc.length = 7) (h1 : ShEl w B xc [x]) (h2 : ShEl w B N S) : RSh w B (.slice a (1 + S.length) c) (x :: S) := by
  have e : (x :: S).length = 1 + S.length := by simp; omega
  unfold RSh
  rw [e]
  refine ⟨xc ++ N, ⟨hown.1, ?_⟩, h1.append (by simpa using lx) h2⟩
  rcases hown.2 with h | ⟨g, cp, cur, hv, hb', rest⟩
  · exact .inl h
  · exact .inr ⟨g, cp, cur, hv, Nat.le_trans hB hb', rest⟩

def AnyShelf (w : World) (e : Ending) (w' : World) : Prop := ∃ S sa caps, e = .returned (.slice sa S.length caps) ∧ RlAt w' w'.heap.size (.slice sa S.length caps) S ∧ S.length ≤ caps ∧ S.length ≤ 31 ∧ SzOk S ∧ Below w.heap.size w w'

set_option maxRecDepth 100000 in
set_option maxHeartbeats 1000000 in
theorem DrawShelfOk_any (a : Option Addr) (len cap : Nat) (w : World) (h : CodeIn w a len cap) : Calls Try.prog 59 #[.slice a len cap] w (AnyShelf w) := by
  go_enter Try.func59, Try.ntmps59
  go_wp2_with fail
  refine (open_any a len cap _ h).mono ?_
  rintro e w1 ⟨rfl, hr1, hb1⟩
  have hz := rdAt_lt hr1
  have z1 := hb1.size
  go_wp2_with fail
  refine (l20Shelf_any _ 0 4 2 w1 (by omega) hr1 (by omega) (by omega) (by omega)).mono ?_
  rintro e w2 ⟨S, v, fs, rfl, hg, hl, hsz, hd⟩
  have b2 := drawn_below hd hb1 (Nat.le_refl _)
  obtain ⟨sa, caps, rfl, hform, hcap⟩ := hg.form
  have HA := Lib.hid hg.at
  clear hd hg hr1
  go_wp2_with fail
  go_ret
  exact ⟨S, sa, caps, rfl, HA.out, hcap, hl, hsz, b2⟩

set_option maxRecDepth 100000 in
set_option maxHeartbeats 8000000 in
theorem shelfOkP_short (a : Option Addr) (len cap : Nat) (w : World) (h : CodeIn w a len cap) (hl : len ≤ 1048576) :
    Calls Try.prog 14 #[.slice a len cap] w fun e w' => e = .returned (.bool true) ∧ Below w.heap.size w w' := by
  obtain ⟨i0, hi, hz0, hz1, hz2⟩ := info_parts infoRelease
  go_enter Try.func14, Try.ntmps14
  go_wp2_with fail
  refine (DrawShelfOk_any a len cap w h).mono ?_
  rintro e w1 ⟨S, sa, caps, rfl, hat1, hcap, hl31, hsz, b1⟩
  have hl' : S.length ≤ 1048576 := by omega
  have hq := hsz.big
  have KI : Hid (∀ V, RlAt V V.heap.size (.slice sa S.length caps) S → Calls Try.prog 60 #[.slice sa S.length caps] V fun e w' => e = .returned (.bool (shOk S)) ∧ Below V.heap.size V w') := Lib.hid fun V g => implShelfOk_any _ S V hl' hq g
  have KS : Hid (∀ V, RlAt V V.heap.size (.slice sa S.length caps) S → Calls Try.prog 61 #[.slice sa S.length caps] V fun e w' => e = .returned (.bool (shOk S)) ∧ Below V.heap.size V w') := Lib.hid fun V g => specShelfOk_any _ S V hl' hq g
  have KN : Hid (∀ V, Calls Try.prog 60 #[.slice none 0 0] V fun e w' => e = .returned (.bool true) ∧ Below V.heap.size V w') := Lib.hid fun V => implShelfOk_any (.slice none 0 0) [] V (by simp) (by simp) ⟨_, _, rfl, .inl rfl⟩
  have H := Lib.hid hat1
  clear hat1 h
  rcases S with _ | ⟨y0, S0⟩
  · generalize shOk [] = ok at KI KS
    cases ok
    all_goals
      go_wp2_with fail
      refine (KI.out _ H.out).mono ?_
      rintro e w2 ⟨rfl, hb⟩
      have n2 := hb
      clear hb
      go_wp2_with fail
      refine (KS.out _ (H.out.stepAt n2)).mono ?_
      rintro e w3 ⟨rfl, hb⟩
      have n3 := n2.trans (hb.mono n2.size)
      clear hb
      go_wp2_with fail
      refine (KN.out _).mono ?_
      rintro e w4 ⟨rfl, hb⟩
      have n4 := n3.trans (hb.mono n3.size)
      clear hb
      go_wp2_with fail
      go_ret
      exact ⟨rfl, b1.trans (n4.mono b1.size)⟩
  · have HT := Lib.hid (sh_twice y0 S0)
    have HTL := Lib.hid (show shOk (y0 :: S0) = true → shOk ((y0 :: S0).drop 1) = true from sh_tail)
    have hlen : 0 < (y0 :: S0).length := by simp
    have hy0 : (y0 :: S0)[0]? = some y0 := rfl
    obtain ⟨S, hSe⟩ : ∃ N : List Rel, y0 :: S0 = N := ⟨_, rfl⟩
    rw [hSe] at KI KS HT HTL hlen hy0 hq hl' hl31 hcap H ⊢
    clear hSe hsz
    have hlI : (0 : Int) < (S.length : Int) := by omega
    have hlI1 : (1 : Int) ≤ (S.length : Int) := by omega
    have hcI : (S.length : Int) ≤ (caps : Int) := by omega
    have hcI1 : (1 : Int) ≤ (caps : Int) := by omega
    have hlZ : ((S.length : Int) == 0) = false := by rw [beq_eq_false_iff_ne]; omega
    have KD : Hid (∀ V u, RlAt V V.heap.size u (y0 :: S) → Calls Try.prog 60 #[u] V fun e w' => e = .returned (.bool false) ∧ Below V.heap.size V w') := Lib.hid fun V u g => by
      have hy : y0 ∈ S := List.mem_of_getElem? hy0
      have := implShelfOk_any u (y0 :: S) V (by simp; omega) (fun q hh => by rcases List.mem_cons.1 hh with rfl | hh; exact hq _ hy; exact hq q hh) g
      rwa [HT.out] at this
    have KT : shOk S = true → Hid (∀ V u, RlAt V V.heap.size u (S.drop 1) → Calls Try.prog 60 #[u] V fun e w' => e = .returned (.bool true) ∧ Below V.heap.size V w') := fun ho => Lib.hid fun V u g => by
      have := implShelfOk_any u (S.drop 1) V (by simp; omega) (fun q hh => hq q (List.mem_of_mem_drop hh)) g
      rwa [HTL.out ho] at this
    obtain ⟨b, o, hva, hB, hc⟩ : ∃ b o, sa = some ⟨b, o, none⟩ ∧ b < w1.heap.size ∧ ∀ i (h : i < S.length), RlC w1 w1.heap.size b (o + i * 7) S[i] := by
      obtain ⟨a', c', e, hh⟩ := H.out
      simp only [Value.slice.injEq] at e
      obtain ⟨rfl, _, _⟩ := e
      rcases hh with rfl | ⟨b, o, e, hB, hc⟩
      · simp at hlen
      · exact ⟨b, o, e, hB, hc⟩
    subst hva
    have HC := Lib.hid hc
    obtain ⟨yx, ya, yb, yc, yd, yf, yM, rfl⟩ : ∃ x a b c d f M, y0 = (x, (a, b, c, d), f, M) := ⟨_, _, _, _, _, _, _, rfl⟩
    have c0 := hc 0 hlen
    rw [(List.getElem?_eq_some_iff.1 hy0).2] at c0
    obtain ⟨⟨e0, e1, e2, e3, e4, e5⟩, ad, cap1, e6, hs⟩ := c0
    simp only [Nat.zero_mul, Nat.add_zero] at e0 e1 e2 e3 e4 e5 e6 hs
    have HS := Lib.hid hs
    clear hc hs
    rcases hok : shOk S
    · rw [hok] at KI KS
      clear KT hok
      go_wp2_with fail
      refine (KI.out _ H.out).mono ?_
      rintro e w2 ⟨rfl, hb⟩
      have n2 := hb
      clear hb
      go_wp2_with fail
      refine (KS.out _ (H.out.stepAt n2)).mono ?_
      rintro e w3 ⟨rfl, hb⟩
      have n3 := n2.trans (hb.mono n2.size)
      clear hb
      go_wp2_with fail
      refine (KN.out _).mono ?_
      rintro e w4 ⟨rfl, hb⟩
      have n4 := n3.trans (hb.mono n3.size)
      clear hb n2 n3
      have z4 := n4.size
      have y0_ := (n4.cell (p := ⟨b, o, none⟩) hB).trans e0
      have y1_ := (n4.cell (p := ⟨b, o + 1, none⟩) hB).trans e1
      have y2_ := (n4.cell (p := ⟨b, o + 2, none⟩) hB).trans e2
      have y3_ := (n4.cell (p := ⟨b, o + 3, none⟩) hB).trans e3
      have y4_ := (n4.cell (p := ⟨b, o + 4, none⟩) hB).trans e4
      have y5_ := (n4.cell (p := ⟨b, o + 5, none⟩) hB).trans e5
      have y6_ := (n4.cell (p := ⟨b, o + 6, none⟩) hB).trans e6
      have hbW : Below w4.heap.size w4 (w4.alloc (.cells #[.int .i64 yx, .int .i64 ya, .int .i64 yb, .int .i64 yc, .int .i64 yd, .bool yf, .slice ad yM.length cap1] 41)) := (Below.refl _ _).alloc (Nat.le_refl _) _
      have nW := n4.trans (hbW.mono n4.size)
      obtain ⟨r1, r2, r3⟩ := rel_rows (w := w4.alloc (.cells #[.int .i64 yx, .int .i64 ya, .int .i64 yb, .int .i64 yc, .int .i64 yd, .bool yf, .slice ad yM.length cap1] 41)) (B := w1.heap.size) (b := b) (o := o) (S := S) (fun i hi => (HC.out i hi).below nW hB)
      have ho := own_one (w := w4) (B := w4.heap.size) (n := yx) (a := ya) (b := yb) (c := yc) (d := yd) (f := yf) (u := .slice ad yM.length cap1) (Nat.le_refl _)
      have R2 := Lib.hid r2
      have R3 := Lib.hid r3
      have HOW := Lib.hid ho
      have HNX := Lib.hid (HS.out.below nW)
      clear r2 r3 ho e0 e1 e2 e3 e4 e5 e6
      go_wp2_with (at_builtin; refine BigFrame.wpList_want (by rfl) (fun K hK => wp_append_lies _ _ _ 27 (by rfl) w4.heap.size 41 i0 (.agg #[.int .i64 0, .int .i64 0, .int .i64 0, .int .i64 0, .int .i64 0, .bool false, .slice none 0 0]) 7 72 Try.underlying27 hi hz0 hz1 hz2 rfl (by decide) _ _ _ (by rfl) HOW.out ⟨b, o, none⟩ S.length caps (rowCells (w4.alloc (.cells #[.int .i64 yx, .int .i64 ya, .int .i64 yb, .int .i64 yc, .int .i64 yd, .bool yf, .slice ad yM.length cap1] 41)) b o (S.length * 7)) (by rfl) r1 R3.out (R2.out.cells r1) hlen (by unfold maxLen; omega) (by omega) (by simp) _ rfl ?_))
      intro g5 cap5 w5 hown5 hgrow5 hat5 hlt5
      refine hK _ _ ?_
      clear hK
      have n5 : Below w1.heap.size w1 w5 := nW.grown hgrow5 nW.size (fun k e => by have e' : some w4.heap.size = some k := e; injection e' with e'; omega)
      have nW5 : Below w1.heap.size (w4.alloc (.cells #[.int .i64 yx, .int .i64 ya, .int .i64 yb, .int .i64 yc, .int .i64 yd, .bool yf, .slice ad yM.length cap1] 41)) w5 := (Below.refl _ _).grown hgrow5 nW.size (fun k e => by have e' : some w4.heap.size = some k := e; injection e' with e'; omega)
      have hR : RSh w5 w1.heap.size (.slice (some ⟨g5, 0, none⟩) (1 + S.length) cap5) ((yx, (ya, yb, yc, yd), yf, yM) :: S) := rsh_two hown5 (Nat.le_trans (by omega) z4) rfl (ShEl.one (x := (yx, (ya, yb, yc, yd), yf, yM)) (HNX.out.below nW5)) (R2.out.below nW5)
      have HA := Lib.hid (hR.at n5.size)
      clear hown5 hgrow5 hat5 hR r1 R2 R3 HOW y0_ y1_ y2_ y3_ y4_ y5_ y6_
      go_wp2_with fail
      refine (KD.out _ _ HA.out).mono ?_
      rintro e w7 ⟨rfl, hb⟩
      have n7 := n5.trans (hb.mono n5.size)
      clear hb
      go_wp2_with fail
      go_ret
      exact ⟨rfl, b1.trans (n7.mono b1.size)⟩
    · rw [hok] at KI KS
      have KT2 := KT hok
      clear KT hok
      by_cases hc1 : caps = 1
      · have hS1 : S.length = 1 := by omega
        have hd1 : S.drop 1 = [] := List.drop_eq_nil_of_le (by omega)
        have HTT : Hid (∀ (V : World) (n : Nat), n = 0 ∨ n = S.length - 1 → RlAt V V.heap.size (.slice (some ⟨b, o, none⟩) n 0) (S.drop 1)) := Lib.hid fun V n hn => by
          rw [hd1, show n = 0 by omega]
          exact ⟨_, _, rfl, .inl rfl⟩
        subst hc1
        clear hd1 hS1
        go_wp2_with fail
        refine (KI.out _ H.out).mono ?_
        rintro e w2 ⟨rfl, hb⟩
        have n2 := hb
        clear hb
        go_wp2_with fail
        refine (KS.out _ (H.out.stepAt n2)).mono ?_
        rintro e w3 ⟨rfl, hb⟩
        have n3 := n2.trans (hb.mono n2.size)
        clear hb
        go_wp2_with fail
        refine (KN.out _).mono ?_
        rintro e w4 ⟨rfl, hb⟩
        have n4 := n3.trans (hb.mono n3.size)
        clear hb n2 n3
        go_wp2_with fail
        refine (KT2.out _ _ (HTT.out _ _ (by first | exact .inl rfl | exact .inr rfl))).mono ?_
        rintro e w8 ⟨rfl, hb⟩
        have n8 := n4.trans (hb.mono n4.size)
        clear hb
        have z4 := n8.size
        have y0_ := (n8.cell (p := ⟨b, o, none⟩) hB).trans e0
        have y1_ := (n8.cell (p := ⟨b, o + 1, none⟩) hB).trans e1
        have y2_ := (n8.cell (p := ⟨b, o + 2, none⟩) hB).trans e2
        have y3_ := (n8.cell (p := ⟨b, o + 3, none⟩) hB).trans e3
        have y4_ := (n8.cell (p := ⟨b, o + 4, none⟩) hB).trans e4
        have y5_ := (n8.cell (p := ⟨b, o + 5, none⟩) hB).trans e5
        have y6_ := (n8.cell (p := ⟨b, o + 6, none⟩) hB).trans e6
        have hbW : Below w8.heap.size w8 (w8.alloc (.cells #[.int .i64 yx, .int .i64 ya, .int .i64 yb, .int .i64 yc, .int .i64 yd, .bool yf, .slice ad yM.length cap1] 41)) := (Below.refl _ _).alloc (Nat.le_refl _) _
        have nW := n8.trans (hbW.mono n8.size)
        obtain ⟨r1, r2, r3⟩ := rel_rows (w := w8.alloc (.cells #[.int .i64 yx, .int .i64 ya, .int .i64 yb, .int .i64 yc, .int .i64 yd, .bool yf, .slice ad yM.length cap1] 41)) (B := w1.heap.size) (b := b) (o := o) (S := S) (fun i hi => (HC.out i hi).below nW hB)
        have ho := own_one (w := w8) (B := w8.heap.size) (n := yx) (a := ya) (b := yb) (c := yc) (d := yd) (f := yf) (u := .slice ad yM.length cap1) (Nat.le_refl _)
        have R2 := Lib.hid r2
        have R3 := Lib.hid r3
        have HOW := Lib.hid ho
        have HNX := Lib.hid (HS.out.below nW)
        clear r2 r3 ho e0 e1 e2 e3 e4 e5 e6
        go_wp2_with (at_builtin; refine BigFrame.wpList_want (by rfl) (fun K hK => wp_append_lies _ _ _ 27 (by rfl) w8.heap.size 41 i0 (.agg #[.int .i64 0, .int .i64 0, .int .i64 0, .int .i64 0, .int .i64 0, .bool false, .slice none 0 0]) 7 72 Try.underlying27 hi hz0 hz1 hz2 rfl (by decide) _ _ _ (by rfl) HOW.out ⟨b, o, none⟩ S.length 1 (rowCells (w8.alloc (.cells #[.int .i64 yx, .int .i64 ya, .int .i64 yb, .int .i64 yc, .int .i64 yd, .bool yf, .slice ad yM.length cap1] 41)) b o (S.length * 7)) (by rfl) r1 R3.out (R2.out.cells r1) hlen (by unfold maxLen; omega) (by omega) (by simp) _ rfl ?_))
        intro g5 cap5 w5 hown5 hgrow5 hat5 hlt5
        refine hK _ _ ?_
        clear hK
        have n5 : Below w1.heap.size w1 w5 := nW.grown hgrow5 nW.size (fun k e => by have e' : some w8.heap.size = some k := e; injection e' with e'; omega)
        have nW5 : Below w1.heap.size (w8.alloc (.cells #[.int .i64 yx, .int .i64 ya, .int .i64 yb, .int .i64 yc, .int .i64 yd, .bool yf, .slice ad yM.length cap1] 41)) w5 := (Below.refl _ _).grown hgrow5 nW.size (fun k e => by have e' : some w8.heap.size = some k := e; injection e' with e'; omega)
        have hR : RSh w5 w1.heap.size (.slice (some ⟨g5, 0, none⟩) (1 + S.length) cap5) ((yx, (ya, yb, yc, yd), yf, yM) :: S) := rsh_two hown5 (Nat.le_trans (by omega) z4) rfl (ShEl.one (x := (yx, (ya, yb, yc, yd), yf, yM)) (HNX.out.below nW5)) (R2.out.below nW5)
        have HA := Lib.hid (hR.at n5.size)
        clear hown5 hgrow5 hat5 hR r1 R2 R3 HOW y0_ y1_ y2_ y3_ y4_ y5_ y6_
        go_wp2_with fail
        refine (KD.out _ _ HA.out).mono ?_
        rintro e w7 ⟨rfl, hb⟩
        have n7 := n5.trans (hb.mono n5.size)
        clear hb
        go_wp2_with fail
        go_ret
        exact ⟨rfl, b1.trans (n7.mono b1.size)⟩
      · have HTT : Hid (∀ V : World, Below w1.heap.size w1 V → ∀ cp, RlAt V V.heap.size (.slice (some ⟨b, o + 7, none⟩) (S.length - 1) cp) (S.drop 1)) := Lib.hid fun V hV cp => by
          have := RlAt_drop (cap' := cp) (H.out.stepAt hV) (k := 1) (by omega)
          simpa using this
        go_wp2_with fail
        refine (KI.out _ H.out).mono ?_
        rintro e w2 ⟨rfl, hb⟩
        have n2 := hb
        clear hb
        go_wp2_with fail
        refine (KS.out _ (H.out.stepAt n2)).mono ?_
        rintro e w3 ⟨rfl, hb⟩
        have n3 := n2.trans (hb.mono n2.size)
        clear hb
        go_wp2_with fail
        refine (KN.out _).mono ?_
        rintro e w4 ⟨rfl, hb⟩
        have n4 := n3.trans (hb.mono n3.size)
        clear hb n2 n3
        go_wp2_with fail
        refine (KT2.out _ _ (HTT.out _ n4 _)).mono ?_
        rintro e w8 ⟨rfl, hb⟩
        have n8 := n4.trans (hb.mono n4.size)
        clear hb
        have z4 := n8.size
        have y0_ := (n8.cell (p := ⟨b, o, none⟩) hB).trans e0
        have y1_ := (n8.cell (p := ⟨b, o + 1, none⟩) hB).trans e1
        have y2_ := (n8.cell (p := ⟨b, o + 2, none⟩) hB).trans e2
        have y3_ := (n8.cell (p := ⟨b, o + 3, none⟩) hB).trans e3
        have y4_ := (n8.cell (p := ⟨b, o + 4, none⟩) hB).trans e4
        have y5_ := (n8.cell (p := ⟨b, o + 5, none⟩) hB).trans e5
        have y6_ := (n8.cell (p := ⟨b, o + 6, none⟩) hB).trans e6
        have hbW : Below w8.heap.size w8 (w8.alloc (.cells #[.int .i64 yx, .int .i64 ya, .int .i64 yb, .int .i64 yc, .int .i64 yd, .bool yf, .slice ad yM.length cap1] 41)) := (Below.refl _ _).alloc (Nat.le_refl _) _
        have nW := n8.trans (hbW.mono n8.size)
        obtain ⟨r1, r2, r3⟩ := rel_rows (w := w8.alloc (.cells #[.int .i64 yx, .int .i64 ya, .int .i64 yb, .int .i64 yc, .int .i64 yd, .bool yf, .slice ad yM.length cap1] 41)) (B := w1.heap.size) (b := b) (o := o) (S := S) (fun i hi => (HC.out i hi).below nW hB)
        have ho := own_one (w := w8) (B := w8.heap.size) (n := yx) (a := ya) (b := yb) (c := yc) (d := yd) (f := yf) (u := .slice ad yM.length cap1) (Nat.le_refl _)
        have R2 := Lib.hid r2
        have R3 := Lib.hid r3
        have HOW := Lib.hid ho
        have HNX := Lib.hid (HS.out.below nW)
        clear r2 r3 ho e0 e1 e2 e3 e4 e5 e6
        go_wp2_with (at_builtin; refine BigFrame.wpList_want (by rfl) (fun K hK => wp_append_lies _ _ _ 27 (by rfl) w8.heap.size 41 i0 (.agg #[.int .i64 0, .int .i64 0, .int .i64 0, .int .i64 0, .int .i64 0, .bool false, .slice none 0 0]) 7 72 Try.underlying27 hi hz0 hz1 hz2 rfl (by decide) _ _ _ (by rfl) HOW.out ⟨b, o, none⟩ S.length caps (rowCells (w8.alloc (.cells #[.int .i64 yx, .int .i64 ya, .int .i64 yb, .int .i64 yc, .int .i64 yd, .bool yf, .slice ad yM.length cap1] 41)) b o (S.length * 7)) (by rfl) r1 R3.out (R2.out.cells r1) hlen (by unfold maxLen; omega) (by omega) (by simp) _ rfl ?_))
        intro g5 cap5 w5 hown5 hgrow5 hat5 hlt5
        refine hK _ _ ?_
        clear hK
        have n5 : Below w1.heap.size w1 w5 := nW.grown hgrow5 nW.size (fun k e => by have e' : some w8.heap.size = some k := e; injection e' with e'; omega)
        have nW5 : Below w1.heap.size (w8.alloc (.cells #[.int .i64 yx, .int .i64 ya, .int .i64 yb, .int .i64 yc, .int .i64 yd, .bool yf, .slice ad yM.length cap1] 41)) w5 := (Below.refl _ _).grown hgrow5 nW.size (fun k e => by have e' : some w8.heap.size = some k := e; injection e' with e'; omega)
        have hR : RSh w5 w1.heap.size (.slice (some ⟨g5, 0, none⟩) (1 + S.length) cap5) ((yx, (ya, yb, yc, yd), yf, yM) :: S) := rsh_two hown5 (Nat.le_trans (by omega) z4) rfl (ShEl.one (x := (yx, (ya, yb, yc, yd), yf, yM)) (HNX.out.below nW5)) (R2.out.below nW5)
        have HA := Lib.hid (hR.at n5.size)
        clear hown5 hgrow5 hat5 hR r1 R2 R3 HOW y0_ y1_ y2_ y3_ y4_ y5_ y6_
        go_wp2_with fail
        refine (KD.out _ _ HA.out).mono ?_
        rintro e w7 ⟨rfl, hb⟩
        have n7 := n5.trans (hb.mono n5.size)
        clear hb
        go_wp2_with fail
        go_ret
        exact ⟨rfl, b1.trans (n7.mono b1.size)⟩

set_option maxRecDepth 100000 in
set_option maxHeartbeats 1000000 in
theorem shelfOkP_long (a : Option Addr) (len cap : Nat) (w : World) (hl : 1048576 < len) :
    Calls Try.prog 14 #[.slice a len cap] w fun e w' => e = .returned (.bool true) ∧ Below w.heap.size w w' := by
  go_enter Try.func14, Try.ntmps14
  go_wp2
  go_ret
  exact ⟨rfl, Below.refl _ _⟩

theorem shelfOkP_walk (a : Option Addr) (len cap : Nat) (w : World) (h : CodeIn w a len cap) :
    Calls Try.prog 14 #[.slice a len cap] w fun e w' => e = .returned (.bool true) ∧ Below w.heap.size w w' := by
  by_cases hl : len ≤ 1048576
  · exact shelfOkP_short a len cap w h hl
  · exact shelfOkP_long a len cap w (by omega)
end Psh

set_option maxRecDepth 100000 in
theorem shelfOkP_holds : Rows.FnShelfOkSaid :=
  OpenClaim.holds_of_wide 14 Try.f14 rfl rfl rfl rfl rfl rfl rfl ⟨rfl, rfl, rfl, rfl, rfl⟩ rfl rfl rfl rfl rfl (by kernel_rfl) Try.func14 (by kernel_rfl)
    (of_decide_eq_true (by kernel_rfl)) (by unfold Func.isWrapper; rw [if_neg (by decide +kernel)]; exact ⟨rfl, rfl⟩)
    (fun os started H enc _ => law_lifted (s := Rows.fnShelfOkSpec) (tb := 4) own started laid (by kernel_rfl) Try.func14 rfl (by kernel_rfl) Try.underlying4 (by kernel_rfl)
      (fun ds h => by rw [Try.params14] at h; match ds, h with | [_], _ => rfl)
      (ChangeSpec.witness6 (enc := enc) (C := Try.checked) false ⟨#[], #[.slice none 0 0], []⟩ 8 (by kernel_rfl) (by kernel_rfl) (by kernel_rfl) (by kernel_rfl))
      (law_code Try.params14 Psh.shelfOkP_walk))
#print axioms shelfOkP_holds

end Go.Proofs.Ytdjnfmekbjmdhaa

/- At every code the law FnClashHits returns true: the program and the model agree on whether drawn picks hit a drawn clash; a clash without terms is hit by all picks, and one that is hit is hit without any of its terms. No condition. -/
import Derived.BigFrame
import Derived.Deep.RegionHeld3
import Derived.Test.YtokafkbefllfjaaDhits
import Derived.Test.YtokafkbefllfjaaTmhit
import Derived.Test.YtokafkbefllfjaaApp
import Derived.Test.YtokafkbefllfjaaPTmOk
namespace Go.Proofs.Ytokafkbefllfjaa
open Go.ChangeShapes Go.WideShapes Go.ChangeAt Go.RowKit Go.Joins Go.Sort

namespace Tmo
open Foot Dsh Dpk Tmh
theorem from_wide : ∀ {M : List Tm} {lo lo' : Int}, tmFrom lo M = true → lo' ≤ lo → tmFrom lo' M = true
  | [], _, _, _, _ => rfl
  | x :: t, lo, lo', h, hl => by
    simp only [tmFrom, Bool.and_eq_true, decide_eq_true_eq] at h ⊢
    exact ⟨⟨by omega, h.1.2⟩, h.2⟩
theorem from_sub {M N : List Tm} (hs : M.Sublist N) : ∀ {lo : Int}, tmFrom lo N = true → tmFrom lo M = true := by
  induction hs with
  | slnil => intro lo h; exact h
  | cons x _ ih =>
    intro lo h
    simp only [tmFrom, Bool.and_eq_true, decide_eq_true_eq] at h
    exact from_wide (ih h.2.2) (by omega)
  | cons_cons x _ ih =>
    intro lo h
    simp only [tmFrom, Bool.and_eq_true, decide_eq_true_eq] at h ⊢
    exact ⟨h.1, h.2.1, ih h.2.2⟩
theorem less_sub {α : Type} (M : List α) (k : Nat) : (M.take k ++ M.drop (k + 1)).Sublist M := by
  rw [← List.eraseIdx_eq_take_drop_succ]
  exact List.eraseIdx_sublist _ _
/-- A clash that is hit is hit without any of its terms. -/
theorem less_hits {M : List Tm} {C : List Pk} (k : Nat) (h : hitsP M C = true) : hitsP (M.take k ++ M.drop (k + 1)) C = true := by
  unfold hitsP at h ⊢
  simp only [Bool.and_eq_true] at h ⊢
  refine ⟨?_, h.2.1, ?_⟩
  · unfold tmOk at h ⊢
    exact from_sub (less_sub M k) h.1
  · rw [List.all_eq_true]
    exact fun x hx => List.all_eq_true.1 h.2.2 x ((less_sub M k).subset hx)
theorem term_made {w V : World} (hV : V.heap = (w.alloc (.cells #[] 40)).heap) : V.ownsRow w.heap.size 40 3 (.slice (some ⟨w.heap.size, 0, none⟩) 0 0) 0 [] :=
  ⟨rfl, .inr ⟨w.heap.size, 0, #[], rfl, Nat.le_refl _, by rw [hV]; exact heap_alloc_new w _, Nat.le_refl _, by unfold maxLen; omega, rfl, rfl⟩⟩
/-- A row of terms that a call has made by two appends. -/
theorem rows_at {V : World} {B k m c : Nat} {a : Option Addr} {T1 T2 : List Value} {L : List Tm} (h : V.ownsRow B 40 3 (.slice a (0 + k + m) c) (0 + k + m) ([] ++ T1 ++ T2)) (hn : L.length = k + m)
    (hc : ∀ i (h : i < L.length), (T1 ++ T2)[i * 3]? = some (.int .i64 L[i].1) ∧ (T1 ++ T2)[i * 3 + 2]? = some (.bool L[i].2.2) ∧ ∃ a cap, (T1 ++ T2)[i * 3 + 1]? = some (.slice a L[i].2.1.length cap) ∧ SpAt V V.heap.size (.slice a L[i].2.1.length cap) L[i].2.1) :
    TmAt V V.heap.size (.slice a (k + m) c) L := by
  rw [Nat.zero_add, List.nil_append, ← hn] at h
  rw [← hn]
  obtain ⟨hl, h⟩ := h
  rcases h with ⟨e, hz⟩ | ⟨g, cap, cur, e, hb, hg, hnc, hcm, hcs, htk⟩
  · obtain rfl : L = [] := List.eq_nil_of_length_eq_zero hz
    exact ⟨_, _, rfl, .inl rfl⟩
  · simp only [Value.slice.injEq] at e
    obtain ⟨rfl, _, _⟩ := e
    refine ⟨_, _, rfl, .inr ⟨g, 0, rfl, (Array.getElem?_eq_some_iff.1 hg).1, fun i hi => ?_⟩⟩
    obtain ⟨h1, h4, a, c', h2, h3⟩ := hc i hi
    rw [← htk, List.getElem?_take, if_pos (by omega)] at h1 h2 h4
    rw [Nat.zero_add]
    exact ⟨(cell_of_row V g _ cur _ (0, 0) hg).trans (by simpa using h1), a, c', (cell_of_row V g _ cur _ (0, 0) hg).trans (by simpa using h2), h3, (cell_of_row V g _ cur _ (0, 0) hg).trans (by simpa using h4)⟩
theorem els_two {V : World} {T1 T2 : List Value} {A B : List Tm} (hl : T1.length = A.length * 3)
    (h1 : ∀ i (h : i < A.length), T1[i * 3]? = some (.int .i64 A[i].1) ∧ T1[i * 3 + 2]? = some (.bool A[i].2.2) ∧ ∃ a cap, T1[i * 3 + 1]? = some (.slice a A[i].2.1.length cap) ∧ SpAt V V.heap.size (.slice a A[i].2.1.length cap) A[i].2.1)
    (h2 : ∀ i (h : i < B.length), T2[i * 3]? = some (.int .i64 B[i].1) ∧ T2[i * 3 + 2]? = some (.bool B[i].2.2) ∧ ∃ a cap, T2[i * 3 + 1]? = some (.slice a B[i].2.1.length cap) ∧ SpAt V V.heap.size (.slice a B[i].2.1.length cap) B[i].2.1) :
    ∀ i (h : i < (A ++ B).length), (T1 ++ T2)[i * 3]? = some (.int .i64 (A ++ B)[i].1) ∧ (T1 ++ T2)[i * 3 + 2]? = some (.bool (A ++ B)[i].2.2) ∧ ∃ a cap, (T1 ++ T2)[i * 3 + 1]? = some (.slice a (A ++ B)[i].2.1.length cap) ∧ SpAt V V.heap.size (.slice a (A ++ B)[i].2.1.length cap) (A ++ B)[i].2.1 := fun i hi => by
  by_cases e : i < A.length
  · obtain ⟨k1, k4, a, c, k2, k3⟩ := h1 i e
    rw [List.getElem_append_left e]
    exact ⟨(List.getElem?_append_left (by omega)).trans k1, (List.getElem?_append_left (by omega)).trans k4, a, c, (List.getElem?_append_left (by omega)).trans k2, k3⟩
  · have hi' : i - A.length < B.length := by rw [List.length_append] at hi; omega
    obtain ⟨k1, k4, a, c, k2, k3⟩ := h2 (i - A.length) hi'
    rw [List.getElem_append_right (by omega)]
    refine ⟨(List.getElem?_append_right (by omega)).trans ?_, (List.getElem?_append_right (by omega)).trans ?_, a, c, (List.getElem?_append_right (by omega)).trans ?_, k3⟩
    · rw [show i * 3 - T1.length = (i - A.length) * 3 by omega]; exact k1
    · rw [show i * 3 + 2 - T1.length = (i - A.length) * 3 + 2 by omega]; exact k4
    · rw [show i * 3 + 1 - T1.length = (i - A.length) * 3 + 1 by omega]; exact k2
/-- The cells of a row of terms, in whatever world is behind. -/
theorem row_far {W : World} {b o : Nat} {A : List Tm} (hb : b < W.heap.size) (hc : ∀ i (h : i < A.length), TmC W W.heap.size b (o + i * 3) A[i]) :
    (rowCellsT W b o (A.length * 3)).length = A.length * 3 ∧ (∀ u ∈ rowCellsT W b o (A.length * 3), u.oneCell' = true) ∧ ∀ V, Below W.heap.size W V → (∀ j u, (rowCellsT W b o (A.length * 3))[j]? = some u → V.cell? ((⟨b, o, none⟩ : Addr).add j) = some u) ∧
      ∀ i (h : i < A.length), (rowCellsT W b o (A.length * 3))[i * 3]? = some (.int .i64 A[i].1) ∧ (rowCellsT W b o (A.length * 3))[i * 3 + 2]? = some (.bool A[i].2.2) ∧ ∃ a cap, (rowCellsT W b o (A.length * 3))[i * 3 + 1]? = some (.slice a A[i].2.1.length cap) ∧ SpAt V V.heap.size (.slice a A[i].2.1.length cap) A[i].2.1 := by
  obtain ⟨r1, r2, r3, r4⟩ := row_news (W := W) (B := W.heap.size) (x := none) (Nat.le_refl _) hc (fun c e => by cases e)
  refine ⟨r1, r3, fun V hV => ⟨fun j u hu => ?_, fun i hi => ?_⟩⟩
  · have hadd : (⟨b, o, none⟩ : Addr).add j = ⟨b, o + j, none⟩ := by unfold Addr.add; split <;> simp_all
    have := r2 j u hu
    rw [hadd] at this ⊢
    exact (hV.cell (p := ⟨b, o + j, none⟩) hb).trans this
  · obtain ⟨k1, k4, a, c, k2, k3⟩ := r4 i hi
    exact ⟨k1, k4, a, c, k2, k3.at.stepAt hV⟩

set_option maxRecDepth 100000 in
set_option maxHeartbeats 8000000 in
theorem hitsPr_short (a : Option Addr) (len cap : Nat) (w : World) (h : CodeIn w a len cap) (hl : len ≤ 1048576) :
    Calls Try.prog 4 #[.slice a len cap] w fun e w' => e = .returned (.bool true) ∧ Below w.heap.size w w' := by
  obtain ⟨i0, hi, hz0, hz1, hz2⟩ := info_parts infoTerm
  go_enter Try.func4, Try.ntmps4
  go_wp2_with fail
  refine (DrawClashHits_any a len cap w h).mono ?_
  rintro e w1 ⟨M, va, vc, C, pa, pc, rfl, htm1, hpk1, hM6, hM41, hC30, hMc, b1⟩
  have hM : M.length ≤ 1048576 := by omega
  have hq : ∀ q ∈ M, q.2.1.length ≤ 1048576 := fun q hq => by have := hM41 q hq; omega
  have hC : C.length ≤ 1048576 := by omega
  have KI : Hid (∀ V, TmAt V V.heap.size (.slice va M.length vc) M → PkAt V V.heap.size (.slice pa C.length pc) C → Calls Try.prog 9 #[.slice va M.length vc, .slice pa C.length pc] V fun e w' => e = .returned (.bool (hitsP M C)) ∧ Below V.heap.size V w') := Lib.hid fun V g g' => implHits_any _ _ M C V hM hq hC g g'
  have KS : Hid (∀ V, TmAt V V.heap.size (.slice va M.length vc) M → PkAt V V.heap.size (.slice pa C.length pc) C → Calls Try.prog 10 #[.slice va M.length vc, .slice pa C.length pc] V fun e w' => e = .returned (.bool (hitsP M C)) ∧ Below V.heap.size V w') := Lib.hid fun V g g' => specHits_any _ _ M C V hM hq hC g g'
  have KN : Hid (∀ V, PkAt V V.heap.size (.slice pa C.length pc) C → Calls Try.prog 9 #[.slice none 0 0, .slice pa C.length pc] V fun e w' => e = .returned (.bool (pkOk C)) ∧ Below V.heap.size V w') := Lib.hid fun V g => by
    have := implHits_any (.slice none 0 0) _ [] C V (by simp) (by simp) hC ⟨_, _, rfl, .inl rfl⟩ g
    rwa [show hitsP [] C = pkOk C by unfold hitsP; simp [tmOk, tmFrom]] at this
  have KP : Hid (∀ V, PkAt V V.heap.size (.slice pa C.length pc) C → Calls Try.prog 11 #[.slice pa C.length pc] V fun e w' => e = .returned (.bool (pkOk C)) ∧ Below V.heap.size V w') := Lib.hid fun V g => implPicksOk_any _ C V hC g
  have H := Lib.hid htm1
  have HC := Lib.hid hpk1
  have HLESS := Lib.hid (fun (hh : hitsP M C = true) (k : Nat) (V : World) (u : Value) (g : TmAt V V.heap.size u (M.take k ++ M.drop (k + 1))) (g' : PkAt V V.heap.size (.slice pa C.length pc) C) => show Calls Try.prog 9 #[u, .slice pa C.length pc] V fun e w' => e = .returned (.bool true) ∧ Below V.heap.size V w' by
    have := implHits_any u _ _ C V (Nat.le_trans (less_sub M k).length_le hM) (fun q hq' => hq q ((less_sub M k).subset hq')) hC g g'
    rwa [less_hits k hh] at this)
  generalize hh : hitsP M C = hits at KI KS HLESS
  generalize pkOk C = ok at KN KP
  have hhh : (hits != hits) = false := by simp
  have hoo : (ok != ok) = false := by simp
  clear htm1 hpk1 h hM41 hq hh
  cases hits
  all_goals
    go_wp2_with fail
    refine (KI.out _ H.out HC.out).mono ?_
    rintro e w2 ⟨rfl, b2⟩
    go_wp2_with fail
    refine (KS.out _ (H.out.stepAt b2) (HC.out.stepAt b2)).mono ?_
    rintro e w3 ⟨rfl, hb⟩
    have b3 := b2.trans (hb.mono b2.size)
    clear hb
    go_wp2_with fail
    refine (KN.out _ (HC.out.stepAt b3)).mono ?_
    rintro e w4 ⟨rfl, hb⟩
    have b4 := b3.trans (hb.mono b3.size)
    clear hb
    go_wp2_with fail
    refine (KP.out _ (HC.out.stepAt b4)).mono ?_
    rintro e w5 ⟨rfl, hb⟩
    have b5 := b4.trans (hb.mono b4.size)
    clear hb KI KS KN KP b2 b3 b4
  · go_wp2_with fail
    go_loopw [6] (fun i wr => i = .int .i64 0 ∧ wr = w5) (fun _ _ => 0)
    case atStart => exact ⟨rfl, rfl⟩
    case round =>
      obtain ⟨rfl, rfl⟩ := hrel
      go_wp2_with fail
      refine (alive_any _).mono ?_
      rintro e w9 ⟨rfl, hb9⟩
      have n9 := b5.trans (hb9.mono b5.size)
      clear hb9
      go_wp2_with fail
      go_ret
      exact ⟨rfl, b1.trans (n9.mono b1.size)⟩
  · go_wp2_with fail
    go_loopw [6] (fun i wr => ∃ k : Nat, k ≤ M.length ∧ i = .int .i64 (k : Int) ∧ Below w5.heap.size w5 wr) (fun i _ => M.length - (intOf i).toNat)
    case atStart => exact ⟨0, Nat.zero_le _, rfl, Below.refl _ _⟩
    case round =>
      obtain ⟨k, hk, rfl, hb⟩ := hrel
      have m1 := b5.trans (hb.mono b5.size)
      by_cases hlt : k < M.length
      · obtain ⟨tb, tq, rfl, htB, htc⟩ : ∃ b o, va = some ⟨b, o, none⟩ ∧ b < w1.heap.size ∧ ∀ i (h : i < M.length), TmC w1 w1.heap.size b (o + i * 3) M[i] := by
          obtain ⟨a', c', e, hh⟩ := H.out
          simp only [Value.slice.injEq] at e
          obtain ⟨rfl, _, _⟩ := e
          rcases hh with hh | ⟨b, o, e, hB, hc⟩
          · rw [hh] at hlt; simp at hlt
          · exact ⟨b, o, e, hB, hc⟩
        obtain ⟨j, hjk⟩ : ∃ j, j = k + 1 := ⟨_, rfl⟩
        have hlk : (M.take k).length = k := by rw [List.length_take]; omega
        have hld : (M.drop j).length = M.length - j := by rw [List.length_drop]
        obtain ⟨p1, p2, p3⟩ := row_far (A := M.take k) htB (fun i hi => by
          rw [List.getElem_take]
          exact htc i (by rw [hlk] at hi; omega))
        obtain ⟨q1, q2, q3⟩ := row_far (A := M.drop j) (o := tq + j * 3) htB (fun i hi => by
          rw [List.getElem_drop, show tq + j * 3 + i * 3 = tq + (j + i) * 3 by omega]
          exact htc (j + i) (by rw [hld] at hi; omega))
        obtain ⟨T1, hT1⟩ : ∃ T, rowCellsT w1 tb tq ((M.take k).length * 3) = T := ⟨_, rfl⟩
        obtain ⟨T2, hT2⟩ : ∃ T, rowCellsT w1 tb (tq + j * 3) ((M.drop j).length * 3) = T := ⟨_, rfl⟩
        rw [hT1] at p1 p2 p3
        rw [hT2] at q1 q2 q3
        have FF := Lib.hid (fun V hV => els_two p1 (p3 V hV).2 (q3 V hV).2)
        have G1 := Lib.hid (fun V hV => (p3 V hV).1)
        have G2 := Lib.hid (fun V hV => (q3 V hV).1)
        rw [hlk] at p1
        rw [hld] at q1
        have L1 := Lib.hid p1
        have L2 := Lib.hid q1
        have O1 := Lib.hid p2
        have O2 := Lib.hid q2
        have HJ := Lib.hid hjk
        have HL := Lib.hid (show (M.take k ++ M.drop j).length = k + (M.length - j) by rw [List.length_append, hlk, hld])
        have KL : Hid (∀ V u, TmAt V V.heap.size u (M.take k ++ M.drop j) → PkAt V V.heap.size (.slice pa C.length pc) C → Calls Try.prog 9 #[u, .slice pa C.length pc] V fun e w' => e = .returned (.bool true) ∧ Below V.heap.size V w') := Lib.hid fun V u g g' => HLESS.out (by first | rfl | trivial) k V u (by rw [← hjk]; exact g) g'
        have k0 : (0 : Int) ≤ (k : Int) := by omega
        have k1 : (k : Int) < (M.length : Int) := by omega
        have k2 : (j : Int) ≤ (M.length : Int) := by omega
        have k3 : (j : Int) ≤ (vc : Int) := by omega
        have k4 : (k : Int) ≤ (vc : Int) := by omega
        have k5 : (0 : Int) ≤ (j : Int) := by omega
        have k6 : (M.length : Int) ≤ (vc : Int) := by omega
        have kw : IntKind.i64.wrap ((k : Int) + 1) = (j : Int) := (IntWalk.i64_in _ (by omega)).trans (by omega)
        have kj : k ≤ j ∧ j ≤ 6 := by omega
        have zr := hb.size
        clear hjk hMc p1 p2 p3 q1 q2 q3 htc hT1 hT2 hlk hld
        by_cases he : j = vc
        · have hd0 : T2 = [] := List.eq_nil_of_length_eq_zero (by rw [L2.out]; omega)
          have HD0 := Lib.hid hd0
          clear hd0
          subst he
          go_wp2_with fail
          go_region_held3 (fun _ => True) (trivial)
            (first
              | (refine step_append_rows _ rfl (.tmp 39) (.tmp 42) 23 rfl wr.heap.size 40 i0 (.agg #[.int .i64 0, .slice none 0 0, .bool false]) 3 40 Try.underlying23 hi hz0 hz1 hz2 rfl (by decide) _ 0 [] (by rfl) (term_made rfl) (some ⟨tb, tq, none⟩) k j T1 (by rfl) L1.out (fun e => by cases e) (fun ad e i u hu => by cases e; exact G1.out _ (m1.trans (Below.mono (by go_grown) m1.size)) i u hu) O1.out (by unfold maxLen; omega) (by omega) (by first | exact Nat.le_refl _ | omega | (simp; done) | (simp; omega)) ?_; intro a4 c4 x4 own4 grow4 at4; have n4 : Below wr.heap.size wr x4 := Below.grown (by go_grown) grow4 (by first | exact Nat.le_refl _ | omega | (simp; done) | (simp; omega)) (fun k' e => by have e' : some wr.heap.size = some k' := e; injection e' with e'; omega); have z4 := n4.size)
              | (refine step_append_rows _ rfl (.tmp 43) (.tmp 47) 23 rfl wr.heap.size 40 i0 (.agg #[.int .i64 0, .slice none 0 0, .bool false]) 3 40 Try.underlying23 hi hz0 hz1 hz2 rfl (by decide) (.slice a4 (0 + k) c4) (0 + k) ([] ++ T1) (by first | rfl | (rw [Nat.zero_add]; rfl) | (simp only [Nat.zero_add]; rfl) | simp [Act.eval]) own4 (some ⟨tb, tq, none⟩) (M.length - j) 0 T2 (by rfl) L2.out (fun e => by cases e) (fun ad e i u hu => by rw [HD0.out] at hu; simp at hu) O2.out (by unfold maxLen; omega) (by omega) (by first | exact Nat.le_refl _ | omega | (simp; done) | (simp; omega)) ?_; intro a5 c5 x5 own5 grow5 at5; have n5 : Below wr.heap.size wr x5 := Below.grown n4 grow5 n4.size (fun k' e => (World.ownsRow.lt own4 k' e).1); have A5 := Lib.hid (rows_at own5 HL.out (FF.out _ (m1.trans (n5.mono m1.size)))))
              | (go_at_call 9; refine (KL.out _ _ A5.out (HC.out.stepAt (m1.trans (n5.mono m1.size)))).mono ?_; rintro e x6 ⟨rfl, hb6⟩; have n6 : Below wr.heap.size wr x6 := n5.trans (hb6.mono n5.size))
              | fail)
          all_goals
            have HN6 := Lib.hid (hb.trans (n6.mono hb.size))
            clear own5 grow5 at5 own4 grow4 at4 n4 n5 n6 hb6
            go_wp2_with fail
            go_roundw
            case rel => exact ⟨j, by have := HJ.out; omega, rfl, HN6.out⟩
            case measure => have := HJ.out; simp [intOf]; omega
        · have k9 : ¬ vc = j := fun e => he e.symm
          clear he
          go_wp2_with fail
          go_region_held3 (fun _ => True) (trivial)
            (first
              | (refine step_append_rows _ rfl (.tmp 39) (.tmp 42) 23 rfl wr.heap.size 40 i0 (.agg #[.int .i64 0, .slice none 0 0, .bool false]) 3 40 Try.underlying23 hi hz0 hz1 hz2 rfl (by decide) _ 0 [] (by rfl) (term_made rfl) (some ⟨tb, tq, none⟩) k vc T1 (by rfl) L1.out (fun e => by cases e) (fun ad e i u hu => by cases e; exact G1.out _ (m1.trans (Below.mono (by go_grown) m1.size)) i u hu) O1.out (by unfold maxLen; omega) (by omega) (by first | exact Nat.le_refl _ | omega | (simp; done) | (simp; omega)) ?_; intro a4 c4 x4 own4 grow4 at4; have n4 : Below wr.heap.size wr x4 := Below.grown (by go_grown) grow4 (by first | exact Nat.le_refl _ | omega | (simp; done) | (simp; omega)) (fun k' e => by have e' : some wr.heap.size = some k' := e; injection e' with e'; omega); have z4 := n4.size)
              | (refine step_append_rows _ rfl (.tmp 43) (.tmp 47) 23 rfl wr.heap.size 40 i0 (.agg #[.int .i64 0, .slice none 0 0, .bool false]) 3 40 Try.underlying23 hi hz0 hz1 hz2 rfl (by decide) (.slice a4 (0 + k) c4) (0 + k) ([] ++ T1) (by first | rfl | (rw [Nat.zero_add]; rfl) | (simp only [Nat.zero_add]; rfl) | simp [Act.eval]) own4 (some ⟨tb, tq + j * 3, none⟩) (M.length - j) (vc - j) T2 (by rfl) L2.out (fun e => by cases e) (fun ad e i u hu => by cases e; exact G2.out _ (m1.trans (n4.mono m1.size)) i u hu) O2.out (by unfold maxLen; omega) (by omega) (by first | exact Nat.le_refl _ | omega | (simp; done) | (simp; omega)) ?_; intro a5 c5 x5 own5 grow5 at5; have n5 : Below wr.heap.size wr x5 := Below.grown n4 grow5 n4.size (fun k' e => (World.ownsRow.lt own4 k' e).1); have A5 := Lib.hid (rows_at own5 HL.out (FF.out _ (m1.trans (n5.mono m1.size)))))
              | (go_at_call 9; refine (KL.out _ _ A5.out (HC.out.stepAt (m1.trans (n5.mono m1.size)))).mono ?_; rintro e x6 ⟨rfl, hb6⟩; have n6 : Below wr.heap.size wr x6 := n5.trans (hb6.mono n5.size))
              | fail)
          all_goals
            have HN6 := Lib.hid (hb.trans (n6.mono hb.size))
            clear own5 grow5 at5 own4 grow4 at4 n4 n5 n6 hb6
            go_wp2_with fail
            go_roundw
            case rel => exact ⟨j, by have := HJ.out; omega, rfl, HN6.out⟩
            case measure => have := HJ.out; simp [intOf]; omega
      · obtain rfl : k = M.length := by omega
        go_wp2_with fail
        refine (alive_any _).mono ?_
        rintro e w9 ⟨rfl, hb9⟩
        have n9 := m1.trans (hb9.mono m1.size)
        clear hb9
        go_wp2_with fail
        go_ret
        exact ⟨rfl, b1.trans (n9.mono b1.size)⟩

set_option maxRecDepth 100000 in
set_option maxHeartbeats 1000000 in
theorem hitsPr_long (a : Option Addr) (len cap : Nat) (w : World) (hl : 1048576 < len) :
    Calls Try.prog 4 #[.slice a len cap] w fun e w' => e = .returned (.bool true) ∧ Below w.heap.size w w' := by
  go_enter Try.func4, Try.ntmps4
  go_wp2
  go_ret
  exact ⟨rfl, Below.refl _ _⟩

theorem hitsPr_walk (a : Option Addr) (len cap : Nat) (w : World) (h : CodeIn w a len cap) :
    Calls Try.prog 4 #[.slice a len cap] w fun e w' => e = .returned (.bool true) ∧ Below w.heap.size w w' := by
  by_cases hl : len ≤ 1048576
  · exact hitsPr_short a len cap w h hl
  · exact hitsPr_long a len cap w (by omega)
end Tmo

set_option maxRecDepth 100000 in
theorem clashHitsP_holds : Rows.FnClashHitsSaid :=
  OpenClaim.holds_of_wide 4 Try.f4 rfl rfl rfl rfl rfl rfl rfl ⟨rfl, rfl, rfl, rfl, rfl⟩ rfl rfl rfl rfl rfl (by kernel_rfl) Try.func4 (by kernel_rfl)
    (of_decide_eq_true (by kernel_rfl)) (by unfold Func.isWrapper; rw [if_neg (by decide +kernel)]; exact ⟨rfl, rfl⟩)
    (fun os started H enc _ => law_lifted (s := Rows.fnClashHitsSpec) (tb := 4) own started laid (by kernel_rfl) Try.func4 rfl (by kernel_rfl) Try.underlying4 (by kernel_rfl)
      (fun ds h => by rw [Try.params4] at h; match ds, h with | [_], _ => rfl)
      (ChangeSpec.witness6 (enc := enc) (C := Try.checked) false ⟨#[], #[.slice none 0 0], []⟩ 8 (by kernel_rfl) (by kernel_rfl) (by kernel_rfl) (by kernel_rfl))
      (law_code Try.params4 Tmo.hitsPr_walk))
#print axioms clashHitsP_holds

end Go.Proofs.Ytokafkbefllfjaa

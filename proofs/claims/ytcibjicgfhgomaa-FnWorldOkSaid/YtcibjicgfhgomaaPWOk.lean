/- At every code the law FnWorldOk returns true: the program and the model agree on the drawn targets, no targets are a world, each beginning of a world is one, and a step that needs itself is none. No condition. -/
import Derived.Test.YtcibjicgfhgomaaDwd
import Derived.Test.YtcibjicgfhgomaaWos
namespace Go.Proofs.Ytcibjicgfhgomaa
open Go.ChangeShapes Go.WideShapes Go.ChangeAt Go.RowKit Go.Joins Go.Sort
namespace Pwo
open Drm Dtg Tg Wl
theorem tg_take {w : World} {B : Nat} {a : Option Addr} {c n : Nat} {S : List Tgt} (h : TgAt w B (.slice a S.length c) S) (hn : n ≤ S.length) : TgAt w B (.slice a n c) (S.take n) := by
  obtain ⟨a', c', e, h⟩ := h
  simp only [Value.slice.injEq] at e
  obtain ⟨rfl, _, rfl⟩ := e
  have hl : (S.take n).length = n := by simp; omega
  refine ⟨a, c, by rw [hl], ?_⟩
  rcases h with rfl | ⟨b, o, rfl, hB, hc⟩
  · exact .inl (by simp)
  · refine .inr ⟨b, o, rfl, hB, fun i hi => ?_⟩
    rw [List.getElem_take]
    exact hc i (by rw [hl] at hi; omega)
def self : List Tgt := [(true, ⟨#[]⟩, [], [0])]
theorem self_no : wOk self = false := by decide
theorem self_at {w : World} : TgAt ((w.alloc (.cells #[.int .i64 0] 3)).alloc (.cells #[.bool true, .string ⟨#[]⟩, .slice none 0 0, .slice (some ⟨w.heap.size, 0, none⟩) 1 1] 44)) ((w.alloc (.cells #[.int .i64 0] 3)).alloc (.cells #[.bool true, .string ⟨#[]⟩, .slice none 0 0, .slice (some ⟨w.heap.size, 0, none⟩) 1 1] 44)).heap.size (.slice (some ⟨w.heap.size + 1, 0, none⟩) 1 1) self := by
  have h1 := i1_new (w := w) (lo := w.heap.size) 0 (Nat.le_refl _)
  have hb : Below (w.alloc (.cells #[.int .i64 0] 3)).heap.size (w.alloc (.cells #[.int .i64 0] 3)) ((w.alloc (.cells #[.int .i64 0] 3)).alloc (.cells #[.bool true, .string ⟨#[]⟩, .slice none 0 0, .slice (some ⟨w.heap.size, 0, none⟩) 1 1] 44)) := (Below.refl _ _).alloc (Nat.le_refl _) _
  have hx := heap_alloc_new (w.alloc (.cells #[.int .i64 0] 3)) (.cells #[.bool true, .string ⟨#[]⟩, .slice none 0 0, .slice (some ⟨w.heap.size, 0, none⟩) 1 1] 44)
  rw [show (w.alloc (.cells #[.int .i64 0] 3)).heap.size = w.heap.size + 1 by simp] at hx
  obtain ⟨c0, c1, c2, c3, _⟩ := box_cells hx
  refine ⟨_, _, rfl, .inr ⟨w.heap.size + 1, 0, rfl, by simp, fun i hi => ?_⟩⟩
  obtain rfl : i = 0 := by simpa [self] using hi
  exact ⟨⟨c0, c1⟩, none, 0, some ⟨w.heap.size, 0, none⟩, 1, c2, c3, ⟨none, 0, rfl, .inl rfl⟩, ⟨_, _, rfl, .inr ⟨w.heap.size, 0, rfl, by simp; omega, fun j hj => by
    have hj' : j < 1 := hj
    obtain rfl : j = 0 := by omega
    exact (cell_of_row _ _ _ _ _ (0, 0) ((hb.block w.heap.size (by simp)).trans (heap_alloc_new w _))).trans rfl⟩⟩⟩

set_option maxRecDepth 100000 in
set_option maxHeartbeats 8000000 in
theorem short (a : Option Addr) (len cap : Nat) (w : World) (h : CodeIn w a len cap) (hl : len ≤ 1048576) :
    Calls Try.prog 7 #[.slice a len cap] w fun e w' => e = .returned (.bool true) ∧ Below w.heap.size w w' := by
  go_enter Try.func7, Try.ntmps7
  go_wp2_with fail
  refine (DrawWorldOk_any a len cap w h).mono ?_
  rintro e w1 ⟨S, va, vc, rfl, hcap, hat, hlS, hsm, hb1⟩
  have hp := sm_par hsm
  have KI := Lib.hid (fun V (g : Below w1.heap.size w1 V) => implWorldOk_any _ S V (by omega) hp (hat.stepAt g))
  have KS := Lib.hid (fun V (g : Below w1.heap.size w1 V) => specWorldOk_any _ S V (by omega) hp (hat.stepAt g))
  have K0 : Hid (∀ V, Calls Try.prog 16 #[.slice none 0 0] V fun e w' => e = .returned (.bool true) ∧ Below V.heap.size V w') := Lib.hid fun V => implWorldOk_any _ [] V (by simp) (by simp) ⟨none, 0, rfl, .inl rfl⟩
  have KX : Hid (∀ V u, TgAt V V.heap.size u self → Calls Try.prog 16 #[u] V fun e w' => e = .returned (.bool false) ∧ Below V.heap.size V w') := Lib.hid fun V u g => by
    have := implWorldOk_any u self V (by simp [self]) (fun q hq => by
      simp [self] at hq
      subst hq
      exact ⟨Nat.zero_le _, Nat.zero_le _, (fun p hp => by cases hp), by show 1 ≤ 1048576; omega⟩) g
    rwa [self_no] at this
  have HB1 := Lib.hid hb1
  obtain ⟨bk, hbk⟩ : ∃ bk, wOk S = bk := ⟨_, rfl⟩
  have hbb : (bk == bk) = true := by simp
  rcases bk
  · rw [hbk] at KI KS
    clear hat hsm hp hb1 hbk
    go_wp2_with fail
    refine (KI.out _ (Below.refl _ _)).mono ?_
    rintro e w2 ⟨rfl, hb2⟩
    go_wp2_with fail
    refine (KS.out _ hb2).mono ?_
    rintro e w3 ⟨rfl, hb3⟩
    have b3 := hb2.trans (hb3.mono hb2.size)
    clear hb2 hb3
    go_wp2_with fail
    refine (K0.out _).mono ?_
    rintro e w4 ⟨rfl, hb4⟩
    have b4 := b3.trans (hb4.mono b3.size)
    clear b3 hb4
    go_wp2_with fail
    refine (KX.out _ _ self_at).mono ?_
    rintro e w5 ⟨rfl, hb5⟩
    have n5 : Below w4.heap.size w4 w5 := Below.step (by go_grown) hb5
    have b5 := Lib.hid (HB1.out.trans ((b4.trans (n5.mono b4.size)).mono HB1.out.size))
    clear hb5 b4 n5
    go_wp2_with fail
    go_ret
    exact ⟨rfl, b5.out⟩
  rcases hS : S.length with _ | n
  · rw [hS] at KI KS
    rw [hbk] at KI KS
    clear hat hsm hp hb1 hbk
    go_wp2_with fail
    refine (KI.out _ (Below.refl _ _)).mono ?_
    rintro e w2 ⟨rfl, hb2⟩
    go_wp2_with fail
    refine (KS.out _ hb2).mono ?_
    rintro e w3 ⟨rfl, hb3⟩
    have b3 := hb2.trans (hb3.mono hb2.size)
    clear hb2 hb3
    go_wp2_with fail
    refine (K0.out _).mono ?_
    rintro e w4 ⟨rfl, hb4⟩
    have b4 := b3.trans (hb4.mono b3.size)
    clear b3 hb4
    go_wp2_with fail
    refine (KX.out _ _ self_at).mono ?_
    rintro e w5 ⟨rfl, hb5⟩
    have n5 : Below w4.heap.size w4 w5 := Below.step (by go_grown) hb5
    have b5 := Lib.hid (HB1.out.trans ((b4.trans (n5.mono b4.size)).mono HB1.out.size))
    clear hb5 b4 n5
    go_wp2_with fail
    go_ret
    exact ⟨rfl, b5.out⟩
  have KT : Hid (∀ V, Below w1.heap.size w1 V → Calls Try.prog 16 #[.slice va n vc] V fun e w' => e = .returned (.bool true) ∧ Below V.heap.size V w') := Lib.hid fun V g => by
    have hh := tg_take (hat.stepAt g) (show n ≤ S.length by omega)
    have := implWorldOk_any _ (S.take n) V (by simp; omega) (fun q hq => hp q (List.mem_of_mem_take hq)) hh
    rwa [wOk_take hbk n] at this
  rw [hS] at KI KS
  rw [hbk] at KI KS
  have hz : (((n : Int) + 1) == 0) = false := by rw [beq_eq_false_iff_ne]; omega
  have hz2 : (n : Int) + 1 - 1 = (n : Int) := by omega
  have hcap' : n + 1 ≤ vc := by omega
  have hc1 : (n : Int) ≤ (vc : Int) := by omega
  have hc2 : (0 : Int) ≤ (n : Int) := by omega
  clear hat hsm hp hb1 hbk
  go_wp2_with fail
  refine (KI.out _ (Below.refl _ _)).mono ?_
  rintro e w2 ⟨rfl, hb2⟩
  go_wp2_with fail
  refine (KS.out _ hb2).mono ?_
  rintro e w3 ⟨rfl, hb3⟩
  have b3 := hb2.trans (hb3.mono hb2.size)
  clear hb2 hb3
  go_wp2_with fail
  refine (K0.out _).mono ?_
  rintro e w4 ⟨rfl, hb4⟩
  have b4 := b3.trans (hb4.mono b3.size)
  clear b3 hb4
  go_wp2_with fail
  refine (KT.out _ b4).mono ?_
  rintro e w5 ⟨rfl, hb5⟩
  have b5 := b4.trans (hb5.mono b4.size)
  clear b4 hb5
  go_wp2_with fail
  refine (KX.out _ _ self_at).mono ?_
  rintro e w6 ⟨rfl, hb6⟩
  have n6 : Below w5.heap.size w5 w6 := Below.step (by go_grown) hb6
  have b6 := Lib.hid (HB1.out.trans ((b5.trans (n6.mono b5.size)).mono HB1.out.size))
  clear hb6 b5 n6
  go_wp2_with fail
  go_ret
  exact ⟨rfl, b6.out⟩

set_option maxHeartbeats 1000000 in
theorem long (a : Option Addr) (len cap : Nat) (w : World) (hl : 1048576 < len) :
    Calls Try.prog 7 #[.slice a len cap] w fun e w' => e = .returned (.bool true) ∧ Below w.heap.size w w' := by
  go_enter Try.func7, Try.ntmps7
  go_wp2
  go_ret
  exact ⟨rfl, Below.refl _ _⟩
theorem walk (a : Option Addr) (len cap : Nat) (w : World) (h : CodeIn w a len cap) :
    Calls Try.prog 7 #[.slice a len cap] w fun e w' => e = .returned (.bool true) ∧ Below w.heap.size w w' := by
  by_cases hl : len ≤ 1048576
  · exact short a len cap w h hl
  · exact long a len cap w (by omega)
end Pwo

set_option maxRecDepth 100000 in
theorem worldOk_holds : Rows.FnWorldOkSaid :=
  OpenClaim.holds_of_wide 7 Try.f7 rfl rfl rfl rfl rfl rfl rfl ⟨rfl, rfl, rfl, rfl, rfl⟩ rfl rfl rfl rfl rfl (by kernel_rfl) Try.func7 (by kernel_rfl)
    (of_decide_eq_true (by kernel_rfl)) (by unfold Func.isWrapper; rw [if_neg (by decide +kernel)]; exact ⟨rfl, rfl⟩)
    (fun os started H enc _ => law_lifted (s := Rows.fnWorldOkSpec) (tb := 4) own started laid (by kernel_rfl) Try.func7 rfl (by kernel_rfl) Try.underlying4 (by kernel_rfl)
      (fun ds h => by rw [Try.params7] at h; match ds, h with | [_], _ => rfl)
      (ChangeSpec.witness6 (enc := enc) (C := Try.checked) false ⟨#[], #[.slice none 0 0], []⟩ 8 (by kernel_rfl) (by kernel_rfl) (by kernel_rfl) (by kernel_rfl))
      (law_code Try.params7 Pwo.walk))
#print axioms worldOk_holds
end Go.Proofs.Ytcibjicgfhgomaa

/- At every code the law FnThingsOk returns true: the program and the model agree on the drawn texts, no texts are inputs, and six texts more are too many. No condition. -/
import Derived.Test.YtfmidekffcjbgaaDrd
import Derived.Test.YtfmidekffcjbgaaApp3
namespace Go.Proofs.Ytfmidekffcjbgaa
open Go.ChangeShapes Go.WideShapes Go.ChangeAt Go.RowKit Go.Joins Go.Sort
namespace Pth
open Drm Rx Obl
abbrev six : Obj := .cells #[.string ⟨#[]⟩, .string ⟨#[]⟩, .string ⟨#[]⟩, .string ⟨#[]⟩, .string ⟨#[]⟩, .string ⟨#[]⟩] 9
def e6 : List ByteArray := [⟨#[]⟩, ⟨#[]⟩, ⟨#[]⟩, ⟨#[]⟩, ⟨#[]⟩, ⟨#[]⟩]

set_option maxRecDepth 100000 in
set_option maxHeartbeats 8000000 in
theorem short (a : Option Addr) (len cap : Nat) (w : World) (h : CodeIn w a len cap) (hl : len ≤ 1048576) :
    Calls Try.prog 4 #[.slice a len cap] w fun e w' => e = .returned (.bool true) ∧ Below w.heap.size w w' := by
  obtain ⟨i0, hi, hz0, hz1, hz2⟩ := info_parts infoStr
  go_enter Try.func4, Try.ntmps4
  go_wp2_with fail
  refine (DrawThingsOk_any a len cap w h).mono ?_
  rintro e w1 ⟨N, v, rfl, hat, hlN, hqN, hb1⟩
  have hq' : ∀ q ∈ N, q.size ≤ 1048576 := fun q hq => Nat.le_trans (hqN q hq) (by omega)
  have KI := Lib.hid (fun V (g : Below w1.heap.size w1 V) => implThingsOk_any v N V (by omega) hq' (hat.stepAt g))
  have KS := Lib.hid (fun V (g : Below w1.heap.size w1 V) => specThingsOk_any v N V (by omega) hq' (hat.stepAt g))
  have K0 : Hid (∀ V, Calls Try.prog 14 #[.slice none 0 0] V fun e w' => e = .returned (.bool true) ∧ Below V.heap.size V w') := Lib.hid fun V => implThingsOk_any _ [] V (by simp) (by simp) ⟨none, 0, rfl, .inl rfl⟩
  have HAT := Lib.hid hat
  obtain ⟨va, vc, rfl, xx⟩ := id hat
  obtain ⟨bk, hbk⟩ : ∃ bk, thOk N = bk := ⟨_, rfl⟩
  rw [hbk] at KI KS
  have hbb : (bk == bk) = true := by simp
  have H49 : Hid (∀ V u, StAt V V.heap.size u (N ++ e6) → Calls Try.prog 14 #[u] V fun e w' => e = .returned (.bool false) ∧ Below V.heap.size V w') := Lib.hid fun V u g => by
    have := implThingsOk_any u (N ++ e6) V (by simp [e6]; try omega) (fun q hq => by
      rcases List.mem_append.1 hq with hq | hq
      · exact hq' q hq
      · simp [e6] at hq
        subst hq
        exact Nat.zero_le _) g
    rwa [thOk_long (by simp [e6]; try omega)] at this
  clear xx hat hqN hbk hq'
  go_wp2_with fail
  refine (KI.out _ (Below.refl _ _)).mono ?_
  rintro e w2 ⟨rfl, hb2⟩
  go_wp2_with fail
  refine (KS.out _ hb2).mono ?_
  rintro e w3 ⟨rfl, hb3⟩
  have b3 := hb2.trans (hb3.mono hb2.size)
  clear hb2 hb3
  go_wp2_with fail
  refine (K0.out _).mono ?_
  rintro e w4 ⟨rfl, hb4⟩
  have b4 := b3.trans (hb4.mono b3.size)
  have z4 := b4.size
  clear b3 hb4
  have b4a : Below w1.heap.size w1 (w4.alloc (.cells #[] 9)) := b4.alloc z4 _
  have r1 : (N.map Value.string).length = N.length * 1 := by simp
  have r2 : va = none → N.length = 0 := by
    intro e
    obtain ⟨a', c', e1, hh⟩ := HAT.out
    simp only [Value.slice.injEq] at e1
    obtain ⟨rfl, _, _⟩ := e1
    rcases hh with rfl | ⟨b, o, e2, _⟩
    · rfl
    · rw [e] at e2; cases e2
  have r3 : ∀ ad, va = some ad → ∀ j u, (N.map Value.string)[j]? = some u → (w4.alloc (.cells #[] 9)).cell? (ad.add j) = some u := by
    intro ad e j u hu
    obtain ⟨a', c', e1, hh⟩ := HAT.out
    simp only [Value.slice.injEq] at e1
    obtain ⟨rfl, _, _⟩ := e1
    rcases hh with rfl | ⟨b, o, e2, hB, hc⟩
    · simp at hu
    · rw [e] at e2
      injection e2 with e2
      subst e2
      obtain ⟨hj, rfl⟩ := List.getElem?_eq_some_iff.1 hu
      have hj' : j < N.length := by simpa using hj
      rw [Obt.plain_add']
      simpa using (b4a.cell (p := ⟨b, o + j, none⟩) hB).trans (hc j hj')
  have r4 : ∀ u ∈ N.map Value.string, u.oneCell' = true := by
    intro u hu
    obtain ⟨x, _, rfl⟩ := List.mem_map.1 hu
    rfl
  have ho : (w4.alloc (.cells #[] 9)).ownsRow w4.heap.size 9 1 (.slice (some ⟨w4.heap.size, 0, none⟩) 0 0) 0 [] := row_made (Nat.le_refl _)
  go_wp2_with (at_builtin; refine BigFrame.wpList_want (by rfl) (fun K hK => Ap3.wp_append _ _ _ 28 (by rfl) w4.heap.size 9 i0 (.string ByteArray.empty) 1 16 Try.underlying28 hi hz0 hz1 hz2 rfl (by decide) _ _ [] (by rfl) ho va N.length vc (N.map Value.string) (by rfl) r1 r2 r3 r4 (by unfold maxLen; omega) (by omega) (by simp) ?_))
  intro a5 c5 w5 hown5 hgrow5 hat5
  refine hK _ _ ?_
  clear hK
  have o5 : SOwn w5 w4.heap.size (.slice a5 N.length c5) N := by
    show w5.ownsRow w4.heap.size 9 1 (.slice a5 N.length c5) N.length (N.map Value.string)
    simpa using hown5
  have b5 : Below w1.heap.size w1 w5 := b4a.grown hgrow5 (by simp; omega) (fun k e => by have e' : some w4.heap.size = some k := e; injection e' with e'; omega)
  have z5 : w4.heap.size ≤ w5.heap.size := by have := hgrow5.size; simp at this; omega
  have HO5 := Lib.hid o5
  clear hown5 hgrow5 hat5 r1 r2 r3 r4 ho b4a o5
  have s1 : (e6.map Value.string).length = 6 * 1 := rfl
  have s3 : ∀ ad, some (⟨w5.heap.size, 0, none⟩ : Addr) = some ad → ∀ j u, (e6.map Value.string)[j]? = some u → (w5.alloc six).cell? (ad.add j) = some u := by
    intro ad e j u hu
    injection e with e
    subst e
    exact World.news_of_block (heap_alloc_new w5 _) j u hu
  go_wp2_with (at_builtin; refine BigFrame.wpList_want (by rfl) (fun K hK => Ap3.wp_append _ _ _ 28 (by rfl) w4.heap.size 9 i0 (.string ByteArray.empty) 1 16 Try.underlying28 hi hz0 hz1 hz2 rfl (by decide) _ _ (N.map Value.string) (by rfl) (World.ownsRow.alloc HO5.out six) (some ⟨w5.heap.size, 0, none⟩) 6 6 (e6.map Value.string) (by rfl) s1 (fun e => by cases e) s3 (by intro u hu; simp [e6] at hu; subst hu; rfl) (by unfold maxLen; omega) (by omega) (by simp; omega) ?_))
  intro a6 c6 w6 hown6 hgrow6 hat6
  refine hK _ _ ?_
  clear hK
  have o6 : SOwn w6 w4.heap.size (.slice a6 (N.length + 6) c6) (N ++ e6) := by
    show w6.ownsRow w4.heap.size 9 1 (.slice a6 (N.length + 6) c6) (N ++ e6).length ((N ++ e6).map Value.string)
    rw [List.map_append, List.length_append]
    exact hown6
  have lt5 := World.ownsRow.lt HO5.out
  have b6 : Below w1.heap.size w1 w6 := (b5.alloc (by omega) six).grown hgrow6 (by simp; omega) (fun k e => by have := lt5 k e; omega)
  have A6 := Lib.hid o6.at
  clear hown6 hgrow6 hat6 o6 b5 s3 s1
  go_wp2_with fail
  refine (H49.out _ _ A6.out).mono ?_
  rintro e w7 ⟨rfl, hb7⟩
  have b7 := hb1.trans ((b6.trans (hb7.mono b6.size)).mono hb1.size)
  clear b6 hb7
  go_wp2_with fail
  go_ret
  exact ⟨rfl, b7⟩

set_option maxHeartbeats 1000000 in
theorem long (a : Option Addr) (len cap : Nat) (w : World) (hl : 1048576 < len) :
    Calls Try.prog 4 #[.slice a len cap] w fun e w' => e = .returned (.bool true) ∧ Below w.heap.size w w' := by
  go_enter Try.func4, Try.ntmps4
  go_wp2
  go_ret
  exact ⟨rfl, Below.refl _ _⟩
theorem walk (a : Option Addr) (len cap : Nat) (w : World) (h : CodeIn w a len cap) :
    Calls Try.prog 4 #[.slice a len cap] w fun e w' => e = .returned (.bool true) ∧ Below w.heap.size w w' := by
  by_cases hl : len ≤ 1048576
  · exact short a len cap w h hl
  · exact long a len cap w (by omega)
end Pth

set_option maxRecDepth 100000 in
theorem thingsOk_holds : Rows.FnThingsOkSaid :=
  OpenClaim.holds_of_wide 4 Try.f4 rfl rfl rfl rfl rfl rfl rfl ⟨rfl, rfl, rfl, rfl, rfl⟩ rfl rfl rfl rfl rfl (by kernel_rfl) Try.func4 (by kernel_rfl)
    (of_decide_eq_true (by kernel_rfl)) (by unfold Func.isWrapper; rw [if_neg (by decide +kernel)]; exact ⟨rfl, rfl⟩)
    (fun os started H enc _ => law_lifted (s := Rows.fnThingsOkSpec) (tb := 4) own started laid (by kernel_rfl) Try.func4 rfl (by kernel_rfl) Try.underlying4 (by kernel_rfl)
      (fun ds h => by rw [Try.params4] at h; match ds, h with | [_], _ => rfl)
      (ChangeSpec.witness6 (enc := enc) (C := Try.checked) false ⟨#[], #[.slice none 0 0], []⟩ 8 (by kernel_rfl) (by kernel_rfl) (by kernel_rfl) (by kernel_rfl))
      (law_code Try.params4 Pth.walk))
#print axioms thingsOk_holds
end Go.Proofs.Ytfmidekffcjbgaa

/- Contracts of WorldOk, the program's and the model's, over this seat's translation: it answers as the plain function wOk tells; nothing that was there before the call has changed. Condition: at most 1048576 targets, lines, numbers and bytes of each. -/
import Derived.Test.YtopplljilmjjgaaWop
import Derived.Test.YtopplljilmjjgaaRxo
namespace Go.Proofs.Ytopplljilmjjgaa
open Go.RowKit Go.Sort

namespace Wl
open Tg Rx
/-- How large the parts of a target may be. -/
abbrev Par (q : Tgt) : Prop := q.2.1.size ≤ 1048576 ∧ q.2.2.1.length ≤ 1048576 ∧ (∀ p ∈ q.2.2.1, p.2.2.2.size ≤ 1048576) ∧ q.2.2.2.length ≤ 1048576
def srcB (x : Tgt) : Bool := !x.1 && decide (x.2.1.size ≤ 40) && decide (x.2.2.1.length = 0) && decide (x.2.2.2.length = 0)
def stpB (k : Nat) (x : Tgt) : Bool := x.1 && decide (x.2.1.size = 0) && insOk 0 k x.2.2.2 && scOk x.2.2.1 x.2.2.2.length
theorem tOk_src {k : Nat} {x : Tgt} (h : srcB x = true) : tOk k x = true := by
  obtain ⟨m, t, L, N⟩ := x
  rcases m <;> simp_all [tOk, srcB]
theorem tOk_stp {k : Nat} {x : Tgt} (h : srcB x = false) : tOk k x = stpB k x := by
  obtain ⟨m, t, L, N⟩ := x
  rcases m
  · simp only [srcB, Bool.not_false, Bool.true_and] at h
    unfold tOk stpB
    rw [if_neg (show ¬ (false = true) by decide)]
    exact h
  · simp [tOk, stpB]

set_option maxRecDepth 100000 in
set_option maxHeartbeats 2000000 in
theorem placesBefore_any (v : Value) (N : List Int) (k : Int) (w : World) (hk : 0 ≤ k ∧ k ≤ 1000) (hl : N.length ≤ 1048576) (h : InAt w w.heap.size v N) :
    Calls Try.prog 135 #[v, .int .i64 k] w fun e w' => e = .returned (.bool (insOk 0 k N)) ∧ Below w.heap.size w w' := by
  obtain ⟨a, cap, rfl, h⟩ := h
  have HH := Lib.hid h
  have HK := Lib.hid hk
  clear h hk
  go_enter Try.func135, Try.ntmps135
  go_wp2_with fail
  go_loopw [5, 10] (fun lo i wr => ∃ (j : Nat) (l : Int), j ≤ N.length ∧ i = .int .i64 (j : Int) ∧ lo = .int .i64 l ∧ (0 ≤ l ∧ l ≤ 1001) ∧ insOk 0 k N = insOk l k (N.drop j) ∧ Below w.heap.size w wr) (fun _ i _ => N.length - (intOf i).toNat)
  case atStart => exact ⟨0, 0, Nat.zero_le _, rfl, rfl, ⟨by omega, by omega⟩, rfl, Below.refl _ _⟩
  case round =>
    obtain ⟨j, l, hj, rfl, rfl, hll, he, hb⟩ := hrel
    have HE := Lib.hid he
    clear he
    by_cases hlt : j < N.length
    · rcases HH.out with h | ⟨b, o, rfl, hB, hc⟩
      · subst h
        exact absurd hlt (by simp)
      obtain ⟨x, hx⟩ : ∃ x, N[j] = x := ⟨_, rfl⟩
      have e0 := (hb.cell (p := ⟨b, o + j, none⟩) hB).trans (hc j hlt)
      rw [hx] at e0
      have HX := Lib.hid (insOk_at (k := k) (lo := l) (show N[j]? = some x by rw [List.getElem?_eq_getElem hlt, hx]))
      clear hx hc
      have i0 : (0 : Int) ≤ (j : Int) := by omega
      have i1 : (j : Int) < (N.length : Int) := by omega
      by_cases g1 : x < l
      · have HF := Lib.hid (show insOk 0 k N = false by rw [HE.out, HX.out, decide_eq_false (by omega)]; rfl)
        go_wp2_with fail
        go_ret
        exact ⟨by rw [HF.out]; rfl, hb⟩
      by_cases g2 : k ≤ x
      · have HF := Lib.hid (show insOk 0 k N = false by rw [HE.out, HX.out, decide_eq_false (by omega)]; rfl)
        go_wp2_with fail
        go_ret
        exact ⟨by rw [HF.out]; rfl, hb⟩
      have HN := Lib.hid (show insOk 0 k N = insOk (x + 1) k (N.drop (j + 1)) by rw [HE.out, HX.out, decide_eq_true (by omega)]; rfl)
      have g3 : 0 ≤ x ∧ x ≤ 1000 := by have := HK.out; omega
      go_wp2_with fail
      go_roundw
      case rel => exact ⟨j + 1, x + 1, by omega, by go_num, rfl, ⟨by omega, by omega⟩, HN.out, hb⟩
      case measure => simp [intOf]; omega
    · obtain rfl : j = N.length := by omega
      have HF := Lib.hid (show insOk 0 k N = true by rw [HE.out, List.drop_length]; rfl)
      go_wp2_with fail
      go_ret
      exact ⟨by rw [HF.out]; rfl, hb⟩

set_option maxRecDepth 100000 in
set_option maxHeartbeats 2000000 in
theorem sourceOk_any (m : Bool) (t : ByteArray) (a a' : Option Addr) (c c' : Nat) (L : List Ln) (N : List Int) (w : World) (ht : t.size ≤ 1048576) (hl : L.length ≤ 1048576) (hn : N.length ≤ 1048576) :
    Calls Try.prog 111 #[tgt m t (.slice a L.length c) (.slice a' N.length c')] w fun e w' => e = .returned (.bool (srcB (m, t, L, N))) ∧ Below w.heap.size w w' := by
  have HB := Lib.hid ((Below.refl w.heap.size w).alloc (Nat.le_refl _) (.cells #[.bool m, .string t, .slice a L.length c, .slice a' N.length c'] 79))
  obtain ⟨r, hr⟩ : ∃ r, srcB (m, t, L, N) = r := ⟨_, rfl⟩
  have HR := Lib.hid hr
  rw [hr]
  clear hr
  unfold srcB at HR
  generalize hp : L.length = p at *
  generalize hq : N.length = q at *
  clear hp hq
  rcases m
  rotate_left
  · obtain rfl : false = r := by have := HR.out; simpa using this
    go_enter Try.func111, Try.ntmps111
    go_wp2_with fail
    go_ret
    exact ⟨rfl, HB.out⟩
  by_cases g1 : (t.size : Int) ≤ 40
  rotate_left
  · obtain rfl : false = r := by have := HR.out; simp only [Bool.not_false, Bool.true_and] at this; rw [decide_eq_false (by omega)] at this; simpa using this
    have g1' : (40 : Int) < (t.size : Int) := by omega
    go_enter Try.func111, Try.ntmps111
    go_wp2_with fail
    go_ret
    exact ⟨rfl, HB.out⟩
  by_cases g2 : p = 0
  rotate_left
  · obtain rfl : false = r := by have := HR.out; simp only [Bool.not_false, Bool.true_and] at this; rw [decide_eq_false g2] at this; simpa using this
    have g2' : ((p : Int) == 0) = false := by rw [beq_eq_false_iff_ne]; omega
    go_enter Try.func111, Try.ntmps111
    go_wp2_with fail
    go_ret
    exact ⟨rfl, HB.out⟩
  by_cases g3 : q = 0
  rotate_left
  · obtain rfl : false = r := by have := HR.out; simp only [Bool.not_false, Bool.true_and] at this; rw [decide_eq_false g3] at this; simpa using this
    have g3' : ((q : Int) == 0) = false := by rw [beq_eq_false_iff_ne]; omega
    subst g2
    go_enter Try.func111, Try.ntmps111
    go_wp2_with fail
    go_ret
    exact ⟨rfl, HB.out⟩
  obtain rfl : true = r := by have := HR.out; simp only [Bool.not_false, Bool.true_and] at this; rw [decide_eq_true (by omega), decide_eq_true g2, decide_eq_true g3] at this; simpa using this
  subst g2 g3
  go_enter Try.func111, Try.ntmps111
  go_wp2_with fail
  go_ret
  exact ⟨rfl, HB.out⟩

set_option maxRecDepth 100000 in
set_option maxHeartbeats 4000000 in
theorem stepOk_any (m : Bool) (t : ByteArray) (v u : Value) (L : List Ln) (N : List Int) (k : Nat) (w : World) (hk : k ≤ 1000) (ht : t.size ≤ 1048576) (hl : L.length ≤ 1048576) (hq : ∀ p ∈ L, p.2.2.2.size ≤ 1048576) (hn : N.length ≤ 1048576) (h : LnAt w w.heap.size v L) (h' : InAt w w.heap.size u N) :
    Calls Try.prog 112 #[tgt m t v u, .int .i64 (k : Int)] w fun e w' => e = .returned (.bool (stpB k (m, t, L, N))) ∧ Below w.heap.size w w' := by
  obtain ⟨a, c, rfl, x1⟩ := id h
  obtain ⟨a', c', rfl, x2⟩ := id h'
  clear x1 x2
  have HB := Lib.hid ((Below.refl w.heap.size w).alloc (Nat.le_refl _) (.cells #[.bool m, .string t, .slice a L.length c, .slice a' N.length c'] 79))
  have KP := Lib.hid fun V (g : Below w.heap.size w V) => placesBefore_any _ N (k : Int) V ⟨by omega, by omega⟩ hn (h'.stepAt g)
  have KS := Lib.hid fun V (g : Below w.heap.size w V) => implScriptOk_any _ L (N.length : Int) V hl hq (h.stepAt g)
  obtain ⟨r, hr⟩ : ∃ r, stpB k (m, t, L, N) = r := ⟨_, rfl⟩
  have HR := Lib.hid hr
  rw [hr]
  clear hr h h'
  unfold stpB at HR
  rcases m
  · obtain rfl : false = r := by have := HR.out; simpa using this
    go_enter Try.func112, Try.ntmps112
    go_wp2_with fail
    go_ret
    exact ⟨rfl, HB.out⟩
  by_cases g1 : t.size = 0
  rotate_left
  · obtain rfl : false = r := by have := HR.out; simp only [Bool.true_and] at this; rw [decide_eq_false g1] at this; simpa using this
    have hT := text_ne g1
    go_enter Try.func112, Try.ntmps112
    go_wp2_with fail
    go_ret
    exact ⟨rfl, HB.out⟩
  obtain rfl := text_nil g1
  rcases hp : insOk 0 (k : Int) N
  · obtain rfl : false = r := by have := HR.out; simp only [hp] at this; simpa using this
    rw [hp] at KP
    go_enter Try.func112, Try.ntmps112
    go_wp2_with fail
    refine (KP.out _ HB.out).mono ?_
    rintro e w1 ⟨rfl, hb⟩
    have b1 := Lib.hid (HB.out.trans (hb.mono HB.out.size))
    clear hb
    go_wp2_with fail
    go_ret
    exact ⟨rfl, b1.out⟩
  rw [hp] at KP
  obtain rfl : scOk L (N.length : Int) = r := by
    have := HR.out
    simp only [hp, Bool.true_and, Bool.and_true] at this
    rwa [show decide ((⟨#[]⟩ : ByteArray).size = 0) = true from rfl, Bool.true_and] at this
  go_enter Try.func112, Try.ntmps112
  go_wp2_with fail
  refine (KP.out _ HB.out).mono ?_
  rintro e w1 ⟨rfl, hb⟩
  have b1 := Lib.hid (HB.out.trans (hb.mono HB.out.size))
  have hc : ∀ o, w1.cell? ⟨w.heap.size, o, none⟩ = _ := fun o => hb.cell (p := ⟨w.heap.size, o, none⟩) (by simp)
  clear hb
  go_wp2_with fail
  refine (KS.out _ b1.out).mono ?_
  rintro e w2 ⟨rfl, hb⟩
  have b2 := Lib.hid (b1.out.trans (hb.mono b1.out.size))
  clear hb hc
  go_wp2_with fail
  go_ret
  exact ⟨by simp, b2.out⟩

theorem wOk_long {S : List Tgt} (h : 12 < S.length) : wOk S = false := by unfold wOk; rw [decide_eq_false (by omega)]; rfl
theorem wOk_bad {S : List Tgt} {k : Nat} {x : Tgt} (hx : S[k]? = some x) (he : wFrom 0 S = wFrom k (S.drop k)) (h : tOk k x = false) : wOk S = false := by
  unfold wOk
  rw [he, wFrom_at hx, h]
  simp
theorem wFrom_on {S : List Tgt} {k : Nat} {x : Tgt} (hx : S[k]? = some x) (he : wFrom 0 S = wFrom k (S.drop k)) (h : tOk k x = true) : wFrom 0 S = wFrom (k + 1) (S.drop (k + 1)) := by
  rw [he, wFrom_at hx, h]
  rfl
/-- What the loops over the targets keep. -/
def WRel (S : List Tgt) (w : World) (i : Value) (wr : World) : Prop := ∃ k : Nat, k ≤ S.length ∧ i = .int .i64 (k : Int) ∧ wFrom 0 S = wFrom k (S.drop k) ∧ Below w.heap.size w wr

set_option maxRecDepth 100000 in
set_option maxHeartbeats 4000000 in
theorem implWorldOk_any (v : Value) (S : List Tgt) (w : World) (hl : S.length ≤ 1048576) (hq : ∀ q ∈ S, Par q) (h : TgAt w w.heap.size v S) :
    Calls Try.prog 56 #[v] w fun e w' => e = .returned (.bool (wOk S)) ∧ Below w.heap.size w w' := by
  obtain ⟨a, cap, rfl, h⟩ := h
  have HH := Lib.hid h
  have HQ := Lib.hid hq
  clear h hq
  by_cases g0 : 12 < S.length
  · have HE := Lib.hid (wOk_long g0)
    have gI : (12 : Int) < (S.length : Int) := by omega
    go_enter Try.func56, Try.ntmps56
    go_wp2_with fail
    go_ret
    exact ⟨by rw [HE.out]; rfl, Below.refl _ _⟩
  have gI : ¬ (12 : Int) < (S.length : Int) := by omega
  go_enter Try.func56, Try.ntmps56
  go_wp2_with fail
  go_loopw [10] (fun i wr => WRel S w i wr) (fun i _ => S.length - (intOf i).toNat)
  case atStart => exact ⟨0, Nat.zero_le _, rfl, rfl, Below.refl _ _⟩
  case round =>
    obtain ⟨k, hk, rfl, he, hb⟩ := hrel
    have HE := Lib.hid he
    clear he
    by_cases hlt : k < S.length
    · rcases HH.out with h | ⟨b, o, rfl, hB, hc⟩
      · subst h
        exact absurd hlt (by simp)
      obtain ⟨m, t, L, N, hxy⟩ : ∃ m t L N, S[k] = (m, t, L, N) := ⟨_, _, _, _, rfl⟩
      have c := (hc k hlt).below hb hB
      rw [hxy] at c
      obtain ⟨⟨e0, e1⟩, a1, c1, a2, c2, e2, e3, hs, hi⟩ := c
      simp only at e0 e1 e2 e3 hs hi
      have HX := Lib.hid (show S[k]? = some (m, t, L, N) by rw [List.getElem?_eq_getElem hlt, hxy])
      have hp := HQ.out _ (List.mem_of_getElem? HX.out)
      clear hc hxy
      have i0 : (0 : Int) ≤ (k : Int) := by omega
      have i1 : (k : Int) < (S.length : Int) := by omega
      have bb := Lib.hid ((Below.refl wr.heap.size wr).alloc (Nat.le_refl _) (.cells #[.bool m, .string t, .slice a1 L.length c1, .slice a2 N.length c2] 79))
      have KA := Lib.hid fun V => sourceOk_any m t a1 a2 c1 c2 L N V hp.1 hp.2.1 hp.2.2.2
      have KB := Lib.hid fun V (g : Below wr.heap.size wr V) => stepOk_any m t _ _ L N k V (by omega) hp.1 hp.2.1 hp.2.2.1 hp.2.2.2 ((hs.mono hb.size).stepAt g) ((hi.mono hb.size).stepAt g)
      have HBB := Lib.hid hb
      have hwz := hb.size
      clear hs hi hp hb
      rcases hsb : srcB (m, t, L, N)
      · rw [hsb] at KA
        rcases hsp : stpB k (m, t, L, N)
        · rw [hsp] at KB
          have HF := Lib.hid (wOk_bad HX.out HE.out ((tOk_stp hsb).trans hsp))
          go_wp2_with fail
          refine (KA.out _).mono ?_
          rintro e w1 ⟨rfl, hb1⟩
          have b1 := Lib.hid (bb.out.trans (hb1.mono bb.out.size))
          have hc : ∀ o, w1.cell? ⟨wr.heap.size, o, none⟩ = _ := fun o => hb1.cell (p := ⟨wr.heap.size, o, none⟩) (by simp)
          clear hb1
          go_wp2_with fail
          refine (KB.out _ b1.out).mono ?_
          rintro e w2 ⟨rfl, hb2⟩
          have b2 := Lib.hid (b1.out.trans (hb2.mono b1.out.size))
          clear hb2 hc
          go_wp2_with fail
          go_ret
          exact ⟨by rw [HF.out]; rfl, HBB.out.trans (b2.out.mono hwz)⟩
        · rw [hsp] at KB
          have HF := Lib.hid (wFrom_on HX.out HE.out ((tOk_stp hsb).trans hsp))
          go_wp2_with fail
          refine (KA.out _).mono ?_
          rintro e w1 ⟨rfl, hb1⟩
          have b1 := Lib.hid (bb.out.trans (hb1.mono bb.out.size))
          have hc : ∀ o, w1.cell? ⟨wr.heap.size, o, none⟩ = _ := fun o => hb1.cell (p := ⟨wr.heap.size, o, none⟩) (by simp)
          clear hb1
          go_wp2_with fail
          refine (KB.out _ b1.out).mono ?_
          rintro e w2 ⟨rfl, hb2⟩
          have b2 := Lib.hid (b1.out.trans (hb2.mono b1.out.size))
          clear hb2 hc
          go_wp2_with fail
          go_roundw
          case rel => exact ⟨k + 1, by omega, by go_num, HF.out, HBB.out.trans (b2.out.mono hwz)⟩
          case measure => simp [intOf]; omega
      · rw [hsb] at KA
        have HF := Lib.hid (wFrom_on HX.out HE.out (tOk_src hsb))
        go_wp2_with fail
        refine (KA.out _).mono ?_
        rintro e w1 ⟨rfl, hb1⟩
        have b1 := Lib.hid (bb.out.trans (hb1.mono bb.out.size))
        clear hb1
        go_wp2_with fail
        go_roundw
        case rel => exact ⟨k + 1, by omega, by go_num, HF.out, HBB.out.trans (b1.out.mono hwz)⟩
        case measure => simp [intOf]; omega
    · obtain rfl : k = S.length := by omega
      have HF := Lib.hid (show wOk S = true by unfold wOk; rw [HE.out, List.drop_length, decide_eq_true (by omega)]; rfl)
      go_wp2_with fail
      go_ret
      exact ⟨by rw [HF.out]; rfl, hb⟩
end Wl
end Go.Proofs.Ytopplljilmjjgaa

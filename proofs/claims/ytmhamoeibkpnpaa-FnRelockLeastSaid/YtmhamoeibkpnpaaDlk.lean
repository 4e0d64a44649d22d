/- Contracts of the model's draws of locks (l20Lock, DrawRelock, DrawRelockLeast), over this seat's translation: whatever is drawn, at most 31 releases, nine needs and 30 picks of each; nothing that was there has changed but the reader. Condition: the reader was not asked too often; the code is readable. -/
import Derived.Test.YtmhamoeibkpnpaaGl
import Derived.Test.YtmhamoeibkpnpaaDfreed
import Derived.Test.YtmhamoeibkpnpaaPkmk
import Derived.Test.YtmhamoeibkpnpaaGk
import Derived.Test.YtmhamoeibkpnpaaGh
import Derived.Deep.CutBlock
namespace Go.Proofs.Ytmhamoeibkpnpaa
open Go.RowKit Go.Sort

namespace Dlk
open Foot Dsh Dpk Dch Dfr Copy
theorem pcs_pcl : ∀ A : List Pk, pcs A = Cpu.pcl A
  | [] => rfl
  | x :: t => by simp [pcs, Cpu.pcl, pcs_pcl t]
theorem pown_pb {w : World} {B : Nat} {v : Value} {A : List Pk} (h : POwn w B v A) : Cpu.PB A B w.heap.size v w := Cpu.KOwn.pb (by unfold POwn at h; rw [pcs_pcl] at h; exact h)
theorem pb_drawn {A : List Pk} {lo hi R : Nat} {v : Value} {w w' : World} (h : Cpu.PB A lo hi v w) (hg : w.grownBy w' (some R)) (hR : R < lo) : Cpu.PB A lo hi v w' :=
  h.kept fun g h1 _ hl => hg.block g hl (fun e => by injection e with e; omega)
/-- What the draw of a lock keeps. -/
structure LB (w : World) (R p c : Nat) (S : List Rel) (sa : Option Addr) (caps : Nat) (M : List Nd) (na : Option Addr) (ncap : Nat) (wr : World) : Prop where
  sh : ∃ B fs, R < B ∧ RGrow wr B (.slice sa S.length caps) S fs
  nd : ∃ B lo, R < B ∧ R < lo ∧ NOwn wr B lo (.slice na M.length ncap) M
  rd : ∃ q, p ≤ q ∧ q ≤ p + c ∧ RdAt wr R q
  gr : w.grownBy wr (some R)
variable {w wr w2 : World} {R p c c' q : Nat} {S : List Rel} {sa na : Option Addr} {caps ncap : Nat} {M : List Nd}
theorem LB.more (h : LB w R p c S sa caps M na ncap wr) (hc : c ≤ c') : LB w R p c' S sa caps M na ncap wr := ⟨h.sh, h.nd, by obtain ⟨q, h1, h2, h3⟩ := h.rd; exact ⟨q, h1, by omega, h3⟩, h.gr⟩
theorem LB.draw (h : LB w R p c S sa caps M na ncap wr) (hq1 : p ≤ q) (hq2 : q ≤ p + c) (hd : Drawn wr R q c' w2) : LB w R p (c + c') S sa caps M na ncap w2 := by
  obtain ⟨q', h1, h2, h3, h4⟩ := hd
  obtain ⟨B, fs, hB, hs⟩ := h.sh
  obtain ⟨B2, lo, hB2, hlo, hn⟩ := h.nd
  exact ⟨⟨B, fs, hB, hs.drawn h4 hB⟩, ⟨B2, lo, hB2, hlo, hn.drawn h4 hB2 hlo⟩, ⟨q', by omega, by omega, h3⟩, grown_trans h.gr h4⟩
theorem LB.pick (h : LB w R p c S sa caps M na ncap wr) (hq1 : p ≤ q) (hq2 : q ≤ p + c) (hr : RdAt w2 R (q + 1)) (hg : wr.grownBy w2 (some R)) : LB w R p (c + 1) S sa caps M na ncap w2 :=
  h.draw hq1 hq2 ⟨q + 1, by omega, by omega, hr, hg⟩
theorem LB.below (h : LB w R p c S sa caps M na ncap wr) (hR : R < w.heap.size) (hb : Below wr.heap.size wr w2) : LB w R p c S sa caps M na ncap w2 := by
  have hz := h.gr.size
  obtain ⟨q, h1, h2, h3⟩ := h.rd
  obtain ⟨B, fs, hB, hs⟩ := h.sh
  obtain ⟨B2, lo, hB2, hlo, hn⟩ := h.nd
  exact ⟨⟨B, fs, hB, hs.below hb⟩, ⟨B2, lo, hB2, hlo, hn.below hb⟩, ⟨q, h1, h2, rdAt_below h3 hb (by omega)⟩, grown_below h.gr (hb.mono hz)⟩
theorem LB.shelf {S' : List Rel} {sa' : Option Addr} {caps' : Nat} {fs' : List (List Nat)} (h : LB w R p c S sa caps M na ncap wr) {B : Nat} (hB : R < B) (hs : RGrow wr B (.slice sa' S'.length caps') S' fs') : LB w R p c S' sa' caps' M na ncap wr :=
  ⟨⟨B, fs', hB, hs⟩, h.nd, h.rd, h.gr⟩
def LockDraw (R p : Nat) (w : World) (e : Ending) (w' : World) : Prop :=
  ∃ S sa caps M na ncap C pa pc lo hi, e = .returned (.tuple #[.slice sa S.length caps, .slice na M.length ncap, .slice pa C.length pc]) ∧ LB w R p 9000 S sa caps M na ncap w' ∧ R < lo ∧ Cpu.PB C lo hi (.slice pa C.length pc) w' ∧ S.length ≤ 31 ∧ SzOk S ∧ M.length ≤ 9 ∧ (∀ q ∈ M, q.2.length ≤ 41) ∧ C.length ≤ 30
theorem gone_sz {S : List Rel} (h : SzOk S) (j : Nat) : SzOk (goneL S j) := fun q hq => by
  unfold goneL at hq
  split at hq
  · rename_i x hx
    rcases List.mem_or_eq_of_mem_set hq with k | k
    · exact h q k
    · rw [k]
      exact h x (List.mem_of_getElem? hx)
  · exact h q hq
theorem gone_len (S : List Rel) (j : Nat) : (goneL S j).length = S.length := by
  unfold goneL
  split <;> simp
theorem own_caps {w : World} {B n c : Nat} {a : Option Addr} {A : List Pk} (h : Cpu.PB A B n (.slice a A.length c) w) (hA : A ≠ []) : ∃ g, a = some ⟨g, 0, none⟩ ∧ g < w.heap.size ∧ ∀ i (hi : i < A.length), PkC w g (i * 5) A[i] := by
  obtain ⟨a', c', e, hh⟩ := h
  simp only [Value.slice.injEq] at e
  obtain ⟨rfl, _, _⟩ := e
  rcases hh with hh | ⟨g, m, rfl, hk, _, _⟩
  · exact absurd hh hA
  · refine ⟨g, rfl, hk.lt, fun i hi => ?_⟩
    obtain ⟨a2, c2, e2, h2⟩ := hk.at (cap := c')
    simp only [Value.slice.injEq] at e2
    obtain ⟨rfl, _, _⟩ := e2
    rcases h2 with h2 | ⟨b, o, e3, _, h3⟩
    · exact absurd h2 hA
    · simp only [Option.some.injEq, Addr.mk.injEq] at e3
      obtain ⟨rfl, rfl, _⟩ := e3
      have := h3 i hi
      rwa [Nat.zero_add] at this

set_option maxRecDepth 100000 in
set_option maxHeartbeats 4000000 in
theorem l20Lock_any (R p : Nat) (k0 : Int) (w : World) (h : RdAt w R p) (hp : p ≤ 1000000) (hn0 : -1000000 ≤ k0) (hn1 : k0 ≤ 1000000) :
    Calls Try.prog 46 #[.pointer (some ⟨R, 0, none⟩), .int .i64 k0] w (LockDraw R p w) := by
  have hR := rdAt_lt h
  go_enter Try.func46, Try.ntmps46
  go_wp2_with fail
  refine (l20Shelf_any R p 3 k0 w (by omega) h (by omega) hn0 hn1).mono ?_
  rintro e w3 ⟨S, v, fs, rfl, hg, hl, hsz, hd⟩
  obtain ⟨sa, caps, rfl, hform, hcap⟩ := hg.form
  obtain ⟨q, hq0, hq1, hr3, hg3⟩ := hd
  have z23 := hg3.size
  have HG := Lib.hid hg
  have G3 := Lib.hid hg3
  clear hg hg3
  go_wp2_with fail
  refine (l20NeedsM_any R q 3 (-1) k0 w3 (by omega) hr3 (by omega) hn0 hn1).mono ?_
  rintro e w4 ⟨M, v, rfl, hown, hm, hm2, hd⟩
  obtain ⟨na, ncap, rfl, hx⟩ := id hown.at
  obtain ⟨q4, hq40, hq41, hr4, hg4⟩ := hd
  have z34 := hg4.size
  have HL4 := Lib.hid (show LB w R p 8300 S sa caps M na ncap w4 from ⟨⟨w.heap.size, fs, hR, HG.out.drawn hg4 hR⟩, ⟨w3.heap.size, w3.heap.size, by omega, by omega, hown⟩, ⟨q4, by omega, by omega, hr4⟩, grown_trans G3.out hg4⟩)
  have HGR := Lib.hid (HG.out.drawn hg4 hR)
  have HN4 := Lib.hid hown.at
  clear hx hown hr3 hg4 HG G3
  go_wp2_with fail
  refine (l20Chosen_any R q4 w.heap.size sa na caps ncap S fs M w4 hr4 (by omega) HGR.out hR hl hsz HN4.out hm hm2).mono ?_
  rintro e w5 ⟨C0, v, rfl, ho, hC0, hd⟩
  have HL5 := Lib.hid (HL4.out.draw (c' := 30) (q := q4) (by omega) (by omega) hd)
  obtain ⟨pa0, pc0, rfl⟩ := ho.form
  have HP5 := Lib.hid (pown_pb ho)
  obtain ⟨q5, hq50, hq51, hr5, hg5⟩ := hd
  have z45 := hg5.size
  clear hr4 hg5 HGR HN4 HL4 ho
  go_wp2_with fail
  refine (pick_any R q5 4 w5 hr5 (by omega)).mono ?_
  rintro e w6 ⟨k6, rfl, a0, a1, y1, hr6, hg6⟩
  have HL6 := Lib.hid (HL5.out.pick (q := q5) (by omega) (by omega) hr6 hg6)
  have HP6 := Lib.hid (pb_drawn HP5.out hg6 (by omega))
  have z56 := hg6.size
  have HR6 := Lib.hid hr6
  clear hr5 hr6 hg6 a0 a1 y1 HL5 HP5
  have hways : k6 = 0 ∨ k6 = 1 ∨ (¬ k6 = 0 ∧ ¬ k6 = 1) := by omega
  rcases hways with hk0 | hk1 | ⟨hk0, hk1⟩
  · subst hk0
    obtain ⟨B, fs6, hB, hs⟩ := HL6.out.sh
    go_wp2_with fail
    refine (l20Picks_any R (q5 + 1) B k0 sa caps S fs6 w6 HR6.out (by omega) hn0 hn1 hs hB hl).mono ?_
    rintro e w7 ⟨C, v, rfl, ho, hC7, hd⟩
    have hC : C.length ≤ 30 := by omega
    have HL := Lib.hid ((HL6.out.draw (c' := 200) (q := q5 + 1) (by omega) (by omega) hd).more (c' := 8600) (by omega))
    obtain ⟨pa, pc, rfl⟩ := ho.form
    have HP := Lib.hid (pown_pb ho)
    obtain ⟨lo, hlo'⟩ : ∃ lo, w6.heap.size = lo := ⟨_, rfl⟩
    obtain ⟨hi, hhi⟩ : ∃ hi, w7.heap.size = hi := ⟨_, rfl⟩
    rw [hlo', hhi] at HP
    have hlo : R < lo := by omega
    clear hs hd ho hlo' hhi HL6 HP6 HR6
    obtain ⟨q7, hq70, hq71, hr7⟩ := HL.out.rd
    have z7 := HL.out.gr.size
    by_cases hC0' : C = []
    · subst hC0'
      have HE := Lib.hid (show LockDraw R p w (.returned (.tuple #[.slice sa S.length caps, .slice na M.length ncap, .slice pa ([] : List Pk).length pc])) _ from ⟨S, sa, caps, M, na, ncap, [], pa, pc, lo, hi, rfl, HL.out.more (by omega), hlo, HP.out, hl, hsz, hm, hm2, by simp⟩)
      clear hr7
      go_wp2_with fail
      exact bodyPost_ret (v := .tuple #[.slice sa S.length caps, .slice na M.length ncap, .slice pa 0 pc]) (by simp [results, Try.results46, go_sem]) rfl HE.out
    · have hCl : 0 < C.length := List.length_pos_iff.2 hC0'
      have hCI : (0 : Int) < (C.length : Int) := by omega
      go_wp2_with fail
      refine (pick_any R q7 4 _ hr7 (by omega)).mono ?_
      rintro e w8 ⟨k8, rfl, a0, a1, y1, hr8, hg8⟩
      have HL8 := Lib.hid (HL.out.pick (q := q7) (by omega) (by omega) hr8 hg8)
      have HP8 := Lib.hid (pb_drawn HP.out hg8 hlo)
      have z8 := HL8.out.gr.size
      clear hr7 hg8 HL HP a0 a1 y1
      by_cases hk8 : k8 = 0
      · subst hk8
        go_wp2_with fail
        refine (pick_any R (q7 + 1) _ w8 hr8 (by omega)).mono ?_
        rintro e w9 ⟨k9, rfl, b0, b1, y1, hr9, hg9⟩
        have k92 : k9 < (C.length : Int) := b1 (by omega)
        obtain ⟨kn, rfl⟩ := Int.eq_ofNat_of_zero_le b0
        have hkn : kn < C.length := by omega
        have HL9 := Lib.hid (HL8.out.pick (q := q7 + 1) (by omega) (by omega) hr9 hg9)
        have HP9 := Lib.hid (pb_drawn HP8.out hg9 hlo)
        have z9 := HL9.out.gr.size
        clear hr8 hg9 HL8 HP8 b1 y1
        obtain ⟨g, rfl, hgl, hcs⟩ := own_caps HP9.out hC0'
        obtain ⟨x, va, vb, vcc, vd, hxy⟩ : ∃ x a b c d, C[kn] = (x, a, b, c, d) := ⟨_, _, _, _, _, rfl⟩
        obtain ⟨c0, c1, c2, c3, c4⟩ := hcs kn hkn
        rw [hxy] at c0 c1 c2 c3 c4
        simp only at c0 c1 c2 c3 c4
        clear hcs hxy
        have n9 : Below w9.heap.size w9 (w9.alloc (.cells #[.int .i64 x, .int .i64 va, .int .i64 vb, .int .i64 vcc, .int .i64 vd] 71)) := (Below.refl _ _).alloc (Nat.le_refl _) _
        have HL10 := Lib.hid (HL9.out.below hR n9)
        have HP10 := Lib.hid (HP9.out.below n9)
        obtain ⟨B, fs9, hB, hs⟩ := HL10.out.sh
        have KG := Lib.hid (specShelfGone_any _ S x va vb vcc vd _ (by omega) hsz.big hs.at)
        clear hs
        go_wp2_with fail
        refine KG.out.mono ?_
        rintro e w11 ⟨v, fs', rfl, hg, hb⟩
        have HL11 := Lib.hid (HL10.out.below hR hb)
        have HP11 := Lib.hid (HP10.out.below hb)
        have z11 : w.heap.size ≤ (w9.alloc (.cells #[.int .i64 x, .int .i64 va, .int .i64 vb, .int .i64 vcc, .int .i64 vd] 71)).heap.size := by simp; omega
        by_cases h0 : 0 ≤ shAt S x (va, vb, vcc, vd)
        · rw [if_pos h0] at hg
          rw [decide_eq_true h0]
          obtain ⟨sa', caps', rfl, _, _⟩ := hg.form
          have HS := Lib.hid (HL11.out.shelf (B := _) (by omega) hg)
          have gl := gone_len S (shAt S x (va, vb, vcc, vd)).toNat
          have gs := gone_sz hsz (shAt S x (va, vb, vcc, vd)).toNat
          obtain ⟨S', hS'⟩ : ∃ S', goneL S (shAt S x (va, vb, vcc, vd)).toNat = S' := ⟨_, rfl⟩
          rw [hS'] at HS gl gs
          rw [hS']
          have HE := Lib.hid (show LockDraw R p w (.returned (.tuple #[.slice sa' S'.length caps', .slice na M.length ncap, .slice (some ⟨g, 0, none⟩) C.length pc])) w11 from ⟨S', sa', caps', M, na, ncap, C, _, pc, lo, hi, rfl, HS.out.more (by omega), hlo, HP11.out, by omega, gs, hm, hm2, hC⟩)
          clear hg hb hS' h0 gl
          go_wp2_with fail
          exact bodyPost_ret (v := .tuple #[.slice sa' S'.length caps', .slice na M.length ncap, .slice (some ⟨g, 0, none⟩) C.length pc]) (by simp [results, Try.results46, go_sem]) rfl HE.out
        · rw [decide_eq_false h0]
          have HE := Lib.hid (show LockDraw R p w (.returned (.tuple #[.slice sa S.length caps, .slice na M.length ncap, .slice (some ⟨g, 0, none⟩) C.length pc])) w11 from ⟨S, sa, caps, M, na, ncap, C, _, pc, lo, hi, rfl, HL11.out.more (by omega), hlo, HP11.out, hl, hsz, hm, hm2, hC⟩)
          clear hg hb h0
          go_wp2_with fail
          exact bodyPost_ret (v := .tuple #[.slice sa S.length caps, .slice na M.length ncap, .slice (some ⟨g, 0, none⟩) C.length pc]) (by simp [results, Try.results46, go_sem]) rfl HE.out
      · have hk8b : (k8 == 0) = false := by rw [beq_eq_false_iff_ne]; exact hk8
        have HE := Lib.hid (show LockDraw R p w (.returned (.tuple #[.slice sa S.length caps, .slice na M.length ncap, .slice pa C.length pc])) w8 from ⟨S, sa, caps, M, na, ncap, C, pa, pc, lo, hi, rfl, HL8.out.more (by omega), hlo, HP8.out, hl, hsz, hm, hm2, hC⟩)
        clear hr8
        go_wp2_with fail
        exact bodyPost_ret (v := .tuple #[.slice sa S.length caps, .slice na M.length ncap, .slice pa C.length pc]) (by simp [results, Try.results46, go_sem]) rfl HE.out
  · subst hk1
    have n6 : Below w6.heap.size w6 (w6.alloc (.cells #[] 71)) := (Below.refl _ _).alloc (Nat.le_refl _) _
    have HL7 := Lib.hid (HL6.out.below hR n6)
    obtain ⟨B, fs6, hB, hs⟩ := HL7.out.sh
    obtain ⟨B2, lo2, hB2, hlo2, hn⟩ := HL7.out.nd
    have KSO := Lib.hid (Svp.specSolve_any _ _ (.slice (some ⟨w6.heap.size, 0, none⟩) 0 0) S M [] _ (by omega) hsz.big (by omega) (fun q hq => by have := hm2 q hq; omega) (by simp) hs.at hn.at ⟨_, _, rfl, .inl rfl⟩)
    have hlen := Svp.solveL_len S M []
    clear hs hn n6
    go_wp2_with fail
    refine KSO.out.mono ?_
    rintro e w8 ⟨v, rfl, hp, hb⟩
    obtain ⟨C, hC'⟩ : ∃ C, (Svp.solveL S M []).getD [] = C := ⟨_, rfl⟩
    rw [hC'] at hp hlen
    obtain ⟨pa, pc, rfl⟩ : ∃ a c, v = .slice a C.length c := by
      obtain ⟨a', c', e, _⟩ := hp
      exact ⟨a', c', e⟩
    have HL := Lib.hid ((HL7.out.below hR hb).more (c' := 8600) (by omega))
    have HP := Lib.hid hp
    have hC : C.length ≤ 30 := by omega
    have z78 : w6.heap.size < (w6.alloc (.cells #[] 71)).heap.size := by simp
    obtain ⟨lo, hlo'⟩ : ∃ lo, (w6.alloc (.cells #[] 71)).heap.size = lo := ⟨_, rfl⟩
    obtain ⟨hi, hhi⟩ : ∃ hi, w8.heap.size = hi := ⟨_, rfl⟩
    rw [hlo', hhi] at HP
    have hlo : R < lo := by omega
    generalize (Svp.solveL S M []).isSome = bs
    clear hb hp hC' hlo' hhi HL6 HP6 HR6 HL7 KSO
    obtain ⟨q7, hq70, hq71, hr7⟩ := HL.out.rd
    have z7 := HL.out.gr.size
    by_cases hC0' : C = []
    · subst hC0'
      have HE := Lib.hid (show LockDraw R p w (.returned (.tuple #[.slice sa S.length caps, .slice na M.length ncap, .slice pa ([] : List Pk).length pc])) _ from ⟨S, sa, caps, M, na, ncap, [], pa, pc, lo, hi, rfl, HL.out.more (by omega), hlo, HP.out, hl, hsz, hm, hm2, by simp⟩)
      clear hr7
      go_wp2_with fail
      exact bodyPost_ret (v := .tuple #[.slice sa S.length caps, .slice na M.length ncap, .slice pa 0 pc]) (by simp [results, Try.results46, go_sem]) rfl HE.out
    · have hCl : 0 < C.length := List.length_pos_iff.2 hC0'
      have hCI : (0 : Int) < (C.length : Int) := by omega
      go_wp2_with fail
      refine (pick_any R q7 4 _ hr7 (by omega)).mono ?_
      rintro e w8 ⟨k8, rfl, a0, a1, y1, hr8, hg8⟩
      have HL8 := Lib.hid (HL.out.pick (q := q7) (by omega) (by omega) hr8 hg8)
      have HP8 := Lib.hid (pb_drawn HP.out hg8 hlo)
      have z8 := HL8.out.gr.size
      clear hr7 hg8 HL HP a0 a1 y1
      by_cases hk8 : k8 = 0
      · subst hk8
        go_wp2_with fail
        refine (pick_any R (q7 + 1) _ w8 hr8 (by omega)).mono ?_
        rintro e w9 ⟨k9, rfl, b0, b1, y1, hr9, hg9⟩
        have k92 : k9 < (C.length : Int) := b1 (by omega)
        obtain ⟨kn, rfl⟩ := Int.eq_ofNat_of_zero_le b0
        have hkn : kn < C.length := by omega
        have HL9 := Lib.hid (HL8.out.pick (q := q7 + 1) (by omega) (by omega) hr9 hg9)
        have HP9 := Lib.hid (pb_drawn HP8.out hg9 hlo)
        have z9 := HL9.out.gr.size
        clear hr8 hg9 HL8 HP8 b1 y1
        obtain ⟨g, rfl, hgl, hcs⟩ := own_caps HP9.out hC0'
        obtain ⟨x, va, vb, vcc, vd, hxy⟩ : ∃ x a b c d, C[kn] = (x, a, b, c, d) := ⟨_, _, _, _, _, rfl⟩
        obtain ⟨c0, c1, c2, c3, c4⟩ := hcs kn hkn
        rw [hxy] at c0 c1 c2 c3 c4
        simp only at c0 c1 c2 c3 c4
        clear hcs hxy
        have n9 : Below w9.heap.size w9 (w9.alloc (.cells #[.int .i64 x, .int .i64 va, .int .i64 vb, .int .i64 vcc, .int .i64 vd] 71)) := (Below.refl _ _).alloc (Nat.le_refl _) _
        have HL10 := Lib.hid (HL9.out.below hR n9)
        have HP10 := Lib.hid (HP9.out.below n9)
        obtain ⟨B, fs9, hB, hs⟩ := HL10.out.sh
        have KG := Lib.hid (specShelfGone_any _ S x va vb vcc vd _ (by omega) hsz.big hs.at)
        clear hs
        go_wp2_with fail
        refine KG.out.mono ?_
        rintro e w11 ⟨v, fs', rfl, hg, hb⟩
        have HL11 := Lib.hid (HL10.out.below hR hb)
        have HP11 := Lib.hid (HP10.out.below hb)
        have z11 : w.heap.size ≤ (w9.alloc (.cells #[.int .i64 x, .int .i64 va, .int .i64 vb, .int .i64 vcc, .int .i64 vd] 71)).heap.size := by simp; omega
        by_cases h0 : 0 ≤ shAt S x (va, vb, vcc, vd)
        · rw [if_pos h0] at hg
          rw [decide_eq_true h0]
          obtain ⟨sa', caps', rfl, _, _⟩ := hg.form
          have HS := Lib.hid (HL11.out.shelf (B := _) (by omega) hg)
          have gl := gone_len S (shAt S x (va, vb, vcc, vd)).toNat
          have gs := gone_sz hsz (shAt S x (va, vb, vcc, vd)).toNat
          obtain ⟨S', hS'⟩ : ∃ S', goneL S (shAt S x (va, vb, vcc, vd)).toNat = S' := ⟨_, rfl⟩
          rw [hS'] at HS gl gs
          rw [hS']
          have HE := Lib.hid (show LockDraw R p w (.returned (.tuple #[.slice sa' S'.length caps', .slice na M.length ncap, .slice (some ⟨g, 0, none⟩) C.length pc])) w11 from ⟨S', sa', caps', M, na, ncap, C, _, pc, lo, hi, rfl, HS.out.more (by omega), hlo, HP11.out, by omega, gs, hm, hm2, hC⟩)
          clear hg hb hS' h0 gl
          go_wp2_with fail
          exact bodyPost_ret (v := .tuple #[.slice sa' S'.length caps', .slice na M.length ncap, .slice (some ⟨g, 0, none⟩) C.length pc]) (by simp [results, Try.results46, go_sem]) rfl HE.out
        · rw [decide_eq_false h0]
          have HE := Lib.hid (show LockDraw R p w (.returned (.tuple #[.slice sa S.length caps, .slice na M.length ncap, .slice (some ⟨g, 0, none⟩) C.length pc])) w11 from ⟨S, sa, caps, M, na, ncap, C, _, pc, lo, hi, rfl, HL11.out.more (by omega), hlo, HP11.out, hl, hsz, hm, hm2, hC⟩)
          clear hg hb h0
          go_wp2_with fail
          exact bodyPost_ret (v := .tuple #[.slice sa S.length caps, .slice na M.length ncap, .slice (some ⟨g, 0, none⟩) C.length pc]) (by simp [results, Try.results46, go_sem]) rfl HE.out
      · have hk8b : (k8 == 0) = false := by rw [beq_eq_false_iff_ne]; exact hk8
        have HE := Lib.hid (show LockDraw R p w (.returned (.tuple #[.slice sa S.length caps, .slice na M.length ncap, .slice pa C.length pc])) w8 from ⟨S, sa, caps, M, na, ncap, C, pa, pc, lo, hi, rfl, HL8.out.more (by omega), hlo, HP8.out, hl, hsz, hm, hm2, hC⟩)
        clear hr8
        go_wp2_with fail
        exact bodyPost_ret (v := .tuple #[.slice sa S.length caps, .slice na M.length ncap, .slice pa C.length pc]) (by simp [results, Try.results46, go_sem]) rfl HE.out
  · have e0 : (k6 == 0) = false := by rw [beq_eq_false_iff_ne]; exact hk0
    have e1 : (k6 == 1) = false := by rw [beq_eq_false_iff_ne]; exact hk1
    have HL := Lib.hid (HL6.out.more (c' := 8600) (by omega))
    have HP := Lib.hid HP6.out
    obtain ⟨C, hC'⟩ : ∃ C, C0 = C := ⟨_, rfl⟩
    rw [hC'] at HP hC0 ⊢
    have hC := hC0
    obtain ⟨pa, hpa⟩ : ∃ a, pa0 = a := ⟨_, rfl⟩
    obtain ⟨pc, hpc⟩ : ∃ a, pc0 = a := ⟨_, rfl⟩
    rw [hpa, hpc] at HP ⊢
    obtain ⟨lo, hlo'⟩ : ∃ lo, w4.heap.size = lo := ⟨_, rfl⟩
    obtain ⟨hi, hhi⟩ : ∃ hi, w5.heap.size = hi := ⟨_, rfl⟩
    rw [hlo', hhi] at HP
    have hlo : R < lo := by omega
    clear hC' hpa hpc hlo' hhi HL6 HP6 HR6 hk0 hk1
    obtain ⟨q7, hq70, hq71, hr7⟩ := HL.out.rd
    have z7 := HL.out.gr.size
    by_cases hC0' : C = []
    · subst hC0'
      have HE := Lib.hid (show LockDraw R p w (.returned (.tuple #[.slice sa S.length caps, .slice na M.length ncap, .slice pa ([] : List Pk).length pc])) _ from ⟨S, sa, caps, M, na, ncap, [], pa, pc, lo, hi, rfl, HL.out.more (by omega), hlo, HP.out, hl, hsz, hm, hm2, by simp⟩)
      clear hr7
      go_wp2_with fail
      exact bodyPost_ret (v := .tuple #[.slice sa S.length caps, .slice na M.length ncap, .slice pa 0 pc]) (by simp [results, Try.results46, go_sem]) rfl HE.out
    · have hCl : 0 < C.length := List.length_pos_iff.2 hC0'
      have hCI : (0 : Int) < (C.length : Int) := by omega
      go_wp2_with fail
      refine (pick_any R q7 4 _ hr7 (by omega)).mono ?_
      rintro e w8 ⟨k8, rfl, a0, a1, y1, hr8, hg8⟩
      have HL8 := Lib.hid (HL.out.pick (q := q7) (by omega) (by omega) hr8 hg8)
      have HP8 := Lib.hid (pb_drawn HP.out hg8 hlo)
      have z8 := HL8.out.gr.size
      clear hr7 hg8 HL HP a0 a1 y1
      by_cases hk8 : k8 = 0
      · subst hk8
        go_wp2_with fail
        refine (pick_any R (q7 + 1) _ w8 hr8 (by omega)).mono ?_
        rintro e w9 ⟨k9, rfl, b0, b1, y1, hr9, hg9⟩
        have k92 : k9 < (C.length : Int) := b1 (by omega)
        obtain ⟨kn, rfl⟩ := Int.eq_ofNat_of_zero_le b0
        have hkn : kn < C.length := by omega
        have HL9 := Lib.hid (HL8.out.pick (q := q7 + 1) (by omega) (by omega) hr9 hg9)
        have HP9 := Lib.hid (pb_drawn HP8.out hg9 hlo)
        have z9 := HL9.out.gr.size
        clear hr8 hg9 HL8 HP8 b1 y1
        obtain ⟨g, rfl, hgl, hcs⟩ := own_caps HP9.out hC0'
        obtain ⟨x, va, vb, vcc, vd, hxy⟩ : ∃ x a b c d, C[kn] = (x, a, b, c, d) := ⟨_, _, _, _, _, rfl⟩
        obtain ⟨c0, c1, c2, c3, c4⟩ := hcs kn hkn
        rw [hxy] at c0 c1 c2 c3 c4
        simp only at c0 c1 c2 c3 c4
        clear hcs hxy
        have n9 : Below w9.heap.size w9 (w9.alloc (.cells #[.int .i64 x, .int .i64 va, .int .i64 vb, .int .i64 vcc, .int .i64 vd] 71)) := (Below.refl _ _).alloc (Nat.le_refl _) _
        have HL10 := Lib.hid (HL9.out.below hR n9)
        have HP10 := Lib.hid (HP9.out.below n9)
        obtain ⟨B, fs9, hB, hs⟩ := HL10.out.sh
        have KG := Lib.hid (specShelfGone_any _ S x va vb vcc vd _ (by omega) hsz.big hs.at)
        clear hs
        go_wp2_with fail
        refine KG.out.mono ?_
        rintro e w11 ⟨v, fs', rfl, hg, hb⟩
        have HL11 := Lib.hid (HL10.out.below hR hb)
        have HP11 := Lib.hid (HP10.out.below hb)
        have z11 : w.heap.size ≤ (w9.alloc (.cells #[.int .i64 x, .int .i64 va, .int .i64 vb, .int .i64 vcc, .int .i64 vd] 71)).heap.size := by simp; omega
        by_cases h0 : 0 ≤ shAt S x (va, vb, vcc, vd)
        · rw [if_pos h0] at hg
          rw [decide_eq_true h0]
          obtain ⟨sa', caps', rfl, _, _⟩ := hg.form
          have HS := Lib.hid (HL11.out.shelf (B := _) (by omega) hg)
          have gl := gone_len S (shAt S x (va, vb, vcc, vd)).toNat
          have gs := gone_sz hsz (shAt S x (va, vb, vcc, vd)).toNat
          obtain ⟨S', hS'⟩ : ∃ S', goneL S (shAt S x (va, vb, vcc, vd)).toNat = S' := ⟨_, rfl⟩
          rw [hS'] at HS gl gs
          rw [hS']
          have HE := Lib.hid (show LockDraw R p w (.returned (.tuple #[.slice sa' S'.length caps', .slice na M.length ncap, .slice (some ⟨g, 0, none⟩) C.length pc])) w11 from ⟨S', sa', caps', M, na, ncap, C, _, pc, lo, hi, rfl, HS.out.more (by omega), hlo, HP11.out, by omega, gs, hm, hm2, hC⟩)
          clear hg hb hS' h0 gl
          go_wp2_with fail
          exact bodyPost_ret (v := .tuple #[.slice sa' S'.length caps', .slice na M.length ncap, .slice (some ⟨g, 0, none⟩) C.length pc]) (by simp [results, Try.results46, go_sem]) rfl HE.out
        · rw [decide_eq_false h0]
          have HE := Lib.hid (show LockDraw R p w (.returned (.tuple #[.slice sa S.length caps, .slice na M.length ncap, .slice (some ⟨g, 0, none⟩) C.length pc])) w11 from ⟨S, sa, caps, M, na, ncap, C, _, pc, lo, hi, rfl, HL11.out.more (by omega), hlo, HP11.out, hl, hsz, hm, hm2, hC⟩)
          clear hg hb h0
          go_wp2_with fail
          exact bodyPost_ret (v := .tuple #[.slice sa S.length caps, .slice na M.length ncap, .slice (some ⟨g, 0, none⟩) C.length pc]) (by simp [results, Try.results46, go_sem]) rfl HE.out
      · have hk8b : (k8 == 0) = false := by rw [beq_eq_false_iff_ne]; exact hk8
        have HE := Lib.hid (show LockDraw R p w (.returned (.tuple #[.slice sa S.length caps, .slice na M.length ncap, .slice pa C.length pc])) w8 from ⟨S, sa, caps, M, na, ncap, C, pa, pc, lo, hi, rfl, HL8.out.more (by omega), hlo, HP8.out, hl, hsz, hm, hm2, hC⟩)
        clear hr8
        go_wp2_with fail
        exact bodyPost_ret (v := .tuple #[.slice sa S.length caps, .slice na M.length ncap, .slice pa C.length pc]) (by simp [results, Try.results46, go_sem]) rfl HE.out
end Dlk
end Go.Proofs.Ytmhamoeibkpnpaa

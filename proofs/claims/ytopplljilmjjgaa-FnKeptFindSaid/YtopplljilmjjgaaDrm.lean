/- Contracts of the model's draws of texts, of inputs and of which are open, over this seat's translation: whatever is drawn lies in a row of its own; nothing that was there has changed but the reader. Condition: the reader was not asked too often; the code is readable. -/
import Derived.Test.YtopplljilmjjgaaRxm
import Derived.Test.YtopplljilmjjgaaGe
import Derived.Handy
namespace Go.Proofs.Ytopplljilmjjgaa
open Go.RowKit Go.Sort
namespace Drm
open Obl
def SOwn (w : World) (B : Nat) (v : Value) (N : List ByteArray) : Prop := w.ownsRow B 9 1 v N.length (N.map Value.string)
def BOwn (w : World) (B : Nat) (v : Value) (N : List Bool) : Prop := w.ownsRow B 4 1 v N.length (N.map Value.bool)
def lcs : List Ln → List Value
  | [] => []
  | x :: t => .int .i64 x.1 :: .int .i64 x.2.1 :: .int .i64 x.2.2.1 :: .string x.2.2.2 :: lcs t
def LOwn (w : World) (B : Nat) (v : Value) (S : List Ln) : Prop := w.ownsRow B 99 4 v S.length (lcs S)
theorem lcs_len : ∀ A : List Ln, (lcs A).length = A.length * 4
  | [] => rfl
  | x :: t => by simp [lcs, lcs_len t]; omega
theorem lcs_append : ∀ A B : List Ln, lcs (A ++ B) = lcs A ++ lcs B
  | [], _ => rfl
  | x :: t, B => by simp [lcs, lcs_append t B]
theorem lcs_at : ∀ (A : List Ln) (i : Nat) (h : i < A.length), (lcs A)[i * 4]? = some (.int .i64 A[i].1) ∧ (lcs A)[i * 4 + 1]? = some (.int .i64 A[i].2.1) ∧ (lcs A)[i * 4 + 2]? = some (.int .i64 A[i].2.2.1) ∧ (lcs A)[i * 4 + 3]? = some (.string A[i].2.2.2)
  | x :: t, 0, _ => ⟨rfl, rfl, rfl, rfl⟩
  | x :: t, i + 1, h => by
    have := lcs_at t i (by simpa using h)
    simp only [List.getElem_cons_succ]
    rw [show (i + 1) * 4 = i * 4 + 4 by omega]
    exact this
theorem lcs_one : ∀ (A : List Ln), ∀ u ∈ lcs A, u.oneCell' = true
  | [], u, h => by simp [lcs] at h
  | x :: t, u, h => by
    simp only [lcs, List.mem_cons] at h
    rcases h with rfl | rfl | rfl | rfl | h
    · rfl
    · rfl
    · rfl
    · rfl
    · exact lcs_one t u h
theorem row_cells {w : World} {B t s n : Nat} {v : Value} {xs : List Value} (h : w.ownsRow B t s v n xs) (hn : 0 < n) : ∃ g cap, v = .slice (some ⟨g, 0, none⟩) n cap ∧ g < w.heap.size ∧ ∀ j z, xs[j]? = some z → w.cell? ⟨g, j, none⟩ = some z := by
  obtain ⟨hl, ⟨_, h0⟩ | ⟨g, cap, cur, rfl, hb, hg, hnc, hcm, hcs, htk⟩⟩ := h
  · omega
  · refine ⟨g, cap, rfl, (Array.getElem?_eq_some_iff.1 hg).1, fun j z hz => ?_⟩
    have hj := (List.getElem?_eq_some_iff.1 hz).1
    rw [cell_of_row w g j cur _ (0, 0) hg]
    rw [← htk, List.getElem?_take, if_pos (by rw [hl] at hj; exact hj)] at hz
    simpa using hz
theorem row_form {w : World} {B t s n : Nat} {v : Value} {xs : List Value} (h : w.ownsRow B t s v n xs) : ∃ a c, v = .slice a n c := by
  rcases h.2 with ⟨rfl, h0⟩ | ⟨g, cap, cur, rfl, _⟩
  · exact ⟨none, 0, by rw [h0]⟩
  · exact ⟨_, cap, rfl⟩
theorem row_keep {w w' : World} {B t s n : Nat} {v : Value} {xs : List Value} (h : w.ownsRow B t s v n xs) (hk : ∀ k, v.ownBlock = some k → w'.heap[k]? = w.heap[k]?) : w'.ownsRow B t s v n xs := by
  refine ⟨h.1, ?_⟩
  rcases h.2 with hn | ⟨g, cap, cur, rfl, hb', hg, rest⟩
  · exact .inl hn
  · exact .inr ⟨g, cap, cur, rfl, hb', (hk g rfl).trans hg, rest⟩
theorem row_below {w w' : World} {B t s n : Nat} {v : Value} {xs : List Value} (h : w.ownsRow B t s v n xs) (hb : Below w.heap.size w w') : w'.ownsRow B t s v n xs :=
  row_keep h fun k e => hb.block k ((World.ownsRow.lt h) k e).2
theorem row_drawn {w w' : World} {B t s n R : Nat} {v : Value} {xs : List Value} (h : w.ownsRow B t s v n xs) (hg : w.grownBy w' (some R)) (hR : R < B) : w'.ownsRow B t s v n xs :=
  row_keep h fun k e => hg.block k ((World.ownsRow.lt h) k e).2 (fun e' => by injection e' with e'; have := ((World.ownsRow.lt h) k e).1; omega)
theorem row_made {w : World} {B : Nat} {t : TypeId} {s : Nat} (hB : B ≤ w.heap.size) : (w.alloc (.cells #[] t)).ownsRow B t s (.slice (some ⟨w.heap.size, 0, none⟩) 0 0) 0 [] :=
  ⟨by simp, .inr ⟨w.heap.size, 0, #[], rfl, hB, heap_alloc_new w _, Nat.le_refl _, by unfold maxLen; omega, by simp, by simp⟩⟩
theorem SOwn.at {w : World} {B : Nat} {v : Value} {N : List ByteArray} (h : SOwn w B v N) : StAt w w.heap.size v N := by
  by_cases hn : 0 < N.length
  · obtain ⟨g, cap, rfl, hg, hz⟩ := row_cells h hn
    exact ⟨_, cap, rfl, .inr ⟨g, 0, rfl, hg, fun i hi => by rw [Nat.zero_add]; exact hz i _ (by simp [hi])⟩⟩
  · obtain rfl : N = [] := List.eq_nil_of_length_eq_zero (by omega)
    obtain ⟨a, c, rfl⟩ := row_form h
    exact ⟨a, c, rfl, .inl rfl⟩
theorem BOwn.at {w : World} {B : Nat} {v : Value} {N : List Bool} (h : BOwn w B v N) : BoAt w w.heap.size v N := by
  by_cases hn : 0 < N.length
  · obtain ⟨g, cap, rfl, hg, hz⟩ := row_cells h hn
    exact ⟨_, cap, rfl, .inr ⟨g, 0, rfl, hg, fun i hi => by rw [Nat.zero_add]; exact hz i _ (by simp [hi])⟩⟩
  · obtain rfl : N = [] := List.eq_nil_of_length_eq_zero (by omega)
    obtain ⟨a, c, rfl⟩ := row_form h
    exact ⟨a, c, rfl, .inl rfl⟩
theorem LOwn.at {w : World} {B : Nat} {v : Value} {S : List Ln} (h : LOwn w B v S) : LnAt w w.heap.size v S := by
  by_cases hn : 0 < S.length
  · obtain ⟨g, cap, rfl, hg, hz⟩ := row_cells h hn
    refine ⟨_, cap, rfl, .inr ⟨g, 0, rfl, hg, fun i hi => ?_⟩⟩
    obtain ⟨h0, h1, h2, h3⟩ := lcs_at S i hi
    rw [Nat.zero_add]
    exact ⟨hz _ _ h0, hz _ _ h1, hz _ _ h2, hz _ _ h3⟩
  · obtain rfl : S = [] := List.eq_nil_of_length_eq_zero (by omega)
    obtain ⟨a, c, rfl⟩ := row_form h
    exact ⟨a, c, rfl, .inl rfl⟩
/-- The draw's state behind an append to its own row. -/
theorem dr_push {w wr W w5 : World} {R p c B s n : Nat} {t : TypeId} {v : Value} {xs : List Value} (hd : Drawn w R p c wr) (hR : R < w.heap.size) (hB : w.heap.size ≤ B) (hW : Below wr.heap.size wr W) (how : wr.ownsRow B t s v n xs) (hg : W.grownBy w5 v.ownBlock) : Drawn w R p c w5 := by
  obtain ⟨q, q1, q2, hr, gr⟩ := hd
  have hlt := World.ownsRow.lt how
  have z := gr.size
  have zW := hW.size
  refine ⟨q, q1, q2, rdAt_kept (rdAt_below hr hW (by omega)) fun j hj => hg.block j (by omega) (fun e => by have := hlt j e.symm; omega), ?_⟩
  have g2 := grown_below gr (hW.mono z)
  exact ⟨hg.os.trans g2.os, hg.tape.trans g2.tape, hg.output.trans g2.output, Nat.le_trans g2.size hg.size, fun i hi hne => (hg.block i (Nat.lt_of_lt_of_le hi g2.size) (fun e => by have := hlt i e.symm; omega)).trans (g2.block i hi hne)⟩
theorem dr_below {w wr W : World} {R p c : Nat} (hd : Drawn w R p c wr) (hR : R < w.heap.size) (hW : Below wr.heap.size wr W) : Drawn w R p c W := by
  obtain ⟨q, q1, q2, hr, gr⟩ := hd
  have z := gr.size
  exact ⟨q, q1, q2, rdAt_below hr hW (by omega), grown_below gr (hW.mono z)⟩
theorem dr_more {w w' : World} {R p c c' : Nat} (hd : Drawn w R p c w') (h : c ≤ c') : Drawn w R p c' w' := by
  obtain ⟨q, q1, q2, hr, gr⟩ := hd
  exact ⟨q, q1, by omega, hr, gr⟩
theorem dr_set {w wr : World} {R p c g o : Nat} {u : Value} (hd : Drawn w R p c wr) (hR : R < w.heap.size) (hg : w.heap.size ≤ g) : Drawn w R p c (wr.setCell ⟨g, o, none⟩ u) := by
  obtain ⟨q, q1, q2, hr, gr⟩ := hd
  exact ⟨q, q1, q2, rdAt_set hr (by omega), grown_set gr hg⟩
theorem dr_then {w wr w' : World} {R p q c c' : Nat} (hg : w.grownBy wr (some R)) (h1 : p ≤ q) (h2 : q ≤ p + c) (hd : Drawn wr R q c' w') : Drawn w R p (c + c') w' := by
  obtain ⟨q', r1, r2, hr, gr⟩ := hd
  exact ⟨q', by omega, by omega, hr, grown_trans hg gr⟩

theorem drawn_one9 {wr w2 : World} {R q : Nat} (hr : RdAt w2 R (q + 1)) (hg : wr.grownBy w2 (some R)) : Drawn wr R q 1 w2 := ⟨q + 1, by omega, by omega, hr, hg⟩
theorem tabS {k : Nat} (h : k < 10) : ∃ s : ByteArray, (#[.string ⟨#[]⟩, .string ⟨#[]⟩, .string ⟨#[97]⟩, .string ⟨#[98]⟩, .string ⟨#[97, 98]⟩, .string ⟨#[33]⟩, .string ⟨#[33, 120]⟩, .string ⟨#[97, 98, 99]⟩, .string ⟨#[48, 49, 50, 51, 52, 53, 54, 55, 56, 57]⟩, .string ⟨#[120]⟩] : Array Value)[k]? = some (.string s) ∧ s.size ≤ 10 := by
  have : k = 0 ∨ k = 1 ∨ k = 2 ∨ k = 3 ∨ k = 4 ∨ k = 5 ∨ k = 6 ∨ k = 7 ∨ k = 8 ∨ k = 9 := by omega
  rcases this with rfl | rfl | rfl | rfl | rfl | rfl | rfl | rfl | rfl | rfl
  all_goals exact ⟨_, rfl, by decide⟩

set_option maxRecDepth 100000 in
set_option maxHeartbeats 2000000 in
theorem l20Thing_any (R p : Nat) (w : World) (h : RdAt w R p) (hp : p ≤ 900000000) :
    Calls Try.prog 117 #[.pointer (some ⟨R, 0, none⟩)] w fun e w' => ∃ s, e = .returned (.string s) ∧ s.size ≤ 10 ∧ Drawn w R p 1 w' := by
  have hR := rdAt_lt h
  go_enter Try.func117, Try.ntmps117
  go_wp2_with fail
  refine (pick_any R p 10 _ (rdAt_alloc h _) (by omega)).mono ?_
  rintro e w1 ⟨k, rfl, k0, k1, _, hr1, hg1⟩
  have k2 : k < 10 := k1 (by omega)
  have ht := intRow_cell ((hg1.block w.heap.size (by simp) (fun e => by injection e with e; omega)).trans (heap_alloc_new w _))
  have d1 : Drawn w R p 1 w1 := ⟨p + 1, by omega, by omega, hr1, grown_trans (grown_start w _ R) hg1⟩
  obtain ⟨kn, rfl⟩ := Int.eq_ofNat_of_zero_le k0
  obtain ⟨s, hs, hsz⟩ := tabS (k := kn) (by omega)
  have hc := (ht kn).trans hs
  have HD := Lib.hid d1
  have i1 : (kn : Int) < 10 := by omega
  clear ht hs hr1 hg1 k1 d1
  go_wp2_with fail
  go_ret
  exact ⟨_, rfl, hsz, HD.out⟩

theorem infoStr : (Try.prog.info? 9).map (fun i => (i.zero, i.size, i.bytes)) = some (some (.string ByteArray.empty), 1, 16) := by kernel_rfl
theorem infoBl : (Try.prog.info? 4).map (fun i => (i.zero, i.size, i.bytes)) = some (some (.bool false), 1, 1) := by kernel_rfl
theorem one_news {w : World} {x : Value} {t : TypeId} : ∀ j u, [x][j]? = some u → (w.alloc (.cells #[x] t)).cell? ((⟨w.heap.size, 0, none⟩ : Addr).add j) = some u := by
  intro j u hu
  match j, hu with
  | 0, hu =>
    have hadd : (⟨w.heap.size, 0, none⟩ : Addr).add 0 = ⟨w.heap.size, 0, none⟩ := by simp [Addr.add]
    rw [hadd]
    simp at hu
    subst hu
    rw [cell_of_row _ w.heap.size 0 _ _ (0, 0) (heap_alloc_new w _)]
    rfl
def z41 : ByteArray := ⟨(List.replicate 41 (0 : UInt8)).toArray⟩
theorem made41 : madeCells #[.int .u8 0] 41 = (List.replicate 41 (Value.int .u8 0)).toArray := by kernel_rfl
set_option maxRecDepth 10000 in
theorem conv41 (V : World) : (convert 66 9 (.slice (some ⟨V.heap.size, 0, none⟩) 41 41)).run Try.prog (V.alloc (.cells (madeCells #[.int .u8 0] 41) 5)) = .ok (.string z41) (V.alloc (.cells (madeCells #[.int .u8 0] 41) 5)) :=
  Rx.turn_conv (base := V.heap.size) (l := List.replicate 41 (0 : UInt8)) ⟨by simp [Rx.bv], .inr ⟨V.heap.size, 41, _, rfl, Nat.le_refl _, heap_alloc_new V _, Nat.le_refl _, by unfold maxLen; omega, by rw [size_madeCells], by rw [made41]; simp [Rx.bv]⟩⟩ (by simp)
theorem make41 (V : World) :
    (Instr.makeSlice 66 (.int .i64 41) (.int .i64 41)).run Try.prog V = .ok (.slice (some ⟨V.heap.size, 0, none⟩) 41 41) (V.alloc (.cells (madeCells #[.int .u8 0] 41) 5)) := by
  obtain ⟨i0, hi, hz0, hz1, hz2⟩ := info_parts Rx.infoU8
  have h := run_make (P := Try.prog) V 66 5 i0 _ Try.underlying66 hi hz0 .i64 .i64 41 41 (by omega) (Int.le_refl _) (by rw [hz2]; omega) (by omega)
  rw [hz1] at h
  simpa [Value.cells] using h

/-- What l20Ins keeps. -/
def IRel (R p m : Nat) (w : World) (s7 s8 : Value) (wr : World) : Prop :=
  ∃ (k : Nat) (N : List ByteArray), k ≤ m ∧ s8 = .int .i64 (k : Int) ∧ N.length = k ∧ SOwn wr w.heap.size s7 N ∧ (∀ q ∈ N, q.size ≤ 10) ∧ Drawn w R p k wr
def InsPost (R p m : Nat) (n : Int) (w : World) (e : Ending) (w' : World) : Prop :=
  ∃ N v, e = .returned v ∧ SOwn w' w.heap.size v N ∧ N.length ≤ m + 1 ∧ (∀ q ∈ N, q.size ≤ 41) ∧ (n = 0 → N.length = m ∧ ∀ q ∈ N, q.size ≤ 40) ∧ Drawn w R p (m + 1) w'
theorem sown_push {w5 : World} {B : Nat} {v : Value} {N : List ByteArray} {s : ByteArray} (h : w5.ownsRow B 9 1 v (N.length + 1) (N.map Value.string ++ [.string s])) : SOwn w5 B v (N ++ [s]) := by
  show w5.ownsRow B 9 1 v (N ++ [s]).length ((N ++ [s]).map Value.string)
  simpa using h

set_option maxRecDepth 100000 in
set_option maxHeartbeats 4000000 in
theorem l20Ins_any (R p m : Nat) (n : Int) (w : World) (h : RdAt w R p) (hp : p ≤ 800000000) (hm : m ≤ 10) (hn0 : 0 ≤ n) (hn1 : n ≤ 1000) :
    Calls Try.prog 119 #[.pointer (some ⟨R, 0, none⟩), .int .i64 (m : Int), .int .i64 n] w (InsPost R p m n w) := by
  have hR := rdAt_lt h
  obtain ⟨i0, hi, hz0, hz1, hz2⟩ := info_parts infoStr
  have HST := Lib.hid (show IRel R p m w (.slice (some ⟨w.heap.size, 0, none⟩) 0 0) (.int .i64 0) (w.alloc (.cells #[] 9)) from
    ⟨0, [], Nat.zero_le _, rfl, rfl, row_made (Nat.le_refl _), by simp, ⟨p, Nat.le_refl _, Nat.le_refl _, rdAt_alloc h _, grown_start w _ R⟩⟩)
  clear h
  go_enter Try.func119, Try.ntmps119
  go_wp2_with fail
  go_loopw [7, 8] (fun s7 s8 wr => IRel R p m w s7 s8 wr) (fun _ s8 _ => m - (intOf s8).toNat)
  case atStart => exact HST.out
  case round =>
    obtain ⟨k, N, hk, rfl, hN, hown, hq, hd⟩ := hrel
    obtain ⟨va, vc, rfl⟩ := row_form hown
    have HO := Lib.hid hown
    have HQ := Lib.hid hq
    have HD := Lib.hid hd
    have HN := Lib.hid hN
    have hN10 : N.length ≤ 10 := by omega
    obtain ⟨q, q1, q2, hr, hg⟩ := hd
    have zg := hg.size
    have HG := Lib.hid hg
    clear hown hq hN hg
    by_cases hlt : k < m
    · have i1 : (k : Int) < (m : Int) := by omega
      go_wp2_with fail
      refine (l20Thing_any R q wr hr (by omega)).mono ?_
      rintro e w3 ⟨s, rfl, hs, hd3⟩
      have d3 := dr_then HG.out q1 q2 hd3
      have z3 : wr.heap.size ≤ w3.heap.size := by obtain ⟨_, _, _, _, g⟩ := hd3; exact g.size
      have o3 : w3.ownsRow w.heap.size 9 1 (.slice va N.length vc) N.length (N.map Value.string) := by obtain ⟨_, _, _, _, g⟩ := hd3; exact row_drawn HO.out g (by omega)
      have HO3 := Lib.hid o3
      have HD3 := Lib.hid d3
      clear hd3 d3 hr o3
      go_wp2_with (at_builtin; refine wpList_append_own _ rfl _ _ 24 rfl w.heap.size 9 i0 (.string ByteArray.empty) 1 16 Try.underlying24 hi hz0 hz1 hz2 rfl (by decide) _ _ _ rfl (World.ownsRow.alloc HO3.out (.cells #[.string s] 9)) ⟨w3.heap.size, 0, none⟩ 1 1 [.string s] rfl rfl one_news (by intro u hu; simp at hu; subst hu; rfl) (by unfold maxLen; omega) (by omega) (by simp; omega) ?_)
      intro v' w5 hown' hgrow hnn
      have HR := Lib.hid (show IRel R p m w v' (.int .i64 ((k : Int) + 1)) w5 from ⟨k + 1, N ++ [s], by omega, by go_num, by simp [HN.out], sown_push hown', fun x hx => by rcases List.mem_append.1 hx with hx | hx; exact HQ.out x hx; simp at hx; subst hx; exact hs,
        dr_push HD3.out hR (Nat.le_refl _) ((Below.refl _ _).alloc (Nat.le_refl _) _) HO3.out hgrow⟩)
      clear hown' hgrow hnn
      go_wp2_with fail
      go_roundw
      case rel => exact HR.out
      case measure => simp [intOf]; omega
    · obtain rfl : k = m := by omega
      go_wp2_with fail
      refine (odd_any R q n wr hr (by omega) (by omega) (by omega)).mono ?_
      rintro e w3 ⟨o, rfl, ho, hd3⟩
      have d3 := dr_then HG.out q1 q2 hd3
      have z3 : wr.heap.size ≤ w3.heap.size := by obtain ⟨_, _, _, _, g⟩ := hd3; exact g.size
      have o3 : w3.ownsRow w.heap.size 9 1 (.slice va N.length vc) N.length (N.map Value.string) := by obtain ⟨_, _, _, _, g⟩ := hd3; exact row_drawn HO.out g (by omega)
      have HO3 := Lib.hid o3
      have HD3 := Lib.hid d3
      have HHO := Lib.hid ho
      clear hd3 d3 hr o3 ho
      rcases o with _ | _
      · go_wp2_with fail
        go_ret
        exact ⟨N, _, rfl, HO3.out, by have := HN.out; omega, fun x hx => by have := HQ.out x hx; omega, fun _ => ⟨HN.out, fun x hx => by have := HQ.out x hx; omega⟩, HD3.out⟩
      · have hv := conv41 w3
        have hmk := make41 w3
        have bA : Below w3.heap.size w3 (w3.alloc (.cells (madeCells #[.int .u8 0] 41) 5)) := (Below.refl _ _).alloc (Nat.le_refl _) _
        have nw : ∀ j u, [Value.string z41][j]? = some u → ((w3.alloc (.cells (madeCells #[.int .u8 0] 41) 5)).alloc (.cells #[.string z41] 9)).cell? ((⟨w3.heap.size + 1, 0, none⟩ : Addr).add j) = some u := by
          have := one_news (w := w3.alloc (.cells (madeCells #[.int .u8 0] 41) 5)) (x := .string z41) (t := 9)
          rwa [show (w3.alloc (.cells (madeCells #[.int .u8 0] 41) 5)).heap.size = w3.heap.size + 1 by simp] at this
        go_wp2_with (at_builtin; refine wpList_append_own _ rfl _ _ 24 rfl w.heap.size 9 i0 (.string ByteArray.empty) 1 16 Try.underlying24 hi hz0 hz1 hz2 rfl (by decide) _ _ _ rfl (World.ownsRow.alloc (row_below HO3.out bA) (.cells #[.string z41] 9)) ⟨w3.heap.size + 1, 0, none⟩ 1 1 [.string z41] rfl rfl nw (by intro u hu; simp at hu; subst hu; rfl) (by unfold maxLen; omega) (by omega) (by simp; omega) ?_)
        intro v' w5 hown' hgrow hnn
        have HR := Lib.hid (show InsPost R p k n w (.returned v') w5 from ⟨N ++ [z41], v', rfl, sown_push hown', (by have := HN.out; simp; omega), (fun x hx => by
            rcases List.mem_append.1 hx with hx | hx
            · have := HQ.out x hx
              omega
            · simp at hx
              subst hx
              decide), (fun e => by
            have h0 := HHO.out (by omega)
            cases h0),
          (dr_more (dr_push HD3.out hR (Nat.le_refl _) (bA.trans (((Below.refl _ _).alloc (Nat.le_refl _) _).mono bA.size)) HO3.out hgrow) (by omega))⟩)
        clear hown' hgrow hnn
        go_wp2_with fail
        go_ret
        exact HR.out

def OpRel (R p m : Nat) (w : World) (s5 s6 : Value) (wr : World) : Prop :=
  ∃ (k : Nat) (N : List Bool), k ≤ m ∧ s6 = .int .i64 (k : Int) ∧ N.length = k ∧ BOwn wr w.heap.size s5 N ∧ Drawn w R p k wr
theorem bown_push {w5 : World} {B : Nat} {v : Value} {N : List Bool} {s : Bool} (h : w5.ownsRow B 4 1 v (N.length + 1) (N.map Value.bool ++ [.bool s])) : BOwn w5 B v (N ++ [s]) := by
  show w5.ownsRow B 4 1 v (N ++ [s]).length ((N ++ [s]).map Value.bool)
  simpa using h

end Drm
end Go.Proofs.Ytopplljilmjjgaa

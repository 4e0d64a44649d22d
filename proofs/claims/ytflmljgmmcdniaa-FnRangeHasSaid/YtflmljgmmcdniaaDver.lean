/- Contracts of the model's drawn versions, over this seat's translation: l20Open lays a new reader; odd answers with a word, l20Version with four whole numbers (a version, where none is asked to be spoilt); nothing but the reader has changed of what was there. Conditions as for pick. -/
import Derived.Test.YtflmljgmmcdniaaDraw
import Derived.Test.YtflmljgmmcdniaaVer
import Derived.Deep.DeepCutAuto
namespace Go.Proofs.Ytflmljgmmcdniaa
open Go.RowKit Go.Sort

theorem grown_trans {a b c : World} {row : Option Nat} (h : a.grownBy b row) (k : b.grownBy c row) : a.grownBy c row :=
  ⟨k.os.trans h.os, k.tape.trans h.tape, k.output.trans h.output, Nat.le_trans h.size k.size, fun i hi hne => (k.block i (Nat.lt_of_lt_of_le hi h.size) hne).trans (h.block i hi hne)⟩

theorem grown_below {a b c : World} {row : Option Nat} (h : a.grownBy b row) (k : Below a.heap.size b c) : a.grownBy c row :=
  ⟨k.os.trans h.os, k.tape.trans h.tape, k.output.trans h.output, Nat.le_trans h.size k.size, fun i hi hne => (k.block i hi).trans (h.block i hi hne)⟩

/-- A reader stays as it is where no block up to its own has changed. -/
theorem rdAt_kept {w w' : World} {R p : Nat} (h : RdAt w R p) (hb : ∀ k, k ≤ R → w'.heap[k]? = w.heap[k]?) : RdAt w' R p := by
  obtain ⟨a, len, cap, hl, hc, hr⟩ := h
  refine ⟨a, len, cap, hl, ?_, (hb R (Nat.le_refl _)).trans hr⟩
  rcases hc with hc | ⟨b, o, rfl, hbR, hc⟩
  · exact .inl hc
  · refine .inr ⟨b, o, rfl, hbR, fun i hi => ?_⟩
    obtain ⟨x, hx, hcell⟩ := hc i hi
    exact ⟨x, hx, (World.cell?_of_block (w := w) (hb b (by omega))).trans hcell⟩
theorem rdAt_below {w w' : World} {R p B : Nat} (h : RdAt w R p) (hb : Below B w w') (hR : R < B) : RdAt w' R p := rdAt_kept h fun k hk => hb.block k (by omega)
theorem rdAt_lt {w : World} {R p : Nat} (h : RdAt w R p) : R < w.heap.size := by
  obtain ⟨_, _, _, _, _, hr⟩ := h
  exact (Array.getElem?_eq_some_iff.1 hr).1

/-- What a call that reads on leaves: the reader, asked at most c times more; all else that was there. -/
def Drawn (w : World) (R p c : Nat) (w' : World) : Prop := ∃ q, p ≤ q ∧ q ≤ p + c ∧ RdAt w' R q ∧ w.grownBy w' (some R)

def OddPost (n : Int) (R p : Nat) (w : World) (e : Ending) (w' : World) : Prop := ∃ o : Bool, e = .returned (.bool o) ∧ (n ≤ 0 → o = false) ∧ Drawn w R p 1 w'

set_option maxHeartbeats 1000000 in
theorem odd_any (R p : Nat) (n : Int) (w : World) (h : RdAt w R p) (hp : p ≤ 1000000000) (hn0 : -1000000 ≤ n) (hn1 : n ≤ 1000000) :
    Calls Try.prog 74 #[.pointer (some ⟨R, 0, none⟩), .int .i64 n] w (OddPost n R p w) := by
  by_cases hn : 0 < n
  · go_enter Try.func74, Try.ntmps74
    go_wp2_with fail
    refine (pick_any R p n w h hp).mono ?_
    rintro e w1 ⟨k, rfl, k0, k1, _, hr, hg⟩
    go_wp2
    go_ret
    exact ⟨_, rfl, fun h => by omega, p + 1, by omega, by omega, hr, hg⟩
  · go_enter Try.func74, Try.ntmps74
    go_wp2
    go_ret
    exact ⟨_, rfl, fun _ => rfl, p, by omega, by omega, h, ⟨rfl, rfl, rfl, Nat.le_refl _, fun _ _ _ => rfl⟩⟩

/-- Block g holds a version's four numbers. -/
def VerBlk (w : World) (g : Nat) (a b c d : Int) : Prop := w.heap[g]? = some (.cells #[.int .i64 a, .int .i64 b, .int .i64 c, .int .i64 d] 43 (0, 0))

theorem VerBlk.cells {w : World} {g : Nat} {a b c d : Int} (h : VerBlk w g a b c d) :
    w.cell? ⟨g, 0, none⟩ = some (.int .i64 a) ∧ w.cell? ⟨g, 1, none⟩ = some (.int .i64 b) ∧ w.cell? ⟨g, 2, none⟩ = some (.int .i64 c) ∧ w.cell? ⟨g, 3, none⟩ = some (.int .i64 d) ∧ ∀ o, w.frozen? ⟨g, o, none⟩ = false := by
  refine ⟨?_, ?_, ?_, ?_, fun o => ?_⟩
  · rw [cell_of_row w g 0 _ _ (0, 0) h]; rfl
  · rw [cell_of_row w g 1 _ _ (0, 0) h]; rfl
  · rw [cell_of_row w g 2 _ _ (0, 0) h]; rfl
  · rw [cell_of_row w g 3 _ _ (0, 0) h]; rfl
  · simp [World.frozen?, show w.heap[g]? = _ from h]

theorem VerBlk.lt {w : World} {g : Nat} {a b c d : Int} (h : VerBlk w g a b c d) : g < w.heap.size := (Array.getElem?_eq_some_iff.1 h).1
theorem VerBlk.kept {w w' : World} {g R : Nat} {a b c d : Int} (h : VerBlk w g a b c d) (hg : w.grownBy w' (some R)) (hne : g ≠ R) : VerBlk w' g a b c d :=
  (hg.block g h.lt (fun e => hne (by injection e))).trans h

/-- What l20Version keeps from statement to statement: its own version, the place of its result, the reader. -/
def VSt (w : World) (R p c : Nat) (s5 : Value) (wx : World) : Prop :=
  ∃ g q a b c' d, s5 = .pointer (some ⟨g, 0, none⟩) ∧ w.heap.size < g ∧ q ≤ p + c ∧ p ≤ q ∧ RdAt wx R q ∧ VerBlk wx g a b c' d ∧ VerBlk wx w.heap.size 0 0 0 0 ∧ w.grownBy wx (some R) ∧ vOk a b c' d = true

def VerPost (n : Int) (R p : Nat) (w : World) (e : Ending) (w' : World) : Prop :=
  ∃ a b c d : Int, e = .returned (ver a b c d) ∧ (n ≤ 0 → vOk a b c d = true) ∧ Drawn w R p 10 w'

theorem VerBlk.new (w : World) (a b c d : Int) : VerBlk (w.alloc (.cells #[.int .i64 a, .int .i64 b, .int .i64 c, .int .i64 d] 43)) w.heap.size a b c d := heap_alloc_new w _
theorem VerBlk.alloc {w : World} {g : Nat} {a b c d : Int} (h : VerBlk w g a b c d) (o : Obj) : VerBlk (w.alloc o) g a b c d := (Below.heap_alloc w o g h.lt).trans h
theorem VerBlk.other {w : World} {g k : Nat} {a b c d : Int} {x : Nat} {v : Value} (h : VerBlk w g a b c d) (hne : g ≠ k) : VerBlk (w.setCell ⟨k, x, none⟩ v) g a b c d := (Below.heap_setCell w ⟨k, x, none⟩ v g hne).trans h
theorem VerBlk.set3 {w : World} {g : Nat} {a b c d e : Int} (h : VerBlk w g a b c d) : VerBlk (w.setCell ⟨g, 3, none⟩ (.int .i64 e)) g a b c e := by
  unfold VerBlk at *
  simp [World.setCell, Array.getElem?_modify, h]
theorem VerBlk.set4 {w : World} {g : Nat} {a b c d a' b' c' d' : Int} (h : VerBlk w g a b c d) :
    VerBlk ((((w.setCell ⟨g, 0, none⟩ (.int .i64 a')).setCell ⟨g, 1, none⟩ (.int .i64 b')).setCell ⟨g, 2, none⟩ (.int .i64 c')).setCell ⟨g, 3, none⟩ (.int .i64 d')) g a' b' c' d' := by
  unfold VerBlk at *
  simp [World.setCell, Array.getElem?_modify, h]

/-- One store into a block that is new since w. -/
theorem grown_set {w wx : World} {R g x : Nat} {v : Value} (h : w.grownBy wx (some R)) (hg : w.heap.size ≤ g) : w.grownBy (wx.setCell ⟨g, x, none⟩ v) (some R) :=
  ⟨h.os, h.tape, h.output, by simpa [World.setCell] using h.size, fun i hi hne => (Below.heap_setCell wx ⟨g, x, none⟩ v i (by simp; omega)).trans (h.block i hi hne)⟩
theorem grown_alloc {w wx : World} {R : Nat} (h : w.grownBy wx (some R)) (o : Obj) : w.grownBy (wx.alloc o) (some R) :=
  grown_below h ((Below.refl _ wx).alloc h.size o)
theorem rdAt_set {w : World} {R p g x : Nat} {v : Value} (h : RdAt w R p) (hg : R < g) : RdAt (w.setCell ⟨g, x, none⟩ v) R p :=
  rdAt_kept h fun k hk => Below.heap_setCell w ⟨g, x, none⟩ v k (by simp; omega)
theorem rdAt_alloc {w : World} {R p : Nat} (h : RdAt w R p) (o : Obj) : RdAt (w.alloc o) R p := rdAt_below h ((Below.refl _ w).alloc (Nat.le_refl _) o) (rdAt_lt h)
theorem grown_start (w : World) (o : Obj) (R : Nat) : w.grownBy (w.alloc o) (some R) := World.grownBy_alloc w o _

/-- Block g holds these cells of versions, one behind the other. -/
def TabAt (w : World) (g : Nat) (C : Array Value) : Prop := w.heap[g]? = some (.cells C 43 (0, 0))
theorem TabAt.new (w : World) (C : Array Value) : TabAt (w.alloc (.cells C 43)) w.heap.size C := heap_alloc_new w _
theorem TabAt.kept {w w' : World} {g R : Nat} {C : Array Value} (h : TabAt w g C) (hg : w.grownBy w' (some R)) (hne : g ≠ R) : TabAt w' g C :=
  (hg.block g (Array.getElem?_eq_some_iff.1 h).1 (fun e => hne (by injection e))).trans h
theorem TabAt.cell {w : World} {g : Nat} {C : Array Value} (h : TabAt w g C) (o : Nat) : w.cell? ⟨g, o, none⟩ = C[o]? := cell_of_row w g o C _ (0, 0) h

theorem vOk_small {a b c d : Int} (h : 0 ≤ a ∧ a ≤ 99 ∧ 0 ≤ b ∧ b ≤ 99 ∧ 0 ≤ c ∧ c ≤ 99 ∧ 0 ≤ d ∧ d ≤ 9) : vOk a b c d = true := vOk_iff.2 (by omega)

set_option maxHeartbeats 2000000 in
theorem version_any (R p : Nat) (n : Int) (w : World) (h : RdAt w R p) (hp : p ≤ 900000000) (hn0 : -1000000 ≤ n) (hn1 : n ≤ 1000000) :
    Calls Try.prog 62 #[.pointer (some ⟨R, 0, none⟩), .int .i64 n] w (VerPost n R p w) := by
  have hR := rdAt_lt h
  have h1 := rdAt_alloc h (.cells #[.int .i64 0, .int .i64 0, .int .i64 0, .int .i64 0] 43)
  have b1 := VerBlk.new w 0 0 0 0
  have g1 := grown_start w (.cells #[.int .i64 0, .int .i64 0, .int .i64 0, .int .i64 0] 43) R
  go_enter Try.func62, Try.ntmps62
  go_wp2_with fail
  refine (pick_any R p _ _ h1 (by omega)).mono ?_
  rintro e w1 ⟨k1, rfl, k10, k11, _, hr1, hg1⟩
  have k12 : k1 < 3 := k11 (by omega)
  go_wp2_with fail
  refine (pick_any R _ _ _ hr1 (by omega)).mono ?_
  rintro e w2 ⟨k2, rfl, k20, k21, _, hr2, hg2⟩
  have k22 : k2 < 4 := k21 (by omega)
  go_wp2_with fail
  refine (pick_any R _ _ _ hr2 (by omega)).mono ?_
  rintro e w3 ⟨k3, rfl, k30, k31, _, hr3, hg3⟩
  have k32 : k3 < 4 := k31 (by omega)
  have g3 := grown_trans (grown_trans (grown_trans g1 hg1) hg2) hg3
  have b3 := ((b1.kept hg1 (by omega)).kept hg2 (by omega)).kept hg3 (by omega)
  have s3 := g3.size
  have l3 := b3.lt
  clear b1 g1 h1 hr1 hr2 hg1 hg2 hg3 k11 k21 k31
  have hr4 := rdAt_alloc hr3 (.cells #[.int .i64 k1, .int .i64 k2, .int .i64 k3, .int .i64 0] 43)
  have b4 := b3.alloc (.cells #[.int .i64 k1, .int .i64 k2, .int .i64 k3, .int .i64 0] 43)
  have v4 := VerBlk.new w3 k1 k2 k3 0
  have g4 := grown_alloc g3 (.cells #[.int .i64 k1, .int .i64 k2, .int .i64 k3, .int .i64 0] 43)
  go_wp2_with fail
  refine (pick_any R _ _ _ hr4 (by omega)).mono ?_
  rintro e w5 ⟨k5, rfl, k50, k51, _, hr5, hg5⟩
  have g5 := grown_trans g4 hg5
  have b5 := b4.kept hg5 (by omega)
  have v5 := v4.kept hg5 (by omega)
  clear hr4 b4 v4 g4 hg5 b3 g3 hr3
  go_upto_if 15 with fail
  go_cut [5] (fun s5 wx => VSt w R p 5 s5 wx)
  case first =>
    by_cases hk : k5 = 0
    · subst hk
      go_wp2_with fail
      refine (pick_any R _ _ _ hr5 (by omega)).mono ?_
      rintro e w6 ⟨k6, rfl, k60, k61, _, hr6, hg6⟩
      have k62 : k6 < 3 := k61 (by omega)
      have g6 := grown_trans g5 hg6
      have b6 := b5.kept hg6 (by omega)
      have v6 := v5.kept hg6 (by omega)
      obtain ⟨x0, x1, x2, x3, xf⟩ := v6.cells
      have xf3 := xf 3
      clear xf
      go_wp2_with fail
      go_meet
      exact ⟨w3.heap.size, _, k1, k2, k3, _, rfl, by omega, by omega, by omega, rdAt_set hr6 (by omega), v6.set3, b6.other (by omega), grown_set g6 (by omega), vOk_small (by omega)⟩
    · have hk2 : (k5 == 0) = false := by rw [beq_eq_false_iff_ne]; exact hk
      go_wp2_with fail
      go_meet
      exact ⟨w3.heap.size, _, k1, k2, k3, 0, rfl, by omega, by omega, by omega, hr5, v5, b5, g5, vOk_small (by omega)⟩
  case rest =>
    obtain ⟨g, q, a, b, c, d, rfl, hgw, hq1, hq2, hr, hv, hb, hg, hok⟩ := hcut
    clear v5 b5 g5 hr5
    have HK := Lib.hid hok
    clear hok
    go_wp2_with fail
    refine (pick_any R _ _ _ hr (by omega)).mono ?_
    rintro e w6 ⟨k6, rfl, k60, k61, _, hr6, hg6⟩
    have g6 := grown_trans hg hg6
    have b6 := hb.kept hg6 (by omega)
    have v6 := hv.kept hg6 (by omega)
    clear hr hb hg hg6 hv
    go_upto_if 22 with fail
    go_cut [5] (fun s5 wx => VSt w R p 8 s5 wx)
    case first =>
      by_cases hk : k6 = 0
      · subst hk
        have t1 := TabAt.new w6 #[.int .i64 0, .int .i64 0, .int .i64 0, .int .i64 0, .int .i64 99, .int .i64 99, .int .i64 99, .int .i64 0, .int .i64 0, .int .i64 0, .int .i64 0, .int .i64 9, .int .i64 0, .int .i64 99, .int .i64 0, .int .i64 0]
        have hr7 := rdAt_alloc hr6 (.cells #[.int .i64 0, .int .i64 0, .int .i64 0, .int .i64 0, .int .i64 99, .int .i64 99, .int .i64 99, .int .i64 0, .int .i64 0, .int .i64 0, .int .i64 0, .int .i64 9, .int .i64 0, .int .i64 99, .int .i64 0, .int .i64 0] 43)
        have b7 := b6.alloc (.cells #[.int .i64 0, .int .i64 0, .int .i64 0, .int .i64 0, .int .i64 99, .int .i64 99, .int .i64 99, .int .i64 0, .int .i64 0, .int .i64 0, .int .i64 0, .int .i64 9, .int .i64 0, .int .i64 99, .int .i64 0, .int .i64 0] 43)
        have v7 := v6.alloc (.cells #[.int .i64 0, .int .i64 0, .int .i64 0, .int .i64 0, .int .i64 99, .int .i64 99, .int .i64 99, .int .i64 0, .int .i64 0, .int .i64 0, .int .i64 0, .int .i64 9, .int .i64 0, .int .i64 99, .int .i64 0, .int .i64 0] 43)
        have g7 := grown_alloc g6 (.cells #[.int .i64 0, .int .i64 0, .int .i64 0, .int .i64 0, .int .i64 99, .int .i64 99, .int .i64 99, .int .i64 0, .int .i64 0, .int .i64 0, .int .i64 0, .int .i64 9, .int .i64 0, .int .i64 99, .int .i64 0, .int .i64 0] 43)
        have lg := v6.lt
        go_wp2_with fail
        refine (pick_any R _ _ _ hr7 (by omega)).mono ?_
        rintro e w8 ⟨k8, rfl, k80, k81, _, hr8, hg8⟩
        have k82 : k8 < 4 := k81 (by omega)
        have g8 := grown_trans g7 hg8
        have b8 := b7.kept hg8 (by omega)
        have v8 := v7.kept hg8 (by omega)
        have ht := (t1.kept hg8 (by have := rdAt_lt hr6; omega)).cell
        obtain ⟨x0, x1, x2, x3, xf⟩ := v8.cells
        clear t1 hr7 b7 v7 g7 hg8 k81 hr6 b6 v6 g6
        have hk8 : k8 = 0 ∨ k8 = 1 ∨ k8 = 2 ∨ k8 = 3 := by omega
        rcases hk8 with rfl | rfl | rfl | rfl
        all_goals
          go_wp2_with fail
          go_meet
          exact ⟨g, _, _, _, _, _, rfl, hgw, by omega, by omega, rdAt_set (rdAt_set (rdAt_set (rdAt_set hr8 (by omega)) (by omega)) (by omega)) (by omega), v8.set4, (((b8.other (by omega)).other (by omega)).other (by omega)).other (by omega), grown_set (grown_set (grown_set (grown_set g8 (by omega)) (by omega)) (by omega)) (by omega), vOk_small (by omega)⟩
      · have hk2 : (k6 == 0) = false := by rw [beq_eq_false_iff_ne]; exact hk
        go_wp2_with fail
        go_meet
        exact ⟨g, _, a, b, c, d, rfl, hgw, by omega, by omega, hr6, v6, b6, g6, HK.out⟩
    case rest =>
      obtain ⟨g, q, a, b, c, d, rfl, hgw, hq1, hq2, hr, hv, hb, hg, hok⟩ := hcut
      clear v6 b6 g6 hr6 HK
      have HK := Lib.hid hok
      clear hok
      go_wp2_with fail
      refine (odd_any R _ n _ hr (by omega) hn0 hn1).mono ?_
      rintro e w9 ⟨o, rfl, ho, q2, hq3, hq4, hr9, hg9⟩
      have g9 := grown_trans hg hg9
      have b9 := hb.kept hg9 (by omega)
      have v9 := hv.kept hg9 (by omega)
      have lg := v9.lt
      clear hr hb hg hg9 hv
      cases o
      · clear ho
        obtain ⟨x0, x1, x2, x3, xf⟩ := v9.cells
        obtain ⟨y0, y1, y2, y3, yf⟩ := b9.cells
        go_wp2_with fail
        exact bodyPost_ret (v := ver a b c d) (by simp [results, Try.results62, go_sem, y0, y1, y2, y3]) rfl ⟨a, b, c, d, rfl, fun _ => HK.out, q2, by omega, by omega, rdAt_set (rdAt_set (rdAt_set (rdAt_set hr9 (by omega)) (by omega)) (by omega)) (by omega), grown_set (grown_set (grown_set (grown_set g9 (by omega)) (by omega)) (by omega)) (by omega)⟩
      · have hnn : 0 < n := by
          have := ho
          rcases Int.lt_or_le 0 n with h | h
          · exact h
          · exact absurd (this h) (by decide)
        clear ho
        have t1 := TabAt.new w9 #[.int .i64 (-1), .int .i64 0, .int .i64 0, .int .i64 0, .int .i64 0, .int .i64 100, .int .i64 0, .int .i64 0, .int .i64 0, .int .i64 0, .int .i64 (-1), .int .i64 0, .int .i64 0, .int .i64 0, .int .i64 0, .int .i64 10, .int .i64 0, .int .i64 0, .int .i64 0, .int .i64 (-1)]
        have hr10 := rdAt_alloc hr9 (.cells #[.int .i64 (-1), .int .i64 0, .int .i64 0, .int .i64 0, .int .i64 0, .int .i64 100, .int .i64 0, .int .i64 0, .int .i64 0, .int .i64 0, .int .i64 (-1), .int .i64 0, .int .i64 0, .int .i64 0, .int .i64 0, .int .i64 10, .int .i64 0, .int .i64 0, .int .i64 0, .int .i64 (-1)] 43)
        have b10 := b9.alloc (.cells #[.int .i64 (-1), .int .i64 0, .int .i64 0, .int .i64 0, .int .i64 0, .int .i64 100, .int .i64 0, .int .i64 0, .int .i64 0, .int .i64 0, .int .i64 (-1), .int .i64 0, .int .i64 0, .int .i64 0, .int .i64 0, .int .i64 10, .int .i64 0, .int .i64 0, .int .i64 0, .int .i64 (-1)] 43)
        have v10 := v9.alloc (.cells #[.int .i64 (-1), .int .i64 0, .int .i64 0, .int .i64 0, .int .i64 0, .int .i64 100, .int .i64 0, .int .i64 0, .int .i64 0, .int .i64 0, .int .i64 (-1), .int .i64 0, .int .i64 0, .int .i64 0, .int .i64 0, .int .i64 10, .int .i64 0, .int .i64 0, .int .i64 0, .int .i64 (-1)] 43)
        have g10 := grown_alloc g9 (.cells #[.int .i64 (-1), .int .i64 0, .int .i64 0, .int .i64 0, .int .i64 0, .int .i64 100, .int .i64 0, .int .i64 0, .int .i64 0, .int .i64 0, .int .i64 (-1), .int .i64 0, .int .i64 0, .int .i64 0, .int .i64 0, .int .i64 10, .int .i64 0, .int .i64 0, .int .i64 0, .int .i64 (-1)] 43)
        go_wp2_with fail
        refine (pick_any R _ _ _ hr10 (by omega)).mono ?_
        rintro e w11 ⟨k11, rfl, k110, k111, _, hr11, hg11⟩
        have k112 : k11 < 5 := k111 (by omega)
        have g11 := grown_trans g10 hg11
        have b11 := b10.kept hg11 (by omega)
        have v11 := v10.kept hg11 (by omega)
        have ht := (t1.kept hg11 (by have := rdAt_lt hr9; omega)).cell
        obtain ⟨x0, x1, x2, x3, xf⟩ := v11.cells
        obtain ⟨y0, y1, y2, y3, yf⟩ := b11.cells
        have ngw : ¬ g = w.heap.size := by omega
        have nwg : ¬ w.heap.size = g := by omega
        clear t1 hr10 b10 v10 g10 hg11 k111 hr9 b9 v9 g9
        have back : ∀ (x1 x2 x3 x4 y1 y2 y3 y4 : Value), RdAt w11 R (q2 + 1) → RdAt ((((((((w11.setCell ⟨g, 0, none⟩ x1).setCell ⟨g, 1, none⟩ x2).setCell ⟨g, 2, none⟩ x3).setCell ⟨g, 3, none⟩ x4).setCell ⟨w.heap.size, 0, none⟩ y1).setCell ⟨w.heap.size, 1, none⟩ y2).setCell ⟨w.heap.size, 2, none⟩ y3).setCell ⟨w.heap.size, 3, none⟩ y4) R (q2 + 1) :=
          fun _ _ _ _ _ _ _ _ h => rdAt_set (rdAt_set (rdAt_set (rdAt_set (rdAt_set (rdAt_set (rdAt_set (rdAt_set h (by omega)) (by omega)) (by omega)) (by omega)) (by omega)) (by omega)) (by omega)) (by omega)
        have keep : ∀ (x1 x2 x3 x4 y1 y2 y3 y4 : Value), w.grownBy w11 (some R) → w.grownBy ((((((((w11.setCell ⟨g, 0, none⟩ x1).setCell ⟨g, 1, none⟩ x2).setCell ⟨g, 2, none⟩ x3).setCell ⟨g, 3, none⟩ x4).setCell ⟨w.heap.size, 0, none⟩ y1).setCell ⟨w.heap.size, 1, none⟩ y2).setCell ⟨w.heap.size, 2, none⟩ y3).setCell ⟨w.heap.size, 3, none⟩ y4) (some R) :=
          fun _ _ _ _ _ _ _ _ h => grown_set (grown_set (grown_set (grown_set (grown_set (grown_set (grown_set (grown_set h (by omega)) (by omega)) (by omega)) (by omega)) (by omega)) (by omega)) (by omega)) (by omega)
        have BK := Lib.hid back
        have KP := Lib.hid keep
        clear back keep
        have hk11 : k11 = 0 ∨ k11 = 1 ∨ k11 = 2 ∨ k11 = 3 ∨ k11 = 4 := by omega
        rcases hk11 with rfl | rfl | rfl | rfl | rfl
        · go_wp2_with fail
          exact bodyPost_ret (v := ver (-1) 0 0 0) (by simp [results, Try.results62, go_sem, y0, y1, y2, y3]) rfl ⟨(-1), 0, 0, 0, rfl, fun h => absurd h (by omega), q2 + 1, by omega, by omega, BK.out _ _ _ _ _ _ _ _ hr11, KP.out _ _ _ _ _ _ _ _ g11⟩
        · go_wp2_with fail
          exact bodyPost_ret (v := ver 0 100 0 0) (by simp [results, Try.results62, go_sem, y0, y1, y2, y3]) rfl ⟨0, 100, 0, 0, rfl, fun h => absurd h (by omega), q2 + 1, by omega, by omega, BK.out _ _ _ _ _ _ _ _ hr11, KP.out _ _ _ _ _ _ _ _ g11⟩
        · go_wp2_with fail
          exact bodyPost_ret (v := ver 0 0 (-1) 0) (by simp [results, Try.results62, go_sem, y0, y1, y2, y3]) rfl ⟨0, 0, (-1), 0, rfl, fun h => absurd h (by omega), q2 + 1, by omega, by omega, BK.out _ _ _ _ _ _ _ _ hr11, KP.out _ _ _ _ _ _ _ _ g11⟩
        · go_wp2_with fail
          exact bodyPost_ret (v := ver 0 0 0 10) (by simp [results, Try.results62, go_sem, y0, y1, y2, y3]) rfl ⟨0, 0, 0, 10, rfl, fun h => absurd h (by omega), q2 + 1, by omega, by omega, BK.out _ _ _ _ _ _ _ _ hr11, KP.out _ _ _ _ _ _ _ _ g11⟩
        · go_wp2_with fail
          exact bodyPost_ret (v := ver 0 0 0 (-1)) (by simp [results, Try.results62, go_sem, y0, y1, y2, y3]) rfl ⟨0, 0, 0, (-1), rfl, fun h => absurd h (by omega), q2 + 1, by omega, by omega, BK.out _ _ _ _ _ _ _ _ hr11, KP.out _ _ _ _ _ _ _ _ g11⟩

end Go.Proofs.Ytflmljgmmcdniaa

/- Contracts of the model's drawn versions, over this seat's translation: l20Open lays a new reader; odd answers with a word, l20Version with four whole numbers (a version, where none is asked to be spoilt); nothing but the reader has changed of what was there. Conditions as for pick. -/
import Derived.Test.YtdjnfmekbjmdhaaDraw
import Derived.Test.YtdjnfmekbjmdhaaVer
import Derived.Deep.DeepCutAuto
namespace Go.Proofs.Ytdjnfmekbjmdhaa
open Go.RowKit Go.Sort

theorem grown_trans {a b c : World} {row : Option Nat} (h : a.grownBy b row) (k : b.grownBy c row) : a.grownBy c row :=
  ⟨k.os.trans h.os, k.tape.trans h.tape, k.output.trans h.output, Nat.le_trans h.size k.size, fun i hi hne => (k.block i (Nat.lt_of_lt_of_le hi h.size) hne).trans (h.block i hi hne)⟩

theorem grown_below {a b c : World} {row : Option Nat} (h : a.grownBy b row) (k : Below a.heap.size b c) : a.grownBy c row :=
  ⟨k.os.trans h.os, k.tape.trans h.tape, k.output.trans h.output, Nat.le_trans h.size k.size, fun i hi hne => (k.block i hi).trans (h.block i hi hne)⟩

/-- A reader stays as it is where no block up to its own has changed. -/
theorem rdAt_kept {w w' : World} {R p : Nat} (h : RdAt w R p) (hb : ∀ k, k ≤ R → w'.heap[k]? = w.heap[k]?) : RdAt w' R p := by
  obtain ⟨a, len, cap, hl, hc, hr⟩ := h
  refine ⟨a, len, cap, hl, ?_, (hb R (Nat.le_refl _)).trans hr⟩
  rcases hc with hc | ⟨b, o, rfl, hbR, hc⟩
  · exact .inl hc
  · refine .inr ⟨b, o, rfl, hbR, fun i hi => ?_⟩
    obtain ⟨x, hx, hcell⟩ := hc i hi
    exact ⟨x, hx, (World.cell?_of_block (w := w) (hb b (by omega))).trans hcell⟩
theorem rdAt_below {w w' : World} {R p B : Nat} (h : RdAt w R p) (hb : Below B w w') (hR : R < B) : RdAt w' R p := rdAt_kept h fun k hk => hb.block k (by omega)
theorem rdAt_lt {w : World} {R p : Nat} (h : RdAt w R p) : R < w.heap.size := by
  obtain ⟨_, _, _, _, _, hr⟩ := h
  exact (Array.getElem?_eq_some_iff.1 hr).1

/-- What a call that reads on leaves: the reader, asked at most c times more; all else that was there. -/
def Drawn (w : World) (R p c : Nat) (w' : World) : Prop := ∃ q, p ≤ q ∧ q ≤ p + c ∧ RdAt w' R q ∧ w.grownBy w' (some R)

def OddPost (n : Int) (R p : Nat) (w : World) (e : Ending) (w' : World) : Prop := ∃ o : Bool, e = .returned (.bool o) ∧ (n ≤ 0 → o = false) ∧ Drawn w R p 1 w'

set_option maxHeartbeats 1000000 in
theorem odd_any (R p : Nat) (n : Int) (w : World) (h : RdAt w R p) (hp : p ≤ 1000000000) (hn0 : -1000000 ≤ n) (hn1 : n ≤ 1000000) :
    Calls Try.prog 117 #[.pointer (some ⟨R, 0, none⟩), .int .i64 n] w (OddPost n R p w) := by
  by_cases hn : 0 < n
  · go_enter Try.func117, Try.ntmps117
    go_wp2_with fail
    refine (pick_any R p n w h hp).mono ?_
    rintro e w1 ⟨k, rfl, k0, k1, _, hr, hg⟩
    go_wp2
    go_ret
    exact ⟨_, rfl, fun h => by omega, p + 1, by omega, by omega, hr, hg⟩
  · go_enter Try.func117, Try.ntmps117
    go_wp2
    go_ret
    exact ⟨_, rfl, fun _ => rfl, p, by omega, by omega, h, ⟨rfl, rfl, rfl, Nat.le_refl _, fun _ _ _ => rfl⟩⟩

/-- Block g holds a version's four numbers. -/
def VerBlk (w : World) (g : Nat) (a b c d : Int) : Prop := w.heap[g]? = some (.cells #[.int .i64 a, .int .i64 b, .int .i64 c, .int .i64 d] 29 (0, 0))

theorem VerBlk.cells {w : World} {g : Nat} {a b c d : Int} (h : VerBlk w g a b c d) :
    w.cell? ⟨g, 0, none⟩ = some (.int .i64 a) ∧ w.cell? ⟨g, 1, none⟩ = some (.int .i64 b) ∧ w.cell? ⟨g, 2, none⟩ = some (.int .i64 c) ∧ w.cell? ⟨g, 3, none⟩ = some (.int .i64 d) ∧ ∀ o, w.frozen? ⟨g, o, none⟩ = false := by
  refine ⟨?_, ?_, ?_, ?_, fun o => ?_⟩
  · rw [cell_of_row w g 0 _ _ (0, 0) h]; rfl
  · rw [cell_of_row w g 1 _ _ (0, 0) h]; rfl
  · rw [cell_of_row w g 2 _ _ (0, 0) h]; rfl
  · rw [cell_of_row w g 3 _ _ (0, 0) h]; rfl
  · simp [World.frozen?, show w.heap[g]? = _ from h]

theorem VerBlk.lt {w : World} {g : Nat} {a b c d : Int} (h : VerBlk w g a b c d) : g < w.heap.size := (Array.getElem?_eq_some_iff.1 h).1
theorem VerBlk.kept {w w' : World} {g R : Nat} {a b c d : Int} (h : VerBlk w g a b c d) (hg : w.grownBy w' (some R)) (hne : g ≠ R) : VerBlk w' g a b c d :=
  (hg.block g h.lt (fun e => hne (by injection e))).trans h

/-- What l20Version keeps from statement to statement: its own version, the place of its result, the reader. -/
def VSt (w : World) (R p c : Nat) (s5 : Value) (wx : World) : Prop :=
  ∃ g q a b c' d, s5 = .pointer (some ⟨g, 0, none⟩) ∧ w.heap.size < g ∧ q ≤ p + c ∧ p ≤ q ∧ RdAt wx R q ∧ VerBlk wx g a b c' d ∧ VerBlk wx w.heap.size 0 0 0 0 ∧ w.grownBy wx (some R) ∧ vOk a b c' d = true

def VerPost (n : Int) (R p : Nat) (w : World) (e : Ending) (w' : World) : Prop :=
  ∃ a b c d : Int, e = .returned (ver a b c d) ∧ (n ≤ 0 → vOk a b c d = true) ∧ Drawn w R p 10 w'

theorem VerBlk.new (w : World) (a b c d : Int) : VerBlk (w.alloc (.cells #[.int .i64 a, .int .i64 b, .int .i64 c, .int .i64 d] 29)) w.heap.size a b c d := heap_alloc_new w _
theorem VerBlk.alloc {w : World} {g : Nat} {a b c d : Int} (h : VerBlk w g a b c d) (o : Obj) : VerBlk (w.alloc o) g a b c d := (Below.heap_alloc w o g h.lt).trans h
theorem VerBlk.other {w : World} {g k : Nat} {a b c d : Int} {x : Nat} {v : Value} (h : VerBlk w g a b c d) (hne : g ≠ k) : VerBlk (w.setCell ⟨k, x, none⟩ v) g a b c d := (Below.heap_setCell w ⟨k, x, none⟩ v g hne).trans h
theorem VerBlk.set3 {w : World} {g : Nat} {a b c d e : Int} (h : VerBlk w g a b c d) : VerBlk (w.setCell ⟨g, 3, none⟩ (.int .i64 e)) g a b c e := by
  unfold VerBlk at *
  simp [World.setCell, Array.getElem?_modify, h]
theorem VerBlk.set4 {w : World} {g : Nat} {a b c d a' b' c' d' : Int} (h : VerBlk w g a b c d) :
    VerBlk ((((w.setCell ⟨g, 0, none⟩ (.int .i64 a')).setCell ⟨g, 1, none⟩ (.int .i64 b')).setCell ⟨g, 2, none⟩ (.int .i64 c')).setCell ⟨g, 3, none⟩ (.int .i64 d')) g a' b' c' d' := by
  unfold VerBlk at *
  simp [World.setCell, Array.getElem?_modify, h]

/-- One store into a block that is new since w. -/
theorem grown_set {w wx : World} {R g x : Nat} {v : Value} (h : w.grownBy wx (some R)) (hg : w.heap.size ≤ g) : w.grownBy (wx.setCell ⟨g, x, none⟩ v) (some R) :=
  ⟨h.os, h.tape, h.output, by simpa [World.setCell] using h.size, fun i hi hne => (Below.heap_setCell wx ⟨g, x, none⟩ v i (by simp; omega)).trans (h.block i hi hne)⟩
theorem grown_alloc {w wx : World} {R : Nat} (h : w.grownBy wx (some R)) (o : Obj) : w.grownBy (wx.alloc o) (some R) :=
  grown_below h ((Below.refl _ wx).alloc h.size o)
theorem rdAt_set {w : World} {R p g x : Nat} {v : Value} (h : RdAt w R p) (hg : R < g) : RdAt (w.setCell ⟨g, x, none⟩ v) R p :=
  rdAt_kept h fun k hk => Below.heap_setCell w ⟨g, x, none⟩ v k (by simp; omega)
theorem rdAt_alloc {w : World} {R p : Nat} (h : RdAt w R p) (o : Obj) : RdAt (w.alloc o) R p := rdAt_below h ((Below.refl _ w).alloc (Nat.le_refl _) o) (rdAt_lt h)
theorem grown_start (w : World) (o : Obj) (R : Nat) : w.grownBy (w.alloc o) (some R) := World.grownBy_alloc w o _

/-- Block g holds these cells of versions, one behind the other. -/
def TabAt (w : World) (g : Nat) (C : Array Value) : Prop := w.heap[g]? = some (.cells C 29 (0, 0))
theorem TabAt.new (w : World) (C : Array Value) : TabAt (w.alloc (.cells C 29)) w.heap.size C := heap_alloc_new w _
theorem TabAt.kept {w w' : World} {g R : Nat} {C : Array Value} (h : TabAt w g C) (hg : w.grownBy w' (some R)) (hne : g ≠ R) : TabAt w' g C :=
  (hg.block g (Array.getElem?_eq_some_iff.1 h).1 (fun e => hne (by injection e))).trans h
theorem TabAt.cell {w : World} {g : Nat} {C : Array Value} (h : TabAt w g C) (o : Nat) : w.cell? ⟨g, o, none⟩ = C[o]? := cell_of_row w g o C _ (0, 0) h

theorem vOk_small {a b c d : Int} (h : 0 ≤ a ∧ a ≤ 99 ∧ 0 ≤ b ∧ b ≤ 99 ∧ 0 ≤ c ∧ c ≤ 99 ∧ 0 ≤ d ∧ d ≤ 9) : vOk a b c d = true := vOk_iff.2 (by omega)

end Go.Proofs.Ytdjnfmekbjmdhaa

/- Groundwork over this seat's translation: Draw, Dver, Dopen, Ddraw in one text; the conditions stand at each part. -/
import Derived.Test.YtopplljilmjjgaaGa
import Derived.OneCell
import Derived.BigQuiet
import Derived.Laws.BitsAllLaws
import Derived.Laws.BitsLemmas
import Derived.Deep.DeepCutAuto

/- Contracts of the model's reader of codes, over this seat's translation: pick answers with a number from 0 to one less than what was asked for, moves the reader on by one, and changes nothing else that was there. Conditions: the reader's code is readable and has at most 2000 bytes, and it was not asked more than 1000000000 times. -/
namespace Go.Proofs.Ytopplljilmjjgaa
open Go.RowKit Go.Sort

/-- The code lies readable: nothing, or a row of bytes in a block below B. -/
def CodeAt (w : World) (B : Nat) (a : Option Addr) (len : Nat) : Prop :=
  len = 0 ∨ ∃ b o, a = some ⟨b, o, none⟩ ∧ b < B ∧ ∀ i, i < len → ∃ x : Nat, x ≤ 255 ∧ w.cell? ⟨b, o + i, none⟩ = some (.int .u8 (x : Int))

/-- Block R holds a reader that was asked p times. -/
def RdAt (w : World) (R p : Nat) : Prop :=
  ∃ a len cap, len ≤ 2000 ∧ CodeAt w R a len ∧ w.heap[R]? = some (.cells #[.slice a len cap, .int .i64 (p : Int)] 152 (0, 0))

def PickPost (n : Int) (R p : Nat) (w : World) (e : Ending) (w' : World) : Prop :=
  ∃ k : Int, e = .returned (.int .i64 k) ∧ 0 ≤ k ∧ (1 ≤ n → k < n) ∧ (n < 1 → k = 0) ∧ RdAt w' R (p + 1) ∧ w.grownBy w' (some R)

theorem block_cells {w : World} {R : Nat} {x y : Value} {t : TypeId} (h : w.heap[R]? = some (.cells #[x, y] t (0, 0))) :
    w.cell? ⟨R, 0, none⟩ = some x ∧ w.cell? ⟨R, 1, none⟩ = some y ∧ w.frozen? ⟨R, 1, none⟩ = false := by
  refine ⟨?_, ?_, ?_⟩
  · rw [cell_of_row w R 0 #[x, y] t (0, 0) h]; rfl
  · rw [cell_of_row w R 1 #[x, y] t (0, 0) h]; rfl
  · simp [World.frozen?, h]

theorem block_set {w : World} {R : Nat} {x y z : Value} {t : TypeId} (h : w.heap[R]? = some (.cells #[x, y] t (0, 0))) :
    (w.setCell ⟨R, 1, none⟩ z).heap[R]? = some (.cells #[x, z] t (0, 0)) := by
  simp [World.setCell, Array.getElem?_modify, h]

theorem codeAt_kept {w w' : World} {B : Nat} {a : Option Addr} {len : Nat} {row : Option Nat} (h : CodeAt w B a len) (hg : w.grownBy w' row) (hr : ∀ k, row = some k → B ≤ k) : CodeAt w' B a len := by
  rcases h with h | ⟨b, o, rfl, hb, hc⟩
  · exact .inl h
  · refine .inr ⟨b, o, rfl, hb, fun i hi => ?_⟩
    obtain ⟨x, hx, hcell⟩ := hc i hi
    exact ⟨x, hx, hg.cell hcell (fun e => by have := hr b e.symm; omega)⟩

theorem set_grown (w : World) (R : Nat) (v : Value) : w.grownBy (w.setCell ⟨R, 1, none⟩ v) (some R) :=
  ⟨rfl, rfl, rfl, by simp [World.setCell], fun k hk hne => Below.heap_setCell w ⟨R, 1, none⟩ v k (fun e => hne (by rw [e]))⟩

theorem rdAt_next {w : World} {R p : Nat} {a : Option Addr} {len cap : Nat} (hl : len ≤ 2000) (hc : CodeAt w R a len) (hb : w.heap[R]? = some (.cells #[.slice a len cap, .int .i64 (p : Int)] 152 (0, 0))) :
    RdAt (w.setCell ⟨R, 1, none⟩ (.int .i64 ((p : Int) + 1))) R (p + 1) ∧ w.grownBy (w.setCell ⟨R, 1, none⟩ (.int .i64 ((p : Int) + 1))) (some R) := by
  have hg := set_grown w R (.int .i64 ((p : Int) + 1))
  exact ⟨⟨a, len, cap, hl, codeAt_kept hc hg (fun k e => by injection e with e; omega), block_set hb⟩, hg⟩

theorem grown_drewN {a w : World} {row : Option Nat} (h : a.grownBy w row) (n : Nat) : a.grownBy (w.drewN n) row := ⟨h.os, h.tape, h.output, h.size, h.block⟩

set_option maxHeartbeats 1000000 in
theorem pick_none (R p : Nat) (n : Int) (w : World) (h : RdAt w R p) (hp : p ≤ 1000000000) (hn : n < 1) :
    Calls Try.prog 115 #[.pointer (some ⟨R, 0, none⟩), .int .i64 n] w (PickPost n R p w) := by
  obtain ⟨a, len, cap, hl, hc, hb⟩ := h
  obtain ⟨c0, c1, f1⟩ := block_cells hb
  have HN := Lib.hid (rdAt_next hl hc hb)
  clear hc hb
  go_enter Try.func115, Try.ntmps115
  go_wp2
  go_ret
  exact ⟨0, rfl, Int.le_refl _, fun h => by omega, fun _ => rfl, HN.out.1, HN.out.2⟩

set_option maxHeartbeats 1000000 in
theorem pick_empty (R p : Nat) (n : Int) (w : World) (a : Option Addr) (cap : Nat) (c0 : w.cell? ⟨R, 0, none⟩ = some (.slice a 0 cap)) (c1 : w.cell? ⟨R, 1, none⟩ = some (.int .i64 (p : Int))) (f1 : w.frozen? ⟨R, 1, none⟩ = false)
    (HN : Hid (RdAt (w.setCell ⟨R, 1, none⟩ (.int .i64 ((p : Int) + 1))) R (p + 1) ∧ w.grownBy (w.setCell ⟨R, 1, none⟩ (.int .i64 ((p : Int) + 1))) (some R))) (hp : p ≤ 1000000000) (hn : 1 ≤ n) :
    Calls Try.prog 115 #[.pointer (some ⟨R, 0, none⟩), .int .i64 n] w (PickPost n R p w) := by
  go_enter Try.func115, Try.ntmps115
  go_wp2
  go_ret
  exact ⟨0, rfl, Int.le_refl _, fun h => by omega, fun _ => rfl, HN.out.1, HN.out.2⟩

set_option maxHeartbeats 1000000 in
theorem pick_byte (R p : Nat) (n : Int) (w : World) (b o len cap x : Nat) (c0 : w.cell? ⟨R, 0, none⟩ = some (.slice (some ⟨b, o, none⟩) len cap)) (c1 : w.cell? ⟨R, 1, none⟩ = some (.int .i64 (p : Int))) (f1 : w.frozen? ⟨R, 1, none⟩ = false)
    (HN : Hid (RdAt (w.setCell ⟨R, 1, none⟩ (.int .i64 ((p : Int) + 1))) R (p + 1) ∧ w.grownBy (w.setCell ⟨R, 1, none⟩ (.int .i64 ((p : Int) + 1))) (some R))) (hp : p ≤ 1000000000) (hn : 1 ≤ n)
    (hlt : p < len) (hbR : b < R) (hx : x ≤ 255) (hcx : w.cell? ⟨b, o + p, none⟩ = some (.int .u8 (x : Int))) :
    Calls Try.prog 115 #[.pointer (some ⟨R, 0, none⟩), .int .i64 n] w (PickPost n R p w) := by
  have hz : ((len : Int) == 0) = false := by rw [beq_eq_false_iff_ne]; omega
  have hn0 : (n == 0) = false := by rw [beq_eq_false_iff_ne]; omega
  have hne : ¬ R = b := by omega
  go_enter Try.func115, Try.ntmps115
  go_wp2
  go_ret
  exact ⟨(x : Int) % n, rfl, Int.emod_nonneg _ (by omega), fun _ => Int.emod_lt_of_pos _ (by omega), fun h => by omega, HN.out.1, HN.out.2⟩

theorem mix_range (x y p len : Nat) (hx : x ≤ 255) (hy : y ≤ 255) (hp : p ≤ 1000000000) :
    0 ≤ wrap64 ((x : Int) * 131 + (y : Int) * 1117 + (p : Int) * 29 + wrap64 (wrap64 ((p : Int) / (len : Int)) * 53)) ∧ wrap64 ((x : Int) * 131 + (y : Int) * 1117 + (p : Int) * 29 + wrap64 (wrap64 ((p : Int) / (len : Int)) * 53)) ≤ 1000000000000 := by
  have h0 : (0 : Int) ≤ (p : Int) / (len : Int) := Int.ediv_nonneg (by omega) (by omega)
  have h1 : (p : Int) / (len : Int) ≤ (p : Int) := Int.ediv_le_self _ (by omega)
  generalize (p : Int) / (len : Int) = q at *
  have e1 : wrap64 q = q := by unfold wrap64; omega
  have e2 : wrap64 (q * 53) = q * 53 := by unfold wrap64; omega
  rw [e1, e2]
  clear e1 e2
  have hS : 0 ≤ (x : Int) * 131 + (y : Int) * 1117 + (p : Int) * 29 + q * 53 ∧ (x : Int) * 131 + (y : Int) * 1117 + (p : Int) * 29 + q * 53 ≤ 1000000000000 := by omega
  generalize (x : Int) * 131 + (y : Int) * 1117 + (p : Int) * 29 + q * 53 = S at *
  unfold wrap64
  omega

theorem xor_range (z : Int) (h0 : 0 ≤ z) (h1 : z ≤ 1000000000000) : 0 ≤ bits .xor .i64 z (z / 64) := by
  obtain ⟨a, rfl⟩ := Int.eq_ofNat_of_zero_le h0
  have hb : ((a : Int) / 64) = ((a / 64 : Nat) : Int) := by omega
  rw [hb]
  have hx : a ^^^ (a / 64) < 2 ^ 63 := Nat.xor_lt_two_pow (by omega) (by omega)
  show 0 ≤ IntKind.i64.wrap ((BitVec.ofInt 64 (a : Int) ^^^ BitVec.ofInt 64 ((a / 64 : Nat) : Int)).toNat : Int)
  rw [BitVec.toNat_xor, BitVec.ofInt_natCast, BitVec.ofInt_natCast, BitVec.toNat_ofNat, BitVec.toNat_ofNat, Nat.mod_eq_of_lt (by omega), Nat.mod_eq_of_lt (by omega), IntKind.wrap_i64]
  omega

set_option maxHeartbeats 2000000 in
set_option maxRecDepth 100000 in
theorem pick_mix (R p : Nat) (n : Int) (w : World) (b o len cap x y : Nat) (c0 : w.cell? ⟨R, 0, none⟩ = some (.slice (some ⟨b, o, none⟩) len cap)) (c1 : w.cell? ⟨R, 1, none⟩ = some (.int .i64 (p : Int))) (f1 : w.frozen? ⟨R, 1, none⟩ = false)
    (HN : Hid (RdAt (w.setCell ⟨R, 1, none⟩ (.int .i64 ((p : Int) + 1))) R (p + 1) ∧ w.grownBy (w.setCell ⟨R, 1, none⟩ (.int .i64 ((p : Int) + 1))) (some R))) (hp : p ≤ 1000000000) (hn : 1 ≤ n)
    (hl : 1 ≤ len) (hge : len ≤ p) (hl2 : len ≤ 2000) (hbR : b < R) (hx : x ≤ 255) (hy : y ≤ 255) (hcx : w.cell? ⟨b, o + p % len, none⟩ = some (.int .u8 (x : Int))) (hcy : w.cell? ⟨b, o + (p * 7 + 3) % len, none⟩ = some (.int .u8 (y : Int))) :
    Calls Try.prog 115 #[.pointer (some ⟨R, 0, none⟩), .int .i64 n] w (PickPost n R p w) := by
  have hz : ((len : Int) == 0) = false := by rw [beq_eq_false_iff_ne]; omega
  have hn0 : (n == 0) = false := by rw [beq_eq_false_iff_ne]; omega
  have hne : ¬ R = b := by omega
  have m1 : p % len < len := Nat.mod_lt _ (by omega)
  have m2 : (p * 7 + 3) % len < len := Nat.mod_lt _ (by omega)
  have i1 : (0 : Int) ≤ (p : Int) % (len : Int) := Int.emod_nonneg _ (by omega)
  have i2 : (p : Int) % (len : Int) < (len : Int) := Int.emod_lt_of_pos _ (by omega)
  have i3 : (0 : Int) ≤ ((p : Int) * 7 + 3) % (len : Int) := Int.emod_nonneg _ (by omega)
  have i4 : ((p : Int) * 7 + 3) % (len : Int) < (len : Int) := Int.emod_lt_of_pos _ (by omega)
  go_enter Try.func115, Try.ntmps115
  go_wp2_with fail
  go_quiet (fail)
  have hr := mix_range x y p len hx hy hp
  generalize wrap64 ((x : Int) * 131 + (y : Int) * 1117 + (p : Int) * 29 + wrap64 (wrap64 ((p : Int) / (len : Int)) * 53)) = z at *
  obtain ⟨z0, z1⟩ := hr
  have hu0 := xor_range z z0 z1
  obtain ⟨u, hu⟩ : ∃ u, bits .xor .i64 z (z / 64) = u := ⟨_, rfl⟩
  rw [hu] at hu0
  go_wp2
  go_ret
  exact ⟨u % n, rfl, Int.emod_nonneg _ (by omega), fun _ => Int.emod_lt_of_pos _ (by omega), fun h => by omega, HN.out.1, grown_drewN HN.out.2 nq⟩

/-- A reader that was asked p times answers with a number from 0 to n - 1 (0 if n is below 1), and was asked once more then. -/
theorem pick_any (R p : Nat) (n : Int) (w : World) (h : RdAt w R p) (hp : p ≤ 1000000000) :
    Calls Try.prog 115 #[.pointer (some ⟨R, 0, none⟩), .int .i64 n] w (PickPost n R p w) := by
  by_cases hn : n < 1
  · exact pick_none R p n w h hp hn
  obtain ⟨a, len, cap, hl, hc, hb⟩ := h
  obtain ⟨c0, c1, f1⟩ := block_cells hb
  have HN := Lib.hid (rdAt_next hl hc hb)
  by_cases hlen : len = 0
  · subst hlen
    exact pick_empty R p n w a cap c0 c1 f1 HN hp (by omega)
  rcases hc with hc | ⟨b, o, rfl, hbR, hc⟩
  · exact absurd hc hlen
  by_cases hlt : p < len
  · obtain ⟨x, hx, hcx⟩ := hc p hlt
    exact pick_byte R p n w b o len cap x c0 c1 f1 HN hp (by omega) hlt hbR hx hcx
  · obtain ⟨x, hx, hcx⟩ := hc (p % len) (Nat.mod_lt _ (by omega))
    obtain ⟨y, hy, hcy⟩ := hc ((p * 7 + 3) % len) (Nat.mod_lt _ (by omega))
    exact pick_mix R p n w b o len cap x y c0 c1 f1 HN hp (by omega) (by omega) (by omega) hl hbR hx hy hcx hcy

end Go.Proofs.Ytopplljilmjjgaa

/- Contracts of the model's drawn versions, over this seat's translation: l20Open lays a new reader; odd answers with a word, l20Version with four whole numbers (a version, where none is asked to be spoilt); nothing but the reader has changed of what was there. Conditions as for pick. -/
namespace Go.Proofs.Ytopplljilmjjgaa
open Go.RowKit Go.Sort

theorem grown_trans {a b c : World} {row : Option Nat} (h : a.grownBy b row) (k : b.grownBy c row) : a.grownBy c row :=
  ⟨k.os.trans h.os, k.tape.trans h.tape, k.output.trans h.output, Nat.le_trans h.size k.size, fun i hi hne => (k.block i (Nat.lt_of_lt_of_le hi h.size) hne).trans (h.block i hi hne)⟩

theorem grown_below {a b c : World} {row : Option Nat} (h : a.grownBy b row) (k : Below a.heap.size b c) : a.grownBy c row :=
  ⟨k.os.trans h.os, k.tape.trans h.tape, k.output.trans h.output, Nat.le_trans h.size k.size, fun i hi hne => (k.block i hi).trans (h.block i hi hne)⟩

/-- A reader stays as it is where no block up to its own has changed. -/
theorem rdAt_kept {w w' : World} {R p : Nat} (h : RdAt w R p) (hb : ∀ k, k ≤ R → w'.heap[k]? = w.heap[k]?) : RdAt w' R p := by
  obtain ⟨a, len, cap, hl, hc, hr⟩ := h
  refine ⟨a, len, cap, hl, ?_, (hb R (Nat.le_refl _)).trans hr⟩
  rcases hc with hc | ⟨b, o, rfl, hbR, hc⟩
  · exact .inl hc
  · refine .inr ⟨b, o, rfl, hbR, fun i hi => ?_⟩
    obtain ⟨x, hx, hcell⟩ := hc i hi
    exact ⟨x, hx, (World.cell?_of_block (w := w) (hb b (by omega))).trans hcell⟩
theorem rdAt_below {w w' : World} {R p B : Nat} (h : RdAt w R p) (hb : Below B w w') (hR : R < B) : RdAt w' R p := rdAt_kept h fun k hk => hb.block k (by omega)
theorem rdAt_lt {w : World} {R p : Nat} (h : RdAt w R p) : R < w.heap.size := by
  obtain ⟨_, _, _, _, _, hr⟩ := h
  exact (Array.getElem?_eq_some_iff.1 hr).1

/-- What a call that reads on leaves: the reader, asked at most c times more; all else that was there. -/
def Drawn (w : World) (R p c : Nat) (w' : World) : Prop := ∃ q, p ≤ q ∧ q ≤ p + c ∧ RdAt w' R q ∧ w.grownBy w' (some R)

def OddPost (n : Int) (R p : Nat) (w : World) (e : Ending) (w' : World) : Prop := ∃ o : Bool, e = .returned (.bool o) ∧ (n ≤ 0 → o = false) ∧ Drawn w R p 1 w'

set_option maxHeartbeats 1000000 in
theorem odd_any (R p : Nat) (n : Int) (w : World) (h : RdAt w R p) (hp : p ≤ 1000000000) (hn0 : -1000000 ≤ n) (hn1 : n ≤ 1000000) :
    Calls Try.prog 136 #[.pointer (some ⟨R, 0, none⟩), .int .i64 n] w (OddPost n R p w) := by
  by_cases hn : 0 < n
  · go_enter Try.func136, Try.ntmps136
    go_wp2_with fail
    refine (pick_any R p n w h hp).mono ?_
    rintro e w1 ⟨k, rfl, k0, k1, _, hr, hg⟩
    go_wp2
    go_ret
    exact ⟨_, rfl, fun h => by omega, p + 1, by omega, by omega, hr, hg⟩
  · go_enter Try.func136, Try.ntmps136
    go_wp2
    go_ret
    exact ⟨_, rfl, fun _ => rfl, p, by omega, by omega, h, ⟨rfl, rfl, rfl, Nat.le_refl _, fun _ _ _ => rfl⟩⟩

/-- Block g holds a version's four numbers. -/
def VerBlk (w : World) (g : Nat) (a b c d : Int) : Prop := w.heap[g]? = some (.cells #[.int .i64 a, .int .i64 b, .int .i64 c, .int .i64 d] 128 (0, 0))

theorem VerBlk.cells {w : World} {g : Nat} {a b c d : Int} (h : VerBlk w g a b c d) :
    w.cell? ⟨g, 0, none⟩ = some (.int .i64 a) ∧ w.cell? ⟨g, 1, none⟩ = some (.int .i64 b) ∧ w.cell? ⟨g, 2, none⟩ = some (.int .i64 c) ∧ w.cell? ⟨g, 3, none⟩ = some (.int .i64 d) ∧ ∀ o, w.frozen? ⟨g, o, none⟩ = false := by
  refine ⟨?_, ?_, ?_, ?_, fun o => ?_⟩
  · rw [cell_of_row w g 0 _ _ (0, 0) h]; rfl
  · rw [cell_of_row w g 1 _ _ (0, 0) h]; rfl
  · rw [cell_of_row w g 2 _ _ (0, 0) h]; rfl
  · rw [cell_of_row w g 3 _ _ (0, 0) h]; rfl
  · simp [World.frozen?, show w.heap[g]? = _ from h]

theorem VerBlk.lt {w : World} {g : Nat} {a b c d : Int} (h : VerBlk w g a b c d) : g < w.heap.size := (Array.getElem?_eq_some_iff.1 h).1
theorem VerBlk.kept {w w' : World} {g R : Nat} {a b c d : Int} (h : VerBlk w g a b c d) (hg : w.grownBy w' (some R)) (hne : g ≠ R) : VerBlk w' g a b c d :=
  (hg.block g h.lt (fun e => hne (by injection e))).trans h

/-- What l20Version keeps from statement to statement: its own version, the place of its result, the reader. -/
def VSt (w : World) (R p c : Nat) (s5 : Value) (wx : World) : Prop :=
  ∃ g q a b c' d, s5 = .pointer (some ⟨g, 0, none⟩) ∧ w.heap.size < g ∧ q ≤ p + c ∧ p ≤ q ∧ RdAt wx R q ∧ VerBlk wx g a b c' d ∧ VerBlk wx w.heap.size 0 0 0 0 ∧ w.grownBy wx (some R) ∧ vOk a b c' d = true

def VerPost (n : Int) (R p : Nat) (w : World) (e : Ending) (w' : World) : Prop :=
  ∃ a b c d : Int, e = .returned (ver a b c d) ∧ (n ≤ 0 → vOk a b c d = true) ∧ Drawn w R p 10 w'

theorem VerBlk.new (w : World) (a b c d : Int) : VerBlk (w.alloc (.cells #[.int .i64 a, .int .i64 b, .int .i64 c, .int .i64 d] 128)) w.heap.size a b c d := heap_alloc_new w _
theorem VerBlk.alloc {w : World} {g : Nat} {a b c d : Int} (h : VerBlk w g a b c d) (o : Obj) : VerBlk (w.alloc o) g a b c d := (Below.heap_alloc w o g h.lt).trans h
theorem VerBlk.other {w : World} {g k : Nat} {a b c d : Int} {x : Nat} {v : Value} (h : VerBlk w g a b c d) (hne : g ≠ k) : VerBlk (w.setCell ⟨k, x, none⟩ v) g a b c d := (Below.heap_setCell w ⟨k, x, none⟩ v g hne).trans h
theorem VerBlk.set3 {w : World} {g : Nat} {a b c d e : Int} (h : VerBlk w g a b c d) : VerBlk (w.setCell ⟨g, 3, none⟩ (.int .i64 e)) g a b c e := by
  unfold VerBlk at *
  simp [World.setCell, Array.getElem?_modify, h]
theorem VerBlk.set4 {w : World} {g : Nat} {a b c d a' b' c' d' : Int} (h : VerBlk w g a b c d) :
    VerBlk ((((w.setCell ⟨g, 0, none⟩ (.int .i64 a')).setCell ⟨g, 1, none⟩ (.int .i64 b')).setCell ⟨g, 2, none⟩ (.int .i64 c')).setCell ⟨g, 3, none⟩ (.int .i64 d')) g a' b' c' d' := by
  unfold VerBlk at *
  simp [World.setCell, Array.getElem?_modify, h]

/-- One store into a block that is new since w. -/
theorem grown_set {w wx : World} {R g x : Nat} {v : Value} (h : w.grownBy wx (some R)) (hg : w.heap.size ≤ g) : w.grownBy (wx.setCell ⟨g, x, none⟩ v) (some R) :=
  ⟨h.os, h.tape, h.output, by simpa [World.setCell] using h.size, fun i hi hne => (Below.heap_setCell wx ⟨g, x, none⟩ v i (by simp; omega)).trans (h.block i hi hne)⟩
theorem grown_alloc {w wx : World} {R : Nat} (h : w.grownBy wx (some R)) (o : Obj) : w.grownBy (wx.alloc o) (some R) :=
  grown_below h ((Below.refl _ wx).alloc h.size o)
theorem rdAt_set {w : World} {R p g x : Nat} {v : Value} (h : RdAt w R p) (hg : R < g) : RdAt (w.setCell ⟨g, x, none⟩ v) R p :=
  rdAt_kept h fun k hk => Below.heap_setCell w ⟨g, x, none⟩ v k (by simp; omega)
theorem rdAt_alloc {w : World} {R p : Nat} (h : RdAt w R p) (o : Obj) : RdAt (w.alloc o) R p := rdAt_below h ((Below.refl _ w).alloc (Nat.le_refl _) o) (rdAt_lt h)
theorem grown_start (w : World) (o : Obj) (R : Nat) : w.grownBy (w.alloc o) (some R) := World.grownBy_alloc w o _

/-- Block g holds these cells of versions, one behind the other. -/
def TabAt (w : World) (g : Nat) (C : Array Value) : Prop := w.heap[g]? = some (.cells C 128 (0, 0))
theorem TabAt.new (w : World) (C : Array Value) : TabAt (w.alloc (.cells C 128)) w.heap.size C := heap_alloc_new w _
theorem TabAt.kept {w w' : World} {g R : Nat} {C : Array Value} (h : TabAt w g C) (hg : w.grownBy w' (some R)) (hne : g ≠ R) : TabAt w' g C :=
  (hg.block g (Array.getElem?_eq_some_iff.1 h).1 (fun e => hne (by injection e))).trans h
theorem TabAt.cell {w : World} {g : Nat} {C : Array Value} (h : TabAt w g C) (o : Nat) : w.cell? ⟨g, o, none⟩ = C[o]? := cell_of_row w g o C _ (0, 0) h

theorem vOk_small {a b c d : Int} (h : 0 ≤ a ∧ a ≤ 99 ∧ 0 ≤ b ∧ b ≤ 99 ∧ 0 ≤ c ∧ c ≤ 99 ∧ 0 ≤ d ∧ d ≤ 9) : vOk a b c d = true := vOk_iff.2 (by omega)

end Go.Proofs.Ytopplljilmjjgaa

/- The contract of the model's l20Open over this seat's translation: it lays a new reader over the code's first 2000 bytes; nothing that was there has changed. Condition: the code is readable. -/
namespace Go.Proofs.Ytopplljilmjjgaa
open Go.RowKit Go.Sort

def OpenPost (w : World) (e : Ending) (w' : World) : Prop :=
  e = .returned (.pointer (some ⟨w.heap.size, 0, none⟩)) ∧ RdAt w' w.heap.size 0 ∧ Below w.heap.size w w'

/-- A code that came in: nothing, or a row of bytes. -/
def CodeIn (w : World) (a : Option Addr) (len cap : Nat) : Prop := CodeAt w w.heap.size a len ∧ len ≤ cap ∧ cap ≤ maxLen

theorem rdAt_new {w : World} {a : Option Addr} {len cap : Nat} (hl : len ≤ 2000) (hc : CodeAt w w.heap.size a len) :
    RdAt (w.alloc (.cells #[.slice a len cap, .int .i64 0] 152)) w.heap.size 0 :=
  ⟨a, len, cap, hl, codeAt_kept hc (World.grownBy_alloc w _ none) (fun k h => by cases h), heap_alloc_new w _⟩

theorem codeAt_less {w : World} {B : Nat} {a : Option Addr} {len len' : Nat} (h : CodeAt w B a len) (hl : len' ≤ len) : CodeAt w B a len' := by
  rcases h with h | ⟨b, o, rfl, hb, hc⟩
  · exact .inl (by omega)
  · exact .inr ⟨b, o, rfl, hb, fun i hi => hc i (by omega)⟩

set_option maxHeartbeats 1000000 in
theorem open_any (a : Option Addr) (len cap : Nat) (w : World) (h : CodeIn w a len cap) : Calls Try.prog 113 #[.slice a len cap] w (OpenPost w) := by
  obtain ⟨hc, hlc, hcm⟩ := h
  unfold maxLen at hcm
  by_cases hl : len ≤ 2000
  · have HN := Lib.hid (rdAt_new (cap := cap) hl hc)
    clear hc
    go_enter Try.func113, Try.ntmps113
    go_wp2
    go_ret
    exact ⟨rfl, HN.out, (Below.refl _ _).alloc (Nat.le_refl _) _⟩
  · rcases hc with hc | hc
    · omega
    have hc' : CodeAt w w.heap.size a len := .inr hc
    obtain ⟨b, o, rfl, hb, _⟩ := hc
    have HN := Lib.hid (rdAt_new (cap := cap) (Nat.le_refl 2000) (codeAt_less hc' (by omega : 2000 ≤ len)))
    clear hc'
    go_enter Try.func113, Try.ntmps113
    go_wp2
    go_ret
    exact ⟨rfl, HN.out, (Below.refl _ _).alloc (Nat.le_refl _) _⟩

end Go.Proofs.Ytopplljilmjjgaa

/- Contracts of the draws of versions and ranks, over this seat's translation: each answers with some values of its kinds and changes nothing that was there. Condition: the code is readable. -/
namespace Go.Proofs.Ytopplljilmjjgaa
open Go.ChangeShapes Go.WideShapes Go.ChangeAt Go.RowKit Go.Sort

theorem byte_bounds {x : Int} (h : (Lit.int .u8 x).wf = true) : 0 ≤ x ∧ x ≤ 255 := by
  simp [Lit.wf, IntKind.min, IntKind.max, IntKind.signed, IntKind.bits] at h
  omega

set_option maxRecDepth 100000 in
/-- A code that comes in as an argument. -/
theorem open_code {H : Type} {enc : TypeId × Value → H} {w : World} {base : Nat} {v : Value} {d : DataW H} {p : List MemPlace}
    (hv : Value.okWide Try.prog w .any base 66 v) (h : DataW.Trod enc Try.prog w 0 (fun _ => true) true 66 v d p) : ∃ a len cap, v = .slice a len cap ∧ CodeIn w a len cap := by
  obtain ⟨a0, len, cap, rfl⟩ := okWide_slice Try.underlying66 hv
  have hlt : ∀ x ∈ p, x.block < w.heap.size := by obtain ⟨m, hm⟩ := h; exact DataW.trod_lt m _ _ _ hm
  obtain ⟨fuel, hf⟩ := h
  refine ⟨a0, len, cap, rfl, ?_⟩
  rcases open_ints Try.underlying66 Try.underlying5 (by kernel_rfl) hf with ⟨hcs, _⟩ | ⟨x, l, c, zs, hcs, _, hl, hm, hz, _, hcell, hwz⟩
  · simp [Value.cells] at hcs
    obtain ⟨rfl, rfl, rfl⟩ := hcs
    exact ⟨.inl rfl, Nat.le_refl _, Nat.zero_le _⟩
  · simp [Value.cells] at hcs
    obtain ⟨rfl, rfl, rfl⟩ := hcs
    have hz' : zs.length = cap := by simpa using hz
    refine ⟨?_, hl, hm⟩
    by_cases h0 : len = 0
    · exact .inl h0
    · obtain ⟨b, off, spot⟩ := x
      have hc0 := hcell 0 (by omega)
      have hspot : spot = none := by simpa [Addr.add] using World.cell?_spot hc0
      subst hspot
      refine .inr ⟨b, off, rfl, ?_, fun i hi => ?_⟩
      · have := World.block_lt_of_cell? w _ hc0
        simpa [Addr.add] using this
      · have hci := hcell i (by omega)
        have hwf := byte_bounds (hwz (zs.getD i 0) (by rw [List.getD_eq_getElem?_getD, List.getElem?_eq_getElem (by omega)]; simp))
        obtain ⟨n, hn⟩ := Int.eq_ofNat_of_zero_le hwf.1
        refine ⟨n, by omega, ?_⟩
        have e : (⟨b, off, none⟩ : Addr).add i = ⟨b, off + i, none⟩ := by unfold Addr.add; split <;> simp_all
        rw [e] at hci
        rw [← hn]
        exact hci

theorem codeIn_below {w w' : World} {a : Option Addr} {len cap : Nat} (h : CodeIn w a len cap) (hb : Below w.heap.size w w') : CodeIn w' a len cap := by
  obtain ⟨hc, h1, h2⟩ := h
  refine ⟨?_, h1, h2⟩
  rcases hc with hc | ⟨b, o, rfl, hbR, hc⟩
  · exact .inl hc
  · refine .inr ⟨b, o, rfl, by have := hb.size; omega, fun i hi => ?_⟩
    obtain ⟨x, hx, hcell⟩ := hc i hi
    exact ⟨x, hx, (hb.cell (p := ⟨b, o + i, none⟩) hbR).trans hcell⟩

theorem drawn_below {w : World} {R p c : Nat} {w0 w' : World} (h : Drawn w R p c w') (hb : Below w0.heap.size w0 w) (hR : w0.heap.size ≤ R) : Below w0.heap.size w0 w' := by
  obtain ⟨q, _, _, _, hg⟩ := h
  exact hb.grown hg hb.size (fun k hk => by injection hk with hk; omega)

def AnyVer (w : World) (e : Ending) (w' : World) : Prop := ∃ a b c d : Int, e = .returned (ver a b c d) ∧ Below w.heap.size w w'

/-- A new block of whole numbers, read behind whatever leaves it. -/
theorem intRow_cell {w : World} {g : Nat} {C : Array Value} {t : TypeId} (h : w.heap[g]? = some (.cells C t (0, 0))) (o : Nat) : w.cell? ⟨g, o, none⟩ = C[o]? := cell_of_row w g o C _ (0, 0) h

def AnyInt (w : World) (e : Ending) (w' : World) : Prop := ∃ r : Int, e = .returned (.int .i64 r) ∧ -1 ≤ r ∧ r ≤ 10000000 ∧ Below w.heap.size w w'

set_option maxRecDepth 100000 in
/-- A law of one code: its walk at every readable code serves its row. -/
theorem law_code {F : FuncId} {fn : Func} (hp : fn.params = #[66])
    (walk : ∀ (a : Option Addr) (len cap : Nat) (w : World), CodeIn w a len cap → Calls Try.prog F #[.slice a len cap] w fun e w' => e = .returned (.bool true) ∧ Below w.heap.size w w') : LawWalk Try.prog F fn := by
  intro H enc W base args ds ps hval hA
  rw [hp] at hA hval
  obtain ⟨v0, vs, d0, es, p0, q0, hargs, rfl, rfl, h0, r0⟩ := trodAll_cons hA
  obtain ⟨rfl, rfl, rfl⟩ := trodAll_nil r0
  obtain rfl : args = #[v0] := by cases args; simp_all
  obtain ⟨a, len, cap, rfl, hc⟩ := open_code (hval 0 _ v0 rfl rfl) h0
  exact walk a len cap W hc

set_option maxHeartbeats 1000000 in
theorem alive_any (w : World) : Calls Try.prog 53 #[] w fun e w' => e = .returned (.bool true) ∧ Below w.heap.size w w' := by
  have A : ∀ V, Calls Try.prog 109 #[ver 1 0 0 0] V fun e w' => e = .returned (.bool true) ∧ Below V.heap.size V w' := fun V => implOk_any 1 0 0 0 V
  have B : ∀ V, Calls Try.prog 109 #[ver (-1) 0 0 0] V fun e w' => e = .returned (.bool false) ∧ Below V.heap.size V w' := fun V => implOk_any (-1) 0 0 0 V
  have KA := Lib.hid A
  have KB := Lib.hid B
  clear A B
  go_enter Try.func53, Try.ntmps53
  go_wp2_with fail
  refine (KA.out _).mono ?_
  rintro e w1 ⟨rfl, h1⟩
  go_wp2_with fail
  refine (KB.out _).mono ?_
  rintro e w2 ⟨rfl, h2⟩
  go_wp2_with fail
  go_ret
  exact ⟨rfl, h1.trans (h2.mono h1.size)⟩

end Go.Proofs.Ytopplljilmjjgaa

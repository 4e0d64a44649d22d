/- Contracts of the model's reader of codes, over this seat's translation: pick answers with a number from 0 to one less than what was asked for, moves the reader on by one, and changes nothing else that was there. Conditions: the reader's code is readable and has at most 2000 bytes, and it was not asked more than 1000000000 times. -/
import Derived.Test.YtdjnfmekbjmdhaaOpenVer
import Derived.OneCell
import Derived.BigQuiet
import Derived.Laws.BitsAllLaws
import Derived.Laws.BitsLemmas
namespace Go.Proofs.Ytdjnfmekbjmdhaa
open Go.RowKit Go.Sort

/-- The code lies readable: nothing, or a row of bytes in a block below B. -/
def CodeAt (w : World) (B : Nat) (a : Option Addr) (len : Nat) : Prop :=
  len = 0 ∨ ∃ b o, a = some ⟨b, o, none⟩ ∧ b < B ∧ ∀ i, i < len → ∃ x : Nat, x ≤ 255 ∧ w.cell? ⟨b, o + i, none⟩ = some (.int .u8 (x : Int))

/-- Block R holds a reader that was asked p times. -/
def RdAt (w : World) (R p : Nat) : Prop :=
  ∃ a len cap, len ≤ 2000 ∧ CodeAt w R a len ∧ w.heap[R]? = some (.cells #[.slice a len cap, .int .i64 (p : Int)] 135 (0, 0))

def PickPost (n : Int) (R p : Nat) (w : World) (e : Ending) (w' : World) : Prop :=
  ∃ k : Int, e = .returned (.int .i64 k) ∧ 0 ≤ k ∧ (1 ≤ n → k < n) ∧ (n < 1 → k = 0) ∧ RdAt w' R (p + 1) ∧ w.grownBy w' (some R)

theorem block_cells {w : World} {R : Nat} {x y : Value} {t : TypeId} (h : w.heap[R]? = some (.cells #[x, y] t (0, 0))) :
    w.cell? ⟨R, 0, none⟩ = some x ∧ w.cell? ⟨R, 1, none⟩ = some y ∧ w.frozen? ⟨R, 1, none⟩ = false := by
  refine ⟨?_, ?_, ?_⟩
  · rw [cell_of_row w R 0 #[x, y] t (0, 0) h]; rfl
  · rw [cell_of_row w R 1 #[x, y] t (0, 0) h]; rfl
  · simp [World.frozen?, h]

theorem block_set {w : World} {R : Nat} {x y z : Value} {t : TypeId} (h : w.heap[R]? = some (.cells #[x, y] t (0, 0))) :
    (w.setCell ⟨R, 1, none⟩ z).heap[R]? = some (.cells #[x, z] t (0, 0)) := by
  simp [World.setCell, Array.getElem?_modify, h]

theorem codeAt_kept {w w' : World} {B : Nat} {a : Option Addr} {len : Nat} {row : Option Nat} (h : CodeAt w B a len) (hg : w.grownBy w' row) (hr : ∀ k, row = some k → B ≤ k) : CodeAt w' B a len := by
  rcases h with h | ⟨b, o, rfl, hb, hc⟩
  · exact .inl h
  · refine .inr ⟨b, o, rfl, hb, fun i hi => ?_⟩
    obtain ⟨x, hx, hcell⟩ := hc i hi
    exact ⟨x, hx, hg.cell hcell (fun e => by have := hr b e.symm; omega)⟩

theorem set_grown (w : World) (R : Nat) (v : Value) : w.grownBy (w.setCell ⟨R, 1, none⟩ v) (some R) :=
  ⟨rfl, rfl, rfl, by simp [World.setCell], fun k hk hne => Below.heap_setCell w ⟨R, 1, none⟩ v k (fun e => hne (by rw [e]))⟩

theorem rdAt_next {w : World} {R p : Nat} {a : Option Addr} {len cap : Nat} (hl : len ≤ 2000) (hc : CodeAt w R a len) (hb : w.heap[R]? = some (.cells #[.slice a len cap, .int .i64 (p : Int)] 135 (0, 0))) :
    RdAt (w.setCell ⟨R, 1, none⟩ (.int .i64 ((p : Int) + 1))) R (p + 1) ∧ w.grownBy (w.setCell ⟨R, 1, none⟩ (.int .i64 ((p : Int) + 1))) (some R) := by
  have hg := set_grown w R (.int .i64 ((p : Int) + 1))
  exact ⟨⟨a, len, cap, hl, codeAt_kept hc hg (fun k e => by injection e with e; omega), block_set hb⟩, hg⟩

theorem grown_drewN {a w : World} {row : Option Nat} (h : a.grownBy w row) (n : Nat) : a.grownBy (w.drewN n) row := ⟨h.os, h.tape, h.output, h.size, h.block⟩

set_option maxHeartbeats 1000000 in
theorem pick_none (R p : Nat) (n : Int) (w : World) (h : RdAt w R p) (hp : p ≤ 1000000000) (hn : n < 1) :
    Calls Try.prog 115 #[.pointer (some ⟨R, 0, none⟩), .int .i64 n] w (PickPost n R p w) := by
  obtain ⟨a, len, cap, hl, hc, hb⟩ := h
  obtain ⟨c0, c1, f1⟩ := block_cells hb
  have HN := Lib.hid (rdAt_next hl hc hb)
  clear hc hb
  go_enter Try.func115, Try.ntmps115
  go_wp2
  go_ret
  exact ⟨0, rfl, Int.le_refl _, fun h => by omega, fun _ => rfl, HN.out.1, HN.out.2⟩

set_option maxHeartbeats 1000000 in
theorem pick_empty (R p : Nat) (n : Int) (w : World) (a : Option Addr) (cap : Nat) (c0 : w.cell? ⟨R, 0, none⟩ = some (.slice a 0 cap)) (c1 : w.cell? ⟨R, 1, none⟩ = some (.int .i64 (p : Int))) (f1 : w.frozen? ⟨R, 1, none⟩ = false)
    (HN : Hid (RdAt (w.setCell ⟨R, 1, none⟩ (.int .i64 ((p : Int) + 1))) R (p + 1) ∧ w.grownBy (w.setCell ⟨R, 1, none⟩ (.int .i64 ((p : Int) + 1))) (some R))) (hp : p ≤ 1000000000) (hn : 1 ≤ n) :
    Calls Try.prog 115 #[.pointer (some ⟨R, 0, none⟩), .int .i64 n] w (PickPost n R p w) := by
  go_enter Try.func115, Try.ntmps115
  go_wp2
  go_ret
  exact ⟨0, rfl, Int.le_refl _, fun h => by omega, fun _ => rfl, HN.out.1, HN.out.2⟩

set_option maxHeartbeats 1000000 in
theorem pick_byte (R p : Nat) (n : Int) (w : World) (b o len cap x : Nat) (c0 : w.cell? ⟨R, 0, none⟩ = some (.slice (some ⟨b, o, none⟩) len cap)) (c1 : w.cell? ⟨R, 1, none⟩ = some (.int .i64 (p : Int))) (f1 : w.frozen? ⟨R, 1, none⟩ = false)
    (HN : Hid (RdAt (w.setCell ⟨R, 1, none⟩ (.int .i64 ((p : Int) + 1))) R (p + 1) ∧ w.grownBy (w.setCell ⟨R, 1, none⟩ (.int .i64 ((p : Int) + 1))) (some R))) (hp : p ≤ 1000000000) (hn : 1 ≤ n)
    (hlt : p < len) (hbR : b < R) (hx : x ≤ 255) (hcx : w.cell? ⟨b, o + p, none⟩ = some (.int .u8 (x : Int))) :
    Calls Try.prog 115 #[.pointer (some ⟨R, 0, none⟩), .int .i64 n] w (PickPost n R p w) := by
  have hz : ((len : Int) == 0) = false := by rw [beq_eq_false_iff_ne]; omega
  have hn0 : (n == 0) = false := by rw [beq_eq_false_iff_ne]; omega
  have hne : ¬ R = b := by omega
  go_enter Try.func115, Try.ntmps115
  go_wp2
  go_ret
  exact ⟨(x : Int) % n, rfl, Int.emod_nonneg _ (by omega), fun _ => Int.emod_lt_of_pos _ (by omega), fun h => by omega, HN.out.1, HN.out.2⟩

theorem mix_range (x y p len : Nat) (hx : x ≤ 255) (hy : y ≤ 255) (hp : p ≤ 1000000000) :
    0 ≤ wrap64 ((x : Int) * 131 + (y : Int) * 1117 + (p : Int) * 29 + wrap64 (wrap64 ((p : Int) / (len : Int)) * 53)) ∧ wrap64 ((x : Int) * 131 + (y : Int) * 1117 + (p : Int) * 29 + wrap64 (wrap64 ((p : Int) / (len : Int)) * 53)) ≤ 1000000000000 := by
  have h0 : (0 : Int) ≤ (p : Int) / (len : Int) := Int.ediv_nonneg (by omega) (by omega)
  have h1 : (p : Int) / (len : Int) ≤ (p : Int) := Int.ediv_le_self _ (by omega)
  generalize (p : Int) / (len : Int) = q at *
  have e1 : wrap64 q = q := by unfold wrap64; omega
  have e2 : wrap64 (q * 53) = q * 53 := by unfold wrap64; omega
  rw [e1, e2]
  clear e1 e2
  have hS : 0 ≤ (x : Int) * 131 + (y : Int) * 1117 + (p : Int) * 29 + q * 53 ∧ (x : Int) * 131 + (y : Int) * 1117 + (p : Int) * 29 + q * 53 ≤ 1000000000000 := by omega
  generalize (x : Int) * 131 + (y : Int) * 1117 + (p : Int) * 29 + q * 53 = S at *
  unfold wrap64
  omega

theorem xor_range (z : Int) (h0 : 0 ≤ z) (h1 : z ≤ 1000000000000) : 0 ≤ bits .xor .i64 z (z / 64) := by
  obtain ⟨a, rfl⟩ := Int.eq_ofNat_of_zero_le h0
  have hb : ((a : Int) / 64) = ((a / 64 : Nat) : Int) := by omega
  rw [hb]
  have hx : a ^^^ (a / 64) < 2 ^ 63 := Nat.xor_lt_two_pow (by omega) (by omega)
  show 0 ≤ IntKind.i64.wrap ((BitVec.ofInt 64 (a : Int) ^^^ BitVec.ofInt 64 ((a / 64 : Nat) : Int)).toNat : Int)
  rw [BitVec.toNat_xor, BitVec.ofInt_natCast, BitVec.ofInt_natCast, BitVec.toNat_ofNat, BitVec.toNat_ofNat, Nat.mod_eq_of_lt (by omega), Nat.mod_eq_of_lt (by omega), IntKind.wrap_i64]
  omega

set_option maxHeartbeats 2000000 in
set_option maxRecDepth 100000 in
theorem pick_mix (R p : Nat) (n : Int) (w : World) (b o len cap x y : Nat) (c0 : w.cell? ⟨R, 0, none⟩ = some (.slice (some ⟨b, o, none⟩) len cap)) (c1 : w.cell? ⟨R, 1, none⟩ = some (.int .i64 (p : Int))) (f1 : w.frozen? ⟨R, 1, none⟩ = false)
    (HN : Hid (RdAt (w.setCell ⟨R, 1, none⟩ (.int .i64 ((p : Int) + 1))) R (p + 1) ∧ w.grownBy (w.setCell ⟨R, 1, none⟩ (.int .i64 ((p : Int) + 1))) (some R))) (hp : p ≤ 1000000000) (hn : 1 ≤ n)
    (hl : 1 ≤ len) (hge : len ≤ p) (hl2 : len ≤ 2000) (hbR : b < R) (hx : x ≤ 255) (hy : y ≤ 255) (hcx : w.cell? ⟨b, o + p % len, none⟩ = some (.int .u8 (x : Int))) (hcy : w.cell? ⟨b, o + (p * 7 + 3) % len, none⟩ = some (.int .u8 (y : Int))) :
    Calls Try.prog 115 #[.pointer (some ⟨R, 0, none⟩), .int .i64 n] w (PickPost n R p w) := by
  have hz : ((len : Int) == 0) = false := by rw [beq_eq_false_iff_ne]; omega
  have hn0 : (n == 0) = false := by rw [beq_eq_false_iff_ne]; omega
  have hne : ¬ R = b := by omega
  have m1 : p % len < len := Nat.mod_lt _ (by omega)
  have m2 : (p * 7 + 3) % len < len := Nat.mod_lt _ (by omega)
  have i1 : (0 : Int) ≤ (p : Int) % (len : Int) := Int.emod_nonneg _ (by omega)
  have i2 : (p : Int) % (len : Int) < (len : Int) := Int.emod_lt_of_pos _ (by omega)
  have i3 : (0 : Int) ≤ ((p : Int) * 7 + 3) % (len : Int) := Int.emod_nonneg _ (by omega)
  have i4 : ((p : Int) * 7 + 3) % (len : Int) < (len : Int) := Int.emod_lt_of_pos _ (by omega)
  go_enter Try.func115, Try.ntmps115
  go_wp2_with fail
  go_quiet (fail)
  have hr := mix_range x y p len hx hy hp
  generalize wrap64 ((x : Int) * 131 + (y : Int) * 1117 + (p : Int) * 29 + wrap64 (wrap64 ((p : Int) / (len : Int)) * 53)) = z at *
  obtain ⟨z0, z1⟩ := hr
  have hu0 := xor_range z z0 z1
  obtain ⟨u, hu⟩ : ∃ u, bits .xor .i64 z (z / 64) = u := ⟨_, rfl⟩
  rw [hu] at hu0
  go_wp2
  go_ret
  exact ⟨u % n, rfl, Int.emod_nonneg _ (by omega), fun _ => Int.emod_lt_of_pos _ (by omega), fun h => by omega, HN.out.1, grown_drewN HN.out.2 nq⟩

/-- A reader that was asked p times answers with a number from 0 to n - 1 (0 if n is below 1), and was asked once more then. -/
theorem pick_any (R p : Nat) (n : Int) (w : World) (h : RdAt w R p) (hp : p ≤ 1000000000) :
    Calls Try.prog 115 #[.pointer (some ⟨R, 0, none⟩), .int .i64 n] w (PickPost n R p w) := by
  by_cases hn : n < 1
  · exact pick_none R p n w h hp hn
  obtain ⟨a, len, cap, hl, hc, hb⟩ := h
  obtain ⟨c0, c1, f1⟩ := block_cells hb
  have HN := Lib.hid (rdAt_next hl hc hb)
  by_cases hlen : len = 0
  · subst hlen
    exact pick_empty R p n w a cap c0 c1 f1 HN hp (by omega)
  rcases hc with hc | ⟨b, o, rfl, hbR, hc⟩
  · exact absurd hc hlen
  by_cases hlt : p < len
  · obtain ⟨x, hx, hcx⟩ := hc p hlt
    exact pick_byte R p n w b o len cap x c0 c1 f1 HN hp (by omega) hlt hbR hx hcx
  · obtain ⟨x, hx, hcx⟩ := hc (p % len) (Nat.mod_lt _ (by omega))
    obtain ⟨y, hy, hcy⟩ := hc ((p * 7 + 3) % len) (Nat.mod_lt _ (by omega))
    exact pick_mix R p n w b o len cap x y c0 c1 f1 HN hp (by omega) (by omega) (by omega) hl hbR hx hy hcx hcy

end Go.Proofs.Ytdjnfmekbjmdhaa

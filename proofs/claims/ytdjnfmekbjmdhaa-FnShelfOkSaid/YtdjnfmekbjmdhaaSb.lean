/- Rows of spans between two block numbers, and the laws' functions on them: comparing, marking, holding. Marking turns blocks between the two numbers alone. Condition: at most 1048576 spans. -/
import Derived.Test.YtdjnfmekbjmdhaaSpmark
import Derived.Test.YtdjnfmekbjmdhaaOwn
import Derived.Test.YtdjnfmekbjmdhaaOpenVer
namespace Go.Proofs.Ytdjnfmekbjmdhaa
open Go.RowKit Go.Sort

/-- A slice value whose spans are L, in a row between two block numbers. -/
def SB (L : List (Int × Int)) (lo hi : Nat) (v : Value) (w : World) : Prop :=
  ∃ a cap, v = .slice a L.length cap ∧ (L = [] ∨ ∃ g n, a = some ⟨g, 0, none⟩ ∧ SpBlk w g n L ∧ lo ≤ g ∧ g < hi)

theorem SRes.sb {L : List (Int × Int)} {base : Nat} {v : Value} {w : World} (h : SRes L base v w) : SB L base w.heap.size v w := by
  obtain ⟨a, cap, rfl, h⟩ := h
  refine ⟨_, _, rfl, ?_⟩
  rcases h with h | ⟨g, n, rfl, hk, hg⟩
  · exact .inl h
  · exact .inr ⟨g, n, rfl, hk, hg, hk.lt⟩
theorem blk_sb {L : List (Int × Int)} {g base cap n : Nat} {w : World} (hb : SpBlk w g n L) (hg : base ≤ g) : SB L base w.heap.size (.slice (some ⟨g, 0, none⟩) L.length cap) w :=
  ⟨_, _, rfl, .inr ⟨g, n, rfl, hb, hg, hb.lt⟩⟩
theorem SB.kept {L : List (Int × Int)} {lo hi : Nat} {v : Value} {w w' : World} (h : SB L lo hi v w) (hb : ∀ g, lo ≤ g → g < hi → g < w.heap.size → w'.heap[g]? = w.heap[g]?) : SB L lo hi v w' := by
  obtain ⟨a, cap, rfl, h⟩ := h
  refine ⟨_, _, rfl, ?_⟩
  rcases h with h | ⟨g, n, rfl, hk, h1, h2⟩
  · exact .inl h
  · exact .inr ⟨g, n, rfl, hk.kept (hb g h1 h2 hk.lt), h1, h2⟩
theorem SB.below {L : List (Int × Int)} {lo hi : Nat} {v : Value} {w w' : World} (h : SB L lo hi v w) (hb : Below w.heap.size w w') : SB L lo hi v w' := h.kept fun g _ _ hl => hb.block g hl
theorem SB.at {L : List (Int × Int)} {lo hi : Nat} {v : Value} {w : World} (h : SB L lo hi v w) : SpAt w w.heap.size v L := by
  obtain ⟨a, cap, rfl, h⟩ := h
  rcases h with rfl | ⟨g, n, rfl, hk, _, _⟩
  · exact ⟨_, _, rfl, .inl rfl⟩
  · exact hk.at hk.lt

/-- Nothing has changed but new blocks and those between two numbers. -/
structure Out (lo hi : Nat) (w w' : World) : Prop where
  os : w'.os = w.os
  tape : w'.tape = w.tape
  output : w'.output = w.output
  size : w.heap.size ≤ w'.heap.size
  block : ∀ k, k < w.heap.size → (k < lo ∨ hi ≤ k) → w'.heap[k]? = w.heap[k]?
theorem Out.cell {lo hi : Nat} {w w' : World} (h : Out lo hi w w') {b o : Nat} {v : Value} (hc : w.cell? ⟨b, o, none⟩ = some v) (hb : b < lo ∨ hi ≤ b) : w'.cell? ⟨b, o, none⟩ = some v :=
  (World.cell?_of_block (a := ⟨b, o, none⟩) (h.block b (World.block_lt_of_cell? w _ hc) hb)).trans hc
theorem Out.below {lo hi B : Nat} {w0 w w' : World} (h : Out lo hi w w') (hb : Below B w0 w) (hB : B ≤ lo) (hB2 : B ≤ w.heap.size) : Below B w0 w' :=
  ⟨h.os.trans hb.os, h.tape.trans hb.tape, h.output.trans hb.output, Nat.le_trans hb.size h.size, fun k hk => (h.block k (by omega) (.inl (by omega))).trans (hb.block k hk)⟩
theorem SB.out {L : List (Int × Int)} {lo hi lo' hi' : Nat} {v : Value} {w w' : World} (h : SB L lo hi v w) (ho : Out lo' hi' w w') (hd : hi ≤ lo' ∨ hi' ≤ lo) : SB L lo hi v w' :=
  h.kept fun g h1 h2 hl => ho.block g hl (by omega)

theorem eqSB {L M : List (Int × Int)} {lo hi lo' hi' : Nat} {u v : Value} {w : World} (hl : L.length ≤ 1048576) (hm : M.length ≤ 1048576) (h : SB L lo hi u w) (h' : SB M lo' hi' v w) :
    Calls Try.prog 106 #[.agg #[u], .agg #[v]] w fun e w' => e = .returned (.bool (decide (L = M))) ∧ Below w.heap.size w w' := by
  have k := h.at
  have k' := h'.at
  obtain ⟨a, cap, rfl, _⟩ := h
  obtain ⟨a', cap', rfl, _⟩ := h'
  exact eqRange_any a a' cap cap' L M w hl hm k k'
theorem sameSB {L : List (Int × Int)} {lo hi lo' hi' : Nat} {u v : Value} {w : World} (hl : L.length ≤ 1048576) (h : SB L lo hi u w) (h' : SB L lo' hi' v w) :
    Calls Try.prog 106 #[.agg #[u], .agg #[v]] w fun e w' => e = .returned (.bool true) ∧ Below w.heap.size w w' := by
  have := eqSB hl hl h h'
  rwa [decide_eq_true rfl] at this

set_option maxHeartbeats 400000 in
theorem markSpanS_nil (a : Option Addr) (cap : Nat) (k : Int) (w : World) : Calls Try.prog 79 #[.slice a 0 cap, .int .i64 k] w fun e w' => e = .returned (.int .i64 k) ∧ w = w' := by
  go_enter Try.func79, Try.ntmps79
  go_wp2
  go_loop [1, 5] (fun s1 i => i = .int .i64 0 ∧ s1 = .int .i64 k) (fun _ _ => 0)
  case atStart => exact ⟨rfl, rfl⟩
  case round =>
    obtain ⟨rfl, rfl⟩ := hrel
    go_wp2_with fail
    go_ret
    exact ⟨rfl, rfl⟩

end Go.Proofs.Ytdjnfmekbjmdhaa

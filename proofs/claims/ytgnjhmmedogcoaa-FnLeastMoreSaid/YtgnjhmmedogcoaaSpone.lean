/- Contracts of the model's RangeAll, RangeOne and RangeFrom over this seat's translation: each makes a new row of the spans that the plain functions tell; nothing that was there before the call has changed. -/
import Derived.Test.YtgnjhmmedogcoaaGb
import Derived.Test.YtgnjhmmedogcoaaGa
import Derived.Deep.RegionWith
namespace Go.Proofs.Ytgnjhmmedogcoaa
open Go.RowKit Go.Sort

/-- A range by value whose spans are L: none of its own memory, or a row that is new since w. -/
def RRes (L : List (Int × Int)) (w : World) (v : Value) (w' : World) : Prop :=
  ∃ a cap, v = .agg #[.slice a L.length cap] ∧ (L = [] ∨ ∃ g n, a = some ⟨g, 0, none⟩ ∧ SpBlk w' g n L ∧ w.heap.size ≤ g)
def RPost (L : List (Int × Int)) (w : World) (e : Ending) (w' : World) : Prop := ∃ v, e = .returned v ∧ RRes L w v w' ∧ Below w.heap.size w w'

theorem one_span (w : World) (x y : Int) : SpBlk (w.alloc (.cells #[.int .i64 x, .int .i64 y] 73)) w.heap.size 1 [(x, y)] :=
  ⟨_, heap_alloc_new w _, rfl, Nat.le_refl _, fun i hi => by
    obtain rfl : i = 0 := by simpa using hi
    exact ⟨rfl, rfl⟩⟩

theorem one_span_set (w : World) (p : Addr) (u : Value) (x y : Int) : SpBlk ((w.setCell p u).alloc (.cells #[.int .i64 x, .int .i64 y] 73)) w.heap.size 1 [(x, y)] := by
  have h := one_span (w.setCell p u) x y
  rwa [show (w.setCell p u).heap.size = w.heap.size from by simp [World.setCell]] at h

theorem blk_set {w : World} {g n x k : Nat} {u : Value} {L : List (Int × Int)} (h : SpBlk w g n L) (hne : g ≠ k) : SpBlk (w.setCell ⟨k, x, none⟩ u) g n L := h.kept (Below.heap_setCell w ⟨k, x, none⟩ u g hne)

set_option maxHeartbeats 400000 in
theorem specAll_any (w : World) : Calls Try.prog 99 #[] w (RPost [(0, 9999999)] w) := by
  have hs := one_span (w.alloc (.cells #[.slice (some ⟨w.heap.size + 1, 0, none⟩) 1 1] 57)) 0 9999999
  rw [show (w.alloc (.cells #[.slice (some ⟨w.heap.size + 1, 0, none⟩) 1 1] 57)).heap.size = w.heap.size + 1 from by simp] at hs
  go_enter Try.func99, Try.ntmps99
  go_wp2
  refine bodyPost_ret (v := .agg #[.slice (some ⟨w.heap.size + 1, 0, none⟩) 1 1]) (by simp [results, Try.results99, go_sem]) rfl ⟨_, rfl, ⟨_, _, rfl, .inr ⟨w.heap.size + 1, 1, rfl, ?_, by omega⟩⟩, ?_⟩
  · exact hs
  · go_grown

def oneL (a b c d : Int) : List (Int × Int) := if vOk a b c d = true then [(rk a b c d, rk a b c d)] else []

set_option maxHeartbeats 1000000 in
theorem specOne_any (a b c d : Int) (w : World) : Calls Try.prog 100 #[ver a b c d] w (RPost (oneL a b c d) w) := by
  have K := Lib.hid fun V => specOk_any a b c d V
  have R := Lib.hid fun V => specRank_any a b c d V
  have hB : w.heap.size + 2 ≤ ((w.alloc (.cells #[.int .i64 a, .int .i64 b, .int .i64 c, .int .i64 d] 61)).alloc (.cells #[.slice none 0 0] 57)).heap.size := by simp
  have hb := Below.refl (w.heap.size + 2) ((w.alloc (.cells #[.int .i64 a, .int .i64 b, .int .i64 c, .int .i64 d] 61)).alloc (.cells #[.slice none 0 0] 57))
  rcases hk : vOk a b c d
  · have HL := Lib.hid (show oneL a b c d = [] by simp [oneL, hk])
    rw [hk] at K
    clear hk R
    go_enter Try.func100, Try.ntmps100
    go_wp2_with fail
    refine (rel hB hb (K.out _)).mono ?_
    clear hb
    rintro e w1 ⟨rfl, hb⟩
    obtain ⟨hc, hf⟩ := (show (∀ b o, b < w.heap.size + 2 → w1.cell? ⟨b, o, none⟩ = _) ∧ (∀ b o, b < w.heap.size + 2 → w1.frozen? ⟨b, o, none⟩ = _) from ⟨fun b o h => hb.cell (p := ⟨b, o, none⟩) h, fun b o h => hb.frozen (p := ⟨b, o, none⟩) h⟩)
    have hbx := (((Below.refl w.heap.size w).alloc (Nat.le_refl _) (.cells #[.int .i64 a, .int .i64 b, .int .i64 c, .int .i64 d] 61)).alloc (by simp) (.cells #[.slice none 0 0] 57)).trans (hb.mono (by omega))
    go_wp2_with fail
    exact bodyPost_ret (v := .agg #[.slice none 0 0]) (by simp [results, Try.results100, go_sem, hc]) rfl ⟨_, rfl, by rw [HL.out]; exact ⟨_, _, rfl, .inl rfl⟩, by go_grown⟩
  · rw [show oneL a b c d = [(rk a b c d, rk a b c d)] by simp [oneL, hk]]
    rw [show vRank a b c d = rk a b c d from by simp [vRank, hk]] at R
    rw [hk] at K
    clear hk
    generalize rk a b c d = r at *
    go_enter Try.func100, Try.ntmps100
    go_wp2_with fail
    refine (rel hB hb (K.out _)).mono ?_
    clear hb
    rintro e w1 ⟨rfl, hb⟩
    obtain ⟨hc, hf⟩ := (show (∀ b o, b < w.heap.size + 2 → w1.cell? ⟨b, o, none⟩ = _) ∧ (∀ b o, b < w.heap.size + 2 → w1.frozen? ⟨b, o, none⟩ = _) from ⟨fun b o h => hb.cell (p := ⟨b, o, none⟩) h, fun b o h => hb.frozen (p := ⟨b, o, none⟩) h⟩)
    go_wp2_with fail
    go_region_with ((go_at_call 66; refine (rel hB (by first | exact hb.drew | exact hb) (R.out _)).mono ?_; clear hc hf hb; rintro e w1 ⟨rfl, hb⟩; obtain ⟨hc, hf⟩ := (show (∀ b o, b < w.heap.size + 2 → w1.cell? ⟨b, o, none⟩ = _) ∧ (∀ b o, b < w.heap.size + 2 → w1.frozen? ⟨b, o, none⟩ = _) from ⟨fun b o h => hb.cell (p := ⟨b, o, none⟩) h, fun b o h => hb.frozen (p := ⟨b, o, none⟩) h⟩); have z1 : w.heap.size + 1 < w1.heap.size := by (have := hb.size; simp at this; omega)))
    all_goals
      have hbx := (((Below.refl w.heap.size w).alloc (Nat.le_refl _) (.cells #[.int .i64 a, .int .i64 b, .int .i64 c, .int .i64 d] 61)).alloc (by simp) (.cells #[.slice none 0 0] 57)).trans (hb.mono (by omega))
      go_wp2_with fail
      exact bodyPost_ret (v := .agg #[.slice (some ⟨w1.heap.size, 0, none⟩) 1 1]) (by simp [results, Try.results100, go_sem, hc, z1]) rfl ⟨_, rfl, ⟨_, _, rfl, .inr ⟨w1.heap.size, 1, rfl, one_span_set _ _ _ _ _, by omega⟩⟩, by go_grown⟩

end Go.Proofs.Ytgnjhmmedogcoaa

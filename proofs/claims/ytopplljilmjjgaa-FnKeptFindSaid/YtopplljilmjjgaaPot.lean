/- Rows of truths that are set one by one, and the contract of placesOfTrue, over this seat's translation: the places of what is true, in order, in a row of their own; nothing that was there before the call has changed. Condition: at most 1048576 truths. -/
import Derived.Test.YtopplljilmjjgaaInto
import Derived.Test.YtopplljilmjjgaaGw
namespace Go.Proofs.Ytopplljilmjjgaa
open Go.RowKit Go.Sort

namespace Pot
/-- A block that is a row of truths. -/
def Fg (w : World) (g : Nat) (c : List Bool) : Prop := w.heap[g]? = some (.cells (c.map Value.bool).toArray 4 (0, 0))
theorem Fg.lt {w : World} {g : Nat} {c : List Bool} (h : Fg w g c) : g < w.heap.size := (Array.getElem?_eq_some_iff.1 h).1
theorem Fg.kept {w w' : World} {g : Nat} {c : List Bool} (h : Fg w g c) (hb : w'.heap[g]? = w.heap[g]?) : Fg w' g c := hb.trans h
theorem Fg.below {w w' : World} {g : Nat} {c : List Bool} (h : Fg w g c) (hb : Below w.heap.size w w') : Fg w' g c := h.kept (hb.block g h.lt)
theorem Fg.cell {w : World} {g i : Nat} {c : List Bool} (h : Fg w g c) (hi : i < c.length) : w.cell? ⟨g, i, none⟩ = some (.bool (c.getD i true)) := by
  rw [cell_of_row w g i _ _ (0, 0) h, List.getElem?_toArray, List.getElem?_map, List.getElem?_eq_getElem hi, List.getD_eq_getElem?_getD, List.getElem?_eq_getElem hi]
  rfl
theorem Fg.frozen {w : World} {g i : Nat} {c : List Bool} (h : Fg w g c) : w.frozen? ⟨g, i, none⟩ = false := by
  unfold Fg at h
  simp [World.frozen?, h]
theorem Fg.set {w : World} {g i : Nat} {c : List Bool} (h : Fg w g c) (b : Bool) : Fg (w.setCell ⟨g, i, none⟩ (.bool b)) g (c.set i b) := by
  unfold Fg at h ⊢
  have e : (c.map Value.bool).toArray.setIfInBounds i (.bool b) = ((c.set i b).map Value.bool).toArray := by
    rw [List.map_set, List.setIfInBounds_toArray]
  rw [← e]
  simp [World.setCell, Array.getElem?_modify, h]
/-- The places of what is true, before a number. -/
def plF (c : List Bool) : Nat → List Int
  | 0 => []
  | k + 1 => plF c k ++ (if c.getD k true = true then [(k : Int)] else [])
theorem plF_len (c : List Bool) : ∀ k, (plF c k).length ≤ k
  | 0 => Nat.le_refl _
  | k + 1 => by
    have := plF_len c k
    unfold plF
    split <;> simp <;> omega
theorem plF_mem (c : List Bool) : ∀ (k : Nat) (z : Int), z ∈ plF c k ↔ ∃ m : Nat, z = (m : Int) ∧ m < k ∧ c.getD m true = true
  | 0, z => by simp [plF]
  | k + 1, z => by
    unfold plF
    rw [List.mem_append, plF_mem c k z]
    constructor
    · rintro (⟨m, h1, h2, h3⟩ | h)
      · exact ⟨m, h1, by omega, h3⟩
      · split at h
        · rename_i hk
          simp at h
          exact ⟨k, h, by omega, hk⟩
        · cases h
    · rintro ⟨m, h1, h2, h3⟩
      by_cases e : m = k
      · subst e
        right
        rw [if_pos h3]
        simp [h1]
      · exact .inl ⟨m, h1, by omega, h3⟩
theorem own_flag {w : World} {B g : Nat} {v : Value} {n : Nat} {cs : List Value} {c : List Bool} (h : w.ownsRow B 3 1 v n cs) (hf : Fg w g c) : ∀ k, v.ownBlock = some k → k ≠ g := by
  intro k hk e
  subst e
  have hf' : w.heap[k]? = some (.cells (c.map Value.bool).toArray 4 (0, 0)) := hf
  rcases h.2 with ⟨rfl, _⟩ | ⟨g', cap, cur, rfl, hb, hg, _⟩
  · cases hk
  · have hk' : some g' = some k := hk
    injection hk' with hk'
    subst hk'
    rw [hf'] at hg
    simp at hg
def PfRel (c : List Bool) (n : Nat) (B : Nat) (w : World) (g : Nat) (v i : Value) (wr : World) : Prop :=
  ∃ k : Nat, k ≤ n ∧ i = .int .i64 (k : Int) ∧ IOwn wr B v (plF c k) ∧ Fg wr g c ∧ Below B w wr

set_option maxRecDepth 100000 in
set_option maxHeartbeats 4000000 in
theorem placesOfTrue_any (g cap : Nat) (c : List Bool) (w : World) (hl : c.length ≤ 1048576) (h : Fg w g c) :
    Calls Try.prog 103 #[.slice (some ⟨g, 0, none⟩) c.length cap] w fun e w' => ∃ v, e = .returned v ∧ IB (plF c c.length) w.heap.size w'.heap.size v w' ∧ Below w.heap.size w w' := by
  obtain ⟨i0, hi, hz0, hz1, hz2⟩ := info_parts infoInt
  have HST := Lib.hid (show PfRel c c.length w.heap.size w g (.slice none 0 0) (.int .i64 0) w from ⟨0, Nat.zero_le _, rfl, World.ownsRow_nil _ _ _ _, h, Below.refl _ _⟩)
  have HFL : Hid (∃ n, c.length = n) := Lib.hid ⟨_, rfl⟩
  clear h
  go_enter Try.func103, Try.ntmps103
  go_wp2_with fail
  go_loopw [3, 8] (fun v i wr => PfRel c c.length w.heap.size w g v i wr) (fun _ i _ => c.length - (intOf i).toNat)
  case atStart => exact HST.out
  case round =>
    obtain ⟨k, hk, rfl, hown, hfl, hb⟩ := hrel
    obtain ⟨ga, gc, hv, hx⟩ := id (IOwn.ib hown).at
    subst hv
    clear hx
    have hnl := plF_len c k
    by_cases hlt : k < c.length
    · have d0 := hfl.cell hlt
      have j1 : (0 : Int) ≤ (k : Int) := by omega
      have j2 : (k : Int) < (c.length : Int) := by omega
      have HO := Lib.hid hown
      have HF := Lib.hid hfl
      have hgl := hfl.lt
      rcases hh : c.getD k true
      · have HT := Lib.hid (show plF c (k + 1) = plF c k by show plF c k ++ _ = _; rw [hh]; simp)
        rw [hh] at d0
        have HR := Lib.hid (show PfRel c c.length w.heap.size w g (.slice ga (plF c k).length gc) (.int .i64 ((k : Int) + 1)) wr from ⟨k + 1, by omega, by go_num, by rw [HT.out]; exact HO.out, hfl, hb⟩)
        clear hh hown hfl
        go_wp2_with fail
        go_roundw
        case rel => exact HR.out
        case measure => simp [intOf]; omega
      · have HT := Lib.hid (show plF c (k + 1) = plF c k ++ [(k : Int)] by show plF c k ++ _ = _; rw [hh]; simp)
        rw [hh] at d0
        have HNE := Lib.hid (own_flag hown hfl)
        have z4 := hb.size
        clear hh hfl
        go_wp2_with (at_builtin; refine wpList_append_own _ rfl _ _ 43 rfl w.heap.size 3 i0 (.int .i64 0) 1 8 Try.underlying43 hi hz0 hz1 hz2 rfl (by decide) _ _ _ rfl (World.ownsRow.alloc HO.out (.cells #[.int .i64 (k : Int)] 3)) ⟨wr.heap.size, 0, none⟩ 1 1 [.int .i64 (k : Int)] rfl rfl (one_new wr (k : Int)) (one_one _) (by unfold maxLen; omega) (by omega) (by simp; omega) ?_)
        intro v' w5 hown' hgrow hnn
        have hbl : w5.heap[g]? = wr.heap[g]? := (hgrow.block _ (by simp; omega) (fun e => HNE.out _ e.symm rfl)).trans (Below.heap_alloc _ _ _ hgl)
        have HR := Lib.hid (show PfRel c c.length w.heap.size w g v' (.int .i64 ((k : Int) + 1)) w5 from ⟨k + 1, by omega, by go_num, by rw [HT.out]; exact IOwn.push hown', HF.out.kept hbl, IOwn.gone HO.out hb z4 hgrow⟩)
        clear hown' hgrow hnn hown
        go_wp2_with fail
        go_roundw
        case rel => exact HR.out
        case measure => simp [intOf]; omega
    · obtain rfl : k = c.length := by omega
      have HO := Lib.hid hown
      clear hown hfl
      go_wp2_with fail
      go_ret
      exact ⟨_, rfl, IOwn.ib HO.out, hb⟩
end Pot
end Go.Proofs.Ytopplljilmjjgaa

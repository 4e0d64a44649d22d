/- The contract of the draw of texts, over this seat's translation: it answers with some text of at most 1048576 bytes and changes nothing that was there. Condition: the code is readable. -/
import Derived.Test.YtgabhokmacngfabDdraw
import Derived.Test.YtgabhokmacngfabVtext
import Derived.Deep.RegionWith
namespace Go.Proofs.Ytgabhokmacngfab
open Go.ChangeShapes Go.WideShapes Go.ChangeAt Go.RowKit Go.Sort

def AnyText (w : World) (e : Ending) (w' : World) : Prop := ∃ s : ByteArray, e = .returned (.string s) ∧ s.size ≤ 1048576 ∧ Below w.heap.size w w'

/-- A row of texts that are not long: each place holds one of them. -/
theorem some_text {C : Array Value} (hC : (C.toList.all fun v => match v with | .string s => decide (s.size ≤ 20) | _ => false) = true) {k : Nat} (hk : k < C.size) : ∃ s : ByteArray, C[k]? = some (.string s) ∧ s.size ≤ 20 := by
  have hm : C[k] ∈ C.toList := by simp
  have h := List.all_eq_true.1 hC _ hm
  rw [Array.getElem?_eq_getElem hk]
  match hv : C[k], h with
  | .string s, h => exact ⟨s, rfl, by simpa using h⟩

theorem rdAt_drew {w : World} {R p : Nat} (h : RdAt w R p) : RdAt w.drew R p := h

theorem text_at {w : World} {g kn : Nat} {C : Array Value} {t : TypeId} (hb : w.heap[g]? = some (.cells C t (0, 0))) (hC : (C.toList.all fun v => match v with | .string s => decide (s.size ≤ 20) | _ => false) = true) (hk : kn < C.size) :
    ∃ s : ByteArray, w.cell? ⟨g, kn, none⟩ = some (.string s) ∧ s.size ≤ 20 := by
  obtain ⟨s, hs, hz⟩ := some_text hC hk
  exact ⟨s, (intRow_cell hb kn).trans hs, hz⟩

theorem vText_size (a b c d : Int) : (vText a b c d).size ≤ 11 := by
  have h1 := nt_size a
  have h2 := nt_size b
  have h3 := nt_size c
  have h4 := nt_size d
  unfold vText
  split
  · unfold txt core
    have e : ∀ x : UInt8, (⟨#[x]⟩ : ByteArray).size = 1 := fun _ => rfl
    split <;> simp only [ByteArray.size_append, e] <;> omega
  · exact Nat.zero_le _

set_option maxHeartbeats 2000000 in
theorem DrawVersionFrom_any (a : Option Addr) (len cap : Nat) (w : World) (h : CodeIn w a len cap) : Calls Try.prog 26 #[.slice a len cap] w (AnyText w) := by
  go_enter Try.func26, Try.ntmps26
  go_wp2_with fail
  refine (open_any a len cap _ h).mono ?_
  rintro e w1 ⟨rfl, hr1, hb1⟩
  go_wp2_with fail
  refine (pick_any _ 0 _ w1 hr1 (by omega)).mono ?_
  rintro e w2 ⟨k1, rfl, k10, k11, _, hr2, hg2⟩
  have b2 := hb1.grown hg2 hb1.size (fun k hk => by injection hk with hk; omega)
  clear hr1 hg2 hb1
  by_cases hk : k1 = 0
  · subst hk
    go_wp2_with fail
    refine (pick_any _ _ _ _ (rdAt_alloc hr2 _) (by omega)).mono ?_
    rintro e w3 ⟨k2, rfl, k20, k21, _, hr3, hg3⟩
    have k22 : k2 < 13 := k21 (by omega)
    have hblk := (hg3.block w2.heap.size (by simp) (fun e => by have := rdAt_lt hr2; injection e with e; omega)).trans (heap_alloc_new w2 _)
    have b3 := (b2.alloc b2.size _).grown hg3 (by have := b2.size; simp; omega) (fun k hk => by injection hk with hk; omega)
    obtain ⟨kn, rfl⟩ := Int.eq_ofNat_of_zero_le k20
    obtain ⟨s, hcell, hsz⟩ := text_at hblk (by decide) (show kn < 13 by omega)
    clear hblk hg3 hr3 k21 b2 hr2
    go_wp2_with fail
    go_ret
    exact ⟨s, rfl, by omega, b3⟩
  · have hk2 : (k1 == 0) = false := by rw [beq_eq_false_iff_ne]; exact hk
    go_wp2_with fail
    refine (version_any _ _ 0 w2 hr2 (by omega) (by omega) (by omega)).mono ?_
    rintro e w3 ⟨x, y, z, u, rfl, _, hd⟩
    have b3 := drawn_below hd b2 (by omega)
    obtain ⟨q, hq0, hq1, hr3, _⟩ := hd
    clear b2 hr2
    go_wp2_with fail
    refine (specText_any x y z u w3).mono ?_
    rintro e w4 ⟨rfl, hb4⟩
    have b4 := b3.trans (hb4.mono b3.size)
    have hr4 := rdAt_below hr3 hb4 (rdAt_lt hr3)
    have hsz := vText_size x y z u
    generalize vText x y z u = s at *
    clear b3 hr3 hb4
    go_wp2_with fail
    refine (pick_any _ _ _ _ hr4 (by omega)).mono ?_
    rintro e w5 ⟨k5, rfl, k50, k51, _, hr5, hg5⟩
    have b5 := b4.grown hg5 b4.size (fun k hk => by injection hk with hk; omega)
    clear b4 hr4 hg5
    by_cases hk5 : k5 = 0
    · subst hk5
      go_wp2_with fail
      refine (pick_any _ _ _ _ hr5 (by omega)).mono ?_
      rintro e w6 ⟨k6, rfl, k60, k61, k62, hr6, hg6⟩
      have b6 := b5.grown hg6 b5.size (fun k hk => by injection hk with hk; omega)
      have k63 : k6 ≤ (s.size : Int) := by
        by_cases h1 : (1 : Int) ≤ s.size
        · have := k61 h1; omega
        · have := k62 (by omega); omega
      obtain ⟨kn, rfl⟩ := Int.eq_ofNat_of_zero_le k60
      clear b5 hr5 hg6 k61 k62
      go_wp2_with fail
      go_region_with (first | (go_at_call 34; refine (pick_any _ _ _ _ (rdAt_drew (rdAt_alloc hr6 _)) (by omega)).mono ?_; rintro e w7 ⟨k7, rfl, k70, k71, _, hr7, hg7⟩; have k72 : k7 < 5 := k71 (by omega); obtain ⟨k7n, rfl⟩ := Int.eq_ofNat_of_zero_le k70; obtain ⟨t, ht, htz⟩ := text_at ((hg7.block w6.heap.size (by simp) (fun e => by have := rdAt_lt hr6; injection e with e; omega)).trans (heap_alloc_new w6 _)) (by decide) (show k7n < 5 by omega); have hb7 := ((b6.alloc b6.size _).drew).grown hg7 (by have := b6.size; simp; omega) (fun k hk => by injection hk with hk; omega); clear hr7 hg7 k71) | (go_at_call 34; refine (pick_any _ _ _ _ (rdAt_drew hr6) (by omega)).mono ?_; rintro e w7 ⟨k7, rfl, k70, k71, _, hr7, hg7⟩; have k72 : k7 < 5 := k71 (by omega); obtain ⟨k7n, rfl⟩ := Int.eq_ofNat_of_zero_le k70; obtain ⟨t, ht, htz⟩ := text_at (heap_alloc_new w7 (.cells #[.string ⟨#[48]⟩, .string ⟨#[46]⟩, .string ⟨#[45]⟩, .string ⟨#[120]⟩, .string ⟨#[]⟩] 9)) (by decide) (show k7n < 5 by omega); have hb7 := (b6.drew).grown hg7 (by have := b6.size; simp; omega) (fun k hk => by injection hk with hk; omega); clear hr7 hg7 k71))
      · go_wp2_with fail
        go_ret
        exact ⟨_, rfl, (by simp only [ByteArray.size_append, ByteArray.size_extract]; omega), hb7⟩
      · go_wp2_with fail
        go_ret
        exact ⟨_, rfl, (by simp only [ByteArray.size_append, ByteArray.size_extract]; omega), hb7.alloc hb7.size _⟩
    · have hk52 : (k5 == 0) = false := by rw [beq_eq_false_iff_ne]; exact hk5
      go_wp2_with fail
      go_ret
      exact ⟨s, rfl, by omega, b5⟩

end Go.Proofs.Ytgabhokmacngfab

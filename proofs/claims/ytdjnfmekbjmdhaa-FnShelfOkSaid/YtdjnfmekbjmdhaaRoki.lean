/- The contract of the program's ShelfOk over this seat's translation: it answers as the plain function shOk of the releases; nothing that was there before the call has changed. Condition: at most 1048576 releases, needs of each, and spans of those. -/
import Derived.Test.YtdjnfmekbjmdhaaRok
import Derived.BigQuiet
namespace Go.Proofs.Ytdjnfmekbjmdhaa
open Go.RowKit Go.Sort

/-- What the loop of ShelfOk keeps: what is left decides. -/
def ShRel (S : List Rel) (w : World) (i : Value) (wr : World) : Prop :=
  ∃ k : Nat, k ≤ S.length ∧ i = .int .i64 (k : Int) ∧ shFrom none S = shFrom (relAt S k) (S.drop k) ∧ Below w.heap.size w wr
theorem sh_push {S : List Rel} {w wr : World} {k : Nat} {q : Rel} (hS : S[k]? = some q) (ho : shFrom none S = shFrom (relAt S k) (S.drop k)) (hq : relOk q = true) (hl : ∀ p, relAt S k = some p → relLess p q = true) (hb : Below w.heap.size w wr) :
    ShRel S w (.int .i64 ((k : Int) + 1)) wr := by
  have hk : k < S.length := (List.getElem?_eq_some_iff.1 hS).1
  refine ⟨k + 1, by omega, by go_num, ?_, hb⟩
  rw [ho, shFrom_step hS, hq, show relAt S (k + 1) = some q from hS]
  rcases hp : relAt S k with _ | p
  · simp
  · simp [hl p hp]
theorem sh_bad {S : List Rel} {k : Nat} {q : Rel} (hS : S[k]? = some q) (ho : shFrom none S = shFrom (relAt S k) (S.drop k)) (hq : relOk q = false) : shOk S = false := by
  unfold shOk
  rw [ho, shFrom_step hS, hq]
  simp
theorem sh_row {S : List Rel} {k : Nat} {p q : Rel} (hS : S[k]? = some q) (ho : shFrom none S = shFrom (relAt S k) (S.drop k)) (hp : relAt S k = some p) (hl : relLess p q = false) : shOk S = false := by
  unfold shOk
  rw [ho, shFrom_step hS, hp]
  simp [hl]

set_option maxRecDepth 100000 in
set_option maxHeartbeats 8000000 in
theorem implShelfOk_any (v : Value) (S : List Rel) (w : World) (hl : S.length ≤ 1048576) (hq : ∀ q ∈ S, q.2.2.2.length ≤ 1048576 ∧ ∀ p ∈ q.2.2.2, p.2.length ≤ 1048576) (h : RlAt w w.heap.size v S) :
    Calls Try.prog 60 #[v] w fun e w' => e = .returned (.bool (shOk S)) ∧ Below w.heap.size w w' := by
  obtain ⟨sa, caps, rfl, h⟩ := h
  by_cases h30 : S.length ≤ 30
  · go_enter Try.func60, Try.ntmps60
    go_wp2
    go_loopw [10] (fun i wr => ShRel S w i wr) (fun i _ => S.length - (intOf i).toNat)
    case atStart => exact ⟨0, Nat.zero_le _, rfl, rfl, Below.refl _ _⟩
    case round =>
      obtain ⟨k, hk, rfl, ho, hb⟩ := hrel
      have HO := Lib.hid ho
      clear ho
      by_cases hlt : k < S.length
      · rcases h with h | ⟨g, o, rfl, hB, hc⟩
        · subst h
          exact absurd hlt (by simp)
        obtain ⟨x, a, b, c, d, f, M, hxy⟩ : ∃ x a b c d f M, S[k] = (x, (a, b, c, d), f, M) := ⟨_, _, _, _, _, _, _, rfl⟩
        have m1 := (hc k hlt).below hb hB
        rw [hxy] at m1
        obtain ⟨⟨k0, k1, k2, k3, k4, k5⟩, ad, cap, k6, hs⟩ := m1
        have hL : M.length ≤ 1048576 ∧ ∀ p ∈ M, p.2.length ≤ 1048576 := by have := hq _ (List.getElem_mem hlt); rwa [hxy] at this
        simp only at k0 k1 k2 k3 k4 k5 k6 hs
        have HS := Lib.hid (hs.mono hb.size)
        have HX := Lib.hid (show S[k]? = some (x, (a, b, c, d), f, M) by rw [List.getElem?_eq_getElem hlt, hxy])
        have HC := Lib.hid hc
        have mb : g < wr.heap.size := Nat.lt_of_lt_of_le hB hb.size
        clear hxy hc hs
        have bb := hb.alloc hb.size (.cells #[.int .i64 x, .int .i64 a, .int .i64 b, .int .i64 c, .int .i64 d, .bool f, .slice ad M.length cap] 41)
        have BB := Lib.hid bb
        have HBR := Lib.hid hb
        clear bb
        have i0 : (0 : Int) ≤ (k : Int) := by omega
        have i1 : (k : Int) < (S.length : Int) := by omega
        have KR : Hid (∀ V, NdAt V V.heap.size (.slice ad M.length cap) M → Calls Try.prog 65 #[rels x a b c d f (.slice ad M.length cap)] V fun e w' => e = .returned (.bool (relOk (x, (a, b, c, d), f, M))) ∧ Below V.heap.size V w') := Lib.hid fun V g => releaseOk_any x a b c d f _ M V hL.1 hL.2 g
        rcases hr : relOk (x, (a, b, c, d), f, M)
        · have HF := Lib.hid (sh_bad HX.out HO.out hr)
          rw [hr] at KR
          clear hr
          go_wp2_with fail
          refine (KR.out _ (HS.out.stepAt (by go_grown))).mono ?_
          rintro e w2 ⟨rfl, hb2⟩
          go_wp2_with fail
          go_ret
          exact ⟨by rw [HF.out]; rfl, BB.out.trans (hb2.mono BB.out.size)⟩
        · have HR := Lib.hid hr
          rw [hr] at KR
          clear hr
          go_wp2_with fail
          refine (KR.out _ (HS.out.stepAt (by go_grown))).mono ?_
          rintro e w2 ⟨rfl, hb2⟩
          have b2 := BB.out.trans (hb2.mono BB.out.size)
          have y0 : w2.cell? ⟨wr.heap.size, 0, none⟩ = some (.int .i64 x) := (hb2.cell (p := ⟨wr.heap.size, 0, none⟩) (by simp)).trans (by go_simp)
          have y1 : w2.cell? ⟨wr.heap.size, 1, none⟩ = some (.int .i64 a) := (hb2.cell (p := ⟨wr.heap.size, 1, none⟩) (by simp)).trans (by go_simp)
          have y2 : w2.cell? ⟨wr.heap.size, 2, none⟩ = some (.int .i64 b) := (hb2.cell (p := ⟨wr.heap.size, 2, none⟩) (by simp)).trans (by go_simp)
          have y3 : w2.cell? ⟨wr.heap.size, 3, none⟩ = some (.int .i64 c) := (hb2.cell (p := ⟨wr.heap.size, 3, none⟩) (by simp)).trans (by go_simp)
          have y4 : w2.cell? ⟨wr.heap.size, 4, none⟩ = some (.int .i64 d) := (hb2.cell (p := ⟨wr.heap.size, 4, none⟩) (by simp)).trans (by go_simp)
          have y5 : w2.cell? ⟨wr.heap.size, 5, none⟩ = some (.bool f) := (hb2.cell (p := ⟨wr.heap.size, 5, none⟩) (by simp)).trans (by go_simp)
          have y6 : w2.cell? ⟨wr.heap.size, 6, none⟩ = some (.slice ad M.length cap) := (hb2.cell (p := ⟨wr.heap.size, 6, none⟩) (by simp)).trans (by go_simp)
          have B2 := Lib.hid b2
          clear b2 hb2 k0 k1 k2 k3 k4 k5 k6
          have t0 := cell_regrown y0
          have t1 := cell_regrown y1
          have t2 := cell_regrown y2
          have t3 := cell_regrown y3
          have t4 := cell_regrown y4
          have t5 := cell_regrown y5
          have t6 := cell_regrown y6
          clear y0 y1 y2 y3 y4 y5 y6
          rcases Nat.eq_zero_or_pos k with hkz | hkp
          · have hk0 : decide ((0 : Int) < (k : Int)) = false := decide_eq_false (by omega)
            have hk1 : decide (0 < k) = false := decide_eq_false (by omega)
            have HN := Lib.hid (show ∀ p, relAt S k = some p → relLess p (x, (a, b, c, d), f, M) = true from fun p hp => by rw [hkz] at hp; cases hp)
            clear hkz
            go_wp2_with fail
            refine wp_region_quiet_below (by kernel_rfl) (by kernel_rfl) ?_
            repeat (any_goals (first | go_big_quiet_step (fail) | quiet_step (fail)))
            refine wpQuiet_nil ?_
            intro W2 hw
            have nn := quiet_end hw
            clear hw t0 t1 t2 t3 t4 t5 t6
            have HP := Lib.hid (sh_push HX.out HO.out HR.out HN.out (B2.out.trans (nn.mono B2.out.size)))
            go_wp2_with fail
            go_roundw
            case rel => exact HP.out
            case measure => simp [intOf]; omega
          · obtain ⟨m, rfl⟩ : ∃ m, k = m + 1 := ⟨k - 1, by omega⟩
            have hmS : m < S.length := by omega
            obtain ⟨x', a', b', c', d', f', M', hxy'⟩ : ∃ x a b c d f M, S[m] = (x, (a, b, c, d), f, M) := ⟨_, _, _, _, _, _, _, rfl⟩
            have m1 := (HC.out m hmS).below B2.out hB
            rw [hxy'] at m1
            obtain ⟨⟨l0, l1, l2, l3, l4, l5⟩, ad', cap', l6, hs'⟩ := m1
            simp only at l0 l1 l2 l3 l4 l5 l6
            have hprev : relAt S (m + 1) = some (x', (a', b', c', d'), f', M') := by show S[m]? = _; rw [List.getElem?_eq_getElem hmS, hxy']
            have HPV := Lib.hid hprev
            clear hxy' hs' hprev
            have j0 : (0 : Int) ≤ (m : Int) := by omega
            have j1 : (m : Int) < (S.length : Int) := by omega
            have hk0 : (0 : Int) < (m : Int) + 1 := by omega
            have u0 := cell_regrown l0
            have u1 := cell_regrown l1
            have u2 := cell_regrown l2
            have u3 := cell_regrown l3
            have u4 := cell_regrown l4
            have u5 := cell_regrown l5
            have u6 := cell_regrown l6
            clear l0 l1 l2 l3 l4 l5 l6
            have KL : Hid (∀ V, Calls Try.prog 94 #[rels x' a' b' c' d' f' (.slice ad' M'.length cap'), rels x a b c d f (.slice ad M.length cap)] V fun e w' => e = .returned (.bool (relLess (x', (a', b', c', d'), f', M') (x, (a, b, c, d), f, M))) ∧ Below V.heap.size V w') := Lib.hid fun V => releaseLess_any x' a' b' c' d' x a b c d f' f _ _ M' M V ⟨_, _, _, rfl⟩ ⟨_, _, _, rfl⟩
            rcases hr : relLess (x', (a', b', c', d'), f', M') (x, (a, b, c, d), f, M)
            · have HF := Lib.hid (sh_row HX.out HO.out HPV.out hr)
              rw [hr] at KL
              clear hr
              go_wp2_with fail
              refine wp_region_quiet_below (by kernel_rfl) (by kernel_rfl) ?_
              repeat (any_goals (first | go_big_quiet_step ((go_at_call 94; exact Calls.regrown_of (KL.out _))) | quiet_step ((go_at_call 94; exact Calls.regrown_of (KL.out _)))))
              refine wpQuiet_nil ?_
              intro W2 hw
              have nn := quiet_end hw
              clear hw t0 t1 t2 t3 t4 t5 t6 u0 u1 u2 u3 u4 u5 u6
              go_wp2_with fail
              go_ret
              exact ⟨by rw [HF.out]; rfl, B2.out.trans (nn.mono B2.out.size)⟩
            · have HN := Lib.hid (show ∀ p, relAt S (m + 1) = some p → relLess p (x, (a, b, c, d), f, M) = true from fun p hp => by rw [HPV.out] at hp; cases hp; exact hr)
              rw [hr] at KL
              clear hr
              go_wp2_with fail
              refine wp_region_quiet_below (by kernel_rfl) (by kernel_rfl) ?_
              repeat (any_goals (first | go_big_quiet_step ((go_at_call 94; exact Calls.regrown_of (KL.out _))) | quiet_step ((go_at_call 94; exact Calls.regrown_of (KL.out _)))))
              refine wpQuiet_nil ?_
              intro W2 hw
              have nn := quiet_end hw
              clear hw t0 t1 t2 t3 t4 t5 t6 u0 u1 u2 u3 u4 u5 u6
              have HP := Lib.hid (sh_push HX.out HO.out HR.out HN.out (B2.out.trans (nn.mono B2.out.size)))
              go_wp2_with fail
              go_roundw
              case rel => exact HP.out
              case measure => simp [intOf]; omega
      · obtain rfl : k = S.length := by omega
        have HF := Lib.hid (show shOk S = true by unfold shOk; rw [HO.out, List.drop_length]; simp [shFrom, h30])
        go_wp2_with fail
        go_ret
        exact ⟨by rw [HF.out]; rfl, hb⟩
  · have HF := Lib.hid (show shOk S = false by unfold shOk; simp [h30])
    clear h
    go_enter Try.func60, Try.ntmps60
    go_wp2
    go_ret
    exact ⟨by rw [HF.out]; rfl, Below.refl _ _⟩

end Go.Proofs.Ytdjnfmekbjmdhaa

/- What a target of a world needs, as plain facts, and the contract of the program's WorldNeeds, over this seat's translation: it answers what needsL tells, in a row of its own; nothing that was there before the call has changed. Condition: at most 1048576 targets, lines, numbers and bytes of each. -/
import Derived.Test.YtopplljilmjjgaaWok
import Derived.Test.YtopplljilmjjgaaPot
namespace Go.Proofs.Ytopplljilmjjgaa
open Go.RowKit Go.Sort

namespace Wn
open Tg Wl Pot
def insAt (S : List Tgt) (j : Nat) : List Int := match S[j]? with | some x => x.2.2.2 | none => []
/-- Truths, of which some are set. -/
def mark (c : List Bool) (N : List Int) : List Bool := N.foldl (fun c n => c.set n.toNat true) c
def nd (S : List Tgt) (j : Nat) (c : List Bool) : List Bool := if c.getD j true = true then mark c (insAt S j) else c
def down (S : List Tgt) : Nat → List Bool → List Bool
  | 0, c => c
  | j + 1, c => down S j (nd S j c)
def start (n k : Nat) : List Bool := (List.replicate n false).set k true
def flags (S : List Tgt) (k : Nat) : List Bool := down S (k + 1) (start S.length k)
def needsL (S : List Tgt) (k : Int) : List Int := if wOk S = true ∧ 0 ≤ k ∧ k < (S.length : Int) then plF (flags S k.toNat) S.length else []
theorem mark_len : ∀ (N : List Int) (c : List Bool), (mark c N).length = c.length
  | [], _ => rfl
  | n :: t, c => by
    show (mark (c.set n.toNat true) t).length = _
    rw [mark_len t]
    simp
theorem mark_next {c : List Bool} {N : List Int} {j : Nat} {n : Int} (h : N[j]? = some n) : mark c (N.take (j + 1)) = (mark c (N.take j)).set n.toNat true := by
  unfold mark
  rw [List.take_add_one, h, List.foldl_append]
  rfl
theorem nd_len (S : List Tgt) (j : Nat) (c : List Bool) : (nd S j c).length = c.length := by
  unfold nd
  split
  · exact mark_len _ _
  · rfl
theorem down_len (S : List Tgt) : ∀ (j : Nat) (c : List Bool), (down S j c).length = c.length
  | 0, _ => rfl
  | j + 1, c => by rw [down, down_len S j, nd_len]
theorem start_len (n k : Nat) : (start n k).length = n := by simp [start]
theorem flags_len (S : List Tgt) (k : Nat) : (flags S k).length = S.length := by unfold flags; rw [down_len, start_len]
theorem needsL_len (S : List Tgt) (k : Int) : (needsL S k).length ≤ S.length := by
  unfold needsL
  split
  · exact plF_len _ _
  · exact Nat.zero_le _
theorem insAt_eq {S : List Tgt} {j : Nat} {x : Tgt} (h : S[j]? = some x) : insAt S j = x.2.2.2 := by unfold insAt; rw [h]
theorem insAt_in {S : List Tgt} (hw : wOk S = true) (j : Nat) : ∀ n ∈ insAt S j, 0 ≤ n ∧ n < (j : Int) := fun n hn => by
  unfold insAt at hn
  rcases e : S[j]? with _ | x
  · rw [e] at hn
    cases hn
  · rw [e] at hn
    exact insOk_mem (tOk_ins ((wOk_iff.1 hw).2 j x e)) n hn
theorem getD_set (c : List Bool) (i q : Nat) : (c.set i true).getD q true = if q = i then true else c.getD q true := by
  rw [List.getD_eq_getElem?_getD, List.getD_eq_getElem?_getD, List.getElem?_set]
  by_cases e : i = q
  · subst e
    rw [if_pos rfl, if_pos rfl]
    split <;> rfl
  · rw [if_neg e, if_neg (fun e' => e e'.symm)]
/-- Nothing behind a place is set. -/
def Hi (k : Nat) (c : List Bool) : Prop := ∀ q, k < q → q < c.length → c.getD q true = false
theorem Hi.set {k i : Nat} {c : List Bool} (h : Hi k c) (hi : i ≤ k) : Hi k (c.set i true) := fun q h1 h2 => by
  rw [getD_set, if_neg (by omega)]
  exact h q h1 (by simpa using h2)
theorem Hi.mark {k : Nat} : ∀ {N : List Int} {c : List Bool}, Hi k c → (∀ n ∈ N, n.toNat ≤ k) → Hi k (mark c N)
  | [], _, h, _ => h
  | n :: t, _, h, hn => Hi.mark (N := t) (h.set (hn n (List.mem_cons_self ..))) fun m hm => hn m (List.mem_cons_of_mem _ hm)
theorem hi_down {S : List Tgt} (hw : wOk S = true) {k : Nat} : ∀ (j : Nat) (c : List Bool), j ≤ k + 1 → Hi k c → Hi k (down S j c)
  | 0, _, _, h => h
  | j + 1, c, hj, h => by
    refine hi_down hw j _ (by omega) ?_
    unfold nd
    split
    · exact h.mark fun n hn => by have := insAt_in hw j n hn; omega
    · exact h
theorem hi_start (n k : Nat) : Hi k (start n k) := fun q h1 h2 => by
  unfold start at h2 ⊢
  rw [getD_set, if_neg (by omega)]
  have h3 : q < n := by simpa using h2
  rw [List.getD_eq_getElem?_getD, List.getElem?_replicate, if_pos h3]
  rfl
theorem plF_cut {k : Nat} {c : List Bool} (h : Hi k c) : ∀ m, k + 1 ≤ m → m ≤ c.length → plF c m = plF c (k + 1) := by
  intro m
  induction m with
  | zero => intro h1; omega
  | succ m ih =>
    intro h1 h2
    by_cases e : m + 1 = k + 1
    · rw [e]
    · show plF c m ++ _ = _
      rw [if_neg (by rw [h m (by omega) (by omega)]; decide), List.append_nil]
      exact ih (by omega) (by omega)
/-- Told up to the target itself it is the same. -/
theorem flags_cut {S : List Tgt} (hw : wOk S = true) {k : Nat} (hk : k < S.length) : plF (flags S k) S.length = plF (flags S k) (k + 1) :=
  plF_cut (hi_down hw (k + 1) _ (Nat.le_refl _) (hi_start _ _)) _ (by omega) (by rw [down_len, start_len]; exact Nat.le_refl _)

theorem infoBool : (Try.prog.info? 4).map (fun i => (i.zero, i.size, i.bytes)) = some (some (.bool false), 1, 1) := by kernel_rfl
theorem make_flags (n : Nat) (hn : n ≤ 1048576) (V : World) :
    (Instr.makeSlice 121 (.int .i64 (n : Int)) (.int .i64 (n : Int))).run Try.prog V = .ok (.slice (some ⟨V.heap.size, 0, none⟩) n n) (V.alloc (.cells (madeCells #[.bool false] (n * 1)) 4)) := by
  obtain ⟨i0, hi, hz0, hz1, hz2⟩ := info_parts infoBool
  have h := run_make (P := Try.prog) V 121 4 i0 _ Try.underlying121 hi hz0 .i64 .i64 (n : Int) (n : Int) (by omega) (Int.le_refl _) (by rw [hz2]; omega) (by omega)
  rw [hz1] at h
  simpa [Value.cells] using h
theorem made_flags (n : Nat) (V : World) : Fg (V.alloc (.cells (madeCells #[.bool false] (n * 1)) 4)) V.heap.size (List.replicate n false) := by
  have h := heap_alloc_new V (.cells (madeCells #[.bool false] (n * 1)) 4)
  have e : madeCells #[.bool false] (n * 1) = ((List.replicate n false).map Value.bool).toArray := by
    apply Array.ext
    · simp [size_madeCells]
    · intro i h1 h2
      simp [madeCells, Nat.mod_one]
  rw [e] at h
  rw [e]
  exact h
theorem made_start (n k : Nat) (V : World) : Fg (V.alloc (.cells ((madeCells #[.bool false] n).setIfInBounds k (.bool true)) 4)) V.heap.size (start n k) := by
  have h := heap_alloc_new V (.cells ((madeCells #[.bool false] n).setIfInBounds k (.bool true)) 4)
  have e : madeCells #[.bool false] n = ((List.replicate n false).map Value.bool).toArray := by
    apply Array.ext
    · simp [size_madeCells]
    · intro i h1 h2
      simp [madeCells, Nat.mod_one]
  have e2 : (madeCells #[.bool false] n).setIfInBounds k (.bool true) = ((start n k).map Value.bool).toArray := by
    rw [e]
    unfold start
    rw [List.map_set, List.setIfInBounds_toArray]
  rw [e2] at h
  rw [e2]
  exact h
theorem ib_mono {N : List Int} {lo lo' hi : Nat} {v : Value} {w : World} (h : IB N lo hi v w) (hl : lo' ≤ lo) : IB N lo' hi v w := by
  obtain ⟨a, cap, rfl, h⟩ := h
  refine ⟨a, cap, rfl, ?_⟩
  rcases h with h | ⟨b, n, rfl, hk, k1, k2⟩
  · exact .inl h
  · exact .inr ⟨b, n, rfl, hk, by omega, k2⟩
/-- What the loop over the targets, from one down, keeps. -/
def DnRel (S : List Tgt) (k : Nat) (B g : Nat) (w : World) (i : Value) (wr : World) : Prop :=
  ∃ (j : Nat) (c : List Bool), i = .int .i64 ((j : Int) - 1) ∧ j ≤ k + 1 ∧ c.length = S.length ∧ flags S k = down S j c ∧ Fg wr g c ∧ Below B w wr
/-- What the loop over the inputs keeps. -/
def MkRel (c : List Bool) (N : List Int) (B g : Nat) (w : World) (i : Value) (wr : World) : Prop :=
  ∃ q : Nat, q ≤ N.length ∧ i = .int .i64 (q : Int) ∧ Fg wr g (mark c (N.take q)) ∧ Below B w wr

set_option maxRecDepth 100000 in
set_option maxHeartbeats 4000000 in
theorem targetsNeeded_any (v : Value) (S : List Tgt) (k : Nat) (w : World) (hw : wOk S = true) (hk : k < S.length) (h : TgAt w w.heap.size v S) :
    Calls Try.prog 110 #[v, .int .i64 (k : Int)] w fun e w' => ∃ v, e = .returned v ∧ IB (plF (flags S k) S.length) w.heap.size w'.heap.size v w' ∧ Below w.heap.size w w' := by
  have hl12 := wOk_len hw
  have hmk := make_flags S.length (by omega) w
  have hg0 := made_flags S.length w
  rw [Nat.mul_one] at hmk hg0
  obtain ⟨a, cap, rfl, h⟩ := h
  have HH := Lib.hid h
  have HW := Lib.hid hw
  have d0 := hg0.cell (i := k) (by simpa using hk)
  have f0 := hg0.frozen (i := k)
  have hg1 := made_start S.length k w
  have b1 : Below w.heap.size w _ := (Below.refl w.heap.size w).alloc (Nat.le_refl _) (.cells ((madeCells #[.bool false] S.length).setIfInBounds k (.bool true)) 4)
  have HST := Lib.hid (show DnRel S k w.heap.size w.heap.size w (.int .i64 (k : Int)) _ from ⟨k + 1, start S.length k, by go_num, Nat.le_refl _, start_len _ _, rfl, hg1, b1⟩)
  have j0 : (0 : Int) ≤ (k : Int) := by omega
  have j1 : (k : Int) < (S.length : Int) := by omega
  clear h hw hg0 hg1 b1
  go_enter Try.func110, Try.ntmps110
  go_wp2_with fail
  go_loopw [6] (fun i wr => DnRel S k w.heap.size w.heap.size w i wr) (fun i _ => (intOf i + 1).toNat)
  case atStart => exact HST.out
  case round =>
    obtain ⟨j, c, rfl, hj, hcl, hfl, hfg, hb⟩ := hrel
    have HFL := Lib.hid hfl
    have zb := hb.size
    clear hfl
    rcases j with _ | j
    · have HP := Lib.hid (placesOfTrue_any w.heap.size S.length c wr (by omega) hfg)
      rw [hcl] at HP
      have HE := Lib.hid (show plF (flags S k) S.length = plF c S.length by rw [HFL.out]; rfl)
      have hn : ¬ ((0 : Int) ≤ ((0 : Nat) : Int) - 1) := by omega
      clear hfg
      go_wp2_with fail
      refine HP.out.mono ?_
      rintro e w2 ⟨v2, rfl, hi2, hb2⟩
      have HI := Lib.hid (ib_mono hi2 zb)
      have b2 := hb.trans (hb2.mono zb)
      clear hb hb2 hi2
      go_wp2_with fail
      go_ret
      exact ⟨_, rfl, by rw [HE.out]; exact HI.out, b2⟩
    · have ej : ((j + 1 : Nat) : Int) - 1 = (j : Int) := by omega
      rw [ej]
      have hjl : j < S.length := by omega
      have dj := hfg.cell (i := j) (by omega)
      rcases HH.out with hx | ⟨b, o, rfl, hB, hc⟩
      · subst hx
        exact absurd hjl (by simp)
      obtain ⟨m, t, L, N, hxy⟩ : ∃ m t L N, S[j] = (m, t, L, N) := ⟨_, _, _, _, rfl⟩
      have cc := (hc j hjl).below hb hB
      have HX := Lib.hid (show S[j]? = some (m, t, L, N) by rw [List.getElem?_eq_getElem hjl, hxy])
      rw [hxy] at cc
      obtain ⟨_, a1, c1, a2, c2, _, e3, _, hi'⟩ := cc
      simp only at e3 hi'
      have HIN := Lib.hid (by have := insAt_in HW.out j; rw [insAt_eq HX.out] at this; exact this : ∀ n ∈ N, 0 ≤ n ∧ n < (j : Int))
      have hNl : N.length ≤ 12 := (by have := insOk_len (tOk_ins ((wOk_iff.1 HW.out).2 j _ HX.out)); simp only at this; omega)
      have i0 : (0 : Int) ≤ (j : Int) := by omega
      have i1 : (j : Int) < (S.length : Int) := by omega
      clear hc hxy
      rcases hh : c.getD j true
      · have HN := Lib.hid (show flags S k = down S j c by rw [HFL.out]; show down S j (nd S j c) = _; unfold nd; rw [if_neg (by rw [hh]; decide)])
        rw [hh] at dj
        have HFG := Lib.hid hfg
        clear hh hfg hi'
        go_wp2_with fail
        go_roundw
        case rel => exact ⟨j, c, by go_num, by omega, hcl, HN.out, HFG.out, hb⟩
        case measure => simp [intOf] <;> omega
      · have HN := Lib.hid (show flags S k = down S j (mark c N) by rw [HFL.out]; show down S j (nd S j c) = _; unfold nd; rw [if_pos hh, insAt_eq HX.out])
        rw [hh] at dj
        have HST2 := Lib.hid (show MkRel c N w.heap.size w.heap.size w (.int .i64 0) wr from ⟨0, Nat.zero_le _, rfl, by rw [List.take_zero]; exact hfg, hb⟩)
        have HI' := Lib.hid (show ∀ V, Below w.heap.size w V → ∀ q (hq : q < N.length), ∃ b' o', a2 = some ⟨b', o', none⟩ ∧ V.cell? ⟨b', o' + q, none⟩ = some (.int .i64 N[q]) from fun V g q hq => by
          obtain ⟨a3, c3, ee, hcs⟩ := hi'
          simp only [Value.slice.injEq] at ee
          obtain ⟨rfl, _, rfl⟩ := ee
          rcases hcs with hz | ⟨b', o', rfl, hB', hcs⟩
          · subst hz
            exact absurd hq (by simp)
          · exact ⟨b', o', rfl, ((g.cell (p := ⟨b', o' + q, none⟩) hB').trans ((hb.cell (p := ⟨b', o' + q, none⟩) hB').symm)).trans (hcs q hq)⟩)
        clear hh hfg hi'
        go_wp2_with fail
        go_loopw [30] (fun i wr2 => MkRel c N w.heap.size w.heap.size w i wr2) (fun i _ => N.length - (intOf i).toNat)
        case atStart => exact HST2.out
        case round =>
          obtain ⟨q, hq, rfl, hfg2, hb2⟩ := hrel
          have hml : (mark c (N.take q)).length = S.length := by rw [mark_len]; exact hcl
          by_cases hql : q < N.length
          · obtain ⟨b', o', ha2, e5⟩ := HI'.out _ hb2 q hql
            subst ha2
            obtain ⟨n, hn⟩ : ∃ n, N[q] = n := ⟨_, rfl⟩
            rw [hn] at e5
            have HXQ := Lib.hid (show N[q]? = some n by rw [List.getElem?_eq_getElem hql, hn])
            obtain ⟨n0, n1⟩ := HIN.out n (List.mem_of_getElem? HXQ.out)
            obtain ⟨z, rfl⟩ : ∃ z : Nat, n = (z : Int) := ⟨n.toNat, by omega⟩
            have hzl : z < S.length := by omega
            have dz := hfg2.cell (i := z) (by rw [hml]; exact hzl)
            have fz := hfg2.frozen (i := z)
            have q0 : (0 : Int) ≤ (q : Int) := by omega
            have q1 : (q : Int) < (N.length : Int) := by omega
            have z1 : (z : Int) < (S.length : Int) := by omega
            have HR := Lib.hid (show MkRel c N w.heap.size w.heap.size w (.int .i64 ((q : Int) + 1)) _ from ⟨q + 1, by omega, by go_num, by rw [mark_next HXQ.out, Int.toNat_natCast]; exact hfg2.set true, hb2.setCell (p := ⟨w.heap.size, z, none⟩) (Nat.le_refl _) (.bool true)⟩)
            clear hfg2 hn hml
            go_wp2_with fail
            go_roundw
            case rel => exact HR.out
            case measure => simp [intOf] <;> omega
          · obtain rfl : q = N.length := by omega
            rw [List.take_length] at hfg2 hml
            have HFG := Lib.hid hfg2
            clear hfg2
            go_wp2_with fail
            go_roundw
            case rel => exact ⟨j, _, by go_num, by omega, hml, HN.out, HFG.out, hb2⟩
            case measure => simp [intOf] <;> omega

/-- What WorldNeeds answers. -/
def WnPost (S : List Tgt) (k : Int) (w : World) (e : Ending) (w' : World) : Prop := ∃ v, e = .returned v ∧ IB (needsL S k) w.heap.size w'.heap.size v w' ∧ Below w.heap.size w w'
theorem ib_no (lo hi : Nat) (a : Option Addr) (c : Nat) (w : World) : IB [] lo hi (.slice a 0 c) w := ⟨a, c, rfl, .inl rfl⟩
theorem needsL_no {S : List Tgt} {k : Int} (h : ¬ (wOk S = true ∧ 0 ≤ k ∧ k < (S.length : Int))) : needsL S k = [] := by unfold needsL; rw [if_neg h]
theorem needsL_yes {S : List Tgt} {k : Nat} (h : wOk S = true) (hk : k < S.length) : needsL S (k : Int) = plF (flags S k) S.length := by unfold needsL; rw [if_pos ⟨h, by omega, by omega⟩, Int.toNat_natCast]

set_option maxRecDepth 100000 in
set_option maxHeartbeats 4000000 in
theorem implNeeds_any (v : Value) (S : List Tgt) (k : Int) (w : World) (hl : S.length ≤ 1048576) (hq : ∀ q ∈ S, Par q) (h : TgAt w w.heap.size v S) :
    Calls Try.prog 55 #[v, .int .i64 k] w (WnPost S k w) := by
  have KW := Lib.hid (implWorldOk_any v S w hl hq h)
  obtain ⟨a, cap, rfl, x⟩ := id h
  clear x
  have H := Lib.hid h
  clear h hq
  rcases hw : wOk S
  · have HE := Lib.hid (show needsL S k = [] from needsL_no (fun e => by rw [hw] at e; exact absurd e.1 (by decide)))
    rw [hw] at KW
    go_enter Try.func55, Try.ntmps55
    go_wp2_with fail
    refine KW.out.mono ?_
    rintro e w1 ⟨rfl, hb⟩
    go_wp2_with fail
    go_ret
    exact ⟨_, rfl, by rw [HE.out]; exact ib_no _ _ _ _ _, hb⟩
  rw [hw] at KW
  by_cases g0 : k < 0
  · have HE := Lib.hid (show needsL S k = [] from needsL_no (by omega))
    go_enter Try.func55, Try.ntmps55
    go_wp2_with fail
    refine KW.out.mono ?_
    rintro e w1 ⟨rfl, hb⟩
    go_wp2_with fail
    go_ret
    exact ⟨_, rfl, by rw [HE.out]; exact ib_no _ _ _ _ _, hb⟩
  obtain ⟨n, rfl⟩ : ∃ n : Nat, k = (n : Int) := ⟨k.toNat, by omega⟩
  by_cases g1 : S.length ≤ n
  · have HE := Lib.hid (show needsL S (n : Int) = [] from needsL_no (by omega))
    have g1' : (S.length : Int) ≤ (n : Int) := by omega
    go_enter Try.func55, Try.ntmps55
    go_wp2_with fail
    refine KW.out.mono ?_
    rintro e w1 ⟨rfl, hb⟩
    go_wp2_with fail
    go_ret
    exact ⟨_, rfl, by rw [HE.out]; exact ib_no _ _ _ _ _, hb⟩
  have hn : n < S.length := by omega
  have HE := Lib.hid (needsL_yes hw hn)
  have KT := Lib.hid fun V (g : Below w.heap.size w V) => targetsNeeded_any (.slice a S.length cap) S n V hw hn (H.out.stepAt g)
  have g1' : ¬ (S.length : Int) ≤ (n : Int) := by omega
  go_enter Try.func55, Try.ntmps55
  go_wp2_with fail
  refine KW.out.mono ?_
  rintro e w1 ⟨rfl, hb⟩
  have b1 := hb
  clear hb
  go_wp2_with fail
  refine (KT.out _ b1).mono ?_
  rintro e w2 ⟨v2, rfl, hi2, hb2⟩
  have HI := Lib.hid (ib_mono hi2 b1.size)
  have b2 := b1.trans (hb2.mono b1.size)
  clear hb2 hi2 b1
  go_wp2_with fail
  go_ret
  exact ⟨_, rfl, by rw [HE.out]; exact HI.out, b2⟩
end Wn
end Go.Proofs.Ytopplljilmjjgaa

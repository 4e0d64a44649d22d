/- The contract of the model's ShelfPut, over this seat's translation: a new shelf with a release more, all that it stands on new and different, or none; nothing that was there before the call has changed. Condition: at most 1048576 releases, needs of each and spans of those. -/
import Derived.Deep.RegionHeld3
import Derived.Test.YtgnjhmmedogcoaaGw
import Derived.Test.YtgnjhmmedogcoaaGd
import Derived.Test.YtgnjhmmedogcoaaGh
import Derived.Test.YtgnjhmmedogcoaaGf
namespace Go.Proofs.Ytgnjhmmedogcoaa
open Go.RowKit Go.Sort

namespace Copy
open Foot Shal
/-- A shelf with a release more. -/
def putL (x : Rel) (S : List Rel) : List Rel := S.take (befL x S) ++ [x] ++ S.drop (befL x S)
def putOk (x : Rel) (S : List Rel) : Bool := shOk S && shOk (putL x S)
def PutPost (x : Rel) (S : List Rel) (w : World) (e : Ending) (w' : World) : Prop :=
  ∃ v fs, e = .returned (.tuple #[v, .bool (putOk x S)]) ∧ RGrow w' w.heap.size v (if putOk x S = true then putL x S else []) fs ∧ Below w.heap.size w w'
theorem shOk_len {S : List Rel} (h : shOk S = true) : S.length ≤ 30 := by
  unfold shOk at h
  rw [Bool.and_eq_true, decide_eq_true_eq] at h
  exact h.2
theorem relLess_eq {x : Int} {a b c d x' a' b' c' d' : Int} {f f' : Bool} {M M' : List Nd} (h : x' = x) : relLess (x', (a', b', c', d'), f', M') (x, (a, b, c, d), f, M) = vLess a' b' c' d' a b c d := by unfold relLess; simp only; rw [if_pos h]
theorem relLess_ne {x : Int} {a b c d x' a' b' c' d' : Int} {f f' : Bool} {M M' : List Nd} (h : ¬ x' = x) : relLess (x', (a', b', c', d'), f', M') (x, (a, b, c, d), f, M) = decide (x' < x) := by unfold relLess; simp only; rw [if_neg h]

/-- The two parts of a shelf between which a release goes, as rows to be appended. -/
theorem put_src {w w3 : World} {sb so k : Nat} {S : List Rel} (hk : k ≤ S.length) (hc : ∀ i (h : i < S.length), RlC w w.heap.size sb (so + i * 7) S[i]) (hB : S = [] ∨ sb < w.heap.size) (n3 : Below w.heap.size w w3) :
    ∃ N1 N3 : List Value, N1.length = k * 7 ∧ N3.length = (S.length - k) * 7 ∧ ShEl w3 w.heap.size N1 (S.take k) ∧ ShEl w3 w.heap.size N3 (S.drop k) ∧ (∀ u ∈ N1, u.oneCell' = true) ∧ (∀ u ∈ N3, u.oneCell' = true) ∧
      (∀ V, Below w.heap.size w V → ∀ j u, N1[j]? = some u → V.cell? ((⟨sb, so, none⟩ : Addr).add j) = some u) ∧ (∀ V, Below w.heap.size w V → ∀ j u, N3[j]? = some u → V.cell? ((⟨sb, so + k * 7, none⟩ : Addr).add j) = some u) := by
  have hl1 : (S.take k).length = k := by simp; omega
  have hl3 : (S.drop k).length = S.length - k := by simp
  obtain ⟨a1, a2, a3⟩ := rel_rows (w := w) (B := w.heap.size) (b := sb) (o := so) (S := S.take k) (fun i hi => by rw [List.getElem_take]; exact hc i (by omega))
  obtain ⟨c1, c2, c3⟩ := rel_rows (w := w) (B := w.heap.size) (b := sb) (o := so + k * 7) (S := S.drop k) (fun i hi => by rw [List.getElem_drop, show so + k * 7 + i * 7 = so + (k + i) * 7 by omega]; exact hc (k + i) (by omega))
  have old : ∀ {V : World} {o j : Nat}, 0 < S.length → Below w.heap.size w V → V.cell? ((⟨sb, o, none⟩ : Addr).add j) = w.cell? ((⟨sb, o, none⟩ : Addr).add j) := fun {V o j} hp hV => by
    have hadd : (⟨sb, o, none⟩ : Addr).add j = ⟨sb, o + j, none⟩ := by unfold Addr.add; split <;> simp_all
    rw [hadd]
    rcases hB with rfl | hB
    · simp at hp
    · exact hV.cell (p := ⟨sb, o + j, none⟩) hB
  refine ⟨_, _, a1.trans (by rw [hl1]), c1.trans (by rw [hl3]), a2.below n3, c2.below n3, a2.cells a1, c2.cells c1, fun V hV j u hu => ?_, fun V hV j u hu => ?_⟩
  · have := (List.getElem?_eq_some_iff.1 hu).1
    exact (old (by omega) hV).trans (a3 j u hu)
  · have := (List.getElem?_eq_some_iff.1 hu).1
    exact (old (by omega) hV).trans (c3 j u hu)
theorem put_end {w6 : World} {B n c3 : Nat} {a3 : Option Addr} {S1 S3 P : List Rel} {x : Rel} {N1 N3 xc : List Value} (hown : w6.ownsRow B 63 7 (.slice a3 n c3) n (N1 ++ xc ++ N3)) (hn : n = P.length) (hP : P = S1 ++ [x] ++ S3)
    (l1 : N1.length = S1.length * 7) (lx : xc.length = 7) (h1 : ShEl w6 B N1 S1) (hx : ShEl w6 B xc [x]) (h3 : ShEl w6 B N3 S3) : RSh w6 B (.slice a3 n c3) P := by
  subst hP
  subst hn
  exact ⟨_, hown, (h1.append l1 hx).append (by simp [l1, lx]; omega) h3⟩
theorem own_fresh {V : World} {B g : Nat} (hg : V.heap[g]? = some (.cells #[] 63 (0, 0))) (hB : B ≤ g) : V.ownsRow B 63 7 (.slice (some ⟨g, 0, none⟩) 0 0) 0 [] :=
  ⟨rfl, .inr ⟨g, 0, #[], rfl, hB, hg, Nat.le_refl _, by unfold maxLen; omega, rfl, rfl⟩⟩

set_option maxRecDepth 100000 in
set_option maxHeartbeats 8000000 in
theorem specShelfPut_any (sa : Option Addr) (caps : Nat) (S : List Rel) (x a b c d : Int) (f : Bool) (ad : Option Addr) (cap : Nat) (M : List Nd) (w : World) (h : RlAt w w.heap.size (.slice sa S.length caps) S) (hform : (sa = none ∧ caps = 0 ∧ S = []) ∨ ∃ b o, sa = some ⟨b, o, none⟩) (hcap : S.length ≤ caps) (hl : S.length ≤ 1048576) (hq : ∀ q ∈ S, q.2.2.2.length ≤ 1048576 ∧ ∀ p ∈ q.2.2.2, p.2.length ≤ 1048576)
    (hx : NdAt w w.heap.size (.slice ad M.length cap) M) (hM : M.length ≤ 1048576 ∧ ∀ p ∈ M, p.2.length ≤ 1048576) :
    Calls Try.prog 95 #[.slice sa S.length caps, rels x a b c d f (.slice ad M.length cap)] w (PutPost (x, (a, b, c, d), f, M) S w) := by
  obtain ⟨i0, hi, hz0, hz1, hz2⟩ := info_parts infoRelease
  obtain ⟨w1, hw1⟩ : ∃ V : World, V = w.alloc (.cells #[.int .i64 x, .int .i64 a, .int .i64 b, .int .i64 c, .int .i64 d, .bool f, .slice ad M.length cap] 63) := ⟨_, rfl⟩
  have b1 : Below w.heap.size w w1 := by rw [hw1]; exact (Below.refl w.heap.size w).alloc (Nat.le_refl _) _
  have z1 : w.heap.size + 1 ≤ w1.heap.size := by rw [hw1]; simp
  have q0 : w1.cell? ⟨w.heap.size, 0, none⟩ = some (.int .i64 x) := by rw [hw1]; go_simp
  have q1 : w1.cell? ⟨w.heap.size, 1, none⟩ = some (.int .i64 a) := by rw [hw1]; go_simp
  have q2 : w1.cell? ⟨w.heap.size, 2, none⟩ = some (.int .i64 b) := by rw [hw1]; go_simp
  have q3 : w1.cell? ⟨w.heap.size, 3, none⟩ = some (.int .i64 c) := by rw [hw1]; go_simp
  have q4 : w1.cell? ⟨w.heap.size, 4, none⟩ = some (.int .i64 d) := by rw [hw1]; go_simp
  have q5 : w1.cell? ⟨w.heap.size, 5, none⟩ = some (.bool f) := by rw [hw1]; go_simp
  have q6 : w1.cell? ⟨w.heap.size, 6, none⟩ = some (.slice ad M.length cap) := by rw [hw1]; go_simp
  have H := Lib.hid h
  have HX := Lib.hid hx
  have KA : Hid (∀ V, RlAt V V.heap.size (.slice sa S.length caps) S → Calls Try.prog 52 #[.slice sa S.length caps] V fun e w' => e = .returned (.bool (shOk S)) ∧ Below V.heap.size V w') := Lib.hid fun V g => specShelfOk_any _ S V (by omega) hq g
  go_enter Try.func95, Try.ntmps95
  go_upto_region 1 with fail
  rw [← hw1]
  clear hw1
  rcases ho : shOk S
  · rw [ho] at KA
    have HP := Lib.hid (show putOk (x, (a, b, c, d), f, M) S = false by unfold putOk; rw [ho]; rfl)
    clear ho q0 q1 q2 q3 q4 q5 q6 hx h
    go_wp2_with fail
    refine (KA.out _ (H.out.stepAt b1)).mono ?_
    rintro e w2 ⟨rfl, hb⟩
    have n2 := b1.trans (hb.mono b1.size)
    clear hb
    go_wp2_with fail
    exact bodyPost_ret (v := .tuple #[.slice (some ⟨w2.heap.size, 0, none⟩) 0 0, .bool false]) (by simp [results, Try.results95, go_sem]) rfl
      ⟨_, [], by rw [HP.out], by rw [if_neg (by rw [HP.out]; decide)]; exact RGrow.made rfl n2.size, n2.trans (((Below.refl _ _).alloc (Nat.le_refl _) _).mono n2.size)⟩
  · rw [ho] at KA
    have hS30 := shOk_len ho
    have HOK := Lib.hid ho
    clear ho hx h
    go_wp2_with fail
    refine (KA.out _ (H.out.stepAt b1)).mono ?_
    rintro e w2 ⟨rfl, hb⟩
    have n2 := b1.trans (hb.mono b1.size)
    obtain ⟨hc2, hf2⟩ := bcells hb
    have y0 := (hc2 w.heap.size 0 (by omega)).trans q0
    have y1 := (hc2 w.heap.size 1 (by omega)).trans q1
    have y2 := (hc2 w.heap.size 2 (by omega)).trans q2
    have y3 := (hc2 w.heap.size 3 (by omega)).trans q3
    have y4 := (hc2 w.heap.size 4 (by omega)).trans q4
    have y5 := (hc2 w.heap.size 5 (by omega)).trans q5
    have y6 := (hc2 w.heap.size 6 (by omega)).trans q6
    have z2 : w.heap.size + 1 ≤ w2.heap.size := by have := hb.size; omega
    clear hb hc2 hf2 q0 q1 q2 q3 q4 q5 q6 KA
    have HY := Lib.hid (show w2.cell? ⟨w.heap.size, 0, none⟩ = some (.int .i64 x) ∧ w2.cell? ⟨w.heap.size, 1, none⟩ = some (.int .i64 a) ∧ w2.cell? ⟨w.heap.size, 2, none⟩ = some (.int .i64 b) ∧ w2.cell? ⟨w.heap.size, 3, none⟩ = some (.int .i64 c) ∧ w2.cell? ⟨w.heap.size, 4, none⟩ = some (.int .i64 d) ∧ w2.cell? ⟨w.heap.size, 5, none⟩ = some (.bool f) ∧ w2.cell? ⟨w.heap.size, 6, none⟩ = some (.slice ad M.length cap) from ⟨y0, y1, y2, y3, y4, y5, y6⟩)
    go_upto_region 3 with fail
    go_cut [6] from 8 (fun i wx => i = .int .i64 0 ∧ w2 = wx)
    case first =>
      go_wp2_with fail
      go_meet
      case rel => exact ⟨rfl, rfl⟩
    obtain ⟨rfl, rfl⟩ := hcut
    refine ‹∀ (a : Act) (w : World), Code.wp _ _ _ a w → _› _ _ ?_
    apply wp_seq_k
    intro K2 hK2
    go_cut [6] from 8 (fun i wx => i = .int .i64 (befL (x, (a, b, c, d), f, M) S : Nat) ∧ Below w2.heap.size w2 wx)
    case first =>
      go_wp2_with fail
      go_loopw [6] (fun i wr => BfRel S (x, (a, b, c, d), f, M) w2 i wr) (fun i _ => S.length - (intOf i).toNat)
      case atStart => exact ⟨0, Nat.zero_le _, rfl, by simp, Below.refl _ _⟩
      case round =>
        obtain ⟨k, hk, rfl, hbe, hb⟩ := hrel
        have HE := Lib.hid hbe
        have hw : Below w.heap.size w wr := n2.trans (hb.mono (by omega))
        have lt1 : w.heap.size < w2.heap.size := by omega
        have t0 := cell_regrown ((hb.cell (p := ⟨w.heap.size, 0, none⟩) lt1).trans y0)
        have t1 := cell_regrown ((hb.cell (p := ⟨w.heap.size, 1, none⟩) lt1).trans y1)
        have t2 := cell_regrown ((hb.cell (p := ⟨w.heap.size, 2, none⟩) lt1).trans y2)
        have t3 := cell_regrown ((hb.cell (p := ⟨w.heap.size, 3, none⟩) lt1).trans y3)
        have t4 := cell_regrown ((hb.cell (p := ⟨w.heap.size, 4, none⟩) lt1).trans y4)
        clear hbe y0 y1 y2 y3 y4 y5 y6
        by_cases hlt : k < S.length
        · obtain ⟨sb, so, rfl, hB, hc⟩ : ∃ b o, sa = some ⟨b, o, none⟩ ∧ b < w.heap.size ∧ ∀ i (h : i < S.length), RlC w w.heap.size b (o + i * 7) S[i] := by
            obtain ⟨sa', c', e, hh⟩ := H.out
            simp only [Value.slice.injEq] at e
            obtain ⟨rfl, _, _⟩ := e
            rcases hh with rfl | hh
            · simp at hlt
            · exact hh
          obtain ⟨x', a', b', c', d', f', M', hxy⟩ : ∃ x a b c d f M, S[k] = (x, (a, b, c, d), f, M) := ⟨_, _, _, _, _, _, _, rfl⟩
          have e := (hc k hlt).below hw hB
          rw [hxy] at e
          obtain ⟨⟨e0, e1, e2, e3, e4, e5⟩, ad', cap', e6, hs⟩ := e
          simp only at e0 e1 e2 e3 e4 e5 e6
          have HY2 := Lib.hid (show S[k]? = some (x', (a', b', c', d'), f', M') by rw [List.getElem?_eq_getElem hlt, hxy])
          clear hxy hs hc
          have j0 : (0 : Int) ≤ (k : Int) := by omega
          have j1 : (k : Int) < (S.length : Int) := by omega
          have u0 := cell_regrown e0
          have u1 := cell_regrown e1
          have u2 := cell_regrown e2
          have u3 := cell_regrown e3
          have u4 := cell_regrown e4
          clear e0 e1 e2 e3 e4 e5 e6
          have KL : Hid (∀ V, Calls Try.prog 86 #[ver a' b' c' d', ver a b c d] V fun e w' => e = .returned (.bool (vLess a' b' c' d' a b c d)) ∧ Below V.heap.size V w') := Lib.hid fun V => specLess_any a' b' c' d' a b c d V
          by_cases hgt : x' < x
          · have HF := Lib.hid (bef_yes HY2.out (by rw [relLess_ne (by omega)]; exact decide_eq_true hgt) HE.out)
            go_wp2_with fail
            refine wp_region_quiet_below (by kernel_rfl) (by kernel_rfl) ?_
            repeat (any_goals (first | go_big_quiet_step (fail) | quiet_step (fail)))
            refine wpQuiet_nil ?_
            intro W2 hw2
            have nn := quiet_end hw2
            clear hw2 t0 t1 t2 t3 t4 u0 u1 u2 u3 u4
            have HB := Lib.hid (hb.trans (nn.mono hb.size))
            go_wp2_with fail
            go_roundw
            case rel => exact ⟨k + 1, by omega, by go_num, HF.out, HB.out⟩
            case measure => simp [intOf]; omega
          have hgtD : decide (x' < x) = false := decide_eq_false hgt
          by_cases heq : x' = x
          · have hz : (x' == x) = true := by simp [heq]
            rcases hv : vLess a' b' c' d' a b c d
            · have HF := Lib.hid (bef_no HY2.out ((relLess_eq heq).trans hv) HE.out)
              rw [hv] at KL
              clear hv
              go_wp2_with fail
              refine wp_region_quiet_below (by kernel_rfl) (by kernel_rfl) ?_
              repeat (any_goals (first | go_big_quiet_step ((go_at_call 86; exact Calls.regrown_of (KL.out _))) | quiet_step ((go_at_call 86; exact Calls.regrown_of (KL.out _)))))
              refine wpQuiet_nil ?_
              intro W2 hw2
              have nn := quiet_end hw2
              clear hw2 t0 t1 t2 t3 t4 u0 u1 u2 u3 u4
              have HB := Lib.hid (hb.trans (nn.mono hb.size))
              go_wp2_with fail
              go_meet
              case rel => exact ⟨by rw [HF.out], HB.out⟩
            · have HF := Lib.hid (bef_yes HY2.out ((relLess_eq heq).trans hv) HE.out)
              rw [hv] at KL
              clear hv
              go_wp2_with fail
              refine wp_region_quiet_below (by kernel_rfl) (by kernel_rfl) ?_
              repeat (any_goals (first | go_big_quiet_step ((go_at_call 86; exact Calls.regrown_of (KL.out _))) | quiet_step ((go_at_call 86; exact Calls.regrown_of (KL.out _)))))
              refine wpQuiet_nil ?_
              intro W2 hw2
              have nn := quiet_end hw2
              clear hw2 t0 t1 t2 t3 t4 u0 u1 u2 u3 u4
              have HB := Lib.hid (hb.trans (nn.mono hb.size))
              go_wp2_with fail
              go_roundw
              case rel => exact ⟨k + 1, by omega, by go_num, HF.out, HB.out⟩
              case measure => simp [intOf]; omega
          · have hz : (x' == x) = false := by rw [beq_eq_false_iff_ne]; exact heq
            have HF := Lib.hid (bef_no HY2.out ((relLess_ne heq).trans hgtD) HE.out)
            go_wp2_with fail
            refine wp_region_quiet_below (by kernel_rfl) (by kernel_rfl) ?_
            repeat (any_goals (first | go_big_quiet_step (fail) | quiet_step (fail)))
            refine wpQuiet_nil ?_
            intro W2 hw2
            have nn := quiet_end hw2
            clear hw2 t0 t1 t2 t3 t4 u0 u1 u2 u3 u4
            have HB := Lib.hid (hb.trans (nn.mono hb.size))
            go_wp2_with fail
            go_meet
            case rel => exact ⟨by rw [HF.out], HB.out⟩
        · obtain rfl : k = S.length := by omega
          have hbz : befL (x, (a, b, c, d), f, M) S = S.length := by have := HE.out; rw [List.drop_length] at this; simpa [befL] using this
          have HF := Lib.hid hbz
          clear hbz
          go_wp2_with fail
          refine wp_region_quiet_below (by kernel_rfl) (by kernel_rfl) ?_
          repeat (any_goals (first | go_big_quiet_step (fail) | quiet_step (fail)))
          refine wpQuiet_nil ?_
          intro W2 hw2
          have nn := quiet_end hw2
          clear hw2 t0 t1 t2 t3 t4
          have HB := Lib.hid (hb.trans (nn.mono hb.size))
          go_wp2_with fail
          go_meet
          case rel => exact ⟨by rw [HF.out], HB.out⟩
    case rest =>
      rename World => w3
      obtain ⟨rfl, hb⟩ := hcut
      have n3 := n2.trans (hb.mono (by omega))
      have hk := befL_le (x, (a, b, c, d), f, M) S
      have z3 : w.heap.size + 1 ≤ w3.heap.size := by have := hb.size; omega
      obtain ⟨hc3, hf3⟩ := bcells hb
      have t0 := (hc3 w.heap.size 0 (by omega)).trans y0
      have t1 := (hc3 w.heap.size 1 (by omega)).trans y1
      have t2 := (hc3 w.heap.size 2 (by omega)).trans y2
      have t3 := (hc3 w.heap.size 3 (by omega)).trans y3
      have t4 := (hc3 w.heap.size 4 (by omega)).trans y4
      have t5 := (hc3 w.heap.size 5 (by omega)).trans y5
      have t6 := (hc3 w.heap.size 6 (by omega)).trans y6
      clear hb hc3 hf3 y0 y1 y2 y3 y4 y5 y6
      have HXP := Lib.hid (show putL (x, (a, b, c, d), f, M) S = S.take (befL (x, (a, b, c, d), f, M) S) ++ [(x, (a, b, c, d), f, M)] ++ S.drop (befL (x, (a, b, c, d), f, M) S) from rfl)
      generalize befL (x, (a, b, c, d), f, M) S = k at hk HXP ⊢
      have k0 : (0 : Int) ≤ (k : Int) := by omega
      have k1 : (k : Int) ≤ (S.length : Int) := by omega
      have k2 : (k : Int) ≤ (caps : Int) := by omega
      have k3 : (S.length : Int) ≤ (caps : Int) := by omega
      refine hK2 _ _ ?_
      apply wp_seq_k
      intro K3 hK3
      go_cut [7] from 8 (fun p wx => RSh wx w3.heap.size p (putL (x, (a, b, c, d), f, M) S) ∧ Below w3.heap.size w3 wx)
      case first =>
        rcases hform with ⟨rfl, rfl, rfl⟩ | ⟨sb, so, rfl⟩
        · obtain rfl : k = 0 := by simpa using hk
          have HNX := Lib.hid (show NdAt w3 w3.heap.size (.slice ad M.length cap) M from HX.out.stepAt n3)
          have hoa : (w3.alloc (.cells #[] 63)).ownsRow w3.heap.size 63 7 (.slice (some ⟨w3.heap.size, 0, none⟩) 0 0) 0 [] := own_fresh (heap_alloc_new w3 _) (Nat.le_refl _)
          have hob := hoa.alloc (.cells #[.int .i64 x, .int .i64 a, .int .i64 b, .int .i64 c, .int .i64 d, .bool f, .slice ad M.length cap] 63)
          have hoc : ((w3.alloc (.cells #[.int .i64 x, .int .i64 a, .int .i64 b, .int .i64 c, .int .i64 d, .bool f, .slice ad M.length cap] 63)).alloc (.cells #[] 63)).ownsRow w3.heap.size 63 7 (.slice (some ⟨w3.heap.size + 1, 0, none⟩) 0 0) 0 [] := own_fresh (by simpa using heap_alloc_new (w3.alloc (.cells #[.int .i64 x, .int .i64 a, .int .i64 b, .int .i64 c, .int .i64 d, .bool f, .slice ad M.length cap] 63)) (.cells #[] 63)) (by omega)
          have hxb : ((w3.alloc (.cells #[] 63)).alloc (.cells #[.int .i64 x, .int .i64 a, .int .i64 b, .int .i64 c, .int .i64 d, .bool f, .slice ad M.length cap] 63)).heap[w3.heap.size + 1]? = some (.cells #[.int .i64 x, .int .i64 a, .int .i64 b, .int .i64 c, .int .i64 d, .bool f, .slice ad M.length cap] 63 (0, 0)) := by simpa using heap_alloc_new (w3.alloc (.cells #[] 63)) (.cells #[.int .i64 x, .int .i64 a, .int .i64 b, .int .i64 c, .int .i64 d, .bool f, .slice ad M.length cap] 63)
          have hxc : ((w3.alloc (.cells #[.int .i64 x, .int .i64 a, .int .i64 b, .int .i64 c, .int .i64 d, .bool f, .slice ad M.length cap] 63)).alloc (.cells #[] 63)).heap[w3.heap.size]? = some (.cells #[.int .i64 x, .int .i64 a, .int .i64 b, .int .i64 c, .int .i64 d, .bool f, .slice ad M.length cap] 63 (0, 0)) := (Below.heap_alloc _ _ _ (by simp)).trans (heap_alloc_new w3 _)
          have HOA := Lib.hid hoa
          have HOB := Lib.hid hob
          have HOC := Lib.hid hoc
          have HXB := Lib.hid hxb
          have HXC := Lib.hid hxc
          clear hoa hob hoc hxb hxc
          go_region_held3 (fun V => V.cell? ⟨w.heap.size, 0, none⟩ = some (.int .i64 x) ∧ V.cell? ⟨w.heap.size, 1, none⟩ = some (.int .i64 a) ∧ V.cell? ⟨w.heap.size, 2, none⟩ = some (.int .i64 b) ∧ V.cell? ⟨w.heap.size, 3, none⟩ = some (.int .i64 c) ∧ V.cell? ⟨w.heap.size, 4, none⟩ = some (.int .i64 d) ∧ V.cell? ⟨w.heap.size, 5, none⟩ = some (.bool f) ∧ V.cell? ⟨w.heap.size, 6, none⟩ = some (.slice ad M.length cap)) (go_keep)
            (first
              | (refine step_append_rows _ rfl (.tmp 48) (.tmp 51) 29 rfl w3.heap.size 63 i0 (.agg #[.int .i64 0, .int .i64 0, .int .i64 0, .int .i64 0, .int .i64 0, .bool false, .slice none 0 0]) 7 72 Try.underlying29 hi hz0 hz1 hz2 rfl (by decide) _ _ [] (by rfl) (by first | exact HOA.out | exact HOB.out | exact HOC.out) none 0 0 [] (by rfl) rfl (fun _ => ⟨rfl, rfl⟩) (fun ad e => by cases e) (by simp) (by unfold maxLen; omega) (by omega) (by first | omega | (simp; done) | (simp; omega)) ?_; intro a4 c4 w4 hown4 hgrow4 hat4; have n4 : Below w3.heap.size w3 w4 := Below.grown (by go_grown) hgrow4 (by first | omega | (simp; done) | (simp; omega)) (fun k' e => by first | (have e' : some w3.heap.size = some k' := e; injection e' with e'; omega) | (have e' : some (w3.heap.size + 1) = some k' := e; injection e' with e'; omega)); have z4 := n4.size; have r40 := (n4.cell (p := ⟨w.heap.size, 0, none⟩) (by show w.heap.size < w3.heap.size; omega)).trans t0; have r41 := (n4.cell (p := ⟨w.heap.size, 1, none⟩) (by show w.heap.size < w3.heap.size; omega)).trans t1; have r42 := (n4.cell (p := ⟨w.heap.size, 2, none⟩) (by show w.heap.size < w3.heap.size; omega)).trans t2; have r43 := (n4.cell (p := ⟨w.heap.size, 3, none⟩) (by show w.heap.size < w3.heap.size; omega)).trans t3; have r44 := (n4.cell (p := ⟨w.heap.size, 4, none⟩) (by show w.heap.size < w3.heap.size; omega)).trans t4; have r45 := (n4.cell (p := ⟨w.heap.size, 5, none⟩) (by show w.heap.size < w3.heap.size; omega)).trans t5; have r46 := (n4.cell (p := ⟨w.heap.size, 6, none⟩) (by show w.heap.size < w3.heap.size; omega)).trans t6; (try (have X4 : w4.heap[w3.heap.size + 1]? = some (.cells #[.int .i64 x, .int .i64 a, .int .i64 b, .int .i64 c, .int .i64 d, .bool f, .slice ad M.length cap] 63 (0, 0)) := (hgrow4.block _ (by simp) (by intro e; have e' : some (w3.heap.size + 1) = some w3.heap.size := e; simp at e')).trans HXB.out)); (try (have X4 : w4.heap[w3.heap.size]? = some (.cells #[.int .i64 x, .int .i64 a, .int .i64 b, .int .i64 c, .int .i64 d, .bool f, .slice ad M.length cap] 63 (0, 0)) := (hgrow4.block _ (by simp; omega) (by intro e; have e' : some w3.heap.size = some (w3.heap.size + 1) := e; simp at e')).trans HXC.out)))
              | (refine step_append_rows _ rfl (.tmp 52) (.tmp 54) 29 rfl w3.heap.size 63 i0 (.agg #[.int .i64 0, .int .i64 0, .int .i64 0, .int .i64 0, .int .i64 0, .bool false, .slice none 0 0]) 7 72 Try.underlying29 hi hz0 hz1 hz2 rfl (by decide) (.slice a4 (0 + 0) c4) (0 + 0) ([] ++ []) (by first | rfl | (rw [Nat.zero_add]; rfl) | (simp only [Nat.zero_add]; rfl) | simp [Act.eval]) (by first | exact hown4 | exact hown4.alloc _) _ 1 1 [.int .i64 x, .int .i64 a, .int .i64 b, .int .i64 c, .int .i64 d, .bool f, .slice ad M.length cap] (by rfl) rfl (fun e => by cases e) (fun ad e j u hu => by cases e; first | exact World.news_of_block X4 j u hu | exact rel_new rfl j u hu) rel_one (by unfold maxLen; omega) (by omega) (by first | omega | (simp; done) | (simp; omega)) ?_; intro a5 c5 w5 hown5 hgrow5 hat5; have n5 : Below w3.heap.size w3 w5 := Below.grown (by go_grown) hgrow5 (by first | omega | (simp; done) | (simp; omega)) (fun k' e => (World.ownsRow.lt hown4 k' e).1); have z5 := n5.size; have r50 := (n5.cell (p := ⟨w.heap.size, 0, none⟩) (by show w.heap.size < w3.heap.size; omega)).trans t0; have r51 := (n5.cell (p := ⟨w.heap.size, 1, none⟩) (by show w.heap.size < w3.heap.size; omega)).trans t1; have r52 := (n5.cell (p := ⟨w.heap.size, 2, none⟩) (by show w.heap.size < w3.heap.size; omega)).trans t2; have r53 := (n5.cell (p := ⟨w.heap.size, 3, none⟩) (by show w.heap.size < w3.heap.size; omega)).trans t3; have r54 := (n5.cell (p := ⟨w.heap.size, 4, none⟩) (by show w.heap.size < w3.heap.size; omega)).trans t4; have r55 := (n5.cell (p := ⟨w.heap.size, 5, none⟩) (by show w.heap.size < w3.heap.size; omega)).trans t5; have r56 := (n5.cell (p := ⟨w.heap.size, 6, none⟩) (by show w.heap.size < w3.heap.size; omega)).trans t6)
              | (refine step_append_rows _ rfl (.tmp 55) (.tmp 58) 29 rfl w3.heap.size 63 i0 (.agg #[.int .i64 0, .int .i64 0, .int .i64 0, .int .i64 0, .int .i64 0, .bool false, .slice none 0 0]) 7 72 Try.underlying29 hi hz0 hz1 hz2 rfl (by decide) (.slice a5 (0 + 0 + 1) c5) (0 + 0 + 1) ([] ++ [] ++ [.int .i64 x, .int .i64 a, .int .i64 b, .int .i64 c, .int .i64 d, .bool f, .slice ad M.length cap]) (by first | rfl | (rw [Nat.zero_add]; rfl) | (simp only [Nat.zero_add]; rfl) | simp [Act.eval]) hown5 none 0 0 [] (by rfl) rfl (fun _ => ⟨rfl, rfl⟩) (fun ad e => by cases e) (by simp) (by unfold maxLen; omega) (by omega) (by first | omega | (simp; done) | (simp; omega)) ?_; intro a6 c6 w6 hown6 hgrow6 hat6; have n6 : Below w3.heap.size w3 w6 := Below.grown n5 hgrow6 n5.size (fun k' e => (World.ownsRow.lt hown5 k' e).1); have r60 := (n6.cell (p := ⟨w.heap.size, 0, none⟩) (by show w.heap.size < w3.heap.size; omega)).trans t0; have r61 := (n6.cell (p := ⟨w.heap.size, 1, none⟩) (by show w.heap.size < w3.heap.size; omega)).trans t1; have r62 := (n6.cell (p := ⟨w.heap.size, 2, none⟩) (by show w.heap.size < w3.heap.size; omega)).trans t2; have r63 := (n6.cell (p := ⟨w.heap.size, 3, none⟩) (by show w.heap.size < w3.heap.size; omega)).trans t3; have r64 := (n6.cell (p := ⟨w.heap.size, 4, none⟩) (by show w.heap.size < w3.heap.size; omega)).trans t4; have r65 := (n6.cell (p := ⟨w.heap.size, 5, none⟩) (by show w.heap.size < w3.heap.size; omega)).trans t5; have r66 := (n6.cell (p := ⟨w.heap.size, 6, none⟩) (by show w.heap.size < w3.heap.size; omega)).trans t6)
              | fail)
          all_goals
            go_wp2_with fail
            go_meet
            case rel => exact ⟨put_end (S1 := []) (S3 := []) hown6 (by rw [HXP.out]; simp) HXP.out rfl rfl (ShEl.nil _ _ _) (ShEl.one (HNX.out.below n6)) (ShEl.nil _ _ _), n6⟩
        · have hc : ∀ i (h : i < S.length), RlC w w.heap.size sb (so + i * 7) S[i] := by
            obtain ⟨sa', c', e, hh⟩ := H.out
            simp only [Value.slice.injEq] at e
            obtain ⟨rfl, _, _⟩ := e
            rcases hh with hh | ⟨b, o, e, hB, hc⟩
            · intro i hi; simp [hh] at hi
            · cases e; exact hc
          have hB : S = [] ∨ sb < w.heap.size := by
            obtain ⟨sa', c', e, hh⟩ := H.out
            simp only [Value.slice.injEq] at e
            obtain ⟨rfl, _, _⟩ := e
            rcases hh with hh | ⟨b, o, e, hB, hc⟩
            · exact .inl hh
            · cases e; exact .inr hB
          obtain ⟨N1, N3, l1, l3, e1, e3, o1, o3, g1, g3⟩ := put_src hk hc hB n3
          have L1 := Lib.hid l1
          have L3 := Lib.hid l3
          have E1 := Lib.hid e1
          have E3 := Lib.hid e3
          have O1 := Lib.hid o1
          have O3 := Lib.hid o3
          have G1 := Lib.hid g1
          have G3 := Lib.hid g3
          clear l1 l3 e1 e3 o1 o3 g1 g3 hc hB
          have GI := Lib.hid (show ∀ V, Below w.heap.size w V → ∀ ad, (if caps = k then some (⟨sb, so, none⟩ : Addr) else some ⟨sb, so + k * 7, none⟩) = some ad → ∀ j u, N3[j]? = some u → V.cell? (ad.add j) = some u from fun V hV ad e j u hu => by
            split at e
            · rename_i hck
              have hN3 : N3 = [] := List.eq_nil_of_length_eq_zero (by rw [L3.out]; have := hcap; omega)
              rw [hN3] at hu
              simp at hu
            · cases e
              exact G3.out V hV j u hu)
          have HNX := Lib.hid (show NdAt w3 w3.heap.size (.slice ad M.length cap) M from HX.out.stepAt n3)
          have hoa : (w3.alloc (.cells #[] 63)).ownsRow w3.heap.size 63 7 (.slice (some ⟨w3.heap.size, 0, none⟩) 0 0) 0 [] := own_fresh (heap_alloc_new w3 _) (Nat.le_refl _)
          have hob := hoa.alloc (.cells #[.int .i64 x, .int .i64 a, .int .i64 b, .int .i64 c, .int .i64 d, .bool f, .slice ad M.length cap] 63)
          have hoc : ((w3.alloc (.cells #[.int .i64 x, .int .i64 a, .int .i64 b, .int .i64 c, .int .i64 d, .bool f, .slice ad M.length cap] 63)).alloc (.cells #[] 63)).ownsRow w3.heap.size 63 7 (.slice (some ⟨w3.heap.size + 1, 0, none⟩) 0 0) 0 [] := own_fresh (by simpa using heap_alloc_new (w3.alloc (.cells #[.int .i64 x, .int .i64 a, .int .i64 b, .int .i64 c, .int .i64 d, .bool f, .slice ad M.length cap] 63)) (.cells #[] 63)) (by omega)
          have hxb : ((w3.alloc (.cells #[] 63)).alloc (.cells #[.int .i64 x, .int .i64 a, .int .i64 b, .int .i64 c, .int .i64 d, .bool f, .slice ad M.length cap] 63)).heap[w3.heap.size + 1]? = some (.cells #[.int .i64 x, .int .i64 a, .int .i64 b, .int .i64 c, .int .i64 d, .bool f, .slice ad M.length cap] 63 (0, 0)) := by simpa using heap_alloc_new (w3.alloc (.cells #[] 63)) (.cells #[.int .i64 x, .int .i64 a, .int .i64 b, .int .i64 c, .int .i64 d, .bool f, .slice ad M.length cap] 63)
          have hxc : ((w3.alloc (.cells #[.int .i64 x, .int .i64 a, .int .i64 b, .int .i64 c, .int .i64 d, .bool f, .slice ad M.length cap] 63)).alloc (.cells #[] 63)).heap[w3.heap.size]? = some (.cells #[.int .i64 x, .int .i64 a, .int .i64 b, .int .i64 c, .int .i64 d, .bool f, .slice ad M.length cap] 63 (0, 0)) := (Below.heap_alloc _ _ _ (by simp)).trans (heap_alloc_new w3 _)
          have HOA := Lib.hid hoa
          have HOB := Lib.hid hob
          have HOC := Lib.hid hoc
          have HXB := Lib.hid hxb
          have HXC := Lib.hid hxc
          clear hoa hob hoc hxb hxc
          rcases Nat.lt_or_ge k caps with hck | hck
          · have hne : ¬ caps = k := by omega
            go_region_held3 (fun V => V.cell? ⟨w.heap.size, 0, none⟩ = some (.int .i64 x) ∧ V.cell? ⟨w.heap.size, 1, none⟩ = some (.int .i64 a) ∧ V.cell? ⟨w.heap.size, 2, none⟩ = some (.int .i64 b) ∧ V.cell? ⟨w.heap.size, 3, none⟩ = some (.int .i64 c) ∧ V.cell? ⟨w.heap.size, 4, none⟩ = some (.int .i64 d) ∧ V.cell? ⟨w.heap.size, 5, none⟩ = some (.bool f) ∧ V.cell? ⟨w.heap.size, 6, none⟩ = some (.slice ad M.length cap)) (go_keep)
              (first
                | (refine step_append_rows _ rfl (.tmp 48) (.tmp 51) 29 rfl w3.heap.size 63 i0 (.agg #[.int .i64 0, .int .i64 0, .int .i64 0, .int .i64 0, .int .i64 0, .bool false, .slice none 0 0]) 7 72 Try.underlying29 hi hz0 hz1 hz2 rfl (by decide) _ _ [] (by rfl) (by first | exact HOA.out | exact HOB.out | exact HOC.out) (some ⟨sb, so, none⟩) k caps N1 (by rfl) L1.out (fun e => by cases e) (fun ad e j u hu => by cases e; exact G1.out _ (n3.trans (Below.mono (by go_grown) n3.size)) j u hu) O1.out (by unfold maxLen; omega) (by omega) (by first | omega | (simp; done) | (simp; omega)) ?_; intro a4 c4 w4 hown4 hgrow4 hat4; have n4 : Below w3.heap.size w3 w4 := Below.grown (by go_grown) hgrow4 (by first | omega | (simp; done) | (simp; omega)) (fun k' e => by first | (have e' : some w3.heap.size = some k' := e; injection e' with e'; omega) | (have e' : some (w3.heap.size + 1) = some k' := e; injection e' with e'; omega)); have z4 := n4.size; have r40 := (n4.cell (p := ⟨w.heap.size, 0, none⟩) (by show w.heap.size < w3.heap.size; omega)).trans t0; have r41 := (n4.cell (p := ⟨w.heap.size, 1, none⟩) (by show w.heap.size < w3.heap.size; omega)).trans t1; have r42 := (n4.cell (p := ⟨w.heap.size, 2, none⟩) (by show w.heap.size < w3.heap.size; omega)).trans t2; have r43 := (n4.cell (p := ⟨w.heap.size, 3, none⟩) (by show w.heap.size < w3.heap.size; omega)).trans t3; have r44 := (n4.cell (p := ⟨w.heap.size, 4, none⟩) (by show w.heap.size < w3.heap.size; omega)).trans t4; have r45 := (n4.cell (p := ⟨w.heap.size, 5, none⟩) (by show w.heap.size < w3.heap.size; omega)).trans t5; have r46 := (n4.cell (p := ⟨w.heap.size, 6, none⟩) (by show w.heap.size < w3.heap.size; omega)).trans t6; (try (have X4 : w4.heap[w3.heap.size + 1]? = some (.cells #[.int .i64 x, .int .i64 a, .int .i64 b, .int .i64 c, .int .i64 d, .bool f, .slice ad M.length cap] 63 (0, 0)) := (hgrow4.block _ (by simp) (by intro e; have e' : some (w3.heap.size + 1) = some w3.heap.size := e; simp at e')).trans HXB.out)); (try (have X4 : w4.heap[w3.heap.size]? = some (.cells #[.int .i64 x, .int .i64 a, .int .i64 b, .int .i64 c, .int .i64 d, .bool f, .slice ad M.length cap] 63 (0, 0)) := (hgrow4.block _ (by simp; omega) (by intro e; have e' : some w3.heap.size = some (w3.heap.size + 1) := e; simp at e')).trans HXC.out)))
                | (refine step_append_rows _ rfl (.tmp 52) (.tmp 54) 29 rfl w3.heap.size 63 i0 (.agg #[.int .i64 0, .int .i64 0, .int .i64 0, .int .i64 0, .int .i64 0, .bool false, .slice none 0 0]) 7 72 Try.underlying29 hi hz0 hz1 hz2 rfl (by decide) (.slice a4 (0 + k) c4) (0 + k) ([] ++ N1) (by first | rfl | (rw [Nat.zero_add]; rfl) | (simp only [Nat.zero_add]; rfl) | simp [Act.eval]) (by first | exact hown4 | exact hown4.alloc _) _ 1 1 [.int .i64 x, .int .i64 a, .int .i64 b, .int .i64 c, .int .i64 d, .bool f, .slice ad M.length cap] (by rfl) rfl (fun e => by cases e) (fun ad e j u hu => by cases e; first | exact World.news_of_block X4 j u hu | exact rel_new rfl j u hu) rel_one (by unfold maxLen; omega) (by omega) (by first | omega | (simp; done) | (simp; omega)) ?_; intro a5 c5 w5 hown5 hgrow5 hat5; have n5 : Below w3.heap.size w3 w5 := Below.grown (by go_grown) hgrow5 (by first | omega | (simp; done) | (simp; omega)) (fun k' e => (World.ownsRow.lt hown4 k' e).1); have z5 := n5.size; have r50 := (n5.cell (p := ⟨w.heap.size, 0, none⟩) (by show w.heap.size < w3.heap.size; omega)).trans t0; have r51 := (n5.cell (p := ⟨w.heap.size, 1, none⟩) (by show w.heap.size < w3.heap.size; omega)).trans t1; have r52 := (n5.cell (p := ⟨w.heap.size, 2, none⟩) (by show w.heap.size < w3.heap.size; omega)).trans t2; have r53 := (n5.cell (p := ⟨w.heap.size, 3, none⟩) (by show w.heap.size < w3.heap.size; omega)).trans t3; have r54 := (n5.cell (p := ⟨w.heap.size, 4, none⟩) (by show w.heap.size < w3.heap.size; omega)).trans t4; have r55 := (n5.cell (p := ⟨w.heap.size, 5, none⟩) (by show w.heap.size < w3.heap.size; omega)).trans t5; have r56 := (n5.cell (p := ⟨w.heap.size, 6, none⟩) (by show w.heap.size < w3.heap.size; omega)).trans t6)
                | (refine step_append_rows _ rfl (.tmp 55) (.tmp 58) 29 rfl w3.heap.size 63 i0 (.agg #[.int .i64 0, .int .i64 0, .int .i64 0, .int .i64 0, .int .i64 0, .bool false, .slice none 0 0]) 7 72 Try.underlying29 hi hz0 hz1 hz2 rfl (by decide) (.slice a5 (0 + k + 1) c5) (0 + k + 1) ([] ++ N1 ++ [.int .i64 x, .int .i64 a, .int .i64 b, .int .i64 c, .int .i64 d, .bool f, .slice ad M.length cap]) (by first | rfl | (rw [Nat.zero_add]; rfl) | (simp only [Nat.zero_add]; rfl) | simp [Act.eval]) hown5 _ (S.length - k) _ N3 (by first | rfl | simp) L3.out (fun e => by first | (cases e; done) | (split at e <;> cases e)) (fun ad e j u hu => by first | (cases e; exact G3.out _ (n3.trans (n5.mono n3.size)) j u hu) | exact GI.out _ (n3.trans (n5.mono n3.size)) _ (by simpa using e) j u hu) O3.out (by unfold maxLen; omega) (by omega) (by first | omega | (simp; done) | (simp; omega)) ?_; intro a6 c6 w6 hown6 hgrow6 hat6; have n6 : Below w3.heap.size w3 w6 := Below.grown n5 hgrow6 n5.size (fun k' e => (World.ownsRow.lt hown5 k' e).1); have r60 := (n6.cell (p := ⟨w.heap.size, 0, none⟩) (by show w.heap.size < w3.heap.size; omega)).trans t0; have r61 := (n6.cell (p := ⟨w.heap.size, 1, none⟩) (by show w.heap.size < w3.heap.size; omega)).trans t1; have r62 := (n6.cell (p := ⟨w.heap.size, 2, none⟩) (by show w.heap.size < w3.heap.size; omega)).trans t2; have r63 := (n6.cell (p := ⟨w.heap.size, 3, none⟩) (by show w.heap.size < w3.heap.size; omega)).trans t3; have r64 := (n6.cell (p := ⟨w.heap.size, 4, none⟩) (by show w.heap.size < w3.heap.size; omega)).trans t4; have r65 := (n6.cell (p := ⟨w.heap.size, 5, none⟩) (by show w.heap.size < w3.heap.size; omega)).trans t5; have r66 := (n6.cell (p := ⟨w.heap.size, 6, none⟩) (by show w.heap.size < w3.heap.size; omega)).trans t6)
                | fail)
            all_goals
              rw [Nat.zero_add, List.nil_append] at hown6
              go_wp2_with fail
              go_meet
              case rel => exact ⟨put_end hown6 (by rw [HXP.out]; simp; omega) HXP.out (by rw [L1.out]; simp; omega) rfl ((E1.out.below (n6.mono (by omega))).mono (by omega)) (ShEl.one (HNX.out.below n6)) ((E3.out.below (n6.mono (by omega))).mono (by omega)), n6⟩
          · obtain rfl : k = S.length := by omega
            obtain rfl : caps = S.length := by omega
            go_region_held3 (fun V => V.cell? ⟨w.heap.size, 0, none⟩ = some (.int .i64 x) ∧ V.cell? ⟨w.heap.size, 1, none⟩ = some (.int .i64 a) ∧ V.cell? ⟨w.heap.size, 2, none⟩ = some (.int .i64 b) ∧ V.cell? ⟨w.heap.size, 3, none⟩ = some (.int .i64 c) ∧ V.cell? ⟨w.heap.size, 4, none⟩ = some (.int .i64 d) ∧ V.cell? ⟨w.heap.size, 5, none⟩ = some (.bool f) ∧ V.cell? ⟨w.heap.size, 6, none⟩ = some (.slice ad M.length cap)) (go_keep)
              (first
                | (refine step_append_rows _ rfl (.tmp 48) (.tmp 51) 29 rfl w3.heap.size 63 i0 (.agg #[.int .i64 0, .int .i64 0, .int .i64 0, .int .i64 0, .int .i64 0, .bool false, .slice none 0 0]) 7 72 Try.underlying29 hi hz0 hz1 hz2 rfl (by decide) _ _ [] (by rfl) (by first | exact HOA.out | exact HOB.out | exact HOC.out) (some ⟨sb, so, none⟩) S.length S.length N1 (by rfl) L1.out (fun e => by cases e) (fun ad e j u hu => by cases e; exact G1.out _ (n3.trans (Below.mono (by go_grown) n3.size)) j u hu) O1.out (by unfold maxLen; omega) (by omega) (by first | omega | (simp; done) | (simp; omega)) ?_; intro a4 c4 w4 hown4 hgrow4 hat4; have n4 : Below w3.heap.size w3 w4 := Below.grown (by go_grown) hgrow4 (by first | omega | (simp; done) | (simp; omega)) (fun k' e => by first | (have e' : some w3.heap.size = some k' := e; injection e' with e'; omega) | (have e' : some (w3.heap.size + 1) = some k' := e; injection e' with e'; omega)); have z4 := n4.size; have r40 := (n4.cell (p := ⟨w.heap.size, 0, none⟩) (by show w.heap.size < w3.heap.size; omega)).trans t0; have r41 := (n4.cell (p := ⟨w.heap.size, 1, none⟩) (by show w.heap.size < w3.heap.size; omega)).trans t1; have r42 := (n4.cell (p := ⟨w.heap.size, 2, none⟩) (by show w.heap.size < w3.heap.size; omega)).trans t2; have r43 := (n4.cell (p := ⟨w.heap.size, 3, none⟩) (by show w.heap.size < w3.heap.size; omega)).trans t3; have r44 := (n4.cell (p := ⟨w.heap.size, 4, none⟩) (by show w.heap.size < w3.heap.size; omega)).trans t4; have r45 := (n4.cell (p := ⟨w.heap.size, 5, none⟩) (by show w.heap.size < w3.heap.size; omega)).trans t5; have r46 := (n4.cell (p := ⟨w.heap.size, 6, none⟩) (by show w.heap.size < w3.heap.size; omega)).trans t6; (try (have X4 : w4.heap[w3.heap.size + 1]? = some (.cells #[.int .i64 x, .int .i64 a, .int .i64 b, .int .i64 c, .int .i64 d, .bool f, .slice ad M.length cap] 63 (0, 0)) := (hgrow4.block _ (by simp) (by intro e; have e' : some (w3.heap.size + 1) = some w3.heap.size := e; simp at e')).trans HXB.out)); (try (have X4 : w4.heap[w3.heap.size]? = some (.cells #[.int .i64 x, .int .i64 a, .int .i64 b, .int .i64 c, .int .i64 d, .bool f, .slice ad M.length cap] 63 (0, 0)) := (hgrow4.block _ (by simp; omega) (by intro e; have e' : some w3.heap.size = some (w3.heap.size + 1) := e; simp at e')).trans HXC.out)))
                | (refine step_append_rows _ rfl (.tmp 52) (.tmp 54) 29 rfl w3.heap.size 63 i0 (.agg #[.int .i64 0, .int .i64 0, .int .i64 0, .int .i64 0, .int .i64 0, .bool false, .slice none 0 0]) 7 72 Try.underlying29 hi hz0 hz1 hz2 rfl (by decide) (.slice a4 (0 + S.length) c4) (0 + S.length) ([] ++ N1) (by first | rfl | (rw [Nat.zero_add]; rfl) | (simp only [Nat.zero_add]; rfl) | simp [Act.eval]) (by first | exact hown4 | exact hown4.alloc _) _ 1 1 [.int .i64 x, .int .i64 a, .int .i64 b, .int .i64 c, .int .i64 d, .bool f, .slice ad M.length cap] (by rfl) rfl (fun e => by cases e) (fun ad e j u hu => by cases e; first | exact World.news_of_block X4 j u hu | exact rel_new rfl j u hu) rel_one (by unfold maxLen; omega) (by omega) (by first | omega | (simp; done) | (simp; omega)) ?_; intro a5 c5 w5 hown5 hgrow5 hat5; have n5 : Below w3.heap.size w3 w5 := Below.grown (by go_grown) hgrow5 (by first | omega | (simp; done) | (simp; omega)) (fun k' e => (World.ownsRow.lt hown4 k' e).1); have z5 := n5.size; have r50 := (n5.cell (p := ⟨w.heap.size, 0, none⟩) (by show w.heap.size < w3.heap.size; omega)).trans t0; have r51 := (n5.cell (p := ⟨w.heap.size, 1, none⟩) (by show w.heap.size < w3.heap.size; omega)).trans t1; have r52 := (n5.cell (p := ⟨w.heap.size, 2, none⟩) (by show w.heap.size < w3.heap.size; omega)).trans t2; have r53 := (n5.cell (p := ⟨w.heap.size, 3, none⟩) (by show w.heap.size < w3.heap.size; omega)).trans t3; have r54 := (n5.cell (p := ⟨w.heap.size, 4, none⟩) (by show w.heap.size < w3.heap.size; omega)).trans t4; have r55 := (n5.cell (p := ⟨w.heap.size, 5, none⟩) (by show w.heap.size < w3.heap.size; omega)).trans t5; have r56 := (n5.cell (p := ⟨w.heap.size, 6, none⟩) (by show w.heap.size < w3.heap.size; omega)).trans t6)
                | (refine step_append_rows _ rfl (.tmp 55) (.tmp 58) 29 rfl w3.heap.size 63 i0 (.agg #[.int .i64 0, .int .i64 0, .int .i64 0, .int .i64 0, .int .i64 0, .bool false, .slice none 0 0]) 7 72 Try.underlying29 hi hz0 hz1 hz2 rfl (by decide) (.slice a5 (0 + S.length + 1) c5) (0 + S.length + 1) ([] ++ N1 ++ [.int .i64 x, .int .i64 a, .int .i64 b, .int .i64 c, .int .i64 d, .bool f, .slice ad M.length cap]) (by first | rfl | (rw [Nat.zero_add]; rfl) | (simp only [Nat.zero_add]; rfl) | simp [Act.eval]) hown5 _ 0 _ [] (by first | rfl | simp) rfl (fun e => by first | (cases e; done) | (split at e <;> cases e)) (fun ad e j u hu => by simp at hu) (by simp) (by unfold maxLen; omega) (by omega) (by first | omega | (simp; done) | (simp; omega)) ?_; intro a6 c6 w6 hown6 hgrow6 hat6; have n6 : Below w3.heap.size w3 w6 := Below.grown n5 hgrow6 n5.size (fun k' e => (World.ownsRow.lt hown5 k' e).1); have r60 := (n6.cell (p := ⟨w.heap.size, 0, none⟩) (by show w.heap.size < w3.heap.size; omega)).trans t0; have r61 := (n6.cell (p := ⟨w.heap.size, 1, none⟩) (by show w.heap.size < w3.heap.size; omega)).trans t1; have r62 := (n6.cell (p := ⟨w.heap.size, 2, none⟩) (by show w.heap.size < w3.heap.size; omega)).trans t2; have r63 := (n6.cell (p := ⟨w.heap.size, 3, none⟩) (by show w.heap.size < w3.heap.size; omega)).trans t3; have r64 := (n6.cell (p := ⟨w.heap.size, 4, none⟩) (by show w.heap.size < w3.heap.size; omega)).trans t4; have r65 := (n6.cell (p := ⟨w.heap.size, 5, none⟩) (by show w.heap.size < w3.heap.size; omega)).trans t5; have r66 := (n6.cell (p := ⟨w.heap.size, 6, none⟩) (by show w.heap.size < w3.heap.size; omega)).trans t6)
                | fail)
            all_goals
              rw [Nat.zero_add, List.nil_append] at hown6
              go_wp2_with fail
              go_meet
              case rel => exact ⟨put_end (S1 := S.take S.length) (S3 := []) hown6 (by rw [HXP.out]; simp) (by rw [HXP.out, List.drop_length]) (by rw [L1.out]; simp) rfl ((E1.out.below (n6.mono (by omega))).mono (by omega)) (ShEl.one (HNX.out.below n6)) (ShEl.nil _ _ _), n6⟩
      case rest =>
        rename World => w4
        obtain ⟨hr, hb⟩ := hcut
        have n4 := n3.trans (hb.mono n3.size)
        have hrl := hr.at hb.size
        obtain ⟨pa, pc, rfl, hx⟩ := id hrl
        clear hx hr
        have HR := Lib.hid hrl
        have hPl : (putL (x, (a, b, c, d), f, M) S).length ≤ 1048576 := by rw [HXP.out]; simp; omega
        have hPq : ∀ q ∈ putL (x, (a, b, c, d), f, M) S, q.2.2.2.length ≤ 1048576 ∧ ∀ p ∈ q.2.2.2, p.2.length ≤ 1048576 := fun q h => by
          rw [HXP.out] at h
          simp only [List.mem_append, List.mem_singleton] at h
          rcases h with (h | h) | h
          · exact hq q (List.mem_of_mem_take h)
          · rw [h]; exact hM
          · exact hq q (List.mem_of_mem_drop h)
        clear hrl
        have HPO := Lib.hid (show putOk (x, (a, b, c, d), f, M) S = shOk (putL (x, (a, b, c, d), f, M) S) by unfold putOk; rw [HOK.out]; rfl)
        obtain ⟨P, hPe⟩ : ∃ P, putL (x, (a, b, c, d), f, M) S = P := ⟨_, rfl⟩
        rw [hPe] at HXP HR hPl hPq HPO ⊢
        have HPE := Lib.hid hPe
        clear hPe
        have KP : Hid (∀ V, RlAt V V.heap.size (.slice pa P.length pc) P → Calls Try.prog 52 #[.slice pa P.length pc] V fun e w' => e = .returned (.bool (shOk P)) ∧ Below V.heap.size V w') := Lib.hid fun V g => specShelfOk_any _ P V (by omega) hPq g
        rcases hp : shOk P
        · rw [hp] at KP
          go_wp2_with fail
          refine (KP.out _ HR.out).mono ?_
          rintro e w5 ⟨rfl, hb5⟩
          have n5 := n4.trans (hb5.mono n4.size)
          clear hb5
          go_wp2_with fail
          exact bodyPost_ret (v := .tuple #[.slice (some ⟨w5.heap.size, 0, none⟩) 0 0, .bool false]) (by simp [results, Try.results95, go_sem]) rfl
            ⟨_, [], by rw [HPO.out, hp], by rw [if_neg (by rw [HPO.out, hp]; decide)]; exact RGrow.made rfl n5.size, n5.trans (((Below.refl _ _).alloc (Nat.le_refl _) _).mono n5.size)⟩
        · rw [hp] at KP
          go_wp2_with fail
          refine (KP.out _ HR.out).mono ?_
          rintro e w5 ⟨rfl, hb5⟩
          have n5 := n4.trans (hb5.mono n4.size)
          have HR5 := Lib.hid (HR.out.stepAt hb5)
          clear hb5
          go_wp2_with fail
          refine (l3Shelf_any _ P _ HR5.out (by omega) hPq).mono ?_
          rintro e w6 ⟨u6, fs, rfl, gr, hb6⟩
          have n6 := n5.trans (hb6.mono n5.size)
          have GR := Lib.hid (gr.mono n5.size)
          clear gr hb6
          go_wp2_with fail
          exact bodyPost_ret (v := .tuple #[u6, .bool true]) (by simp [results, Try.results95, go_sem]) rfl
            ⟨u6, fs, by rw [HPO.out, hp], by rw [if_pos (by rw [HPO.out, hp]), HPE.out]; exact GR.out, n6⟩
end Copy
end Go.Proofs.Ytgnjhmmedogcoaa

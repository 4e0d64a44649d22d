/- The contracts of RangeHas of the program and of the model over this seat's translation: both answer whether the range and the version are ones and the version's rank lies in a span. Nothing that was there before the call has changed. Condition: at most 1048576 spans. -/
import Derived.Test.YtgnjhmmedogcoaaGd
import Derived.Test.YtgnjhmmedogcoaaGa
namespace Go.Proofs.Ytgnjhmmedogcoaa
open Go.RowKit Go.Sort

/-- A rank lies in one of the spans. -/
def inL (n : Int) (L : List (Int × Int)) : Bool := L.any fun p => inB n p.1 p.2
def hasL (L : List (Int × Int)) (a b c d : Int) : Bool := spOk L && (vOk a b c d && inL (rk a b c d) L)

theorem inL_step {L : List (Int × Int)} {k : Nat} {x y n : Int} (h : L[k]? = some (x, y)) : inL n (L.drop k) = (inB n x y || inL n (L.drop (k + 1))) := by
  have hk : k < L.length := (List.getElem?_eq_some_iff.1 h).1
  rw [List.drop_eq_getElem_cons hk, (List.getElem?_eq_some_iff.1 h).2]
  rfl

/-- What the loop keeps: what is left decides. -/
def HasRel (L : List (Int × Int)) (n : Int) (B : Nat) (w : World) (i : Value) (wr : World) : Prop :=
  ∃ k : Nat, k ≤ L.length ∧ i = .int .i64 (k : Int) ∧ inL n L = inL n (L.drop k) ∧ Below B w wr

theorem has_push {L : List (Int × Int)} {n : Int} {B : Nat} {w wr : World} {k : Nat} {x y : Int} (hL : L[k]? = some (x, y)) (ho : inL n L = inL n (L.drop k)) (hn : inB n x y = false) (hb : Below B w wr) :
    HasRel L n B w (.int .i64 ((k : Int) + 1)) wr := by
  have hk : k < L.length := (List.getElem?_eq_some_iff.1 hL).1
  exact ⟨k + 1, by omega, by go_num, by rw [ho, inL_step hL, hn, Bool.false_or], hb⟩
theorem has_hit {L : List (Int × Int)} {n : Int} {k : Nat} {x y : Int} (hL : L[k]? = some (x, y)) (ho : inL n L = inL n (L.drop k)) (hn : inB n x y = true) : inL n L = true := by rw [ho, inL_step hL, hn, Bool.true_or]

set_option maxHeartbeats 2000000 in
theorem implHas_any (v : Value) (L : List (Int × Int)) (a b c d : Int) (w : World) (hl : L.length ≤ 1048576) (h : SpAt w w.heap.size v L) :
    Calls Try.prog 46 #[.agg #[v], ver a b c d] w fun e w' => e = .returned (.bool (hasL L a b c d)) ∧ Below w.heap.size w w' := by
  have hh := h
  obtain ⟨q, cap, rfl, hcc⟩ := hh
  have HH := Lib.hid hcc
  clear hcc
  have K := Lib.hid fun V (hV : SpAt V V.heap.size (.slice q L.length cap) L) => implRangeOk_any q cap L V hl hV
  have KV := Lib.hid fun V => implOk_any a b c d V
  have KR := Lib.hid fun V => implRank_any a b c d V
  have b0 := ((Below.refl w.heap.size w).alloc (Nat.le_refl _) (.cells #[.slice q L.length cap] 57)).alloc (by simp) (.cells #[.int .i64 a, .int .i64 b, .int .i64 c, .int .i64 d] 61)
  have hB : w.heap.size + 2 ≤ ((w.alloc (.cells #[.slice q L.length cap] 57)).alloc (.cells #[.int .i64 a, .int .i64 b, .int .i64 c, .int .i64 d] 61)).heap.size := by simp
  have hb := Below.refl (w.heap.size + 2) ((w.alloc (.cells #[.slice q L.length cap] 57)).alloc (.cells #[.int .i64 a, .int .i64 b, .int .i64 c, .int .i64 d] 61))
  have hs := (h.below b0).mono b0.size
  rcases hk : spOk L
  · have HF := Lib.hid (show hasL L a b c d = false by simp [hasL, hk])
    rw [hk] at K
    clear hk h
    go_enter Try.func46, Try.ntmps46
    go_wp2_with fail
    refine (rel hB hb (K.out _ hs)).mono ?_
    clear hb hs
    rintro e w1 ⟨rfl, hb⟩
    have b1 := b0.trans (hb.mono (by omega))
    go_wp2_with fail
    go_ret
    exact ⟨by rw [HF.out]; rfl, b1⟩
  rcases hv : vOk a b c d
  · have HF := Lib.hid (show hasL L a b c d = false by simp [hasL, hv])
    rw [hk] at K
    rw [hv] at KV
    clear hk hv h
    go_enter Try.func46, Try.ntmps46
    go_wp2_with fail
    refine (rel hB hb (K.out _ hs)).mono ?_
    clear hb hs
    rintro e w1 ⟨rfl, hb⟩
    have hc := cells_of hb
    go_wp2_with fail
    refine (rel hB hb (KV.out _)).mono ?_
    clear hb hc
    rintro e w2 ⟨rfl, hb⟩
    have b1 := b0.trans (hb.mono (by omega))
    go_wp2_with fail
    go_ret
    exact ⟨by rw [HF.out]; rfl, b1⟩
  · obtain ⟨n, hn⟩ : ∃ n, rk a b c d = n := ⟨_, rfl⟩
    have HF := Lib.hid (show hasL L a b c d = inL n L by simp [hasL, hk, hv, hn])
    rw [hk] at K
    rw [hv] at KV
    rw [show vRank a b c d = n by simp [vRank, hv, hn]] at KR
    clear hk hv hn h
    go_enter Try.func46, Try.ntmps46
    go_wp2_with fail
    refine (rel hB hb (K.out _ hs)).mono ?_
    clear hb hs
    rintro e w1 ⟨rfl, hb⟩
    have hc := cells_of hb
    go_wp2_with fail
    refine (rel hB hb (KV.out _)).mono ?_
    clear hb hc
    rintro e w2 ⟨rfl, hb⟩
    have hc := cells_of hb
    go_wp2_with fail
    refine (rel hB hb (KR.out _)).mono ?_
    clear hb hc
    rintro e w3 ⟨rfl, hb⟩
    have hc := cells_of hb
    have p0 : w3.cell? ⟨w.heap.size, 0, none⟩ = some (.slice q L.length cap) := (hc _ _ (by omega)).trans (by go_simp)
    have b1 := b0.trans (hb.mono (by omega))
    clear hb hc b0
    go_wp2_with fail
    go_loopw [21] (fun i wr => HasRel L n w3.heap.size w3 i wr) (fun i _ => L.length - (intOf i).toNat)
    case atStart => exact ⟨0, Nat.zero_le _, rfl, rfl, Below.refl _ _⟩
    case round =>
      obtain ⟨k, hk, rfl, ho, hb⟩ := hrel
      have HO := Lib.hid ho
      have bx := b1.trans (hb.mono b1.size)
      clear ho
      by_cases hlt : k < L.length
      · rcases HH.out with h1 | ⟨g, o, rfl, hBb, hcb⟩
        · subst h1
          exact absurd hlt (by simp)
        obtain ⟨x, y, hxy⟩ : ∃ x y, L[k] = (x, y) := ⟨_, _, rfl⟩
        have cc := hcb k hlt
        rw [hxy] at cc
        have c0 := (bx.cell (p := ⟨g, o + k * 2, none⟩) hBb).trans cc.1
        have c1 := (bx.cell (p := ⟨g, o + k * 2 + 1, none⟩) hBb).trans cc.2
        have HX := Lib.hid (show L[k]? = some (x, y) by rw [List.getElem?_eq_getElem hlt, hxy])
        clear cc hxy hcb
        simp only at c0 c1
        have fin := Lib.hid (bx.alloc bx.size (.cells #[.int .i64 x, .int .i64 y] 73))
        have nxt := hb.alloc hb.size (.cells #[.int .i64 x, .int .i64 y] 73)
        by_cases h1 : x ≤ n
        · by_cases h2 : n ≤ y
          · have HT := Lib.hid (has_hit HX.out HO.out (inB_iff.2 ⟨h1, h2⟩))
            clear nxt hb bx
            go_wp2_with fail
            go_ret
            exact ⟨by rw [HF.out, HT.out]; rfl, fin.out⟩
          · have HP := Lib.hid (has_push HX.out HO.out (by unfold inB; simp [h2]) nxt)
            clear nxt hb bx
            go_wp2_with fail
            go_roundw
            case rel => exact HP.out
            case measure => simp [intOf]; omega
        · have HP := Lib.hid (has_push HX.out HO.out (by unfold inB; simp [h1]) nxt)
          clear nxt hb bx
          go_wp2_with fail
          go_roundw
          case rel => exact HP.out
          case measure => simp [intOf]; omega
      · obtain rfl : k = L.length := by omega
        have HT := Lib.hid (show inL n L = false by rw [HO.out, List.drop_length]; rfl)
        go_wp2_with fail
        go_ret
        exact ⟨by rw [HF.out, HT.out]; rfl, bx⟩

theorem vRank_neg {a b c d : Int} (h : vOk a b c d = false) : vRank a b c d = -1 := by simp [vRank, h]
theorem rk_pos {a b c d : Int} (h : vOk a b c d = true) : 0 ≤ rk a b c d := by
  have := vOk_iff.1 h
  unfold rk
  omega

end Go.Proofs.Ytgnjhmmedogcoaa

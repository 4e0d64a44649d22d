/- The laws' copies of releases once more, their inner rows in order, over this seat's translation. Condition: at most 1048576 releases, needs of each, and spans of those. -/
import Derived.Test.YtjnmkkcdcacakaaNord
namespace Go.Proofs.Ytjnmkkcdcacakaa
open Go.RowKit Go.Sort

/-- The needs of these releases lie in rows of their own, in order, between two block numbers. -/
def ROrd (w : World) (g : Nat) : Nat → List Rel → Nat → Nat → Prop
  | _, [], lo, hi => lo ≤ hi
  | i, x :: t, lo, hi => ∃ a cap m, w.cell? ⟨g, i * 7 + 6, none⟩ = some (.slice a x.2.2.2.length cap) ∧ NIn x.2.2.2 lo m (.slice a x.2.2.2.length cap) w ∧ lo ≤ m ∧ ROrd w g (i + 1) t m hi
theorem ROrd.le {w : World} {g hi : Nat} : ∀ {M : List Rel} {i lo : Nat}, ROrd w g i M lo hi → lo ≤ hi
  | [], _, _, h => h
  | _ :: _, _, _, ⟨_, _, _, _, _, h1, h2⟩ => Nat.le_trans h1 (ROrd.le h2)
theorem ROrd.kept {w w' : World} {g hi : Nat} : ∀ {M : List Rel} {i lo : Nat}, ROrd w g i M lo hi → (∀ j, i ≤ j → j < i + M.length → w'.cell? ⟨g, j * 7 + 6, none⟩ = w.cell? ⟨g, j * 7 + 6, none⟩) → (∀ k, lo ≤ k → k < w.heap.size → w'.heap[k]? = w.heap[k]?) → ROrd w' g i M lo hi
  | [], _, _, h, _, _ => h
  | x :: t, i, lo, ⟨a, cap, m, h1, h2, h3, h4⟩, hc, hb =>
    ⟨a, cap, m, (hc i (Nat.le_refl _) (by simp)).trans h1, h2.kept hb, h3, ROrd.kept h4 (fun j j1 j2 => hc j (by omega) (by simp only [List.length_cons]; omega)) fun k k1 k2 => hb k (by omega) k2⟩
theorem NIn.down {M : List Nd} {lo lo' hi : Nat} {v : Value} {w : World} (h : NIn M lo hi v w) (hl : lo' ≤ lo) : NIn M lo' hi v w := by
  obtain ⟨a, cap, rfl, h⟩ := h
  refine ⟨_, _, rfl, ?_⟩
  rcases h with h | ⟨g, n, e, hk, h1, h2⟩
  · exact .inl h
  · exact .inr ⟨g, n, e, hk, by omega, h2⟩
theorem ROrd.push {w : World} {g mid hi : Nat} {y : Rel} {a : Option Addr} {cap : Nat} : ∀ {M : List Rel} {i lo : Nat}, ROrd w g i M lo mid → w.cell? ⟨g, (i + M.length) * 7 + 6, none⟩ = some (.slice a y.2.2.2.length cap) → NIn y.2.2.2 mid hi (.slice a y.2.2.2.length cap) w → mid ≤ hi → ROrd w g i (M ++ [y]) lo hi
  | [], i, lo, h, hc, hs, hh => ⟨a, cap, hi, by simpa using hc, hs.down h, Nat.le_trans h hh, Nat.le_refl _⟩
  | x :: t, i, lo, ⟨a', cap', m, h1, h2, h3, h4⟩, hc, hs, hh => ⟨a', cap', m, h1, h2, h3, ROrd.push h4 (by rw [← hc]; simp only [List.length_cons]; rw [show i + 1 + t.length = i + (t.length + 1) by omega]) hs hh⟩

/-- A row of releases of one's own, all that it leads to behind it in order, between two block numbers. -/
def RIn (S : List Rel) (lo hi : Nat) (v : Value) (w : World) : Prop :=
  ∃ a cap, v = .slice a S.length cap ∧ ∃ g n, a = some ⟨g, 0, none⟩ ∧ RlBlk w g n S ∧ lo ≤ g ∧ ROrd w g 0 S (g + 1) hi
theorem RIn.kept {S : List Rel} {lo hi : Nat} {v : Value} {w w' : World} (h : RIn S lo hi v w) (hb : ∀ k, lo ≤ k → k < w.heap.size → w'.heap[k]? = w.heap[k]?) : RIn S lo hi v w' := by
  obtain ⟨a, cap, rfl, g, n, rfl, hk, h1, h2⟩ := h
  exact ⟨_, _, rfl, g, n, rfl, hk.kept fun k k1 k2 => hb k (by omega) k2, h1, h2.kept (fun j _ _ => World.cell?_of_block (a := ⟨g, j * 7 + 6, none⟩) (hb g h1 hk.lt)) fun k k1 k3 => hb k (by omega) k3⟩
theorem RIn.below {S : List Rel} {lo hi : Nat} {v : Value} {w w' : World} (h : RIn S lo hi v w) (hb : Below w.heap.size w w') : RIn S lo hi v w' := h.kept fun k _ hl => hb.block k hl
theorem RIn.at {S : List Rel} {lo hi : Nat} {v : Value} {w : World} (h : RIn S lo hi v w) : RlAt w w.heap.size v S := by
  obtain ⟨a, cap, rfl, g, n, rfl, hb, _⟩ := h
  exact hb.at

set_option maxRecDepth 100000 in
set_option maxHeartbeats 2000000 in
theorem toRelease_ord (n a b c d : Int) (f : Bool) (v : Value) (M : List Nd) (w : World) (h : NdAt w w.heap.size v M) (hl : M.length ≤ 1048576) (hq : ∀ q ∈ M, q.2.length ≤ 1048576) :
    Calls Try.prog 62 #[rels n a b c d f v] w fun e w' => ∃ g, e = .returned (rels n a b c d f (.slice (some ⟨g, 0, none⟩) M.length M.length)) ∧ NdBlk w' g M.length M ∧ w.heap.size ≤ g ∧ NOrd w' g 0 M (g + 1) w'.heap.size ∧ Below w.heap.size w w' := by
  have h' := h
  obtain ⟨ad, cap, rfl, hx⟩ := h'
  clear hx
  have H := Lib.hid h
  clear h
  go_enter Try.func62, Try.ntmps62
  go_wp2_with fail
  refine (toVersion_any a b c d _).mono ?_
  rintro e w1 ⟨rfl, hb1⟩
  have b1 : Below w.heap.size w w1 := Below.step (by go_grown) hb1
  have s1 : w.heap.size + 1 + 1 + 1 ≤ w1.heap.size := by have := hb1.size; simp at this; omega
  obtain ⟨hc, hf⟩ : (∀ b o, b < w.heap.size + 1 + 1 + 1 → w1.cell? ⟨b, o, none⟩ = _) ∧ (∀ b o, b < w.heap.size + 1 + 1 + 1 → w1.frozen? ⟨b, o, none⟩ = _) :=
    ⟨fun b o hbo => hb1.cell (p := ⟨b, o, none⟩) (by simpa using hbo), fun b o hbo => hb1.frozen (p := ⟨b, o, none⟩) (by simpa using hbo)⟩
  clear hb1
  go_wp2_with fail
  refine (toNeedS_ord _ M _ (H.out.stepAt (by go_grown)) hl hq).mono ?_
  rintro e w2 ⟨g, rfl, hblk, hg, hord, hb2⟩
  have b2 : Below w.heap.size w w2 := Below.step (show Below w.heap.size w _ from by go_grown) hb2
  obtain ⟨hc2, hf2⟩ : (∀ b o, b < w.heap.size + 1 + 1 + 1 → w2.cell? ⟨b, o, none⟩ = _) ∧ (∀ b o, b < w.heap.size + 1 + 1 + 1 → w2.frozen? ⟨b, o, none⟩ = _) :=
    ⟨fun b o hbo => hb2.cell (p := ⟨b, o, none⟩) (by simp; omega), fun b o hbo => hb2.frozen (p := ⟨b, o, none⟩) (by simp; omega)⟩
  have hg' : w.heap.size + 3 ≤ g := by simp at hg; omega
  have HBK := Lib.hid hblk
  have HOD := Lib.hid hord
  clear hb2 H hg b1 hblk hord
  go_wp2_with fail
  refine bodyPost_ret (v := rels n a b c d f (.slice (some ⟨g, 0, none⟩) M.length M.length)) (by simp [results, Try.results62, go_sem, hc2, hc]) rfl ?_
  have fin : ∀ W : World, (∀ k, g ≤ k → W.heap[k]? = w2.heap[k]?) → w2.heap.size ≤ W.heap.size → Below w.heap.size w W → ∃ g', (Ending.returned (rels n a b c d f (.slice (some ⟨g, 0, none⟩) M.length M.length)) : Ending) = .returned (rels n a b c d f (.slice (some ⟨g', 0, none⟩) M.length M.length)) ∧ NdBlk W g' M.length M ∧ w.heap.size ≤ g' ∧ NOrd W g' 0 M (g' + 1) W.heap.size ∧ Below w.heap.size w W := fun W all hs hb =>
    ⟨g, rfl, HBK.out.kept (fun k hk _ => all k hk), by omega, (HOD.out.kept (fun j _ _ => World.cell?_of_block (a := ⟨g, j * 2 + 1, none⟩) (all g (Nat.le_refl _))) (fun k k1 _ _ => all k (by omega))).up hs, hb⟩
  exact fin _ (fun k hk => by repeat (first | (with_reducible rfl) | refine (Below.heap_setCell _ _ _ _ (by simp; omega)).trans ?_)) (by simp [World.setCell]) (by go_grown)

def RToRel2 (S : List Rel) (w : World) (g : Nat) (i : Value) (wr : World) : Prop :=
  ∃ k : Nat, k ≤ S.length ∧ i = .int .i64 (k : Int) ∧ RlBlk wr g S.length (S.take k) ∧ ROrd wr g 0 (S.take k) (g + 1) wr.heap.size ∧ Below w.heap.size w wr

set_option maxRecDepth 100000 in
set_option maxHeartbeats 2000000 in
theorem toReleaseS_box (v : Value) (S : List Rel) (w : World) (h : RlAt w w.heap.size v S) (hl : S.length ≤ 1048576) (hq : ∀ q ∈ S, q.2.2.2.length ≤ 1048576 ∧ ∀ p ∈ q.2.2.2, p.2.length ≤ 1048576) :
    Calls Try.prog 15 #[v] w fun e w' => ∃ g, e = .returned (.slice (some ⟨g, 0, none⟩) S.length S.length) ∧ RIn S w.heap.size w'.heap.size (.slice (some ⟨g, 0, none⟩) S.length S.length) w' ∧ Below w.heap.size w w' := by
  obtain ⟨a, cap, rfl, h⟩ := h
  have hmk := make_rels S.length hl
  go_enter Try.func15, Try.ntmps15
  go_wp2
  clear hmk
  go_loopw [4] (fun i wr => RToRel2 S w w.heap.size i wr) (fun i _ => S.length - (intOf i).toNat)
  case atStart => exact ⟨0, Nat.zero_le _, rfl, by rw [List.take_zero]; exact made_rels _ _, by rw [List.take_zero]; show _ ≤ _; simp, (Below.refl _ _).alloc (Nat.le_refl _) _⟩
  case round =>
    obtain ⟨k, hk, rfl, hblk, hord, hb⟩ := hrel
    by_cases hlt : k < S.length
    · rcases h with h | ⟨b, o, rfl, hB, hc⟩
      · subst h
        exact absurd hlt (by simp)
      obtain ⟨x, a1, b1, c1, d1, gn, M, hxy⟩ : ∃ x a1 b1 c1 d1 gn M, S[k] = (x, (a1, b1, c1, d1), gn, M) := ⟨_, _, _, _, _, _, _, rfl⟩
      have c := (hc k hlt).below hb hB
      rw [hxy] at c
      obtain ⟨⟨e0, e1, e2, e3, e4, e5⟩, ad, cap1, e6, hs⟩ := c
      have hL : M.length ≤ 1048576 ∧ ∀ p ∈ M, p.2.length ≤ 1048576 := by have := hq _ (List.getElem_mem hlt); rwa [hxy] at this
      simp only at e0 e1 e2 e3 e4 e5 e6 hs
      have HXY := Lib.hid (show S[k]? = some (x, (a1, b1, c1, d1), gn, M) by rw [List.getElem?_eq_getElem hlt, hxy])
      clear hxy hc
      have HS := Lib.hid (hs.mono hb.size)
      have HB := Lib.hid hblk
      have HOD := Lib.hid hord
      have hg := hblk.lt
      clear hs hblk hord
      go_wp2_with fail
      refine (toRelease_ord x a1 b1 c1 d1 gn _ M wr HS.out hL.1 hL.2).mono ?_
      rintro e w2 ⟨g2, rfl, sblk, hg2, sord, hb2⟩
      have blk2 := HB.out.below hb2
      have ord2 : ROrd w2 w.heap.size 0 (S.take k) (w.heap.size + 1) wr.heap.size := HOD.out.kept (fun j _ _ => hb2.cell (p := ⟨w.heap.size, _, none⟩) hg) fun k _ hk => hb2.block k hk
      have bel2 := hb.trans (hb2.mono hb.size)
      have pl := blk2.place hlt
      obtain ⟨⟨p0, hp0⟩, ⟨p1, hp1⟩, ⟨p2, hp2⟩, ⟨p3, hp3⟩, ⟨p4, hp4⟩, ⟨p5, hp5⟩, ⟨p6, hp6⟩, f0, f1, f2, f3, f4, f5, f6⟩ := pl
      have hn := rto_push HXY.out hlt blk2 (show NRes M (w.heap.size + 1) (.slice (some ⟨g2, 0, none⟩) M.length M.length) w2 from ⟨_, _, rfl, .inr ⟨g2, _, rfl, sblk, by omega⟩⟩) bel2
      have HP := Lib.hid (show RToRel2 S w w.heap.size (.int .i64 ((k : Int) + 1)) (((((((w2.setCell ⟨w.heap.size, k * 7, none⟩ (.int .i64 x)).setCell ⟨w.heap.size, k * 7 + 1, none⟩ (.int .i64 a1)).setCell ⟨w.heap.size, k * 7 + 2, none⟩ (.int .i64 b1)).setCell ⟨w.heap.size, k * 7 + 3, none⟩ (.int .i64 c1)).setCell ⟨w.heap.size, k * 7 + 4, none⟩ (.int .i64 d1)).setCell ⟨w.heap.size, k * 7 + 5, none⟩ (.bool gn)).setCell ⟨w.heap.size, k * 7 + 6, none⟩ (.slice (some ⟨g2, 0, none⟩) M.length M.length)) by
        obtain ⟨k', h1, h2, h3, h4⟩ := hn
        have hkk : k' = k + 1 := by
          simp only [Value.int.injEq, true_and] at h2
          omega
        subst hkk
        refine ⟨k + 1, h1, h2, h3, ?_, h4⟩
        rw [List.take_add_one, HXY.out]
        have hlen : (S.take k).length = k := by simp; omega
        have one : ∀ (W : World) (o j : Nat) (u : Value), j ≠ w.heap.size → (W.setCell ⟨w.heap.size, o, none⟩ u).heap[j]? = W.heap[j]? := fun W o j u hj => Below.heap_setCell _ _ _ _ (by show j ≠ w.heap.size; exact hj)
        have far : ∀ j, j ≠ w.heap.size → (((((((w2.setCell ⟨w.heap.size, k * 7, none⟩ (.int .i64 x)).setCell ⟨w.heap.size, k * 7 + 1, none⟩ (.int .i64 a1)).setCell ⟨w.heap.size, k * 7 + 2, none⟩ (.int .i64 b1)).setCell ⟨w.heap.size, k * 7 + 3, none⟩ (.int .i64 c1)).setCell ⟨w.heap.size, k * 7 + 4, none⟩ (.int .i64 d1)).setCell ⟨w.heap.size, k * 7 + 5, none⟩ (.bool gn)).setCell ⟨w.heap.size, k * 7 + 6, none⟩ (.slice (some ⟨g2, 0, none⟩) M.length M.length)).heap[j]? = w2.heap[j]? := fun j hj => (one _ _ _ _ hj).trans ((one _ _ _ _ hj).trans ((one _ _ _ _ hj).trans ((one _ _ _ _ hj).trans ((one _ _ _ _ hj).trans ((one _ _ _ _ hj).trans (one _ _ _ _ hj))))))
        have ne6 : ∀ j, j ≠ k → (((((((w2.setCell ⟨w.heap.size, k * 7, none⟩ (.int .i64 x)).setCell ⟨w.heap.size, k * 7 + 1, none⟩ (.int .i64 a1)).setCell ⟨w.heap.size, k * 7 + 2, none⟩ (.int .i64 b1)).setCell ⟨w.heap.size, k * 7 + 3, none⟩ (.int .i64 c1)).setCell ⟨w.heap.size, k * 7 + 4, none⟩ (.int .i64 d1)).setCell ⟨w.heap.size, k * 7 + 5, none⟩ (.bool gn)).setCell ⟨w.heap.size, k * 7 + 6, none⟩ (.slice (some ⟨g2, 0, none⟩) M.length M.length)).cell? ⟨w.heap.size, j * 7 + 6, none⟩ = w2.cell? ⟨w.heap.size, j * 7 + 6, none⟩ := fun j hj => (World.cell?_setCell_other _ _ _ _ (by first | (simp; done) | (simp; omega))).trans ((World.cell?_setCell_other _ _ _ _ (by first | (simp; done) | (simp; omega))).trans ((World.cell?_setCell_other _ _ _ _ (by first | (simp; done) | (simp; omega))).trans ((World.cell?_setCell_other _ _ _ _ (by first | (simp; done) | (simp; omega))).trans ((World.cell?_setCell_other _ _ _ _ (by first | (simp; done) | (simp; omega))).trans ((World.cell?_setCell_other _ _ _ _ (by first | (simp; done) | (simp; omega))).trans ((World.cell?_setCell_other _ _ _ _ (by first | (simp; done) | (simp; omega)))))))))
        have hsz : (((((((w2.setCell ⟨w.heap.size, k * 7, none⟩ (.int .i64 x)).setCell ⟨w.heap.size, k * 7 + 1, none⟩ (.int .i64 a1)).setCell ⟨w.heap.size, k * 7 + 2, none⟩ (.int .i64 b1)).setCell ⟨w.heap.size, k * 7 + 3, none⟩ (.int .i64 c1)).setCell ⟨w.heap.size, k * 7 + 4, none⟩ (.int .i64 d1)).setCell ⟨w.heap.size, k * 7 + 5, none⟩ (.bool gn)).setCell ⟨w.heap.size, k * 7 + 6, none⟩ (.slice (some ⟨g2, 0, none⟩) M.length M.length)).heap.size = w2.heap.size := by simp [World.setCell]
        refine ROrd.push (y := (x, (a1, b1, c1, d1), gn, M)) (mid := wr.heap.size) (ord2.kept (fun j _ hj => ne6 j (by rw [hlen] at hj; omega)) fun j j1 _ => far j (by omega)) ?_ ⟨some ⟨g2, 0, none⟩, M.length, rfl, .inr ⟨g2, M.length, rfl, sblk.kept (fun j j1 _ => far j (by omega)), hg2, ?_⟩⟩ ?_
        · rw [hlen, Nat.zero_add]
          refine World.cell?_setCell_same _ _ _ (u := p6) ?_
          exact (World.cell?_setCell_other _ _ _ _ (by first | (simp; done) | (simp; omega))).trans ((World.cell?_setCell_other _ _ _ _ (by first | (simp; done) | (simp; omega))).trans ((World.cell?_setCell_other _ _ _ _ (by first | (simp; done) | (simp; omega))).trans ((World.cell?_setCell_other _ _ _ _ (by first | (simp; done) | (simp; omega))).trans ((World.cell?_setCell_other _ _ _ _ (by first | (simp; done) | (simp; omega))).trans ((World.cell?_setCell_other _ _ _ _ (by first | (simp; done) | (simp; omega))).trans (hp6))))))
        · rw [hsz]
          exact sord.kept (fun j _ _ => World.cell?_of_block (a := ⟨g2, j * 2 + 1, none⟩) (far g2 (by omega))) fun j j1 _ _ => far j (by omega)
        · rw [hsz]
          exact hb2.size)
      clear hn hb hb2 e0 e1 e2 e3 e4 e5 e6 blk2 ord2 bel2 sblk sord
      go_wp2_with fail
      go_roundw
      case rel => exact HP.out
      case measure => simp [intOf]; omega
    · obtain rfl : k = S.length := by omega
      rw [List.take_length] at hblk hord
      go_wp2_with fail
      go_ret
      exact ⟨_, rfl, ⟨some ⟨w.heap.size, 0, none⟩, S.length, rfl, w.heap.size, S.length, rfl, hblk, Nat.le_refl _, hord⟩, hb⟩

theorem toReleaseS_ord (v : Value) (S : List Rel) (w : World) (h : RlAt w w.heap.size v S) (hl : S.length ≤ 1048576) (hq : ∀ q ∈ S, q.2.2.2.length ≤ 1048576 ∧ ∀ p ∈ q.2.2.2, p.2.length ≤ 1048576) :
    Calls Try.prog 15 #[v] w fun e w' => ∃ u, e = .returned u ∧ RIn S w.heap.size w'.heap.size u w' ∧ Below w.heap.size w w' :=
  (toReleaseS_box v S w h hl hq).mono fun _ _ ⟨_, he, hr, hb⟩ => ⟨_, he, hr, hb⟩

end Go.Proofs.Ytjnmkkcdcacakaa

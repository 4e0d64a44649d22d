/- Groundwork over this seat's translation: Nord, Rord, Markr in one text; the conditions stand at each part. -/
import Derived.Test.YtgnjhmmedogcoaaGc

/- Rows of needs and of releases whose inner rows lie in order, one behind the other: what the laws' copies make; and what marking such a row can change. Condition: at most 1048576 needs and releases, and spans of each. -/
namespace Go.Proofs.Ytgnjhmmedogcoaa
open Go.RowKit Go.Sort

/-- The spans of these needs lie in rows of their own, in order, between two block numbers. -/
def NOrd (w : World) (g : Nat) : Nat → List Nd → Nat → Nat → Prop
  | _, [], lo, hi => lo ≤ hi
  | i, x :: t, lo, hi => ∃ a cap m, w.cell? ⟨g, i * 2 + 1, none⟩ = some (.slice a x.2.length cap) ∧ SB x.2 lo m (.slice a x.2.length cap) w ∧ lo ≤ m ∧ NOrd w g (i + 1) t m hi
theorem NOrd.le {w : World} {g hi : Nat} : ∀ {M : List Nd} {i lo : Nat}, NOrd w g i M lo hi → lo ≤ hi
  | [], _, _, h => h
  | _ :: _, _, _, ⟨_, _, _, _, _, h1, h2⟩ => Nat.le_trans h1 (NOrd.le h2)
theorem NOrd.kept {w w' : World} {g hi : Nat} : ∀ {M : List Nd} {i lo : Nat}, NOrd w g i M lo hi → (∀ j, i ≤ j → j < i + M.length → w'.cell? ⟨g, j * 2 + 1, none⟩ = w.cell? ⟨g, j * 2 + 1, none⟩) → (∀ k, lo ≤ k → k < hi → k < w.heap.size → w'.heap[k]? = w.heap[k]?) → NOrd w' g i M lo hi
  | [], _, _, h, _, _ => h
  | x :: t, i, lo, ⟨a, cap, m, h1, h2, h3, h4⟩, hc, hb =>
    ⟨a, cap, m, (hc i (Nat.le_refl _) (by simp)).trans h1, h2.kept fun k k1 k2 k3 => hb k k1 (by have := NOrd.le h4; omega) k3, h3, NOrd.kept h4 (fun j j1 j2 => hc j (by omega) (by simp only [List.length_cons]; omega)) fun k k1 k2 k3 => hb k (by omega) k2 k3⟩
theorem NOrd.up {w : World} {g hi hi' : Nat} (hh : hi ≤ hi') : ∀ {M : List Nd} {i lo : Nat}, NOrd w g i M lo hi → NOrd w g i M lo hi'
  | [], _, _, h => Nat.le_trans h hh
  | _ :: _, _, _, ⟨a, cap, m, h1, h2, h3, h4⟩ => ⟨a, cap, m, h1, h2, h3, NOrd.up hh h4⟩
theorem NOrd.push {w : World} {g mid hi : Nat} {y : Nd} {a : Option Addr} {cap : Nat} : ∀ {M : List Nd} {i lo : Nat}, NOrd w g i M lo mid → w.cell? ⟨g, (i + M.length) * 2 + 1, none⟩ = some (.slice a y.2.length cap) → SB y.2 mid hi (.slice a y.2.length cap) w → mid ≤ hi → NOrd w g i (M ++ [y]) lo hi
  | [], i, lo, h, hc, hs, hh => by
    obtain ⟨a', c', e, hx⟩ := hs
    simp only [Value.slice.injEq] at e
    obtain ⟨rfl, _, rfl⟩ := e
    refine ⟨a, cap, hi, by simpa using hc, ⟨a, cap, rfl, ?_⟩, Nat.le_trans h hh, Nat.le_refl _⟩
    rcases hx with hx | ⟨b, n, e, hk, h1, h2⟩
    · exact .inl hx
    · exact .inr ⟨b, n, e, hk, Nat.le_trans h h1, h2⟩
  | x :: t, i, lo, ⟨a', cap', m, h1, h2, h3, h4⟩, hc, hs, hh => ⟨a', cap', m, h1, h2, h3, NOrd.push h4 (by rw [← hc]; simp only [List.length_cons]; rw [show i + 1 + t.length = i + (t.length + 1) by omega]) hs hh⟩

/-- A row of needs of one's own, its spans behind it in order, between two block numbers. -/
def NIn (M : List Nd) (lo hi : Nat) (v : Value) (w : World) : Prop :=
  ∃ a cap, v = .slice a M.length cap ∧ (M = [] ∨ ∃ g n, a = some ⟨g, 0, none⟩ ∧ NdBlk w g n M ∧ lo ≤ g ∧ NOrd w g 0 M (g + 1) hi)
theorem NIn.kept {M : List Nd} {lo hi : Nat} {v : Value} {w w' : World} (h : NIn M lo hi v w) (hb : ∀ k, lo ≤ k → k < w.heap.size → w'.heap[k]? = w.heap[k]?) : NIn M lo hi v w' := by
  obtain ⟨a, cap, rfl, h⟩ := h
  refine ⟨_, _, rfl, ?_⟩
  rcases h with h | ⟨g, n, rfl, hk, h1, h2⟩
  · exact .inl h
  · exact .inr ⟨g, n, rfl, hk.kept fun k k1 k2 => hb k (by omega) k2, h1, h2.kept (fun j _ _ => World.cell?_of_block (a := ⟨g, j * 2 + 1, none⟩) (hb g h1 hk.lt)) fun k k1 _ k3 => hb k (by omega) k3⟩
theorem NIn.below {M : List Nd} {lo hi : Nat} {v : Value} {w w' : World} (h : NIn M lo hi v w) (hb : Below w.heap.size w w') : NIn M lo hi v w' := h.kept fun k _ hl => hb.block k hl
theorem NIn.at {M : List Nd} {lo hi : Nat} {v : Value} {w : World} (h : NIn M lo hi v w) : NdAt w w.heap.size v M := by
  obtain ⟨a, cap, rfl, h⟩ := h
  rcases h with rfl | ⟨g, n, rfl, hb, _⟩
  · exact ⟨_, _, rfl, .inl rfl⟩
  · exact hb.at

theorem two_ne {w : World} {g i j : Nat} {x y : Value} (h : i ≠ j) : ((w.setCell ⟨g, i * 2, none⟩ x).setCell ⟨g, i * 2 + 1, none⟩ y).cell? ⟨g, j * 2 + 1, none⟩ = w.cell? ⟨g, j * 2 + 1, none⟩ := by
  exact (World.cell?_setCell_other _ _ _ _ (by first | (simp; done) | (simp; omega))).trans (World.cell?_setCell_other _ _ _ _ (by first | (simp; done) | (simp; omega)))

/-- What the loop of toNeedS keeps, in order. -/
def NToRel2 (M : List Nd) (w : World) (g : Nat) (i : Value) (wr : World) : Prop :=
  ∃ k : Nat, k ≤ M.length ∧ i = .int .i64 (k : Int) ∧ NdBlk wr g M.length (M.take k) ∧ NOrd wr g 0 (M.take k) (g + 1) wr.heap.size ∧ Below w.heap.size w wr

def NToPost2 (M : List Nd) (w : World) (e : Ending) (w' : World) : Prop :=
  ∃ v, e = .returned v ∧ NIn M w.heap.size w'.heap.size v w' ∧ Below w.heap.size w w'

set_option maxRecDepth 100000 in
set_option maxHeartbeats 1000000 in
theorem toNeedS_ord (v : Value) (M : List Nd) (w : World) (h : NdAt w w.heap.size v M) (hl : M.length ≤ 1048576) (hq : ∀ q ∈ M, q.2.length ≤ 1048576) : Calls Try.prog 14 #[v] w fun e w' => ∃ g, e = .returned (.slice (some ⟨g, 0, none⟩) M.length M.length) ∧ NdBlk w' g M.length M ∧ w.heap.size ≤ g ∧ NOrd w' g 0 M (g + 1) w'.heap.size ∧ Below w.heap.size w w' := by
  obtain ⟨a, cap, rfl, h⟩ := h
  have hmk := make_needs M.length hl
  go_enter Try.func14, Try.ntmps14
  go_wp2
  clear hmk
  go_loopw [4] (fun i wr => NToRel2 M w w.heap.size i wr) (fun i _ => M.length - (intOf i).toNat)
  case atStart => exact ⟨0, Nat.zero_le _, rfl, by rw [List.take_zero]; exact made_needs _ _, by rw [List.take_zero]; show _ ≤ _; simp, (Below.refl _ _).alloc (Nat.le_refl _) _⟩
  case round =>
    obtain ⟨k, hk, rfl, hblk, hord, hb⟩ := hrel
    by_cases hlt : k < M.length
    · rcases h with h | ⟨b, o, rfl, hB, hc⟩
      · subst h
        exact absurd hlt (by simp)
      obtain ⟨x, L, hxy⟩ : ∃ x L, M[k] = (x, L) := ⟨_, _, rfl⟩
      have c := (hc k hlt).below hb hB
      rw [hxy] at c
      obtain ⟨e0, a1, cap1, e1, hs⟩ := c
      have hL : L.length ≤ 1048576 := by have := hq _ (List.getElem_mem hlt); rwa [hxy] at this
      simp only at e0 e1 hs
      have HXY := Lib.hid (show M[k]? = some (x, L) by rw [List.getElem?_eq_getElem hlt, hxy])
      clear hxy hc
      have HS := Lib.hid (hs.mono hb.size)
      have HBK := Lib.hid hblk
      have HOD := Lib.hid hord
      have hg := hblk.lt
      clear hs hblk hord
      go_wp2_with fail
      refine (toNeed_any x _ L wr HS.out hL).mono ?_
      rintro e w2 ⟨g2, rfl, sblk, hg2, hb2⟩
      have blk2 := HBK.out.below hb2
      have ord2 : NOrd w2 w.heap.size 0 (M.take k) (w.heap.size + 1) wr.heap.size := HOD.out.kept (fun j _ _ => hb2.cell (p := ⟨w.heap.size, _, none⟩) hg) fun k _ _ hk => hb2.block k hk
      have bel2 := hb.trans (hb2.mono hb.size)
      have pl := blk2.place hlt
      obtain ⟨⟨q0, hq0⟩, ⟨q1, hq1⟩, g0, g1⟩ := pl
      have hn := nto_push HXY.out hlt blk2 (show SRes L (w.heap.size + 1) (.slice (some ⟨g2, 0, none⟩) L.length L.length) w2 from ⟨_, _, rfl, .inr ⟨g2, _, rfl, sblk, by omega⟩⟩) bel2
      have HP := Lib.hid (show NToRel2 M w w.heap.size (.int .i64 ((k : Int) + 1)) ((w2.setCell ⟨w.heap.size, k * 2, none⟩ (.int .i64 x)).setCell ⟨w.heap.size, k * 2 + 1, none⟩ (.slice (some ⟨g2, 0, none⟩) L.length L.length)) by
        obtain ⟨k', h1, h2, h3, h4⟩ := hn
        have hkk : k' = k + 1 := by
          simp only [Value.int.injEq, true_and] at h2
          omega
        subst hkk
        refine ⟨k + 1, h1, h2, h3, ?_, h4⟩
        rw [List.take_add_one, HXY.out]
        have hlen : (M.take k).length = k := by simp; omega
        have far : ∀ j, j ≠ w.heap.size → ((w2.setCell ⟨w.heap.size, k * 2, none⟩ (.int .i64 x)).setCell ⟨w.heap.size, k * 2 + 1, none⟩ (.slice (some ⟨g2, 0, none⟩) L.length L.length)).heap[j]? = w2.heap[j]? := fun j hj =>
          (Below.heap_setCell _ _ _ _ (by show j ≠ w.heap.size; exact hj)).trans (Below.heap_setCell _ _ _ _ (by show j ≠ w.heap.size; exact hj))
        refine NOrd.push (y := (x, L)) (mid := wr.heap.size) (ord2.kept (fun j _ hj => two_ne (by rw [hlen] at hj; omega)) fun j j1 _ _ => far j (by omega)) ?_ ⟨some ⟨g2, 0, none⟩, L.length, rfl, .inr ⟨g2, L.length, rfl, sblk.kept (far g2 (by omega)), hg2, ?_⟩⟩ ?_
        · rw [hlen, Nat.zero_add]
          refine World.cell?_setCell_same _ _ _ (u := q1) ?_
          exact (World.cell?_setCell_other _ _ _ _ (by simp)).trans hq1
        · have := sblk.lt
          simpa [World.setCell] using this
        · have := hb2.size
          simpa [World.setCell] using this)
      clear hn hb hb2 e0 e1 blk2 ord2 bel2 sblk
      go_wp2_with fail
      go_roundw
      case rel => exact HP.out
      case measure => simp [intOf]; omega
    · obtain rfl : k = M.length := by omega
      rw [List.take_length] at hblk hord
      go_wp2_with fail
      go_ret
      exact ⟨w.heap.size, rfl, hblk, Nat.le_refl _, hord, hb⟩

end Go.Proofs.Ytgnjhmmedogcoaa

/- The laws' copies of releases once more, their inner rows in order, over this seat's translation. Condition: at most 1048576 releases, needs of each, and spans of those. -/
namespace Go.Proofs.Ytgnjhmmedogcoaa
open Go.RowKit Go.Sort

/-- The needs of these releases lie in rows of their own, in order, between two block numbers. -/
def ROrd (w : World) (g : Nat) : Nat → List Rel → Nat → Nat → Prop
  | _, [], lo, hi => lo ≤ hi
  | i, x :: t, lo, hi => ∃ a cap m, w.cell? ⟨g, i * 7 + 6, none⟩ = some (.slice a x.2.2.2.length cap) ∧ NIn x.2.2.2 lo m (.slice a x.2.2.2.length cap) w ∧ lo ≤ m ∧ ROrd w g (i + 1) t m hi
theorem ROrd.le {w : World} {g hi : Nat} : ∀ {M : List Rel} {i lo : Nat}, ROrd w g i M lo hi → lo ≤ hi
  | [], _, _, h => h
  | _ :: _, _, _, ⟨_, _, _, _, _, h1, h2⟩ => Nat.le_trans h1 (ROrd.le h2)
theorem ROrd.kept {w w' : World} {g hi : Nat} : ∀ {M : List Rel} {i lo : Nat}, ROrd w g i M lo hi → (∀ j, i ≤ j → j < i + M.length → w'.cell? ⟨g, j * 7 + 6, none⟩ = w.cell? ⟨g, j * 7 + 6, none⟩) → (∀ k, lo ≤ k → k < w.heap.size → w'.heap[k]? = w.heap[k]?) → ROrd w' g i M lo hi
  | [], _, _, h, _, _ => h
  | x :: t, i, lo, ⟨a, cap, m, h1, h2, h3, h4⟩, hc, hb =>
    ⟨a, cap, m, (hc i (Nat.le_refl _) (by simp)).trans h1, h2.kept hb, h3, ROrd.kept h4 (fun j j1 j2 => hc j (by omega) (by simp only [List.length_cons]; omega)) fun k k1 k2 => hb k (by omega) k2⟩
theorem NIn.down {M : List Nd} {lo lo' hi : Nat} {v : Value} {w : World} (h : NIn M lo hi v w) (hl : lo' ≤ lo) : NIn M lo' hi v w := by
  obtain ⟨a, cap, rfl, h⟩ := h
  refine ⟨_, _, rfl, ?_⟩
  rcases h with h | ⟨g, n, e, hk, h1, h2⟩
  · exact .inl h
  · exact .inr ⟨g, n, e, hk, by omega, h2⟩
theorem ROrd.push {w : World} {g mid hi : Nat} {y : Rel} {a : Option Addr} {cap : Nat} : ∀ {M : List Rel} {i lo : Nat}, ROrd w g i M lo mid → w.cell? ⟨g, (i + M.length) * 7 + 6, none⟩ = some (.slice a y.2.2.2.length cap) → NIn y.2.2.2 mid hi (.slice a y.2.2.2.length cap) w → mid ≤ hi → ROrd w g i (M ++ [y]) lo hi
  | [], i, lo, h, hc, hs, hh => ⟨a, cap, hi, by simpa using hc, hs.down h, Nat.le_trans h hh, Nat.le_refl _⟩
  | x :: t, i, lo, ⟨a', cap', m, h1, h2, h3, h4⟩, hc, hs, hh => ⟨a', cap', m, h1, h2, h3, ROrd.push h4 (by rw [← hc]; simp only [List.length_cons]; rw [show i + 1 + t.length = i + (t.length + 1) by omega]) hs hh⟩

/-- A row of releases of one's own, all that it leads to behind it in order, between two block numbers. -/
def RIn (S : List Rel) (lo hi : Nat) (v : Value) (w : World) : Prop :=
  ∃ a cap, v = .slice a S.length cap ∧ ∃ g n, a = some ⟨g, 0, none⟩ ∧ RlBlk w g n S ∧ lo ≤ g ∧ ROrd w g 0 S (g + 1) hi
theorem RIn.kept {S : List Rel} {lo hi : Nat} {v : Value} {w w' : World} (h : RIn S lo hi v w) (hb : ∀ k, lo ≤ k → k < w.heap.size → w'.heap[k]? = w.heap[k]?) : RIn S lo hi v w' := by
  obtain ⟨a, cap, rfl, g, n, rfl, hk, h1, h2⟩ := h
  exact ⟨_, _, rfl, g, n, rfl, hk.kept fun k k1 k2 => hb k (by omega) k2, h1, h2.kept (fun j _ _ => World.cell?_of_block (a := ⟨g, j * 7 + 6, none⟩) (hb g h1 hk.lt)) fun k k1 k3 => hb k (by omega) k3⟩
theorem RIn.below {S : List Rel} {lo hi : Nat} {v : Value} {w w' : World} (h : RIn S lo hi v w) (hb : Below w.heap.size w w') : RIn S lo hi v w' := h.kept fun k _ hl => hb.block k hl
theorem RIn.at {S : List Rel} {lo hi : Nat} {v : Value} {w : World} (h : RIn S lo hi v w) : RlAt w w.heap.size v S := by
  obtain ⟨a, cap, rfl, g, n, rfl, hb, _⟩ := h
  exact hb.at

set_option maxRecDepth 100000 in
set_option maxHeartbeats 2000000 in
theorem toRelease_ord (n a b c d : Int) (f : Bool) (v : Value) (M : List Nd) (w : World) (h : NdAt w w.heap.size v M) (hl : M.length ≤ 1048576) (hq : ∀ q ∈ M, q.2.length ≤ 1048576) :
    Calls Try.prog 56 #[rels n a b c d f v] w fun e w' => ∃ g, e = .returned (rels n a b c d f (.slice (some ⟨g, 0, none⟩) M.length M.length)) ∧ NdBlk w' g M.length M ∧ w.heap.size ≤ g ∧ NOrd w' g 0 M (g + 1) w'.heap.size ∧ Below w.heap.size w w' := by
  have h' := h
  obtain ⟨ad, cap, rfl, hx⟩ := h'
  clear hx
  have H := Lib.hid h
  clear h
  go_enter Try.func56, Try.ntmps56
  go_wp2_with fail
  refine (toVersion_any a b c d _).mono ?_
  rintro e w1 ⟨rfl, hb1⟩
  have b1 : Below w.heap.size w w1 := Below.step (by go_grown) hb1
  have s1 : w.heap.size + 1 + 1 + 1 ≤ w1.heap.size := by have := hb1.size; simp at this; omega
  obtain ⟨hc, hf⟩ : (∀ b o, b < w.heap.size + 1 + 1 + 1 → w1.cell? ⟨b, o, none⟩ = _) ∧ (∀ b o, b < w.heap.size + 1 + 1 + 1 → w1.frozen? ⟨b, o, none⟩ = _) :=
    ⟨fun b o hbo => hb1.cell (p := ⟨b, o, none⟩) (by simpa using hbo), fun b o hbo => hb1.frozen (p := ⟨b, o, none⟩) (by simpa using hbo)⟩
  clear hb1
  go_wp2_with fail
  refine (toNeedS_ord _ M _ (H.out.stepAt (by go_grown)) hl hq).mono ?_
  rintro e w2 ⟨g, rfl, hblk, hg, hord, hb2⟩
  have b2 : Below w.heap.size w w2 := Below.step (show Below w.heap.size w _ from by go_grown) hb2
  obtain ⟨hc2, hf2⟩ : (∀ b o, b < w.heap.size + 1 + 1 + 1 → w2.cell? ⟨b, o, none⟩ = _) ∧ (∀ b o, b < w.heap.size + 1 + 1 + 1 → w2.frozen? ⟨b, o, none⟩ = _) :=
    ⟨fun b o hbo => hb2.cell (p := ⟨b, o, none⟩) (by simp; omega), fun b o hbo => hb2.frozen (p := ⟨b, o, none⟩) (by simp; omega)⟩
  have hg' : w.heap.size + 3 ≤ g := by simp at hg; omega
  have HBK := Lib.hid hblk
  have HOD := Lib.hid hord
  clear hb2 H hg b1 hblk hord
  go_wp2_with fail
  refine bodyPost_ret (v := rels n a b c d f (.slice (some ⟨g, 0, none⟩) M.length M.length)) (by simp [results, Try.results56, go_sem, hc2, hc]) rfl ?_
  have fin : ∀ W : World, (∀ k, g ≤ k → W.heap[k]? = w2.heap[k]?) → w2.heap.size ≤ W.heap.size → Below w.heap.size w W → ∃ g', (Ending.returned (rels n a b c d f (.slice (some ⟨g, 0, none⟩) M.length M.length)) : Ending) = .returned (rels n a b c d f (.slice (some ⟨g', 0, none⟩) M.length M.length)) ∧ NdBlk W g' M.length M ∧ w.heap.size ≤ g' ∧ NOrd W g' 0 M (g' + 1) W.heap.size ∧ Below w.heap.size w W := fun W all hs hb =>
    ⟨g, rfl, HBK.out.kept (fun k hk _ => all k hk), by omega, (HOD.out.kept (fun j _ _ => World.cell?_of_block (a := ⟨g, j * 2 + 1, none⟩) (all g (Nat.le_refl _))) (fun k k1 _ _ => all k (by omega))).up hs, hb⟩
  exact fin _ (fun k hk => by repeat (first | (with_reducible rfl) | refine (Below.heap_setCell _ _ _ _ (by simp; omega)).trans ?_)) (by simp [World.setCell]) (by go_grown)

def RToRel2 (S : List Rel) (w : World) (g : Nat) (i : Value) (wr : World) : Prop :=
  ∃ k : Nat, k ≤ S.length ∧ i = .int .i64 (k : Int) ∧ RlBlk wr g S.length (S.take k) ∧ ROrd wr g 0 (S.take k) (g + 1) wr.heap.size ∧ Below w.heap.size w wr

set_option maxRecDepth 100000 in
set_option maxHeartbeats 2000000 in
theorem toReleaseS_box (v : Value) (S : List Rel) (w : World) (h : RlAt w w.heap.size v S) (hl : S.length ≤ 1048576) (hq : ∀ q ∈ S, q.2.2.2.length ≤ 1048576 ∧ ∀ p ∈ q.2.2.2, p.2.length ≤ 1048576) :
    Calls Try.prog 13 #[v] w fun e w' => ∃ g, e = .returned (.slice (some ⟨g, 0, none⟩) S.length S.length) ∧ RIn S w.heap.size w'.heap.size (.slice (some ⟨g, 0, none⟩) S.length S.length) w' ∧ Below w.heap.size w w' := by
  obtain ⟨a, cap, rfl, h⟩ := h
  have hmk := make_rels S.length hl
  go_enter Try.func13, Try.ntmps13
  go_wp2
  clear hmk
  go_loopw [4] (fun i wr => RToRel2 S w w.heap.size i wr) (fun i _ => S.length - (intOf i).toNat)
  case atStart => exact ⟨0, Nat.zero_le _, rfl, by rw [List.take_zero]; exact made_rels _ _, by rw [List.take_zero]; show _ ≤ _; simp, (Below.refl _ _).alloc (Nat.le_refl _) _⟩
  case round =>
    obtain ⟨k, hk, rfl, hblk, hord, hb⟩ := hrel
    by_cases hlt : k < S.length
    · rcases h with h | ⟨b, o, rfl, hB, hc⟩
      · subst h
        exact absurd hlt (by simp)
      obtain ⟨x, a1, b1, c1, d1, gn, M, hxy⟩ : ∃ x a1 b1 c1 d1 gn M, S[k] = (x, (a1, b1, c1, d1), gn, M) := ⟨_, _, _, _, _, _, _, rfl⟩
      have c := (hc k hlt).below hb hB
      rw [hxy] at c
      obtain ⟨⟨e0, e1, e2, e3, e4, e5⟩, ad, cap1, e6, hs⟩ := c
      have hL : M.length ≤ 1048576 ∧ ∀ p ∈ M, p.2.length ≤ 1048576 := by have := hq _ (List.getElem_mem hlt); rwa [hxy] at this
      simp only at e0 e1 e2 e3 e4 e5 e6 hs
      have HXY := Lib.hid (show S[k]? = some (x, (a1, b1, c1, d1), gn, M) by rw [List.getElem?_eq_getElem hlt, hxy])
      clear hxy hc
      have HS := Lib.hid (hs.mono hb.size)
      have HB := Lib.hid hblk
      have HOD := Lib.hid hord
      have hg := hblk.lt
      clear hs hblk hord
      go_wp2_with fail
      refine (toRelease_ord x a1 b1 c1 d1 gn _ M wr HS.out hL.1 hL.2).mono ?_
      rintro e w2 ⟨g2, rfl, sblk, hg2, sord, hb2⟩
      have blk2 := HB.out.below hb2
      have ord2 : ROrd w2 w.heap.size 0 (S.take k) (w.heap.size + 1) wr.heap.size := HOD.out.kept (fun j _ _ => hb2.cell (p := ⟨w.heap.size, _, none⟩) hg) fun k _ hk => hb2.block k hk
      have bel2 := hb.trans (hb2.mono hb.size)
      have pl := blk2.place hlt
      obtain ⟨⟨p0, hp0⟩, ⟨p1, hp1⟩, ⟨p2, hp2⟩, ⟨p3, hp3⟩, ⟨p4, hp4⟩, ⟨p5, hp5⟩, ⟨p6, hp6⟩, f0, f1, f2, f3, f4, f5, f6⟩ := pl
      have hn := rto_push HXY.out hlt blk2 (show NRes M (w.heap.size + 1) (.slice (some ⟨g2, 0, none⟩) M.length M.length) w2 from ⟨_, _, rfl, .inr ⟨g2, _, rfl, sblk, by omega⟩⟩) bel2
      have HP := Lib.hid (show RToRel2 S w w.heap.size (.int .i64 ((k : Int) + 1)) (((((((w2.setCell ⟨w.heap.size, k * 7, none⟩ (.int .i64 x)).setCell ⟨w.heap.size, k * 7 + 1, none⟩ (.int .i64 a1)).setCell ⟨w.heap.size, k * 7 + 2, none⟩ (.int .i64 b1)).setCell ⟨w.heap.size, k * 7 + 3, none⟩ (.int .i64 c1)).setCell ⟨w.heap.size, k * 7 + 4, none⟩ (.int .i64 d1)).setCell ⟨w.heap.size, k * 7 + 5, none⟩ (.bool gn)).setCell ⟨w.heap.size, k * 7 + 6, none⟩ (.slice (some ⟨g2, 0, none⟩) M.length M.length)) by
        obtain ⟨k', h1, h2, h3, h4⟩ := hn
        have hkk : k' = k + 1 := by
          simp only [Value.int.injEq, true_and] at h2
          omega
        subst hkk
        refine ⟨k + 1, h1, h2, h3, ?_, h4⟩
        rw [List.take_add_one, HXY.out]
        have hlen : (S.take k).length = k := by simp; omega
        have one : ∀ (W : World) (o j : Nat) (u : Value), j ≠ w.heap.size → (W.setCell ⟨w.heap.size, o, none⟩ u).heap[j]? = W.heap[j]? := fun W o j u hj => Below.heap_setCell _ _ _ _ (by show j ≠ w.heap.size; exact hj)
        have far : ∀ j, j ≠ w.heap.size → (((((((w2.setCell ⟨w.heap.size, k * 7, none⟩ (.int .i64 x)).setCell ⟨w.heap.size, k * 7 + 1, none⟩ (.int .i64 a1)).setCell ⟨w.heap.size, k * 7 + 2, none⟩ (.int .i64 b1)).setCell ⟨w.heap.size, k * 7 + 3, none⟩ (.int .i64 c1)).setCell ⟨w.heap.size, k * 7 + 4, none⟩ (.int .i64 d1)).setCell ⟨w.heap.size, k * 7 + 5, none⟩ (.bool gn)).setCell ⟨w.heap.size, k * 7 + 6, none⟩ (.slice (some ⟨g2, 0, none⟩) M.length M.length)).heap[j]? = w2.heap[j]? := fun j hj => (one _ _ _ _ hj).trans ((one _ _ _ _ hj).trans ((one _ _ _ _ hj).trans ((one _ _ _ _ hj).trans ((one _ _ _ _ hj).trans ((one _ _ _ _ hj).trans (one _ _ _ _ hj))))))
        have ne6 : ∀ j, j ≠ k → (((((((w2.setCell ⟨w.heap.size, k * 7, none⟩ (.int .i64 x)).setCell ⟨w.heap.size, k * 7 + 1, none⟩ (.int .i64 a1)).setCell ⟨w.heap.size, k * 7 + 2, none⟩ (.int .i64 b1)).setCell ⟨w.heap.size, k * 7 + 3, none⟩ (.int .i64 c1)).setCell ⟨w.heap.size, k * 7 + 4, none⟩ (.int .i64 d1)).setCell ⟨w.heap.size, k * 7 + 5, none⟩ (.bool gn)).setCell ⟨w.heap.size, k * 7 + 6, none⟩ (.slice (some ⟨g2, 0, none⟩) M.length M.length)).cell? ⟨w.heap.size, j * 7 + 6, none⟩ = w2.cell? ⟨w.heap.size, j * 7 + 6, none⟩ := fun j hj => (World.cell?_setCell_other _ _ _ _ (by first | (simp; done) | (simp; omega))).trans ((World.cell?_setCell_other _ _ _ _ (by first | (simp; done) | (simp; omega))).trans ((World.cell?_setCell_other _ _ _ _ (by first | (simp; done) | (simp; omega))).trans ((World.cell?_setCell_other _ _ _ _ (by first | (simp; done) | (simp; omega))).trans ((World.cell?_setCell_other _ _ _ _ (by first | (simp; done) | (simp; omega))).trans ((World.cell?_setCell_other _ _ _ _ (by first | (simp; done) | (simp; omega))).trans ((World.cell?_setCell_other _ _ _ _ (by first | (simp; done) | (simp; omega)))))))))
        have hsz : (((((((w2.setCell ⟨w.heap.size, k * 7, none⟩ (.int .i64 x)).setCell ⟨w.heap.size, k * 7 + 1, none⟩ (.int .i64 a1)).setCell ⟨w.heap.size, k * 7 + 2, none⟩ (.int .i64 b1)).setCell ⟨w.heap.size, k * 7 + 3, none⟩ (.int .i64 c1)).setCell ⟨w.heap.size, k * 7 + 4, none⟩ (.int .i64 d1)).setCell ⟨w.heap.size, k * 7 + 5, none⟩ (.bool gn)).setCell ⟨w.heap.size, k * 7 + 6, none⟩ (.slice (some ⟨g2, 0, none⟩) M.length M.length)).heap.size = w2.heap.size := by simp [World.setCell]
        refine ROrd.push (y := (x, (a1, b1, c1, d1), gn, M)) (mid := wr.heap.size) (ord2.kept (fun j _ hj => ne6 j (by rw [hlen] at hj; omega)) fun j j1 _ => far j (by omega)) ?_ ⟨some ⟨g2, 0, none⟩, M.length, rfl, .inr ⟨g2, M.length, rfl, sblk.kept (fun j j1 _ => far j (by omega)), hg2, ?_⟩⟩ ?_
        · rw [hlen, Nat.zero_add]
          refine World.cell?_setCell_same _ _ _ (u := p6) ?_
          exact (World.cell?_setCell_other _ _ _ _ (by first | (simp; done) | (simp; omega))).trans ((World.cell?_setCell_other _ _ _ _ (by first | (simp; done) | (simp; omega))).trans ((World.cell?_setCell_other _ _ _ _ (by first | (simp; done) | (simp; omega))).trans ((World.cell?_setCell_other _ _ _ _ (by first | (simp; done) | (simp; omega))).trans ((World.cell?_setCell_other _ _ _ _ (by first | (simp; done) | (simp; omega))).trans ((World.cell?_setCell_other _ _ _ _ (by first | (simp; done) | (simp; omega))).trans (hp6))))))
        · rw [hsz]
          exact sord.kept (fun j _ _ => World.cell?_of_block (a := ⟨g2, j * 2 + 1, none⟩) (far g2 (by omega))) fun j j1 _ _ => far j (by omega)
        · rw [hsz]
          exact hb2.size)
      clear hn hb hb2 e0 e1 e2 e3 e4 e5 e6 blk2 ord2 bel2 sblk sord
      go_wp2_with fail
      go_roundw
      case rel => exact HP.out
      case measure => simp [intOf]; omega
    · obtain rfl : k = S.length := by omega
      rw [List.take_length] at hblk hord
      go_wp2_with fail
      go_ret
      exact ⟨_, rfl, ⟨some ⟨w.heap.size, 0, none⟩, S.length, rfl, w.heap.size, S.length, rfl, hblk, Nat.le_refl _, hord⟩, hb⟩

theorem toReleaseS_ord (v : Value) (S : List Rel) (w : World) (h : RlAt w w.heap.size v S) (hl : S.length ≤ 1048576) (hq : ∀ q ∈ S, q.2.2.2.length ≤ 1048576 ∧ ∀ p ∈ q.2.2.2, p.2.length ≤ 1048576) :
    Calls Try.prog 13 #[v] w fun e w' => ∃ u, e = .returned u ∧ RIn S w.heap.size w'.heap.size u w' ∧ Below w.heap.size w w' :=
  (toReleaseS_box v S w h hl hq).mono fun _ _ ⟨_, he, hr, hb⟩ => ⟨_, he, hr, hb⟩

end Go.Proofs.Ytgnjhmmedogcoaa

/- What marking rows of needs and of releases can change, over this seat's translation: the marks go up by a known bound, and nothing is changed but the rows themselves, between two block numbers. Condition: at most 1048576 of each. -/
namespace Go.Proofs.Ytgnjhmmedogcoaa
open Go.RowKit Go.Sort

theorem Out.refl (lo hi : Nat) (w : World) : Out lo hi w w := ⟨rfl, rfl, rfl, Nat.le_refl _, fun _ _ _ => rfl⟩
theorem Out.trans {lo hi : Nat} {a b c : World} (h : Out lo hi a b) (k : Out lo hi b c) : Out lo hi a c :=
  ⟨k.os.trans h.os, k.tape.trans h.tape, k.output.trans h.output, Nat.le_trans h.size k.size, fun j j1 j2 => (k.block j (Nat.lt_of_lt_of_le j1 h.size) j2).trans (h.block j j1 j2)⟩
theorem Out.wide {lo hi lo' hi' : Nat} {a b : World} (h : Out lo hi a b) (h1 : lo' ≤ lo) (h2 : hi ≤ hi') : Out lo' hi' a b :=
  ⟨h.os, h.tape, h.output, h.size, fun j j1 j2 => h.block j j1 (by omega)⟩
theorem Out.setCell {lo hi : Nat} {a b : World} (h : Out lo hi a b) {g o : Nat} {v : Value} (h1 : lo ≤ g) (h2 : g < hi) : Out lo hi a (b.setCell ⟨g, o, none⟩ v) :=
  ⟨h.os, h.tape, h.output, by simpa [World.setCell] using h.size, fun j j1 j2 => (Below.heap_setCell _ _ _ _ (by show j ≠ g; omega)).trans (h.block j j1 j2)⟩
theorem Out.ofBelow {lo hi : Nat} {a b : World} (h : Below a.heap.size a b) : Out lo hi a b := ⟨h.os, h.tape, h.output, h.size, fun j j1 _ => h.block j j1⟩
/-- A set of blocks that may be written: the cells that may be, are. -/
def Shape (w : World) (g n : Nat) (t : TypeId) : Prop := ∃ C : Array Value, w.heap[g]? = some (.cells C t (0, 0)) ∧ C.size = n
theorem Shape.place {w : World} {g n : Nat} {t : TypeId} (h : Shape w g n t) {k : Nat} (hk : k < n) : (∃ x, w.cell? ⟨g, k, none⟩ = some x) ∧ w.frozen? ⟨g, k, none⟩ = false := by
  obtain ⟨C, h, hs⟩ := h
  refine ⟨⟨C[k]'(by omega), ?_⟩, ?_⟩
  · rw [cell_of_row w g _ C _ (0, 0) h]; exact Array.getElem?_eq_getElem _
  · simp [World.frozen?, h]
theorem Shape.set {w : World} {g n : Nat} {t : TypeId} (h : Shape w g n t) (k : Nat) (v : Value) : Shape (w.setCell ⟨g, k, none⟩ v) g n t := by
  obtain ⟨C, h, hs⟩ := h
  exact ⟨C.setIfInBounds k v, by simp [World.setCell, Array.getElem?_modify, h], by simpa using hs⟩
theorem Shape.kept {w w' : World} {g n : Nat} {t : TypeId} (h : Shape w g n t) (hb : w'.heap[g]? = w.heap[g]?) : Shape w' g n t := by
  obtain ⟨C, h, hs⟩ := h
  exact ⟨C, hb.trans h, hs⟩
theorem Shape.lt {w : World} {g n : Nat} {t : TypeId} (h : Shape w g n t) : g < w.heap.size := by
  obtain ⟨C, h, _⟩ := h
  exact (Array.getElem?_eq_some_iff.1 h).1

theorem markSpanSB {L : List (Int × Int)} {lo hi : Nat} {u : Value} {w : World} (hl : L.length ≤ 1048576) (h : SB L lo hi u w) (k : Int) (hk0 : 0 ≤ k) (hk1 : k ≤ 1000000000) :
    Calls Try.prog 63 #[u, .int .i64 k] w fun e w' => e = .returned (.int .i64 (k + 2 * L.length)) ∧ Out lo hi w w' := by
  obtain ⟨a, cap, rfl, h⟩ := h
  rcases h with rfl | ⟨g, n, rfl, hb, h1, h2⟩
  · refine (markSpanS_nil a cap k w).mono ?_
    rintro e w' ⟨rfl, rfl⟩
    exact ⟨by simp, Out.refl _ _ _⟩
  · refine (markSpanS_any g n cap L k w hl hk0 hk1 hb).mono ?_
    rintro e w' ⟨rfl, hb', hg⟩
    exact ⟨rfl, ⟨hg.os, hg.tape, hg.output, hg.size, fun i hi hd => hg.block i hi (fun e => by injection e with e; omega)⟩⟩

def NMRel (M : List Nd) (k : Int) (g n hi : Nat) (w : World) (s1 i : Value) (wr : World) : Prop :=
  ∃ (j : Nat) (y : Int) (lo : Nat), j ≤ M.length ∧ i = .int .i64 (j : Int) ∧ s1 = .int .i64 y ∧ k ≤ y ∧ y + 2 * (ndSz (M.drop j) : Int) ≤ k + j + 2 * (ndSz M : Int) ∧ Shape wr g (n * 2) 59 ∧ NOrd wr g j (M.drop j) lo hi ∧ g + 1 ≤ lo ∧ Out g hi w wr

set_option maxRecDepth 100000 in
set_option maxHeartbeats 2000000 in
theorem markNeedS_out (g n cap : Nat) (M : List Nd) (k : Int) (hi : Nat) (w : World) (hl : M.length ≤ 1048576) (hsz : ndSz M ≤ 1048576) (hk0 : 0 ≤ k) (hk1 : k ≤ 500000000) (h : NdBlk w g n M) (ho : NOrd w g 0 M (g + 1) hi) :
    Calls Try.prog 20 #[.slice (some ⟨g, 0, none⟩) M.length cap, .int .i64 k] w fun e w' => (∃ y : Int, e = .returned (.int .i64 y) ∧ k ≤ y ∧ y ≤ k + M.length + 2 * (ndSz M : Int)) ∧ Out g hi w w' := by
  have hgh := NOrd.le ho
  obtain ⟨hsh, hnl⟩ : Shape w g (n * 2) 59 ∧ M.length ≤ n := by
    obtain ⟨C, h1, h2, h3, _⟩ := h
    exact ⟨⟨C, h1, h2⟩, h3⟩
  have HS := Lib.hid (show NMRel M k g n hi w (.int .i64 k) (.int .i64 0) w from ⟨0, k, g + 1, Nat.zero_le _, rfl, rfl, Int.le_refl _, by simp, hsh, ho, Nat.le_refl _, Out.refl _ _ _⟩)
  clear h ho hsh
  go_enter Try.func20, Try.ntmps20
  go_wp2
  go_loopw [1, 5] (fun s1 i wr => NMRel M k g n hi w s1 i wr) (fun _ i _ => M.length - (intOf i).toNat)
  case atStart => exact HS.out
  case round =>
    obtain ⟨j, y, lo, hj, rfl, rfl, hy0, hy1, hsh, hord, hlo, hout⟩ := hrel
    by_cases hlt : j < M.length
    · obtain ⟨x, L, hxy⟩ : ∃ x L, M[j] = (x, L) := ⟨_, _, rfl⟩
      have hx : M[j]? = some (x, L) := by rw [List.getElem?_eq_getElem hlt, hxy]
      have hd : M.drop j = (x, L) :: M.drop (j + 1) := by rw [List.drop_eq_getElem_cons hlt, hxy]
      have hds := ndSz_drop M j _ hx
      simp only at hds
      rw [hd] at hord
      obtain ⟨a, cp, m, hc, hs, hlm, hrest⟩ := hord
      simp only at hc hs
      have hmem := ndSz_mem M j _ hx
      simp only at hmem
      have hLs : L.length ≤ 1048576 := by omega
      obtain ⟨⟨z, hz⟩, hf⟩ := hsh.place (show j * 2 < n * 2 by omega)
      have hmh := NOrd.le hrest
      have HSB := Lib.hid (hs.kept (w' := wr.setCell ⟨g, j * 2, none⟩ (.int .i64 y)) fun q q1 _ _ => Below.heap_setCell _ _ _ _ (by show q ≠ g; omega))
      have HSH := Lib.hid (hsh.set (j * 2) (.int .i64 y))
      have HRest := Lib.hid (hrest.kept (w' := wr.setCell ⟨g, j * 2, none⟩ (.int .i64 y)) (fun q q1 _ => World.cell?_setCell_other _ _ _ _ (by first | (simp; done) | (simp; omega))) fun q q1 _ _ => Below.heap_setCell _ _ _ _ (by show q ≠ g; omega))
      have HO := Lib.hid (hout.setCell (o := j * 2) (v := .int .i64 y) (Nat.le_refl g) (by omega))
      clear hs hsh hrest hout hxy hx hd
      go_wp2_with fail
      refine (markSpanSB hLs HSB.out (y + 1) (by omega) (by omega)).mono ?_
      rintro e w2 ⟨rfl, ho2⟩
      have HP := Lib.hid (show NMRel M k g n hi w (.int .i64 (y + 1 + 2 * (L.length : Int))) (.int .i64 ((j : Int) + 1)) w2 from
        ⟨j + 1, y + 1 + 2 * (L.length : Int), m, by omega, by go_num, rfl, by omega, by omega, HSH.out.kept (ho2.block g HSH.out.lt (.inl (by omega))), HRest.out.kept (fun q q1 _ => World.cell?_of_block (a := ⟨g, q * 2 + 1, none⟩) (ho2.block g HSH.out.lt (.inl (by omega)))) (fun q q1 _ q3 => ho2.block q q3 (.inr q1)), by omega, HO.out.trans (ho2.wide (by omega) hmh)⟩)
      clear ho2
      go_wp2_with fail
      go_roundw
      case rel => exact HP.out
      case measure => simp [intOf]; omega
    · obtain rfl : j = M.length := by omega
      rw [List.drop_length] at hy1
      have HE := Lib.hid (show k ≤ y ∧ y ≤ k + M.length + 2 * (ndSz M : Int) from ⟨hy0, by simp [ndSz] at hy1; omega⟩)
      clear hsh hord
      go_wp2_with fail
      go_ret
      exact ⟨⟨y, rfl, HE.out.1, HE.out.2⟩, hout⟩

set_option maxRecDepth 100000 in
set_option maxHeartbeats 400000 in
theorem markNeedS_nil (a : Option Addr) (cap : Nat) (k : Int) (w : World) : Calls Try.prog 20 #[.slice a 0 cap, .int .i64 k] w fun e w' => e = .returned (.int .i64 k) ∧ w = w' := by
  go_enter Try.func20, Try.ntmps20
  go_wp2
  go_loop [1, 5] (fun s1 i => i = .int .i64 0 ∧ s1 = .int .i64 k) (fun _ _ => 0)
  case atStart => exact ⟨rfl, rfl⟩
  case round =>
    obtain ⟨rfl, rfl⟩ := hrel
    go_wp2_with fail
    go_ret
    exact ⟨rfl, rfl⟩

theorem markNIn {M : List Nd} {lo hi : Nat} {u : Value} {w : World} (hl : M.length ≤ 1048576) (hsz : ndSz M ≤ 1048576) (h : NIn M lo hi u w) (k : Int) (hk0 : 0 ≤ k) (hk1 : k ≤ 500000000) :
    Calls Try.prog 20 #[u, .int .i64 k] w fun e w' => (∃ y : Int, e = .returned (.int .i64 y) ∧ k ≤ y ∧ y ≤ k + M.length + 2 * (ndSz M : Int)) ∧ Out lo hi w w' := by
  obtain ⟨a, cap, rfl, h⟩ := h
  rcases h with rfl | ⟨g, n, rfl, hb, h1, h2⟩
  · refine (markNeedS_nil a cap k w).mono ?_
    rintro e w' ⟨rfl, rfl⟩
    exact ⟨⟨k, rfl, Int.le_refl _, by simp [ndSz]⟩, Out.refl _ _ _⟩
  · refine (markNeedS_out g n cap M k hi w hl hsz hk0 hk1 hb h2).mono ?_
    rintro e w' ⟨he, ho⟩
    exact ⟨he, ho.wide h1 (Nat.le_refl _)⟩

def RMRel (S : List Rel) (k : Int) (g n hi : Nat) (w : World) (s1 i : Value) (wr : World) : Prop :=
  ∃ (j : Nat) (y : Int) (lo : Nat), j ≤ S.length ∧ i = .int .i64 (j : Int) ∧ s1 = .int .i64 y ∧ k ≤ y ∧ y + 2 * (rlSz (S.drop j) : Int) ≤ k + 6 * j + 2 * (rlSz S : Int) ∧ Shape wr g (n * 7) 63 ∧ ROrd wr g j (S.drop j) lo hi ∧ g + 1 ≤ lo ∧ Out g hi w wr

set_option maxRecDepth 100000 in
set_option maxHeartbeats 4000000 in
theorem markReleaseS_out {S : List Rel} {lo0 hi : Nat} {u : Value} {w : World} (hl : S.length ≤ 1048576) (hsz : rlSz S ≤ 1048576) (h : RIn S lo0 hi u w) (k : Int) (hk0 : 0 ≤ k) (hk1 : k ≤ 1000000) :
    Calls Try.prog 19 #[u, .int .i64 k] w fun e w' => (∃ y : Int, e = .returned (.int .i64 y) ∧ k ≤ y ∧ y ≤ k + 6 * S.length + 2 * (rlSz S : Int)) ∧ Out lo0 hi w w' := by
  obtain ⟨a, cap, rfl, g, n, rfl, hb, hlog, ho⟩ := h
  have hgh := ROrd.le ho
  obtain ⟨hsh, hnl⟩ : Shape w g (n * 7) 63 ∧ S.length ≤ n := by
    obtain ⟨C, h1, h2, h3, _⟩ := hb
    exact ⟨⟨C, h1, h2⟩, h3⟩
  have HS := Lib.hid (show RMRel S k g n hi w (.int .i64 k) (.int .i64 0) w from ⟨0, k, g + 1, Nat.zero_le _, rfl, rfl, Int.le_refl _, by simp, hsh, ho, Nat.le_refl _, Out.refl _ _ _⟩)
  clear hb ho hsh
  go_enter Try.func19, Try.ntmps19
  go_wp2
  go_loopw [1, 5] (fun s1 i wr => RMRel S k g n hi w s1 i wr) (fun _ i _ => S.length - (intOf i).toNat)
  case atStart => exact HS.out
  case round =>
    obtain ⟨j, y, lo, hj, rfl, rfl, hy0, hy1, hsh, hord, hlo, hout⟩ := hrel
    by_cases hlt : j < S.length
    · obtain ⟨x, hxy⟩ : ∃ x, S[j] = x := ⟨_, rfl⟩
      have hx : S[j]? = some x := by rw [List.getElem?_eq_getElem hlt, hxy]
      have hd : S.drop j = x :: S.drop (j + 1) := by rw [List.drop_eq_getElem_cons hlt, hxy]
      have hds := rlSz_drop S j _ hx
      have hmem := rlSz_mem S j _ hx
      rw [hd] at hord
      obtain ⟨p, cp, m, hc, hs, hlm, hrest⟩ := hord
      obtain ⟨M, hM⟩ : ∃ M, x.2.2.2 = M := ⟨_, rfl⟩
      rw [hM] at hc hs hds hmem
      have hLs : M.length ≤ 1048576 := by omega
      have hLz : ndSz M ≤ 1048576 := by omega
      have hmh := ROrd.le hrest
      obtain ⟨bb, hbb⟩ : ∃ bb : Bool, ((y + 1 + 1 + 1 + 1 + 1) % 3 == 0) = bb := ⟨_, rfl⟩
      obtain ⟨⟨z0, hz0⟩, hf0⟩ := hsh.place (show j * 7 < n * 7 by omega)
      obtain ⟨⟨z1, hz1⟩, hf1⟩ := hsh.place (show j * 7 + 1 < n * 7 by omega)
      obtain ⟨⟨z2, hz2⟩, hf2⟩ := hsh.place (show j * 7 + 2 < n * 7 by omega)
      obtain ⟨⟨z3, hz3⟩, hf3⟩ := hsh.place (show j * 7 + 3 < n * 7 by omega)
      obtain ⟨⟨z4, hz4⟩, hf4⟩ := hsh.place (show j * 7 + 4 < n * 7 by omega)
      obtain ⟨⟨z5, hz5⟩, hf5⟩ := hsh.place (show j * 7 + 5 < n * 7 by omega)
      have far : ∀ q, q ≠ g → ((((((wr.setCell ⟨g, j * 7, none⟩ (.int .i64 y)).setCell ⟨g, j * 7 + 1, none⟩ (.int .i64 (y + 1))).setCell ⟨g, j * 7 + 2, none⟩ (.int .i64 (y + 1 + 1))).setCell ⟨g, j * 7 + 3, none⟩ (.int .i64 (y + 1 + 1 + 1))).setCell ⟨g, j * 7 + 4, none⟩ (.int .i64 (y + 1 + 1 + 1 + 1))).setCell ⟨g, j * 7 + 5, none⟩ (.bool bb)).heap[q]? = wr.heap[q]? := fun q hq => (Below.heap_setCell _ _ _ _ (by show q ≠ g; omega)).trans ((Below.heap_setCell _ _ _ _ (by show q ≠ g; omega)).trans ((Below.heap_setCell _ _ _ _ (by show q ≠ g; omega)).trans ((Below.heap_setCell _ _ _ _ (by show q ≠ g; omega)).trans ((Below.heap_setCell _ _ _ _ (by show q ≠ g; omega)).trans ((Below.heap_setCell _ _ _ _ (by show q ≠ g; omega)))))))
      have HSB := Lib.hid (hs.kept (w' := ((((((wr.setCell ⟨g, j * 7, none⟩ (.int .i64 y)).setCell ⟨g, j * 7 + 1, none⟩ (.int .i64 (y + 1))).setCell ⟨g, j * 7 + 2, none⟩ (.int .i64 (y + 1 + 1))).setCell ⟨g, j * 7 + 3, none⟩ (.int .i64 (y + 1 + 1 + 1))).setCell ⟨g, j * 7 + 4, none⟩ (.int .i64 (y + 1 + 1 + 1 + 1))).setCell ⟨g, j * 7 + 5, none⟩ (.bool bb))) fun q q1 _ => far q (by omega))
      have HSH := Lib.hid ((((((hsh.set (j * 7) (.int .i64 y)).set (j * 7 + 1) (.int .i64 (y + 1))).set (j * 7 + 2) (.int .i64 (y + 1 + 1))).set (j * 7 + 3) (.int .i64 (y + 1 + 1 + 1))).set (j * 7 + 4) (.int .i64 (y + 1 + 1 + 1 + 1))).set (j * 7 + 5) (.bool bb))
      have HRest := Lib.hid (hrest.kept (w' := ((((((wr.setCell ⟨g, j * 7, none⟩ (.int .i64 y)).setCell ⟨g, j * 7 + 1, none⟩ (.int .i64 (y + 1))).setCell ⟨g, j * 7 + 2, none⟩ (.int .i64 (y + 1 + 1))).setCell ⟨g, j * 7 + 3, none⟩ (.int .i64 (y + 1 + 1 + 1))).setCell ⟨g, j * 7 + 4, none⟩ (.int .i64 (y + 1 + 1 + 1 + 1))).setCell ⟨g, j * 7 + 5, none⟩ (.bool bb))) (fun q q1 _ => (World.cell?_setCell_other _ _ _ _ (by first | (simp; done) | (simp; omega))).trans ((World.cell?_setCell_other _ _ _ _ (by first | (simp; done) | (simp; omega))).trans ((World.cell?_setCell_other _ _ _ _ (by first | (simp; done) | (simp; omega))).trans ((World.cell?_setCell_other _ _ _ _ (by first | (simp; done) | (simp; omega))).trans ((World.cell?_setCell_other _ _ _ _ (by first | (simp; done) | (simp; omega))).trans ((World.cell?_setCell_other _ _ _ _ (by first | (simp; done) | (simp; omega))))))))) fun q q1 _ => far q (by omega))
      have HO := Lib.hid ((((((hout.setCell (o := j * 7) (v := (.int .i64 y)) (Nat.le_refl g) (by omega)).setCell (o := j * 7 + 1) (v := (.int .i64 (y + 1))) (Nat.le_refl g) (by omega)).setCell (o := j * 7 + 2) (v := (.int .i64 (y + 1 + 1))) (Nat.le_refl g) (by omega)).setCell (o := j * 7 + 3) (v := (.int .i64 (y + 1 + 1 + 1))) (Nat.le_refl g) (by omega)).setCell (o := j * 7 + 4) (v := (.int .i64 (y + 1 + 1 + 1 + 1))) (Nat.le_refl g) (by omega)).setCell (o := j * 7 + 5) (v := (.bool bb)) (Nat.le_refl g) (by omega))
      clear hs hsh hrest hout hxy hx hd far hM
      go_wp2_with fail
      refine (markNIn hLs hLz HSB.out _ (by omega) (by omega)).mono ?_
      rintro e w2 ⟨⟨y2, rfl, h1, h2⟩, ho2⟩
      have HP := Lib.hid (show RMRel S k g n hi w (.int .i64 y2) (.int .i64 ((j : Int) + 1)) w2 from
        ⟨j + 1, y2, m, by omega, by go_num, rfl, by omega, by omega, HSH.out.kept (ho2.block g HSH.out.lt (.inl (by omega))), HRest.out.kept (fun q q1 _ => World.cell?_of_block (a := ⟨g, q * 7 + 6, none⟩) (ho2.block g HSH.out.lt (.inl (by omega)))) (fun q q1 q3 => ho2.block q q3 (.inr q1)), by omega, HO.out.trans (ho2.wide (by omega) hmh)⟩)
      clear ho2
      go_wp2_with fail
      go_roundw
      case rel => exact HP.out
      case measure => simp [intOf]; omega
    · obtain rfl : j = S.length := by omega
      rw [List.drop_length] at hy1
      have HE := Lib.hid (show k ≤ y ∧ y ≤ k + 6 * S.length + 2 * (rlSz S : Int) from ⟨hy0, by simp [rlSz] at hy1; omega⟩)
      have HO := Lib.hid (hout.wide hlog (Nat.le_refl _))
      clear hsh hord hout
      go_wp2_with fail
      go_ret
      exact ⟨⟨y, rfl, HE.out.1, HE.out.2⟩, HO.out⟩

end Go.Proofs.Ytgnjhmmedogcoaa

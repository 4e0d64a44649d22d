/- Contracts of the draws of ranges, over this seat's translation: each answers with some ranges of at most 41 spans in memory of their own (the last one with a version, too), and changes nothing that was there. Condition: the code is readable. -/
import Derived.Test.YtflmljgmmcdniaaDrange
import Derived.Test.YtflmljgmmcdniaaDdraw
import Derived.Test.YtflmljgmmcdniaaSb
namespace Go.Proofs.Ytflmljgmmcdniaa
open Go.ChangeShapes Go.WideShapes Go.ChangeAt Go.RowKit Go.Sort

def AnyRng (w : World) (e : Ending) (w' : World) : Prop := ∃ A u, e = .returned (.agg #[u]) ∧ SRes A w.heap.size u w' ∧ A.length ≤ 41 ∧ Below w.heap.size w w'
def AnyRng2 (w : World) (e : Ending) (w' : World) : Prop :=
  ∃ A B u v, e = .returned (.tuple #[.agg #[u], .agg #[v]]) ∧ SRes A w.heap.size u w' ∧ SRes B w.heap.size v w' ∧ A.length ≤ 41 ∧ B.length ≤ 41 ∧ Below w.heap.size w w'
theorem SRes.grownR {L : Sps} {base R : Nat} {v : Value} {w w' : World} (h : SRes L base v w) (hg : w.grownBy w' (some R)) (hR : R < base) : SRes L base v w' :=
  h.kept fun g hb hl => hg.block g hl (fun e => by injection e with e; omega)
theorem SRes.setOther {L : Sps} {base b o : Nat} {v x : Value} {w : World} (h : SRes L base v w) (hb : b < base) : SRes L base v (w.setCell ⟨b, o, none⟩ x) :=
  h.kept fun g hg _ => Below.heap_setCell _ _ _ _ (by show g ≠ b; omega)

set_option maxHeartbeats 1000000 in
theorem DrawRangeOk_any (a : Option Addr) (len cap : Nat) (w : World) (h : CodeIn w a len cap) : Calls Try.prog 23 #[.slice a len cap] w (AnyRng w) := by
  have b0 := (Below.refl w.heap.size w).alloc (Nat.le_refl _) (.cells #[.slice none 0 0] 28)
  have h1 := codeIn_below h b0
  go_enter Try.func23, Try.ntmps23
  go_wp2_with fail
  refine (open_any a len cap _ h1).mono ?_
  rintro e w1 ⟨rfl, hr1, hb1⟩
  have b1 := b0.trans (hb1.mono (by simp))
  have x0 : w1.cell? ⟨w.heap.size, 0, none⟩ = some (.slice none 0 0) := (hb1.cell (p := ⟨w.heap.size, 0, none⟩) (by simp)).trans (by go_simp)
  have f0 : w1.frozen? ⟨w.heap.size, 0, none⟩ = false := (hb1.frozen (p := ⟨w.heap.size, 0, none⟩) (by simp)).trans (by go_simp)
  have s1 : w.heap.size + 1 ≤ w1.heap.size := by have := hb1.size; simpa using this
  clear h1 hb1 b0 h
  simp only [World.size_alloc] at hr1
  go_wp2_with fail
  refine (l20Range_any _ 0 _ w1 hr1 (by omega) (by omega) (by omega)).mono ?_
  rintro e w2 ⟨L, u, rfl, ho, hl, hd⟩
  have b2 := drawn_below hd b1 (by omega)
  have hs := ho.res
  obtain ⟨q, _, _, _, hg⟩ := hd
  have y0 := (grown_cell (o := 0) hg (b := w.heap.size) (by omega) (by omega)).trans x0
  have z0 := (grown_frozen (o := 0) hg (b := w.heap.size) (by omega) (by omega)).trans f0
  have HR := Lib.hid ((hs.setOther (b := w.heap.size) (o := 0) (x := u) (by omega)).mono (by omega : w.heap.size ≤ w1.heap.size))
  obtain ⟨av, cv, rfl, _⟩ := id hs
  clear hg hr1 b1 x0 f0 ho hs
  go_wp2_with fail
  exact bodyPost_ret (v := .agg #[.slice av L.length cv]) (by simp [results, Try.results23, go_sem, y0]) rfl ⟨L, _, rfl, HR.out, hl, b2.setCell (Nat.le_refl _) _⟩
set_option maxHeartbeats 1000000 in
theorem DrawRangeNot_any (a : Option Addr) (len cap : Nat) (w : World) (h : CodeIn w a len cap) : Calls Try.prog 35 #[.slice a len cap] w (AnyRng w) := by
  have b0 := (Below.refl w.heap.size w).alloc (Nat.le_refl _) (.cells #[.slice none 0 0] 28)
  have h1 := codeIn_below h b0
  go_enter Try.func35, Try.ntmps35
  go_wp2_with fail
  refine (open_any a len cap _ h1).mono ?_
  rintro e w1 ⟨rfl, hr1, hb1⟩
  have b1 := b0.trans (hb1.mono (by simp))
  have x0 : w1.cell? ⟨w.heap.size, 0, none⟩ = some (.slice none 0 0) := (hb1.cell (p := ⟨w.heap.size, 0, none⟩) (by simp)).trans (by go_simp)
  have f0 : w1.frozen? ⟨w.heap.size, 0, none⟩ = false := (hb1.frozen (p := ⟨w.heap.size, 0, none⟩) (by simp)).trans (by go_simp)
  have s1 : w.heap.size + 1 ≤ w1.heap.size := by have := hb1.size; simpa using this
  clear h1 hb1 b0 h
  simp only [World.size_alloc] at hr1
  go_wp2_with fail
  refine (l20Range_any _ 0 _ w1 hr1 (by omega) (by omega) (by omega)).mono ?_
  rintro e w2 ⟨L, u, rfl, ho, hl, hd⟩
  have b2 := drawn_below hd b1 (by omega)
  have hs := ho.res
  obtain ⟨q, _, _, _, hg⟩ := hd
  have y0 := (grown_cell (o := 0) hg (b := w.heap.size) (by omega) (by omega)).trans x0
  have z0 := (grown_frozen (o := 0) hg (b := w.heap.size) (by omega) (by omega)).trans f0
  have HR := Lib.hid ((hs.setOther (b := w.heap.size) (o := 0) (x := u) (by omega)).mono (by omega : w.heap.size ≤ w1.heap.size))
  obtain ⟨av, cv, rfl, _⟩ := id hs
  clear hg hr1 b1 x0 f0 ho hs
  go_wp2_with fail
  exact bodyPost_ret (v := .agg #[.slice av L.length cv]) (by simp [results, Try.results35, go_sem, y0]) rfl ⟨L, _, rfl, HR.out, hl, b2.setCell (Nat.le_refl _) _⟩
set_option maxHeartbeats 1000000 in
theorem DrawRangeText_any (a : Option Addr) (len cap : Nat) (w : World) (h : CodeIn w a len cap) : Calls Try.prog 46 #[.slice a len cap] w (AnyRng w) := by
  have b0 := (Below.refl w.heap.size w).alloc (Nat.le_refl _) (.cells #[.slice none 0 0] 28)
  have h1 := codeIn_below h b0
  go_enter Try.func46, Try.ntmps46
  go_wp2_with fail
  refine (open_any a len cap _ h1).mono ?_
  rintro e w1 ⟨rfl, hr1, hb1⟩
  have b1 := b0.trans (hb1.mono (by simp))
  have x0 : w1.cell? ⟨w.heap.size, 0, none⟩ = some (.slice none 0 0) := (hb1.cell (p := ⟨w.heap.size, 0, none⟩) (by simp)).trans (by go_simp)
  have f0 : w1.frozen? ⟨w.heap.size, 0, none⟩ = false := (hb1.frozen (p := ⟨w.heap.size, 0, none⟩) (by simp)).trans (by go_simp)
  have s1 : w.heap.size + 1 ≤ w1.heap.size := by have := hb1.size; simpa using this
  clear h1 hb1 b0 h
  simp only [World.size_alloc] at hr1
  go_wp2_with fail
  refine (l20Range_any _ 0 _ w1 hr1 (by omega) (by omega) (by omega)).mono ?_
  rintro e w2 ⟨L, u, rfl, ho, hl, hd⟩
  have b2 := drawn_below hd b1 (by omega)
  have hs := ho.res
  obtain ⟨q, _, _, _, hg⟩ := hd
  have y0 := (grown_cell (o := 0) hg (b := w.heap.size) (by omega) (by omega)).trans x0
  have z0 := (grown_frozen (o := 0) hg (b := w.heap.size) (by omega) (by omega)).trans f0
  have HR := Lib.hid ((hs.setOther (b := w.heap.size) (o := 0) (x := u) (by omega)).mono (by omega : w.heap.size ≤ w1.heap.size))
  obtain ⟨av, cv, rfl, _⟩ := id hs
  clear hg hr1 b1 x0 f0 ho hs
  go_wp2_with fail
  exact bodyPost_ret (v := .agg #[.slice av L.length cv]) (by simp [results, Try.results46, go_sem, y0]) rfl ⟨L, _, rfl, HR.out, hl, b2.setCell (Nat.le_refl _) _⟩
set_option maxHeartbeats 2000000 in
theorem DrawRangeAnd_any (a : Option Addr) (len cap : Nat) (w : World) (h : CodeIn w a len cap) : Calls Try.prog 38 #[.slice a len cap] w (AnyRng2 w) := by
  have b0 := ((Below.refl w.heap.size w).alloc (Nat.le_refl _) (.cells #[.slice none 0 0] 28)).alloc (by simp) (.cells #[.slice none 0 0] 28)
  have h1 := codeIn_below h b0
  go_enter Try.func38, Try.ntmps38
  go_wp2_with fail
  refine (open_any a len cap _ h1).mono ?_
  rintro e w1 ⟨rfl, hr1, hb1⟩
  have b1 := b0.trans (hb1.mono (by simp; omega))
  have x0 : w1.cell? ⟨w.heap.size, 0, none⟩ = some (.slice none 0 0) := (hb1.cell (p := ⟨w.heap.size, 0, none⟩) (by simp; omega)).trans (by go_simp)
  have f0 : w1.frozen? ⟨w.heap.size, 0, none⟩ = false := (hb1.frozen (p := ⟨w.heap.size, 0, none⟩) (by simp; omega)).trans (by go_simp)
  have x1 : w1.cell? ⟨w.heap.size + 1, 0, none⟩ = some (.slice none 0 0) := (hb1.cell (p := ⟨w.heap.size + 1, 0, none⟩) (by simp)).trans (by go_simp)
  have f1 : w1.frozen? ⟨w.heap.size + 1, 0, none⟩ = false := (hb1.frozen (p := ⟨w.heap.size + 1, 0, none⟩) (by simp)).trans (by go_simp)
  have s1 : w.heap.size + 2 ≤ w1.heap.size := by have := hb1.size; simp at this; omega
  clear h1 hb1 b0 h
  simp only [World.size_alloc] at hr1
  have hlt := rdAt_lt hr1
  go_wp2_with fail
  refine (l20Range_any _ 0 _ w1 hr1 (by omega) (by omega) (by omega)).mono ?_
  rintro e w2 ⟨L, u, rfl, ho, hl, hd⟩
  have b2 := drawn_below hd b1 (by omega)
  have hs := ho.res
  obtain ⟨q, _, hq, hr2, hg⟩ := hd
  have y0 := (grown_cell (o := 0) hg (b := w.heap.size) (by omega) (by omega)).trans x0
  have z0 := (grown_frozen (o := 0) hg (b := w.heap.size) (by omega) (by omega)).trans f0
  have y1 := (grown_cell (o := 0) hg (b := w.heap.size + 1) (by omega) (by omega)).trans x1
  have z1 := (grown_frozen (o := 0) hg (b := w.heap.size + 1) (by omega) (by omega)).trans f1
  have s2 := hg.size
  obtain ⟨av, cv, rfl, _⟩ := id hs
  clear hg hr1 b1 x0 f0 x1 f1 ho
  go_wp2_with fail
  refine (l20Range_any _ q _ w2 hr2 (by omega) (by omega) (by omega)).mono ?_
  rintro e w3 ⟨M, u', rfl, ho', hl', hd'⟩
  have b3 := drawn_below hd' b2 (by omega)
  have hs' := ho'.res
  obtain ⟨q', _, _, _, hg⟩ := hd'
  have x0 := (grown_cell (o := 0) hg (b := w.heap.size) (by omega) (by omega)).trans y0
  have f0 := (grown_frozen (o := 0) hg (b := w.heap.size) (by omega) (by omega)).trans z0
  have x1 := (grown_cell (o := 0) hg (b := w.heap.size + 1) (by omega) (by omega)).trans y1
  have f1 := (grown_frozen (o := 0) hg (b := w.heap.size + 1) (by omega) (by omega)).trans z1
  have hs2 := hs.grownR hg (by omega)
  obtain ⟨av', cv', rfl, _⟩ := id hs'
  have HR := Lib.hid (((hs2.setOther (b := w.heap.size) (o := 0) (x := .slice av L.length cv) (by omega)).setOther (b := w.heap.size + 1) (o := 0) (x := .slice av' M.length cv') (by omega)).mono (by omega : w.heap.size ≤ w1.heap.size))
  have HR' := Lib.hid (((hs'.setOther (b := w.heap.size) (o := 0) (x := .slice av L.length cv) (by omega)).setOther (b := w.heap.size + 1) (o := 0) (x := .slice av' M.length cv') (by omega)).mono (by omega : w.heap.size ≤ w2.heap.size))
  clear hg hr2 b2 y0 z0 y1 z1 ho' hs hs2 hs'
  go_wp2_with fail
  exact bodyPost_ret (v := .tuple #[.agg #[.slice av L.length cv], .agg #[.slice av' M.length cv']]) (by simp [results, Try.results38, go_sem, x0, x1]) rfl ⟨L, M, _, _, rfl, HR.out, HR'.out, hl, hl', (b3.setCell (Nat.le_refl _) _).setCell (by simp) _⟩
set_option maxHeartbeats 1000000 in
theorem DrawRangeOr_any (a : Option Addr) (len cap : Nat) (w : World) (h : CodeIn w a len cap) : Calls Try.prog 39 #[.slice a len cap] w (AnyRng2 w) := by
  have b0 := ((Below.refl w.heap.size w).alloc (Nat.le_refl _) (.cells #[.slice none 0 0] 28)).alloc (by simp) (.cells #[.slice none 0 0] 28)
  have h1 := codeIn_below h b0
  go_enter Try.func39, Try.ntmps39
  go_wp2_with fail
  refine (DrawRangeAnd_any a len cap _ h1).mono ?_
  rintro e w1 ⟨A, B, u, v, rfl, hs, hs', hl, hl', hb1⟩
  have b1 := b0.trans (hb1.mono (by simp; omega))
  have x0 : w1.cell? ⟨w.heap.size, 0, none⟩ = some (.slice none 0 0) := (hb1.cell (p := ⟨w.heap.size, 0, none⟩) (by simp; omega)).trans (by go_simp)
  have f0 : w1.frozen? ⟨w.heap.size, 0, none⟩ = false := (hb1.frozen (p := ⟨w.heap.size, 0, none⟩) (by simp; omega)).trans (by go_simp)
  have x1 : w1.cell? ⟨w.heap.size + 1, 0, none⟩ = some (.slice none 0 0) := (hb1.cell (p := ⟨w.heap.size + 1, 0, none⟩) (by simp)).trans (by go_simp)
  have f1 : w1.frozen? ⟨w.heap.size + 1, 0, none⟩ = false := (hb1.frozen (p := ⟨w.heap.size + 1, 0, none⟩) (by simp)).trans (by go_simp)
  simp only [World.size_alloc] at hs hs'
  obtain ⟨av, cv, rfl, _⟩ := id hs
  obtain ⟨av', cv', rfl, _⟩ := id hs'
  have HR := Lib.hid (((hs.setOther (b := w.heap.size) (o := 0) (x := .slice av A.length cv) (by omega)).setOther (b := w.heap.size + 1) (o := 0) (x := .slice av' B.length cv') (by omega)).mono (by omega : w.heap.size ≤ w.heap.size + 1 + 1))
  have HR' := Lib.hid (((hs'.setOther (b := w.heap.size) (o := 0) (x := .slice av A.length cv) (by omega)).setOther (b := w.heap.size + 1) (o := 0) (x := .slice av' B.length cv') (by omega)).mono (by omega : w.heap.size ≤ w.heap.size + 1 + 1))
  clear h1 hb1 b0 h hs hs'
  go_wp2_with fail
  exact bodyPost_ret (v := .tuple #[.agg #[.slice av A.length cv], .agg #[.slice av' B.length cv']]) (by simp [results, Try.results39, go_sem, x0, x1]) rfl ⟨A, B, _, _, rfl, HR.out, HR'.out, hl, hl', (b1.setCell (Nat.le_refl _) _).setCell (by simp) _⟩

end Go.Proofs.Ytflmljgmmcdniaa

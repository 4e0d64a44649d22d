/- Steps from world to world where nothing below the size of the first has changed: for rows and for what a call leaves. -/
import Derived.Test.YtdjnfmekbjmdhaaSb
import Derived.Below
namespace Go.Proofs.Ytdjnfmekbjmdhaa
open Go.RowKit Go.Sort

theorem Below.step {c V wx : World} (h : Below c.heap.size c V) (hb : Below V.heap.size V wx) : Below c.heap.size c wx := h.trans (hb.mono h.size)
theorem Below.step2 {w c V : World} (h0 : Below w.heap.size w c) (h : Below c.heap.size c V) : Below w.heap.size w V := h0.trans (h.mono h0.size)
theorem SB.step {L : List (Int × Int)} {lo hi : Nat} {u : Value} {wy V wx : World} (r : SB L lo hi u wy) (h : Below wy.heap.size wy V) (hb : Below V.heap.size V wx) : SB L lo hi u wx := (r.below h).below hb
theorem SB.stepAt {L : List (Int × Int)} {lo hi : Nat} {u : Value} {wy V : World} (r : SB L lo hi u wy) (h : Below wy.heap.size wy V) : SpAt V V.heap.size u L := (r.below h).at

theorem SRes.after {L : List (Int × Int)} {base c : Nat} {v : Value} {wz W : World} (q : SRes L base v wz) (hb : Below wz.heap.size wz W) (hc : c ≤ base) : SB L c W.heap.size v W := ((q.below hb).mono hc).sb
theorem SRes.after2 {L : List (Int × Int)} {base c g o : Nat} {u v : Value} {wz : World} (q : SRes L base v wz) (hg : g < base) (hc : c ≤ base) : SB L c (wz.setCell ⟨g, o, none⟩ u).heap.size v (wz.setCell ⟨g, o, none⟩ u) :=
  ((q.kept fun g' h1 _ => Below.heap_setCell _ _ _ _ (by show g' ≠ g; omega)).mono hc).sb
theorem bcell {W w1 : World} (hb : Below W.heap.size W w1) : (∀ b o, b < W.heap.size → w1.cell? ⟨b, o, none⟩ = W.cell? ⟨b, o, none⟩) ∧ (∀ b o, b < W.heap.size → w1.frozen? ⟨b, o, none⟩ = W.frozen? ⟨b, o, none⟩) :=
  ⟨fun b o h => hb.cell (p := ⟨b, o, none⟩) h, fun b o h => hb.frozen (p := ⟨b, o, none⟩) h⟩

end Go.Proofs.Ytdjnfmekbjmdhaa

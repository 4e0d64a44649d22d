/- Contracts of the draws of versions and ranks, over this seat's translation: each answers with some values of its kinds and changes nothing that was there. Condition: the code is readable. -/
import Derived.Test.YtdjnfmekbjmdhaaDopen
import Derived.Test.YtdjnfmekbjmdhaaFrame
namespace Go.Proofs.Ytdjnfmekbjmdhaa
open Go.ChangeShapes Go.WideShapes Go.ChangeAt Go.RowKit Go.Sort

theorem byte_bounds {x : Int} (h : (Lit.int .u8 x).wf = true) : 0 ≤ x ∧ x ≤ 255 := by
  simp [Lit.wf, IntKind.min, IntKind.max, IntKind.signed, IntKind.bits] at h
  omega

set_option maxRecDepth 100000 in
/-- A code that comes in as an argument. -/
theorem open_code {H : Type} {enc : TypeId × Value → H} {w : World} {base : Nat} {v : Value} {d : DataW H} {p : List MemPlace}
    (hv : Value.okWide Try.prog w .any base 75 v) (h : DataW.Trod enc Try.prog w 0 (fun _ => true) true 75 v d p) : ∃ a len cap, v = .slice a len cap ∧ CodeIn w a len cap := by
  obtain ⟨a0, len, cap, rfl⟩ := okWide_slice Try.underlying75 hv
  have hlt : ∀ x ∈ p, x.block < w.heap.size := by obtain ⟨m, hm⟩ := h; exact DataW.trod_lt m _ _ _ hm
  obtain ⟨fuel, hf⟩ := h
  refine ⟨a0, len, cap, rfl, ?_⟩
  rcases open_ints Try.underlying75 Try.underlying5 (by kernel_rfl) hf with ⟨hcs, _⟩ | ⟨x, l, c, zs, hcs, _, hl, hm, hz, _, hcell, hwz⟩
  · simp [Value.cells] at hcs
    obtain ⟨rfl, rfl, rfl⟩ := hcs
    exact ⟨.inl rfl, Nat.le_refl _, Nat.zero_le _⟩
  · simp [Value.cells] at hcs
    obtain ⟨rfl, rfl, rfl⟩ := hcs
    have hz' : zs.length = cap := by simpa using hz
    refine ⟨?_, hl, hm⟩
    by_cases h0 : len = 0
    · exact .inl h0
    · obtain ⟨b, off, spot⟩ := x
      have hc0 := hcell 0 (by omega)
      have hspot : spot = none := by simpa [Addr.add] using World.cell?_spot hc0
      subst hspot
      refine .inr ⟨b, off, rfl, ?_, fun i hi => ?_⟩
      · have := World.block_lt_of_cell? w _ hc0
        simpa [Addr.add] using this
      · have hci := hcell i (by omega)
        have hwf := byte_bounds (hwz (zs.getD i 0) (by rw [List.getD_eq_getElem?_getD, List.getElem?_eq_getElem (by omega)]; simp))
        obtain ⟨n, hn⟩ := Int.eq_ofNat_of_zero_le hwf.1
        refine ⟨n, by omega, ?_⟩
        have e : (⟨b, off, none⟩ : Addr).add i = ⟨b, off + i, none⟩ := by unfold Addr.add; split <;> simp_all
        rw [e] at hci
        rw [← hn]
        exact hci

theorem codeIn_below {w w' : World} {a : Option Addr} {len cap : Nat} (h : CodeIn w a len cap) (hb : Below w.heap.size w w') : CodeIn w' a len cap := by
  obtain ⟨hc, h1, h2⟩ := h
  refine ⟨?_, h1, h2⟩
  rcases hc with hc | ⟨b, o, rfl, hbR, hc⟩
  · exact .inl hc
  · refine .inr ⟨b, o, rfl, by have := hb.size; omega, fun i hi => ?_⟩
    obtain ⟨x, hx, hcell⟩ := hc i hi
    exact ⟨x, hx, (hb.cell (p := ⟨b, o + i, none⟩) hbR).trans hcell⟩

theorem drawn_below {w : World} {R p c : Nat} {w0 w' : World} (h : Drawn w R p c w') (hb : Below w0.heap.size w0 w) (hR : w0.heap.size ≤ R) : Below w0.heap.size w0 w' := by
  obtain ⟨q, _, _, _, hg⟩ := h
  exact hb.grown hg hb.size (fun k hk => by injection hk with hk; omega)

def AnyVer (w : World) (e : Ending) (w' : World) : Prop := ∃ a b c d : Int, e = .returned (ver a b c d) ∧ Below w.heap.size w w'

/-- A new block of whole numbers, read behind whatever leaves it. -/
theorem intRow_cell {w : World} {g : Nat} {C : Array Value} {t : TypeId} (h : w.heap[g]? = some (.cells C t (0, 0))) (o : Nat) : w.cell? ⟨g, o, none⟩ = C[o]? := cell_of_row w g o C _ (0, 0) h

def AnyInt (w : World) (e : Ending) (w' : World) : Prop := ∃ r : Int, e = .returned (.int .i64 r) ∧ -1 ≤ r ∧ r ≤ 10000000 ∧ Below w.heap.size w w'

set_option maxRecDepth 100000 in
/-- A law of one code: its walk at every readable code serves its row. -/
theorem law_code {F : FuncId} {fn : Func} (hp : fn.params = #[75])
    (walk : ∀ (a : Option Addr) (len cap : Nat) (w : World), CodeIn w a len cap → Calls Try.prog F #[.slice a len cap] w fun e w' => e = .returned (.bool true) ∧ Below w.heap.size w w') : LawWalk Try.prog F fn := by
  intro H enc W base args ds ps hval hA
  rw [hp] at hA hval
  obtain ⟨v0, vs, d0, es, p0, q0, hargs, rfl, rfl, h0, r0⟩ := trodAll_cons hA
  obtain ⟨rfl, rfl, rfl⟩ := trodAll_nil r0
  obtain rfl : args = #[v0] := by cases args; simp_all
  obtain ⟨a, len, cap, rfl, hc⟩ := open_code (hval 0 _ v0 rfl rfl) h0
  exact walk a len cap W hc

end Go.Proofs.Ytdjnfmekbjmdhaa

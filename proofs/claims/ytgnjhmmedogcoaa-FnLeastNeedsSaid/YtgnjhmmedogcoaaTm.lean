/- Rows of terms in memory, over this seat's translation: what it is for a slice value to hold a list of terms (a name, a row of spans, and a flag), and for a block to be such a row whose spans lie behind it. No condition. -/
import Derived.Test.YtgnjhmmedogcoaaGc
namespace Go.Proofs.Ytgnjhmmedogcoaa
open Go.RowKit Go.Sort

abbrev Tm := Int × List (Int × Int) × Bool
abbrev term (a : Int) (v : Value) (f : Bool) : Value := .agg #[.int .i64 a, v, .bool f]

/-- The cells of one need: its name, and a slice of spans in blocks below B. -/
def TmC (w : World) (B b o : Nat) (x : Tm) : Prop :=
  w.cell? ⟨b, o, none⟩ = some (.int .i64 x.1) ∧ ∃ a cap, w.cell? ⟨b, o + 1, none⟩ = some (.slice a x.2.1.length cap) ∧ SpAt w B (.slice a x.2.1.length cap) x.2.1 ∧ w.cell? ⟨b, o + 2, none⟩ = some (.bool x.2.2)
theorem TmC.below {w w' : World} {B b o : Nat} {x : Tm} (h : TmC w B b o x) (hb : Below B w w') (hB : b < B) : TmC w' B b o x := by
  obtain ⟨h0, a, cap, h1, hs, h2⟩ := h
  exact ⟨(hb.cell (p := ⟨b, o, none⟩) hB).trans h0, a, cap, (hb.cell (p := ⟨b, o + 1, none⟩) hB).trans h1, hs.below hb, (hb.cell (p := ⟨b, o + 2, none⟩) hB).trans h2⟩
theorem TmC.mono {w : World} {B B' b o : Nat} {x : Tm} (h : TmC w B b o x) (hB : B ≤ B') : TmC w B' b o x := by
  obtain ⟨h0, a, cap, h1, hs, h2⟩ := h
  exact ⟨h0, a, cap, h1, hs.mono hB, h2⟩

/-- A slice value that holds these needs, in blocks below B (or is empty). -/
def TmAt (w : World) (B : Nat) (v : Value) (M : List Tm) : Prop :=
  ∃ a cap, v = .slice a M.length cap ∧ (M = [] ∨ ∃ b o, a = some ⟨b, o, none⟩ ∧ b < B ∧ ∀ i (h : i < M.length), TmC w B b (o + i * 3) M[i])
theorem TmAt.below {w w' : World} {B : Nat} {v : Value} {M : List Tm} (h : TmAt w B v M) (hb : Below B w w') : TmAt w' B v M := by
  obtain ⟨a, cap, rfl, h⟩ := h
  refine ⟨a, cap, rfl, ?_⟩
  rcases h with h | ⟨b, o, rfl, hB, hc⟩
  · exact .inl h
  · exact .inr ⟨b, o, rfl, hB, fun i hi => (hc i hi).below hb hB⟩
theorem TmAt.mono {w : World} {B B' : Nat} {v : Value} {M : List Tm} (h : TmAt w B v M) (hB : B ≤ B') : TmAt w B' v M := by
  obtain ⟨a, cap, rfl, h⟩ := h
  refine ⟨a, cap, rfl, ?_⟩
  rcases h with h | ⟨b, o, rfl, hb, hc⟩
  · exact .inl h
  · exact .inr ⟨b, o, rfl, by omega, fun i hi => (hc i hi).mono hB⟩

theorem TmAt.stepAt {M : List Tm} {u : Value} {w V : World} (h : TmAt w w.heap.size u M) (hb : Below w.heap.size w V) : TmAt V V.heap.size u M := (h.below hb).mono hb.size

/-- How much of the law's measure a row of needs takes. -/
def tmSz : List Tm → Nat
  | [] => 0
  | x :: t => x.2.1.length + tmSz t
theorem tmSz_drop : ∀ (M : List Tm) (k : Nat) (x : Tm), M[k]? = some x → tmSz (M.drop k) = x.2.1.length + tmSz (M.drop (k + 1))
  | [], k, x, h => by simp at h
  | y :: t, 0, x, h => by
    simp at h
    subst h
    rfl
  | y :: t, k + 1, x, h => by
    simp only [List.getElem?_cons_succ] at h
    simpa using tmSz_drop t k x h
theorem tmSz_mem : ∀ (M : List Tm) (k : Nat) (x : Tm), M[k]? = some x → x.2.1.length ≤ tmSz M
  | [], k, x, h => by simp at h
  | y :: t, 0, x, h => by
    simp at h
    subst h
    simp [tmSz]
  | y :: t, k + 1, x, h => by
    simp only [List.getElem?_cons_succ] at h
    have := tmSz_mem t k x h
    simp only [tmSz]
    omega

end Go.Proofs.Ytgnjhmmedogcoaa

/- A region that draws its order, shown by what each operation keeps, whatever has come up before: no walk over all orders is needed. A law for any program; no condition. -/
import Derived.Deep.RegionWith
import Derived.Test.YtopplljilmjjgaaRows
namespace Go.Proofs.Ytopplljilmjjgaa

namespace Rin
section
variable {P : Program} {md : Region.Mode} {ops : Array Oper} {Q : Exit → Act → World → Prop}
/-- How many have not come up. -/
def unl (n : Nat) (l : Array Bool) : Nat := (List.range n).countP fun j => !l.getD j true
theorem countP_lt {p q : Nat → Bool} : ∀ (xs : List Nat) (i : Nat), (∀ j ∈ xs, q j = true → p j = true) → i ∈ xs → p i = true → q i = false → xs.countP q < xs.countP p
  | [], i, _, h, _, _ => by cases h
  | x :: t, i, h, hi, h1, h2 => by
    rw [List.countP_cons, List.countP_cons]
    have hle : t.countP q ≤ t.countP p := List.countP_mono_left fun j hj => h j (List.mem_cons_of_mem _ hj)
    rcases List.mem_cons.1 hi with rfl | hi
    · rw [h1, h2]
      simp
      omega
    · have ih := countP_lt t i (fun j hj => h j (List.mem_cons_of_mem _ hj)) hi h1 h2
      have hx := h x (List.mem_cons_self ..)
      by_cases e : q x = true
      · rw [if_pos e, if_pos (hx e)]
        omega
      · rw [if_neg e]
        split <;> omega
theorem set_self {l : Array Bool} {i : Nat} (h : l.getD i true = false) (d : Bool) : (l.setIfInBounds i true).getD i d = true := by
  have hi : i < l.size := by
    by_cases hi : i < l.size
    · exact hi
    · simp [Array.getD, hi] at h
  simp [Array.getD, hi]
theorem unl_set {n i : Nat} {l : Array Bool} (hi : i < n) (h : l.getD i true = false) : unl n (l.setIfInBounds i true) < unl n l := by
  refine countP_lt _ i (fun j _ hq => ?_) (List.mem_range.2 hi) (by simp [h]) (by simp [set_self h])
  by_cases e : i = j
  · subst e
    simp [h]
  · rwa [getD_set_ne true e] at hq
theorem wpAny_inv (I : Array Bool → Act → World → Prop)
    (hend : ∀ l a w, I l a w → (∀ i, i < ops.size → l.getD i true = true ∨ ∃ o e, ops[i]? = some o ∧ e ∈ o.after ∧ l.getD e.on false = false) → Q .normal a w)
    (hstep : ∀ l a w i o, I l a w → ops[i]? = some o → l.getD i true = false → (∀ e ∈ o.after, Region.binds md e = true → l.getD e.on false = true) → ∀ K' : Act → World → Prop, (∀ a' w', I (l.setIfInBounds i true) a' w' → K' a' w') → if Region.wanted o (yielded ops a.tmps) = true then Oper.wp P o a w K' Q else K' (a.put o.dst undef) w) :
    ∀ (fuel : Nat) (l : Array Bool) (a : Act) (w : World), I l a w → unl ops.size l ≤ fuel → wpAny P md ops Q fuel l a w := by
  have done : ∀ l : Array Bool, Region.ready md ops l = [] → ∀ i, i < ops.size → l.getD i true = true ∨ ∃ o e, ops[i]? = some o ∧ e ∈ o.after ∧ l.getD e.on false = false := fun l hr i hi => by
    rcases h : l.getD i true
    · right
      have hn : i ∉ Region.ready md ops l := by rw [hr]; exact List.not_mem_nil
      rw [mem_ready] at hn
      have ho : ops[i]? = some ops[i] := Array.getElem?_eq_getElem hi
      refine Classical.byContradiction fun hc => hn ⟨h, ops[i], ho, fun e he _ => ?_⟩
      rcases hd : l.getD e.on false
      · exact absurd ⟨ops[i], e, ho, he, hd⟩ hc
      · rfl
    · exact .inl rfl
  intro fuel
  induction fuel with
  | zero =>
    intro l a w hI hf
    have hr : Region.ready md ops l = [] := by
      rcases h : Region.ready md ops l with _ | ⟨i, t⟩
      · rfl
      · have hi : i ∈ Region.ready md ops l := by rw [h]; exact List.mem_cons_self ..
        obtain ⟨h0, o, ho, _⟩ := mem_ready.1 hi
        have := unl_set (n := ops.size) (Array.getElem?_eq_some_iff.1 ho).1 h0
        omega
    exact ⟨hr, hend l a w hI (done l hr)⟩
  | succ fuel ih =>
    intro l a w hI hf
    refine ⟨fun hr => hend l a w hI (done l hr), fun i hi => ?_⟩
    obtain ⟨h0, o, ho, hd⟩ := mem_ready.1 hi
    have hlt := unl_set (n := ops.size) (Array.getElem?_eq_some_iff.1 ho).1 h0
    exact wpOp_step ho fun K' hK => hstep l a w i o hI ho h0 hd K' fun a' w' hI' => hK a' w' (ih _ a' w' hI' (by omega))
theorem edges_lt {i : Nat} {o : Oper} {e : Edge} (h : ((List.range ops.size).all fun i => match ops[i]? with | some o => o.after.all fun e => decide (e.on < i) | none => true) = true) (ho : ops[i]? = some o) (he : e ∈ o.after) : e.on < i := by
  have hi := (Array.getElem?_eq_some_iff.1 ho).1
  have h1 := List.all_eq_true.1 h i (List.mem_range.2 hi)
  rw [ho] at h1
  exact of_decide_eq_true (Array.all_eq_true_iff_forall_mem.1 h1 e he)
theorem put_ne {a : Act} {d k : Nat} {v u : Value} (h : a.tmps[k]? = some u) (hne : d ≠ k) : (a.put (some d) v).tmps[k]? = some u := by
  show (a.tmps.setIfInBounds d v)[k]? = some u
  rw [Array.getElem?_setIfInBounds_ne hne]
  exact h
theorem put_eq {a : Act} {d : Nat} {v : Value} (h : d < a.tmps.size) : (a.put (some d) v).tmps[d]? = some v := by
  show (a.tmps.setIfInBounds d v)[d]? = some v
  rw [Array.getElem?_setIfInBounds_self_of_lt h]
theorem put_size {a : Act} {d : Nat} {v : Value} : (a.put (some d) v).tmps.size = a.tmps.size := by
  show (a.tmps.setIfInBounds d v).size = _
  simp
theorem eval_of {a : Act} {k : Nat} {v : Value} (h : a.tmps[k]? = some v) : a.eval (.tmp k) = v := by
  unfold Act.eval
  simp [Array.getD_eq_getD_getElem?, h]
end
end Rin
end Go.Proofs.Ytopplljilmjjgaa

/- Plain facts on locks that are made anew: what is right stays; what was locked and is locked again stays. No condition. -/
import Derived.Test.YtmhamoeibkpnpaaRlp
namespace Go.Proofs.Ytmhamoeibkpnpaa
open Go.RowKit Go.Sort

namespace Rlk
open Foot Copy Nup Cpu Cfa Rch Gof Pof Svp Lkc
theorem cost_self {K d : List Pk} (h : ∀ x ∈ K, x ∈ d) : cost K d = 0 := by
  unfold cost lostL
  rw [List.length_eq_zero_iff, List.filter_eq_nil_iff]
  intro x hx
  simp [h x hx]
theorem cost_zero {K d : List Pk} (h : cost K d = 0) : ∀ x ∈ K, x ∈ d := fun x hx => by
  unfold cost lostL at h
  rw [List.length_eq_zero_iff, List.filter_eq_nil_iff] at h
  have := h x hx
  simpa using this
theorem kept_all (D : List Pk) : keptL D [] = D := by
  unfold keptL
  rw [List.filter_eq_self]
  intro x _
  simp
/-- A lock that is right stays as it is. -/
theorem relock_stays {S : List Rel} {N : List Nd} {D : List Pk} {F : List Int} {L : List Pk} (h : relockL S N D F = some L) (h0 : faultF S N D D = 0) : cost (keptL D F) L = 0 := by
  obtain ⟨_, h2⟩ := relock_some h
  have hc : cost (keptL D F) D = 0 := cost_self fun x hx => (List.mem_filter.1 hx).1
  rcases h2 D h0 with k | ⟨k, _⟩ <;> omega
theorem held_self {L : List Pk} (h : pkOk L = true) {x : Pk} (hx : x ∈ L) : heldP L x = true := by
  unfold heldP
  exact decide_eq_true (get_some (lo := 0) (n := x.1) (v := x.2) h hx)
/-- What is fine stays fine where it is held. -/
theorem fine_held {S : List Rel} {N : List Nd} {D L : List Pk} (h : faultF S N D L = 0) : faultF S N L L = 0 := by
  have Fi := Fine.of (.inr h)
  refine Fine.zero ⟨Fi.sh, Fi.nd, Fi.pk, Fi.pk, Fi.there, fun x hx => ?_, Fi.met, Fi.inner⟩ (Fi.needed h)
  unfold allowP
  rw [held_self Fi.pk hx]
  simp
/-- What is fine and has all of another fine row is this row. -/
theorem fine_only {S : List Rel} {N : List Nd} {D E L B : List Pk} (hL : faultF S N D L = 0) (hB : faultF S N E B = 0) (h : ∀ x ∈ L, x ∈ B) : B = L := by
  have FL := Fine.of (.inr hL)
  have FB := Fine.of (.inr hB)
  have up : ∀ x, Up S N B x → x ∈ L := fun x hx => by
    induction hx with
    | @own n x hn hm he =>
      obtain ⟨v, hv, _⟩ := met_mem (FL.met _ hn)
      have e := pk_one (lo := 0) (n := _) FB.pk (u := _) (v := v) (by rw [← he]; exact hm) (h _ hv)
      have : x = (n.1, v) := Prod.ext he e
      rw [this]
      exact hv
    | @dep y n x _ hn hm he ih =>
      obtain ⟨v, hv, _⟩ := met_mem (FL.inner _ ih _ hn)
      have e := pk_one (lo := 0) (n := _) FB.pk (u := _) (v := v) (by rw [← he]; exact hm) (h _ hv)
      have : x = (n.1, v) := Prod.ext he e
      rw [this]
      exact hv
  exact same_picks FB.pk FL.pk (fun x hx => up x (FB.needed hB x hx)) h
/-- What was locked and is locked again is the same. -/
theorem relock_again {S : List Rel} {N : List Nd} {D : List Pk} {F : List Int} {L : List Pk} (h : relockL S N D F = some L) : relockL S N L [] = some L := by
  have h0 := (relock_some h).1
  have h1 := fine_held h0
  rcases h2 : relockL S N L [] with _ | B
  · exact absurd h1 (relock_none h2 L)
  · obtain ⟨h3, h4⟩ := relock_some h2
    rw [kept_all] at h4
    have hc : cost L L = 0 := cost_self fun x hx => hx
    have hz : cost L B = 0 := by
      rcases h4 L h1 with k | ⟨k, _⟩ <;> omega
    rw [fine_only h0 h3 (cost_zero hz)]
end Rlk
end Go.Proofs.Ytmhamoeibkpnpaa

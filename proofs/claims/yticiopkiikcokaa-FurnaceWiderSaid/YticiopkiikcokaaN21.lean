import Derived.Test.YticiopkiikcokaaN20
/-
  AN EMPTY SLICE MAY BE TAKEN AS ONE'S OWN.
-/
namespace Go.Am
section
variable {P : Program} {g : G} {S : St}
theorem Wk.own (t esz : Nat) (ht : elook S.env t = .nil) : Wk g ⟨(t, .rsl S.nx 0 0 esz) :: S.env, hset S.H S.nx (.cells []), S.nx + 1⟩ S := fun κ a w h => by
  have hf := h.fresh S.nx (Nat.le_refl _)
  have st := Step.own h.h hf
  have hh : ∀ j, hget (hset S.H S.nx (.cells [])) j = if S.nx = j then some (.cells []) else hget S.H j := fun j => hget_hset _ _ _ _
  have hown : ∀ x, owned κ (hset S.H S.nx (.cells [])) x ↔ owned κ S.H x := fun x => by
    constructor
    · rintro ⟨j, o, ho, hx⟩
      rw [hh] at ho
      by_cases e : S.nx = j
      · subst e; rw [hf.1] at hx; cases hx
      · rw [if_neg e] at ho; exact ⟨j, o, ho, hx⟩
    · rintro ⟨j, o, ho, hx⟩
      have e : ¬ S.nx = j := fun e => by subst e; rw [hf.1] at hx; cases hx
      exact ⟨j, o, by rw [hh, if_neg e]; exact ho, hx⟩
  refine ⟨κ, ⟨st.hrel, fun j hj => ?_, h.sz, fun t' => ?_, h.ext, h.wle, h.same, fun x hx => h.new x ((hown x).1 hx), ?_⟩⟩
  · have hj' : S.nx + 1 ≤ j := hj
    refine ⟨(h.fresh j (by omega)).1, ?_⟩
    show hget (hset S.H S.nx (.cells [])) j = none
    rw [hh, if_neg (by omega)]; exact (h.fresh j (by omega)).2
  · have hv := st.v (h.env t')
    show VRel κ (avoid κ g.N (hset S.H S.nx (.cells []))) w (if t = t' then .rsl S.nx 0 0 esz else elook S.env t') _
    by_cases e : t = t'
    · subst e
      rw [if_pos rfl]
      rw [ht] at hv
      generalize a.tmps.getD t Go.undef = u at hv ⊢
      cases hv
      exact .rsl0 _ _ _ _
    · rw [if_neg e]; exact hv
  · obtain ⟨ms, m1, m2, m3⟩ := h.defs
    exact ⟨ms, m1, m2, fun r hr => ⟨(m3 r hr).1, (m3 r hr).2.1, fun ho => (m3 r hr).2.2 ((hown r).1 ho)⟩⟩
end
end Go.Am

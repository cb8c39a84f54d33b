import Derived.Test.YticiopkiikcokaaN24
/-
  ALL OBJECTS ARE LET GO OF: what is known of temporaries is what they hold now.
-/
namespace Go.Am
section
variable {P : Program} {g : G} {κ : Nat → Option Nat} {S S' : St} {a : Act} {w : World}
theorem Rel.all (h : Rel g κ S a w) (hH : S'.H = []) (henv : ∀ t, elook S'.env t = .any ∨ ∃ is, thaw 8 (hget S.H) (elook S.env t) = some (elook S'.env t, is)) (hg : g.low S'.nx) : Rel g (cut κ S'.nx) S' a w := by
  have hno : ∀ b, ¬ owned (cut κ S'.nx) S'.H b := fun b ⟨id, o, ho, _⟩ => by rw [hH] at ho; simp [hget] at ho
  have hav : avoid (cut κ S'.nx) g.N S'.H = g.N := by
    funext b
    exact propext ⟨fun q => q.resolve_right (hno b), .inl⟩
  have hc : ∀ {j : Nat}, j < S'.nx → cut κ S'.nx j = κ j := fun hj => by unfold cut; rw [if_pos hj]
  have hn : ∀ {j : Nat}, ¬ j < S'.nx → cut κ S'.nx j = none := fun hj => by unfold cut; rw [if_neg hj]
  refine ⟨⟨fun id o ho => by rw [hH] at ho; simp [hget] at ho, fun i j x o o' hi => by rw [hH] at hi; simp [hget] at hi, fun id b hb => ?_, h.h.Nbd, fun b _ => hno b⟩, fun id hid => ⟨hn (by omega), by rw [hH]; rfl⟩, h.sz, fun t => ?_, fun id b hb => ?_, h.wle, h.same, fun b hb => (hno b hb).elim, ?_⟩
  · by_cases hj : id < S'.nx
    · rw [hc hj] at hb; exact h.h.bd id b hb
    · rw [hn hj] at hb; cases hb
  · rcases henv t with e | ⟨is, ht⟩
    · rw [e]; exact .any _
    · have := thaw_sound h.h 8 _ _ _ _ ht (h.env t)
      rw [hav]
      exact this.low (κ' := cut κ S'.nx) (nx' := 0) (fun j hj => absurd hj (Nat.not_lt_zero _)) (thaw_ok 8 _ _ _ ht)
  · rw [hc (hg id (by rw [hb]; simp))]; exact h.ext id b hb
  · obtain ⟨ms, m1, m2, m3⟩ := h.defs
    exact ⟨ms, m1, m2, fun r hr => ⟨(m3 r hr).1, (m3 r hr).2.1, hno r⟩⟩
def allE (S : St) : Env → Prop
  | [] => True
  | p :: l => (∃ is, thaw 8 (hget S.H) (elook S.env p.1) = some (p.2, is)) ∧ allE S l
theorem Wk.all {env : Env} {nx : Nat} (h : allE S env) (hg : g.low nx) : Wk g ⟨env, [], nx⟩ S := fun _ _ _ hr => ⟨_, hr.all (S' := ⟨env, [], nx⟩) rfl (fun t => by
  show elook env t = .any ∨ ∃ is, thaw 8 (hget S.H) (elook S.env t) = some (elook env t, is)
  induction env with
  | nil => exact .inl rfl
  | cons p l ih =>
    obtain ⟨k, v⟩ := p
    obtain ⟨h1, h2⟩ := h
    by_cases e : k = t
    · subst e
      have : elook ((k, v) :: l) k = v := by simp [elook]
      rw [this]; exact .inr h1
    · have : elook ((k, v) :: l) t = elook l t := by simp [elook, e]
      rw [this]; exact ih h2) hg⟩
end
end Go.Am

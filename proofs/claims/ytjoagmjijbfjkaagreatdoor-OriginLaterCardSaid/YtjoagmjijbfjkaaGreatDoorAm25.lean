import Derived.Test.YtjoagmjijbfjkaaGreatDoorAm19
import Derived.Test.YtjoagmjijbfjkaaGreatDoorAm24
/-
  AN OBJECT THAT IS WRITTEN NO MORE: what referred to it from a temporary is let go of.
-/
namespace Go.Am
section
variable {P : Program} {g : G} {S : St}
/-- A state that says less, the object of number id let go of: the temporaries that led to it hold what was there. -/
structure St.frv (c id : Nat) (cs : List AV) (S' S : St) : Prop where
  nx : S'.nx = c
  le : c ≤ id
  obj : hget S.H id = some (.cells cs)
  env : ∀ t, elook S'.env t = .any ∨ (elook S'.env t = elook S.env t ∧ (elook S'.env t).ok c = true) ∨ ((elook S'.env t).ok 0 = true ∧ ∃ is, thaw 8 (hget [(id, .cells cs)]) (elook S.env t) = some (elook S'.env t, is))
  heap : ∀ j o, hget S'.H j = some o → j < c ∧ hget S.H j = some o ∧ okO c o = true
theorem Rel.frv {κ : Nat → Option Nat} {S' : St} {a : Act} {w : World} {c id : Nat} {cs : List AV} (h : Rel g κ S a w) (hr : St.frv c id cs S' S) (hg : g.low c) : Rel g (fun j => if j < c then κ j else none) S' a w := by
  obtain ⟨hnx, hcid, hobj, henv, hheap⟩ := hr
  have klt : ∀ j, j < c → (fun j => if j < c then κ j else none) j = κ j := fun j hj => by simp [hj]
  have kge : ∀ j, ¬ j < c → (fun j => if j < c then κ j else none) j = none := fun j hj => by simp [hj]
  generalize (fun j => if j < c then κ j else none) = κ' at klt kge ⊢
  have old : ∀ j o, hget S'.H j = some o → j < c ∧ ∃ o', hget S.H j = some o' := fun j o ho => by
    obtain ⟨h1, h2, _⟩ := hheap j o ho
    exact ⟨h1, _, h2⟩
  have hown : ∀ x, owned κ' S'.H x → owned κ S.H x := fun x ⟨j, o, ho, hx⟩ => by
    obtain ⟨h1, o', h2⟩ := old j o ho
    exact ⟨j, o', h2, (klt j h1) ▸ hx⟩
  have hne : ∀ x, owned κ' S'.H x → κ id ≠ some x := fun x ⟨j, o, ho, hx⟩ hid => by
    obtain ⟨h1, o', h2⟩ := old j o ho
    rw [klt j h1] at hx
    have := h.h.inj j id x _ _ h2 hobj hx hid
    omega
  have hav : ∀ x, avoid κ' g.N S'.H x → avoid κ g.N S.H x := fun x hx => hx.imp _root_.id (hown x)
  have up : ∀ {x : AV} {v : Value}, x.ok c = true → VRel κ (avoid κ g.N S.H) w x v → VRel κ' (avoid κ' g.N S'.H) w x v := fun hok hv =>
    (hv.mono (fun _ _ h => h) (.refl w) (fun x _ hx => hav x hx) (fun _ _ _ => rfl)).low klt hok
  -- the one object, beside whatever else
  have hone : ∀ b, owned κ [(id, .cells cs)] b → κ id = some b := fun b ⟨j, o, ho, hb⟩ => by
    by_cases e : id = j
    · subst e; exact hb
    · simp [hget, e] at ho
  have hav1 : ∀ x, avoid κ (avoid κ' g.N S'.H) [(id, .cells cs)] x → avoid κ g.N S.H x := fun x hx => by
    rcases hx with hx | hx
    · exact hav x hx
    · exact .inr ⟨id, _, hobj, hone x hx⟩
  have dn : ∀ {x : AV} {v : Value}, VRel κ (avoid κ g.N S.H) w x v → VRel κ (avoid κ (avoid κ' g.N S'.H) [(id, .cells cs)]) w x v := fun hv =>
    hv.mono (fun _ _ h => h) (.refl w) (fun x _ hx => hav1 x hx) (fun _ _ _ => rfl)
  have hH1 : HRel κ (avoid κ' g.N S'.H) [(id, .cells cs)] w := by
    refine ⟨fun j o ho => ?_, fun i j b o o' hi hj _ _ => ?_, h.h.bd, fun b hb => ?_, fun b hb ho => ?_, h.h.gl.le hav1⟩
    · by_cases e : id = j
      · subst e
        simp [hget] at ho; subst ho
        rcases h.h.rel id _ hobj with ⟨e1, e2⟩ | ⟨blk, cc, e, e1, e2, e3, e4⟩
        · exact .inl ⟨e1, e2⟩
        · refine .inr ⟨blk, cc, e, e1, e2, e3, fun i x hx => ?_⟩
          obtain ⟨v, hv, hvr⟩ := e4 i x hx
          exact ⟨v, hv, dn hvr⟩
      · simp [hget, e] at ho
    · have e1 : id = i := by
        by_cases e : id = i
        · exact e
        · simp [hget, e] at hi
      have e2 : id = j := by
        by_cases e : id = j
        · exact e
        · simp [hget, e] at hj
      rw [← e1, ← e2]
    · rcases hb with hb | ⟨j, o, ho, hx⟩
      · exact h.h.Nbd b hb
      · obtain ⟨h1, o', h2⟩ := old j o ho
        exact h.h.bd j b ((klt j h1) ▸ hx)
    · have hid := hone b ho
      rcases hb with hb | hb
      · exact h.h.NH b hb ⟨id, _, hobj, hid⟩
      · exact hne b hb hid
  have fz : ∀ {x y : AV} {v : Value} {is : List Nat}, x.ok 0 = true → thaw 8 (hget [(id, .cells cs)]) y = some (x, is) → VRel κ (avoid κ g.N S.H) w y v → VRel κ' (avoid κ' g.N S'.H) w x v := fun {x y v is} hx ht hv => by
    have := thaw_sound hH1 8 _ _ _ v ht (dn hv)
    exact this.low (κ' := κ') (nx' := 0) (fun j hj => absurd hj (Nat.not_lt_zero _)) hx
  refine ⟨⟨fun j o ho => ?_, fun i j x o o' hi hj hx hx' => ?_, fun j x hx => ?_, h.h.Nbd, fun x hx ho => h.h.NH x hx (hown x ho), h.h.gl.le hav⟩, fun j hj => ⟨kge j (by omega), ?_⟩, h.sz, fun t => ?_, fun j x hx => ?_, h.wle, h.same, fun x hx => h.new x (hown x hx), ?_⟩
  · obtain ⟨h1, h2, h3⟩ := hheap j o ho
    have hr := h.h.rel j o h2
    cases o with
    | cells l =>
      rcases hr with ⟨e1, e2⟩ | ⟨blk, cc, e, e1, e2, e3, e4⟩
      · exact .inl ⟨e1, (klt j h1).trans e2⟩
      · refine .inr ⟨blk, cc, e, (klt j h1).trans e1, e2, e3, fun i x hx => ?_⟩
        obtain ⟨v, hv, hvr⟩ := e4 i x hx
        exact ⟨v, hv, up (okL_get h3 hx) hvr⟩
    | map es =>
      obtain ⟨r, ents, clk, e1, e2, e3, hB, e4⟩ := hr
      refine ⟨r, ents, clk, (klt j h1).trans e1, e2, e3, hB, fun i e he => ?_⟩
      obtain ⟨m, hm, hk, hv⟩ := e4 i e he
      exact ⟨m, hm, up (okE_get h3 he).1 hk, up (okE_get h3 he).2 hv⟩
    | loop L =>
      obtain ⟨r, R, e1, e2, e3, e4, e5, e6, e7, e8, e9⟩ := hr
      exact ⟨r, R, (klt j h1).trans e1, e2, e3, e4, e5, e6, e7, e8, fun t => up (okL_elook h3 t) (e9 t)⟩
    | iter cur left =>
      obtain ⟨r, m, ents, clk, seen, e1, e2, e3, e4, hB, e5, e6, e7⟩ := hr
      simp only [okO, Bool.and_eq_true] at h3
      refine ⟨r, m, ents, clk, seen, (klt j h1).trans e1, e2, fun h => e3 (hav m h), e4, hB, e5, fun i e he => ?_, fun e he => ?_⟩
      · obtain ⟨x, x1, x2, x3⟩ := e6 i e he
        exact ⟨x, x1, up (okE_get h3.2 he).1 x2, up (okE_get h3.2 he).2 x3⟩
      · obtain ⟨s, x, x1, x2, x3, x4⟩ := e7 e he
        subst he
        have := okE_get (i := 0) (e := e) h3.1 rfl
        exact ⟨s, x, x1, x2, up this.1 x3, up this.2 x4⟩
  · obtain ⟨h1, p, h2⟩ := old i o hi
    obtain ⟨h3, q, h4⟩ := old j o' hj
    rw [klt i h1] at hx; rw [klt j h3] at hx'
    exact h.h.inj i j x p q h2 h4 hx hx'
  · by_cases hj : j < c
    · rw [klt j hj] at hx; exact h.h.bd j x hx
    · rw [kge j hj] at hx; cases hx
  · cases ho : hget S'.H j with
    | none => rfl
    | some o => have := (old j o ho).1; omega
  · rcases henv t with e | ⟨e, hok⟩ | ⟨hok, is, ht⟩
    · rw [e]; exact .any _
    · exact up hok (e ▸ h.env t)
    · exact fz hok ht (h.env t)
  · rw [klt j (hg j (by rw [hx]; simp))]; exact h.ext j x hx
  · obtain ⟨ms, m1, m2, m3⟩ := h.defs
    exact ⟨ms, m1, m2, fun r hr => ⟨(m3 r hr).1, (m3 r hr).2.1, fun ho => (m3 r hr).2.2 (hown r ho)⟩⟩
theorem Wk.frv {S' : St} {c id : Nat} {cs : List AV} (h : St.frv c id cs S' S) (hg : g.low c) : Wk g S' S := fun _ _ _ hr => ⟨_, hr.frv h hg⟩
def frvE (env : Env) (c id : Nat) (cs : List AV) : Env → Prop
  | [] => True
  | p :: l => ((elook env p.1 = p.2 ∧ p.2.ok c = true) ∨ (p.2.ok 0 = true ∧ ∃ is, thaw 8 (hget [(id, .cells cs)]) (elook env p.1) = some (p.2, is))) ∧ frvE env c id cs l
theorem St.frv.of {S' S : St} {c id : Nat} {cs : List AV} (hnx : S'.nx = c) (hci : c ≤ id) (ho : hget S.H id = some (.cells cs)) (h1 : frvE S.env c id cs S'.env) (h2 : leH S.H c S'.H) : St.frv c id cs S' S := by
  refine ⟨hnx, hci, ho, fun t => ?_, fun j o hj => ?_⟩
  · generalize S'.env = l at h1 ⊢
    induction l with
    | nil => exact .inl rfl
    | cons p l ih =>
      obtain ⟨k, v⟩ := p
      obtain ⟨h3, h4⟩ := h1
      by_cases e : k = t
      · subst e
        have ev : elook ((k, v) :: l) k = v := if_pos rfl
        rw [ev]
        exact .inr (h3.imp (fun q => ⟨q.1.symm, q.2⟩) (fun q => q))
      · have ev : elook ((k, v) :: l) t = elook l t := if_neg e
        rw [ev]; exact ih h4
  · generalize S'.H = l at h2 hj
    induction l with
    | nil => cases hj
    | cons p l ih =>
      obtain ⟨k, q⟩ := p
      obtain ⟨h3, h4, h5, h6⟩ := h2
      by_cases e : k = j
      · subst e
        have ev : hget ((k, q) :: l) k = some q := if_pos rfl
        rw [ev] at hj; cases hj
        exact ⟨h4, h3, h5⟩
      · have ev : hget ((k, q) :: l) j = hget l j := if_neg e
        rw [ev] at hj; exact ih h6 hj
end
end Go.Am

import Derived.Test.YtjoagmjijbfjkaaGreatDoorAm28
/-
  THE LATER OBJECTS ARE LET GO OF: all from a number on; what referred to them from a temporary holds what was there.
-/
namespace Go.Am
section
variable {P : Program} {g : G} {S : St}
structure St.frm (c : Nat) (S' S : St) : Prop where
  nx : S'.nx = c
  env : ∀ t, elook S'.env t = .any ∨ (elook S'.env t = elook S.env t ∧ (elook S'.env t).ok c = true) ∨ ((elook S'.env t).ok 0 = true ∧ ∃ is, thaw 8 (hget S.H) (elook S.env t) = some (elook S'.env t, is) ∧ ∀ i ∈ is, c ≤ i)
  heap : ∀ j o, hget S'.H j = some o → j < c ∧ hget S.H j = some o ∧ okO c o = true
theorem Rel.frm {κ : Nat → Option Nat} {S' : St} {a : Act} {w : World} {c : Nat} (h : Rel g κ S a w) (hr : St.frm c S' S) (hg : g.low c) : Rel g (fun j => if j < c then κ j else none) S' a w := by
  obtain ⟨hnx, henv, hheap⟩ := hr
  have klt : ∀ j, j < c → (fun j => if j < c then κ j else none) j = κ j := fun j hj => by simp [hj]
  have kge : ∀ j, ¬ j < c → (fun j => if j < c then κ j else none) j = none := fun j hj => by simp [hj]
  generalize (fun j => if j < c then κ j else none) = κ' at klt kge ⊢
  have old : ∀ j o, hget S'.H j = some o → j < c ∧ ∃ o', hget S.H j = some o' := fun j o ho => by
    obtain ⟨h1, h2, _⟩ := hheap j o ho
    exact ⟨h1, _, h2⟩
  have hown : ∀ x, owned κ' S'.H x → owned κ S.H x := fun x ⟨j, o, ho, hx⟩ => by
    obtain ⟨h1, o', h2⟩ := old j o ho
    exact ⟨j, o', h2, (klt j h1) ▸ hx⟩
  have hav : ∀ x, avoid κ' g.N S'.H x → avoid κ g.N S.H x := fun x hx => hx.imp _root_.id (hown x)
  have up : ∀ {x : AV} {v : Value}, x.ok c = true → VRel κ (avoid κ g.N S.H) w x v → VRel κ' (avoid κ' g.N S'.H) w x v := fun hok hv =>
    (hv.mono (fun _ _ h => h) (.refl w) (fun x _ hx => hav x hx) (fun _ _ _ => rfl)).low klt hok
  have hs := hget_filter (fun i => decide (c ≤ i)) S.H
  generalize S.H.filter (fun x => decide (c ≤ x.1)) = Hs at hs
  have hs1 : ∀ {j o}, hget Hs j = some o → c ≤ j ∧ hget S.H j = some o := fun {j o} q => by
    rw [hs] at q
    by_cases e : c ≤ j
    · simp only [e, decide_true, if_true] at q; exact ⟨e, q⟩
    · simp [e] at q
  have hav1 : ∀ x, avoid κ (avoid κ' g.N S'.H) Hs x → avoid κ g.N S.H x := fun x hx => by
    rcases hx with hx | ⟨j, o, ho, hx⟩
    · exact hav x hx
    · exact .inr ⟨j, o, (hs1 ho).2, hx⟩
  have dn : ∀ {x : AV} {v : Value}, VRel κ (avoid κ g.N S.H) w x v → VRel κ (avoid κ (avoid κ' g.N S'.H) Hs) w x v := fun hv =>
    hv.mono (fun _ _ h => h) (.refl w) (fun x _ hx => hav1 x hx) (fun _ _ _ => rfl)
  have hH1 : HRel κ (avoid κ' g.N S'.H) Hs w := by
    refine ⟨fun j o ho => ORel.mono j (fun _ _ h => h) (fun h => h) (.refl w) (fun x _ hx => hav1 x hx) (fun _ _ _ => rfl) (fun _ _ => rfl) (h.h.rel j o (hs1 ho).2), fun i j b o o' hi hj => h.h.inj i j b o o' (hs1 hi).2 (hs1 hj).2, h.h.bd, fun b hb => ?_, fun b hb ho => ?_, h.h.gl.le hav1⟩
    · rcases hb with hb | ⟨j, o, ho, hx⟩
      · exact h.h.Nbd b hb
      · obtain ⟨h1, o', h2⟩ := old j o ho
        exact h.h.bd j b ((klt j h1) ▸ hx)
    · obtain ⟨j, o, ho, hx⟩ := ho
      obtain ⟨q1, q2⟩ := hs1 ho
      rcases hb with hb | ⟨i, o', ho', hx'⟩
      · exact h.h.NH b hb ⟨j, o, q2, hx⟩
      · obtain ⟨h1, o2, h2⟩ := old i o' ho'
        rw [klt i h1] at hx'
        have := h.h.inj i j b o2 o h2 q2 hx' hx
        omega
  have fz : ∀ {x y : AV} {v : Value} {is : List Nat}, x.ok 0 = true → thaw 8 (hget S.H) y = some (x, is) → (∀ i ∈ is, c ≤ i) → VRel κ (avoid κ g.N S.H) w y v → VRel κ' (avoid κ' g.N S'.H) w x v := fun {x y v is} hx ht hi hv => by
    have := thaw_sound hH1 8 _ _ _ v (thaw_congr 8 _ _ _ ht fun i q => by rw [hs, if_pos (decide_eq_true (hi i q))]) (dn hv)
    exact this.low (κ' := κ') (nx' := 0) (fun j hj => absurd hj (Nat.not_lt_zero _)) hx
  refine ⟨⟨fun j o ho => ?_, fun i j x o o' hi hj hx hx' => ?_, fun j x hx => ?_, h.h.Nbd, fun x hx ho => h.h.NH x hx (hown x ho), h.h.gl.le hav⟩, fun j hj => ⟨kge j (by omega), ?_⟩, h.sz, fun t => ?_, fun j x hx => ?_, h.wle, h.same, fun x hx => h.new x (hown x hx), ?_⟩
  · obtain ⟨h1, h2, h3⟩ := hheap j o ho
    have hr := h.h.rel j o h2
    cases o with
    | cells l =>
      rcases hr with ⟨e1, e2⟩ | ⟨blk, cc, e, e1, e2, e3, e4⟩
      · exact .inl ⟨e1, (klt j h1).trans e2⟩
      · refine .inr ⟨blk, cc, e, (klt j h1).trans e1, e2, e3, fun i x hx => ?_⟩
        obtain ⟨v, hv, hvr⟩ := e4 i x hx
        exact ⟨v, hv, up (okL_get h3 hx) hvr⟩
    | map es =>
      obtain ⟨r, ents, clk, e1, e2, e3, hB, e4⟩ := hr
      refine ⟨r, ents, clk, (klt j h1).trans e1, e2, e3, hB, fun i e he => ?_⟩
      obtain ⟨m, hm, hk, hv⟩ := e4 i e he
      exact ⟨m, hm, up (okE_get h3 he).1 hk, up (okE_get h3 he).2 hv⟩
    | loop L =>
      obtain ⟨r, R, e1, e2, e3, e4, e5, e6, e7, e8, e9⟩ := hr
      exact ⟨r, R, (klt j h1).trans e1, e2, e3, e4, e5, e6, e7, e8, fun t => up (okL_elook h3 t) (e9 t)⟩
    | iter cur left =>
      obtain ⟨r, m, ents, clk, seen, e1, e2, e3, e4, hB, e5, e6, e7⟩ := hr
      simp only [okO, Bool.and_eq_true] at h3
      refine ⟨r, m, ents, clk, seen, (klt j h1).trans e1, e2, fun h => e3 (hav m h), e4, hB, e5, fun i e he => ?_, fun e he => ?_⟩
      · obtain ⟨x, x1, x2, x3⟩ := e6 i e he
        exact ⟨x, x1, up (okE_get h3.2 he).1 x2, up (okE_get h3.2 he).2 x3⟩
      · obtain ⟨s, x, x1, x2, x3, x4⟩ := e7 e he
        subst he
        have := okE_get (i := 0) (e := e) h3.1 rfl
        exact ⟨s, x, x1, x2, up this.1 x3, up this.2 x4⟩
  · obtain ⟨h1, p, h2⟩ := old i o hi
    obtain ⟨h3, q, h4⟩ := old j o' hj
    rw [klt i h1] at hx; rw [klt j h3] at hx'
    exact h.h.inj i j x p q h2 h4 hx hx'
  · by_cases hj : j < c
    · rw [klt j hj] at hx; exact h.h.bd j x hx
    · rw [kge j hj] at hx; cases hx
  · cases ho : hget S'.H j with
    | none => rfl
    | some o => have := (old j o ho).1; omega
  · rcases henv t with e | ⟨e, hok⟩ | ⟨hok, is, ht, hi⟩
    · rw [e]; exact .any _
    · exact up hok (e ▸ h.env t)
    · exact fz hok ht hi (h.env t)
  · rw [klt j (hg j (by rw [hx]; simp))]; exact h.ext j x hx
  · obtain ⟨ms, m1, m2, m3⟩ := h.defs
    exact ⟨ms, m1, m2, fun r hr => ⟨(m3 r hr).1, (m3 r hr).2.1, fun ho => (m3 r hr).2.2 (hown r ho)⟩⟩
theorem Wk.frm {S' : St} {c : Nat} (h : St.frm c S' S) (hg : g.low c) : Wk g S' S := fun _ _ _ hr => ⟨_, hr.frm h hg⟩
def frmE (S : St) (c : Nat) : Env → Prop
  | [] => True
  | p :: l => ((elook S.env p.1 = p.2 ∧ p.2.ok c = true) ∨ (p.2.ok 0 = true ∧ ∃ is, thaw 8 (hget S.H) (elook S.env p.1) = some (p.2, is) ∧ (is.all fun i => Nat.ble c i) = true)) ∧ frmE S c l
theorem St.frm.of {S' S : St} {c : Nat} (hnx : S'.nx = c) (h1 : frmE S c S'.env) (h2 : leH S.H c S'.H) : St.frm c S' S := by
  refine ⟨hnx, fun t => ?_, fun j o hj => ?_⟩
  · generalize S'.env = l at h1 ⊢
    induction l with
    | nil => exact .inl rfl
    | cons p l ih =>
      obtain ⟨k, v⟩ := p
      obtain ⟨h3, h4⟩ := h1
      by_cases e : k = t
      · subst e
        have ev : elook ((k, v) :: l) k = v := if_pos rfl
        rw [ev]
        exact .inr (h3.imp (fun q => ⟨q.1.symm, q.2⟩) (fun ⟨q1, is, q2, q3⟩ => ⟨q1, is, q2, fun i hi => Nat.le_of_ble_eq_true (List.all_eq_true.1 q3 i hi)⟩))
      · have ev : elook ((k, v) :: l) t = elook l t := if_neg e
        rw [ev]; exact ih h4
  · generalize S'.H = l at h2 hj
    induction l with
    | nil => cases hj
    | cons p l ih =>
      obtain ⟨k, q⟩ := p
      obtain ⟨h3, h4, h5, h6⟩ := h2
      by_cases e : k = j
      · subst e
        have ev : hget ((k, q) :: l) k = some q := if_pos rfl
        rw [ev] at hj; cases hj
        exact ⟨h4, h3, h5⟩
      · have ev : hget ((k, q) :: l) j = hget l j := if_neg e
        rw [ev] at hj; exact ih h6 hj
end
end Go.Am

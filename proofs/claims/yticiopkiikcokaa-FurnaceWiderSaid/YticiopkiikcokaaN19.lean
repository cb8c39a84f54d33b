import Derived.Test.YticiopkiikcokaaN18
/-
  A SLICE THAT IS WRITTEN NO MORE: its numbers lie where its reference lay.
-/
namespace Go.Am
section
variable {P : Program} {g : G} {S : St}
/-- A state that says less, the slice of number id let go of: what referred to it holds its cells. -/
structure St.frz (c id esz : Nat) (cs : List AV) (S' S : St) : Prop where
  nx : S'.nx = c
  le : c ≤ id
  obj : hget S.H id = some (.cells cs)
  ok : okL 0 cs = true
  env : ∀ t, elook S'.env t = .any ∨ (elook S'.env t = elook S.env t ∧ (elook S'.env t).ok c = true)
  heap : ∀ j o, hget S'.H j = some o → j < c ∧ ((hget S.H j = some o ∧ okO c o = true) ∨ ∃ xs ys : List AV, o = .cells xs ∧ hget S.H j = some (.cells ys) ∧ xs.length = ys.length ∧
    ∀ (i : Nat) (x : AV), xs[i]? = some x → (ys[i]? = some x ∧ x.ok c = true) ∨ ∃ n, ys[i]? = some (.rsl id 0 n esz) ∧ x = .lst esz (chunks esz cs n) ∧ n * esz ≤ cs.length)
theorem thaw_all (n : Nat) (h : Nat → Option AObj) : ∀ l : List AV, okL 0 l = true → mapO (thaw (n + 1) h) l = some (l, []) := by
  intro l
  induction l with
  | nil => intro _; rfl
  | cons a l ih =>
    intro hl
    simp only [okL, Bool.and_eq_true] at hl
    have e : thaw (n + 1) h a = some (a, []) := by unfold thaw; rw [if_pos hl.1]
    simp only [mapO, e, ih hl.2, List.nil_append]
theorem thaw_one {h : Nat → Option AObj} {id n esz : Nat} {cs : List AV} (h0 : h id = some (.cells cs)) (hok : okL 0 cs = true) (hn : n * esz ≤ cs.length) : thaw 8 h (.rsl id 0 n esz) = some (.lst esz (chunks esz cs n), [id]) := by
  have e : thaw 8 h (.rsl id 0 n esz) = (match h id with
      | some (.cells cs) => if 0 + n * esz ≤ cs.length then (match mapO (thaw 7 h) cs with | some (cs', is) => some (.lst esz (chunks esz (cs'.drop 0) n), id :: is) | none => none) else none
      | _ => none) := rfl
  rw [e, h0]
  simp only []
  rw [if_pos (by omega), thaw_all 6 h cs hok]
  rfl
theorem Rel.frz {κ : Nat → Option Nat} {S' : St} {a : Act} {w : World} {c id esz : Nat} {cs : List AV} (h : Rel g κ S a w) (hr : St.frz c id esz cs S' S) (hg : g.low c) : Rel g (fun j => if j < c then κ j else none) S' a w := by
  obtain ⟨hnx, hcid, hobj, hcok, henv, hheap⟩ := hr
  have klt : ∀ j, j < c → (fun j => if j < c then κ j else none) j = κ j := fun j hj => by simp [hj]
  have kge : ∀ j, ¬ j < c → (fun j => if j < c then κ j else none) j = none := fun j hj => by simp [hj]
  generalize (fun j => if j < c then κ j else none) = κ' at klt kge ⊢
  have old : ∀ j o, hget S'.H j = some o → j < c ∧ ∃ o', hget S.H j = some o' := fun j o ho => by
    obtain ⟨h1, h2⟩ := hheap j o ho
    rcases h2 with ⟨h2, _⟩ | ⟨xs, ys, _, h2, _⟩
    · exact ⟨h1, _, h2⟩
    · exact ⟨h1, _, h2⟩
  have hown : ∀ x, owned κ' S'.H x → owned κ S.H x := fun x ⟨j, o, ho, hx⟩ => by
    obtain ⟨h1, o', h2⟩ := old j o ho
    exact ⟨j, o', h2, (klt j h1) ▸ hx⟩
  have hne : ∀ x, owned κ' S'.H x → κ id ≠ some x := fun x ⟨j, o, ho, hx⟩ hid => by
    obtain ⟨h1, o', h2⟩ := old j o ho
    rw [klt j h1] at hx
    have := h.h.inj j id x _ _ h2 hobj hx hid
    omega
  have hav : ∀ x, avoid κ' g.N S'.H x → avoid κ g.N S.H x := fun x hx => hx.imp _root_.id (hown x)
  have up : ∀ {x : AV} {v : Value}, x.ok c = true → VRel κ (avoid κ g.N S.H) w x v → VRel κ' (avoid κ' g.N S'.H) w x v := fun hok hv =>
    (hv.mono (fun _ _ h => h) (.refl w) (fun x _ hx => hav x hx) (fun _ _ _ => rfl)).low klt hok
  -- the one object, beside whatever else
  have hone : ∀ b, owned κ [(id, .cells cs)] b → κ id = some b := fun b ⟨j, o, ho, hb⟩ => by
    by_cases e : id = j
    · subst e; exact hb
    · simp [hget, e] at ho
  have hav1 : ∀ x, avoid κ (avoid κ' g.N S'.H) [(id, .cells cs)] x → avoid κ g.N S.H x := fun x hx => by
    rcases hx with hx | hx
    · exact hav x hx
    · exact .inr ⟨id, _, hobj, hone x hx⟩
  have dn : ∀ {x : AV} {v : Value}, VRel κ (avoid κ g.N S.H) w x v → VRel κ (avoid κ (avoid κ' g.N S'.H) [(id, .cells cs)]) w x v := fun hv =>
    hv.mono (fun _ _ h => h) (.refl w) (fun x _ hx => hav1 x hx) (fun _ _ _ => rfl)
  have hH1 : HRel κ (avoid κ' g.N S'.H) [(id, .cells cs)] w := by
    refine ⟨fun j o ho => ?_, fun i j b o o' hi hj _ _ => ?_, h.h.bd, fun b hb => ?_, fun b hb ho => ?_⟩
    · by_cases e : id = j
      · subst e
        simp [hget] at ho; subst ho
        rcases h.h.rel id _ hobj with ⟨e1, e2⟩ | ⟨blk, cc, e, e1, e2, e3, e4⟩
        · exact .inl ⟨e1, e2⟩
        · refine .inr ⟨blk, cc, e, e1, e2, e3, fun i x hx => ?_⟩
          obtain ⟨v, hv, hvr⟩ := e4 i x hx
          exact ⟨v, hv, dn hvr⟩
      · simp [hget, e] at ho
    · have e1 : id = i := by
        by_cases e : id = i
        · exact e
        · simp [hget, e] at hi
      have e2 : id = j := by
        by_cases e : id = j
        · exact e
        · simp [hget, e] at hj
      rw [← e1, ← e2]
    · rcases hb with hb | ⟨j, o, ho, hx⟩
      · exact h.h.Nbd b hb
      · obtain ⟨h1, o', h2⟩ := old j o ho
        exact h.h.bd j b ((klt j h1) ▸ hx)
    · have hid := hone b ho
      rcases hb with hb | hb
      · exact h.h.NH b hb ⟨id, _, hobj, hid⟩
      · exact hne b hb hid
  have fz : ∀ {n : Nat} {v : Value}, n * esz ≤ cs.length → VRel κ (avoid κ g.N S.H) w (.rsl id 0 n esz) v → VRel κ' (avoid κ' g.N S'.H) w (.lst esz (chunks esz cs n)) v := fun {n v} hn hv => by
    have := thaw_sound hH1 8 _ _ _ v (thaw_one (h := hget [(id, .cells cs)]) (by simp [hget]) hcok hn) (dn hv)
    exact this.low (κ' := κ') (nx' := 0) (fun j hj => absurd hj (Nat.not_lt_zero _)) rfl
  refine ⟨⟨fun j o ho => ?_, fun i j x o o' hi hj hx hx' => ?_, fun j x hx => ?_, h.h.Nbd, fun x hx ho => h.h.NH x hx (hown x ho)⟩, fun j hj => ⟨kge j (by omega), ?_⟩, h.sz, fun t => ?_, fun j x hx => ?_, h.wle, h.same, fun x hx => h.new x (hown x hx), ?_⟩
  · obtain ⟨h1, h2⟩ := hheap j o ho
    rcases h2 with ⟨h2, h3⟩ | ⟨xs, ys, rfl, h2, hlen, h3⟩
    · have hr := h.h.rel j o h2
      cases o with
      | cells l =>
        rcases hr with ⟨e1, e2⟩ | ⟨blk, cc, e, e1, e2, e3, e4⟩
        · exact .inl ⟨e1, (klt j h1).trans e2⟩
        · refine .inr ⟨blk, cc, e, (klt j h1).trans e1, e2, e3, fun i x hx => ?_⟩
          obtain ⟨v, hv, hvr⟩ := e4 i x hx
          exact ⟨v, hv, up (okL_get h3 hx) hvr⟩
      | map es =>
        obtain ⟨r, ents, clk, e1, e2, e3, e4⟩ := hr
        refine ⟨r, ents, clk, (klt j h1).trans e1, e2, e3, fun i e he => ?_⟩
        obtain ⟨m, hm, hk, hv⟩ := e4 i e he
        exact ⟨m, hm, up (okE_get h3 he).1 hk, up (okE_get h3 he).2 hv⟩
      | loop L =>
        obtain ⟨r, R, e1, e2, e3, e4, e5, e6, e7, e8, e9⟩ := hr
        exact ⟨r, R, (klt j h1).trans e1, e2, e3, e4, e5, e6, e7, e8, fun t => up (okL_elook h3 t) (e9 t)⟩
    · rcases h.h.rel j _ h2 with ⟨e1, e2⟩ | ⟨blk, cc, e, e1, e2, e3, e4⟩
      · subst e1
        exact .inl ⟨List.eq_nil_of_length_eq_zero (by simpa using hlen), (klt j h1).trans e2⟩
      · refine .inr ⟨blk, cc, e, (klt j h1).trans e1, e2, by omega, fun i x hx => ?_⟩
        rcases h3 i x hx with ⟨hy, hok⟩ | ⟨n, hy, rfl, hn⟩
        · obtain ⟨v, hv, hvr⟩ := e4 i x hy
          exact ⟨v, hv, up hok hvr⟩
        · obtain ⟨v, hv, hvr⟩ := e4 i _ hy
          exact ⟨v, hv, fz hn hvr⟩
  · obtain ⟨h1, p, h2⟩ := old i o hi
    obtain ⟨h3, q, h4⟩ := old j o' hj
    rw [klt i h1] at hx; rw [klt j h3] at hx'
    exact h.h.inj i j x p q h2 h4 hx hx'
  · by_cases hj : j < c
    · rw [klt j hj] at hx; exact h.h.bd j x hx
    · rw [kge j hj] at hx; cases hx
  · cases ho : hget S'.H j with
    | none => rfl
    | some o => have := (old j o ho).1; omega
  · rcases henv t with e | ⟨e, hok⟩
    · rw [e]; exact .any _
    · exact up hok (e ▸ h.env t)
  · rw [klt j (hg j (by rw [hx]; simp))]; exact h.ext j x hx
  · obtain ⟨ms, m1, m2, m3⟩ := h.defs
    exact ⟨ms, m1, m2, fun r hr => ⟨(m3 r hr).1, (m3 r hr).2.1, fun ho => (m3 r hr).2.2 (hown r ho)⟩⟩
theorem Wk.frz {S' : St} {c id esz : Nat} {cs : List AV} (h : St.frz c id esz cs S' S) (hg : g.low c) : Wk g S' S := fun _ _ _ hr => ⟨_, hr.frz h hg⟩
end
end Go.Am

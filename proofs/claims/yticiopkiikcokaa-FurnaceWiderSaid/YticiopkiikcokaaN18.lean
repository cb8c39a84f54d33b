import Derived.Test.YticiopkiikcokaaN17
/-
  A LOOP WHOSE ROUNDS MAKE A NEW SLICE EACH: its number is turned back to the one that the round began with.
-/
namespace Go.Am

section
variable {P : Program} {ro : Option Nat} {g : G} {Q : AX → St → Prop} {S : St}

/-- A state that says less, the slice of number b under number c. -/
structure St.ren (c b : Nat) (S' S : St) : Prop where
  nx : S'.nx = c + 1
  le : c ≤ b
  env : ∀ t, elook S'.env t = .any ∨ (elook S'.env t = elook S.env t ∧ (elook S'.env t).ok c = true) ∨ ∃ off len esz, elook S'.env t = .rsl c off len esz ∧ elook S.env t = .rsl b off len esz
  heap : ∀ id o, hget S'.H id = some o → (id < c ∧ hget S.H id = some o ∧ okO c o = true) ∨ (id = c ∧ hget S.H b = some o ∧ ∃ cs, o = .cells cs ∧ okL c cs = true)

theorem Rel.ren {κ : Nat → Option Nat} {S' : St} {a : Act} {w : World} {c b : Nat} (h : Rel g κ S a w) (hr : St.ren c b S' S) (hg : g.low c) : Rel g (fun id => if id < c then κ id else if id = c then κ b else none) S' a w := by
  obtain ⟨hnx, hcb, henv, hheap⟩ := hr
  have klt : ∀ id, id < c → (fun id => if id < c then κ id else if id = c then κ b else none) id = κ id := fun id hid => by simp [hid]
  have kc : (fun id => if id < c then κ id else if id = c then κ b else none) c = κ b := by simp
  have kgt : ∀ id, c < id → (fun id => if id < c then κ id else if id = c then κ b else none) id = none := fun id hid => by
    have h1 : ¬ id < c := by omega
    have h2 : ¬ id = c := by omega
    simp [h1, h2]
  generalize (fun id => if id < c then κ id else if id = c then κ b else none) = κ' at klt kc kgt ⊢
  have hown : ∀ x, owned κ' S'.H x → owned κ S.H x := fun x ⟨id, o, ho, hx⟩ => by
    rcases hheap id o ho with ⟨h1, h2, _⟩ | ⟨rfl, h2, _⟩
    · exact ⟨id, o, h2, (klt id h1) ▸ hx⟩
    · exact ⟨b, o, h2, kc ▸ hx⟩
  have hav : ∀ x, avoid κ' g.N S'.H x → avoid κ g.N S.H x := fun x hx => hx.imp id (hown x)
  have up : ∀ {x : AV} {v : Value}, x.ok c = true → VRel κ (avoid κ g.N S.H) w x v → VRel κ' (avoid κ' g.N S'.H) w x v := fun hok hv =>
    (hv.mono (fun _ _ h => h) (.refl w) (fun x _ hx => hav x hx) (fun _ _ _ => rfl)).low klt hok
  refine ⟨⟨fun id o ho => ?_, fun i j x o o' hi hj hx hx' => ?_, fun id x hx => ?_, h.h.Nbd, fun x hx ho => h.h.NH x hx (hown x ho)⟩, fun id hid => ⟨kgt id (by omega), ?_⟩, h.sz, fun t => ?_, fun id x hx => ?_, h.wle, h.same, fun x hx => h.new x (hown x hx), ?_⟩
  · rcases hheap id o ho with ⟨h1, h2, h3⟩ | ⟨rfl, h2, cs, rfl, h3⟩
    · have hr := h.h.rel id o h2
      cases o with
      | cells cs =>
        rcases hr with ⟨e1, e2⟩ | ⟨blk, cc, e, e1, e2, e3, e4⟩
        · exact .inl ⟨e1, (klt id h1).trans e2⟩
        · refine .inr ⟨blk, cc, e, (klt id h1).trans e1, e2, e3, fun i x hx => ?_⟩
          obtain ⟨v, hv, hvr⟩ := e4 i x hx
          exact ⟨v, hv, up (okL_get h3 hx) hvr⟩
      | map es =>
        obtain ⟨r, ents, clk, e1, e2, e3, e4⟩ := hr
        refine ⟨r, ents, clk, (klt id h1).trans e1, e2, e3, fun i e he => ?_⟩
        obtain ⟨m, hm, hk, hv⟩ := e4 i e he
        exact ⟨m, hm, up (okE_get h3 he).1 hk, up (okE_get h3 he).2 hv⟩
      | loop L =>
        obtain ⟨r, R, e1, e2, e3, e4, e5, e6, e7, e8, e9⟩ := hr
        exact ⟨r, R, (klt id h1).trans e1, e2, e3, e4, e5, e6, e7, e8, fun t => up (okL_elook h3 t) (e9 t)⟩
    · rcases h.h.rel b _ h2 with ⟨e1, e2⟩ | ⟨blk, cc, e, e1, e2, e3, e4⟩
      · exact .inl ⟨e1, kc.trans e2⟩
      · refine .inr ⟨blk, cc, e, kc.trans e1, e2, e3, fun i x hx => ?_⟩
        obtain ⟨v, hv, hvr⟩ := e4 i x hx
        exact ⟨v, hv, up (okL_get h3 hx) hvr⟩
  · rcases hheap i o hi with ⟨h1, h2, _⟩ | ⟨rfl, h2, _⟩ <;> rcases hheap j o' hj with ⟨h3, h4, _⟩ | ⟨rfl, h4, _⟩
    · rw [klt i h1] at hx; rw [klt j h3] at hx'; exact h.h.inj i j x o o' h2 h4 hx hx'
    · rw [klt i h1] at hx; rw [kc] at hx'; have := h.h.inj i b x o o' h2 h4 hx hx'; omega
    · rw [klt j h3] at hx'; rw [kc] at hx; have := h.h.inj b j x o o' h2 h4 hx hx'; omega
    · rfl
  · rcases Nat.lt_trichotomy id c with h1 | h1 | h1
    · rw [klt id h1] at hx; exact h.h.bd id x hx
    · rw [h1, kc] at hx; exact h.h.bd b x hx
    · rw [kgt id h1] at hx; cases hx
  · cases ho : hget S'.H id with
    | none => rfl
    | some o => rcases hheap id o ho with ⟨h1, _⟩ | ⟨h1, _⟩ <;> omega
  · rcases henv t with e | ⟨e, hok⟩ | ⟨off, len, esz, e1, e2⟩
    · rw [e]; exact .any _
    · exact up hok (e ▸ h.env t)
    · have hv := h.env t
      rw [e2] at hv
      rw [e1]
      generalize a.tmps.getD t Go.undef = u at hv ⊢
      cases hv with
      | rsl0 _ _ _ base => exact .rsl0 c off esz base
      | rsl _ _ _ _ cap blk cc e f hk hl hb hcap => exact .rsl c off len esz cap blk cc e f (kc.trans hk) hl hb hcap
  · rw [klt id (hg id (by rw [hx]; simp))]; exact h.ext id x hx
  · obtain ⟨ms, m1, m2, m3⟩ := h.defs
    exact ⟨ms, m1, m2, fun r hr => ⟨(m3 r hr).1, (m3 r hr).2.1, fun ho => (m3 r hr).2.2 (hown r ho)⟩⟩

/-- What is so of a state is so of another one, but for numbers. -/
def Wk (g : G) (S' S : St) : Prop := ∀ κ a w, Rel g κ S a w → ∃ κ', Rel g κ' S' a w
theorem Wk.le {S' : St} (h : S'.le S) (hg : g.low S'.nx) : Wk g S' S := fun _ _ _ hr => ⟨_, hr.weaken h hg⟩
theorem Wk.ren {S' : St} {c b : Nat} (h : St.ren c b S' S) (hg : g.low c) : Wk g S' S := fun _ _ _ hr => ⟨_, hr.ren h hg⟩
theorem Wk.congr {A S S' : St} (h : Wk g A S) (he : EEq S S') : Wk g A S' := fun κ a w hr => h κ a w (hr.congr ⟨fun t => (he.seq.1 t).symm, fun id => (he.seq.2.1 id).symm, he.seq.2.2.symm⟩)
/-- A loop: states by an index, each round to a lesser one, its numbers turned back. -/
def RoundW (g : G) {ι : Type} (st : ι → St) (I : ι → Prop) (μ : ι → Nat) (i : ι) (S' : St) : Prop := ∃ j, I j ∧ μ j < μ i ∧ Wk g (st j) S'
theorem acode_whileW {ι : Type} (st : ι → St) (I : ι → Prop) (μ : ι → Nat) (i0 : ι) (hI : I i0) (h0 : Wk g (st i0) S) {c : Code}
    (round : ∀ i, I i → ACode P ro g c (AX.then (RoundW g st I μ i) Q) (st i)) : ACode P ro g (.loop c) Q S := fun κ a w hr => by
  have hmin : ∀ p : Nat → Prop, (∃ n, p n) → ∃ n, p n ∧ ∀ m, p m → n ≤ m := by
    intro p ⟨n, hn⟩
    induction n using Nat.strongRecOn with
    | _ n ih =>
      by_cases hx : ∃ m, m < n ∧ p m
      · obtain ⟨m, hm, hp⟩ := hx; exact ih m hm hp
      · exact ⟨n, hn, fun m hm => Nat.le_of_not_lt fun hlt => hx ⟨m, hlt, hm⟩⟩
  obtain ⟨f, hf⟩ : ∃ f : Act → World → Nat, ∀ a w, (∃ n i κ, μ i = n ∧ I i ∧ Rel g κ (st i) a w) → (∃ i κ, μ i = f a w ∧ I i ∧ Rel g κ (st i) a w) ∧ ∀ m, (∃ i κ, μ i = m ∧ I i ∧ Rel g κ (st i) a w) → f a w ≤ m := by
    classical
    exact ⟨fun a w => if h : ∃ n i κ, μ i = n ∧ I i ∧ Rel g κ (st i) a w then Classical.choose (hmin _ h) else 0, fun a w h => by
      simp only [dif_pos h]; exact Classical.choose_spec (hmin _ h)⟩
  obtain ⟨κ0, hr0⟩ := h0 _ _ _ hr
  refine wpIn_loop (fun a w => ∃ i κ, I i ∧ Rel g κ (st i) a w) f ⟨i0, _, hI, hr0⟩ ?_
  rintro a w ⟨i1, κ1, hI1, hr1⟩
  obtain ⟨⟨i, κ2, hn, hI2, hr2⟩, _⟩ := hf a w ⟨_, i1, κ1, rfl, hI1, hr1⟩
  refine wpIn_mono (round i hI2 κ2 a w hr2) fun e a' w' hq => ?_
  cases e with
  | normal =>
    obtain ⟨κ', S', h1, j, hj, hlt, hle⟩ := hq
    obtain ⟨κ'', hr'⟩ := hle _ _ _ h1
    exact ⟨⟨j, _, hj, hr'⟩, Nat.lt_of_le_of_lt ((hf a' w' ⟨_, j, _, rfl, hj, hr'⟩).2 _ ⟨j, _, rfl, hj, hr'⟩) (hn ▸ hlt)⟩
  | panic _ => exact hq.elim
  | outgrown => exact hq.elim
  | _ => exact hq
theorem EClosed.roundW {ι : Type} {st : ι → St} {I : ι → Prop} {μ : ι → Nat} {i : ι} {Q : AX → St → Prop} (hq : EClosed Q) : EClosed (AX.then (RoundW g st I μ i) Q) := fun x S S' he h => by
  cases x with
  | norm => obtain ⟨j, h1, h2, h3⟩ := h; exact ⟨j, h1, h2, h3.congr he⟩
  | _ => exact hq _ _ _ he h
/-- Renaming, entry by entry. -/
def renE (env : Env) (c b : Nat) : Env → Prop
  | [] => True
  | p :: l => ((elook env p.1 = p.2 ∧ p.2.ok c = true) ∨ ∃ off len esz, p.2 = .rsl c off len esz ∧ elook env p.1 = .rsl b off len esz) ∧ renE env c b l
def renH (H : AHeap) (c b : Nat) : AHeap → Prop
  | [] => True
  | p :: l => ((p.1 < c ∧ hget H p.1 = some p.2 ∧ okO c p.2 = true) ∨ (p.1 = c ∧ hget H b = some p.2 ∧ ∃ cs, p.2 = .cells cs ∧ okL c cs = true)) ∧ renH H c b l
theorem St.ren.of {S' S : St} {c b : Nat} (hnx : S'.nx = c + 1) (hcb : c ≤ b) (h1 : renE S.env c b S'.env) (h2 : renH S.H c b S'.H) : St.ren c b S' S := by
  refine ⟨hnx, hcb, fun t => ?_, fun id o ho => ?_⟩
  · generalize S'.env = l at h1 ⊢
    induction l with
    | nil => exact .inl rfl
    | cons p l ih =>
      obtain ⟨k, v⟩ := p
      by_cases e : k = t
      · subst e
        have : elook ((k, v) :: l) k = v := by simp [elook]
        rw [this]
        rcases h1.1 with ⟨h, hok⟩ | ⟨off, len, esz, e1, e2⟩
        · exact .inr (.inl ⟨h.symm, hok⟩)
        · exact .inr (.inr ⟨off, len, esz, e1, e2⟩)
      · have : elook ((k, v) :: l) t = elook l t := by simp [elook, e]
        rw [this]
        exact ih h1.2
  · generalize S'.H = l at h2 ho
    induction l with
    | nil => simp [hget] at ho
    | cons p l ih =>
      obtain ⟨k, v⟩ := p
      by_cases e : k = id
      · subst e; simp [hget] at ho; subst ho; exact h2.1
      · simp only [hget, if_neg e] at ho; exact ih h2.2 ho
theorem Wk.trans {A B C : St} (h : Wk g A B) (k : Wk g B C) : Wk g A C := fun κ a w hr => by
  obtain ⟨κ', h1⟩ := k κ a w hr
  exact h κ' a w h1
theorem envLe {n : Nat} {env env' : Env} (h : leE env n env') (t : Nat) : elook env' t = .any ∨ elook env' t = elook env t := by
  induction env' with
  | nil => exact .inl rfl
  | cons p l ih =>
    obtain ⟨k, v⟩ := p
    by_cases e : k = t
    · subst e; right; rw [h.1]; simp [elook]
    · have : elook ((k, v) :: l) t = elook l t := by simp [elook, e]
      rw [this]; exact ih h.2.2
/-- Of a loop's record less is known. -/
theorem Wk.loopEnv {id n : Nat} {L : ALoop} (env' : Env) (hL : hget S.H id = some (.loop L)) (hle : leE L.env n env') : Wk g ⟨S.env, hset S.H id (.loop { L with env := env' }), S.nx⟩ S := fun κ a w h => by
  have hh : ∀ j, hget (hset S.H id (.loop { L with env := env' })) j = if id = j then some (.loop { L with env := env' }) else hget S.H j := fun j => hget_hset _ _ _ _
  have hown : ∀ x, owned κ (hset S.H id (.loop { L with env := env' })) x ↔ owned κ S.H x := fun x => by
    constructor
    · rintro ⟨j, o, ho, hx⟩
      rw [hh] at ho
      by_cases e : id = j
      · subst e; exact ⟨id, _, hL, hx⟩
      · rw [if_neg e] at ho; exact ⟨j, o, ho, hx⟩
    · rintro ⟨j, o, ho, hx⟩
      by_cases e : id = j
      · subst e; exact ⟨id, .loop { L with env := env' }, by rw [hh, if_pos rfl], hx⟩
      · exact ⟨j, o, by rw [hh, if_neg e]; exact ho, hx⟩
  have hav : avoid κ g.N (hset S.H id (.loop { L with env := env' })) = avoid κ g.N S.H := by
    funext x; unfold avoid; rw [propext (hown x)]
  refine ⟨κ, ⟨⟨fun j o ho => ?_, fun i j x o o' hi hj hx hx' => ?_, h.h.bd, h.h.Nbd, fun x hx ho => h.h.NH x hx ((hown x).1 ho)⟩, fun j hj => ⟨(h.fresh j hj).1, ?_⟩, h.sz, fun t => ?_, h.ext, h.wle, h.same, fun x hx => h.new x ((hown x).1 hx), ?_⟩⟩
  · rw [hav]
    rw [hh] at ho
    by_cases e : id = j
    · subst e
      rw [if_pos rfl] at ho
      cases ho
      obtain ⟨r, R, e1, e2, e3, e4, e5, e6, e7, e8, e9⟩ := h.h.rel id _ hL
      refine ⟨r, R, e1, e2, e3, e4, e5, e6, e7, e8, fun t => ?_⟩
      rcases envLe hle t with e | e
      · show VRel _ _ _ (elook env' t) _
        rw [e]; exact .any _
      · show VRel _ _ _ (elook env' t) _
        rw [e]; exact e9 t
    · rw [if_neg e] at ho; exact h.h.rel j o ho
  · have old : ∀ {j : Nat} {o : AObj}, hget (hset S.H id (.loop { L with env := env' })) j = some o → ∃ o', hget S.H j = some o' := fun {j o} ho => by
      rw [hh] at ho
      by_cases e : id = j
      · subst e; exact ⟨_, hL⟩
      · rw [if_neg e] at ho; exact ⟨_, ho⟩
    obtain ⟨p, hp⟩ := old hi
    obtain ⟨q, hq⟩ := old hj
    exact h.h.inj i j x p q hp hq hx hx'
  · rw [hh]
    by_cases e : id = j
    · subst e; have := (h.fresh id hj).2; rw [hL] at this; cases this
    · rw [if_neg e]; exact (h.fresh j hj).2
  · rw [hav]; exact h.env t
  · obtain ⟨ms, m1, m2, m3⟩ := h.defs
    exact ⟨ms, m1, m2, fun r hr => ⟨(m3 r hr).1, (m3 r hr).2.1, fun ho => (m3 r hr).2.2 ((hown r).1 ho)⟩⟩
end
end Go.Am

import Derived.Test.YticiopkiikcokaaN21
/-
  A SLICE MADE ANEW WHOSE REFERENCE LIES IN A CELL: its number is turned back there too.
-/
namespace Go.Am
section
variable {P : Program} {g : G} {S : St}
def RV (c b : Nat) (x y : AV) : Prop := x = .any ∨ (x = y ∧ x.ok c = true) ∨ ∃ off len esz, x = .rsl c off len esz ∧ y = .rsl b off len esz
/-- A state that says less, the slice of number b under number c, wherever its reference lies. -/
structure St.renC (c b : Nat) (S' S : St) : Prop where
  nx : S'.nx = c + 1
  le : c ≤ b ∨ hget S'.H b = none
  env : ∀ t, RV c b (elook S'.env t) (elook S.env t)
  heap : ∀ id o, hget S'.H id = some o → (id < c ∧ ((hget S.H id = some o ∧ okO c o = true) ∨ ∃ xs ys : List AV, o = .cells xs ∧ hget S.H id = some (.cells ys) ∧ xs.length = ys.length ∧ ∀ (i : Nat) (x : AV), xs[i]? = some x → ∃ y, ys[i]? = some y ∧ RV c b x y)) ∨
    (id = c ∧ hget S.H b = some o ∧ ∃ cs, o = .cells cs ∧ okL c cs = true)
theorem Rel.renC {κ : Nat → Option Nat} {S' : St} {a : Act} {w : World} {c b : Nat} (h : Rel g κ S a w) (hr : St.renC c b S' S) (hg : g.low c) : Rel g (fun id => if id < c then κ id else if id = c then κ b else none) S' a w := by
  obtain ⟨hnx, hcb, henv, hheap⟩ := hr
  have klt : ∀ id, id < c → (fun id => if id < c then κ id else if id = c then κ b else none) id = κ id := fun id hid => by simp [hid]
  have kc : (fun id => if id < c then κ id else if id = c then κ b else none) c = κ b := by simp
  have kgt : ∀ id, c < id → (fun id => if id < c then κ id else if id = c then κ b else none) id = none := fun id hid => by
    have h1 : ¬ id < c := by omega
    have h2 : ¬ id = c := by omega
    simp [h1, h2]
  generalize (fun id => if id < c then κ id else if id = c then κ b else none) = κ' at klt kc kgt ⊢
  have old : ∀ id o, hget S'.H id = some o → ∃ id' o', hget S.H id' = some o' ∧ κ' id = κ id' ∧ (id' = if id < c then id else b) := fun id o ho => by
    rcases hheap id o ho with ⟨h1, ⟨h2, _⟩ | ⟨xs, ys, _, h2, _⟩⟩ | ⟨rfl, h2, _⟩
    · exact ⟨id, _, h2, klt id h1, by rw [if_pos h1]⟩
    · exact ⟨id, _, h2, klt id h1, by rw [if_pos h1]⟩
    · exact ⟨b, _, h2, kc, by rw [if_neg (Nat.lt_irrefl _)]⟩
  have hle : ∀ id o, hget S'.H id = some o → id ≤ c := fun id o ho => by
    rcases hheap id o ho with ⟨h1, _⟩ | ⟨rfl, _⟩
    · omega
    · exact Nat.le_refl _
  have hown : ∀ x, owned κ' S'.H x → owned κ S.H x := fun x ⟨id, o, ho, hx⟩ => by
    obtain ⟨id', o', h1, h2, _⟩ := old id o ho
    exact ⟨id', o', h1, h2 ▸ hx⟩
  have hav : ∀ x, avoid κ' g.N S'.H x → avoid κ g.N S.H x := fun x hx => hx.imp id (hown x)
  have up : ∀ {x : AV} {v : Value}, x.ok c = true → VRel κ (avoid κ g.N S.H) w x v → VRel κ' (avoid κ' g.N S'.H) w x v := fun hok hv =>
    (hv.mono (fun _ _ h => h) (.refl w) (fun x _ hx => hav x hx) (fun _ _ _ => rfl)).low klt hok
  have upv : ∀ {x y : AV} {v : Value}, RV c b x y → VRel κ (avoid κ g.N S.H) w y v → VRel κ' (avoid κ' g.N S'.H) w x v := fun {x y v} hrv hv => by
    rcases hrv with rfl | ⟨rfl, hok⟩ | ⟨off, len, esz, rfl, rfl⟩
    · exact .any _
    · exact up hok hv
    · cases hv with
      | rsl0 _ _ _ base => exact .rsl0 c off esz base
      | rsl _ _ _ _ cap blk cc e f hk hl hb hcap => exact .rsl c off len esz cap blk cc e f (kc.trans hk) hl hb hcap
  refine ⟨⟨fun id o ho => ?_, fun i j x o o' hi hj hx hx' => ?_, fun id x hx => ?_, h.h.Nbd, fun x hx ho => h.h.NH x hx (hown x ho)⟩, fun id hid => ⟨kgt id (by omega), ?_⟩, h.sz, fun t => upv (henv t) (h.env t), fun id x hx => ?_, h.wle, h.same, fun x hx => h.new x (hown x hx), ?_⟩
  · rcases hheap id o ho with ⟨h1, ⟨h2, h3⟩ | ⟨xs, ys, rfl, h2, hlen, h3⟩⟩ | ⟨rfl, h2, cs, rfl, h3⟩
    · have hr := h.h.rel id o h2
      cases o with
      | cells cs =>
        rcases hr with ⟨e1, e2⟩ | ⟨blk, cc, e, e1, e2, e3, e4⟩
        · exact .inl ⟨e1, (klt id h1).trans e2⟩
        · refine .inr ⟨blk, cc, e, (klt id h1).trans e1, e2, e3, fun i x hx => ?_⟩
          obtain ⟨v, hv, hvr⟩ := e4 i x hx
          exact ⟨v, hv, up (okL_get h3 hx) hvr⟩
      | map es =>
        obtain ⟨r, ents, clk, e1, e2, e3, e4⟩ := hr
        refine ⟨r, ents, clk, (klt id h1).trans e1, e2, e3, fun i e he => ?_⟩
        obtain ⟨m, hm, hk, hv⟩ := e4 i e he
        exact ⟨m, hm, up (okE_get h3 he).1 hk, up (okE_get h3 he).2 hv⟩
      | loop L =>
        obtain ⟨r, R, e1, e2, e3, e4, e5, e6, e7, e8, e9⟩ := hr
        exact ⟨r, R, (klt id h1).trans e1, e2, e3, e4, e5, e6, e7, e8, fun t => up (okL_elook h3 t) (e9 t)⟩
    · rcases h.h.rel id _ h2 with ⟨e1, e2⟩ | ⟨blk, cc, e, e1, e2, e3, e4⟩
      · subst e1
        exact .inl ⟨List.eq_nil_of_length_eq_zero (by simpa using hlen), (klt id h1).trans e2⟩
      · refine .inr ⟨blk, cc, e, (klt id h1).trans e1, e2, by omega, fun i x hx => ?_⟩
        obtain ⟨y, hy, hrv⟩ := h3 i x hx
        obtain ⟨v, hv, hvr⟩ := e4 i y hy
        exact ⟨v, hv, upv hrv hvr⟩
    · rcases h.h.rel b _ h2 with ⟨e1, e2⟩ | ⟨blk, cc, e, e1, e2, e3, e4⟩
      · exact .inl ⟨e1, kc.trans e2⟩
      · refine .inr ⟨blk, cc, e, kc.trans e1, e2, e3, fun i x hx => ?_⟩
        obtain ⟨v, hv, hvr⟩ := e4 i x hx
        exact ⟨v, hv, up (okL_get h3 hx) hvr⟩
  · obtain ⟨i', p, p1, p2, p3⟩ := old i o hi
    obtain ⟨j', q, q1, q2, q3⟩ := old j o' hj
    have := h.h.inj i' j' x p q p1 q1 (p2 ▸ hx) (q2 ▸ hx')
    have l1 := hle i o hi
    have l2 := hle j o' hj
    rw [p3, q3] at this
    split at this <;> split at this
    · exact this
    · rcases hcb with hcb | hcb
      · omega
      · rw [this, hcb] at hi; cases hi
    · rcases hcb with hcb | hcb
      · omega
      · rw [← this, hcb] at hj; cases hj
    · omega
  · rcases Nat.lt_trichotomy id c with h1 | h1 | h1
    · rw [klt id h1] at hx; exact h.h.bd id x hx
    · rw [h1, kc] at hx; exact h.h.bd b x hx
    · rw [kgt id h1] at hx; cases hx
  · cases ho : hget S'.H id with
    | none => rfl
    | some o => have := hle id o ho; omega
  · rw [klt id (hg id (by rw [hx]; simp))]; exact h.ext id x hx
  · obtain ⟨ms, m1, m2, m3⟩ := h.defs
    exact ⟨ms, m1, m2, fun r hr => ⟨(m3 r hr).1, (m3 r hr).2.1, fun ho => (m3 r hr).2.2 (hown r ho)⟩⟩
theorem Wk.renC {S' : St} {c b : Nat} (h : St.renC c b S' S) (hg : g.low c) : Wk g S' S := fun _ _ _ hr => ⟨_, hr.renC h hg⟩
/-- Renaming, entry by entry. -/
def rvE (env : Env) (c b : Nat) : Env → Prop
  | [] => True
  | p :: l => RV c b p.2 (elook env p.1) ∧ rvE env c b l
def rvL (c b : Nat) : List AV → List AV → Prop
  | [], [] => True
  | x :: xs, y :: ys => RV c b x y ∧ rvL c b xs ys
  | _, _ => False
theorem rvL.get {c b : Nat} : ∀ {xs ys : List AV}, rvL c b xs ys → xs.length = ys.length ∧ ∀ (i : Nat) (x : AV), xs[i]? = some x → ∃ y, ys[i]? = some y ∧ RV c b x y := by
  intro xs
  induction xs with
  | nil =>
    intro ys h
    cases ys with
    | nil => exact ⟨rfl, fun i x hx => by simp at hx⟩
    | cons y ys => exact h.elim
  | cons x xs ih =>
    intro ys h
    cases ys with
    | nil => exact h.elim
    | cons y ys =>
      obtain ⟨h1, h2⟩ := ih h.2
      refine ⟨by simp [h1], fun i z hz => ?_⟩
      cases i with
      | zero => simp at hz; subst hz; exact ⟨y, rfl, h.1⟩
      | succ i => exact h2 i z (by simpa using hz)
/-- One object of a state that is renamed. -/
def rvO (H : AHeap) (c b id : Nat) (o : AObj) : Prop :=
  (id < c ∧ ((hget H id = some o ∧ okO c o = true) ∨ ∃ xs ys : List AV, o = .cells xs ∧ hget H id = some (.cells ys) ∧ rvL c b xs ys)) ∨ (id = c ∧ hget H b = some o ∧ ∃ cs, o = .cells cs ∧ okL c cs = true)
def rvH (H : AHeap) (c b : Nat) : AHeap → Prop
  | [] => True
  | p :: l => rvO H c b p.1 p.2 ∧ rvH H c b l
theorem rvO.same {H : AHeap} {c b id : Nat} {o : AObj} (h1 : id < c) (h2 : hget H id = some o) (h3 : okO c o = true) : rvO H c b id o := .inl ⟨h1, .inl ⟨h2, h3⟩⟩
theorem rvO.turn {H : AHeap} {c b id : Nat} {xs ys : List AV} (h1 : id < c) (h2 : hget H id = some (.cells ys)) (h3 : rvL c b xs ys) : rvO H c b id (.cells xs) := .inl ⟨h1, .inr ⟨xs, ys, rfl, h2, h3⟩⟩
theorem rvO.new {H : AHeap} {c b : Nat} {cs : List AV} (h2 : hget H b = some (.cells cs)) (h3 : okL c cs = true) : rvO H c b c (.cells cs) := .inr ⟨rfl, h2, cs, rfl, h3⟩
theorem St.renC.of {S' S : St} {c b : Nat} (hnx : S'.nx = c + 1) (hcb : c ≤ b ∨ hget S'.H b = none) (h1 : rvE S.env c b S'.env) (h2 : rvH S.H c b S'.H) : St.renC c b S' S := by
  refine ⟨hnx, hcb, fun t => ?_, fun id o ho => ?_⟩
  · generalize S'.env = l at h1 ⊢
    induction l with
    | nil => exact .inl rfl
    | cons p l ih =>
      obtain ⟨k, v⟩ := p
      by_cases e : k = t
      · subst e
        have : elook ((k, v) :: l) k = v := by simp [elook]
        rw [this]; exact h1.1
      · have : elook ((k, v) :: l) t = elook l t := by simp [elook, e]
        rw [this]; exact ih h1.2
  · generalize S'.H = l at h2 ho
    induction l with
    | nil => simp [hget] at ho
    | cons p l ih =>
      obtain ⟨k, v⟩ := p
      by_cases e : k = id
      · subst e
        simp [hget] at ho; subst ho
        rcases h2.1 with ⟨q1, q2 | ⟨xs, ys, q2, q3, q4⟩⟩ | q
        · exact .inl ⟨q1, .inl q2⟩
        · exact .inl ⟨q1, .inr ⟨xs, ys, q2, q3, q4.get.1, q4.get.2⟩⟩
        · exact .inr q
      · simp only [hget, if_neg e] at ho; exact ih h2.2 ho
theorem RV.any {c b : Nat} {y : AV} : RV c b .any y := .inl rfl
theorem RV.eq {c b : Nat} {x y : AV} (h : y = x) (hok : x.ok c = true) : RV c b x y := .inr (.inl ⟨h.symm, hok⟩)
theorem RV.rsl {c b off len esz : Nat} : RV c b (.rsl c off len esz) (.rsl b off len esz) := .inr (.inr ⟨_, _, _, rfl, rfl⟩)
/-- An empty slice in a cell may be taken as one's own. -/
theorem Wk.ownC (j i esz : Nat) {cs : List AV} (hj : hget S.H j = some (.cells cs)) (hi : cs[i]? = some .nil) : Wk g ⟨S.env, hset (hset S.H j (.cells (cs.set i (.rsl S.nx 0 0 esz)))) S.nx (.cells []), S.nx + 1⟩ S := fun κ a w h => by
  have hf := h.fresh S.nx (Nat.le_refl _)
  have hjn : j ≠ S.nx := fun e => by have := hf.2; rw [← e, hj] at this; cases this
  have hh : ∀ k, hget (hset (hset S.H j (.cells (cs.set i (.rsl S.nx 0 0 esz)))) S.nx (.cells [])) k = if S.nx = k then some (.cells []) else if j = k then some (.cells (cs.set i (.rsl S.nx 0 0 esz))) else hget S.H k := fun k => by rw [hget_hset, hget_hset]
  generalize hset (hset S.H j (.cells (cs.set i (.rsl S.nx 0 0 esz)))) S.nx (.cells []) = H' at hh ⊢
  have old : ∀ k o, hget H' k = some o → k = S.nx ∨ ∃ o', hget S.H k = some o' := fun k o ho => by
    rw [hh] at ho
    by_cases e : S.nx = k
    · exact .inl e.symm
    · rw [if_neg e] at ho
      by_cases e' : j = k
      · subst e'; exact .inr ⟨_, hj⟩
      · rw [if_neg e'] at ho; exact .inr ⟨_, ho⟩
  have hown : ∀ x, owned κ H' x ↔ owned κ S.H x := fun x => by
    constructor
    · rintro ⟨k, o, ho, hx⟩
      rcases old k o ho with rfl | ⟨o', ho'⟩
      · rw [hf.1] at hx; cases hx
      · exact ⟨k, o', ho', hx⟩
    · rintro ⟨k, o, ho, hx⟩
      have e : ¬ S.nx = k := fun e => by subst e; rw [hf.1] at hx; cases hx
      by_cases e' : j = k
      · subst e'; exact ⟨j, _, by rw [hh, if_neg e, if_pos rfl], hx⟩
      · exact ⟨k, o, by rw [hh, if_neg e, if_neg e']; exact ho, hx⟩
  have hav : avoid κ g.N H' = avoid κ g.N S.H := by
    funext x; unfold avoid; rw [propext (hown x)]
  refine ⟨κ, ⟨⟨fun k o ho => ?_, fun k k' x o o' hk hk' hx hx' => ?_, h.h.bd, h.h.Nbd, fun x hx ho => h.h.NH x hx ((hown x).1 ho)⟩, fun k hk => ?_, h.sz, fun t => by rw [hav]; exact h.env t, h.ext, h.wle, h.same, fun x hx => h.new x ((hown x).1 hx), ?_⟩⟩
  · rw [hav]
    have ho0 := ho
    rw [hh] at ho
    by_cases e : S.nx = k
    · subst e; rw [if_pos rfl] at ho; cases ho; exact .inl ⟨rfl, hf.1⟩
    · rw [if_neg e] at ho
      by_cases e' : j = k
      · subst e'; rw [if_pos rfl] at ho; cases ho
        rcases h.h.rel j _ hj with ⟨e1, e2⟩ | ⟨blk, cc, e, e1, e2, e3, e4⟩
        · rw [e1] at hi; simp at hi
        · refine .inr ⟨blk, cc, e, e1, e2, by simpa using e3, fun k x hx => ?_⟩
          by_cases ek : i = k
          · subst ek
            obtain ⟨v, hv, hvr⟩ := e4 i _ hi
            have hx' : x = .rsl S.nx 0 0 esz := by
              obtain ⟨hlt, _⟩ := List.getElem?_eq_some_iff.1 hi
              rw [List.getElem?_set_self hlt] at hx; cases hx; rfl
            subst hx'
            refine ⟨v, hv, ?_⟩
            cases hvr
            exact .rsl0 _ _ _ _
          · rw [List.getElem?_set_ne ek] at hx
            exact e4 k x hx
      · rw [if_neg e'] at ho; exact h.h.rel k o ho
  · rcases old k o hk with rfl | ⟨p, hp⟩
    · rw [hf.1] at hx; cases hx
    · rcases old k' o' hk' with rfl | ⟨q, hq⟩
      · rw [hf.1] at hx'; cases hx'
      · exact h.h.inj k k' x p q hp hq hx hx'
  · have hk' : S.nx + 1 ≤ k := hk
    refine ⟨(h.fresh k (by omega)).1, ?_⟩
    show hget H' k = none
    have e1 : ¬ S.nx = k := by omega
    have e2 : ¬ j = k := fun e => by have := (h.fresh k (by omega)).2; rw [← e, hj] at this; cases this
    rw [hh, if_neg e1, if_neg e2]; exact (h.fresh k (by omega)).2
  · obtain ⟨ms, m1, m2, m3⟩ := h.defs
    exact ⟨ms, m1, m2, fun r hr => ⟨(m3 r hr).1, (m3 r hr).2.1, fun ho => (m3 r hr).2.2 ((hown r).1 ho)⟩⟩
end
end Go.Am

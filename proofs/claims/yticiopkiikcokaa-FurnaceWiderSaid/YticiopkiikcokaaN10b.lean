import Derived.Test.YticiopkiikcokaaN10
/-
  WHAT AN ACTIVATION OWNS, LENT TO A FUNCTION THAT ONLY COMPUTES: numbers are replaced by what lies behind them ('thaw'); the numbers that were looked at are told.
-/
namespace Go.Am

def mapO (f : AV → Option (AV × List Nat)) : List AV → Option (List AV × List Nat)
  | [] => some ([], [])
  | a :: r => match f a, mapO f r with
    | some (a', i), some (r', j) => some (a' :: r', i ++ j)
    | _, _ => none
def mapOE (f : AV → Option (AV × List Nat)) : List (AV × AV) → Option (List (AV × AV) × List Nat)
  | [] => some ([], [])
  | a :: r => match f a.1, f a.2, mapOE f r with
    | some (a', i), some (b', k), some (r', j) => some ((a', b') :: r', i ++ (k ++ j))
    | _, _, _ => none
def thaw : Nat → (Nat → Option AObj) → AV → Option (AV × List Nat)
  | 0, _, _ => none
  | n + 1, h, a =>
    if a.ok 0 = true then some (a, []) else
    match a with
    | .vptr i off => (match h i with
      | some (.cells cs) => (match mapO (thaw n h) cs with | some (cs', is) => some (.cptr (cs'.drop off), i :: is) | none => none)
      | _ => none)
    | .rsl i off len esz => (match h i with
      | some (.cells cs) => if off + len * esz ≤ cs.length then (match mapO (thaw n h) cs with | some (cs', is) => some (.lst esz (chunks esz (cs'.drop off) len), i :: is) | none => none) else none
      | _ => none)
    | .mref i => (match h i with
      | some (.map es) => (match mapOE (thaw n h) es with | some (es', is) => some (.imap es', i :: is) | none => none)
      | _ => none)
    | .fn f fs cs => (match mapO (thaw n h) fs, mapO (thaw n h) cs with | some (fs', i), some (cs', j) => some (.fn f fs' cs', i ++ j) | _, _ => none)
    | .iface t v => (thaw n h v).map fun p => (.iface t p.1, p.2)
    | .agg cs => (mapO (thaw n h) cs).map fun p => (.agg p.1, p.2)
    | .tup cs => (mapO (thaw n h) cs).map fun p => (.tup p.1, p.2)
    | _ => none
def thawL (h : Nat → Option AObj) (l : List AV) : Option (List AV × List Nat) := mapO (thaw 8 h) l

theorem mapO_spec {f : AV → Option (AV × List Nat)} : ∀ {l l' : List AV} {is : List Nat}, mapO f l = some (l', is) →
    l'.length = l.length ∧ (∀ (i : Nat) (c : AV), l'[i]? = some c → ∃ a js, l[i]? = some a ∧ f a = some (c, js) ∧ ∀ j ∈ js, j ∈ is) := by
  intro l
  induction l with
  | nil => intro l' is h; simp only [mapO, Option.some.injEq, Prod.mk.injEq] at h; obtain ⟨rfl, rfl⟩ := h; exact ⟨rfl, fun i c hi => by simp at hi⟩
  | cons a r ih =>
    intro l' is h
    simp only [mapO] at h
    split at h
    · rename_i a' i r' j h1 h2
      cases h
      obtain ⟨e1, e2⟩ := ih h2
      refine ⟨by simp [e1], fun k c hk => ?_⟩
      cases k with
      | zero => simp at hk; subst hk; exact ⟨a, i, rfl, h1, fun j hj => List.mem_append_left _ hj⟩
      | succ k =>
        obtain ⟨x, js, x1, x2, x3⟩ := e2 k c (by simpa using hk)
        exact ⟨x, js, by simpa using x1, x2, fun j hj => List.mem_append_right _ (x3 j hj)⟩
    · cases h
theorem mapO_congr {f g : AV → Option (AV × List Nat)} : ∀ {l l' : List AV} {is : List Nat}, (∀ a c js, f a = some (c, js) → (∀ j ∈ js, j ∈ is) → g a = some (c, js)) → mapO f l = some (l', is) → mapO g l = some (l', is) := by
  intro l
  induction l with
  | nil => intro l' is _ h; exact h
  | cons a r ih =>
    intro l' is hfg h
    simp only [mapO] at h ⊢
    split at h
    · rename_i a' i r' j h1 h2
      cases h
      rw [hfg a a' i h1 (fun k hk => List.mem_append_left _ hk), ih (fun a c js ha hjs => hfg a c js ha (fun k hk => List.mem_append_right _ (hjs k hk))) h2]
    · cases h
theorem mapOE_spec {f : AV → Option (AV × List Nat)} : ∀ {l l' : List (AV × AV)} {is : List Nat}, mapOE f l = some (l', is) →
    l'.length = l.length ∧ (∀ (i : Nat) (c : AV × AV), l'[i]? = some c → ∃ a js ks, l[i]? = some a ∧ f a.1 = some (c.1, js) ∧ f a.2 = some (c.2, ks)) := by
  intro l
  induction l with
  | nil => intro l' is h; simp only [mapOE, Option.some.injEq, Prod.mk.injEq] at h; obtain ⟨rfl, rfl⟩ := h; exact ⟨rfl, fun i c hi => by simp at hi⟩
  | cons a r ih =>
    intro l' is h
    simp only [mapOE] at h
    split at h
    · rename_i a' i b' k r' j h1 h2 h3
      cases h
      obtain ⟨e1, e2⟩ := ih h3
      refine ⟨by simp [e1], fun q c hq => ?_⟩
      cases q with
      | zero => simp at hq; subst hq; exact ⟨a, i, k, rfl, h1, h2⟩
      | succ q =>
        obtain ⟨x, js, ks, x1, x2, x3⟩ := e2 q c (by simpa using hq)
        exact ⟨x, js, ks, by simpa using x1, x2, x3⟩
    · cases h
theorem mapOE_congr {f g : AV → Option (AV × List Nat)} : ∀ {l l' : List (AV × AV)} {is : List Nat}, (∀ a c js, f a = some (c, js) → (∀ j ∈ js, j ∈ is) → g a = some (c, js)) → mapOE f l = some (l', is) → mapOE g l = some (l', is) := by
  intro l
  induction l with
  | nil => intro l' is _ h; exact h
  | cons a r ih =>
    intro l' is hfg h
    simp only [mapOE] at h ⊢
    split at h
    · rename_i a' i b' k r' j h1 h2 h3
      cases h
      rw [hfg _ _ _ h1 (fun q hq => List.mem_append_left _ hq), hfg _ _ _ h2 (fun q hq => List.mem_append_right _ (List.mem_append_left _ hq)),
        ih (fun a c js ha hjs => hfg a c js ha (fun k hk => List.mem_append_right _ (List.mem_append_right _ (hjs k hk)))) h3]
    · cases h

theorem okL_of {n : Nat} {l : List AV} (h : ∀ (i : Nat) c, l[i]? = some c → c.ok n = true) : okL n l = true := by
  rw [okL_eq, List.all_eq_true]
  intro c hc
  obtain ⟨i, hi⟩ := List.mem_iff_getElem?.1 hc
  exact h i c hi
theorem thaw_ok {h : Nat → Option AObj} : ∀ (n : Nat) (a c : AV) (is : List Nat), thaw n h a = some (c, is) → c.ok 0 = true := by
  intro n
  induction n with
  | zero => intro a c is ht; cases ht
  | succ n ih =>
    intro a c is ht
    have hf : ∀ {l l' : List AV} {js : List Nat}, mapO (thaw n h) l = some (l', js) → okL 0 l' = true := fun hm =>
      okL_of fun i c hc => by obtain ⟨a, ks, _, a2, _⟩ := (mapO_spec hm).2 i c hc; exact ih a c ks a2
    unfold thaw at ht
    split at ht
    · rename_i hok; cases ht; exact hok
    · rename_i hnok
      clear hnok
      cases a <;> simp only [reduceCtorEq] at ht
      case vptr i off =>
        split at ht
        · split at ht
          · cases ht; rfl
          · cases ht
        · cases ht
      case rsl i off len esz =>
        split at ht
        · split at ht
          · split at ht
            · cases ht; rfl
            · cases ht
          · cases ht
        · cases ht
      case mref i =>
        split at ht
        · split at ht
          · cases ht; rfl
          · cases ht
        · cases ht
      case fn f fs cs =>
        split at ht
        · rename_i h1 h2; cases ht; simp only [AV.ok, hf h1, hf h2, Bool.and_self]
        · cases ht
      case iface t v =>
        cases hm : thaw n h v with
        | none => rw [hm] at ht; cases ht
        | some p => rw [hm] at ht; cases ht; simp only [AV.ok]; exact ih _ _ _ hm
      case agg cs =>
        cases hm : mapO (thaw n h) cs with
        | none => rw [hm] at ht; cases ht
        | some p => rw [hm] at ht; cases ht; simp only [AV.ok]; exact hf hm
      case tup cs =>
        cases hm : mapO (thaw n h) cs with
        | none => rw [hm] at ht; cases ht
        | some p => rw [hm] at ht; cases ht; simp only [AV.ok]; exact hf hm
theorem thawL_ok0 {h : Nat → Option AObj} {l l' : List AV} {is : List Nat} (ht : thawL h l = some (l', is)) : okL 0 l' = true :=
  okL_of fun i c hc => by obtain ⟨a, ks, _, a2, _⟩ := (mapO_spec ht).2 i c hc; exact thaw_ok 8 a c ks a2
/-- What is lent depends on what was looked at alone. -/
theorem thaw_congr {h h' : Nat → Option AObj} : ∀ (n : Nat) (a c : AV) (is : List Nat), thaw n h a = some (c, is) → (∀ i ∈ is, h i = h' i) → thaw n h' a = some (c, is) := by
  intro n
  induction n with
  | zero => intro a c is ht; cases ht
  | succ n ih =>
    intro a c is ht hh
    have hf : ∀ {l l' : List AV} {js : List Nat}, mapO (thaw n h) l = some (l', js) → (∀ j ∈ js, h j = h' j) → mapO (thaw n h') l = some (l', js) :=
      fun hm hj => mapO_congr (fun a c js ha hjs => ih a c js ha fun j hj' => hj j (hjs j hj')) hm
    unfold thaw at ht ⊢
    split
    · rename_i hok; rw [if_pos hok] at ht; exact ht
    · rename_i hok
      rw [if_neg hok] at ht
      cases a <;> simp only [reduceCtorEq] at ht ⊢
      case vptr i off =>
        split at ht
        · rename_i cs hcs
          split at ht
          · rename_i cs' js hm
            cases ht
            rw [← hh i List.mem_cons_self, hcs]
            simp only []
            rw [hf hm fun j hj => hh j (List.mem_cons_of_mem _ hj)]
          · cases ht
        · cases ht
      case rsl i off len esz =>
        split at ht
        · rename_i cs hcs
          split at ht
          · rename_i hle
            split at ht
            · rename_i cs' js hm
              cases ht
              rw [← hh i List.mem_cons_self, hcs]
              simp only []
              rw [if_pos hle, hf hm fun j hj => hh j (List.mem_cons_of_mem _ hj)]
            · cases ht
          · cases ht
        · cases ht
      case mref i =>
        split at ht
        · rename_i es hes
          split at ht
          · rename_i es' js hm
            cases ht
            rw [← hh i List.mem_cons_self, hes]
            simp only []
            rw [mapOE_congr (fun a c js' ha hjs => ih a c js' ha fun j hj' => hh j (List.mem_cons_of_mem _ (hjs j hj'))) hm]
          · cases ht
        · cases ht
      case fn f fs cs =>
        split at ht
        · rename_i fs' i cs' j h1 h2
          cases ht
          rw [hf h1 fun k hk => hh k (List.mem_append_left _ hk), hf h2 fun k hk => hh k (List.mem_append_right _ hk)]
        · cases ht
      case iface t v =>
        cases hm : thaw n h v with
        | none => rw [hm] at ht; cases ht
        | some p => rw [hm] at ht; cases ht; rw [ih _ _ _ hm hh]; rfl
      case agg cs =>
        cases hm : mapO (thaw n h) cs with
        | none => rw [hm] at ht; cases ht
        | some p => rw [hm] at ht; cases ht; rw [hf hm hh]; rfl
      case tup cs =>
        cases hm : mapO (thaw n h) cs with
        | none => rw [hm] at ht; cases ht
        | some p => rw [hm] at ht; cases ht; rw [hf hm hh]; rfl

section
variable {P : Program} {N : Nat → Prop} {κ : Nat → Option Nat} {H : AHeap} {w : World}

theorem thaw_sound (hr : HRel κ N H w) : ∀ (n : Nat) (a c : AV) (is : List Nat) (v : Value), thaw n (hget H) a = some (c, is) → VRel κ (avoid κ N H) w a v → VRel nok N w c v := by
  intro n
  induction n with
  | zero => intro a c is v ht; cases ht
  | succ n ih =>
    intro a c is v ht hv
    unfold thaw at ht
    split at ht
    · rename_i hok
      cases ht
      exact (hv.low (κ' := nok) (nx' := 0) (fun id hid => absurd hid (Nat.not_lt_zero _)) hok).mono (fun _ _ h => h) (.refl w) (fun b _ hb => .inl hb) (fun _ _ _ => rfl)
    · rename_i hnok
      clear hnok
      have cells : ∀ {l l' : List AV} {js : List Nat} {u : Nat → Value}, mapO (thaw n (hget H)) l = some (l', js) → (∀ (i : Nat) (x : AV), l[i]? = some x → VRel κ (avoid κ N H) w x (u i)) →
          l'.length = l.length ∧ ∀ (i : Nat) (x : AV), l'[i]? = some x → (∃ y, l[i]? = some y) ∧ VRel nok N w x (u i) := by
        intro l l' js u hm hu
        obtain ⟨h1, h2⟩ := mapO_spec hm
        exact ⟨h1, fun i x hx => by obtain ⟨y, ks, y1, y2, _⟩ := h2 i x hx; exact ⟨⟨y, y1⟩, ih y x ks (u i) y2 (hu i y y1)⟩⟩
      cases a <;> simp only [reduceCtorEq] at ht
      case vptr i off =>
        split at ht
        · rename_i cs hcs
          split at ht
          · rename_i cs' js hm
            cases ht
            cases hv with
            | vptr _ _ blk hk =>
              have hcells := owned_cells hr hcs hk (off := 0)
              obtain ⟨h1, h2⟩ := mapO_spec hm
              have hown : ¬ N blk := fun hN => hr.NH blk hN ⟨i, _, hcs, hk⟩
              refine .cptr _ ⟨blk, off, none⟩ (fun j => (w.cell? ((⟨blk, off, none⟩ : Addr).add j)).getD default) (fun j c hj => ?_) (fun j c hj => ?_)
              all_goals
                rw [List.getElem?_drop] at hj
                obtain ⟨y, ks, y1, y2, _⟩ := h2 _ c hj
                obtain ⟨u, hu, hur⟩ := hcells (off + j) y (by simpa using y1)
                have e : (⟨blk, off, none⟩ : Addr).add j = (⟨blk, 0, none⟩ : Addr).add (off + j) := by unfold Addr.add; split <;> split <;> simp_all
              · exact ⟨hown, by rw [e, hu]; rfl⟩
              · rw [e, hu]; exact ih y c ks u y2 hur
          · cases ht
        · cases ht
      case rsl i off len esz =>
        split at ht
        · rename_i cs hcs
          split at ht
          · rename_i hle
            split at ht
            · rename_i cs' js hm
              cases ht
              obtain ⟨h1, h2⟩ := mapO_spec hm
              cases hv with
              | rsl0 _ _ _ base =>
                have : VRel nok N w (.lst esz []) (.slice base ([] : List (List AV)).length 0) := .lst esz [] base 0 (fun _ _ => default) (fun _ => rfl) (Nat.le_refl _) (fun i x hx => by simp at hx) (fun i x hx => by simp at hx)
                exact this
              | rsl _ _ _ _ cap blk c e f hk hl hb hcap =>
                have hcells := owned_cells hr hcs hk (off := 0)
                have hown : ¬ N blk := fun hN => hr.NH blk hN ⟨i, _, hcs, hk⟩
                have hlen := chunks_length esz len (cs'.drop off)
                have key : ∀ i x, (chunks esz (cs'.drop off) len)[i]? = some x → ∀ j c, x[j]? = some c → ∃ u, w.cell? ((⟨blk, off, none⟩ : Addr).add (i * esz + j)) = some u ∧ VRel nok N w c u := by
                  intro i x hx j c hj
                  obtain ⟨hi, rfl⟩ := chunks_get _ _ _ _ _ hx
                  rw [List.getElem?_take] at hj
                  split at hj
                  · rw [List.getElem?_drop, List.getElem?_drop] at hj
                    obtain ⟨y, ks, y1, y2, _⟩ := h2 _ c hj
                    obtain ⟨u, hu, hur⟩ := hcells (off + (i * esz + j)) y (by simpa using y1)
                    have e : (⟨blk, off, none⟩ : Addr).add (i * esz + j) = (⟨blk, 0, none⟩ : Addr).add (off + (i * esz + j)) := by unfold Addr.add; split <;> split <;> simp_all
                    exact ⟨u, by rw [e]; exact hu, ih y c ks u y2 hur⟩
                  · cases hj
                have : VRel nok N w (.lst esz (chunks esz (cs'.drop off) len)) (.slice (some ⟨blk, off, none⟩) (chunks esz (cs'.drop off) len).length cap) := by
                  refine .lst _ _ _ _ (fun i j => (w.cell? ((⟨blk, off, none⟩ : Addr).add (i * esz + j))).getD default) (fun h => by cases h) (by omega) (fun i x hx j c hj => ?_) (fun i x hx j c hj => ?_)
                  all_goals obtain ⟨u, hu, hur⟩ := key i x hx j c hj
                  · exact ⟨_, rfl, hown, by rw [hu]; rfl⟩
                  · simp only [hu, Option.getD_some]; exact hur
                rw [hlen] at this
                exact this
            · cases ht
          · cases ht
        · cases ht
      case mref i =>
        split at ht
        · rename_i es hes
          split at ht
          · rename_i es' js hm
            cases ht
            obtain ⟨h1, h2⟩ := mapOE_spec hm
            cases hv with
            | mref _ r hk =>
              obtain ⟨r', ents, clk, g1, g2, g3, g4⟩ := hr.rel _ _ hes
              rw [hk] at g1; cases g1
              have hown : ¬ N r := fun hN => hr.NH r hN ⟨i, _, hes, hk⟩
              refine .imap es' r ents clk (fun j => ((ents[j]?).map (·.key)).getD default) (fun j => ((ents[j]?).map (·.val)).getD default) hown g2 (by omega) (fun j e he => ?_) (fun j e he => ?_) (fun j e he => ?_)
              all_goals
                obtain ⟨x, ks, ls, x1, x2, x3⟩ := h2 j e he
                obtain ⟨m, m1, m2, m3⟩ := g4 j x x1
              · exact ⟨m, m1, by simp [m1], by simp [m1]⟩
              · simp only [m1, Option.map_some, Option.getD_some]; exact ih _ _ _ _ x2 m2
              · simp only [m1, Option.map_some, Option.getD_some]; exact ih _ _ _ _ x3 m3
          · cases ht
        · cases ht
      case fn f fs cs =>
        split at ht
        · rename_i fs' i cs' j h1 h2
          cases ht
          cases hv with
          | fn _ _ _ vs us uf uc hlf hlc hf hc hvf hvc =>
            obtain ⟨e1, e2⟩ := cells h1 hvf
            obtain ⟨e3, e4⟩ := cells h2 hvc
            refine .fn _ _ _ vs us uf uc (by omega) (by omega) (fun i c hi => ?_) (fun i c hi => ?_) (fun i c hi => (e2 i c hi).2) (fun i c hi => (e4 i c hi).2)
            · obtain ⟨⟨y, hy⟩, _⟩ := e2 i c hi; exact hf i y hy
            · obtain ⟨⟨y, hy⟩, _⟩ := e4 i c hi; exact hc i y hy
        · cases ht
      case iface t v' =>
        cases hm : thaw n (hget H) v' with
        | none => rw [hm] at ht; cases ht
        | some p =>
          rw [hm] at ht; cases ht
          cases hv with
          | iface _ _ x hx => exact .iface _ _ x (ih _ _ _ _ hm hx)
      case agg cs =>
        cases hm : mapO (thaw n (hget H)) cs with
        | none => rw [hm] at ht; cases ht
        | some p =>
          rw [hm] at ht; cases ht
          cases hv with
          | agg _ vs u hl hu hvv =>
            obtain ⟨h1, h2⟩ := cells hm hvv
            exact .agg _ vs u (by omega) (fun i c hi => by obtain ⟨⟨y, hy⟩, _⟩ := h2 i c hi; exact hu i y hy) (fun i c hi => (h2 i c hi).2)
      case tup cs =>
        cases hm : mapO (thaw n (hget H)) cs with
        | none => rw [hm] at ht; cases ht
        | some p =>
          rw [hm] at ht; cases ht
          cases hv with
          | tup _ vs u hl hu hvv =>
            obtain ⟨h1, h2⟩ := cells hm hvv
            exact .tup _ vs u (by omega) (fun i c hi => by obtain ⟨⟨y, hy⟩, _⟩ := h2 i c hi; exact hu i y hy) (fun i c hi => (h2 i c hi).2)

theorem thawL_sound (hr : HRel κ N H w) {l l' : List AV} {is : List Nat} {vs : Array Value} (h : thawL (hget H) l = some (l', is)) (hc : CRel κ (avoid κ N H) w l vs) : CRel κ N w l' vs := by
  obtain ⟨h1, h2⟩ := mapO_spec h
  refine ⟨by rw [hc.1, h1], fun i c hi => ?_⟩
  obtain ⟨a, js, a1, a2, _⟩ := h2 i c hi
  obtain ⟨u, hu, hur⟩ := hc.2 i a a1
  exact ⟨u, hu, (thaw_sound hr 8 a c js u a2 hur).up⟩
theorem thawL_congr {h h' : Nat → Option AObj} {l l' : List AV} {is : List Nat} (ht : thawL h l = some (l', is)) (hh : ∀ i ∈ is, h i = h' i) : thawL h' l = some (l', is) :=
  mapO_congr (fun a c js ha hjs => thaw_congr 8 a c js ha fun j hj => hh j (hjs j hj)) ht

mutual
/-- No memory is behind it. -/
def AV.flat : AV → Bool
  | .lst _ _ => false
  | .cptr _ => false
  | .imap _ => false
  | .vptr _ _ => false
  | .rsl _ _ _ _ => false
  | .mref _ => false
  | .yld _ => false
  | .fn _ fs cs => flatL fs && flatL cs
  | .iface _ v => v.flat
  | .agg cs => flatL cs
  | .tup cs => flatL cs
  | _ => true
termination_by structural a => a
def flatL : List AV → Bool
  | [] => true
  | a :: r => a.flat && flatL r
termination_by structural a => a
end
theorem flatL_get {l : List AV} (h : flatL l = true) {i : Nat} {c : AV} (hc : l[i]? = some c) : c.flat = true := by
  induction l generalizing i with
  | nil => simp at hc
  | cons a r ih =>
    simp only [flatL, Bool.and_eq_true] at h
    cases i with
    | zero => simp at hc; subst hc; exact h.1
    | succ i => exact ih h.2 (by simpa using hc)
theorem VRel.ofFlat {κ κ' : Nat → Option Nat} {av av' : Nat → Prop} {w w' : World} {a : AV} {v : Value} (h : VRel κ av w a v) (hf : a.flat = true) : VRel κ' av' w' a v := by
  induction h with
  | any v => exact .any v
  | undef => exact .undef
  | bool b => exact .bool b
  | int k n => exact .int k n
  | str s => exact .str s
  | nil => exact .nil
  | nptr => exact .nptr
  | nmap => exact .nmap
  | nilFunc => exact .nilFunc
  | nilIface => exact .nilIface
  | fn f fs cs vs us uf uc hlf hlc hf' hc hvf hvc ihf ihc =>
    simp only [AV.flat, Bool.and_eq_true] at hf
    exact .fn f fs cs vs us uf uc hlf hlc hf' hc (fun i c h => ihf i c h (flatL_get hf.1 h)) (fun i c h => ihc i c h (flatL_get hf.2 h))
  | iface t a v h ih => simp only [AV.flat] at hf; exact .iface t a v (ih hf)
  | agg cs vs u hl hu hv ih => simp only [AV.flat] at hf; exact .agg cs vs u hl hu fun i c h => ih i c h (flatL_get hf h)
  | tup cs vs u hl hu hv ih => simp only [AV.flat] at hf; exact .tup cs vs u hl hu fun i c h => ih i c h (flatL_get hf h)
  | _ => simp [AV.flat] at hf

/-- As 'thaw', where nothing but new memory may be behind it. -/
def thawF : Nat → (Nat → Option AObj) → AV → Option (AV × List Nat)
  | 0, _, _ => none
  | n + 1, h, a =>
    if a.flat = true then some (a, []) else
    match a with
    | .vptr i off => (match h i with
      | some (.cells cs) => (match mapO (thawF n h) cs with | some (cs', is) => some (.cptr (cs'.drop off), i :: is) | none => none)
      | _ => none)
    | .rsl i off len esz => (match h i with
      | some (.cells cs) => if off + len * esz ≤ cs.length then (match mapO (thawF n h) cs with | some (cs', is) => some (.lst esz (chunks esz (cs'.drop off) len), i :: is) | none => none) else none
      | _ => none)
    | .mref i => (match h i with
      | some (.map es) => (match mapOE (thawF n h) es with | some (es', is) => some (.imap es', i :: is) | none => none)
      | _ => none)
    | .lst esz [] => some (.lst esz [], [])
    | .fn f fs cs => (match mapO (thawF n h) fs, mapO (thawF n h) cs with | some (fs', i), some (cs', j) => some (.fn f fs' cs', i ++ j) | _, _ => none)
    | .iface t v => (thawF n h v).map fun p => (.iface t p.1, p.2)
    | .agg cs => (mapO (thawF n h) cs).map fun p => (.agg p.1, p.2)
    | .tup cs => (mapO (thawF n h) cs).map fun p => (.tup p.1, p.2)
    | _ => none
theorem thawF_sound (hr : HRel κ N H w) {B : Nat} (hB : ∀ b, owned κ H b → B ≤ b) : ∀ (n : Nat) (a c : AV) (is : List Nat) (v : Value), thawF n (hget H) a = some (c, is) → VRel κ (avoid κ N H) w a v → VRel nok (fun b => b < B) w c v := by
  intro n
  induction n with
  | zero => intro a c is v ht; cases ht
  | succ n ih =>
    intro a c is v ht hv
    unfold thawF at ht
    split at ht
    · rename_i hfl
      cases ht
      exact hv.ofFlat hfl
    · rename_i hnok
      clear hnok
      have cells : ∀ {l l' : List AV} {js : List Nat} {u : Nat → Value}, mapO (thawF n (hget H)) l = some (l', js) → (∀ (i : Nat) (x : AV), l[i]? = some x → VRel κ (avoid κ N H) w x (u i)) →
          l'.length = l.length ∧ ∀ (i : Nat) (x : AV), l'[i]? = some x → (∃ y, l[i]? = some y) ∧ VRel nok (fun b => b < B) w x (u i) := by
        intro l l' js u hm hu
        obtain ⟨h1, h2⟩ := mapO_spec hm
        exact ⟨h1, fun i x hx => by obtain ⟨y, ks, y1, y2, _⟩ := h2 i x hx; exact ⟨⟨y, y1⟩, ih y x ks (u i) y2 (hu i y y1)⟩⟩
      cases a <;> simp only [reduceCtorEq] at ht
      case vptr i off =>
        split at ht
        · rename_i cs hcs
          split at ht
          · rename_i cs' js hm
            cases ht
            cases hv with
            | vptr _ _ blk hk =>
              have hcells := owned_cells hr hcs hk (off := 0)
              obtain ⟨h1, h2⟩ := mapO_spec hm
              have hown : ¬ blk < B := Nat.not_lt.2 (hB blk ⟨i, _, hcs, hk⟩)
              refine .cptr _ ⟨blk, off, none⟩ (fun j => (w.cell? ((⟨blk, off, none⟩ : Addr).add j)).getD default) (fun j c hj => ?_) (fun j c hj => ?_)
              all_goals
                rw [List.getElem?_drop] at hj
                obtain ⟨y, ks, y1, y2, _⟩ := h2 _ c hj
                obtain ⟨u, hu, hur⟩ := hcells (off + j) y (by simpa using y1)
                have e : (⟨blk, off, none⟩ : Addr).add j = (⟨blk, 0, none⟩ : Addr).add (off + j) := by unfold Addr.add; split <;> split <;> simp_all
              · exact ⟨hown, by rw [e, hu]; rfl⟩
              · rw [e, hu]; exact ih y c ks u y2 hur
          · cases ht
        · cases ht
      case rsl i off len esz =>
        split at ht
        · rename_i cs hcs
          split at ht
          · rename_i hle
            split at ht
            · rename_i cs' js hm
              cases ht
              obtain ⟨h1, h2⟩ := mapO_spec hm
              cases hv with
              | rsl0 _ _ _ base =>
                have : VRel nok (fun b => b < B) w (.lst esz []) (.slice base ([] : List (List AV)).length 0) := .lst esz [] base 0 (fun _ _ => default) (fun _ => rfl) (Nat.le_refl _) (fun i x hx => by simp at hx) (fun i x hx => by simp at hx)
                exact this
              | rsl _ _ _ _ cap blk c e f hk hl hb hcap =>
                have hcells := owned_cells hr hcs hk (off := 0)
                have hown : ¬ blk < B := Nat.not_lt.2 (hB blk ⟨i, _, hcs, hk⟩)
                have hlen := chunks_length esz len (cs'.drop off)
                have key : ∀ i x, (chunks esz (cs'.drop off) len)[i]? = some x → ∀ j c, x[j]? = some c → ∃ u, w.cell? ((⟨blk, off, none⟩ : Addr).add (i * esz + j)) = some u ∧ VRel nok (fun b => b < B) w c u := by
                  intro i x hx j c hj
                  obtain ⟨hi, rfl⟩ := chunks_get _ _ _ _ _ hx
                  rw [List.getElem?_take] at hj
                  split at hj
                  · rw [List.getElem?_drop, List.getElem?_drop] at hj
                    obtain ⟨y, ks, y1, y2, _⟩ := h2 _ c hj
                    obtain ⟨u, hu, hur⟩ := hcells (off + (i * esz + j)) y (by simpa using y1)
                    have e : (⟨blk, off, none⟩ : Addr).add (i * esz + j) = (⟨blk, 0, none⟩ : Addr).add (off + (i * esz + j)) := by unfold Addr.add; split <;> split <;> simp_all
                    exact ⟨u, by rw [e]; exact hu, ih y c ks u y2 hur⟩
                  · cases hj
                have : VRel nok (fun b => b < B) w (.lst esz (chunks esz (cs'.drop off) len)) (.slice (some ⟨blk, off, none⟩) (chunks esz (cs'.drop off) len).length cap) := by
                  refine .lst _ _ _ _ (fun i j => (w.cell? ((⟨blk, off, none⟩ : Addr).add (i * esz + j))).getD default) (fun h => by cases h) (by omega) (fun i x hx j c hj => ?_) (fun i x hx j c hj => ?_)
                  all_goals obtain ⟨u, hu, hur⟩ := key i x hx j c hj
                  · exact ⟨_, rfl, hown, by rw [hu]; rfl⟩
                  · simp only [hu, Option.getD_some]; exact hur
                rw [hlen] at this
                exact this
            · cases ht
          · cases ht
        · cases ht
      case mref i =>
        split at ht
        · rename_i es hes
          split at ht
          · rename_i es' js hm
            cases ht
            obtain ⟨h1, h2⟩ := mapOE_spec hm
            cases hv with
            | mref _ r hk =>
              obtain ⟨r', ents, clk, g1, g2, g3, g4⟩ := hr.rel _ _ hes
              rw [hk] at g1; cases g1
              have hown : ¬ r < B := Nat.not_lt.2 (hB r ⟨i, _, hes, hk⟩)
              refine .imap es' r ents clk (fun j => ((ents[j]?).map (·.key)).getD default) (fun j => ((ents[j]?).map (·.val)).getD default) hown g2 (by omega) (fun j e he => ?_) (fun j e he => ?_) (fun j e he => ?_)
              all_goals
                obtain ⟨x, ks, ls, x1, x2, x3⟩ := h2 j e he
                obtain ⟨m, m1, m2, m3⟩ := g4 j x x1
              · exact ⟨m, m1, by simp [m1], by simp [m1]⟩
              · simp only [m1, Option.map_some, Option.getD_some]; exact ih _ _ _ _ x2 m2
              · simp only [m1, Option.map_some, Option.getD_some]; exact ih _ _ _ _ x3 m3
          · cases ht
        · cases ht
      case lst esz xs =>
        cases xs with
        | cons x xs => cases ht
        | nil =>
          cases ht
          cases hv with
          | lst _ _ base cap u hb hl hc hvv => exact .lst _ _ base cap u hb hl (fun i x hx => by simp at hx) (fun i x hx => by simp at hx)
      case fn f fs cs =>
        split at ht
        · rename_i fs' i cs' j h1 h2
          cases ht
          cases hv with
          | fn _ _ _ vs us uf uc hlf hlc hf hc hvf hvc =>
            obtain ⟨e1, e2⟩ := cells h1 hvf
            obtain ⟨e3, e4⟩ := cells h2 hvc
            refine .fn _ _ _ vs us uf uc (by omega) (by omega) (fun i c hi => ?_) (fun i c hi => ?_) (fun i c hi => (e2 i c hi).2) (fun i c hi => (e4 i c hi).2)
            · obtain ⟨⟨y, hy⟩, _⟩ := e2 i c hi; exact hf i y hy
            · obtain ⟨⟨y, hy⟩, _⟩ := e4 i c hi; exact hc i y hy
        · cases ht
      case iface t v' =>
        cases hm : thawF n (hget H) v' with
        | none => rw [hm] at ht; cases ht
        | some p =>
          rw [hm] at ht; cases ht
          cases hv with
          | iface _ _ x hx => exact .iface _ _ x (ih _ _ _ _ hm hx)
      case agg cs =>
        cases hm : mapO (thawF n (hget H)) cs with
        | none => rw [hm] at ht; cases ht
        | some p =>
          rw [hm] at ht; cases ht
          cases hv with
          | agg _ vs u hl hu hvv =>
            obtain ⟨h1, h2⟩ := cells hm hvv
            exact .agg _ vs u (by omega) (fun i c hi => by obtain ⟨⟨y, hy⟩, _⟩ := h2 i c hi; exact hu i y hy) (fun i c hi => (h2 i c hi).2)
      case tup cs =>
        cases hm : mapO (thawF n (hget H)) cs with
        | none => rw [hm] at ht; cases ht
        | some p =>
          rw [hm] at ht; cases ht
          cases hv with
          | tup _ vs u hl hu hvv =>
            obtain ⟨h1, h2⟩ := cells hm hvv
            exact .tup _ vs u (by omega) (fun i c hi => by obtain ⟨⟨y, hy⟩, _⟩ := h2 i c hi; exact hu i y hy) (fun i c hi => (h2 i c hi).2)


mutual
theorem flat_ok : ∀ {a : AV}, a.flat = true → a.ok 0 = true
  | .fn _ fs cs, h => by simp only [AV.flat, Bool.and_eq_true] at h; simp only [AV.ok, flatL_ok h.1, flatL_ok h.2, Bool.and_self]
  | .iface _ v, h => by simp only [AV.flat] at h; simp only [AV.ok]; exact flat_ok h
  | .agg cs, h => by simp only [AV.flat] at h; simp only [AV.ok]; exact flatL_ok h
  | .tup cs, h => by simp only [AV.flat] at h; simp only [AV.ok]; exact flatL_ok h
  | .lst _ _, h => rfl
  | .cptr _, h => rfl
  | .imap _, h => rfl
  | .any, _ => rfl
  | .undef, _ => rfl
  | .bool _, _ => rfl
  | .int _ _, _ => rfl
  | .str _, _ => rfl
  | .nil, _ => rfl
  | .nptr, _ => rfl
  | .nmap, _ => rfl
  | .nilFunc, _ => rfl
  | .nilIface, _ => rfl
  | .vptr _ _, h => by simp [AV.flat] at h
  | .rsl _ _ _ _, h => by simp [AV.flat] at h
  | .mref _, h => by simp [AV.flat] at h
  | .yld _, h => by simp [AV.flat] at h
theorem flatL_ok : ∀ {l : List AV}, flatL l = true → okL 0 l = true
  | [], _ => rfl
  | a :: r, h => by simp only [flatL, Bool.and_eq_true] at h; simp only [okL, flat_ok h.1, flatL_ok h.2, Bool.and_self]
end
theorem thawF_ok {h : Nat → Option AObj} : ∀ (n : Nat) (a c : AV) (is : List Nat), thawF n h a = some (c, is) → c.ok 0 = true := by
  intro n
  induction n with
  | zero => intro a c is ht; cases ht
  | succ n ih =>
    intro a c is ht
    have hf : ∀ {l l' : List AV} {js : List Nat}, mapO (thawF n h) l = some (l', js) → okL 0 l' = true := fun hm =>
      okL_of fun i c hc => by obtain ⟨a, ks, _, a2, _⟩ := (mapO_spec hm).2 i c hc; exact ih a c ks a2
    unfold thawF at ht
    split at ht
    · rename_i hok; cases ht; exact flat_ok hok
    · rename_i hnok
      clear hnok
      cases a <;> simp only [reduceCtorEq] at ht
      case vptr i off =>
        split at ht
        · split at ht
          · cases ht; rfl
          · cases ht
        · cases ht
      case rsl i off len esz =>
        split at ht
        · split at ht
          · split at ht
            · cases ht; rfl
            · cases ht
          · cases ht
        · cases ht
      case mref i =>
        split at ht
        · split at ht
          · cases ht; rfl
          · cases ht
        · cases ht
      case lst esz xs =>
        cases xs with
        | nil => cases ht; rfl
        | cons x xs => cases ht
      case fn f fs cs =>
        split at ht
        · rename_i h1 h2; cases ht; simp only [AV.ok, hf h1, hf h2, Bool.and_self]
        · cases ht
      case iface t v =>
        cases hm : thawF n h v with
        | none => rw [hm] at ht; cases ht
        | some p => rw [hm] at ht; cases ht; simp only [AV.ok]; exact ih _ _ _ hm
      case agg cs =>
        cases hm : mapO (thawF n h) cs with
        | none => rw [hm] at ht; cases ht
        | some p => rw [hm] at ht; cases ht; simp only [AV.ok]; exact hf hm
      case tup cs =>
        cases hm : mapO (thawF n h) cs with
        | none => rw [hm] at ht; cases ht
        | some p => rw [hm] at ht; cases ht; simp only [AV.ok]; exact hf hm
/-- A FUNCTION THAT ONLY COMPUTES, and whose result lies in new memory. -/
def APureF (P : Program) (f : FuncId) (args : List AV) (r : AV) : Prop :=
  ∀ (κ : Nat → Option Nat) (N : Nat → Prop) (w : World) (cargs : Array Value), (∀ b, N b → b < w.heap.size) → CRel κ N w args cargs → Calls P f cargs w fun e w' =>
    ∃ v, e = .returned v ∧ Wle w w' ∧ (∀ b, b < w.heap.size → w'.heap[b]? = w.heap[b]?) ∧ VRel κ (fun b => b < w.heap.size) w' r v

/-- A function that only computes is lent what is owned. -/
def Lent (P : Program) (h : Nat → Option AObj) (f : FuncId) (args : List AV) (r : AV) (is : List Nat) : Prop :=
  ∃ args', thawL h args = some (args', is) ∧ ((APure P f args' r ∧ (is = [] ∧ args' = args ∨ r.flat = true)) ∨ APureF P f args' r)

theorem Lent.calls (hr : HRel κ N H w) {f : FuncId} {args : List AV} {r : AV} {is : List Nat} (hl : Lent P (hget H) f args r is) {cargs : Array Value} (hc : CRel κ (avoid κ N H) w args cargs) :
    Calls P f cargs w fun e w' => ∃ v, e = .returned v ∧ Wle w w' ∧ (∀ b, b < w.heap.size → w'.heap[b]? = w.heap[b]?) ∧ VRel κ (avoid κ N H) w' r v := by
  obtain ⟨args', ht, hl⟩ := hl
  rcases hl with ⟨hp, ⟨rfl, rfl⟩ | hf⟩ | hp
  · refine (hp κ (avoid κ N H) w cargs ?_ hc).mono ?_
    · rintro b (hb | ⟨id, o, _, hb⟩)
      · exact hr.Nbd b hb
      · exact hr.bd id b hb
    · rintro e w' ⟨v, h1, h2, h3, h4⟩
      exact ⟨v, h1, h2, h3, h4⟩
  · refine (hp κ N w cargs hr.Nbd (thawL_sound hr ht hc)).mono ?_
    rintro e w' ⟨v, h1, h2, h3, h4⟩
    exact ⟨v, h1, h2, h3, h4.ofFlat hf⟩
  · refine (hp κ N w cargs hr.Nbd (thawL_sound hr ht hc)).mono ?_
    rintro e w' ⟨v, h1, h2, h3, h4⟩
    refine ⟨v, h1, h2, h3, h4.mono (fun _ _ h => h) (.refl _) (fun b _ hb => ?_) (fun _ _ _ => rfl)⟩
    rcases hb with hb | ⟨id, o, _, hb⟩
    · exact hr.Nbd b hb
    · exact hr.bd id b hb

theorem Step.still (hr : HRel κ N H w) {w' : World} (hle : Wle w w') (hs : ∀ b, b < w.heap.size → w'.heap[b]? = w.heap[b]?) : Step N κ H w κ H w' :=
  .mk' hr (fun _ _ h => h) hle (fun b hb _ => hs b hb) (fun _b hb => .inl hb) (fun id b hb => Nat.lt_of_lt_of_le (hr.bd id b hb) hle.1) hr.inj
      (fun id _o ho => .inl ⟨ho, fun h => h, fun b hb => hs b (hr.bd id b hb)⟩)

theorem CallOk.lent {g : G} {f : FuncId} {args : List AV} {r : AV} {is : List Nat} {S : St} (hl : Lent P (hget S.H) f args r is) {K : AV → St → Prop} (hk : K r S) : CallOk P g f args S K := by
  intro κ a w cargs hr hc
  refine (hl.calls hr.h hc).mono ?_
  rintro e w' ⟨v, rfl, hle, hs, hv⟩
  exact ⟨κ, S.H, S.nx, r, v, rfl, .still hr.h hle hs, hr.fresh, hv, hk⟩

theorem Lent.congr {h h' : Nat → Option AObj} {f : FuncId} {args : List AV} {r : AV} {is : List Nat} (hl : Lent P h f args r is) (hh : ∀ i ∈ is, h i = h' i) : Lent P h' f args r is := by
  obtain ⟨args', ht, hp⟩ := hl
  exact ⟨args', thawL_congr ht hh, hp⟩
end
end Go.Am

/-
  'aval' IS FOLLOWED BY THE MODEL's RUN: built-in functions, slices of slices.
-/
import Derived.Test.YtjoagmjijbfjkaaGreatDoorAm7
namespace Go.Am

section
variable {P : Program} {N : Nat → Prop} {κ : Nat → Option Nat} {H : AHeap} {w : World} {id : Nat}

theorem mapElem {t : TypeId} {T : TI} (hT : tinfo P t = some T) {k v : TypeId} (hs : T.td = .map k v) : P.underlying t = some (.map k v) := by
  obtain ⟨d, i, z, hd, hi, hz, rfl⟩ := tinfo_spec hT
  cases d with
  | map a b => simp [tdOf] at hs; rw [hd]; simp [hs]
  | _ => simp [tdOf] at hs
theorem strType {t : TypeId} {T : TI} (hT : tinfo P t = some T) (hs : T.td = .str) : P.underlying t = some .string := by
  obtain ⟨d, i, z, hd, hi, hz, rfl⟩ := tinfo_spec hT
  cases d <;> simp [tdOf] at hs
  exact hd

theorem sound_len {ts : Array TypeId} {t ty : TypeId} {x y : AV} {a : Value} (hts : ts[0]? = some t) (hr : HRel κ N H w) (hx : VRel κ (avoid κ N H) w x a) (h : aLen P (hget H) t x = some y) :
    Sound P (do pure (.value (← Builtin.len_ ts ty #[a]))) N κ H w ⟨y, []⟩ id := by
  refine .same hr ?_
  unfold aLen at h
  split at h
  · rename_i T hT
    split at h
    all_goals try (rename_i hk; cases h)
    · cases hx; exact ⟨_, by simp [Builtin.len_, hts, underlying, strType hT hk, goInt], .int _ _⟩
    · exact ⟨_, by simp [Builtin.len_, hts, underlying, arrElem hT hk, goInt], .int _ _⟩
    · cases hx; exact ⟨_, by simp [Builtin.len_, hts, underlying, sliceElem hT hk, goInt], .int _ _⟩
    · cases hx; exact ⟨_, by simp [Builtin.len_, hts, underlying, sliceElem hT hk, goInt], .int _ _⟩
    · cases hx <;> exact ⟨_, by simp [Builtin.len_, hts, underlying, sliceElem hT hk, goInt], .int _ _⟩
    · cases hx; exact ⟨_, by simp [Builtin.len_, hts, underlying, mapElem hT hk, goInt], .int _ _⟩
    · cases hx with
      | imap _ r ents clk uk uv hav hrr hsz hu hkv hvv hB =>
        refine ⟨.int .i64 ents.size, ?_, by rw [hsz]; exact .int _ _⟩
        simp [Builtin.len_, hts, underlying, mapElem hT hk, goInt, getObj, Sem.run, hrr]
    · rename_i hk
      split at h
      · rename_i es hi
        cases h
        obtain ⟨r, ents, clk, h1, h2, h3, _⟩ := hr.rel _ _ hi
        cases hx with
        | mref _ r' hk' =>
          rw [h1] at hk'; cases hk'
          refine ⟨.int .i64 ents.size, ?_, by rw [h3]; exact .int _ _⟩
          simp [Builtin.len_, hts, underlying, mapElem hT hk, goInt, getObj, Sem.run, h2]
      · cases h
  · cases h

theorem sound_min {ts : Array TypeId} {ty : TypeId} {xs : List AV} {x y : AV} {as : List Value} {a : Value} (hr : HRel κ N H w) (hx : VRel κ (avoid κ N H) w x a) (hxs : CRel κ (avoid κ N H) w xs as.toArray) (h : foldO amin2 x xs = some y) :
    Sound P (do pure (.value (← Builtin.min_ ts ty (a :: as).toArray))) N κ H w ⟨y, []⟩ id := by
  refine .same hr ?_
  simp only [Builtin.min_]
  obtain ⟨h1, h2⟩ := hxs
  clear hr
  induction xs generalizing x a as with
  | nil =>
    have : as = [] := by simpa using h1
    subst this
    simp only [foldO, Option.some.injEq] at h; subst h
    exact ⟨a, rfl, hx⟩
  | cons z zs ih =>
    cases as with
    | nil => simp at h1
    | cons b bs =>
      simp only [foldO] at h
      split at h
      · rename_i q hq
        unfold amin2 at hq
        split at hq
        · cases hq
          cases hx
          obtain ⟨u, hu, hur⟩ := h2 0 _ rfl
          simp at hu; subst hu
          cases hur
          obtain ⟨v, hv, hvr⟩ := ih (a := .int _ _) (as := bs) (.int _ _) h (by simpa using h1) (fun i c hi => by simpa using h2 (i + 1) c (by simpa using hi))
          refine ⟨v, ?_, hvr⟩
          simp only [List.foldlM_cons, Builtin.min2, Sem.run_bind, Sem.run_pure, Result.andThen_ok] at hv ⊢
          exact hv
        · cases hq
      · cases h
theorem sound_max {ts : Array TypeId} {ty : TypeId} {xs : List AV} {x y : AV} {as : List Value} {a : Value} (hr : HRel κ N H w) (hx : VRel κ (avoid κ N H) w x a) (hxs : CRel κ (avoid κ N H) w xs as.toArray) (h : foldO amax2 x xs = some y) :
    Sound P (do pure (.value (← Builtin.max_ ts ty (a :: as).toArray))) N κ H w ⟨y, []⟩ id := by
  refine .same hr ?_
  simp only [Builtin.max_]
  obtain ⟨h1, h2⟩ := hxs
  clear hr
  induction xs generalizing x a as with
  | nil =>
    have : as = [] := by simpa using h1
    subst this
    simp only [foldO, Option.some.injEq] at h; subst h
    exact ⟨a, rfl, hx⟩
  | cons z zs ih =>
    cases as with
    | nil => simp at h1
    | cons b bs =>
      simp only [foldO] at h
      split at h
      · rename_i q hq
        unfold amax2 at hq
        split at hq
        · cases hq
          cases hx
          obtain ⟨u, hu, hur⟩ := h2 0 _ rfl
          simp at hu; subst hu
          cases hur
          obtain ⟨v, hv, hvr⟩ := ih (a := .int _ _) (as := bs) (.int _ _) h (by simpa using h1) (fun i c hi => by simpa using h2 (i + 1) c (by simpa using hi))
          refine ⟨v, ?_, hvr⟩
          simp only [List.foldlM_cons, Builtin.max2, Sem.run_bind, Sem.run_pure, Result.andThen_ok] at hv ⊢
          exact hv
        · cases hq
      · cases h

/-- An object gets a new number. -/
theorem Step.rename (hr : HRel κ N H w) {i : Nat} {o : AObj} (hi : hget H i = some o) (hid : Fresh κ H id) : Step N κ H w (withNew κ id (κ i)) (hset (herase H i) id o) w := by
  have hne : id ≠ i := by intro e; subst e; rw [hid.2] at hi; cases hi
  have hg : ∀ j p, hget (hset (herase H i) id o) j = some p → (j = id ∧ p = o) ∨ (j ≠ id ∧ j ≠ i ∧ hget H j = some p) := by
    intro j p hj
    rw [hget_hset] at hj
    by_cases e : id = j
    · rw [if_pos e] at hj; cases hj; exact .inl ⟨e.symm, rfl⟩
    · rw [if_neg e, hget_herase] at hj
      by_cases e2 : i = j
      · rw [if_pos e2] at hj; cases hj
      · rw [if_neg e2] at hj; exact .inr ⟨Ne.symm e, Ne.symm e2, hj⟩
  have hown : ∀ b, owned (withNew κ id (κ i)) (hset (herase H i) id o) b → owned κ H b := by
    rintro b ⟨j, p, hj, hb⟩
    rcases hg j p hj with ⟨rfl, rfl⟩ | ⟨h1, h2, h3⟩
    · rw [withNew_new] at hb; exact ⟨i, _, hi, hb⟩
    · rw [withNew_old h1] at hb; exact ⟨j, p, h3, hb⟩
  have hav : ∀ b, avoid (withNew κ id (κ i)) N (hset (herase H i) id o) b → avoid κ N H b := fun b hb => hb.imp (fun h => h) (hown b)
  refine .mk' hr (withNew_ext hid.1) (.refl w) (fun _ _ _ => rfl) (fun b hb => .inl (hown b hb)) ?_ ?_ ?_
  · intro j b hb
    by_cases e : j = id
    · subst e; rw [withNew_new] at hb; exact hr.bd _ _ hb
    · rw [withNew_old e] at hb; exact hr.bd _ _ hb
  · intro j j' b p p' hj hj' hb hb'
    rcases hg j p hj with ⟨e1, e2⟩ | ⟨h1, h2, h3⟩ <;> rcases hg j' p' hj' with ⟨e1', e2'⟩ | ⟨h1', h2', h3'⟩
    · rw [e1, e1']
    · subst e1; rw [withNew_new] at hb; rw [withNew_old h1'] at hb'
      exact absurd (hr.inj _ _ _ _ _ hi h3' hb hb') (Ne.symm h2')
    · subst e1'; rw [withNew_new] at hb'; rw [withNew_old h1] at hb
      exact absurd (hr.inj _ _ _ _ _ h3 hi hb hb') h2
    · rw [withNew_old h1] at hb; rw [withNew_old h1'] at hb'
      exact hr.inj _ _ _ _ _ h3 h3' hb hb'
  · intro j p hj
    rcases hg j p hj with ⟨rfl, rfl⟩ | ⟨h1, h2, h3⟩
    · right
      have hv : ∀ a v, VRel κ (avoid κ N H) w a v → VRel (withNew κ j (κ i)) (avoid (withNew κ j (κ i)) N (hset (herase H i) j p)) w a v :=
        fun a v h => h.mono (withNew_ext hid.1) (.refl w) (fun b _ hb => hav b hb) (fun _ _ _ => rfl)
      have h0 := hr.rel i p hi
      cases p with
      | cells cs =>
        rcases h0 with ⟨h1, h2⟩ | ⟨blk, c, e, h1, h2, h3, h4⟩
        · exact Or.inl ⟨h1, by rw [withNew_new]; exact h2⟩
        · exact Or.inr ⟨blk, c, e, by rw [withNew_new]; exact h1, h2, h3, fun k x hk => by obtain ⟨v, hv1, hv2⟩ := h4 k x hk; exact ⟨v, hv1, hv _ _ hv2⟩⟩
      | map es =>
        obtain ⟨r, ents, clk, h1, h2, h3, hB, h4⟩ := h0
        exact ⟨r, ents, clk, by rw [withNew_new]; exact h1, h2, h3, hB, fun k e hk => by obtain ⟨m, hm1, hm2, hm3⟩ := h4 k e hk; exact ⟨m, hm1, hv _ _ hm2, hv _ _ hm3⟩⟩
      | loop L =>
        obtain ⟨r, R, h1, h2, h3⟩ := h0
        exact ⟨r, R, by rw [withNew_new]; exact h1, h2, h3.1, h3.2.1, h3.2.2.1, h3.2.2.2.1, h3.2.2.2.2.1, h3.2.2.2.2.2.1, fun t => hv _ _ (h3.2.2.2.2.2.2 t)⟩
      | iter cur left =>
        obtain ⟨r, m, ents, clk, seen, h1, h2, h3, h4, hB, h5, h6, h7⟩ := h0
        refine ⟨r, m, ents, clk, seen, by rw [withNew_new]; exact h1, h2, fun h => h3 (hav m h), h4, hB, h5, fun k e hk => ?_, fun e he => ?_⟩
        · obtain ⟨x, x1, x2, x3⟩ := h6 k e hk
          exact ⟨x, x1, hv _ _ x2, hv _ _ x3⟩
        · obtain ⟨s, x, x1, x2, x3, x4⟩ := h7 e he
          exact ⟨s, x, x1, x2, hv _ _ x3, hv _ _ x4⟩
    · exact .inl ⟨h3, fun h => by rw [withNew_old h1]; exact h, fun _ _ => rfl⟩

/-- A cell behind those that are known. -/
theorem Step.push (hr : HRel κ N H w) {blk : Nat} {cs : List AV} (ho : hget H id = some (.cells cs)) (hk : κ id = some blk) {c : Array Value} {e : TypeId} (hb : w.heap[blk]? = some (.cells c e (0, 0))) (hlt : cs.length < c.size)
    {x : AV} {v : Value} (hv : VRel κ (avoid κ N H) w x v) : Step N κ H w κ (hset H id (.cells (cs ++ [x]))) (w.setCell ⟨blk, cs.length, none⟩ v) := by
  refine .turn hr ho hk (.setCell w _ v) (fun b hb => setCell_heap_ne w _ _ _ _ hb) (by simp) _ fun up => Or.inr ⟨blk, _, e, hk, setCell_heap w _ _ v hb, by simp; omega, fun i y hy => ?_⟩
  rw [List.getElem?_append] at hy
  split at hy
  · rename_i hi
    rcases hr.rel id _ ho with ⟨h1, _⟩ | ⟨blk', c', e', h1, h2, h3, h4⟩
    · subst h1; simp at hi
    · rw [hk] at h1; cases h1
      rw [hb] at h2; cases h2
      obtain ⟨u, hu, hur⟩ := h4 i y hy
      exact ⟨u, by rw [Array.getElem?_setIfInBounds_ne (by omega)]; exact hu, up _ _ hur⟩
  · rename_i hi
    have : i = cs.length := by
      rcases Nat.lt_or_ge i (cs.length + 1) with h | h
      · omega
      · rw [List.getElem?_eq_none (by simp; omega)] at hy; cases hy
    subst this
    simp at hy; subst hy
    exact ⟨v, by rw [Array.getElem?_setIfInBounds_self_of_lt (by omega)], up _ _ hv⟩

theorem hset_self {H : AHeap} {id : Nat} {o : AObj} (h : hget H id = some o) (j : Nat) : hget (hset H id o) j = hget H j := by
  rw [hget_hset]; split
  · rename_i e; subst e; exact h.symm
  · rfl
theorem HRel.congr {H' : AHeap} (hr : HRel κ N H w) (he : ∀ j, hget H' j = hget H j) : HRel κ N H' w := by
  have hown : owned κ H' = owned κ H := by funext b; unfold owned; simp only [he]
  have hav : avoid κ N H' = avoid κ N H := by funext b; unfold avoid; rw [hown]
  exact ⟨fun i o ho => by rw [hav]; exact hr.rel i o (by rw [← he]; exact ho), fun i i' b o o' h1 h2 => hr.inj i i' b o o' (by rw [← he]; exact h1) (by rw [← he]; exact h2), hr.bd, hr.Nbd, fun b hb => by rw [hown]; exact hr.NH b hb, by rw [hav]; exact hr.gl⟩
theorem Step.self {o : AObj} (hr : HRel κ N H w) (h : hget H id = some o) : Step N κ H w κ (hset H id o) w :=
  ⟨fun _ _ h => h, .refl w, fun _ _ _ => rfl, fun b ⟨j, p, hj, hb⟩ => .inl ⟨j, p, by rw [hset_self h] at hj; exact hj, hb⟩, hr.congr (hset_self h)⟩

/-- Cells are stored behind those that are known. -/
theorem run_storeExt {blk : Nat} (hk : κ id = some blk) : ∀ (xs : List AV) (vs : List Value) (H : AHeap) (w : World) (cs : List AV) (a : Addr) (i : Nat), a.block = blk → (∀ j, a.add (i + j) = ⟨blk, cs.length + j, none⟩) → HRel κ N H w → hget H id = some (.cells cs) →
    (∃ c e, w.heap[blk]? = some (.cells c e (0, 0)) ∧ cs.length + xs.length ≤ c.size) → (∀ x ∈ xs, cellB x = true) → vs.length = xs.length →
    (∀ (j : Nat) (x : AV), xs[j]? = some x → ∃ v, vs[j]? = some v ∧ VRel κ (avoid κ N H) w x v) →
    ∃ w', (storeCells a vs i).run P w = .ok () w' ∧ Step N κ H w κ (hset H id (.cells (cs ++ xs))) w' := by
  intro xs
  induction xs with
  | nil =>
    intro vs H w cs a i _ _ hr ho _ _ hl _
    have : vs = [] := by simpa using hl
    subst this
    exact ⟨w, rfl, by rw [List.append_nil]; exact .self hr ho⟩
  | cons x xs ih =>
    intro vs H w cs a i hab hadd hr ho hb hB hl hv
    cases vs with
    | nil => simp at hl
    | cons v vs =>
      obtain ⟨c, e, hblk, hsz⟩ := hb
      simp only [List.length_cons] at hsz hl
      have hv0 : VRel κ (avoid κ N H) w x v := by obtain ⟨u, hu, h⟩ := hv 0 x rfl; simp at hu; subst hu; exact h
      have st := Step.push hr ho hk hblk (by omega) hv0
      have ha0 : a.add i = ⟨blk, cs.length, none⟩ := by simpa using hadd 0
      have hcell : ∃ u, w.cell? ⟨blk, cs.length, none⟩ = some u := by
        simp only [World.cell?, hblk]
        exact ⟨c[cs.length]'(by omega), by simp⟩
      obtain ⟨u, hu⟩ := hcell
      have hfz : w.frozen? ⟨blk, cs.length, none⟩ = false := by simp [World.frozen?, hblk]
      obtain ⟨w', h1, h2⟩ := ih vs (hset H id (.cells (cs ++ [x]))) (w.setCell ⟨blk, cs.length, none⟩ v) (cs ++ [x]) a (i + 1) hab (fun j => by
          have := hadd (j + 1); rw [show i + 1 + j = i + (j + 1) from by omega, this]; simp; omega) st.hrel
        (by rw [hget_hset, if_pos rfl]) ⟨_, e, setCell_heap w _ _ v hblk, by simp; omega⟩ (fun y hy => hB y (List.mem_cons_of_mem _ hy)) (by omega)
        (fun j y hy => by obtain ⟨u, hu, h⟩ := hv (j + 1) y (by simpa using hy); exact ⟨u, by simpa using hu, st.v h⟩)
      refine ⟨w', ?_, ?_⟩
      · simp only [storeCells, Sem.run_bind, ha0]
        rw [run_store P w _ v .plain (cellB_one hv0 (hB x List.mem_cons_self)), hu]
        simp only [hfz, Bool.false_eq_true, if_false, Result.andThen_ok]
        exact h1
      · have := st.trans h2
        rw [hset_hset, List.append_assoc] at this
        exact this


/-- The cells of a source, read off memory. -/
theorem run_srcCells (hr : HRel κ N H w) {size n : Nat} {x : AV} {a : Value} {new : List AV} (hx : VRel κ (avoid κ N H) w x a) (h : srcCells (hget H) size x = some (new, n)) :
    (Builtin.lenOf a).run P w = .ok n w ∧ ∃ vs, (Builtin.firstCells size n a).run P w = .ok vs w ∧ CRel κ (avoid κ N H) w new vs ∧ new.length = n * size := by
  unfold srcCells at h
  split at h
  · cases h; cases hx; exact ⟨rfl, #[], rfl, ⟨rfl, fun i c hi => by simp at hi⟩, by simp⟩
  · rename_i esz ys
    split at h
    · rename_i hc
      obtain ⟨rfl, hall⟩ := hc
      cases h
      have hlen : ∀ y ∈ ys, y.length = esz := fun y hy => by simpa using List.all_eq_true.1 hall y hy
      have hfl : ys.flatten.length = ys.length * esz := by
        rw [List.length_flatten]
        clear hx hall
        induction ys with
        | nil => simp
        | cons y ys ih => simp only [List.map_cons, List.sum_cons, List.length_cons, ih (fun z hz => hlen z (List.mem_cons_of_mem _ hz)), hlen y List.mem_cons_self, Nat.succ_mul]; omega
      have hget : ∀ (ys : List (List AV)), (∀ y ∈ ys, y.length = esz) → ∀ (m : Nat) (c : AV), ys.flatten[m]? = some c → ∃ x, ys[m / esz]? = some x ∧ x[m % esz]? = some c := by
        intro ys
        induction ys with
        | nil => intro _ m c hm; simp at hm
        | cons y ys ih =>
          intro hl m c hm
          have hy := hl y List.mem_cons_self
          rw [List.flatten_cons, List.getElem?_append, hy] at hm
          split at hm
          · rename_i hlt
            exact ⟨y, by rw [Nat.div_eq_of_lt hlt]; rfl, by rw [Nat.mod_eq_of_lt hlt]; exact hm⟩
          · rename_i hge
            have hpos : 0 < esz := by
              rcases Nat.eq_zero_or_pos esz with h0 | h0
              · exfalso
                have : ys.flatten = [] := by
                  rw [List.flatten_eq_nil_iff]; intro z hz
                  have := hl z (List.mem_cons_of_mem _ hz); rw [h0] at this; exact List.eq_nil_of_length_eq_zero this
                rw [this] at hm; simp at hm
              · exact h0
            obtain ⟨x, h1, h2⟩ := ih (fun z hz => hl z (List.mem_cons_of_mem _ hz)) _ _ hm
            refine ⟨x, ?_, ?_⟩
            · rw [show m / esz = (m - esz) / esz + 1 from by rw [Nat.div_eq_sub_div hpos (by omega)]]
              simpa using h1
            · rw [Nat.mod_eq_sub_mod (by omega)]; exact h2
      cases hx with
      | lst _ _ base cap u hb _ hc hv =>
        refine ⟨rfl, ?_⟩
        cases base with
        | none => rw [hb rfl]; exact ⟨#[], rfl, ⟨rfl, fun i c hi => by simp at hi⟩, by simp⟩
        | some b =>
          have hcell : CellsAt κ (avoid κ N H) w b ys.flatten := by
            intro m c hm
            obtain ⟨x, h1, h2⟩ := hget ys hlen m c hm
            obtain ⟨b', hb', _, h3⟩ := hc _ _ h1 _ _ h2
            cases hb'
            refine ⟨_, ?_, (hv _ _ h1 _ _ h2).up⟩
            rw [← h3]
            have : m / esz * esz + m % esz = m := Nat.div_add_mod' m esz
            rw [this]
          obtain ⟨vs, h1, h2, h3⟩ := run_loadCells (P := P) hcell (ys.length * esz) (by omega)
          rw [← hfl, List.take_length] at h3
          exact ⟨vs, by simpa [Builtin.firstCells] using h1, ⟨by rw [h2, hfl], h3⟩, hfl⟩
    · cases h
  · rename_i j off len esz
    split at h
    · rename_i cs hj
      split at h
      · rename_i hc
        obtain ⟨rfl, hle⟩ := hc
        cases h
        have hnl : ((cs.drop off).take (n * esz)).length = n * esz := by simp; omega
        cases hx with
        | rsl0 => refine ⟨rfl, ?_⟩
                  rename_i base
                  refine ⟨#[], ?_, ⟨by simp, fun i c hi => by simp at hi⟩, hnl⟩
                  cases base <;> simp [Builtin.firstCells, loadCells, loadCellsFrom]
        | rsl _ _ _ _ cap blk c e f hk hl hb hcap =>
          refine ⟨rfl, ?_⟩
          obtain ⟨vs, h1, h2, h3⟩ := run_loadCells (P := P) (owned_cells hr hj hk (off := off)) (n * esz) (by simp; omega)
          exact ⟨vs, by simpa [Builtin.firstCells] using h1, ⟨by rw [h2, hnl], h3⟩, hnl⟩
      · cases h
    · cases h
  · cases h

theorem growBy_le (m : Nat) : ∀ r c, c ≤ m → Builtin.growBy m r c ≤ 2 * m + 1000 := by
  intro r
  induction r with
  | zero => intro c hc; simp [Builtin.growBy]; omega
  | succ r ih =>
    intro c hc
    simp only [Builtin.growBy]
    split
    · omega
    · by_cases h : c + (c + 768) / 4 ≤ m
      · exact ih _ h
      · cases r with
        | zero => simp [Builtin.growBy]; omega
        | succ r => simp only [Builtin.growBy]; rw [if_pos (by omega)]; omega
theorem nextcap_le (need old : Nat) (h : old < need) : Builtin.nextslicecap need old ≤ 2 * need + 1000 := by
  unfold Builtin.nextslicecap
  split
  · omega
  · split
    · omega
    · exact growBy_le need 4 old (by omega)

theorem CRel.append {av : Nat → Prop} {xs ys : List AV} {p q : Array Value} (h1 : CRel κ av w xs p) (h2 : CRel κ av w ys q) : CRel κ av w (xs ++ ys) (p ++ q) := by
  refine ⟨by simp [h1.1, h2.1], fun i c hi => ?_⟩
  rw [List.getElem?_append] at hi
  rw [Array.getElem?_append, h1.1]
  split at hi
  · rename_i hlt; rw [if_pos hlt]; exact h1.2 i c hi
  · rename_i hlt; rw [if_neg hlt]; exact h2.2 _ c hi

/-- The way on which a new array is made. -/
theorem run_grow {e : TypeId} {E : TI} {a b : Value} {base : Option Addr} {sLen sCap n : Nat} {olds vs : Array Value} (hE : tinfo P e = some E) (hb1 : 0 < E.bytes) (hb2 : E.bytes ≤ 1048576) (hz : E.zero.length = E.size)
    (hbig : (sLen + n) * E.bytes ≤ 1099511627776) (hlt : ¬ sLen + n ≤ sCap) (hold : (Builtin.firstCells E.size sLen a).run P (w.drew) = .ok olds w.drew) (hnew : (Builtin.firstCells E.size n b).run P w.drew = .ok vs w.drew)
    (hos : olds.size = sLen * E.size) (hvs : vs.size = n * E.size) :
    ∃ (cap : Nat) (rest : Array Value), sLen + n ≤ cap ∧ (olds ++ vs ++ rest).size = cap * E.size ∧ ((do
                if ((sLen + n : Nat) : Int) > IntKind.i64.max ∧ ((false = true) ∨ (← typeInfo e).bytes = 0) then runtimePanic (.error "growslice: len out of range")
                if Builtin.nextslicecap (sLen + n) sCap * (← typeInfo e).bytes > 2 ^ 48 then (if false = true then runtimePanic (.error "growslice: len out of range") else do
                  if !(← Builtin.mayShare E.size sLen n base b) then mark .noRoom
                  unsupported (.resourceLimit "append: a slice or a string whose bytes no memory bears"))
                let newCap ← choose (.appendCap (sLen + n) sCap e)
                askRoom (newCap * (← typeInfo e).bytes)
                let old ← Builtin.firstCells E.size sLen a
                let new ← Builtin.firstCells E.size n b
                let rest := Builtin.zeroCells (← zeroValue e).cells (newCap - (sLen + n))
                pure (.slice (some (← newRow e (old ++ new ++ rest))) (sLen + n) newCap) : Sem Value)).run P w = .ok (.slice (some ⟨w.heap.size, 0, none⟩) (sLen + n) cap) (w.drew.alloc (.cells (olds ++ vs ++ rest) e)) := by
  obtain ⟨Ei, hEi, hEs, hEb⟩ := run_typeInfo hE w
  obtain ⟨Ej, hEj, _, hEjb⟩ := run_typeInfo hE w.drew
  obtain ⟨z, hz1, hz2⟩ := run_zeroValue hE w.drew
  have hnc := nextcap_le (sLen + n) sCap (by omega)
  have hsmall : ¬ Builtin.nextslicecap (sLen + n) sCap * E.bytes > 2 ^ 48 := by
    have h1 : Builtin.nextslicecap (sLen + n) sCap * E.bytes ≤ (2 * (sLen + n) + 1000) * E.bytes := Nat.mul_le_mul_right _ hnc
    have h2 : (2 * (sLen + n) + 1000) * E.bytes = 2 * ((sLen + n) * E.bytes) + 1000 * E.bytes := by rw [Nat.add_mul, Nat.mul_assoc]
    omega
  have hcut : ∃ cap, (Question.appendCap (sLen + n) sCap e).cut (w.tape w.drawn (.appendCap (sLen + n) sCap e)) = cap ∧ sLen + n ≤ cap := ⟨_, rfl, by simp [Question.cut]⟩
  obtain ⟨cap, hcap, hle⟩ := hcut
  have hzs : z.cells.size = E.size := by rw [← hz, ← hz2]; simp
  refine ⟨cap, Builtin.zeroCells z.cells (cap - (sLen + n)), hle, ?_, ?_⟩
  · simp only [Array.size_append, hos, hvs, Builtin.zeroCells, Array.size_map, Array.size_range, hzs]
    rw [← Nat.add_mul, ← Nat.add_mul]; congr 1; omega
  · simp only [Sem.run_bind, hEi, Result.andThen_ok, hEb]
    rw [Sem.run_ite, if_neg (by rintro ⟨_, h | h⟩ <;> first | cases h | omega)]
    simp only [Sem.run_bind, hEi, Result.andThen_ok, hEb]
    rw [Sem.run_ite, if_neg hsmall]
    simp only [Sem.run_bind, Sem.run_pure, Result.andThen_ok, run_choose, Question.forced, Bool.false_eq_true, if_false, World.drew_eq, hcap, hEj, run_askRoom, hold, hnew, hz1]
    first | (simp [newRow]; done) | (simp [newRow]; rfl)

theorem VRel.rsl_inv {av : Nat → Prop} {i off len esz : Nat} {v : Value} (h : VRel κ av w (.rsl i off len esz) v) :
    (∃ base, len = 0 ∧ v = .slice base 0 0) ∨ ∃ cap blk c e f, κ i = some blk ∧ len ≤ cap ∧ w.heap[blk]? = some (.cells c e f) ∧ off + cap * esz ≤ c.size ∧ v = .slice (some ⟨blk, off, none⟩) len cap := by
  cases h with
  | rsl0 => exact .inl ⟨_, rfl, rfl⟩
  | rsl _ _ _ _ cap blk c e f h hl hb hcap => exact .inr ⟨cap, blk, c, e, f, h, hl, hb, hcap, rfl⟩

theorem sound_append0 {tt : Array TypeId} {ts tx ty : TypeId} {s x : AV} {a b : Value} {out : Out} (h0 : tt[0]? = some ts) (h1 : tt[1]? = some tx) (hr : HRel κ N H w) (hid : Fresh κ H id)
    (hs : VRel κ (avoid κ N H) w s a) (hx : VRel κ (avoid κ N H) w x b) (h : aAppend0 P (hget H) id ts tx s x = some out) :
    Sound P (do pure (.value (← Builtin.append_ tt ty #[a, b]))) N κ H w out id := by
  unfold aAppend0 at h
  split at h
  · rename_i T X hT hX
    split at h
    · rename_i e e' hTd hXd
      split at h
      · rename_i E hE
        split at h
        · rename_i hcE
          obtain ⟨hb1, hb2, hzl⟩ := hcE
          split at h
          · rename_i new n hsrc
            obtain ⟨hlen, vs, hfc, hnew, hnl⟩ := run_srcCells (P := P) hr hx hsrc
            have std := Step.draw (w' := w.drew) hr rfl ⟨rfl, rfl, rfl⟩
            obtain ⟨_, vsd, hfcd, hnewd, _⟩ := run_srcCells (P := P) std.hrel (std.v hx) hsrc
            have head : ∀ (base : Option Addr) (sLen sCap : Nat), a = .slice base sLen sCap → (Builtin.append_ tt ty #[a, b]).run P w =
              if sLen + n ≤ sCap then ((do if let some ad := base then storeCells (ad.add (sLen * E.size)) vs.toList
                                           pure (Value.slice base (sLen + n) sCap) : Sem Value)).run P w
              else ((do
                if ((sLen + n : Nat) : Int) > IntKind.i64.max ∧ ((false = true) ∨ (← typeInfo e).bytes = 0) then runtimePanic (.error "growslice: len out of range")
                if Builtin.nextslicecap (sLen + n) sCap * (← typeInfo e).bytes > 2 ^ 48 then (if false = true then runtimePanic (.error "growslice: len out of range") else do
                  if !(← Builtin.mayShare E.size sLen n base b) then mark .noRoom
                  unsupported (.resourceLimit "append: a slice or a string whose bytes no memory bears"))
                let newCap ← choose (.appendCap (sLen + n) sCap e)
                askRoom (newCap * (← typeInfo e).bytes)
                let old ← Builtin.firstCells E.size sLen a
                let new ← Builtin.firstCells E.size n b
                let rest := Builtin.zeroCells (← zeroValue e).cells (newCap - (sLen + n))
                pure (.slice (some (← newRow e (old ++ new ++ rest))) (sLen + n) newCap) : Sem Value)).run P w := by
              intro base sLen sCap ha
              subst ha
              simp only [Builtin.append_, h0, h1, List.getElem?_toArray, List.getElem?_cons_zero, List.getElem?_cons_succ, Sem.run_bind, underlying, run_program, Result.andThen_ok, sliceElem hT hTd, sliceElem hX hXd, Sem.run_pure, run_sizeOf hE, Bool.false_eq_true, if_false, hlen, Bool.not_false, if_true]
              rw [Sem.run_ite]
              split
              · simp only [Sem.run_bind, hfc, Result.andThen_ok]
                cases base <;> rfl
              · simp only [Sem.run_bind]
            have fresh' : ∀ (i : Nat) (o : AObj) (κ' : Nat → Option Nat), (∀ j, j ≠ id → κ' j = κ j) → ∀ j, (j ≠ id ∨ [(i, (none : Option AObj)), (id, some o)] = []) → Fresh κ H j → Fresh κ' (hset (herase H i) id o) j := by
              intro i o κ' hk j hj hf
              have hj : j ≠ id := hj.resolve_right (by simp)
              refine ⟨(hk j hj).trans hf.1, ?_⟩
              rw [hget_hset, if_neg (Ne.symm hj), hget_herase]
              split
              · rfl
              · exact hf.2
            split at h
            · cases hs
              split at h
              · rename_i h00
                subst h00
                cases h
                refine .same hr ⟨.slice none 0 0, ?_, .nil⟩
                rw [head none 0 0 rfl, if_pos (by omega)]
                rfl
              · rename_i h00
                split at h
                · rename_i hbig
                  cases h
                  obtain ⟨cap, rest, hle, hsz, hrun⟩ := run_grow (P := P) (w := w) (a := .slice none 0 0) (b := b) (base := none) (sLen := 0) (sCap := 0) (n := n) (olds := #[]) (vs := vsd) hE hb1 hb2 hzl (by rw [Nat.zero_add]; exact hbig) (by omega) rfl hfcd (by simp) (by rw [hnewd.1, hnl])
                  have hrun' := (head none 0 0 rfl).trans ((if_neg (by omega)).trans hrun)
                  have st := Step.alloc std.hrel (id := id) hid (#[] ++ vsd ++ rest) e new (by simp [hnewd.1]) (fun i x hi => by
                    obtain ⟨u, hu, hur⟩ := hnewd.2 i x hi
                    have hlt : i < vsd.size := by
                      rcases Nat.lt_or_ge i vsd.size with h | h
                      · exact h
                      · rw [Array.getElem?_eq_none h] at hu; cases hu
                    exact ⟨u, by simp only [Array.empty_append]; rw [Array.getElem?_append, if_pos hlt]; exact hu, hur⟩)
                  refine ⟨_, _, .slice (some ⟨w.heap.size, 0, none⟩) (0 + n) cap, .inl (by simp only [Sem.run_bind, hrun', Result.andThen_ok, Sem.run_pure]), std.trans st, ?_, fun j hj hf => ?_⟩
                  · have := VR.rsl (κ := withNew κ id (some w.drew.heap.size)) (av := avoid (withNew κ id (some w.drew.heap.size)) N (hset H id (.cells new))) (w := w.drew.alloc (.cells (#[] ++ vsd ++ rest) e)) id 0 (0 + n) E.size cap w.heap.size (#[] ++ vsd ++ rest) e (0, 0) withNew_new hle (alloc_new w.drew _) (by rw [hsz]; omega)
                    rw [Nat.zero_add] at this ⊢
                    exact this
                  · have hj : j ≠ id := hj.resolve_right (by simp)
                    exact ⟨by rw [withNew_old hj]; exact hf.1, by show hget (hset H id _) j = none; rw [hget_hset, if_neg (Ne.symm hj)]; exact hf.2⟩
                · cases h
            · rename_i i len esz
              split at h
              · rename_i cs hi
                split at h
                · rename_i hc
                  obtain ⟨rfl, hcl, hB, hbig⟩ := hc
                  cases h
                  -- the old cells
                  have hold : ∀ (w' : World), HRel κ N H w' → VRel κ (avoid κ N H) w' (.rsl i 0 len E.size) a → ∃ olds, (Builtin.firstCells E.size len a).run P w' = .ok olds w' ∧ CRel κ (avoid κ N H) w' cs olds := by
                    intro w' hr' hs'
                    cases hs' with
                    | rsl0 _ _ _ base =>
                      have : cs = [] := by simpa using hcl
                      subst this
                      refine ⟨#[], ?_, ⟨rfl, fun i c hi => by simp at hi⟩⟩
                      cases base <;> simp [Builtin.firstCells, loadCells, loadCellsFrom]
                    | rsl _ _ _ _ cap blk c e' f hk hl hb hcap =>
                      obtain ⟨os, g1, g2, g3⟩ := run_loadCells (P := P) (owned_cells hr' hi hk (off := 0)) (len * E.size) (by simp [hcl])
                      rw [List.drop_zero, ← hcl, List.take_length] at g3
                      exact ⟨os, by simpa [Builtin.firstCells] using g1, ⟨by rw [g2, hcl], g3⟩⟩
                  have grow : ∀ (base : Option Addr) (sCap : Nat), a = .slice base len sCap → ¬ len + n ≤ sCap → Sound P (do pure (.value (← Builtin.append_ tt ty #[a, b]))) N κ H w ⟨.rsl id 0 (len + n) E.size, [(i, none), (id, some (.cells (cs ++ new)))]⟩ id := by
                    intro base sCap ha hgt
                    obtain ⟨olds, hol, hoc⟩ := hold w.drew std.hrel (std.v hs)
                    obtain ⟨cap, rest, hle, hsz, hrun⟩ := run_grow (P := P) (w := w) (a := a) (b := b) (base := base) (sLen := len) (sCap := sCap) (n := n) (olds := olds) (vs := vsd) hE hb1 hb2 hzl hbig hgt hol hfcd (by rw [hoc.1, hcl]) (by rw [hnewd.1, hnl])
                    have hrun' := (head base len sCap ha).trans ((if_neg hgt).trans hrun)
                    have sdr := Step.drop std.hrel (herase H i) (fun j o hj => by rw [hget_herase] at hj; split at hj <;> first | cases hj | exact hj)
                    have hcr := hoc.append hnewd
                    have st := Step.alloc sdr.hrel (id := id) ⟨hid.1, by rw [hget_herase]; split <;> first | rfl | exact hid.2⟩ (olds ++ vsd ++ rest) e (cs ++ new) (by have := hcr.1; simp only [Array.size_append] at this ⊢; omega) (fun j x hj => by
                      obtain ⟨u, hu, hur⟩ := hcr.2 j x hj
                      have hlt : j < (olds ++ vsd).size := by
                        rcases Nat.lt_or_ge j (olds ++ vsd).size with h | h
                        · exact h
                        · rw [Array.getElem?_eq_none h] at hu; cases hu
                      exact ⟨u, by rw [Array.getElem?_append, if_pos hlt]; exact hu, sdr.v hur⟩)
                    refine ⟨_, _, .slice (some ⟨w.heap.size, 0, none⟩) (len + n) cap, .inl (by simp only [Sem.run_bind, hrun', Result.andThen_ok, Sem.run_pure]), (std.trans sdr).trans st, ?_, fresh' i _ _ (fun j hj => withNew_old hj)⟩
                    exact .rsl id 0 (len + n) E.size cap w.heap.size _ e (0, 0) withNew_new hle (alloc_new w.drew _) (by rw [hsz]; omega)
                  rcases hs.rsl_inv with ⟨base, rfl, rfl⟩ | ⟨cap, blk, c, e', f, hk, hl, hb, hcap, rfl⟩
                  · clear hold
                    by_cases hle : 0 + n ≤ 0
                    · have hn0 : n = 0 := by omega
                      subst hn0
                      have hnil : new = [] := by simpa using hnl
                      subst hnil
                      have hvs : vs = #[] := by have := hnew.1; simpa using this
                      subst hvs
                      have st := Step.rename hr hi hid
                      refine ⟨_, w, .slice base 0 0, .inl ?_, by rw [List.append_nil]; exact st, .rsl0 _ _ _ _, fresh' i _ _ (fun j hj => withNew_old hj)⟩
                      simp only [Sem.run_bind, head base 0 0 rfl, if_pos hle]
                      cases base <;> rfl
                    · exact grow base 0 rfl hle
                  · clear hold
                    by_cases hle : len + n ≤ cap
                    · have st := Step.rename hr hi hid
                      have hblk : ∃ c e, w.heap[blk]? = some (.cells c e (0, 0)) := by
                        rcases hr.rel _ _ hi with ⟨_, g⟩ | ⟨blk', c', e', g1, g2, _⟩
                        · rw [hk] at g; cases g
                        · rw [hk] at g1; cases g1; exact ⟨c', e', g2⟩
                      obtain ⟨c', e'', hblk⟩ := hblk
                      rw [hblk] at hb; cases hb
                      have hmul : (len + n) * E.size ≤ cap * E.size := Nat.mul_le_mul_right _ hle
                      rw [Nat.add_mul] at hmul
                      obtain ⟨w', g1, g2⟩ := run_storeExt (P := P) (N := N) (κ := withNew κ id (κ i)) (id := id) (blk := blk) (by rw [withNew_new]; exact hk) new vs.toList (hset (herase H i) id (.cells cs)) w cs
                        ((⟨blk, 0, none⟩ : Addr).add (len * E.size)) 0 (by rw [add_block]) (fun j => by rw [add_add, hcl]; unfold Addr.add; split <;> simp_all <;> omega) st.hrel (by rw [hget_hset, if_pos rfl]) ⟨_, _, hblk, by omega⟩
                        (fun y hy => List.all_eq_true.1 hB y hy) (by simpa using hnew.1) (fun j y hy => by obtain ⟨u, hu, hur⟩ := hnew.2 j y hy; exact ⟨u, by simpa using hu, st.v hur⟩)
                      rw [hset_hset] at g2
                      obtain ⟨c2, f2, g3, g4⟩ := g2.wle.2.1 _ _ _ _ hblk
                      refine ⟨_, w', .slice (some ⟨blk, 0, none⟩) (len + n) cap, .inl ?_, st.trans g2, .rsl id 0 (len + n) E.size cap blk c2 _ f2 (by rw [withNew_new]; exact hk) hle g3 (by rw [g4]; omega), fresh' i _ _ (fun j hj => withNew_old hj)⟩
                      simp only [Sem.run_bind, head (some ⟨blk, 0, none⟩) len cap rfl, if_pos hle, g1, Result.andThen_ok, Sem.run_pure]
                    · exact grow (some ⟨blk, 0, none⟩) cap rfl hle
                · cases h
              · cases h
            · cases h
          · cases h
        · cases h
      · cases h
    · cases h
  · cases h


theorem herase_hset (H : AHeap) (i : Nat) (o : AObj) : herase (hset H i o) i = herase H i := by
  induction H with
  | nil => simp [hset, herase]
  | cons x r ih =>
    obtain ⟨k, p⟩ := x
    by_cases hk : k = i
    · subst hk; simp [hset, herase]
    · simp [hset, herase, hk, ih]
/-- Less is known of an object. -/
theorem HRel.cut (hr : HRel κ N H w) {i n : Nat} {cs : List AV} (hi : hget H i = some (.cells cs)) (hn : n < cs.length) : HRel κ N (hset H i (.cells (cs.take n))) w ∧ (∀ b, owned κ (hset H i (.cells (cs.take n))) b ↔ owned κ H b) := by
  have hown : ∀ b, owned κ (hset H i (.cells (cs.take n))) b ↔ owned κ H b := fun b => by
    constructor
    · rintro ⟨j, o, ho, hb⟩
      rw [hget_hset] at ho
      split at ho
      · rename_i e; subst e; exact ⟨i, _, hi, hb⟩
      · exact ⟨j, o, ho, hb⟩
    · rintro ⟨j, o, ho, hb⟩
      by_cases e : i = j
      · subst e; exact ⟨i, _, by rw [hget_hset, if_pos rfl], hb⟩
      · exact ⟨j, o, by rw [hget_hset, if_neg e]; exact ho, hb⟩
  have hav : ∀ b, avoid κ N (hset H i (.cells (cs.take n))) b ↔ avoid κ N H b := fun b => or_congr Iff.rfl (hown b)
  have hav' : avoid κ N (hset H i (.cells (cs.take n))) = avoid κ N H := funext fun b => propext (hav b)
  refine ⟨⟨fun id o ho => ?_, fun a b x o o' ha hb h1 h2 => ?_, hr.bd, hr.Nbd, fun b hb ho => hr.NH b hb ((hown b).1 ho), by rw [hav']; exact hr.gl⟩, hown⟩
  · rw [hav']
    rw [hget_hset] at ho
    split at ho
    · rename_i e; subst e; cases ho
      rcases hr.rel _ _ hi with ⟨h1, h2⟩ | ⟨blk, c, e, h1, h2, h3, h4⟩
      · subst h1; simp at hn
      · refine .inr ⟨blk, c, e, h1, h2, by rw [List.length_take]; omega, fun j x hj => h4 j x ?_⟩
        rw [List.getElem?_take] at hj
        split at hj
        · exact hj
        · cases hj
    · exact hr.rel _ _ ho
  · have key : ∀ a o, hget (hset H i (.cells (cs.take n))) a = some o → ∃ o', hget H a = some o' := fun a o ho => by
      rw [hget_hset] at ho
      split at ho
      · rename_i e; subst e; exact ⟨_, hi⟩
      · exact ⟨_, ho⟩
    obtain ⟨_, k1⟩ := key _ _ ha
    obtain ⟨_, k2⟩ := key _ _ hb
    exact hr.inj _ _ _ _ _ k1 k2 h1 h2
theorem run_bound {d : Nat} {lim : Nat} {code : BoundsCode} {x : AV} {a : Value} {n : Nat} {av : Nat → Prop} (hx : VRel κ av w x a) (h : abound d (some x) = some n) (hle : n ≤ lim) : (Instr.sliceBound a lim code).run P w = .ok n w := by
  unfold abound at h
  split at h
  · rename_i e; cases e
  · rename_i k m e
    cases e
    split at h
    · rename_i hpos
      cases h
      cases hx
      simp only [Instr.sliceBound, asIntOf, Sem.run_bind, Sem.run_pure, Result.andThen_ok]
      rw [if_pos ⟨hpos, by omega⟩]
      rfl
    · cases h
  · cases h

theorem run_bounds {isS : Bool} {len cap : Nat} {lo hi : Option Operand} {ρ : Operand → AV} {σ : Operand → Value} {l r : Nat} {av : Nat → Prop} (hρ : ∀ x, VRel κ av w (ρ x) (σ x)) (hl : abound 0 (lo.map ρ) = some l) (hr : abound len (hi.map ρ) = some r) (hlr : l ≤ r) (hrc : r ≤ cap) :
    (Instr.sliceBounds isS len cap (lo.map σ) (hi.map σ) none).run P w = .ok (l, r, cap) w := by
  have h1 : ∀ (code : BoundsCode), ((match hi.map σ with | some v => Instr.sliceBound v cap code | none => pure len : Sem Nat)).run P w = .ok r w := by
    intro code
    cases hi with
    | none => simp only [Option.map_none, abound, Option.some.injEq] at hr; subst hr; rfl
    | some x => exact run_bound (hρ x) hr hrc
  have h2 : ∀ (code : BoundsCode), ((match lo.map σ with | some v => Instr.sliceBound v r code | none => pure 0 : Sem Nat)).run P w = .ok l w := by
    intro code
    cases lo with
    | none => simp only [Option.map_none, abound, Option.some.injEq] at hl; subst hl; rfl
    | some x => exact run_bound (hρ x) hl hlr
  cases hi with
  | none =>
    simp only [Option.map_none, abound, Option.some.injEq] at hr; subst hr
    cases lo with
    | none => simp only [Option.map_none, abound, Option.some.injEq] at hl; subst hl; simp [Instr.sliceBounds]
    | some x => have := h2 .sliceB; simp only [Option.map_some] at this; simp [Instr.sliceBounds, this]
  | some y =>
    have g1 := h1 (if isS = true then .sliceAcap else .sliceAlen)
    simp only [Option.map_some] at g1
    cases lo with
    | none => simp only [Option.map_none, abound, Option.some.injEq] at hl; subst hl; simp [Instr.sliceBounds, g1]
    | some x => have g2 := h2 .sliceB; simp only [Option.map_some] at g2; simp [Instr.sliceBounds, g1, g2]

theorem chunks_get (esz : Nat) : ∀ (n : Nat) (cs : List AV) (i : Nat) (x : List AV), (chunks esz cs n)[i]? = some x → i < n ∧ x = (cs.drop (i * esz)).take esz := by
  intro n
  induction n with
  | zero => intro cs i x h; simp [chunks] at h
  | succ n ih =>
    intro cs i x h
    cases i with
    | zero => simp [chunks] at h; exact ⟨by omega, by simp [h]⟩
    | succ i =>
      simp only [chunks, List.getElem?_cons_succ] at h
      obtain ⟨h1, h2⟩ := ih _ _ _ h
      refine ⟨by omega, ?_⟩
      rw [h2, List.drop_drop]; congr 2; rw [Nat.succ_mul]; omega
theorem chunks_length (esz : Nat) : ∀ (n : Nat) (cs : List AV), (chunks esz cs n).length = n := by
  intro n; induction n with
  | zero => intros; rfl
  | succ n ih => intro cs; simp [chunks, ih]

theorem sound_slice {t : TypeId} {x y : AV} {a : Value} {lo hi : Option Operand} {ρ : Operand → AV} {σ : Operand → Value} (hr : HRel κ N H w) (hρ : ∀ x, VRel κ (avoid κ N H) w (ρ x) (σ x)) (hx : VRel κ (avoid κ N H) w x a)
    (h : aSlice P (hget H) t x (lo.map ρ) (hi.map ρ) = some y) : Sound P (do pure (.value (← Instr.sliceAt t a (lo.map σ) (hi.map σ) none))) N κ H w ⟨y, []⟩ id := by
  refine .same hr ?_
  unfold aSlice at h
  split at h
  · rename_i T hT
    split at h
    · rename_i e esz xs htd
      split at h
      · rename_i E l r hE hl hh
        split at h
        · rename_i hc
          obtain ⟨rfl, hlr, hrl⟩ := hc
          cases h
          have hu := sliceElem hT htd
          cases hx with
          | lst _ _ base cap u hb hlc hcl hv =>
            have hbd := run_bounds (P := P) (isS := true) (len := xs.length) (cap := cap) hρ hl hh hlr (by omega)
            refine ⟨.slice (if cap = l then base else base.map (·.add (l * E.size))) (r - l) (cap - l), ?_, ?_⟩
            · simp only [Instr.sliceAt, Sem.run_bind, underlying, run_program, hu, Sem.run_pure, Result.andThen_ok, Instr.slice, hbd, run_sizeOf hE]
            · have hlen : ((xs.take r).drop l).length = r - l := by simp; omega
              have hel : ∀ i z, ((xs.take r).drop l)[i]? = some z → xs[l + i]? = some z := by
                intro i z hz
                rw [List.getElem?_drop, List.getElem?_take] at hz
                split at hz
                · exact hz
                · cases hz
              have key : VRel κ (avoid κ N H) w (.lst E.size ((xs.take r).drop l)) (.slice (if cap = l then base else base.map (·.add (l * E.size))) ((xs.take r).drop l).length (cap - l)) := by
                refine .lst _ _ _ _ (fun i j => u (l + i) j) ?_ (by rw [hlen]; omega) ?_ (fun i z hz => hv _ _ (hel i z hz))
                · intro hbn
                  have : base = none := by split at hbn <;> simpa using hbn
                  rw [hb this]; simp
                · intro i z hz j c hj
                  obtain ⟨b, hb', h1, h2⟩ := hcl _ _ (hel i z hz) _ _ hj
                  have hi : l + i < r := by
                    rw [List.getElem?_drop, List.getElem?_take] at hz
                    split at hz
                    · assumption
                    · cases hz
                  rw [if_neg (by omega), hb']
                  refine ⟨b.add (l * E.size), rfl, by rw [add_block]; exact h1, ?_⟩
                  rw [add_add, ← h2]; congr 2; rw [Nat.add_mul]; omega
              rw [hlen] at key
              exact key
        · cases h
      · cases h
    · rename_i e htd
      have hu := sliceElem hT htd
      cases hx
      split at h
      · rename_i E hE hl hh
        cases h
        have hbd := run_bounds (P := P) (w := w) (isS := true) (len := 0) (cap := 0) hρ hl hh (Nat.le_refl _) (Nat.le_refl _)
        refine ⟨.slice none 0 0, ?_, .nil⟩
        simp only [Instr.sliceAt, Sem.run_bind, underlying, run_program, hu, Sem.run_pure, Result.andThen_ok, Instr.slice, hbd, run_sizeOf hE]
        rfl
      · cases h
    · rename_i e i off len esz htd
      have hu := sliceElem hT htd
      split at h
      · rename_i E l r hE hl hh
        split at h
        · rename_i hc
          obtain ⟨rfl, hlr, hrl⟩ := hc
          cases h
          rcases hx.rsl_inv with ⟨base, rfl, rfl⟩ | ⟨cap, blk, c, e', f, hk, hlc, hb, hcap, rfl⟩
          · have hbd := run_bounds (P := P) (w := w) (isS := true) (len := 0) (cap := 0) hρ hl hh hlr (by omega)
            refine ⟨.slice base 0 0, ?_, ?_⟩
            · simp only [Instr.sliceAt, Sem.run_bind, underlying, run_program, hu, Sem.run_pure, Result.andThen_ok, Instr.slice, hbd, run_sizeOf hE]
              rw [if_pos (by omega), show r - l = 0 from by omega]; simp
            · rw [show r - l = 0 from by omega]; exact .rsl0 _ _ _ _
          · have hbd := run_bounds (P := P) (w := w) (isS := true) (len := len) (cap := cap) hρ hl hh hlr (by omega)
            refine ⟨.slice (if cap = l then some ⟨blk, off, none⟩ else some ⟨blk, off + l * E.size, none⟩) (r - l) (cap - l), ?_, ?_⟩
            · simp only [Instr.sliceAt, Sem.run_bind, underlying, run_program, hu, Sem.run_pure, Result.andThen_ok, Instr.slice, hbd, run_sizeOf hE]
              have hadd : (⟨blk, off, none⟩ : Addr).add (l * E.size) = ⟨blk, off + l * E.size, none⟩ := by unfold Addr.add; split <;> simp_all
              rw [Option.map_some, hadd]
            · by_cases hcl : cap = l
              · rw [if_pos hcl, show r - l = 0 from by omega, show cap - l = 0 from by omega]; exact .rsl0 _ _ _ _
              · rw [if_neg hcl]
                refine .rsl _ _ _ _ (cap - l) blk c e' f hk (by omega) hb ?_
                have : l * E.size + (cap - l) * E.size = cap * E.size := by rw [← Nat.add_mul]; congr 1; omega
                omega
        · cases h
      · cases h
    · rename_i n e cs htd
      have hu := arrElem hT htd
      split at h
      · rename_i E l r hE hl hh
        split at h
        · rename_i hc
          obtain ⟨hlr, hrn, hsz⟩ := hc
          cases h
          cases hx with
          | cptr _ ad u hcl hv =>
            have hbd := run_bounds (P := P) (w := w) (isS := false) (len := n) (cap := n) hρ hl hh hlr hrn
            refine ⟨.slice (some (if n = l then ad else ad.add (l * E.size))) (r - l) (n - l), ?_, ?_⟩
            · simp only [Instr.sliceAt, Sem.run_bind, underlying, run_program, hu, Sem.run_pure, Result.andThen_ok, Instr.sureAddr, hbd, run_sizeOf hE]
            · have hlen := chunks_length E.size (r - l) (cs.drop (l * E.size))
              have key : VRel κ (avoid κ N H) w (.lst E.size (chunks E.size (cs.drop (l * E.size)) (r - l))) (.slice (some (if n = l then ad else ad.add (l * E.size))) (chunks E.size (cs.drop (l * E.size)) (r - l)).length (n - l)) := by
                have hcs : ∀ i x, (chunks E.size (cs.drop (l * E.size)) (r - l))[i]? = some x → ∀ j c, x[j]? = some c → i < r - l ∧ cs[l * E.size + (i * E.size + j)]? = some c := by
                  intro i x hi j c hj
                  obtain ⟨h1, rfl⟩ := chunks_get _ _ _ _ _ hi
                  rw [List.getElem?_take] at hj
                  split at hj
                  · rw [List.getElem?_drop, List.getElem?_drop] at hj; exact ⟨h1, hj⟩
                  · cases hj
                refine .lst _ _ _ _ (fun i j => u (l * E.size + (i * E.size + j))) (fun h => by cases h) (by rw [hlen]; omega) ?_ ?_
                · intro i x hi j c hj
                  obtain ⟨h1, h2⟩ := hcs i x hi j c hj
                  obtain ⟨h3, h4⟩ := hcl _ _ h2
                  rw [if_neg (by omega)]
                  exact ⟨_, rfl, by rw [add_block]; exact h3, by rw [add_add]; exact h4⟩
                · intro i x hi j c hj
                  exact hv _ _ (hcs i x hi j c hj).2
              rw [hlen] at key
              exact key
        · cases h
      · cases h
    · rename_i n e i off htd
      have hu := arrElem hT htd
      split at h
      · rename_i E l r cs hE hl hh hi
        split at h
        · rename_i hc
          obtain ⟨hlr, hrn, hsz⟩ := hc
          cases h
          cases hx with
          | vptr _ _ blk hk =>
            have hbd := run_bounds (P := P) (w := w) (isS := false) (len := n) (cap := n) hρ hl hh hlr hrn
            have hadd : (⟨blk, off, none⟩ : Addr).add (l * E.size) = ⟨blk, off + l * E.size, none⟩ := by unfold Addr.add; split <;> simp_all
            refine ⟨.slice (some (if n = l then ⟨blk, off, none⟩ else ⟨blk, off + l * E.size, none⟩)) (r - l) (n - l), ?_, ?_⟩
            · simp only [Instr.sliceAt, Sem.run_bind, underlying, run_program, hu, Sem.run_pure, Result.andThen_ok, Instr.sureAddr, hbd, run_sizeOf hE, hadd]
            · by_cases hnl : n = l
              · rw [if_pos hnl, show r - l = 0 from by omega, show n - l = 0 from by omega]; exact .rsl0 _ _ _ _
              · rw [if_neg hnl]
                rcases hr.rel _ _ hi with ⟨g, g'⟩ | ⟨blk', c, e', g1, g2, g3, _⟩
                · rw [hk] at g'; cases g'
                · rw [hk] at g1; cases g1
                  refine .rsl _ _ _ _ (n - l) blk c e' (0, 0) hk (by omega) g2 ?_
                  have : l * E.size + (n - l) * E.size = n * E.size := by rw [← Nat.add_mul]; congr 1; omega
                  omega
        · cases h
      · cases h
    · rename_i s htd
      have hu := strType hT htd
      split at h
      · rename_i l r hl hh
        split at h
        · rename_i hc
          cases h
          cases hx
          have hbd := run_bounds (P := P) (w := w) (isS := false) (len := s.size) (cap := s.size) hρ hl hh hc.1 hc.2
          refine ⟨.string (s.extract l r), ?_, .str _⟩
          simp only [Instr.sliceAt, Sem.run_bind, underlying, run_program, hu, Sem.run_pure, Result.andThen_ok, Instr.slice]
          rw [Sem.run_ite, if_neg (by simp)]
          simp only [Sem.run_bind, hbd, Result.andThen_ok, Sem.run_pure]
        · cases h
      · cases h
    · cases h
  · cases h
end
section
variable {P : Program} {N : Nat → Prop} {κ : Nat → Option Nat} {H : AHeap} {w : World} {id : Nat}
theorem rep_get (z : List AV) (_hz : 0 < z.length) : ∀ (n i : Nat), (rep n z)[i]? = if i < n * z.length then z[i % z.length]? else none := by
  intro n
  induction n with
  | zero => intro i; simp [rep]
  | succ n ih =>
    intro i
    simp only [rep]
    rw [List.getElem?_append]
    split
    · rename_i h
      rw [if_pos (by rw [Nat.succ_mul]; omega), Nat.mod_eq_of_lt h]
    · rename_i h
      rw [ih, Nat.mod_eq_sub_mod (by omega : i ≥ z.length)]
      have e : (i - z.length < n * z.length) ↔ (i < (n + 1) * z.length) := by rw [Nat.succ_mul]; omega
      simp only [e]
theorem zeros_rel {av : Nat → Prop} {z : Value} {zl : List AV} (hz : z.cells.toList.map ofCell = zl) (hl : 0 < zl.length) (n : Nat) : CRel κ av w (rep n zl) (Builtin.zeroCells z.cells n) := by
  have hzs : z.cells.size = zl.length := by rw [← hz]; simp
  have hzr := CRel.zero (κ := κ) (w := w) av z.cells
  rw [hz] at hzr
  have hlen : (rep n zl).length = n * zl.length := by
    induction n with
    | zero => simp [rep]
    | succ n ih => simp only [rep, List.length_append, ih, Nat.succ_mul]; omega
  refine ⟨by simp [Builtin.zeroCells, hzs, hlen], fun i c hi => ?_⟩
  rw [rep_get zl hl] at hi
  split at hi
  · rename_i hlt
    obtain ⟨v, hv, hr⟩ := hzr.2 _ _ hi
    refine ⟨v, ?_, hr⟩
    have hm : i % zl.length < z.cells.size := by rw [hzs]; exact Nat.mod_lt _ hl
    simp only [Builtin.zeroCells, Array.getElem?_map, Array.getElem?_range, hzs]
    rw [if_pos hlt]
    simp only [Option.map_some]
    rw [getElem!_pos z.cells _ hm]
    rw [← hv, Array.getElem?_eq_getElem hm]
  · cases hi
theorem intElem {t : TypeId} {T : TI} (hT : tinfo P t = some T) {k : IntKind} (hs : T.td = .int k) : P.underlying t = some (.int k) := by
  obtain ⟨d, i, z, hd, hi, hz, rfl⟩ := tinfo_spec hT
  cases d with
  | int k' => simp [tdOf] at hs; rw [hd]; simp [hs]
  | _ => simp [tdOf] at hs
theorem run_appendI {e : TypeId} {E : TI} {tt : Array TypeId} {ts tx ty : TypeId} {T X : TI} {k kx : IntKind} {n : Int} (h0 : tt[0]? = some ts) (h1 : tt[1]? = some tx) (hT : tinfo P ts = some T) (hX : tinfo P tx = some X) (hTd : T.td = .slice e) (hXd : X.td = .int kx)
    (hE : tinfo P e = some E) (hb1 : 0 < E.bytes) (hb2 : E.bytes ≤ 1048576) (hs : 0 < E.size) (hz : E.zero.length = E.size) (hn : 0 < n) (hbig : n.toNat * E.bytes ≤ 1099511627776) :
    ∃ (cap : Nat) (z : Value) (rest : Array Value), n.toNat ≤ cap ∧ z.cells.toList.map ofCell = E.zero ∧ (Builtin.zeroCells z.cells n.toNat ++ rest).size = cap * E.size ∧
      (Builtin.append_ tt ty #[.slice none 0 0, .int k n]).run P w = .ok (.slice (some ⟨w.heap.size, 0, none⟩) n.toNat cap) (w.drew.alloc (.cells (Builtin.zeroCells z.cells n.toNat ++ rest) e)) := by
  have hnb : n.toNat ≤ 1099511627776 := Nat.le_trans (Nat.le_mul_of_pos_right _ hb1) hbig
  have hnn : (n.toNat : Int) = n := Int.toNat_of_nonneg (by omega)
  have hw : IntKind.i64.wrap n = n := by
    unfold IntKind.wrap
    have e1 : (2 : Int) ^ IntKind.i64.bits = 18446744073709551616 := by decide
    simp only [e1, IntKind.signed, Bool.true_and]
    have : n % 18446744073709551616 = n := Int.emod_eq_of_lt (by omega) (by omega)
    rw [this]
    rw [if_neg]
    have e2 : (2 : Int) ^ (IntKind.i64.bits - 1) = 9223372036854775808 := by decide
    simp [e2]; omega
  obtain ⟨Ei, hEi, hEs, hEb⟩ := run_typeInfo hE w
  obtain ⟨Ej, hEj, _, hEjb⟩ := run_typeInfo hE w.drew
  obtain ⟨z, hz1, hz2⟩ := run_zeroValue hE w.drew
  have hnc := nextcap_le (0 + n.toNat) 0 (by omega)
  have hsmall : ¬ Builtin.nextslicecap (0 + n.toNat) 0 * E.bytes > 2 ^ 48 := by
    have h1 : Builtin.nextslicecap (0 + n.toNat) 0 * E.bytes ≤ (2 * (0 + n.toNat) + 1000) * E.bytes := Nat.mul_le_mul_right _ hnc
    have h2 : (2 * (0 + n.toNat) + 1000) * E.bytes = 2 * (n.toNat * E.bytes) + 1000 * E.bytes := by rw [Nat.add_mul, Nat.mul_assoc, Nat.zero_add]
    omega
  have hbytes : ¬ n * (E.bytes : Int) > 2 ^ 48 := by
    have : n * (E.bytes : Int) = ((n.toNat * E.bytes : Nat) : Int) := by rw [Int.natCast_mul, hnn]
    rw [this]; omega
  have hcut : ∃ cap, (Question.appendCap (0 + n.toNat) 0 e).cut (w.tape w.drawn (.appendCap (0 + n.toNat) 0 e)) = cap ∧ 0 + n.toNat ≤ cap := ⟨_, rfl, by simp [Question.cut]⟩
  obtain ⟨cap, hcap, hle⟩ := hcut
  have hzs : z.cells.size = E.size := by rw [← hz, ← hz2]; simp
  have hns : ¬ n.toNat * E.size = 0 := by
    have : 0 < n.toNat * E.size := Nat.mul_pos (by omega) hs
    omega
  refine ⟨cap, z, Builtin.zeroCells z.cells (cap - (0 + n.toNat)), by omega, hz2, ?_, ?_⟩
  · simp only [Array.size_append, Builtin.zeroCells, Array.size_map, Array.size_range, hzs]
    rw [← Nat.add_mul]; congr 1; omega
  · simp only [Builtin.append_, h0, h1, List.getElem?_toArray, List.getElem?_cons_zero, List.getElem?_cons_succ, Sem.run_bind, underlying, run_program, Result.andThen_ok, sliceElem hT hTd, intElem hX hXd, Sem.run_pure, run_sizeOf hE, asInt]
    rw [Sem.run_ite, if_pos trivial]
    simp only [Sem.run_bind, Sem.run_pure, Result.andThen_ok, asIntOf, hw]
    rw [Sem.run_ite, if_neg (by omega)]
    simp only [Sem.run_bind, Result.andThen_ok, hEi, hEb]
    rw [Sem.run_ite, if_neg hbytes]
    simp only [Sem.run_bind, Sem.run_pure, Result.andThen_ok]
    rw [Sem.run_ite, if_neg (by omega)]
    simp only [Sem.run_bind, Result.andThen_ok, hEi, hEb]
    rw [Sem.run_ite, if_neg (by rintro ⟨h, _⟩; have : (IntKind.i64.max : Int) = 9223372036854775807 := by decide
                                omega)]
    simp only [Sem.run_bind, Result.andThen_ok, hEi, hEb]
    rw [Sem.run_ite, if_neg hsmall]
    simp only [Sem.run_bind, Sem.run_pure, Result.andThen_ok, run_choose, Question.forced, Bool.false_eq_true, if_false, World.drew_eq, hcap, hEj, run_askRoom, hz1, Builtin.firstCells, Bool.not_true, if_neg hns]
    first | (simp [newRow]; done) | (simp [newRow]; rfl) | (simp [newRow]; trace_state; sorry)
theorem sound_append {tt : Array TypeId} {ts tx ty : TypeId} {s x : AV} {a b : Value} {out : Out} (h0 : tt[0]? = some ts) (h1 : tt[1]? = some tx) (hr : HRel κ N H w) (hid : Fresh κ H id)
    (hs : VRel κ (avoid κ N H) w s a) (hx : VRel κ (avoid κ N H) w x b) (h : aAppend P (hget H) id ts tx s x = some out) :
    Sound P (do pure (.value (← Builtin.append_ tt ty #[a, b]))) N κ H w out id := by
  unfold aAppend at h
  split at h
  · split at h
    · rename_i k n
      unfold aAppendI at h
      split at h
      · rename_i T X _ n' hT hX hxe
        cases hxe
        split at h
        · rename_i e kx hTd hXd
          split at h
          · rename_i E hE
            split at h
            · rename_i hc
              obtain ⟨c1, c2, c3, c4, c5, c6⟩ := hc
              cases h
              cases hs
              cases hx
              obtain ⟨cap, z, rest, hle, hz, hsz, hrun⟩ := run_appendI (P := P) (w := w) (tt := tt) (ty := ty) (k := k) h0 h1 hT hX hTd hXd hE c1 c2 c3 c4 c5 c6
              have std := Step.draw (w' := w.drew) hr rfl ⟨rfl, rfl, rfl⟩
              have hzr := zeros_rel (κ := κ) (w := w.drew) (av := avoid κ N H) hz (by rw [c4]; exact c3) n.toNat
              have st := Step.alloc std.hrel (id := id) hid (Builtin.zeroCells z.cells n.toNat ++ rest) e (rep n.toNat E.zero) (by have := hzr.1; simp only [Array.size_append]; omega) (fun j x hj => by
                obtain ⟨u, hu, hur⟩ := hzr.2 j x hj
                have hlt : j < (Builtin.zeroCells z.cells n.toNat).size := by
                  rcases Nat.lt_or_ge j (Builtin.zeroCells z.cells n.toNat).size with h | h
                  · exact h
                  · rw [Array.getElem?_eq_none h] at hu; cases hu
                exact ⟨u, by rw [Array.getElem?_append, if_pos hlt]; exact hu, hur⟩)
              refine ⟨_, _, .slice (some ⟨w.heap.size, 0, none⟩) n.toNat cap, .inl (by simp only [Sem.run_bind, hrun, Result.andThen_ok, Sem.run_pure]), std.trans st, ?_, fun j hj hf => ?_⟩
              · exact VR.rsl (κ := withNew κ id (some w.drew.heap.size)) id 0 n.toNat E.size cap w.heap.size _ e (0, 0) withNew_new hle (alloc_new w.drew _) (by rw [hsz]; omega)
              · have hj : j ≠ id := hj.resolve_right (by simp)
                exact ⟨by rw [withNew_old hj]; exact hf.1, by show hget (hset H id _) j = none; rw [hget_hset, if_neg (Ne.symm hj)]; exact hf.2⟩
            · cases h
          · cases h
        · cases h
      · cases h
    · exact sound_append0 h0 h1 hr hid hs hx h
  · rename_i i len esz
    split at h
    · rename_i cs hi
      split at h
      · rename_i hlt
        obtain ⟨hr', hown⟩ := HRel.cut hr hi hlt
        have hav : avoid κ N (hset H i (.cells (cs.take (len * esz)))) = avoid κ N H := funext fun b => propext (or_congr Iff.rfl (hown b))
        have hg : hget (hset H i (.cells (cs.take (len * esz)))) = fun j => if i = j then some (.cells (cs.take (len * esz))) else hget H j := funext fun j => by rw [hget_hset]
        have hid' : Fresh κ (hset H i (.cells (cs.take (len * esz)))) id := ⟨hid.1, by
          rw [hget_hset]; split
          · rename_i e; subst e; rw [hid.2] at hi; cases hi
          · exact hid.2⟩
        rw [← hg] at h
        obtain ⟨κ', w', v, e1, e2, e3, e4⟩ := sound_append0 (ty := ty) h0 h1 hr' hid' (by rw [hav]; exact hs) (by rw [hav]; exact hx) h
        have hups : ∃ X, out.ups = [(i, none), (id, some X)] := by
          unfold aAppend0 at h
          split at h
          · split at h
            · split at h
              · split at h
                · split at h
                  · split at h
                    · rename_i he; cases he
                    · rename_i he
                      cases he
                      split at h
                      · split at h
                        · cases h; exact ⟨_, rfl⟩
                        · cases h
                      · cases h
                    · cases h
                  · cases h
                · cases h
              · cases h
            · cases h
          · cases h
        obtain ⟨X, hX⟩ := hups
        have hupH : upH (hset H i (.cells (cs.take (len * esz)))) out.ups = upH H out.ups := by
          rw [hX]; simp only [upH, herase_hset]
        rw [hupH] at e2 e3 e4
        refine ⟨κ', w', v, e1, ⟨e2.ext, e2.wle, fun b hb hn => e2.same b hb fun ho => hn ((hown b).1 ho), fun b hb => (e2.new b hb).imp (hown b).1 (fun h => h), e2.hrel⟩, e3, fun j hj hf => e4 j hj ⟨hf.1, ?_⟩⟩
        rw [hget_hset]; split
        · rename_i e; subst e; rw [hf.2] at hi; cases hi
        · exact hf.2
      · exact sound_append0 h0 h1 hr hid hs hx h
    · cases h
  · exact sound_append0 h0 h1 hr hid hs hx h
theorem sound_cap {tt : Array TypeId} {t ty : TypeId} {x y : AV} {a : Value} (h0 : tt[0]? = some t) (hr : HRel κ N H w) (hx : VRel κ (avoid κ N H) w x a) (h : aCap P t x = some y) :
    Sound P (do pure (.value (← Builtin.cap_ tt ty #[a]))) N κ H w ⟨y, []⟩ id := by
  unfold aCap at h
  split at h
  · rename_i T hT
    split at h
    · rename_i e hTd
      cases h
      cases hx
      refine .same hr ⟨.int .i64 0, ?_, .int _ _⟩
      simp only [Builtin.cap_, h0, List.getElem?_toArray, List.getElem?_cons_zero, Sem.run_bind, underlying, run_program, Result.andThen_ok, sliceElem hT hTd, Sem.run_pure]
      rfl
    · cases h
  · cases h
theorem cutS_rel {j off n m esz : Nat} {base : Option Addr} {cap : Nat} {av : Nat → Prop} (h : VRel κ av w (.rsl j off n esz) (.slice base n cap)) (hm : m ≤ n) : ∃ cap', VRel κ av w (.rsl j off m esz) (.slice base m cap') := by
  rcases h.rsl_inv with ⟨b, h1, h2⟩ | ⟨cap, blk, c, e, f, hk, hl, hb, hcap, h2⟩
  · cases h2
    obtain rfl : m = 0 := by omega
    exact ⟨0, .rsl0 _ _ _ _⟩
  · cases h2
    exact ⟨cap, .rsl _ _ _ _ cap blk c e f hk (by omega) hb hcap⟩
theorem firstCells_base {size m : Nat} {base : Option Addr} {n cap n' cap' : Nat} : Builtin.firstCells size m (.slice base n cap) = Builtin.firstCells size m (.slice base n' cap') := by
  cases base <;> rfl
def copyTail (vs : Array Value) (m : Nat) (base : Option Addr) : Sem Value :=
  match base with
  | some ad => do storeCells ad vs.toList; pure (goInt m)
  | none => pure (goInt m)
theorem sound_copy {tt : Array TypeId} {t ty : TypeId} {d s : AV} {a b : Value} {out : Out} (h0 : tt[0]? = some t) (hr : HRel κ N H w)
    (hd : VRel κ (avoid κ N H) w d a) (hs : VRel κ (avoid κ N H) w s b) (h : aCopy P (hget H) t d s = some out) :
    Sound P (do pure (.value (← Builtin.copy_ tt ty #[a, b]))) N κ H w out id := by
  unfold aCopy at h
  split at h
  · rename_i T hT
    split at h
    · rename_i e i off len esz hTd
      split at h
      · rename_i E cs hE hi
        split at h
        · rename_i new0 n hsrc0
          split at h
          · rename_i new m hsrc
            split at h
            · rename_i hc
              obtain ⟨rfl, rfl, c3, c4⟩ := hc
              cases h
              have hle1 : Nat.min n len ≤ n := Nat.min_le_left _ _
              have hle2 : Nat.min n len ≤ len := Nat.min_le_right _ _
              obtain ⟨hlen, _, _, _, _⟩ := run_srcCells (P := P) hr hs hsrc0
              -- the cells of the source
              have hfc : ∃ vs, (Builtin.firstCells E.size (Nat.min n len) b).run P w = .ok vs w ∧ CRel κ (avoid κ N H) w new vs ∧ new.length = Nat.min n len * E.size := by
                have plain : (cutS s (Nat.min n len) = s) → ∃ vs, (Builtin.firstCells E.size (Nat.min n len) b).run P w = .ok vs w ∧ CRel κ (avoid κ N H) w new vs ∧ new.length = Nat.min n len * E.size := fun e => by
                  rw [e] at hsrc
                  exact (run_srcCells (P := P) hr hs hsrc).2
                cases s with
                | rsl j off' n' esz' =>
                  have hn : n' = n := by
                    simp only [srcCells] at hsrc0
                    split at hsrc0
                    · split at hsrc0
                      · cases hsrc0; rfl
                      · cases hsrc0
                    · cases hsrc0
                  subst hn
                  have hb : ∃ base cap, b = .slice base n' cap := by
                    rcases hs.rsl_inv with ⟨b', h1, h2⟩ | ⟨cap, blk, c, e, f, hk, hl, hb, hcap, h2⟩
                    · exact ⟨b', 0, by rw [h2, h1]⟩
                    · exact ⟨_, cap, h2⟩
                  obtain ⟨base, cap, rfl⟩ := hb
                  obtain ⟨cap', hs'⟩ := cutS_rel hs hle1
                  have := (run_srcCells (P := P) hr hs' hsrc).2
                  rw [firstCells_base (n' := n') (cap' := cap)] at this
                  exact this
                | _ => exact plain rfl
              obtain ⟨vs, hfc, hnew, hnl⟩ := hfc
              have hfr : ∀ X, ∀ j, Fresh κ H j → hget (hset H i X) j = none := fun X j hf => by
                rw [hget_hset]
                split
                · rename_i e; subst e; rw [hf.2] at hi; cases hi
                · exact hf.2
              have hrun : ∀ base cap, a = .slice base len cap → (Builtin.copy_ tt ty #[a, b]).run P w = (copyTail vs (Nat.min n len) base).run P w := fun base cap ha => by
                subst ha
                simp only [Builtin.copy_, h0, List.getElem?_toArray, List.getElem?_cons_zero, List.getElem?_cons_succ, Sem.run_bind, underlying, run_program, Result.andThen_ok, sliceElem hT hTd, Sem.run_pure, run_sizeOf hE, hlen, hfc]
                cases base <;> rfl
              rcases hd.rsl_inv with ⟨base, hl0, rfl⟩ | ⟨cap, blk, c, e', f, hk, hl, hb, hcap, rfl⟩
              · subst hl0
                have hm0 : Nat.min n 0 = 0 := Nat.min_zero n
                have hnil : new = [] := by rw [hm0] at hnl; simpa using hnl
                subst hnil
                have hvs : vs = #[] := by have := hnew.1; simpa using this
                subst hvs
                have hsame : ∀ j, hget (hset H i (.cells (splice cs off []))) j = hget H j := fun j => by
                  rw [hget_hset]
                  split
                  · rename_i e; subst e; rw [hi]; rfl
                  · rfl
                have st := Step.drop hr (hset H i (.cells (splice cs off []))) (fun j o hj => by rw [hsame] at hj; exact hj)
                refine ⟨κ, w, .int .i64 (Nat.min n 0), .inl ?_, st, .int _ _, fun j _ hf => ⟨hf.1, hfr _ j hf⟩⟩
                simp only [Sem.run_bind, hrun base 0 rfl]
                cases base <;> rfl
              · obtain ⟨w', g1, g2⟩ := run_storeCells (P := P) hk new vs.toList H w cs off 0 hr hi (by omega) (fun y hy => List.all_eq_true.1 c4 y hy)
                  (by simpa using hnew.1) (fun j y hy => by obtain ⟨u, hu, hur⟩ := hnew.2 j y hy; exact ⟨u, by simpa using hu, hur⟩)
                refine ⟨κ, w', .int .i64 (Nat.min n len), .inl ?_, g2, .int _ _, fun j _ hf => ⟨hf.1, hfr _ j hf⟩⟩
                simp only [Sem.run_bind, hrun _ cap rfl, copyTail, g1, Result.andThen_ok, Sem.run_pure]
                rfl
            · cases h
          · cases h
        · cases h
      · cases h
    · cases h
  · cases h
end
end Go.Am

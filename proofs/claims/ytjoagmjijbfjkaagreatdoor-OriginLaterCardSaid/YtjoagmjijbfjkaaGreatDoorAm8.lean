/-
  'aval' AS ONE FUNCTION IS FOLLOWED BY 'execOp'; frames.
-/
import Derived.Test.YtjoagmjijbfjkaaGreatDoorAm7c
import Derived.RangeFuncRecord
namespace Go.Am

section
variable {P : Program} {N : Nat → Prop} {κ : Nat → Option Nat} {H : AHeap} {w : World} {id : Nat}

theorem sound_move {x : AV} {v : Value} (hr : HRel κ N H w) (hx : VRel κ (avoid κ N H) w x v) : Sound P (pure (.value v)) N κ H w ⟨x, []⟩ id :=
  ⟨κ, w, v, .inl rfl, .refl hr, hx, fun _ _ h => h⟩

theorem aval_sound {o : Oper} {ρ : Operand → AV} {σ : Operand → Value} {out : Out} (hr : HRel κ N H w) (hid : Fresh κ H id) (hρ : ∀ x, VRel κ (avoid κ N H) w (ρ x) (σ x))
    (h : aval P o.op ρ (hget H) id = some out) : Sound P (execOp σ o) N κ H w out id := by
  obtain ⟨dst, op, ty, pos, aft, gd⟩ := o
  cases op <;> simp only [aval] at h <;> try (cases h; done)
  case move x => cases h; exact sound_move hr (hρ x)
  case assign x => cases h; exact sound_move hr (hρ x)
  case pick c a b =>
    split at h
    · rename_i t ht
      cases h
      have hc := hρ c
      rw [ht] at hc
      generalize hcv : σ c = cv at hc
      cases hc
      refine ⟨κ, w, if t = true then σ a else σ b, .inl ?_, .refl hr, ?_, fun _ _ h => h⟩
      · simp [execOp, hcv, asBool]
      · cases t
        · exact hρ b
        · exact hρ a
    · cases h
  case alloc e =>
    split at h
    · rename_i T hT; cases h; exact sound_alloc hr hid hT
    · cases h
  case box e x =>
    split at h
    · rename_i cs hc; cases h; exact sound_box hr hid (hρ x) hc
    · cases h
  case build t parts =>
    have := sound_build (P := P) (w := w) (id := id) (l := parts.toList) (ρ := ρ) (σ := σ) hr (fun p _ => hρ p.2) h
    simp only [execOp]
    rw [show (parts.map fun x => (x.1, σ x.2)) = (parts.toList.map fun p => (p.1, σ p.2)).toArray from by rw [← Array.toList_map]]
    exact this
  case buildSlice t len parts =>
    have := sound_buildSlice (P := P) (w := w) (id := id) (l := parts.toList) (ρ := ρ) (σ := σ) hr hid (fun p _ => hρ p.2) h
    simp only [execOp]
    rw [show (parts.map fun x => (x.1, σ x.2)) = (parts.toList.map fun p => (p.1, σ p.2)).toArray from by rw [← Array.toList_map]]
    exact this
  case makeSlice t l c => exact sound_makeSlice hr hid (hρ l) (hρ c) h
  case load t a => exact sound_load hr (hρ a) h
  case store t a x => exact sound_store hr (hρ a) (hρ x) h
  case binOp op t x y ty' =>
    cases hb : abin P op t (ρ x) (ρ y) with
    | none => rw [hb] at h; cases h
    | some r => rw [hb] at h; cases h; exact sound_binOp hr (hρ x) (hρ y) hb
  case unOp op t x =>
    cases hb : aun op (ρ x) with
    | none => rw [hb] at h; cases h
    | some r => rw [hb] at h; cases h; exact sound_unOp hr (hρ x) hb
  case convert s d x =>
    cases hb : aConvert P s d (ρ x) with
    | none => rw [hb] at h; cases h
    | some r => rw [hb] at h; cases h; exact sound_convert hr (hρ x) hb
  case makeInterface t x =>
    cases hb : aMakeIface P t (ρ x) with
    | none => rw [hb] at h; cases h
    | some r => rw [hb] at h; cases h; exact sound_iface hr (hρ x) hb
  case fieldAddr s x f =>
    cases hb : aFieldAddr P s (ρ x) f with
    | none => rw [hb] at h; cases h
    | some r => rw [hb] at h; cases h; exact sound_fieldAddr hr (hρ x) hb
  case field s x f =>
    cases hb : aField P s (ρ x) f with
    | none => rw [hb] at h; cases h
    | some r => rw [hb] at h; cases h; exact sound_field hr (hρ x) hb
  case indexAddr t x i =>
    cases hb : aindexAddr P (hget H) t (ρ x) (ρ i) with
    | none => rw [hb] at h; cases h
    | some r => rw [hb] at h; cases h; exact sound_indexAddr hr (hρ x) (hρ i) hb
  case nilCheck x =>
    cases hb : aNilCheck (ρ x) with
    | none => rw [hb] at h; cases h
    | some r =>
      rw [hb] at h; cases h
      have hx := hρ x
      unfold aNilCheck at hb
      split at hb <;> cases hb
      all_goals
        rename_i e
        rw [e] at hx
        generalize hv : σ x = v at hx
        have hx' := hx
        cases hx
        exact ⟨κ, w, _, .inl (by simp [execOp, hv]), .refl hr, hx', fun _ _ h => h⟩
  case lookup t x k ok =>
    cases hb : aLookup P (hget H) t (ρ x) (ρ k) ok with
    | none => rw [hb] at h; cases h
    | some r => rw [hb] at h; cases h; exact sound_lookup hr (hρ x) (hρ k) hb
  case mapUpdate t m k x => exact sound_mapUpdate hr (hρ m) (hρ k) (hρ x) h
  case insert t m k x => exact sound_mapUpdate hr (hρ m) (hρ k) (hρ x) h
  case index t x i =>
    cases hb : aIndex P t (ρ x) (ρ i) with
    | none => rw [hb] at h; cases h
    | some r => rw [hb] at h; cases h; exact sound_index hr (hρ x) (hρ i) hb
  case makeFunc f fs cs =>
    cases h
    refine ⟨κ, w, .func f (fs.map σ) (cs.map σ), .inl (by simp [execOp, Instr.makeFunc]), .refl hr, ?_, fun _ _ h => h⟩
    refine .fn _ _ _ _ _ (fun i => (fs[i]?.map σ).getD default) (fun i => (cs[i]?.map σ).getD default) (by simp) (by simp) ?_ ?_ ?_ ?_
    all_goals
      intro i c hi
      rw [List.getElem?_map, Array.getElem?_toList] at hi
    · cases hf : fs[i]? with
      | none => rw [hf] at hi; cases hi
      | some x => simp [hf]
    · cases hf : cs[i]? with
      | none => rw [hf] at hi; cases hi
      | some x => simp [hf]
    · cases hf : fs[i]? with
      | none => rw [hf] at hi; cases hi
      | some x => rw [hf] at hi; cases hi; exact hρ x
    · cases hf : cs[i]? with
      | none => rw [hf] at hi; cases hi
      | some x => rw [hf] at hi; cases hi; exact hρ x
  case makeMap t r =>
    cases r with
    | some _ => cases h
    | none =>
      cases h
      refine ⟨_, _, .map (some w.heap.size), .inl ?_, .allocMap hr hid, .mref _ _ withNew_new, fun j hj hf => ⟨?_, ?_⟩⟩
      · simp [execOp, Instr.makeMap]
      all_goals have hj : j ≠ id := hj.resolve_right (by simp)
      · rw [withNew_old hj]; exact hf.1
      · show hget (hset H id _) j = none
        rw [hget_hset, if_neg (Ne.symm hj)]; exact hf.2
  case slice t x lo hi mx =>
    cases mx with
    | some _ => simp only at h; cases h
    | none =>
      simp only at h
      cases hb : aSlice P (hget H) t (ρ x) (lo.map ρ) (hi.map ρ) with
      | none => rw [hb] at h; cases h
      | some r => rw [hb] at h; cases h; exact sound_slice hr hρ (hρ x) hb
  case call c =>
    obtain ⟨cal, args, ts⟩ := c
    cases cal <;> simp only [reduceCtorEq] at h
    rename_i b
    have hrun : ∀ (s : Sem Value), Sound P (do pure (.value (← s))) N κ H w out id → (builtin b ts ty (args.map fun | .const _ => true | _ => false) (args.map σ)) = (do pure (.value (← s))) →
        Sound P (execOp σ ⟨dst, .call ⟨.builtin b, args, ts⟩, ty, pos, aft, gd⟩) N κ H w out id := by
      intro s hs he
      have : execOp σ ⟨dst, .call ⟨.builtin b, args, ts⟩, ty, pos, aft, gd⟩ = builtin b ts ty (args.map fun | .const _ => true | _ => false) (args.map σ) := rfl
      rw [this, he]; exact hs
    have hts : ∀ (l : List TypeId) (i : Nat), ts.toList = l → ts[i]? = l[i]? := fun l i e => by rw [← e, Array.getElem?_toList]
    have hargs : ∀ (l : List Operand), args.toList = l → args.map σ = (l.map σ).toArray := fun l e => by rw [← e, ← Array.toList_map]
    unfold aBuiltin at h
    split at h
    · rename_i t r x e1 e2
      cases hb : aLen P (hget H) t x with
      | none => rw [hb] at h; cases h
      | some y =>
        rw [hb] at h; cases h
        cases hal : args.toList with
        | nil => rw [hal] at e2; simp at e2
        | cons o os =>
          rw [hal] at e2
          simp only [List.map_cons, List.cons.injEq, List.map_eq_nil_iff] at e2
          obtain ⟨rfl, rfl⟩ := e2
          refine hrun _ (sound_len (ts := ts) (ty := ty) (a := σ o) (by rw [hts _ 0 e1]; rfl) hr (hρ o) hb) ?_
          rw [hargs _ hal]; rfl
    · rename_i t u r s x e1 e2
      cases hal : args.toList with
      | nil => rw [hal] at e2; simp at e2
      | cons o os =>
        cases os with
        | nil => rw [hal] at e2; simp at e2
        | cons q os =>
          rw [hal] at e2
          simp only [List.map_cons, List.cons.injEq, List.map_eq_nil_iff] at e2
          obtain ⟨rfl, rfl, rfl⟩ := e2
          refine hrun _ (sound_append (tt := ts) (ty := ty) (a := σ o) (b := σ q) (by rw [hts _ 0 e1]; rfl) (by rw [hts _ 1 e1]; rfl) hr hid (hρ o) (hρ q) h) ?_
          rw [hargs _ hal]; rfl
    · rename_i x r e2
      cases hb : foldO amin2 x r with
      | none => rw [hb] at h; cases h
      | some y =>
        rw [hb] at h; cases h
        cases hal : args.toList with
        | nil => rw [hal] at e2; simp at e2
        | cons o os =>
          rw [hal] at e2
          simp only [List.map_cons, List.cons.injEq] at e2
          obtain ⟨rfl, rfl⟩ := e2
          refine hrun _ (sound_min (ts := ts) (ty := ty) (a := σ o) (as := os.map σ) hr (hρ o) ⟨by simp, fun i c hi => ?_⟩ hb) ?_
          · rw [List.getElem?_map] at hi
            cases hz : os[i]? with
            | none => rw [hz] at hi; cases hi
            | some z => rw [hz] at hi; cases hi; exact ⟨σ z, by simp [hz], hρ z⟩
          · rw [hargs _ hal]; rfl
    · rename_i x r e2
      cases hb : foldO amax2 x r with
      | none => rw [hb] at h; cases h
      | some y =>
        rw [hb] at h; cases h
        cases hal : args.toList with
        | nil => rw [hal] at e2; simp at e2
        | cons o os =>
          rw [hal] at e2
          simp only [List.map_cons, List.cons.injEq] at e2
          obtain ⟨rfl, rfl⟩ := e2
          refine hrun _ (sound_max (ts := ts) (ty := ty) (a := σ o) (as := os.map σ) hr (hρ o) ⟨by simp, fun i c hi => ?_⟩ hb) ?_
          · rw [List.getElem?_map] at hi
            cases hz : os[i]? with
            | none => rw [hz] at hi; cases hi
            | some z => rw [hz] at hi; cases hi; exact ⟨σ z, by simp [hz], hρ z⟩
          · rw [hargs _ hal]; rfl
    · rename_i t r x k e1 e2
      cases hal : args.toList with
      | nil => rw [hal] at e2; simp at e2
      | cons o os =>
        cases os with
        | nil => rw [hal] at e2; simp at e2
        | cons q os =>
          rw [hal] at e2
          simp only [List.map_cons, List.cons.injEq, List.map_eq_nil_iff] at e2
          obtain ⟨rfl, rfl, rfl⟩ := e2
          refine hrun _ (sound_delete (ts := ts) (ty := ty) (a := σ o) (b := σ q) (by rw [hts _ 0 e1]; rfl) hr (hρ o) (hρ q) h) ?_
          rw [hargs _ hal]; rfl
    · rename_i t r x k e1 e2
      cases hal : args.toList with
      | nil => rw [hal] at e2; simp at e2
      | cons o os =>
        cases os with
        | nil => rw [hal] at e2; simp at e2
        | cons q os =>
          rw [hal] at e2
          simp only [List.map_cons, List.cons.injEq, List.map_eq_nil_iff] at e2
          obtain ⟨rfl, rfl, rfl⟩ := e2
          refine hrun _ (sound_copy (tt := ts) (ty := ty) (a := σ o) (b := σ q) (by rw [hts _ 0 e1]; rfl) hr (hρ o) (hρ q) h) ?_
          rw [hargs _ hal]; rfl
    · rename_i t r x e1 e2
      cases hb : aCap P t x with
      | none => rw [hb] at h; cases h
      | some y =>
        rw [hb] at h; cases h
        cases hal : args.toList with
        | nil => rw [hal] at e2; simp at e2
        | cons o os =>
          rw [hal] at e2
          simp only [List.map_cons, List.cons.injEq, List.map_eq_nil_iff] at e2
          obtain ⟨rfl, rfl⟩ := e2
          refine hrun _ (sound_cap (tt := ts) (ty := ty) (a := σ o) (by rw [hts _ 0 e1]; rfl) hr (hρ o) hb) ?_
          rw [hargs _ hal]; rfl
    · cases h
  case range t x => exact sound_range hr hid (hρ x) h
  case entry x => exact sound_entry hr (hρ x) h
  case extract x i =>
    split at h
    · rename_i vs hv
      have hx := hρ x
      rw [hv] at hx
      obtain ⟨us, hu, h1, h2⟩ := hx.tup_inv
      cases hi : vs[i]? with
      | none => rw [hi] at h; cases h
      | some c =>
        rw [hi] at h; cases h
        obtain ⟨u, hu1, hu2⟩ := h2 _ _ hi
        exact ⟨κ, w, u, .inl (by simp [execOp, Instr.extract, hu, hu1]), .refl hr, hu2, fun _ _ h => h⟩
    · cases h
end

/-! ### Frames -/
def aopd (env : Env) : Operand → AV
  | .tmp t => elook env t
  | .const v => ofVal v
  | .global g => gv g
  | .func f => .fn (.func f) [] []

structure St where
  env : Env
  H : AHeap
  nx : Nat

/-- What stands fast in an activation: blocks of others that are written (N), the world at its start, what of it may change (E), the numbers that came in. -/
structure G where
  N : Nat → Prop
  w0 : World
  E : Nat → Prop
  κ0 : Nat → Option Nat
  n : Nat

/-- What may stand among the deferred calls: marks of loops over functions, whose blocks nobody else knows. -/
def Marks (κ : Nat → Option Nat) (H : AHeap) (n0 : Nat) (ds : List Deferred) (w : World) : Prop :=
  ∃ ms : List Nat, ds = ms.map (fun r => { target := .collected r, args := #[] }) ∧ ms.Nodup ∧ ∀ r ∈ ms, n0 ≤ r ∧ w.heap[r]? = some (.deferred (some [])) ∧ ¬ owned κ H r
theorem Marks.step {N : Nat → Prop} {κ κ' : Nat → Option Nat} {H H' : AHeap} {n0 : Nat} {ds : List Deferred} {w w' : World} (h : Marks κ H n0 ds w) (st : Step N κ H w κ' H' w') : Marks κ' H' n0 ds w' := by
  obtain ⟨ms, h1, h2, h3⟩ := h
  refine ⟨ms, h1, h2, fun r hr => ?_⟩
  obtain ⟨h4, h5, h6⟩ := h3 r hr
  have hlt : r < w.heap.size := by
    rcases Nat.lt_or_ge r w.heap.size with h | h
    · exact h
    · rw [Array.getElem?_eq_none h] at h5; cases h5
  refine ⟨h4, (st.same r hlt h6).trans h5, fun ho => ?_⟩
  rcases st.new r ho with h | h
  · exact h6 h
  · omega

structure Rel (g : G) (κ : Nat → Option Nat) (S : St) (a : Act) (w : World) : Prop where
  h : HRel κ g.N S.H w
  fresh : ∀ id, S.nx ≤ id → Fresh κ S.H id
  sz : a.tmps.size = g.n
  env : ∀ t, VRel κ (avoid κ g.N S.H) w (elook S.env t) (a.tmps.getD t Go.undef)
  ext : ∀ id b, g.κ0 id = some b → κ id = some b
  wle : Wle g.w0 w
  same : ∀ b, b < g.w0.heap.size → ¬ g.E b → w.heap[b]? = g.w0.heap[b]?
  new : ∀ b, owned κ S.H b → g.E b ∨ g.w0.heap.size ≤ b
  defs : Marks κ S.H g.w0.heap.size a.defers w

theorem Rel.opd {g : G} {κ : Nat → Option Nat} {S : St} {a : Act} {w : World} (h : Rel g κ S a w) (x : Operand) : VRel κ (avoid κ g.N S.H) w (aopd S.env x) (a.eval x) := by
  cases x with
  | tmp t => exact h.env t
  | const v => exact ofVal_rel _ _ _ v
  | global g => exact (h.h.gl g).up
  | func f => exact .fn _ _ _ _ _ default default rfl rfl (fun i c hi => by simp at hi) (fun i c hi => by simp at hi) (fun i c hi => by simp at hi) (fun i c hi => by simp at hi)

/-- The frame behind an operation. -/
theorem Rel.put {g : G} {κ κ' : Nat → Option Nat} {S : St} {a : Act} {w w' : World} (h : Rel g κ S a w) {H' : AHeap} {nx' : Nat} (st : Step g.N κ S.H w κ' H' w') (hf : ∀ id, nx' ≤ id → Fresh κ' H' id)
    {d : Nat} (hd : d < g.n) {x : AV} {v : Value} (hv : VRel κ' (avoid κ' g.N H') w' x v) : Rel g κ' ⟨(d, x) :: S.env, H', nx'⟩ (a.put (some d) v) w' where
  h := st.hrel
  fresh := hf
  sz := by simp [Act.put, h.sz]
  env := fun t => by
    simp only [elook, Act.put]
    by_cases e : d = t
    · subst e; simp [h.sz, hd]; exact hv
    · rw [if_neg e]
      have := st.v (h.env t)
      simpa [Array.getElem?_setIfInBounds_ne e] using this
  ext := fun id b hb => st.ext _ _ (h.ext id b hb)
  wle := h.wle.trans st.wle
  same := fun b hb hn => by
    rw [st.same b (Nat.lt_of_lt_of_le hb h.wle.1) fun ho => ?_]
    · exact h.same b hb hn
    · rcases h.new b ho with h1 | h1
      · exact hn h1
      · omega
  new := fun b hb => by
    rcases st.new b hb with h1 | h1
    · exact h.new b h1
    · exact .inr (Nat.le_trans h.wle.1 h1)
  defs := h.defs.step st
theorem Rel.put0 {g : G} {κ κ' : Nat → Option Nat} {S : St} {a : Act} {w w' : World} (h : Rel g κ S a w) {H' : AHeap} {nx' : Nat} (st : Step g.N κ S.H w κ' H' w') (hf : ∀ id, nx' ≤ id → Fresh κ' H' id)
    (v : Value) : Rel g κ' ⟨S.env, H', nx'⟩ (a.put none v) w' where
  h := st.hrel
  fresh := hf
  sz := h.sz
  env := fun t => st.v (h.env t)
  ext := fun id b hb => st.ext _ _ (h.ext id b hb)
  wle := h.wle.trans st.wle
  same := fun b hb hn => by
    rw [st.same b (Nat.lt_of_lt_of_le hb h.wle.1) fun ho => ?_]
    · exact h.same b hb hn
    · rcases h.new b ho with h1 | h1
      · exact hn h1
      · omega
  new := fun b hb => by
    rcases st.new b hb with h1 | h1
    · exact h.new b h1
    · exact .inr (Nat.le_trans h.wle.1 h1)
  defs := h.defs.step st

/-- A mark is taken from the deferred calls. -/
theorem Rel.shut1 {P : Program} {g : G} {κ : Nat → Option Nat} {S : St} {a : Act} {w : World} (h : Rel g κ S a w) {d : Deferred} {ds : List Deferred} (hd : a.defers = d :: ds) :
    ∃ r w', d.target = .collected r ∧ (Instr.takeDeferred r).run P w = .ok [] w' ∧ Rel g κ S { a with defers := ds } w' := by
  obtain ⟨ms, h1, h2, h3⟩ := h.defs
  rw [hd] at h1
  cases ms with
  | nil => cases h1
  | cons r ms =>
    simp only [List.map_cons, List.cons.injEq] at h1
    obtain ⟨rfl, rfl⟩ := h1
    obtain ⟨h4, h5, h6⟩ := h3 r List.mem_cons_self
    have hne : ∀ b, b ≠ r → (w.putObj r (.deferred none)).heap[b]? = w.heap[b]? := fun b hb => by
      simp [World.putObj, Array.getElem?_setIfInBounds_ne (Ne.symm hb)]
    have hlt : r < w.heap.size := by
      rcases Nat.lt_or_ge r w.heap.size with h | h
      · exact h
      · rw [Array.getElem?_eq_none h] at h5; cases h5
    have hsz : (w.putObj r (.deferred none)).heap.size = w.heap.size := by simp [World.putObj]
    have hwle : Wle w (w.putObj r (.deferred none)) := by
      refine ⟨by rw [hsz]; exact Nat.le_refl _, fun b c e f hb => ⟨c, f, (hne b ?_).trans hb, rfl⟩, fun b L hb => ⟨L, (hne b ?_).trans hb⟩, rfl, rfl, rfl⟩
      · intro e'; subst e'; rw [h5] at hb; cases hb
      · intro e'; subst e'; rw [h5] at hb; cases hb
    have hv : ∀ {x : AV} {v : Value}, VRel κ (avoid κ g.N S.H) w x v → VRel κ (avoid κ g.N S.H) (w.putObj r (.deferred none)) x v := fun hv =>
      hv.mono0 (fun _ _ h => h) hwle (fun _ _ h => h) fun b _ _ hc => hne b fun e => hc _ (e ▸ h5)
    refine ⟨r, w.putObj r (.deferred none), rfl, ?_, ⟨⟨fun id o ho => ?_, h.h.inj, fun id b hb => by rw [hsz]; exact h.h.bd id b hb, fun b hb => by rw [hsz]; exact h.h.Nbd b hb, h.h.NH, fun i => (h.h.gl i).mono0 (fun _ _ h => h) hwle (fun _ _ h => h) fun b _ _ hc => hne b fun e => hc _ (e ▸ h5)⟩,
      h.fresh, h.sz, fun t => hv (h.env t), h.ext, h.wle.trans hwle, fun b hb hn => (hne b (by omega)).trans (h.same b hb hn), h.new, ⟨ms, rfl, (List.nodup_cons.1 h2).2, fun r' hr' => ?_⟩⟩⟩
    · exact run_takeDeferred h5
    · have ho' := h.h.rel id o ho
      have hb : ∀ b, κ id = some b → (w.putObj r (.deferred none)).heap[b]? = w.heap[b]? := fun b hb => hne b fun e => h6 ⟨id, o, ho, e ▸ hb⟩
      cases o with
      | cells cs =>
        rcases ho' with ho' | ⟨blk, c, e, g1, g2, g3, g4⟩
        · exact .inl ho'
        · exact .inr ⟨blk, c, e, g1, (hb blk g1).trans g2, g3, fun i x hx => by obtain ⟨v, v1, v2⟩ := g4 i x hx; exact ⟨v, v1, hv v2⟩⟩
      | map es =>
        obtain ⟨q, ents, clk, g1, g2, g3, hB, g4⟩ := ho'
        exact ⟨q, ents, clk, g1, (hb q g1).trans g2, g3, hB, fun i e he => by obtain ⟨m, m1, m2, m3⟩ := g4 i e he; exact ⟨m, m1, hv m2, hv m3⟩⟩
      | loop L =>
        obtain ⟨q, R, g1, g2, g3, g4, g5, g6, g7, g8, g9⟩ := ho'
        exact ⟨q, R, g1, (hb q g1).trans g2, g3, g4, g5, g6, g7, g8, fun t => hv (g9 t)⟩
      | iter cur left =>
        obtain ⟨q, m, ents, clk, seen, g1, g2, g3, g4, hB, g5, g6, g7⟩ := ho'
        refine ⟨q, m, ents, clk, seen, g1, (hb q g1).trans g2, g3, (hne m fun e => by subst e; rw [h5] at g4; cases g4).trans g4, hB, g5, fun i e he => ?_, fun e he => ?_⟩
        · obtain ⟨x, x1, x2, x3⟩ := g6 i e he
          exact ⟨x, x1, hv x2, hv x3⟩
        · obtain ⟨s, x, x1, x2, x3, x4⟩ := g7 e he
          exact ⟨s, x, x1, x2, hv x3, hv x4⟩
    · obtain ⟨e1, e2, e3⟩ := h3 r' (List.mem_cons_of_mem _ hr')
      exact ⟨e1, (hne r' fun e => (List.nodup_cons.1 h2).1 (e ▸ hr')).trans e2, e3⟩

end Go.Am

import Derived.Test.YticiopkiikcokaaN9
/-
  REGIONS IN THE TEXT's ORDER; WHOLE FUNCTIONS.
-/
namespace Go.Am

section
variable {P : Program} {ro : Option Nat} {g : G} {Q : AX → St → Prop} {S : St}

theorem AOp.mono {o : SOp} {S : St} {K K' : St → Prop} (hk : ∀ S, K S → K' S) (h : AOp P g o S K) : AOp P g o S K' := by
  obtain ⟨hd, h⟩ := h
  refine ⟨hd, ?_⟩
  split at h
  · exact hk _ h
  · split at h
    · split at h
      · refine ⟨h.1, fun κ a w cargs hr hc => (h.2 κ a w cargs hr hc).mono ?_⟩
        rintro e w' ⟨κ', H', nx', r, v, h1, h2, h3, h4, h5⟩
        exact ⟨κ', H', nx', r, v, h1, h2, h3, h4, hk _ h5⟩
      · obtain ⟨L, h1, h2, h3, h4, h5⟩ := h
        refine ⟨L, h1, h2, h3, h4, fun g' l e1 e2 e3 => (h5 g' l e1 e2 e3).mono ?_⟩
        rintro (_ | _ | _ | _) S1 hx
        · obtain ⟨L1, i1, i2, i3⟩ := hx
          refine ⟨L1, i1, i2, i3.mono ?_⟩
          rintro (_ | _ | _ | _) S2 ⟨L2, j1, j2⟩
          · exact ⟨L2, j1, hk _ j2⟩
          · exact ⟨L2, j1, hk _ j2⟩
          · exact ⟨L2, j1, hk _ j2⟩
          · exact ⟨L2, j1, hk _ j2⟩
        all_goals exact hx
      · exact h
    · exact h

theorem gd_tmp {ops : Array Oper} {tmps : Array Value} {j : Nat} {t : Nat} (h : (ops[j]?).bind (·.dst) = some t) : yielded ops tmps j = match tmps[t]? with | some (.bool b) => some b | _ => none := by
  unfold yielded; rw [h]; rfl

theorem wpOp_of {ops : Array Oper} {Q' : Exit → Act → World → Prop} {K : St → Prop} {next : Act → World → Prop} {i : Nat} {o : Oper} (hoi : ops[i]? = some o) {os : List SOp} {S : St} {κ : Nat → Option Nat} {a : Act} {w : World} (hr : Rel g κ S a w)
    (h : AOps P g (sop ops o :: os) S K) (hn : ∀ κ' S' a' w', Rel g κ' S' a' w' → AOps P g os S' K → next a' w') : wpOpIn (Fr ro) 0 P ops Q' i next a w := by
  have hso : (sop ops o).dst = o.dst ∧ (sop ops o).op = o.op := ⟨rfl, rfl⟩
  have hgd : (sop ops o).gd = o.guard.map fun p => ((ops[p.1]?).bind (·.dst), p.2) := rfl
  generalize sop ops o = so at h hso hgd
  unfold wpOpIn
  rw [hoi]
  simp only []
  have hrun : ∀ S, Rel g κ S a w → AOp P g so S (fun S' => AOps P g os S' K) → o.wpIn (Fr ro) 0 P a w next Q' := fun S hr h =>
    aop_sound hr hso h _ _ fun κ' S' a' w' hr' hk' => hn κ' S' a' w' hr' hk'
  have hskip : ∀ S, Rel g κ S a w → dstOk g so.dst ∧ AOps P g os (putV S so.dst .undef) K → (∀ f, o.about P w a.eval = some f → (Fr ro).fn f) ∧ next (a.put o.dst undef) w := fun S hr h =>
    ⟨fun _ _ => trivial, hn κ _ _ _ (by rw [← hso.1]; exact hr.skip h.1 .undef) h.2⟩
  unfold AOps at h
  cases hg : o.guard with
  | none =>
    rw [hgd, hg] at h
    have : Region.wanted o (yielded ops a.tmps) = true := by simp [Region.wanted, hg]
    rw [this]
    exact hrun S hr h
  | some p =>
    obtain ⟨j, want⟩ := p
    rw [hgd, hg] at h
    simp only [Option.map_some] at h
    have hw : Region.wanted o (yielded ops a.tmps) = (yielded ops a.tmps j == some want) := by simp [Region.wanted, hg]
    rw [hw]
    cases hd : (ops[j]?).bind (·.dst) with
    | none =>
      rw [hd] at h
      have : yielded ops a.tmps j = none := by unfold yielded; rw [hd]; rfl
      rw [this]
      exact hskip S hr h
    | some t =>
      rw [hd] at h
      simp only [] at h
      have hv := hr.env t
      rw [gd_tmp hd]
      split at h
      · rename_i b hb
        have hv := hv
        rw [hb] at hv
        generalize hu : a.tmps.getD t undef = u at hv
        cases hv
        have ht : a.tmps[t]? = some (.bool b) := by
          cases hx : a.tmps[t]? with
          | none => simp [hx, undef] at hu
          | some z => simp [hx] at hu; rw [hu]
        rw [ht]
        simp only []
        by_cases hbw : b = want
        · subst hbw
          simp only [beq_self_eq_true, if_true]
          exact hrun _ (hr.setB hb) (h.1 rfl)
        · rw [if_neg (by simpa using hbw)]
          have e' : b = !want := by cases b <;> cases want <;> simp_all
          exact hskip _ (hr.setB (e' ▸ hb)) (h.2 e')
      · rename_i hb
        rw [hb] at hv
        generalize hu : a.tmps.getD t undef = u at hv
        cases hv
        have ht : (match a.tmps[t]? with | some (Value.bool b) => some b | _ => none) = none := by
          cases hx : a.tmps[t]? with
          | none => rfl
          | some z => simp [hx] at hu; subst hu; rfl
        rw [ht]
        exact hskip S hr h
      · exact h.elim

theorem wpOps_of {ops : Array Oper} {Q' : Exit → Act → World → Prop} {K : St → Prop} (hK : ∀ κ S a w, Rel g κ S a w → K S → Q' .normal a w) :
    ∀ (l : List Nat) (os : List SOp) (S : St) (κ : Nat → Option Nat) (a : Act) (w : World), l.map (fun i => (ops[i]?).map (sop ops)) = os.map some → Rel g κ S a w → AOps P g os S K → wpOpsIn (Fr ro) 0 P ops Q' l a w := by
  intro l
  induction l with
  | nil => intro os S κ a w hl hr h; cases os with
           | nil => exact hK _ _ _ _ hr h
           | cons o os => simp at hl
  | cons i l ih =>
    intro os S κ a w hl hr h
    cases os with
    | nil => simp at hl
    | cons so os =>
      simp only [List.map_cons, List.cons.injEq] at hl
      obtain ⟨hi, hl⟩ := hl
      cases hoi : ops[i]? with
      | none => rw [hoi] at hi; cases hi
      | some o =>
        rw [hoi] at hi
        simp only [Option.map_some, Option.some.injEq] at hi
        subst hi
        rw [wpOpsIn_cons]
        exact wpOp_of hoi hr h fun κ' S' a' w' hr' hk' => ih os S' κ' a' w' hl hr' hk'

theorem acode_region {id : Nat} {ops : Array Oper} (h : AOps P g (strip ops) S (fun S' => Q .norm S')) : ACode P ro g (.region id ops false) Q S := fun κ a w hr => by
  refine wpIn_region (wpOps_of (K := fun S' => Q .norm S') (fun κ S a w hr hk => ⟨κ, S, hr, hk⟩) _ (strip ops) S κ a w ?_ hr h)
  refine List.ext_getElem? fun i => ?_
  simp only [strip, List.map_map, List.getElem?_map, Array.getElem?_toList]
  by_cases hi : i < ops.size
  · rw [List.getElem?_range hi]; simp [hi]
  · rw [List.getElem?_eq_none (by simpa using hi)]; simp [Nat.le_of_not_lt hi]

end

/-! ### Functions -/
def ares1 (P : Program) (S : St) : ResultVar → Option AV
  | .tmp t => some (elook S.env t)
  | .cell a t => (aLoad P (hget S.H) t (elook S.env a)).map (·.v)
def aresL (P : Program) (S : St) : List ResultVar → Option (List AV)
  | [] => some []
  | x :: r => match ares1 P S x, aresL P S r with | some v, some l => some (v :: l) | _, _ => none
def ares (P : Program) (S : St) (l : List ResultVar) : Option AV :=
  match aresL P S l with
  | some [] => some .undef
  | some [v] => some v
  | some l => some (.tup l)
  | none => none

def res1 (tmps : Array Value) (x : ResultVar) : Sem Value :=
  match x with
  | .tmp t => pure (tmps.getD t undef)
  | .cell a t => do loadVar t (← asAddr (tmps.getD a undef))
theorem results_eq (fn : Func) (tmps : Array Value) : results fn tmps = (do let vs ← fn.results.mapM (res1 tmps); pure (if h : vs.size = 1 then vs[0] else .tuple vs)) := rfl
theorem ares1_sound {P : Program} {g : G} {κ : Nat → Option Nat} {S : St} {a : Act} {w : World} (h : Rel g κ S a w) {x : ResultVar} {r : AV} (hr : ares1 P S x = some r) :
    ∃ v, (res1 a.tmps x).run P w = .ok v w ∧ VRel κ (avoid κ g.N S.H) w r v := by
  cases x with
  | tmp t => simp only [ares1, Option.some.injEq] at hr; subst hr; exact ⟨_, rfl, h.env t⟩
  | cell b t =>
    simp only [ares1] at hr
    cases hl : aLoad P (hget S.H) t (elook S.env b) with
    | none => rw [hl] at hr; cases hr
    | some out =>
      rw [hl] at hr; cases hr
      have hb := h.env b
      unfold aLoad at hl
      split at hl
      · cases hl
      · rename_i T hT
        split at hl
        · rename_i cs hcs
          rw [hcs] at hb
          generalize hu : a.tmps.getD b undef = u at hb
          cases hv : aread T cs with
          | none => rw [hv] at hl; cases hl
          | some y =>
            rw [hv] at hl; cases hl
            cases hb with
            | cptr _ ad u hc hvr =>
              obtain ⟨v, h1, h2⟩ := run_loadVar (P := P) (κ := κ) (av := avoid κ g.N S.H) (w := w) (a := ad) hT (fun j c hj => ⟨u j, (hc j c hj).2, (hvr j c hj).up⟩) hv
              exact ⟨v, by simp only [res1, hu]; simp [asAddr, h1], h2⟩
        · rename_i i off hcs
          rw [hcs] at hb
          generalize hu : a.tmps.getD b undef = u at hb
          split at hl
          · rename_i cs hi
            cases hv : aread T (cs.drop off) with
            | none => rw [hv] at hl; cases hl
            | some y =>
              rw [hv] at hl; cases hl
              cases hb with
              | vptr _ _ blk hk =>
                obtain ⟨v, h1, h2⟩ := run_loadVar (P := P) hT (owned_cells h.h hi hk) hv
                exact ⟨v, by simp only [res1, hu]; simp [asAddr, h1], h2⟩
          · cases hl
        · cases hl

theorem ares_sound {P : Program} {g : G} {κ : Nat → Option Nat} {S : St} {a : Act} {w : World} (h : Rel g κ S a w) {fn : Func} {r : AV} (hr : ares P S fn.results.toList = some r) :
    ∃ v, (results fn a.tmps).run P w = .ok v w ∧ VRel κ (avoid κ g.N S.H) w r v := by
  have key : ∀ (l : List ResultVar) (rs : List AV), aresL P S l = some rs → ∃ vs : List Value, (l.mapM (res1 a.tmps)).run P w = .ok vs w ∧
      vs.length = rs.length ∧ ∀ (i : Nat) (c : AV), rs[i]? = some c → ∃ u, vs[i]? = some u ∧ VRel κ (avoid κ g.N S.H) w c u := by
    intro l
    induction l with
    | nil => intro rs hl; simp only [aresL, Option.some.injEq] at hl; subst hl; exact ⟨[], rfl, rfl, fun i c hi => by simp at hi⟩
    | cons x l ih =>
      intro rs hl
      simp only [aresL] at hl
      split at hl
      · rename_i v0 l0 h1 h2
        cases hl
        obtain ⟨vs, hv1, hv2, hv3⟩ := ih l0 h2
        obtain ⟨v, hr1, hr2⟩ := ares1_sound h h1
        refine ⟨v :: vs, ?_, by simp [hv2], fun i c hi => ?_⟩
        · rw [List.mapM_cons, Sem.run_bind, hr1]
          simp only [Result.andThen_ok, Sem.run_bind, hv1, Sem.run_pure]
        · cases i with
          | zero => simp at hi; subst hi; exact ⟨v, rfl, hr2⟩
          | succ i => simpa using hv3 i c (by simpa using hi)
      · cases hl
  unfold ares at hr
  cases hl : aresL P S fn.results.toList with
  | none => rw [hl] at hr; cases hr
  | some rs =>
    rw [hl] at hr
    obtain ⟨vs, h1, h2, h3⟩ := key _ _ hl
    have hrun : (results fn a.tmps).run P w = .ok (if h : vs.toArray.size = 1 then vs.toArray[0] else .tuple vs.toArray) w := by
      rw [results_eq, Sem.run_bind, Array.mapM_eq_mapM_toList, Sem.run_map, h1]
      rfl
    clear hl key h1
    rcases rs with _ | ⟨c, rs⟩
    · simp only [Option.some.injEq] at hr; subst hr
      have : vs = [] := by simpa using h2
      subst this
      exact ⟨_, hrun, .undef⟩
    · rcases rs with _ | ⟨d, rs⟩
      · simp only [Option.some.injEq] at hr; subst hr
        obtain ⟨u, hu, hur⟩ := h3 0 c rfl
        rcases vs with _ | ⟨v, vs⟩
        · simp at h2
        · have : vs = [] := by simpa using h2
          subst this
          simp at hu; subst hu; exact ⟨_, hrun, hur⟩
      · simp only [Option.some.injEq] at hr; subst hr
        rcases vs with _ | ⟨v, vs⟩
        · simp at h2
        · rcases vs with _ | ⟨v', vs⟩
          · simp at h2
          · refine ⟨_, hrun, ?_⟩
            rw [dif_neg (by simp)]
            exact .tupOf (by simpa using h2) (fun i c hi => by obtain ⟨u, hu, hur⟩ := h3 i c hi; exact ⟨u, by simpa using hu, hur⟩)

/-- A FUNCTION THAT ONLY COMPUTES: whatever memory there is, it stays; the result is r. -/
def APure (P : Program) (f : FuncId) (args : List AV) (r : AV) : Prop :=
  ∀ (κ : Nat → Option Nat) (N : Nat → Prop) (w : World) (cargs : Array Value), (∀ b, N b → b < w.heap.size) → CRel κ N w args cargs → Calls P f cargs w fun e w' =>
    ∃ v, e = .returned v ∧ Wle w w' ∧ (∀ b, b < w.heap.size → w'.heap[b]? = w.heap[b]?) ∧ VRel κ N w' r v

def env0 : Nat → List AV → Env
  | _, [] => []
  | i, a :: r => (i, a) :: env0 (i + 1) r
theorem elook_env0 (l : List AV) : ∀ (i t : Nat), elook (env0 i l) t = if i ≤ t then (l[t - i]?).getD .any else .any := by
  induction l with
  | nil => intro i t; simp [env0, elook]
  | cons a l ih =>
    intro i t
    simp only [env0, elook, ih]
    by_cases e : i = t
    · subst e; simp
    · rw [if_neg e]
      by_cases h : i ≤ t
      · rw [if_pos h, if_pos (by omega)]
        rw [show t - i = (t - (i + 1)) + 1 from by omega]
        simp
      · rw [if_neg h, if_neg (by omega)]

/-- A return: the results are r, and bear no number. -/
def Ret (P : Program) (fn : Func) (r : AV) (x : AX) (S : St) : Prop :=
  (match x with | .norm | .ret => True | _ => False) ∧ ares P S fn.results.toList = some r

/-- A return to a caller that goes on with the results, the numbered objects, the next number. -/
def RetTo (P : Program) (fn : Func) (K : AV → AHeap → Nat → Prop) (x : AX) (S : St) : Prop :=
  (match x with | .norm | .ret => True | _ => False) ∧ ∃ r, ares P S fn.results.toList = some r ∧ K r S.H S.nx

theorem leavesM {P : Program} {F : Fence} {n : Nat} {g : G} {κ : Nat → Option Nat} {S : St} {fn : Func} {a : Act} {r : AV} {R : Ending → World → Prop} (hres : ares P S fn.results.toList = some r)
    (hR : ∀ v w', Rel g κ S { a with defers := [] } w' → VRel κ (avoid κ g.N S.H) w' r v → R (.returned v) w') :
    ∀ (ds : List Deferred) (w : World), Rel g κ S { a with defers := ds } w → LeavesInM F n P fn a.tmps R ds .returning w := by
  intro ds
  induction ds with
  | nil =>
    intro w hr
    obtain ⟨v, h1, h2⟩ := ares_sound hr hres
    exact ⟨v, h1, hR v w hr h2⟩
  | cons d ds ih =>
    intro w hr
    obtain ⟨r, w', h1, h2, h3⟩ := hr.shut1 (P := P) (d := d) (ds := ds) rfl
    exact ⟨by simp, .inl ⟨r, w', h1, h2, ih w' h3⟩⟩

def EnterPost (N : Nat → Prop) (κ : Nat → Option Nat) (H : AHeap) (w : World) (K : AV → AHeap → Nat → Prop) (e : Ending) (w' : World) : Prop :=
  ∃ v r κ' H' nx', e = .returned v ∧ Step N κ H w κ' H' w' ∧ (∀ id, nx' ≤ id → Fresh κ' H' id) ∧ VRel κ' (avoid κ' N H') w' r v ∧ K r H' nx'
/-- A FUNCTION IS ENTERED: its body runs over the caller's numbered objects. -/
theorem enter {P : Program} {f : FuncId} {fn : Func} {c : Code} {args : List AV} (hf : P.funcs[f]? = some fn) (hb : fn.body = some c) {κ : Nat → Option Nat} {N : Nat → Prop} {H : AHeap} {w : World} {cargs : Array Value} {nx : Nat}
    (hr : HRel κ N H w) (hfr : ∀ id, nx ≤ id → Fresh κ H id) (hargs : CRel κ (avoid κ N H) w args cargs) {K : AV → AHeap → Nat → Prop}
    (h : ∀ g : G, g.n = args.length + (fn.ntmps - args.length) → g.low nx → ACode P none g c (RetTo P fn K) ⟨env0 0 args, H, nx⟩) :
    Calls P f cargs w (EnterPost N κ H w K) := by
  refine callsIn_wide.1 (callsIn_of_wp_marks (n := 0) (F := Fence.wide) hf hb trivial ?_)
  let g : G := { N := N, w0 := w, E := owned κ H, κ0 := κ, n := args.length + (fn.ntmps - args.length) }
  have hlow : g.low nx := fun id hid => Nat.lt_of_not_le fun hle => hid (hfr id hle).1
  have hrel : Rel g κ ⟨env0 0 args, H, nx⟩ { tmps := cargs ++ Array.replicate (fn.ntmps - cargs.size) undef, defers := [] } w := by
    refine ⟨hr, hfr, ?_, fun t => ?_, fun id b hb => hb, .refl w, fun b _ _ => rfl, fun b hb => .inl hb, ⟨[], rfl, List.nodup_nil, fun r hr => by cases hr⟩⟩
    · simp [hargs.1, g]
    · show VRel κ (avoid κ N H) w _ _
      rw [elook_env0, if_pos (Nat.zero_le _), Nat.sub_zero]
      cases ht : args[t]? with
      | none => exact .any _
      | some x =>
        obtain ⟨u, hu, hur⟩ := hargs.2 t x ht
        have hlt : t < cargs.size := by
          rcases Nat.lt_or_ge t cargs.size with h | h
          · exact h
          · rw [Array.getElem?_eq_none h] at hu; cases hu
        have : (cargs ++ Array.replicate (fn.ntmps - cargs.size) undef).getD t undef = u := by
          rw [Array.getD_eq_getD_getElem?, Array.getElem?_append, if_pos hlt, hu]; rfl
        simp only [Option.getD_some]
        rw [this]
        exact hur
  refine wpIn_mono (h g rfl hlow _ _ _ hrel) fun e a' w' hq => ?_
  have fin : ∀ κ' S', Rel g κ' S' a' w' → RetTo P fn K .ret S' → LeavesInM Fence.wide 0 P fn a'.tmps (EnterPost N κ H w K) a'.defers .returning w' := fun κ' S' hr' hk => by
    obtain ⟨_, r, hres, hK⟩ := hk
    exact leavesM (a := a') hres (fun v w'' hw hv => ⟨v, r, κ', S'.H, S'.nx, rfl, ⟨hw.ext, hw.wle, hw.same, hw.new, hw.h⟩, hw.fresh, hv, hK⟩) a'.defers w' hr'
  cases e with
  | normal => obtain ⟨κ', S', h1, h2⟩ := hq; exact fin κ' S' h1 ⟨trivial, h2.2⟩
  | ret => obtain ⟨κ', S', h1, h2⟩ := hq; exact fin κ' S' h1 h2
  | exit _ => obtain ⟨κ', S', h1, h2⟩ := hq; exact h2.1.elim
  | goto _ => obtain ⟨κ', S', h1, h2⟩ := hq; exact h2.1.elim
  | panic _ => exact hq.elim
  | outgrown => exact hq.elim

theorem CallOk.enter {P : Program} {g : G} {f : FuncId} {fn : Func} {c : Code} {args : List AV} (hf : P.funcs[f]? = some fn) (hb : fn.body = some c) {S : St} {K : AV → St → Prop}
    (h : ∀ g : G, g.n = args.length + (fn.ntmps - args.length) → g.low S.nx → ACode P none g c (RetTo P fn fun r H' nx' => K r ⟨S.env, H', nx'⟩) ⟨env0 0 args, S.H, S.nx⟩) : CallOk P g f args S K := by
  intro κ a w cargs hr hc
  refine (Am.enter hf hb hr.h hr.fresh hc h).mono ?_
  rintro e w' ⟨v, r, κ', H', nx', rfl, h1, h2, h3, h4⟩
  exact ⟨κ', H', nx', r, v, rfl, h1, h2, h3, h4⟩

theorem APure.intro {P : Program} {f : FuncId} {fn : Func} {c : Code} {args : List AV} {r : AV} (hf : P.funcs[f]? = some fn) (hb : fn.body = some c) (ha : okL 0 args = true) (hr : r.ok 0 = true)
    (h : ∀ g : G, g.n = args.length + (fn.ntmps - args.length) → g.low 0 → ACode P none g c (Ret P fn r) ⟨env0 0 args, [], 0⟩) : APure P f args r := by
  intro κ N w cargs hN hargs
  have hown : ∀ b, ¬ owned (fun _ => none) [] b := fun b ⟨id, o, ho, _⟩ => by simp [hget] at ho
  have hav : avoid (fun _ => none) N [] = N := by
    funext b; unfold avoid; exact propext ⟨fun h => h.resolve_right (hown b), .inl⟩
  have hh : HRel (fun _ => none) N [] w := ⟨fun id o ho => (by simp [hget] at ho), fun id id' b o o' ho => (by simp [hget] at ho), fun id b hb => (by cases hb), hN, fun b _ => hown b⟩
  have hc : CRel (fun _ => none) (avoid (fun _ => none) N []) w args cargs := by
    rw [hav]
    exact ⟨hargs.1, fun i c hi => by
      obtain ⟨u, hu, hur⟩ := hargs.2 i c hi
      exact ⟨u, hu, hur.low (fun id hid => absurd hid (Nat.not_lt_zero _)) (okL_get ha hi)⟩⟩
  refine (enter hf hb (K := fun r' _ _ => r' = r) hh (fun id _ => ⟨rfl, rfl⟩) hc fun g h1 h2 => (h g h1 h2).mono fun x S hx => ⟨hx.1, r, hx.2, rfl⟩).mono ?_
  rintro e w' ⟨v, r', κ', H', nx', rfl, h1, h2, h3, rfl⟩
  refine ⟨v, rfl, h1.wle, fun b hb => h1.same b hb (hown b), ?_⟩
  have := h3.low (κ' := κ) (nx' := 0) (fun id hid => absurd hid (Nat.not_lt_zero _)) hr
  exact this.mono (fun _ _ h => h) (.refl _) (fun b _ hb => .inl hb) (fun _ _ _ => rfl)

/-- At a call. -/
theorem CallOk.pure {P : Program} {g : G} {f : FuncId} {args : List AV} {r : AV} (h : APure P f args r) {S : St} {K : AV → St → Prop} (hk : K r S) : CallOk P g f args S K := by
  intro κ a w cargs hr hc
  refine (h κ (avoid κ g.N S.H) w cargs ?_ hc).mono ?_
  · rintro b (hb | ⟨id, o, _, hb⟩)
    · exact hr.h.Nbd b hb
    · exact hr.h.bd id b hb
  · rintro e w' ⟨v, rfl, hle, hs, hv⟩
    refine ⟨κ, S.H, S.nx, r, v, rfl, ?_, hr.fresh, hv, hk⟩
    exact .mk' hr.h (fun _ _ h => h) hle (fun b hb _ => hs b hb) (fun b hb => .inl hb) (fun id b hb => Nat.lt_of_lt_of_le (hr.h.bd id b hb) hle.1) hr.h.inj
      (fun id o ho => .inl ⟨ho, fun h => h, fun b hb => hs b (hr.h.bd id b hb)⟩)

end Go.Am

import Derived.Test.YticiopkiikcokaaN11
/-
  THE THEOREM ON REGIONS THAT DRAW.
-/
namespace Go.Am

section
variable {P : Program} {ro : Option Nat} {g : G} {Q : AX → St → Prop}

theorem run_of_dops {base : Nat} {K : St → List FP → Prop} : ∀ (os : List SOp) (i : Nat) (S : St) (fs : List FP), DOps P g base i os S fs K →
    ∃ (items : List Item) (S' : St), items.map (·.i) = List.range' i os.length ∧ items.map (·.so) = os ∧ TRun P g base S items S' ∧ K S' (fs ++ items.map (·.fp)) := by
  intro os
  induction os with
  | nil => intro i S fs h; exact ⟨[], S, rfl, rfl, .refl S, by simpa [DOps] using h⟩
  | cons o os ih =>
    intro i S fs h
    have step : ∀ (S : St) (e : Eff) (f : FP) (act : Bool), Fits P g base ⟨i, o, f, e, act⟩ S → DOps P g base (i + 1) os (app S o.dst e) (fs ++ [f]) K →
        ∃ (items : List Item) (S' : St), items.map (·.i) = List.range' i (o :: os).length ∧ items.map (·.so) = o :: os ∧ TRun P g base S items S' ∧ K S' (fs ++ items.map (·.fp)) := by
      intro S e f act hf hd
      obtain ⟨items, S', h1, h2, h3, h4⟩ := ih _ _ _ hd
      exact ⟨⟨i, o, f, e, act⟩ :: items, S', by simp [h1, List.range'_succ], by simp [h2], ⟨hf, h3⟩, by simpa using h4⟩
    have exec : ∀ S : St, (match o.gd with | none => True | some (some t, want) => elook S.env t = .bool want | some (none, _) => False) →
        DOp P g base i o S (fun e f => DOps P g base (i + 1) os (app S o.dst e) (fs ++ [f]) K) →
        ∃ (items : List Item) (S' : St), items.map (·.i) = List.range' i (o :: os).length ∧ items.map (·.so) = o :: os ∧ TRun P g base S items S' ∧ K S' (fs ++ items.map (·.fp)) := by
      intro S hgd hd
      obtain ⟨hds, hd⟩ := hd
      split at hd
      · rename_i out hout
        exact step S _ _ true ⟨by unfold Does; rw [if_pos rfl]; exact ⟨hgd, hds, .inl ⟨out, hout, rfl, rfl⟩⟩, rfl, rfl, rfl, rfl⟩ hd
      · split at hd
        · rename_i f args ts hop
          split at hd
          · rename_i fid first captured hf
            obtain ⟨h1, r, is, h2, h3⟩ := hd
            exact step S _ _ true ⟨by unfold Does; rw [if_pos rfl]; exact ⟨hgd, hds, .inr ⟨f, args, ts, fid, first, captured, r, is, hop, hf, h1, h2, rfl, rfl⟩⟩, rfl, rfl, rfl, rfl⟩ h3
          · exact hd.elim
        · exact hd.elim
    have skip : ∀ S : St, (match o.gd with | none => False | some (some t, want) => elook S.env t = .bool (!want) ∨ elook S.env t = .undef | some (none, _) => True) →
        dstOk g o.dst ∧ DOps P g base (i + 1) os (app S o.dst ⟨.undef, []⟩) (fs ++ [⟨i, tmpsOf o, [], o.dst, []⟩]) K →
        ∃ (items : List Item) (S' : St), items.map (·.i) = List.range' i (o :: os).length ∧ items.map (·.so) = o :: os ∧ TRun P g base S items S' ∧ K S' (fs ++ items.map (·.fp)) := by
      intro S hgd hd
      exact step S _ _ false ⟨by unfold Does; rw [if_neg (by simp)]; exact ⟨hgd, hd.1, rfl⟩, rfl, rfl, rfl, rfl⟩ hd.2
    unfold DOps at h
    cases hg : o.gd with
    | none => rw [hg] at h exec; exact exec S trivial h
    | some p =>
      obtain ⟨t, want⟩ := p
      rw [hg] at h exec skip
      cases t with
      | none => exact skip S trivial h
      | some t =>
        simp only [] at h exec skip
        have hset : ∀ b, elook S.env t = .bool b → SEq (setB S t b) S := fun b hb => ⟨fun t' => by
          show (if t = t' then AV.bool b else elook S.env t') = _
          split
          · rename_i e; subst e; exact hb.symm
          · rfl, fun _ => rfl, rfl⟩
        split at h
        · rename_i b hb
          by_cases e : b = want
          · obtain ⟨items, S', h1, h2, h3, h4⟩ := exec (setB S t want) (by simp [setB, elook]) (h.1 e)
            exact ⟨items, S', h1, h2, TRun.congr _ (hset _ (e ▸ hb)) h3, h4⟩
          · have e' : b = !want := by cases b <;> cases want <;> simp_all
            obtain ⟨items, S', h1, h2, h3, h4⟩ := skip (setB S t !want) (.inl (by simp [setB, elook])) (h.2 e')
            exact ⟨items, S', h1, h2, TRun.congr _ (hset _ (e' ▸ hb)) h3, h4⟩
        · rename_i hb; exact skip S (.inr hb) h
        · exact h.elim

theorem does_sound {ops : Array Oper} {base i : Nat} {o : Oper} (hi : ops[i]? = some o) {S : St} {e : Eff} {hr0 : List Nat} {act : Bool} (hd : Does P g base i (sop ops o) S e hr0 act) {κ : Nat → Option Nat} {a : Act} {w : World} (hr : Rel g κ S a w)
    (hb : base + i < S.nx) (hf : Fresh κ S.H (base + i)) {K : Act → World → Prop} {Q' : Exit → Act → World → Prop}
    (hk : ∀ κ' a' w', Rel g κ' (app S o.dst e) a' w' → (∀ j, j ≠ base + i → Fresh κ S.H j → Fresh κ' (upH S.H e.ups) j) → K a' w') : wpOpIn (Fr ro) 0 P ops Q' i K a w := by
  unfold wpOpIn
  rw [hi]
  simp only []
  have hgd : (sop ops o).gd = o.guard.map fun p => ((ops[p.1]?).bind (·.dst), p.2) := rfl
  have hyb : ∀ (t : Nat) (b : Bool), elook S.env t = .bool b → a.tmps[t]? = some (.bool b) := by
    intro t b hb
    have hv := hr.env t
    rw [hb] at hv
    generalize hu : a.tmps.getD t undef = u at hv
    cases hv
    cases hx : a.tmps[t]? with
    | none => simp [hx, undef] at hu
    | some z => simp [hx] at hu; rw [hu]
  have hyu : ∀ (t : Nat), elook S.env t = .undef → ∀ b, a.tmps[t]? ≠ some (.bool b) := by
    intro t hb b hx
    have hv := hr.env t
    rw [hb] at hv
    have : a.tmps.getD t undef = .bool b := by simp [hx]
    rw [this] at hv
    cases hv
  unfold Does at hd
  cases act with
  | true =>
    rw [if_pos rfl] at hd
    obtain ⟨hg, hds, hact⟩ := hd
    have hw : Region.wanted o (yielded ops a.tmps) = true := by
      unfold Region.wanted
      rw [hgd] at hg
      cases hog : o.guard with
      | none => rfl
      | some p =>
        obtain ⟨j, want⟩ := p
        rw [hog] at hg
        simp only [Option.map_some] at hg
        cases hdd : (ops[j]?).bind (·.dst) with
        | none => rw [hdd] at hg; exact hg.elim
        | some t =>
          rw [hdd] at hg
          simp only [] at hg ⊢
          rw [gd_tmp hdd, hyb t want hg]
          simp
    rw [hw]
    simp only [if_true]
    refine ⟨fun _ _ => trivial, ?_⟩
    rcases hact with ⟨out, hout, _, rfl⟩ | ⟨f, args, ts, fid, first, captured, r, is, hop, hfv, hfn, hap, _, rfl⟩
    · have hop : (sop ops o).op = o.op := rfl
      rw [hop] at hout
      obtain ⟨κ', w', v, hrun, st, hv, hfr⟩ := aval_sound (P := P) (o := o) hr.h hf (fun x => hr.opd x) hout
      have hdef : ∀ c, o.op ≠ .defer c := by
        intro c e; rw [e] at hout; simp [aval] at hout
      have hsem : o.semAt (Fr ro).round a.eval = execOp a.eval o := Oper.semAt_eq _ _ _ hdef
      have hnx : ∀ id, S.nx ≤ id → Fresh κ' (upH S.H out.ups) id := fun id hid => hfr id (.inl (by omega)) (hr.fresh id hid)
      have hrel : Rel g κ' (app S o.dst ⟨out.v, out.ups⟩) (a.put o.dst v) w' := by
        have hds' : dstOk g o.dst := hds
        cases hd' : o.dst with
        | none => exact hr.put0 st hnx v
        | some d => rw [hd'] at hds'; exact hr.put st hnx hds' hv
      rw [hsem]
      rcases hrun with hrun | ⟨hrun, rfl⟩
      · rw [hrun]; exact hk _ _ _ hrel fun j hj => hfr j (.inl hj)
      · rw [hrun]; exact hk _ _ _ hrel fun j hj => hfr j (.inl hj)
    · have hop' : o.op = .call { callee := .value f, args := args, argTypes := ts } := hop
      have hv := hr.opd f
      rw [hfv] at hv
      generalize hfe : a.eval f = fv at hv
      have hsem : o.semAt (Fr ro).round a.eval = execOp a.eval o := Oper.semAt_eq _ _ _ (fun c e => by rw [hop'] at e; cases e)
      rw [hsem]
      cases hv with
      | fn _ _ _ vs us uf uc hlf hlc hf' hc' hvf hvc =>
        obtain ⟨fn, hfn', hname, hbody⟩ := isFn_spec hfn
        have hrun : (execOp a.eval o).run P w = .ok (.enter fid (vs ++ args.map a.eval ++ us)) w := by
          simp [execOp, hop', resolve, hfe, Deferred.ofValue, invoke, callFunc, hfn', hname, hbody]
        rw [hrun, Oper.uponIn_enter]
        refine ⟨fun h => by simp [Fr, Fence.wide] at h, ?_⟩
        have hargs := CRel.args hr (fs := first) (cs := captured) (vs := vs) (us := us) ⟨hlf, fun i c hi => ⟨_, hf' i c hi, hvf i c hi⟩⟩ ⟨hlc, fun i c hi => ⟨_, hc' i c hi, hvc i c hi⟩⟩ args
        have hin : ∀ {R : Ending → World → Prop}, Calls P fid (vs ++ args.map a.eval ++ us) w R → CallsIn (Fr ro) (0 - 1) P fid (vs ++ args.map a.eval ++ us) w R :=
          fun h => (callsIn_wide (n := 0 - 1)).2 h
        refine (hin (hap.calls hr.h hargs)).mono ?_
        · rintro e w' ⟨v, rfl, hle, hs, hv⟩
          have st : Step g.N κ S.H w κ S.H w' := .still hr.h hle hs
          refine hk κ _ _ ?_ (fun j _ h => h)
          have hds' : dstOk g o.dst := hds
          cases hd' : o.dst with
          | none => exact hr.put0 st hr.fresh v
          | some d => rw [hd'] at hds'; exact hr.put st hr.fresh hds' hv
  | false =>
    rw [if_neg (by simp)] at hd
    obtain ⟨hg, hds, rfl⟩ := hd
    have hw : Region.wanted o (yielded ops a.tmps) = false := by
      unfold Region.wanted
      rw [hgd] at hg
      cases hog : o.guard with
      | none => rw [hog] at hg; exact hg.elim
      | some p =>
        obtain ⟨j, want⟩ := p
        rw [hog] at hg
        simp only [Option.map_some] at hg ⊢
        cases hdd : (ops[j]?).bind (·.dst) with
        | none => unfold yielded; rw [hdd]; rfl
        | some t =>
          rw [hdd] at hg
          simp only [] at hg ⊢
          rw [gd_tmp hdd]
          rcases hg with hg | hg
          · rw [hyb t _ hg]; cases want <;> simp
          · have := hyu t hg
            split
            · rename_i b hb; exact absurd hb (this b)
            · rfl
    rw [hw]
    simp only [Bool.false_eq_true, if_false]
    exact ⟨fun _ _ => trivial, hk κ _ _ (hr.skip (S := S) (dst := o.dst) hds .undef) (fun j _ h => h)⟩

structure Clo (ops : Array Oper) (listed : Array Bool) : Prop where
  sz : listed.size = ops.size
  clo : ∀ i o, ops[i]? = some o → listed.getD i true = true → ∀ e ∈ o.after, Region.binds .any e = true → e.on < i → listed.getD e.on true = true

theorem Clo.anc {ops : Array Oper} {A : Array Nat} {listed : Array Bool} (h : Clo ops listed) (hc : closedB ops A = true) (he : earlierB ops = true) : ∀ (i j : Nat), i < ops.size → j < ops.size → listed.getD i true = true → (A.getD i 0).testBit j = true → listed.getD j true = true := by
  intro i
  induction i using Nat.strongRecOn with
  | _ i ih =>
    intro j hi hj hl ht
    unfold closedB at hc
    rw [List.all_eq_true] at hc
    have h1 := hc i (List.mem_range.2 hi)
    rw [List.all_eq_true] at h1
    have h2 := h1 j (List.mem_range.2 hj)
    rw [ht] at h2
    simp only [Bool.not_true, Bool.false_or] at h2
    cases ho : ops[i]? with
    | none => rw [ho] at h2; cases h2
    | some o =>
      rw [ho] at h2
      simp only [Array.any_eq_true', Bool.and_eq_true, Bool.or_eq_true, beq_iff_eq, decide_eq_true_eq] at h2
      obtain ⟨e, hemem, hb, h3⟩ := h2
      have hon : e.on < i := by
        unfold earlierB at he
        rw [List.all_eq_true] at he
        have := he i (List.mem_range.2 hi)
        rw [ho] at this
        simp only [Array.all_eq_true'] at this
        have := this e hemem
        rw [hb] at this
        simpa using this
      have hle := h.clo i o ho hl e hemem hb hon
      rcases h3 with h3 | ⟨h3, h4⟩
      · rw [← h3]; exact hle
      · exact ih e.on hon j (by omega) hj hle h4


theorem listed_get {listed : Array Bool} {k : Nat} (hk : k < listed.size) (i : Nat) : (listed.setIfInBounds k true).getD i true = if i = k then true else listed.getD i true := by
  rw [Array.getD_eq_getD_getElem?, Array.getD_eq_getD_getElem?]
  by_cases e : i = k
  · subst e; rw [Array.getElem?_setIfInBounds_self_of_lt hk]; simp
  · rw [Array.getElem?_setIfInBounds_ne (Ne.symm e), if_neg e]

theorem ready_lt {ops : Array Oper} {listed : Array Bool} {k : Nat} (hr : k ∈ Region.ready .any ops listed) : k < ops.size ∧ ¬ listed.getD k true = true := by
  unfold Region.ready at hr
  have h1 := List.mem_filter.1 hr
  refine ⟨List.mem_range.1 h1.1, ?_⟩
  have := h1.2
  simp only [Bool.and_eq_true] at this
  simpa using this.1

theorem Clo.next {ops : Array Oper} {listed : Array Bool} (h : Clo ops listed) {k : Nat} (hr : k ∈ Region.ready .any ops listed) : Clo ops (listed.setIfInBounds k true) := by
  have hk := (ready_lt hr).1
  refine ⟨by simpa using h.sz, ?_⟩
  intro i o ho hl e he hb hlt
  rw [listed_get (by rw [h.sz]; exact hk)] at hl ⊢
  by_cases e1 : e.on = k
  · rw [if_pos e1]
  · rw [if_neg e1]
    by_cases e2 : i = k
    · subst e2
      unfold Region.ready at hr
      simp only [List.mem_filter, Bool.and_eq_true, ho, Option.map_some, Option.getD_some] at hr
      have := hr.2.2
      rw [Array.all_eq_true'] at this
      have := this e he
      rw [hb] at this
      simp only [Bool.not_true, Bool.false_or] at this
      rw [Array.getD_eq_getD_getElem?] at this ⊢
      cases hx' : listed[e.on]? with
      | none => rfl
      | some z => rw [hx'] at this; simpa using this
    · rw [if_neg e2] at hl
      exact h.clo i o ho hl e he hb hlt

/-- What stands ahead of an operation that is ready is listed. -/
theorem Clo.ahead {ops : Array Oper} {A : Array Nat} {listed : Array Bool} (h : Clo ops listed) (hc : closedB ops A = true) (he : earlierB ops = true) {i j : Nat} (hr : i ∈ Region.ready .any ops listed) (hj : j < i) (ht : (A.getD i 0).testBit j = true) :
    listed.getD j true = true := by
  have hi := (ready_lt hr).1
  have hg := fun q => listed_get (listed := listed) (k := i) (by rw [h.sz]; exact hi) q
  have := (h.next hr).anc hc he i j hi (by omega) (by rw [hg, if_pos rfl]) ht
  rw [hg, if_neg (by omega)] at this
  exact this

/-- An operation behind listed ones alone is ready. -/
theorem ready_of {ops : Array Oper} {listed : Array Bool} (h : Clo ops listed) (he : earlierB ops = true) {k : Nat} (hk : k < ops.size) (hl : ¬ listed.getD k true = true) (hb : ∀ j, j < k → listed.getD j true = true) : k ∈ Region.ready .any ops listed := by
  unfold Region.ready
  have ho : ops[k]? = some ops[k] := Array.getElem?_eq_getElem hk
  simp only [List.mem_filter, List.mem_range, hk, true_and, ho, Option.map_some, Option.getD_some, Bool.and_eq_true]
  refine ⟨by simpa using hl, ?_⟩
  rw [Array.all_eq_true']
  intro e hemem
  cases hbd : Region.binds .any e with
  | false => rfl
  | true =>
    have hon : e.on < k := by
      unfold earlierB at he
      rw [List.all_eq_true] at he
      have := he k (List.mem_range.2 hk)
      rw [ho] at this
      simp only [Array.all_eq_true'] at this
      have := this e hemem
      rw [hbd] at this
      simpa using this
    have hl := hb e.on hon
    have : listed.getD e.on false = true := by
      rw [Array.getD_eq_getD_getElem?] at hl ⊢
      have hlt : e.on < listed.size := by rw [h.sz]; omega
      rw [Array.getElem?_eq_getElem hlt] at hl ⊢
      simpa using hl
    simp [this]

structure Inv (ops : Array Oper) (A : Array Nat) (m : Nat) (listed : Array Bool) (items : List Item) : Prop where
  c : Clo ops listed
  mle : m ≤ ops.size
  lt : ∀ x ∈ items, x.i < m
  op : ∀ x ∈ items, ∃ o, ops[x.i]? = some o ∧ x.so = sop ops o
  mem : ∀ i, i < m → (listed.getD i true = true ↔ i ∉ items.map (·.i))
  late : ∀ i, m ≤ i → i < ops.size → listed.getD i true = false
  ord : items.Pairwise fun x y => x.i < y.i
  ind : items.Pairwise fun x y => (A.getD y.i 0).testBit x.i = true ∨ FP.apart y.fp x.fp = true

theorem Inv.next {ops : Array Oper} {A : Array Nat} {m : Nat} {listed : Array Bool} {pre post : List Item} {x : Item} (h : Inv ops A m listed (pre ++ x :: post)) (hr : x.i ∈ Region.ready .any ops listed) : Inv ops A m (listed.setIfInBounds x.i true) (pre ++ post) := by
  have hx : x.i < m := h.lt x (by simp)
  have hord := h.ord
  have hget := fun i => listed_get (listed := listed) (k := x.i) (by rw [h.c.sz]; have := h.mle; omega) i
  have hsub : (pre ++ post).Sublist (pre ++ x :: post) := List.Sublist.append_left (List.sublist_cons_self x post) pre
  refine ⟨h.c.next hr, h.mle, fun y hy => h.lt y (hsub.subset hy), fun y hy => h.op y (hsub.subset hy), fun i hi => ?_, fun i h1 h2 => ?_, h.ord.sublist hsub, h.ind.sublist hsub⟩
  · rw [hget]
    have hm := h.mem i hi
    by_cases e : i = x.i
    · simp only [e, if_true, true_iff]
      intro hmem
      rw [List.mem_map] at hmem
      obtain ⟨y, hy, hyi⟩ := hmem
      rw [List.mem_append] at hy
      rw [List.pairwise_append] at hord
      rcases hy with hy | hy
      · have := hord.2.2 y hy x List.mem_cons_self; omega
      · have := (List.pairwise_cons.1 hord.2.1).1 y hy; omega
    · rw [if_neg e, hm]
      simp only [List.map_append, List.map_cons, List.mem_append, List.mem_cons]
      constructor
      · intro hn hc; exact hn (by rcases hc with hc | hc <;> simp [hc])
      · intro hn hc; rcases hc with hc | hc | hc
        · exact hn (.inl hc)
        · exact e hc
        · exact hn (.inr hc)
  · rw [hget, if_neg (by omega)]; exact h.late i h1 h2

/-- Each operation from k on stands behind all that are ahead of it. -/
def tailB (ops : Array Oper) (A : Array Nat) (k : Nat) : Bool := (List.range ops.size).all fun j => decide (j < k) || (List.range j).all fun i => (A.getD j 0).testBit i
theorem tailB_spec {ops : Array Oper} {A : Array Nat} {k : Nat} (h : tailB ops A k = true) {j i : Nat} (hj : j < ops.size) (hk : k ≤ j) (hi : i < j) : (A.getD j 0).testBit i = true := by
  unfold tailB at h
  rw [List.all_eq_true] at h
  have := h j (List.mem_range.2 hj)
  rw [decide_eq_false (by omega), Bool.false_or, List.all_eq_true] at this
  exact this i (List.mem_range.2 hi)

theorem strip_drop {ops : Array Oper} {k : Nat} (hk : k < ops.size) : (strip ops).drop k = sop ops ops[k] :: (strip ops).drop (k + 1) := by
  have hl : k < (strip ops).length := by simpa [strip] using hk
  rw [List.drop_eq_getElem_cons hl]
  simp [strip]

/-- The rest of a region, whose order is laid down. -/
theorem tail_run {ops : Array Oper} {A : Array Nat} (hc : closedB ops A = true) (he : earlierB ops = true) {K : St → Prop} {Q' : Exit → Act → World → Prop} (hQ : ∀ κ S a w, Rel g κ S a w → K S → Q' .normal a w) :
    ∀ (fuel k : Nat) (listed : Array Bool) (S : St) (κ : Nat → Option Nat) (a : Act) (w : World), ops.size - k ≤ fuel → k ≤ ops.size → Clo ops listed → (∀ i, i < ops.size → (listed.getD i true = true ↔ i < k)) →
    (∀ j i, j < ops.size → k ≤ j → i < j → (A.getD j 0).testBit i = true) → Rel g κ S a w → AOps P g ((strip ops).drop k) S K → wpAnyIn (Fr ro) 0 P .any ops Q' fuel listed a w := by
  have none_ready : ∀ (listed : Array Bool) (k : Nat), k = ops.size → (∀ i, i < ops.size → (listed.getD i true = true ↔ i < k)) → Region.ready .any ops listed = [] := fun listed k hk hl =>
    List.eq_nil_iff_forall_not_mem.2 fun i hm => by
      obtain ⟨h1, h2⟩ := ready_lt hm
      exact h2 ((hl i h1).2 (by omega))
  have fin : ∀ (k : Nat) (S : St), k = ops.size → AOps P g ((strip ops).drop k) S K → K S := fun k S hk h => by
    rw [List.drop_eq_nil_of_le (by simp [strip, hk])] at h
    exact h
  intro fuel
  induction fuel with
  | zero =>
    intro k listed S κ a w hf hk hcl hl ht hr h
    have hk' : k = ops.size := by omega
    exact ⟨none_ready listed k hk' hl, hQ _ _ _ _ hr (fin k S hk' h)⟩
  | succ fuel ih =>
    intro k listed S κ a w hf hk hcl hl ht hr h
    by_cases hk' : k = ops.size
    · exact ⟨fun _ => hQ _ _ _ _ hr (fin k S hk' h), fun i hm => by rw [none_ready listed k hk' hl] at hm; cases hm⟩
    · have hlt : k < ops.size := by omega
      refine ⟨fun hrd => ?_, fun i hm => ?_⟩
      · exfalso
        have := ready_of hcl he hlt (fun e => absurd ((hl k hlt).1 e) (Nat.lt_irrefl k)) (fun j hj => (hl j (by omega)).2 hj)
        rw [hrd] at this; cases this
      · obtain ⟨h1, h2⟩ := ready_lt hm
        have hik : k ≤ i := Nat.le_of_not_lt fun hlt' => h2 ((hl i h1).2 hlt')
        have hik' : i = k := by
          by_cases e : i = k
          · exact e
          · have := hcl.ahead hc he hm (by omega : k < i) (ht i k h1 hik (by omega))
            exact absurd ((hl k hlt).1 this) (Nat.lt_irrefl k)
        subst hik'
        rw [strip_drop hlt] at h
        refine wpOp_of (Array.getElem?_eq_getElem hlt) hr h fun κ' S' a' w' hr' hk2 => ?_
        refine ih (i + 1) _ S' κ' a' w' (by omega) (by omega) (hcl.next hm) (fun j hj => ?_) (fun j q h3 h4 h5 => ht j q h3 (by omega) h5) hr' hk2
        rw [listed_get (by rw [hcl.sz]; exact hlt)]
        by_cases e : j = i
        · simp [e]
        · rw [if_neg e, hl j hj]; omega

theorem any_of_run {ops : Array Oper} {A : Array Nat} (hc : closedB ops A = true) (he : earlierB ops = true) {base m : Nat} {Q' : Exit → Act → World → Prop} {S' : St} {K : St → Prop} (_hnx : S'.nx = base + ops.size)
    (ht0 : tailB ops A m = true) (hK : AOps P g ((strip ops).drop m) S' K) (hQ : ∀ κ S a w, Rel g κ S a w → K S → Q' .normal a w) : ∀ (fuel : Nat) (items : List Item) (listed : Array Bool) (S : St) (κ : Nat → Option Nat) (a : Act) (w : World),
    items.length + (ops.size - m) ≤ fuel → Inv ops A m listed items → TRun P g base S items S' →
    Rel g κ S a w → S.nx = base + ops.size → (∀ x ∈ items, Fresh κ S.H (base + x.i)) → wpAnyIn (Fr ro) 0 P .any ops Q' fuel listed a w := by
  have hend : ∀ (fuel : Nat) (listed : Array Bool) (S : St) (κ : Nat → Option Nat) (a : Act) (w : World), ops.size - m ≤ fuel → Inv ops A m listed [] → TRun P g base S [] S' → Rel g κ S a w → wpAnyIn (Fr ro) 0 P .any ops Q' fuel listed a w := by
    intro fuel listed S κ a w hf hi ht hr
    refine tail_run hc he hQ fuel m listed S' κ a w hf hi.mle hi.c (fun i h1 => ?_) (fun j i h1 h2 h3 => tailB_spec ht0 h1 h2 h3) (hr.congr ht) hK
    by_cases e : i < m
    · simp only [e, iff_true]; exact (hi.mem i e).2 (by simp)
    · simp only [e, iff_false]; rw [hi.late i (by omega) h1]; simp
  intro fuel
  induction fuel with
  | zero =>
    intro items listed S κ a w hlen hi ht hr _ _
    have h0 : items = [] := by cases items <;> simp_all
    subst h0
    exact hend 0 listed S κ a w (by omega) hi ht hr
  | succ fuel ih =>
    intro items listed S κ a w hlen hi ht hr hb hf
    cases items with
    | nil => exact hend _ listed S κ a w (by simpa using hlen) hi ht hr
    | cons x0 l0 =>
    have hx0 := hi.lt x0 List.mem_cons_self
    have hx0l : ¬ listed.getD x0.i true = true := fun e => (hi.mem x0.i hx0).1 e (by simp)
    have hlow : ∀ j, j < x0.i → listed.getD j true = true := fun j hj => (hi.mem j (by omega)).2 (by
      intro hm
      rw [List.mem_map] at hm
      obtain ⟨y, hy, hyi⟩ := hm
      rcases List.mem_cons.1 hy with rfl | hy
      · omega
      · have := (List.pairwise_cons.1 hi.ord).1 y hy; omega)
    refine ⟨fun hrd => ?_, fun i hm => ?_⟩
    · exfalso
      have := ready_of hi.c he (by have := hi.mle; omega) hx0l hlow
      rw [hrd] at this; cases this
    · obtain ⟨hilt, hnl⟩ := ready_lt hm
      have him : i < m := Nat.lt_of_not_le fun hge => hx0l (hi.c.ahead hc he hm (by omega) (tailB_spec ht0 hilt hge (by omega)))
      have hmem : i ∈ (x0 :: l0).map (·.i) := by
        by_cases hx : i ∈ (x0 :: l0).map (·.i)
        · exact hx
        · exact absurd ((hi.mem i him).2 hx) hnl
      rw [List.mem_map] at hmem
      obtain ⟨x, hx, rfl⟩ := hmem
      obtain ⟨pre, post, hsplit⟩ := List.append_of_mem hx
      rw [hsplit] at hi ht hlen hf
      clear hx hsplit hx0 hx0l hlow
      have hnext := hi.next hm
      have hap : ∀ y ∈ pre, FP.apart x.fp y.fp = true := by
        intro y hy
        have hind := hi.ind
        rw [List.pairwise_append] at hind
        rcases hind.2.2 y hy x List.mem_cons_self with h1 | h1
        · exfalso
          have hyl : ¬ listed.getD y.i true = true := fun hl => (hi.mem y.i (hi.lt y (by simp [hy]))).1 hl (by simp; exact .inl ⟨y, hy, rfl⟩)
          have hord := hi.ord
          rw [List.pairwise_append] at hord
          have hlt := hord.2.2 y hy x List.mem_cons_self
          exact hyl (hi.c.ahead hc he hm hlt h1)
        · exact h1
      have ht' := TRun.first pre hap ht
      obtain ⟨hfit, hrest⟩ := ht'
      obtain ⟨o, ho, hso⟩ := hi.op x (by simp)
      have hd := hfit.does
      rw [hso] at hd
      have hdst : x.so.dst = o.dst := by rw [hso]; rfl
      refine does_sound ho hd hr (by rw [hb]; omega) (hf x (by simp)) fun κ' a' w' hr' hfr => ?_
      refine ih (pre ++ post) _ (app S x.so.dst x.e) κ' a' w' ?_ hnext hrest (by rw [hdst]; exact hr') hb (fun y hy => hfr _ ?_ (hf y ?_))
      · simp only [List.length_append, List.length_cons] at hlen ⊢; omega
      · have hord := hi.ord
        rw [List.pairwise_append] at hord
        rcases List.mem_append.1 hy with hy | hy
        · have := hord.2.2 y hy x List.mem_cons_self; omega
        · have := (List.pairwise_cons.1 hord.2.1).1 y hy; omega
      · rcases List.mem_append.1 hy with hy | hy <;> simp [hy]

theorem indep_pairs {A : Array Nat} : ∀ (l : List FP), indepB A l = true → l.Pairwise fun x y => (A.getD y.i 0).testBit x.i = true ∨ FP.apart y x = true := by
  intro l
  induction l with
  | nil => intro _; exact .nil
  | cons f r ih =>
    intro h
    simp only [indepB, Bool.and_eq_true] at h
    refine List.pairwise_cons.2 ⟨fun y hy => ?_, ih h.2⟩
    have := List.all_eq_true.1 h.1 y hy
    simpa using this

theorem acode_draw_tail (hm : P.follows .mixedOrders = true) {id : Nat} {ops : Array Oper} (hd : drawB ops = true) (m : Nat) (hml : m ≤ ops.size) (htl : tailB ops (Region.before ops) m = true) {S : St}
    (h : DOps P g S.nx 0 ((strip ops).take m) ⟨S.env, S.H, S.nx + ops.size⟩ [] fun S' fs => indepB (Region.before ops) fs = true ∧ AOps P g ((strip ops).drop m) S' fun S'' => Q .norm S'') : ACode P ro g (.region id ops true) Q S := fun κ a w hr => by
  unfold drawB at hd
  simp only [Bool.and_eq_true] at hd
  refine wpIn_region_any hm ?_
  obtain ⟨items, S', h1, h2, h3, h4, h5⟩ := run_of_dops _ _ _ _ h
  have hlen : ((strip ops).take m).length = m := by simp [strip, hml]
  rw [hlen] at h1
  have hr' : Rel g κ ⟨S.env, S.H, S.nx + ops.size⟩ a { w with drawn := w.drawn + 1 } := by
    have st := Step.draw (w' := { w with drawn := w.drawn + 1 }) hr.h rfl ⟨rfl, rfl, rfl⟩
    refine ⟨st.hrel, fun id hid => hr.fresh id (by simp at hid; omega), hr.sz, fun t => st.v (hr.env t), hr.ext, hr.wle.trans st.wle, hr.same, hr.new, hr.defs.step st⟩
  have hfin : S'.nx = S.nx + ops.size := by
    have : ∀ (l : List Item) (T : St) (b : Nat), TRun P g b T l S' → S'.nx = T.nx := by
      intro l
      induction l with
      | nil => intro T b ht; exact ht.2.2.symm
      | cons x l ih => intro T b ht; exact (ih (app T x.so.dst x.e) b ht.2)
    exact this items _ _ h3
  have hgeti : ∀ (k : Nat) (x : Item), items[k]? = some x → x.i = k ∧ k < m ∧ ∃ o, ops[k]? = some o ∧ x.so = sop ops o := by
    intro k x hk
    have e1 : (items.map (·.i))[k]? = some x.i := by rw [List.getElem?_map, hk]; rfl
    have hk' : k < m := by
      have hlt : k < items.length := by
        rcases Nat.lt_or_ge k items.length with h | h
        · exact h
        · rw [List.getElem?_eq_none h] at hk; cases hk
      have : items.length = (items.map (·.i)).length := by simp
      rw [this, h1] at hlt; simpa using hlt
    rw [h1, List.getElem?_range' hk'] at e1
    simp only [Nat.zero_add, Nat.one_mul, Option.some.injEq] at e1
    have e2 : (items.map (·.so))[k]? = some x.so := by rw [List.getElem?_map, hk]; rfl
    rw [h2] at e2
    have hk2 : k < ops.size := by omega
    rw [List.getElem?_take, if_pos hk'] at e2
    simp only [strip, List.getElem?_map, Array.getElem?_toList] at e2
    rw [Array.getElem?_eq_getElem hk2] at e2
    simp only [Option.map_some, Option.some.injEq] at e2
    exact ⟨e1.symm, hk', _, Array.getElem?_eq_getElem hk2, e2.symm⟩
  have hall : ∀ x ∈ items, x.i < m ∧ ∃ o, ops[x.i]? = some o ∧ x.so = sop ops o := by
    intro x hx
    obtain ⟨k, hk⟩ := List.mem_iff_getElem?.1 hx
    obtain ⟨e, h', h''⟩ := hgeti k x hk
    rw [e]; exact ⟨h', h''⟩
  have hfpi : ∀ (l : List Item) (T T' : St) (b : Nat), TRun P g b T l T' → ∀ x ∈ l, x.fp.i = x.i := by
    intro l
    induction l with
    | nil => intro T T' b _ x hx; cases hx
    | cons y l ih =>
      intro T T' b ht x hx
      rcases List.mem_cons.1 hx with rfl | hx
      · exact ht.1.ii
      · exact ih _ _ _ ht.2 x hx
  refine any_of_run hd.2 hd.1 (base := S.nx) hfin htl h5 (fun κ S a w hr hk => ⟨κ, S, hr, hk⟩) ops.size items _ _ κ a _ ?_ ⟨⟨by simp, ?_⟩, hml, fun x hx => (hall x hx).1, fun x hx => (hall x hx).2, fun i hi => ?_, fun i _ hi => ?_, ?_, ?_⟩ h3 hr' rfl (fun x hx => hr.fresh _ (by omega))
  · have : items.length = (items.map (·.i)).length := by simp
    rw [this, h1]; simp; omega
  · intro i o ho hl
    exfalso
    have hi : i < ops.size := by
      rcases Nat.lt_or_ge i ops.size with h | h
      · exact h
      · rw [Array.getElem?_eq_none h] at ho; cases ho
    rw [Array.getD_eq_getD_getElem?, Array.getElem?_replicate, if_pos hi] at hl
    cases hl
  · rw [h1, Array.getD_eq_getD_getElem?, Array.getElem?_replicate, if_pos (by omega)]
    simp only [Option.getD_some, Bool.false_eq_true, false_iff, Classical.not_not]
    rw [List.mem_range']; exact ⟨i, hi, by simp⟩
  · rw [Array.getD_eq_getD_getElem?, Array.getElem?_replicate, if_pos hi]; rfl
  · have : (items.map (·.i)).Pairwise (· < ·) := by rw [h1]; exact List.pairwise_lt_range'
    exact List.pairwise_map.1 this
  · have := indep_pairs _ (by simpa using h4)
    have := List.pairwise_map.1 this
    refine this.imp_of_mem fun {x y} hx hy h => ?_
    rw [hfpi _ _ _ _ h3 x hx, hfpi _ _ _ _ h3 y hy] at h
    exact h
theorem acode_draw (hm : P.follows .mixedOrders = true) {id : Nat} {ops : Array Oper} (hd : drawB ops = true) {S : St}
    (h : DOps P g S.nx 0 (strip ops) ⟨S.env, S.H, S.nx + ops.size⟩ [] fun S' fs => indepB (Region.before ops) fs = true ∧ Q .norm S') : ACode P ro g (.region id ops true) Q S := by
  have hl : (strip ops).length = ops.size := by simp [strip]
  refine acode_draw_tail hm hd ops.size (Nat.le_refl _) ?_ ?_
  · unfold tailB
    rw [List.all_eq_true]
    intro j hj
    rw [decide_eq_true (List.mem_range.1 hj)]; rfl
  · rw [List.take_of_length_le (by omega), List.drop_eq_nil_of_le (by omega)]
    exact h

end
end Go.Am

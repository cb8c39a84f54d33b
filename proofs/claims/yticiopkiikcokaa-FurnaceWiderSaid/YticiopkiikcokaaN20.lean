import Derived.Test.YticiopkiikcokaaN19
/-
  A FUNCTION THAT WRITES INTO ONE SLICE THAT IT IS HANDED: its contract over that slice alone, and its use wherever the slice lies among others.
-/
namespace Go.Am
section
variable {P : Program}

/-- It writes into the slice that is its first argument, and nowhere else; it answers v, and leaves cells of which Q tells. -/
def AMut (P : Program) (fn : Func) (n esz : Nat) (rest : List AV) (cs : List AV) (v : AV) (Q : List AV → Prop) : Prop :=
  ∀ f, P.funcs[f]? = some fn → RangeOk P f (.rsl 0 0 n esz :: rest) [(0, .cells cs)] 1 fun r H' _ => r = v ∧ ∃ cs', hget H' 0 = some (.cells cs') ∧ Q cs'

theorem AMut.at {fn : Func} {n esz : Nat} {rest cs : List AV} {v : AV} {Q : List AV → Prop} (h : AMut P fn n esz rest cs v Q) (hrest : okL 0 rest = true) (hv : v.ok 0 = true) (hcs : okL 0 cs = true)
    (hq : ∀ cs', Q cs' → okL 0 cs' = true) {f : FuncId} (hf : P.funcs[f]? = some fn) {H : AHeap} {id nx : Nat} (hid : hget H id = some (.cells cs)) :
    RangeOk P f (.rsl id 0 n esz :: rest) H nx fun r H' nx' => r = v ∧ nx' = nx ∧ ∃ cs', Q cs' ∧ H' = hset H id (.cells cs') := by
  intro κ N w cargs hr hfr hc
  obtain ⟨κ0, hκ0⟩ : ∃ κ0 : Nat → Option Nat, κ0 = fun j => if j = 0 then κ id else none := ⟨_, rfl⟩
  obtain ⟨N0, hN0⟩ : ∃ N0 : Nat → Prop, N0 = fun b => avoid κ N H b ∧ κ id ≠ some b := ⟨_, rfl⟩
  have k0 : κ0 0 = κ id := by rw [hκ0]; simp
  have kS : ∀ j, j ≠ 0 → κ0 j = none := fun j hj => by rw [hκ0]; simp [hj]
  have g0 : ∀ j o, hget [(0, AObj.cells cs)] j = some o → j = 0 ∧ o = .cells cs := fun j o ho => by
    by_cases e : 0 = j
    · subst e; simp [hget] at ho; exact ⟨rfl, ho.symm⟩
    · simp [hget, e] at ho
  have own0 : ∀ b, owned κ0 [(0, .cells cs)] b ↔ κ id = some b := fun b => by
    constructor
    · rintro ⟨j, o, ho, hb⟩
      obtain ⟨rfl, _⟩ := g0 j o ho
      rw [← k0]; exact hb
    · intro hb; exact ⟨0, _, rfl, k0.trans hb⟩
  have hav : avoid κ0 N0 [(0, .cells cs)] = avoid κ N H := by
    funext b
    refine propext ⟨fun hb => ?_, fun hb => ?_⟩
    · rcases hb with hb | hb
      · rw [hN0] at hb; exact hb.1
      · exact .inr ⟨id, _, hid, (own0 b).1 hb⟩
    · by_cases e : κ id = some b
      · exact .inr ((own0 b).2 e)
      · left; rw [hN0]; exact ⟨hb, e⟩
  have low0 : ∀ {x : AV} {u : Value}, x.ok 0 = true → VRel κ (avoid κ N H) w x u → VRel κ0 (avoid κ0 N0 [(0, .cells cs)]) w x u := fun hok hu => by
    rw [hav]
    exact VRel.low (κ' := κ0) (nx' := 0) (fun j hj => absurd hj (Nat.not_lt_zero _)) hu hok
  have hH0 : HRel κ0 N0 [(0, .cells cs)] w := by
    refine ⟨fun j o ho => ?_, fun i j b o o' hi hj _ _ => ?_, fun j b hb => ?_, fun b hb => ?_, fun b hb ho => ?_⟩
    · obtain ⟨rfl, rfl⟩ := g0 j o ho
      rcases hr.rel id _ hid with ⟨e1, e2⟩ | ⟨blk, cc, e, e1, e2, e3, e4⟩
      · exact .inl ⟨e1, k0.trans e2⟩
      · refine .inr ⟨blk, cc, e, k0.trans e1, e2, e3, fun i x hx => ?_⟩
        obtain ⟨u, hu, hur⟩ := e4 i x hx
        exact ⟨u, hu, low0 (okL_get hcs hx) hur⟩
    · rw [(g0 i o hi).1, (g0 j o' hj).1]
    · by_cases e : j = 0
      · subst e; exact hr.bd id b (k0 ▸ hb)
      · rw [kS j e] at hb; cases hb
    · rw [hN0] at hb
      rcases hb.1 with hb | ⟨j, o, ho, hx⟩
      · exact hr.Nbd b hb
      · exact hr.bd j b hx
    · rw [hN0] at hb; exact hb.2 ((own0 b).1 ho)
  have hc0 : CRel κ0 (avoid κ0 N0 [(0, .cells cs)]) w (.rsl 0 0 n esz :: rest) cargs := by
    refine ⟨hc.1, fun i c hi => ?_⟩
    cases i with
    | zero =>
      simp at hi; subst hi
      obtain ⟨u, hu, hur⟩ := hc.2 0 _ rfl
      refine ⟨u, hu, ?_⟩
      cases hur with
      | rsl0 _ _ _ base => exact .rsl0 0 0 esz base
      | rsl _ _ _ _ cap blk c e f hk hl hb hcap => exact .rsl 0 0 n esz cap blk c e f (k0.trans hk) hl hb hcap
    | succ i =>
      obtain ⟨u, hu, hur⟩ := hc.2 (i + 1) c hi
      exact ⟨u, hu, low0 (okL_get hrest (by simpa using hi)) hur⟩
  refine (h f hf κ0 N0 w cargs hH0 (fun j hj => ⟨kS j (by omega), ?_⟩) hc0).mono ?_
  · have e : ¬ 0 = j := by omega
    simp [hget, e]
  rintro e w' ⟨v', r, κ1, H1, nx1, rfl, st, _, hvr, rfl, cs', hcs', hQ⟩
  obtain ⟨κ', hκ'⟩ : ∃ κ' : Nat → Option Nat, κ' = fun j => if j = id then κ1 0 else κ j := ⟨_, rfl⟩
  have ki : κ' id = κ1 0 := by rw [hκ']; simp
  have kn : ∀ j, j ≠ id → κ' j = κ j := fun j hj => by rw [hκ']; simp [hj]
  have hh : ∀ j, hget (hset H id (.cells cs')) j = if id = j then some (.cells cs') else hget H j := fun j => hget_hset _ _ _ _
  have own1 : ∀ b, κ1 0 = some b → owned κ1 H1 b := fun b hb => ⟨0, _, hcs', hb⟩
  have other : ∀ j o b, j ≠ id → hget H j = some o → κ j = some b → N0 b := fun j o b hj ho hb => by
    rw [hN0]
    exact ⟨.inr ⟨j, o, ho, hb⟩, fun e => hj (hr.inj j id b _ _ ho hid hb e)⟩
  have back : ∀ b, avoid κ' N (hset H id (.cells cs')) b → avoid κ1 N0 H1 b := fun b hb => by
    rcases hb with hb | ⟨j, o, ho, hx⟩
    · left; rw [hN0]; exact ⟨.inl hb, fun e => hr.NH b hb ⟨id, _, hid, e⟩⟩
    · rw [hh] at ho
      by_cases e : id = j
      · subst e; rw [ki] at hx; exact .inr (own1 b hx)
      · rw [if_neg e] at ho
        rw [kn j (Ne.symm e)] at hx
        exact .inl (other j o b (Ne.symm e) ho hx)
  have up : ∀ {x : AV} {u : Value}, x.ok 0 = true → VRel κ1 (avoid κ1 N0 H1) w' x u → VRel κ' (avoid κ' N (hset H id (.cells cs'))) w' x u := fun hok hu =>
    (hu.mono (fun _ _ h => h) (.refl w') (fun b _ hb => back b hb) (fun _ _ _ => rfl)).low (κ' := κ') (nx' := 0) (fun j hj => absurd hj (Nat.not_lt_zero _)) hok
  refine ⟨v', r, κ', hset H id (.cells cs'), nx, rfl, ?_, fun j hj => ?_, up hv hvr, rfl, rfl, cs', hQ, rfl⟩
  · refine .mk' hr (fun j b hb => ?_) st.wle (fun b hb hn => st.same b hb fun ho => hn ⟨id, _, hid, (own0 b).1 ho⟩) (fun b hb => ?_) (fun j b hb => ?_) (fun i j b o o' hi hj hb hb' => ?_) (fun j o ho => ?_)
    · by_cases e : j = id
      · subst e; rw [ki]; exact st.ext 0 b (k0.trans hb)
      · rw [kn j e]; exact hb
    · obtain ⟨j, o, ho, hx⟩ := hb
      rw [hh] at ho
      by_cases e : id = j
      · subst e; rw [ki] at hx
        rcases st.new b (own1 b hx) with h1 | h1
        · exact .inl ⟨id, _, hid, (own0 b).1 h1⟩
        · exact .inr h1
      · rw [if_neg e] at ho
        rw [kn j (Ne.symm e)] at hx
        exact .inl ⟨j, o, ho, hx⟩
    · by_cases e : j = id
      · subst e; rw [ki] at hb; exact st.hrel.bd 0 b hb
      · rw [kn j e] at hb; exact Nat.lt_of_lt_of_le (hr.bd j b hb) st.wle.1
    · rw [hh] at hi hj
      by_cases e : id = i <;> by_cases e' : id = j
      · omega
      · subst e; rw [if_neg e'] at hj; rw [ki] at hb; rw [kn j (Ne.symm e')] at hb'
        exact absurd (own1 b hb) (st.hrel.NH b (other j o' b (Ne.symm e') hj hb'))
      · subst e'; rw [if_neg e] at hi; rw [ki] at hb'; rw [kn i (Ne.symm e)] at hb
        exact absurd (own1 b hb') (st.hrel.NH b (other i o b (Ne.symm e) hi hb))
      · rw [if_neg e] at hi; rw [if_neg e'] at hj
        rw [kn i (Ne.symm e)] at hb; rw [kn j (Ne.symm e')] at hb'
        exact hr.inj i j b o o' hi hj hb hb'
    · rw [hh] at ho
      by_cases e : id = j
      · subst e; rw [if_pos rfl] at ho; cases ho
        right
        rcases st.hrel.rel 0 _ hcs' with ⟨e1, e2⟩ | ⟨blk, cc, e, e1, e2, e3, e4⟩
        · exact .inl ⟨e1, ki.trans e2⟩
        · refine .inr ⟨blk, cc, e, ki.trans e1, e2, e3, fun i x hx => ?_⟩
          obtain ⟨u, hu, hur⟩ := e4 i x hx
          exact ⟨u, hu, up (okL_get (hq cs' hQ) hx) hur⟩
      · rw [if_neg e] at ho
        refine .inl ⟨ho, fun hn => by rw [kn j (Ne.symm e)]; exact hn, fun b hb => st.same b (hr.bd j b hb) fun h1 => ?_⟩
        exact e (hr.inj id j b _ _ hid ho ((own0 b).1 h1) hb)
  · have hne : j ≠ id := fun e => by
      have := (hfr j hj).2
      rw [e, hid] at this; cases this
    refine ⟨(kn j hne).trans (hfr j hj).1, ?_⟩
    rw [hh, if_neg (Ne.symm hne)]; exact (hfr j hj).2

/-- The same, where what else it is handed is lent; its cells have no memory behind them. -/
theorem AMut.lentAt {fn : Func} {n esz : Nat} {rest rest' cs : List AV} {is : List Nat} {v : AV} {Q : List AV → Prop} (h : AMut P fn n esz rest' cs v Q) (hv : v.flat = true) (hcs : ∀ c ∈ cs, c.flat = true)
    (hq : ∀ cs', Q cs' → ∀ c ∈ cs', c.flat = true) {f : FuncId} (hf : P.funcs[f]? = some fn) {H : AHeap} {id nx : Nat} (hid : hget H id = some (.cells cs)) (ht : thawL (hget (herase H id)) rest = some (rest', is)) :
    RangeOk P f (.rsl id 0 n esz :: rest) H nx fun r H' nx' => r = v ∧ nx' = nx ∧ ∃ cs', Q cs' ∧ H' = hset H id (.cells cs') := by
  intro κ N w cargs hr hfr hc
  obtain ⟨κ0, hκ0⟩ : ∃ κ0 : Nat → Option Nat, κ0 = fun j => if j = 0 then κ id else none := ⟨_, rfl⟩
  have k0 : κ0 0 = κ id := by rw [hκ0]; simp
  have kS : ∀ j, j ≠ 0 → κ0 j = none := fun j hj => by rw [hκ0]; simp [hj]
  have g0 : ∀ j o, hget [(0, AObj.cells cs)] j = some o → j = 0 ∧ o = .cells cs := fun j o ho => by
    by_cases e : 0 = j
    · subst e; simp [hget] at ho; exact ⟨rfl, ho.symm⟩
    · simp [hget, e] at ho
  have own0 : ∀ b, owned κ0 [(0, .cells cs)] b ↔ κ id = some b := fun b => by
    constructor
    · rintro ⟨j, o, ho, hb⟩
      obtain ⟨rfl, _⟩ := g0 j o ho
      rw [← k0]; exact hb
    · intro hb; exact ⟨0, _, rfl, k0.trans hb⟩
  -- the others, beside this one
  have ge : ∀ j o, hget (herase H id) j = some o → j ≠ id ∧ hget H j = some o := fun j o ho => by
    rw [hget_herase] at ho
    by_cases e : id = j
    · rw [if_pos e] at ho; cases ho
    · rw [if_neg e] at ho; exact ⟨Ne.symm e, ho⟩
  have hav : avoid κ (avoid κ0 N [(0, .cells cs)]) (herase H id) = avoid κ N H := by
    funext b
    refine propext ⟨fun hb => ?_, fun hb => ?_⟩
    · rcases hb with (hb | hb) | ⟨j, o, ho, hb⟩
      · exact .inl hb
      · exact .inr ⟨id, _, hid, (own0 b).1 hb⟩
      · exact .inr ⟨j, o, (ge j o ho).2, hb⟩
    · rcases hb with hb | ⟨j, o, ho, hb⟩
      · exact .inl (.inl hb)
      · by_cases e : id = j
        · subst e; exact .inl (.inr ((own0 b).2 hb))
        · exact .inr ⟨j, o, by rw [hget_herase, if_neg e]; exact ho, hb⟩
  have hHo : HRel κ (avoid κ0 N [(0, .cells cs)]) (herase H id) w := by
    refine ⟨fun j o ho => by rw [hav]; exact hr.rel j o (ge j o ho).2, fun i j b o o' hi hj hb hb' => hr.inj i j b o o' (ge i o hi).2 (ge j o' hj).2 hb hb', hr.bd, fun b hb => ?_, fun b hb ho => ?_⟩
    · rcases hb with hb | hb
      · exact hr.Nbd b hb
      · exact hr.bd id b ((own0 b).1 hb)
    · obtain ⟨j, o, ho, hx⟩ := ho
      rcases hb with hb | hb
      · exact hr.NH b hb ⟨j, o, (ge j o ho).2, hx⟩
      · exact (ge j o ho).1 (hr.inj j id b _ _ (ge j o ho).2 hid hx ((own0 b).1 hb))
  have hH0 : HRel κ0 N [(0, .cells cs)] w := by
    refine ⟨fun j o ho => ?_, fun i j b o o' hi hj _ _ => ?_, fun j b hb => ?_, hr.Nbd, fun b hb ho => hr.NH b hb ⟨id, _, hid, (own0 b).1 ho⟩⟩
    · obtain ⟨rfl, rfl⟩ := g0 j o ho
      rcases hr.rel id _ hid with ⟨e1, e2⟩ | ⟨blk, cc, e, e1, e2, e3, e4⟩
      · exact .inl ⟨e1, k0.trans e2⟩
      · refine .inr ⟨blk, cc, e, k0.trans e1, e2, e3, fun i x hx => ?_⟩
        obtain ⟨u, hu, hur⟩ := e4 i x hx
        exact ⟨u, hu, hur.ofFlat (hcs x (List.mem_of_getElem? hx))⟩
    · rw [(g0 i o hi).1, (g0 j o' hj).1]
    · by_cases e : j = 0
      · subst e; exact hr.bd id b (k0 ▸ hb)
      · rw [kS j e] at hb; cases hb
  obtain ⟨e1, e2⟩ := mapO_spec ht
  have hc0 : CRel κ0 (avoid κ0 N [(0, .cells cs)]) w (.rsl 0 0 n esz :: rest') cargs := by
    refine ⟨by rw [hc.1]; simp [e1], fun i c hi => ?_⟩
    cases i with
    | zero =>
      simp at hi; subst hi
      obtain ⟨u, hu, hur⟩ := hc.2 0 _ rfl
      refine ⟨u, hu, ?_⟩
      cases hur with
      | rsl0 _ _ _ base => exact .rsl0 0 0 esz base
      | rsl _ _ _ _ cap blk c e f hk hl hb hcap => exact .rsl 0 0 n esz cap blk c e f (k0.trans hk) hl hb hcap
    | succ i =>
      obtain ⟨a, js, a1, a2, _⟩ := e2 i c (by simpa using hi)
      obtain ⟨u, hu, hur⟩ := hc.2 (i + 1) a (by simpa using a1)
      exact ⟨u, hu, (thaw_sound hHo 8 _ _ _ u a2 (by rw [hav]; exact hur)).up⟩
  refine (h f hf κ0 N w cargs hH0 (fun j hj => ⟨kS j (by omega), ?_⟩) hc0).mono ?_
  · have e : ¬ 0 = j := by omega
    simp [hget, e]
  rintro e w' ⟨v', r, κ1, H1, nx1, rfl, st, _, hvr, rfl, cs', hcs', hQ⟩
  obtain ⟨κ', hκ'⟩ : ∃ κ' : Nat → Option Nat, κ' = fun j => if j = id then κ1 0 else κ j := ⟨_, rfl⟩
  have ki : κ' id = κ1 0 := by rw [hκ']; simp
  have kn : ∀ j, j ≠ id → κ' j = κ j := fun j hj => by rw [hκ']; simp [hj]
  have hh : ∀ j, hget (hset H id (.cells cs')) j = if id = j then some (.cells cs') else hget H j := fun j => hget_hset _ _ _ _
  have own1 : ∀ b, κ1 0 = some b → owned κ1 H1 b := fun b hb => ⟨0, _, hcs', hb⟩
  have other : ∀ j o b, j ≠ id → hget H j = some o → κ j = some b → κ1 0 = some b → False := fun j o b hj ho hb hb' => by
    rcases st.new b (own1 b hb') with h1 | h1
    · exact hj (hr.inj j id b _ _ ho hid hb ((own0 b).1 h1))
    · have := hr.bd j b hb; omega
  refine ⟨v', r, κ', hset H id (.cells cs'), nx, rfl, ?_, fun j hj => ?_, hvr.ofFlat hv, rfl, rfl, cs', hQ, rfl⟩
  · refine .mk' hr (fun j b hb => ?_) st.wle (fun b hb hn => st.same b hb fun ho => hn ⟨id, _, hid, (own0 b).1 ho⟩) (fun b hb => ?_) (fun j b hb => ?_) (fun i j b o o' hi hj hb hb' => ?_) (fun j o ho => ?_)
    · by_cases e : j = id
      · subst e; rw [ki]; exact st.ext 0 b (k0.trans hb)
      · rw [kn j e]; exact hb
    · obtain ⟨j, o, ho, hx⟩ := hb
      rw [hh] at ho
      by_cases e : id = j
      · subst e; rw [ki] at hx
        rcases st.new b (own1 b hx) with h1 | h1
        · exact .inl ⟨id, _, hid, (own0 b).1 h1⟩
        · exact .inr h1
      · rw [if_neg e] at ho
        rw [kn j (Ne.symm e)] at hx
        exact .inl ⟨j, o, ho, hx⟩
    · by_cases e : j = id
      · subst e; rw [ki] at hb; exact st.hrel.bd 0 b hb
      · rw [kn j e] at hb; exact Nat.lt_of_lt_of_le (hr.bd j b hb) st.wle.1
    · rw [hh] at hi hj
      by_cases e : id = i <;> by_cases e' : id = j
      · omega
      · subst e; rw [if_neg e'] at hj; rw [ki] at hb; rw [kn j (Ne.symm e')] at hb'
        exact (other j o' b (Ne.symm e') hj hb' hb).elim
      · subst e'; rw [if_neg e] at hi; rw [ki] at hb'; rw [kn i (Ne.symm e)] at hb
        exact (other i o b (Ne.symm e) hi hb hb').elim
      · rw [if_neg e] at hi; rw [if_neg e'] at hj
        rw [kn i (Ne.symm e)] at hb; rw [kn j (Ne.symm e')] at hb'
        exact hr.inj i j b o o' hi hj hb hb'
    · rw [hh] at ho
      by_cases e : id = j
      · subst e; rw [if_pos rfl] at ho; cases ho
        right
        rcases st.hrel.rel 0 _ hcs' with ⟨e1, e2⟩ | ⟨blk, cc, e, e1, e2, e3, e4⟩
        · exact .inl ⟨e1, ki.trans e2⟩
        · refine .inr ⟨blk, cc, e, ki.trans e1, e2, e3, fun i x hx => ?_⟩
          obtain ⟨u, hu, hur⟩ := e4 i x hx
          exact ⟨u, hu, hur.ofFlat (hq cs' hQ x (List.mem_of_getElem? hx))⟩
      · rw [if_neg e] at ho
        refine .inl ⟨ho, fun hn => by rw [kn j (Ne.symm e)]; exact hn, fun b hb => st.same b (hr.bd j b hb) fun h1 => ?_⟩
        exact e (hr.inj id j b _ _ hid ho ((own0 b).1 h1) hb)
  · have hne : j ≠ id := fun e => by
      have := (hfr j hj).2
      rw [e, hid] at this; cases this
    refine ⟨(kn j hne).trans (hfr j hj).1, ?_⟩
    rw [hh, if_neg (Ne.symm hne)]; exact (hfr j hj).2

/-- A call is told by a contract where the tape says so. -/
noncomputable def vFnM (P : Program) (X : VX) (fn : Func) (args : List AV) (H : AHeap) (nx : Nat) (τ : Tp) (K : AV → AHeap → Nat → Tp → Prop) : Prop :=
  match τ with
  | .nz τ' => ∃ Post : AV → AHeap → Nat → Prop, (∀ f, P.funcs[f]? = some fn → RangeOk P f args H nx Post) ∧ ∀ r H' nx', Post r H' nx' → K r H' nx' τ'
  | τ => vFn P X fn args H nx τ K
noncomputable def vxm (P : Program) : Nat → VX
  | 0 => ⟨fun _ _ _ _ _ _ => False, fun _ _ _ _ _ _ => False⟩
  | k + 1 => ⟨vFnM P (vxm P k), vRound P (vxm P k)⟩
theorem vFn_ok {X : VX} (ih : VXOk P X) : VXOk P ⟨vFn P X, vRound P X⟩ := by
  refine ⟨?_, ?_⟩
  · intro fn args H nx τ K h f hf
    simp only [vFn] at h
    split at h
    · rename_i c hc
      refine RangeOk.enter hf hc fun g hg hlow => ?_
      refine vCode_sound (rid := none) (ro := none) ih hg hlow rfl _ _ _ _ h fun x S' τ' h1 S'' he => ?_
      have fin : (match ares P S' fn.results.toList with | some r => K r S'.H S'.nx τ' | none => False) → ∃ r, ares P S'' fn.results.toList = some r ∧ ∃ τ', K r S''.H S''.nx τ' := fun h2 => by
        rw [ares_eeq he, ← he.2.1, ← he.2.2]
        split at h2
        · rename_i r hr; exact ⟨r, hr, _, h2⟩
        · exact h2.elim
      cases x with
      | norm => exact ⟨trivial, fin h1⟩
      | ret => exact ⟨trivial, fin h1⟩
      | _ => exact h1.elim
    · exact h.elim
  · intro id args H nx τ K h env K' hK
    simp only [vRound] at h
    split at h
    · rename_i L hL
      split at h
      · rename_i hst
        split at h
        · rename_i hc
          simp only [Bool.and_eq_true] at hc
          refine ⟨L, hL, hst, Nat.eq_of_beq_eq_true hc.1, hc.2, fun g' l e1 e2 e3 => ?_⟩
          refine vCode_sound (rid := some id) (ro := some l) ih e1 e2 ⟨l, rfl, e3⟩ _ _ _ _ h fun x S1 τ1 h1 S1' he1 => ?_
          cases x with
          | norm =>
            simp only [] at h1
            split at h1
            · rename_i L1 hL1
              split at h1
              · rename_i hst1
                refine ⟨L1, by rw [← he1.2.1]; exact hL1, hst1, ?_⟩
                refine ACode.congr (S := ⟨S1.env, hset S1.H id (.loop { L1 with state := .busy }), S1.nx⟩) ?_ ⟨he1.1, by rw [he1.2.1], he1.2.2⟩
                refine vCode_sound (rid := some id) (ro := some l) ih e1 e2 ⟨l, rfl, e3⟩ _ _ _ _ h1 fun x S2 τ2 h2 S2' he2 => ?_
                split at h2
                · rename_i L2 hL2
                  refine ⟨L2, by rw [← he2.2.1]; exact hL2, ?_⟩
                  rw [← he2.2.1, ← he2.2.2]
                  cases x <;> exact hK _ _ _ _ h2
                · exact h2.elim
              · exact h1.elim
            · exact h1.elim
          | _ => exact h1.elim
        · exact h.elim
      · exact h.elim
    · exact h.elim
theorem vxm_ok (P : Program) : ∀ k, VXOk P (vxm P k) := by
  intro k
  induction k with
  | zero => exact ⟨fun h => h.elim, fun h => h.elim⟩
  | succ k ih =>
    refine ⟨?_, (vFn_ok ih).yld⟩
    intro fn args H nx τ K h f hf
    simp only [vxm, vFnM] at h
    split at h
    · obtain ⟨Post, h1, h2⟩ := h
      exact (h1 f hf).mono fun r H' nx' hp => ⟨_, h2 r H' nx' hp⟩
    · exact (vFn_ok ih).call h hf
variable {n nx0 : Nat} {g : G}
theorem ACode.vcM (τ : Tp) {c : Code} {S : St} {Q : AX → St → Prop} (hn : g.n = n) (hlow : g.low nx0) (hQ : EClosed Q) (h : vCode P (vxm P 4) n nx0 none c S τ fun x S' _ => Q x S') : ACode P none g c Q S :=
  vCode_sound (rid := none) (ro := none) (vxm_ok P 4) hn hlow rfl c S τ _ h fun x S' _ h1 S'' h'' => hQ x S' S'' h'' h1
theorem AMut.vc {fn : Func} {n esz : Nat} {rest cs : List AV} {v : AV} {Q : List AV → Prop} (τ : Tp)
    (h : vFn P (vxm P 4) fn (.rsl 0 0 n esz :: rest) [(0, .cells cs)] 1 τ fun r H' _ _ => r = v ∧ ∃ cs', hget H' 0 = some (.cells cs') ∧ Q cs') : AMut P fn n esz rest cs v Q := by
  intro f hf
  exact ((vFn_ok (vxm_ok P 4)).call h hf).mono fun _ _ _ ⟨_, h⟩ => h
theorem APure.vcM {f : FuncId} {fn : Func} {args : List AV} {r : AV} (hf : P.funcs[f]? = some fn) (τ : Tp) (ha : okL 0 args = true) (hr : r.ok 0 = true)
    (h : vFn P (vxm P 4) fn args [] 0 τ fun r0 H' _ _ => ∃ is, thaw 8 (hget H') r0 = some (r, is)) : APure P f args r :=
  .range ha hr (((vFn_ok (vxm_ok P 4)).call h hf).mono fun _ _ _ ⟨_, h⟩ => h)
/-- What is owed for a call that is told by its contract. -/
theorem AMut.use {fn : Func} {n esz : Nat} {rest cs : List AV} {v : AV} {Q : List AV → Prop} (h : AMut P fn n esz rest cs v Q) (hrest : okL 0 rest = true) (hv : v.ok 0 = true) (hcs : okL 0 cs = true)
    (hq : ∀ cs', Q cs' → okL 0 cs' = true) {H : AHeap} {id nx : Nat} (hid : hget H id = some (.cells cs)) {K : AV → AHeap → Nat → Prop} (hk : ∀ cs', Q cs' → K v (hset H id (.cells cs')) nx) :
    ∃ Post : AV → AHeap → Nat → Prop, (∀ f, P.funcs[f]? = some fn → RangeOk P f (.rsl id 0 n esz :: rest) H nx Post) ∧ ∀ r H' nx', Post r H' nx' → K r H' nx' :=
  ⟨_, fun _ hf => h.at hrest hv hcs hq hf hid, fun _ _ _ ⟨e1, e2, cs', hQ, e3⟩ => by subst e1; subst e2; subst e3; exact hk cs' hQ⟩
theorem AMut.useLent {fn : Func} {n esz : Nat} {rest rest' cs : List AV} {is : List Nat} {v : AV} {Q : List AV → Prop} (h : AMut P fn n esz rest' cs v Q) (hv : v.flat = true) (hcs : ∀ c ∈ cs, c.flat = true)
    (hq : ∀ cs', Q cs' → ∀ c ∈ cs', c.flat = true) {H : AHeap} {id nx : Nat} (hid : hget H id = some (.cells cs)) (ht : thawL (hget (herase H id)) rest = some (rest', is))
    {K : AV → AHeap → Nat → Prop} (hk : ∀ cs', Q cs' → K v (hset H id (.cells cs')) nx) :
    ∃ Post : AV → AHeap → Nat → Prop, (∀ f, P.funcs[f]? = some fn → RangeOk P f (.rsl id 0 n esz :: rest) H nx Post) ∧ ∀ r H' nx', Post r H' nx' → K r H' nx' :=
  ⟨_, fun _ hf => h.lentAt hv hcs hq hf hid ht, fun _ _ _ ⟨e1, e2, cs', hQ, e3⟩ => by subst e1; subst e2; subst e3; exact hk cs' hQ⟩
end
end Go.Am

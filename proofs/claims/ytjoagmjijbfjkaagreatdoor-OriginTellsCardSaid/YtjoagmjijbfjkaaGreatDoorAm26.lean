/-
  A FUNCTION THAT WRITES INTO THE SLICE THAT IS ITS SECOND ARGUMENT.
-/
import Derived.Test.YtjoagmjijbfjkaaGreatDoorAm20
namespace Go.Am
section
variable {P : Program}
def AMutP (P : Program) (fn : Func) (p : AV) (n esz : Nat) (rest : List AV) (cs : List AV) (v : AV) (Q : List AV → Prop) : Prop :=
  ∀ f, P.funcs[f]? = some fn → RangeOk P f (p :: .rsl 0 0 n esz :: rest) [(0, .cells cs)] 1 fun r H' _ => r = v ∧ ∃ cs', hget H' 0 = some (.cells cs') ∧ Q cs'
theorem AMutP.at {fn : Func} {n esz : Nat} {p : AV} {rest cs : List AV} {v : AV} {Q : List AV → Prop} (h : AMutP P fn p n esz rest cs v Q) (hp : p.ok 0 = true) (hrest : okL 0 rest = true) (hv : v.ok 0 = true) (hcs : okL 0 cs = true)
    (hq : ∀ cs', Q cs' → okL 0 cs' = true) {f : FuncId} (hf : P.funcs[f]? = some fn) {H : AHeap} {id nx : Nat} (hid : hget H id = some (.cells cs)) :
    RangeOk P f (p :: .rsl id 0 n esz :: rest) H nx fun r H' nx' => r = v ∧ nx' = nx ∧ ∃ cs', Q cs' ∧ H' = hset H id (.cells cs') := by
  intro κ N w cargs hr hfr hc
  obtain ⟨κ0, hκ0⟩ : ∃ κ0 : Nat → Option Nat, κ0 = fun j => if j = 0 then κ id else none := ⟨_, rfl⟩
  obtain ⟨N0, hN0⟩ : ∃ N0 : Nat → Prop, N0 = fun b => avoid κ N H b ∧ κ id ≠ some b := ⟨_, rfl⟩
  have k0 : κ0 0 = κ id := by rw [hκ0]; simp
  have kS : ∀ j, j ≠ 0 → κ0 j = none := fun j hj => by rw [hκ0]; simp [hj]
  have g0 : ∀ j o, hget [(0, AObj.cells cs)] j = some o → j = 0 ∧ o = .cells cs := fun j o ho => by
    by_cases e : 0 = j
    · subst e; simp [hget] at ho; exact ⟨rfl, ho.symm⟩
    · simp [hget, e] at ho
  have own0 : ∀ b, owned κ0 [(0, .cells cs)] b ↔ κ id = some b := fun b => by
    constructor
    · rintro ⟨j, o, ho, hb⟩
      obtain ⟨rfl, _⟩ := g0 j o ho
      rw [← k0]; exact hb
    · intro hb; exact ⟨0, _, rfl, k0.trans hb⟩
  have hav : avoid κ0 N0 [(0, .cells cs)] = avoid κ N H := by
    funext b
    refine propext ⟨fun hb => ?_, fun hb => ?_⟩
    · rcases hb with hb | hb
      · rw [hN0] at hb; exact hb.1
      · exact .inr ⟨id, _, hid, (own0 b).1 hb⟩
    · by_cases e : κ id = some b
      · exact .inr ((own0 b).2 e)
      · left; rw [hN0]; exact ⟨hb, e⟩
  have low0 : ∀ {x : AV} {u : Value}, x.ok 0 = true → VRel κ (avoid κ N H) w x u → VRel κ0 (avoid κ0 N0 [(0, .cells cs)]) w x u := fun hok hu => by
    rw [hav]
    exact VRel.low (κ' := κ0) (nx' := 0) (fun j hj => absurd hj (Nat.not_lt_zero _)) hu hok
  have hH0 : HRel κ0 N0 [(0, .cells cs)] w := by
    refine ⟨fun j o ho => ?_, fun i j b o o' hi hj _ _ => ?_, fun j b hb => ?_, fun b hb => ?_, fun b hb ho => ?_, by rw [hav]; exact hr.gl⟩
    · obtain ⟨rfl, rfl⟩ := g0 j o ho
      rcases hr.rel id _ hid with ⟨e1, e2⟩ | ⟨blk, cc, e, e1, e2, e3, e4⟩
      · exact .inl ⟨e1, k0.trans e2⟩
      · refine .inr ⟨blk, cc, e, k0.trans e1, e2, e3, fun i x hx => ?_⟩
        obtain ⟨u, hu, hur⟩ := e4 i x hx
        exact ⟨u, hu, low0 (okL_get hcs hx) hur⟩
    · rw [(g0 i o hi).1, (g0 j o' hj).1]
    · by_cases e : j = 0
      · subst e; exact hr.bd id b (k0 ▸ hb)
      · rw [kS j e] at hb; cases hb
    · rw [hN0] at hb
      rcases hb.1 with hb | ⟨j, o, ho, hx⟩
      · exact hr.Nbd b hb
      · exact hr.bd j b hx
    · rw [hN0] at hb; exact hb.2 ((own0 b).1 ho)
  have hc0 : CRel κ0 (avoid κ0 N0 [(0, .cells cs)]) w (p :: .rsl 0 0 n esz :: rest) cargs := by
    refine ⟨hc.1, fun i c hi => ?_⟩
    cases i with
    | zero =>
      simp at hi; subst hi
      obtain ⟨u, hu, hur⟩ := hc.2 0 _ rfl
      exact ⟨u, hu, low0 hp hur⟩
    | succ i =>
      cases i with
      | zero =>
        simp at hi; subst hi
        obtain ⟨u, hu, hur⟩ := hc.2 1 _ rfl
        refine ⟨u, hu, ?_⟩
        cases hur with
        | rsl0 _ _ _ base => exact .rsl0 0 0 esz base
        | rsl _ _ _ _ cap blk c e f hk hl hb hcap => exact .rsl 0 0 n esz cap blk c e f (k0.trans hk) hl hb hcap
      | succ i =>
        obtain ⟨u, hu, hur⟩ := hc.2 (i + 2) c hi
        exact ⟨u, hu, low0 (okL_get hrest (by simpa using hi)) hur⟩
  refine (h f hf κ0 N0 w cargs hH0 (fun j hj => ⟨kS j (by omega), ?_⟩) hc0).mono ?_
  · have e : ¬ 0 = j := by omega
    simp [hget, e]
  rintro e w' ⟨v', r, κ1, H1, nx1, rfl, st, _, hvr, rfl, cs', hcs', hQ⟩
  obtain ⟨κ', hκ'⟩ : ∃ κ' : Nat → Option Nat, κ' = fun j => if j = id then κ1 0 else κ j := ⟨_, rfl⟩
  have ki : κ' id = κ1 0 := by rw [hκ']; simp
  have kn : ∀ j, j ≠ id → κ' j = κ j := fun j hj => by rw [hκ']; simp [hj]
  have hh : ∀ j, hget (hset H id (.cells cs')) j = if id = j then some (.cells cs') else hget H j := fun j => hget_hset _ _ _ _
  have own1 : ∀ b, κ1 0 = some b → owned κ1 H1 b := fun b hb => ⟨0, _, hcs', hb⟩
  have other : ∀ j o b, j ≠ id → hget H j = some o → κ j = some b → N0 b := fun j o b hj ho hb => by
    rw [hN0]
    exact ⟨.inr ⟨j, o, ho, hb⟩, fun e => hj (hr.inj j id b _ _ ho hid hb e)⟩
  have back : ∀ b, avoid κ' N (hset H id (.cells cs')) b → avoid κ1 N0 H1 b := fun b hb => by
    rcases hb with hb | ⟨j, o, ho, hx⟩
    · left; rw [hN0]; exact ⟨.inl hb, fun e => hr.NH b hb ⟨id, _, hid, e⟩⟩
    · rw [hh] at ho
      by_cases e : id = j
      · subst e; rw [ki] at hx; exact .inr (own1 b hx)
      · rw [if_neg e] at ho
        rw [kn j (Ne.symm e)] at hx
        exact .inl (other j o b (Ne.symm e) ho hx)
  have up : ∀ {x : AV} {u : Value}, x.ok 0 = true → VRel κ1 (avoid κ1 N0 H1) w' x u → VRel κ' (avoid κ' N (hset H id (.cells cs'))) w' x u := fun hok hu =>
    (hu.mono (fun _ _ h => h) (.refl w') (fun b _ hb => back b hb) (fun _ _ _ => rfl)).low (κ' := κ') (nx' := 0) (fun j hj => absurd hj (Nat.not_lt_zero _)) hok
  refine ⟨v', r, κ', hset H id (.cells cs'), nx, rfl, ?_, fun j hj => ?_, up hv hvr, rfl, rfl, cs', hQ, rfl⟩
  · refine .mk' hr (fun j b hb => ?_) st.wle (fun b hb hn => st.same b hb fun ho => hn ⟨id, _, hid, (own0 b).1 ho⟩) (fun b hb => ?_) (fun j b hb => ?_) (fun i j b o o' hi hj hb hb' => ?_) (fun j o ho => ?_)
    · by_cases e : j = id
      · subst e; rw [ki]; exact st.ext 0 b (k0.trans hb)
      · rw [kn j e]; exact hb
    · obtain ⟨j, o, ho, hx⟩ := hb
      rw [hh] at ho
      by_cases e : id = j
      · subst e; rw [ki] at hx
        rcases st.new b (own1 b hx) with h1 | h1
        · exact .inl ⟨id, _, hid, (own0 b).1 h1⟩
        · exact .inr h1
      · rw [if_neg e] at ho
        rw [kn j (Ne.symm e)] at hx
        exact .inl ⟨j, o, ho, hx⟩
    · by_cases e : j = id
      · subst e; rw [ki] at hb; exact st.hrel.bd 0 b hb
      · rw [kn j e] at hb; exact Nat.lt_of_lt_of_le (hr.bd j b hb) st.wle.1
    · rw [hh] at hi hj
      by_cases e : id = i <;> by_cases e' : id = j
      · omega
      · subst e; rw [if_neg e'] at hj; rw [ki] at hb; rw [kn j (Ne.symm e')] at hb'
        exact absurd (own1 b hb) (st.hrel.NH b (other j o' b (Ne.symm e') hj hb'))
      · subst e'; rw [if_neg e] at hi; rw [ki] at hb'; rw [kn i (Ne.symm e)] at hb
        exact absurd (own1 b hb') (st.hrel.NH b (other i o b (Ne.symm e) hi hb))
      · rw [if_neg e] at hi; rw [if_neg e'] at hj
        rw [kn i (Ne.symm e)] at hb; rw [kn j (Ne.symm e')] at hb'
        exact hr.inj i j b o o' hi hj hb hb'
    · rw [hh] at ho
      by_cases e : id = j
      · subst e; rw [if_pos rfl] at ho; cases ho
        right
        rcases st.hrel.rel 0 _ hcs' with ⟨e1, e2⟩ | ⟨blk, cc, e, e1, e2, e3, e4⟩
        · exact .inl ⟨e1, ki.trans e2⟩
        · refine .inr ⟨blk, cc, e, ki.trans e1, e2, e3, fun i x hx => ?_⟩
          obtain ⟨u, hu, hur⟩ := e4 i x hx
          exact ⟨u, hu, up (okL_get (hq cs' hQ) hx) hur⟩
      · rw [if_neg e] at ho
        refine .inl ⟨ho, fun hn => by rw [kn j (Ne.symm e)]; exact hn, fun b hb => st.same b (hr.bd j b hb) fun h1 => ?_⟩
        exact e (hr.inj id j b _ _ hid ho ((own0 b).1 h1) hb)
  · have hne : j ≠ id := fun e => by
      have := (hfr j hj).2
      rw [e, hid] at this; cases this
    refine ⟨(kn j hne).trans (hfr j hj).1, ?_⟩
    rw [hh, if_neg (Ne.symm hne)]; exact (hfr j hj).2

theorem AMutP.vc {fn : Func} {n esz : Nat} {p : AV} {rest cs : List AV} {v : AV} {Q : List AV → Prop} (τ : Tp)
    (h : vFn P (vxm P 4) fn (p :: .rsl 0 0 n esz :: rest) [(0, .cells cs)] 1 τ fun r H' _ _ => r = v ∧ ∃ cs', hget H' 0 = some (.cells cs') ∧ Q cs') : AMutP P fn p n esz rest cs v Q := by
  intro f hf
  exact ((vFn_ok (vxm_ok P 4)).call h hf).mono fun _ _ _ ⟨_, h⟩ => h
theorem AMutP.use {fn : Func} {n esz : Nat} {p : AV} {rest cs : List AV} {v : AV} {Q : List AV → Prop} (h : AMutP P fn p n esz rest cs v Q) (hp : p.ok 0 = true) (hrest : okL 0 rest = true) (hv : v.ok 0 = true) (hcs : okL 0 cs = true)
    (hq : ∀ cs', Q cs' → okL 0 cs' = true) {H : AHeap} {id nx : Nat} (hid : hget H id = some (.cells cs)) {K : AV → AHeap → Nat → Prop} (hk : ∀ cs', Q cs' → K v (hset H id (.cells cs')) nx) :
    ∃ Post : AV → AHeap → Nat → Prop, (∀ f, P.funcs[f]? = some fn → RangeOk P f (p :: .rsl id 0 n esz :: rest) H nx Post) ∧ ∀ r H' nx', Post r H' nx' → K r H' nx' :=
  ⟨_, fun _ hf => h.at hp hrest hv hcs hq hf hid, fun _ _ _ ⟨e1, e2, cs', hQ, e3⟩ => by subst e1; subst e2; subst e3; exact hk cs' hQ⟩
end
end Go.Am

import Derived.Test.YticiopkiikcokaaN12
import Derived.RangeFuncNested
import Derived.Scope
/-
  THE STATEMENT 'for .. := range f { .. }' over abstract states; a function's body with labels.
-/
namespace Go.Am

/-- What may be counted on where a function is called over some numbered objects. -/
def RangeOk (P : Program) (f : FuncId) (args : List AV) (H : AHeap) (nx : Nat) (K : AV → AHeap → Nat → Prop) : Prop :=
  ∀ (κ : Nat → Option Nat) (N : Nat → Prop) (w : World) (cargs : Array Value), HRel κ N H w → (∀ id, nx ≤ id → Fresh κ H id) → CRel κ (avoid κ N H) w args cargs →
    Calls P f cargs w (EnterPost N κ H w K)

theorem RangeOk.enter {P : Program} {f : FuncId} {fn : Func} {c : Code} {args : List AV} (hf : P.funcs[f]? = some fn) (hb : fn.body = some c) {H : AHeap} {nx : Nat} {K : AV → AHeap → Nat → Prop}
    (h : ∀ g : G, g.n = args.length + (fn.ntmps - args.length) → g.low nx → ACode P none g c (RetTo P fn K) ⟨env0 0 args, H, nx⟩) : RangeOk P f args H nx K :=
  fun _ _ _ _ hr hfr hc => Am.enter hf hb hr hfr hc h

section
variable {P : Program} {ro : Option Nat} {g : G} {Q : AX → St → Prop} {S : St}

theorem Rel.mark {κ : Nat → Option Nat} {a : Act} {w : World} (h : Rel g κ S a w) :
    Rel g κ S { a with defers := [{ target := .collected w.heap.size, args := #[] }] ++ a.defers } (w.alloc (.deferred (some []))) := by
  have st : Step g.N κ S.H w κ S.H (w.alloc (.deferred (some []))) := .still h.h (.alloc w _) (fun b hb => alloc_old w _ b hb)
  refine ⟨st.hrel, h.fresh, h.sz, fun t => st.v (h.env t), h.ext, h.wle.trans st.wle, fun b hb hn => ?_, h.new, ?_⟩
  · exact (alloc_old w _ b (Nat.lt_of_lt_of_le hb h.wle.1)).trans (h.same b hb hn)
  · obtain ⟨ms, h1, h2, h3⟩ := h.defs
    have hlt : ∀ r ∈ ms, r < w.heap.size := fun r hr => by
      have hb := (h3 r hr).2.1
      rcases Nat.lt_or_ge r w.heap.size with h | h
      · exact h
      · rw [Array.getElem?_eq_none h] at hb; cases hb
    refine ⟨w.heap.size :: ms, by simp [h1], List.nodup_cons.2 ⟨fun hm => absurd (hlt _ hm) (Nat.lt_irrefl _), h2⟩, fun r hr => ?_⟩
    rcases List.mem_cons.1 hr with rfl | hr
    · exact ⟨h.wle.1, alloc_new w _, fun ⟨id, o, _, hb⟩ => absurd (h.h.bd id _ hb) (Nat.lt_irrefl _)⟩
    · exact ⟨(h3 r hr).1, (alloc_old w _ r (hlt r hr)).trans (h3 r hr).2.1, (h3 r hr).2.2⟩

/-- The loop's record as it is laid. -/
def loop0 (S : St) (n : Nat) (ps : Array Tmp) (assign body : Code) : ALoop := { state := .ready, pending := none, n := n, env := S.env, params := ps, assign := assign, body := body }
/-- Behind the call. -/
def RangeK (P : Program) (ro : Option Nat) (g : G) (Q : AX → St → Prop) (S : St) (_ : AV) (H' : AHeap) (nx' : Nat) : Prop :=
  ∃ L', hget H' S.nx = some (.loop L') ∧ L'.state ≠ .busy ∧
    match L'.pending with
    | none => Q .norm ⟨S.env, herase H' S.nx, nx'⟩
    | some c => ACode P ro g c Q ⟨S.env, herase H' S.nx, nx'⟩
/-- The frame that a round is of. -/
def InRound (ro : Option Nat) (g : G) (S : St) : Prop := ro = none ∨ ∃ idr L l, hget S.H idr = some (.loop L) ∧ ro = some l ∧ g.κ0 idr = some l

theorem acode_rangeFunc {f : Operand} {ps : Array Tmp} {assign body : Code} {fid : FuncId} {first captured : List AV} (hf : aopd S.env f = .fn (.func fid) first captured) (hisfn : isFn P fid = true) (hro : InRound ro g S)
    (h : RangeOk P fid (first ++ [.yld S.nx] ++ captured) (hset S.H S.nx (.loop (loop0 S g.n ps assign body))) (S.nx + 1) (RangeK P ro g Q S)) : ACode P ro g (.rangeFunc f ps assign body) Q S := by
  intro κ a w hr
  refine wpIn_rangeFunc (F := Fr ro) (n := 0) fun fn _ => ?_
  obtain ⟨fn', hfn, hname, hbody⟩ := isFn_spec hisfn
  have hfv := hr.opd f
  rw [hf] at hfv
  generalize hfe : a.eval f = fv at hfv
  -- from the world in which the record is laid
  have main : ∀ (wa : World) (mark : List Deferred) (R : Loop), Rel g κ S { a with defers := mark ++ a.defers } wa → Wle w wa → (∀ x v, VRel κ (avoid κ g.N S.H) w x v → VRel κ (avoid κ g.N S.H) wa x v) →
      R.state = .ready → R.pending = none → R.params = ps → R.assign = assign → R.body = body → R.tmps = a.tmps →
      (Instr.enterLoop fn a.tmps ps assign body ro).run P w = .ok (wa.heap.size, mark) (wa.alloc (.loop R)) →
      ∃ (l : Nat) (mark : List Deferred) (w₁ : World) (d : Deferred) (w₁' : World) (f' : FuncId) (args : Array Value) (w₂ : World),
        (Instr.enterLoop fn a.tmps ps assign body (Fr ro).round).run P w = .ok (l, mark) w₁ ∧
        (resolve a.eval (rangeCall f l) 0).run P w₁ = .ok d w₁' ∧
        (∀ f', Target.leads P w₁' d.target d.args = some f' → (Fr ro).fn f') ∧
        (invoke d.target d.args).run P w₁' = .ok (.enter f' args) w₂ ∧
        ((Fr ro).depth.isSome = true → 1 ≤ 0) ∧
        CallsIn (Fr ro) (0 - 1) P f' args w₂ (rangePost (Fr ro) 0 P l (AQ g Q) { a with defers := mark ++ a.defers }) := by
    intro wa mark R hra hle hup h1 h2 h3 h4 h5 h6 he
    cases hfv with
    | fn _ _ _ vs us uf uc hlf hlc hf' hc' hvf hvc =>
      have st1 := Step.newObj hra.h (hra.fresh S.nx (Nat.le_refl _)) (.loop R) (.loop (loop0 S g.n ps assign body)) fun up =>
        ⟨_, R, withNew_new, alloc_new wa _, h1, h2, h3, h4, h5, by rw [h6]; exact hr.sz, fun t => by rw [h6]; exact up _ _ (hra.env t)⟩
      have hfr1 : ∀ id, S.nx + 1 ≤ id → Fresh (withNew κ S.nx (some wa.heap.size)) (hset S.H S.nx (.loop (loop0 S g.n ps assign body))) id := fun id hid => by
        refine ⟨?_, ?_⟩
        · rw [withNew_old (by omega)]; exact (hra.fresh id (by omega)).1
        · rw [hget_hset, if_neg (by omega)]; exact (hra.fresh id (by omega)).2
      have hargs : CRel (withNew κ S.nx (some wa.heap.size)) (avoid (withNew κ S.nx (some wa.heap.size)) g.N (hset S.H S.nx (.loop (loop0 S g.n ps assign body)))) (wa.alloc (.loop R))
          (first ++ [.yld S.nx] ++ captured) (vs ++ #[.func (.yield wa.heap.size) #[] #[]] ++ us) := by
        have happ : ∀ {κ : Nat → Option Nat} {av : Nat → Prop} {w : World} {xs ys : List AV} {p q : Array Value}, CRel κ av w xs p → CRel κ av w ys q → CRel κ av w (xs ++ ys) (p ++ q) := by
          intro κ av w xs ys p q h1 h2
          refine ⟨by simp [h1.1, h2.1], fun i c hi => ?_⟩
          rw [List.getElem?_append] at hi
          rw [Array.getElem?_append, h1.1]
          split at hi
          · rename_i hlt; rw [if_pos hlt]; exact h1.2 i c hi
          · rename_i hlt; rw [if_neg hlt]; exact h2.2 _ c hi
        refine happ (happ ⟨hlf, fun i c hi => ⟨_, hf' i c hi, st1.v (hup _ _ (hvf i c hi))⟩⟩ ⟨rfl, fun i c hi => ?_⟩) ⟨hlc, fun i c hi => ⟨_, hc' i c hi, st1.v (hup _ _ (hvc i c hi))⟩⟩
        cases i with
        | zero => simp at hi; subst hi; exact ⟨_, rfl, .yld _ _ withNew_new⟩
        | succ i => simp at hi
      have hcall := h _ g.N _ _ st1.hrel hfr1 hargs
      refine ⟨wa.heap.size, mark, wa.alloc (.loop R), { target := .fn (.func fid) us, args := vs ++ #[.func (.yield wa.heap.size) #[] #[]] }, wa.alloc (.loop R), fid, vs ++ #[.func (.yield wa.heap.size) #[] #[]] ++ us, wa.alloc (.loop R), he, ?_, fun _ _ => trivial, ?_, fun h => by simp [Fr, Fence.wide] at h, ?_⟩
      · have e : a.eval (.const (.func (.yield wa.heap.size) #[] #[])) = .func (.yield wa.heap.size) #[] #[] := rfl
        simp [resolve, hfe, Deferred.ofValue, e]
      · simp [invoke, callFunc, hfn, hname, hbody]
      · have hin : ∀ {R : Ending → World → Prop} {cargs : Array Value} {w : World}, Calls P fid cargs w R → CallsIn (Fr ro) (0 - 1) P fid cargs w R := fun h => (callsIn_wide (n := 0 - 1)).2 h
        refine (hin hcall).mono ?_
        rintro e w' ⟨v, r, κ', H', nx', rfl, st2, hfr2, hv2, L', hL', hst', hpend⟩
        have st12 : Step g.N κ S.H wa κ' H' w' := st1.trans st2
        have hk' : κ' S.nx = some wa.heap.size := st2.ext _ _ withNew_new
        obtain ⟨l', R', g1, g2, g3, g4, g5, g6, g7, g8, g9⟩ := st2.hrel.rel _ _ hL'
        rw [hk'] at g1; cases g1
        have st3 := Step.turnLoop st2.hrel hL' hk' g2 g5 g6 g7 g8 g9 .exhausted R'.pending
        have hend : (Instr.endLoop wa.heap.size).run P w' = .ok R'.pending (w'.putObj wa.heap.size (.loop { R' with state := .exhausted, pending := R'.pending })) := run_endLoop g2 (by rw [g3]; exact hst')
        refine ⟨R'.pending, _, hend, ?_⟩
        have hgone : ∀ id o, hget (herase H' S.nx) id = some o → hget (hset H' S.nx (.loop { L' with state := .exhausted, pending := R'.pending })) id = some o := fun id o ho => by
          rw [hget_herase] at ho
          split at ho
          · cases ho
          · rename_i hne; rw [hget_hset, if_neg hne]; exact ho
        have st4 := st12.trans (st3.trans (Step.drop st3.hrel (herase H' S.nx) hgone))
        have hrel4 : Rel g κ' ⟨S.env, herase H' S.nx, nx'⟩ { a with defers := mark ++ a.defers } (w'.putObj wa.heap.size (.loop { R' with state := .exhausted, pending := R'.pending })) := by
          have := hra.put0 (nx' := nx') st4 (fun id hid => ⟨(hfr2 id hid).1, by rw [hget_herase]; split; rfl; exact (hfr2 id hid).2⟩) undef
          exact this
        rw [g4] at hrel4
        rw [g4]
        revert hrel4 hpend
        cases L'.pending with
        | none => intro hpend hrel4; exact ⟨κ', _, hrel4, hpend⟩
        | some c => intro hpend hrel4; exact hpend κ' _ _ hrel4
  rcases hro with rfl | ⟨idr, L, l0, hL, rfl, hl0⟩
  · refine main (w.alloc (.deferred (some []))) [{ target := .collected w.heap.size, args := #[] }] { state := .ready, pending := none, fn, tmps := a.tmps, params := ps, assign, body, defers := w.heap.size } hr.mark (.alloc w _) (fun x v hv => ?_) rfl rfl rfl rfl rfl rfl ?_
    · have st : Step g.N κ S.H w κ S.H (w.alloc (.deferred (some []))) := .still hr.h (.alloc w _) (fun b hb => alloc_old w _ b hb)
      exact st.v hv
    · rw [run_enterLoop_outer]; simp
  · obtain ⟨l', R0, g1, g2, _⟩ := hr.h.rel _ _ hL
    rw [hr.ext _ _ hl0] at g1; cases g1
    refine main w [] { state := .ready, pending := none, fn, tmps := a.tmps, params := ps, assign, body, defers := R0.defers } (by simpa using hr) (.refl w) (fun x v hv => hv) rfl rfl rfl rfl rfl rfl ?_
    rw [run_enterLoop_inner g2]

/-- A body with labels, left in no other way than one without. -/
theorem acode_scope {c : Code} (h : ACode P none g c (fun x S => match x with | .goto _ => False | x => Q x S) S) : ACode P none g (.scope c) Q S := fun κ a w hr => by
  have h1 : c.wp P (Exit.noGoto (AQ g Q)) a w := wpIn_wide.1 (wpIn_mono (h κ a w hr) fun e a w hq => by
    cases e with
    | goto l => obtain ⟨_, _, _, hf⟩ := hq; exact hf.elim
    | normal => exact hq
    | exit i => exact hq
    | ret => exact hq
    | panic _ => exact hq.elim
    | outgrown => exact hq.elim)
  exact wpIn_wide.2 (wp_scope_straight h1)
end
end Go.Am

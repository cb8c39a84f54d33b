import Derived.Test.YticiopkiikcokaaN15
/-
  A LAW's ROW OUT OF THE FUNCTION's CONTRACT.
-/
namespace Go.Am
open Go.ChangeShapes Go.WideShapes Go.ChangeAt Go.RowKit

def tyOkL (P : Program) (n : Nat) : List TypeId → List Ty → Bool
  | [], [] => true
  | t :: ts, T :: Ts => tyOk P n t T && tyOkL P n ts Ts
  | _, _ => false

section
variable {H : Type} {enc : TypeId × Value → H} {P : Program} {w : World} {κ : Nat → Option Nat}

theorem read_args {base b0 : Nat} {spare : Nat → Bool} {held : Bool} {n : Nat} : ∀ {ts : List TypeId} {Ts : List Ty} {vs : List Value} {ds : List (DataW H)} {ps : List MemPlace}, tyOkL P n ts Ts = true →
    (∀ (j : Nat) t v, ts[j]? = some t → vs[j]? = some v → Value.okWide P w .any b0 t v) → DataW.TrodAll enc P w base spare held ts vs ds ps → ∃ as, ArgsV Ts as ∧ LRel nok w as vs ∧ ds.length = ts.length
  | [], [], vs, ds, ps, _, _, h => by
    obtain ⟨rfl, rfl, rfl⟩ := trodAll_nil h
    exact ⟨[], by simp only [ArgsV], ⟨rfl, fun i c hi => by simp at hi⟩, rfl⟩
  | t :: ts, T :: Ts, vs, ds, ps, hT, hval, h => by
    simp only [tyOkL, Bool.and_eq_true] at hT
    obtain ⟨v, vs', d, ds', p, q, rfl, rfl, rfl, hd, hrest⟩ := trodAll_cons h
    obtain ⟨a, ha, hra⟩ := read_arg hT.1 (hval 0 t v rfl rfl) hd
    obtain ⟨r, hr, hrr, hl⟩ := read_args (base := base) (b0 := b0) hT.2 (fun j t v hj hv => hval (j + 1) t v (by simpa using hj) (by simpa using hv)) hrest
    refine ⟨a :: r, by simp only [ArgsV]; exact ⟨a, r, rfl, ha, hr⟩, ?_, by simp [hl]⟩
    exact LRel.append (as := [a]) (cs := [v]) (.one hra) hrr
  | [], _ :: _, _, _, _, hT, _, _ => by cases hT
  | _ :: _, [], _, _, _, hT, _, _ => by cases hT

theorem trodAll_stays (hl : laidOutB P = true) {W W' : World} {sp : Nat → Bool} : ∀ {ts : List TypeId} {vs : List Value} {ds : List (DataW H)} {ps : List MemPlace}, (ts.all fun t => P.readableRec t && decide (t < P.types.size)) = true →
    DataW.TrodAll enc P W 0 (fun _ => true) true ts vs ds ps → (∀ p ∈ ps, W.sameAt W' p) → (∀ p ∈ ps, sp p.block = true) → DataW.TrodAll enc P W' 0 sp true ts vs ds ps
  | [], vs, ds, ps, _, h, _, _ => by
    obtain ⟨rfl, rfl, rfl⟩ := trodAll_nil h
    exact h
  | t :: ts, vs, ds, ps, hr, h, h1, h2 => by
    obtain ⟨v, vs', d, ds', p, q, rfl, rfl, rfl, hd, hrest⟩ := trodAll_cons h
    simp only [List.all_cons, Bool.and_eq_true, decide_eq_true_eq] at hr
    exact ⟨p, q, WideElems.Trod_stays hl hr.1.1 hr.1.2 hd (fun x hx => h1 x (List.mem_append_left _ hx)) (fun x hx => h2 x (List.mem_append_left _ hx)),
      trodAll_stays hl hr.2 hrest (fun x hx => h1 x (List.mem_append_right _ hx)) (fun x hx => h2 x (List.mem_append_right _ hx)), rfl⟩

theorem below_of {w w' : World} (h : Wle w w') (hs : ∀ b, b < w.heap.size → w'.heap[b]? = w.heap[b]?) : Below w.heap.size w w' :=
  ⟨h.2.2.2.1, h.2.2.2.2.1, h.2.2.2.2.2, h.1, hs⟩
end

/-- A LAW THAT ONLY COMPUTES: true whatever came in; what came in reads as it did. -/
theorem handed_of_pure {H : Type} {enc : TypeId × Value → H} {a : Assume} {C : Checked} {os : Os} {f : FuncId} {fn : Func} {s : ChangeSpec} {conds : List PathCond} {apart fresh handsOn : Bool} {tb : TypeId} {Ts : List Ty}
    (own : ownKnob C.prog.godebug = none) (started : os.Started) (noInit : C.prog.inits.idxOf? f = none) (hfn : C.prog.funcs[f]? = some fn)
    (witness : ∃ (w : World) (tape : Tape) (i : Input), w.os = os ∧ (w.forCall tape i).Shaped C.prog ∧ i.vars = [] ∧ Input.okWide C.prog (w.forCall tape i) .any w.heap.size f i ∧
      s.pre6 enc C.prog fn conds apart (w.forCall tape i).memory i.args ∧ a.holds C.prog (lone (Frame.enter C.prog f i.args .normal) [] (w.forCall tape i)))
    (hvars : s.vars = []) (hspec : ∀ (ds : List (DataW H)), ds.length = fn.params.size → s.fn H ds = { results := [.lit (.bool true)], args := ds }) (hlaid : laidOutB C.prog = true)
    (hps : (fn.params.toList.all fun t => C.prog.readableRec t && decide (t < C.prog.types.size)) = true) (hres : fn.resultTypes = #[tb]) (htb : C.prog.underlying tb = some .bool)
    (hT : tyOkL C.prog 8 fn.params.toList Ts = true) (h : ∀ as, ArgsV Ts as → APure C.prog f as (.bool true)) :
    ReturnsInHanded a C os f .any (s.pre6 enc C.prog fn conds apart) (s.post enc C.prog fn apart fresh handsOn false) := by
  refine returnsInHanded_of_change own started noInit hfn witness ?_
  intro W base args ds gs before hval hW _ _
  have hW' := hW
  obtain ⟨p, q, hA, hV, rfl, hfz, hnd⟩ := hW
  rw [hvars] at hV
  obtain ⟨rfl, rfl⟩ := trodVars_none hV
  obtain ⟨as, has, hrel, hlen⟩ := read_args hT (fun j t v hj hv => hval j t v (by simpa using hj) (by simpa using hv)) hA
  have hlt : ∀ x ∈ p, x.block < W.heap.size := fun x hx => hW'.lt x (by simpa using hx)
  refine (h as has (fun _ => none) (fun _ => False) W args (fun b hb => hb.elim) ⟨by simpa using hrel.1, fun i c hi => by simpa using hrel.2 i c hi⟩).mono ?_
  rintro e W' ⟨v, rfl, hle, hsame, hv⟩
  cases hv
  have hb := below_of hle hsame
  have hstay : ∀ sp : Nat → Bool, (∀ x ∈ p, sp x.block = true) → DataW.TrodAll enc C.prog W' 0 sp true fn.params.toList args.toList ds p := fun sp hsp =>
    trodAll_stays hlaid hps hA (fun x hx => hb.same (hlt x hx)) hsp
  have hs := hspec ds (by rw [hlen]; simp)
  refine ⟨_, rfl, ds, [], p ++ [], [], p, [], hW', ?_, ?_, ?_, ?_, fun e => by cases e⟩
  · rw [List.append_nil, hs, hres]
    refine ⟨[], [], ⟨1, ?_⟩, rfl, rfl⟩
    simp only [Value.cells, DataW.trod, htb]
  · rw [List.append_nil, hs]
    exact hstay _ (fun x hx => by simpa using hlt x hx)
  · rw [List.append_nil, hs, hvars]
    rfl
  · exact hb.frame _
/-- The same, where the row lists variables. -/
theorem handed_of_pure_and {H : Type} {enc : TypeId × Value → H} {a : Assume} {C : Checked} {os : Os} {f : FuncId} {fn : Func} {s : ChangeSpec} {conds : List PathCond} {apart fresh handsOn : Bool} {tb : TypeId} {Ts : List Ty} {X : World → Array Value → Prop} (hX : ∀ (w w' : World) (args : Array Value), w.heap = w'.heap → X w args → X w' args)
    (own : ownKnob C.prog.godebug = none) (started : os.Started) (noInit : C.prog.inits.idxOf? f = none) (hfn : C.prog.funcs[f]? = some fn)
    (witness : ∃ (w : World) (tape : Tape) (i : Input), w.os = os ∧ (w.forCall tape i).Shaped C.prog ∧ i.vars = [] ∧ Input.okWide C.prog (w.forCall tape i) .any w.heap.size f i ∧
      ((s.pre enc C.prog fn conds apart (w.forCall tape i).memory i.args ∧ X (w.forCall tape i).memory i.args) ∧ sizedMet enc C.prog fn (OpenSpec.ofChange s) apart (w.forCall tape i).memory i.args) ∧ a.holds C.prog (lone (Frame.enter C.prog f i.args .normal) [] (w.forCall tape i)))
    (hvars : s.vars = []) (hspec : ∀ (ds : List (DataW H)), ds.length = fn.params.size → s.fn H ds = { results := [.lit (.bool true)], args := ds }) (hlaid : laidOutB C.prog = true)
    (hps : (fn.params.toList.all fun t => C.prog.readableRec t && decide (t < C.prog.types.size)) = true) (hres : fn.resultTypes = #[tb]) (htb : C.prog.underlying tb = some .bool)
    (hT : tyOkL C.prog 8 fn.params.toList Ts = true) (h : ∀ as, ArgsV Ts as → APure C.prog f as (.bool true)) :
    ReturnsInHanded a C os f .any (fun w args => (s.pre enc C.prog fn conds apart w args ∧ X w args) ∧ sizedMet enc C.prog fn (OpenSpec.ofChange s) apart w args) (s.post enc C.prog fn apart fresh handsOn false) := by
  refine returnsInHanded_of_change_and hX own started noInit hfn witness ?_
  intro W base args ds gs before hval hW _ _ _ _
  have hW' := hW
  obtain ⟨p, q, hA, hV, rfl, hfz, hnd⟩ := hW
  rw [hvars] at hV
  obtain ⟨rfl, rfl⟩ := trodVars_none hV
  obtain ⟨as, has, hrel, hlen⟩ := read_args hT (fun j t v hj hv => hval j t v (by simpa using hj) (by simpa using hv)) hA
  have hlt : ∀ x ∈ p, x.block < W.heap.size := fun x hx => hW'.lt x (by simpa using hx)
  refine (h as has (fun _ => none) (fun _ => False) W args (fun b hb => hb.elim) ⟨by simpa using hrel.1, fun i c hi => by simpa using hrel.2 i c hi⟩).mono ?_
  rintro e W' ⟨v, rfl, hle, hsame, hv⟩
  cases hv
  have hb := below_of hle hsame
  have hstay : ∀ sp : Nat → Bool, (∀ x ∈ p, sp x.block = true) → DataW.TrodAll enc C.prog W' 0 sp true fn.params.toList args.toList ds p := fun sp hsp =>
    trodAll_stays hlaid hps hA (fun x hx => hb.same (hlt x hx)) hsp
  have hs := hspec ds (by rw [hlen]; simp)
  refine ⟨_, rfl, ds, [], p ++ [], [], p, [], hW', ?_, ?_, ?_, ?_, fun e => by cases e⟩
  · rw [List.append_nil, hs, hres]
    refine ⟨[], [], ⟨1, ?_⟩, rfl, rfl⟩
    simp only [Value.cells, DataW.trod, htb]
  · rw [List.append_nil, hs]
    exact hstay _ (fun x hx => by simpa using hlt x hx)
  · rw [List.append_nil, hs, hvars]
    rfl
  · exact hb.frame _
end Go.Am

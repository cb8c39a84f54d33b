import Derived.Test.YticiopkiikcokaaMa
import Derived.OrdersIn
import Derived.RangeFuncIn
import Derived.RangeFuncRecord
/-
  CODE OVER ABSTRACT STATES: rules for the walk, each proved against the model's own 'wpIn'.
-/
namespace Go.Am

/-- No fence but the round that the frame is of. -/
def Fr (ro : Option Nat) : Fence := { Fence.wide with round := ro }

inductive AX where
  | norm | exit (id : Nat) | goto (l : Nat) | ret

def AQ (g : G) (Q : AX → St → Prop) : Exit → Act → World → Prop
  | .normal, a, w => ∃ κ S, Rel g κ S a w ∧ Q .norm S
  | .exit id, a, w => ∃ κ S, Rel g κ S a w ∧ Q (.exit id) S
  | .goto l, a, w => ∃ κ S, Rel g κ S a w ∧ Q (.goto l) S
  | .ret, a, w => ∃ κ S, Rel g κ S a w ∧ Q .ret S
  | .panic _, _, _ => False
  | .outgrown, _, _ => False

def ACode (P : Program) (ro : Option Nat) (g : G) (c : Code) (Q : AX → St → Prop) (S : St) : Prop :=
  ∀ κ a w, Rel g κ S a w → c.wpIn (Fr ro) 0 P (AQ g Q) a w

theorem AQ.mono {g : G} {Q Q' : AX → St → Prop} (h : ∀ x S, Q x S → Q' x S) (e : Exit) (a : Act) (w : World) (hq : AQ g Q e a w) : AQ g Q' e a w := by
  cases e <;> first | exact hq | (obtain ⟨κ, S, h1, h2⟩ := hq; exact ⟨κ, S, h1, h _ _ h2⟩)
theorem ACode.mono {P : Program} {ro : Option Nat} {g : G} {c : Code} {Q Q' : AX → St → Prop} {S : St} (h : ACode P ro g c Q S) (hq : ∀ x S, Q x S → Q' x S) : ACode P ro g c Q' S :=
  fun κ a w hr => wpIn_mono (h κ a w hr) (AQ.mono hq)

section
variable {P : Program} {ro : Option Nat} {g : G} {Q : AX → St → Prop} {S : St}

theorem acode_skip (h : Q .norm S) : ACode P ro g .skip Q S := fun κ _a _w hr => wpIn_skip ⟨κ, S, hr, h⟩
theorem acode_label {l : Nat} (h : Q .norm S) : ACode P ro g (.label l) Q S := fun κ _a _w hr => wpIn_label ⟨κ, S, hr, h⟩
theorem acode_exit {id : Nat} (h : Q (.exit id) S) : ACode P ro g (.exit id) Q S := fun κ _a _w hr => wpIn_exit ⟨κ, S, hr, h⟩
theorem acode_goto {l : Nat} (h : Q (.goto l) S) : ACode P ro g (.goto l) Q S := fun κ _a _w hr => wpIn_goto ⟨κ, S, hr, h⟩
theorem acode_ret (h : Q .ret S) : ACode P ro g .ret Q S := fun κ _a _w hr => wpIn_ret ⟨κ, S, hr, h⟩

def AX.then (K : St → Prop) (Q : AX → St → Prop) : AX → St → Prop
  | .norm, S => K S
  | x, S => Q x S
theorem acode_seq {x y : Code} (h : ACode P ro g x (AX.then (ACode P ro g y Q) Q) S) : ACode P ro g (.seq x y) Q S := fun κ a w hr =>
  wpIn_seq (wpIn_mono (h κ a w hr) fun e a' w' hq => by
    cases e with
    | normal => obtain ⟨κ', S', h1, h2⟩ := hq; exact h2 κ' a' w' h1
    | panic _ => exact hq.elim
    | outgrown => exact hq.elim
    | _ => exact hq)
theorem acode_cond {c : Operand} {x y : Code} {b : Bool} (hc : aopd S.env c = .bool b) (ht : b = true → ACode P ro g x Q S) (hf : b = false → ACode P ro g y Q S) : ACode P ro g (.cond c x y) Q S := fun κ a w hr => by
  have hv := hr.opd c
  rw [hc] at hv
  generalize he : a.eval c = v at hv
  cases hv
  exact wpIn_cond_split he (fun e => ht e κ a w hr) (fun e => hf e κ a w hr)
def AX.inBlock (id : Nat) (Q : AX → St → Prop) : AX → St → Prop
  | .exit id', S => if id' = id then Q .norm S else Q (.exit id') S
  | x, S => Q x S
theorem acode_block {id : Nat} {c : Code} (h : ACode P ro g c (AX.inBlock id Q) S) : ACode P ro g (.block id c) Q S := fun κ a w hr =>
  wpIn_block (wpIn_mono (h κ a w hr) fun e a' w' hq => by
    cases e with
    | exit id' =>
      obtain ⟨κ', S', h1, h2⟩ := hq
      simp only [AX.inBlock] at h2
      simp only [Exit.inBlock]
      split
      · rename_i e; rw [if_pos e] at h2; exact ⟨κ', S', h1, h2⟩
      · rename_i e; rw [if_neg e] at h2; exact ⟨κ', S', h1, h2⟩
    | panic _ => exact hq.elim
    | outgrown => exact hq.elim
    | _ => exact hq)

def okO (n : Nat) : AObj → Bool
  | .cells cs => okL n cs
  | .map es => okE n es
  | .loop L => okL n (L.env.map (·.2))
theorem okL_elook {n : Nat} {env : Env} (h : okL n (env.map (·.2)) = true) (t : Nat) : (elook env t).ok n = true := by
  induction env with
  | nil => rfl
  | cons p env ih =>
    obtain ⟨k, v⟩ := p
    simp only [List.map_cons, okL, Bool.and_eq_true] at h
    simp only [elook]
    split
    · exact h.1
    · exact ih h.2
/-- A state that says less. -/
def St.le (S' S : St) : Prop :=
  (∀ t, elook S'.env t = .any ∨ elook S'.env t = elook S.env t) ∧ (∀ id o, hget S'.H id = some o → hget S.H id = some o) ∧
  (∀ t, (elook S'.env t).ok S'.nx = true) ∧ ∀ id o, hget S'.H id = some o → id < S'.nx ∧ okO S'.nx o = true

def cut (κ : Nat → Option Nat) (n : Nat) (id : Nat) : Option Nat := if id < n then κ id else none

theorem ORel.low {κ : Nat → Option Nat} {av : Nat → Prop} {w : World} {id n : Nat} {o : AObj} (h : ORel κ av w id o) (hid : id < n)
    (hok : okO n o = true) : ORel (cut κ n) av w id o := by
  have hc : ∀ j, j < n → cut κ n j = κ j := fun j hj => by unfold cut; rw [if_pos hj]
  cases o with
  | cells cs =>
    rcases h with ⟨h1, h2⟩ | ⟨blk, c, e, h1, h2, h3, h4⟩
    · exact .inl ⟨h1, (hc id hid).trans h2⟩
    · refine .inr ⟨blk, c, e, (hc id hid).trans h1, h2, h3, fun i x hx => ?_⟩
      obtain ⟨v, hv, hr⟩ := h4 i x hx
      exact ⟨v, hv, hr.low hc (okL_get hok hx)⟩
  | map es =>
    obtain ⟨r, ents, clk, h1, h2, h3, h4⟩ := h
    refine ⟨r, ents, clk, (hc id hid).trans h1, h2, h3, fun i e he => ?_⟩
    obtain ⟨m, hm, hk, hv⟩ := h4 i e he
    exact ⟨m, hm, hk.low hc (okE_get hok he).1, hv.low hc (okE_get hok he).2⟩
  | loop L =>
    obtain ⟨r, R, h1, h2, h3, h4, h5, h6, h7, h8, h9⟩ := h
    exact ⟨r, R, (hc id hid).trans h1, h2, h3, h4, h5, h6, h7, h8, fun t => (h9 t).low hc (okL_elook hok t)⟩

/-- Numbers that the activation came with stay as they are. -/
def G.low (g : G) (n : Nat) : Prop := ∀ id, g.κ0 id ≠ none → id < n

theorem Rel.weaken {g : G} {κ : Nat → Option Nat} {S S' : St} {a : Act} {w : World} (h : Rel g κ S a w) (hle : S'.le S) (hg : g.low S'.nx) : Rel g (cut κ S'.nx) S' a w := by
  obtain ⟨h1, h2, h3, h4⟩ := hle
  have st := Step.drop h.h S'.H h2
  have hc : ∀ j, j < S'.nx → cut κ S'.nx j = κ j := fun j hj => by unfold cut; rw [if_pos hj]
  have hn : ∀ j, ¬ j < S'.nx → cut κ S'.nx j = none := fun j hj => by unfold cut; rw [if_neg hj]
  have hown : ∀ b, owned (cut κ S'.nx) S'.H b ↔ owned κ S'.H b := fun b =>
    ⟨fun ⟨id, o, ho, hb⟩ => ⟨id, o, ho, (hc id (h4 id o ho).1) ▸ hb⟩, fun ⟨id, o, ho, hb⟩ => ⟨id, o, ho, (hc id (h4 id o ho).1).symm ▸ hb⟩⟩
  have hav : avoid (cut κ S'.nx) g.N S'.H = avoid κ g.N S'.H := by
    funext b; unfold avoid; rw [propext (hown b)]
  refine ⟨⟨fun id o ho => ?_, fun id id' b o o' ho ho' hb hb' => ?_, fun id b hb => ?_, h.h.Nbd, fun b hb ho => st.hrel.NH b hb ((hown b).1 ho)⟩, fun id hid => ⟨hn id (by omega), ?_⟩, h.sz, fun t => ?_, fun id b hb => ?_, h.wle, h.same, fun b hb => ?_, ?_⟩
  · rw [hav]; exact (st.hrel.rel id o ho).low (h4 id o ho).1 (h4 id o ho).2
  · rw [hc _ (h4 _ _ ho).1] at hb; rw [hc _ (h4 _ _ ho').1] at hb'
    exact st.hrel.inj id id' b o o' ho ho' hb hb'
  · by_cases hlt : id < S'.nx
    · rw [hc id hlt] at hb; exact h.h.bd id b hb
    · rw [hn id hlt] at hb; cases hb
  · cases ho : hget S'.H id with
    | none => rfl
    | some o => have := (h4 id o ho).1; omega
  · rw [hav]
    rcases h1 t with e | e
    · rw [e]; exact .any _
    · have := (st.v (h.env t)).low hc (e ▸ h3 t)
      rw [e]; exact this
  · rw [hc id (hg id (by rw [hb]; simp))]; exact h.ext id b hb
  · have := st.new b ((hown b).1 hb)
    rcases this with h1 | h1
    · exact h.new b h1
    · have := (hown b).1 hb
      obtain ⟨id, o, ho, hb'⟩ := this
      have := h.h.bd id b hb'
      omega
  · obtain ⟨ms, m1, m2, m3⟩ := h.defs
    exact ⟨ms, m1, m2, fun r hr => ⟨(m3 r hr).1, (m3 r hr).2.1, fun ho => (m3 r hr).2.2 (let ⟨id, o, ho, hb⟩ := (hown r).1 ho; ⟨id, o, h2 id o ho, hb⟩)⟩⟩

theorem ACode.weaken {c : Code} {S' : St} (hle : S'.le S) (hg : g.low S'.nx) (h : ACode P ro g c Q S') : ACode P ro g c Q S :=
  fun _ a w hr => h _ a w (hr.weaken hle hg)

/-- A loop: states by an index, each round to a lesser one. -/
theorem acode_loop {ι : Type} (st : ι → St) (I : ι → Prop) (μ : ι → Nat) (i0 : ι) (hI : I i0) (h0 : (st i0).le S) (hg : ∀ i, I i → g.low (st i).nx) {c : Code}
    (round : ∀ i, I i → ACode P ro g c (AX.then (fun S' => ∃ j, I j ∧ μ j < μ i ∧ (st j).le S') Q) (st i)) : ACode P ro g (.loop c) Q S := fun κ a w hr => by
  have hmin : ∀ p : Nat → Prop, (∃ n, p n) → ∃ n, p n ∧ ∀ m, p m → n ≤ m := by
    intro p ⟨n, hn⟩
    induction n using Nat.strongRecOn with
    | _ n ih =>
      by_cases hx : ∃ m, m < n ∧ p m
      · obtain ⟨m, hm, hp⟩ := hx; exact ih m hm hp
      · exact ⟨n, hn, fun m hm => Nat.le_of_not_lt fun hlt => hx ⟨m, hlt, hm⟩⟩
  obtain ⟨f, hf⟩ : ∃ f : Act → World → Nat, ∀ a w, (∃ n i κ, μ i = n ∧ I i ∧ Rel g κ (st i) a w) → (∃ i κ, μ i = f a w ∧ I i ∧ Rel g κ (st i) a w) ∧ ∀ m, (∃ i κ, μ i = m ∧ I i ∧ Rel g κ (st i) a w) → f a w ≤ m := by
    classical
    exact ⟨fun a w => if h : ∃ n i κ, μ i = n ∧ I i ∧ Rel g κ (st i) a w then Classical.choose (hmin _ h) else 0, fun a w h => by
      simp only [dif_pos h]; exact Classical.choose_spec (hmin _ h)⟩
  refine wpIn_loop (fun a w => ∃ i κ, I i ∧ Rel g κ (st i) a w) f ⟨i0, _, hI, hr.weaken h0 (hg _ hI)⟩ ?_
  rintro a w ⟨i1, κ1, hI1, hr1⟩
  obtain ⟨⟨i, κ2, hn, hI2, hr2⟩, _⟩ := hf a w ⟨_, i1, κ1, rfl, hI1, hr1⟩
  refine wpIn_mono (round i hI2 κ2 a w hr2) fun e a' w' hq => ?_
  cases e with
  | normal =>
    obtain ⟨κ', S', h1, j, hj, hlt, hle⟩ := hq
    have hr' := h1.weaken hle (hg j hj)
    exact ⟨⟨j, _, hj, hr'⟩, Nat.lt_of_le_of_lt ((hf a' w' ⟨_, j, _, rfl, hj, hr'⟩).2 _ ⟨j, _, rfl, hj, hr'⟩) (hn ▸ hlt)⟩
  | panic _ => exact hq.elim
  | outgrown => exact hq.elim
  | _ => exact hq

/-! ### Regions in the text's order -/
structure SOp where
  dst : Option Tmp
  op : Op
  gd : Option (Option Tmp × Bool)
def sop (ops : Array Oper) (o : Oper) : SOp := ⟨o.dst, o.op, o.guard.map fun p => ((ops[p.1]?).bind (·.dst), p.2)⟩
def strip (ops : Array Oper) : List SOp := ops.toList.map (sop ops)

def putOut (S : St) (dst : Option Tmp) (out : Out) (nx : Nat) : St :=
  ⟨(match dst with | some d => (d, out.v) :: S.env | none => S.env), upH S.H out.ups, nx⟩
def putV (S : St) (dst : Option Tmp) (v : AV) : St :=
  ⟨(match dst with | some d => (d, v) :: S.env | none => S.env), S.H, S.nx⟩
def dstOk (g : G) (dst : Option Tmp) : Prop := match dst with | some d => d < g.n | none => True

/-- Calls of Go functions: what the caller may count on. -/
def CallOk (P : Program) (g : G) (f : FuncId) (args : List AV) (S : St) (K : AV → St → Prop) : Prop :=
  ∀ κ a w (cargs : Array Value), Rel g κ S a w → CRel κ (avoid κ g.N S.H) w args cargs → Calls P f cargs w fun e w' => ∃ κ' H' nx' r v, e = .returned v ∧ Step g.N κ S.H w κ' H' w' ∧
    (∀ id, nx' ≤ id → Fresh κ' H' id) ∧ VRel κ' (avoid κ' g.N H') w' r v ∧ K r ⟨S.env, H', nx'⟩

def callArgs (env : Env) (first : List AV) (args : Array Operand) (captured : List AV) : List AV := first ++ args.toList.map (aopd env) ++ captured

def isFn (P : Program) (f : FuncId) : Bool := match P.funcs[f]? with
  | some fn => fn.name != "runtime.NumGoroutine" && fn.body.isSome
  | none => false

/-- yield's arguments in a loop's variables. -/
def bindE : Env → List Nat → List AV → Env
  | env, p :: ps, a :: as => bindE ((p, a) :: env) ps as
  | env, _, _ => env
/-- The end of a round of a loop over a function: what yield answers. -/
def RoundK (K : AV → AHeap → Nat → Prop) (id : Nat) (x : AX) (S : St) : Prop :=
  ∃ L, hget S.H id = some (.loop L) ∧
    match x with
    | .norm => K (.bool true) (hset S.H id (.loop { L with state := .ready, pending := none })) S.nx
    | .ret => K (.bool false) (hset S.H id (.loop { L with state := .done, pending := some .ret })) S.nx
    | .exit i => K (.bool false) (hset S.H id (.loop { L with state := .done, pending := some (.exit i) })) S.nx
    | .goto t => K (.bool false) (hset S.H id (.loop { L with state := .done, pending := some (.goto t) })) S.nx
/-- A call of yield. -/
def RoundOk (P : Program) (id : Nat) (args : List AV) (S : St) (K : AV → St → Prop) : Prop :=
  ∃ L, hget S.H id = some (.loop L) ∧ L.state = .ready ∧ L.params.toList.length = args.length ∧ (L.params.toList.all fun p => decide (p < L.n)) = true ∧
    ∀ (g' : G) (l : Nat), g'.n = L.n → g'.low S.nx → g'.κ0 id = some l →
      ACode P (some l) g' L.assign (AX.then (fun S1 => ∃ L1, hget S1.H id = some (.loop L1) ∧ L1.state = .ready ∧
        ACode P (some l) g' L.body (RoundK (fun r H' nx' => K r ⟨S.env, H', nx'⟩) id) ⟨S1.env, hset S1.H id (.loop { L1 with state := .busy }), S1.nx⟩) (fun _ _ => False)) ⟨bindE L.env L.params.toList args, S.H, S.nx⟩

def AOp (P : Program) (g : G) (o : SOp) (S : St) (K : St → Prop) : Prop :=
  dstOk g o.dst ∧
  match aval P o.op (aopd S.env) (hget S.H) S.nx with
  | some out => K (putOut S o.dst out (match out.ups with | [] => S.nx | _ => S.nx + 1))
  | none =>
    match o.op with
    | .call { callee := .value f, args := args, argTypes := _ } =>
      (match aopd S.env f with
      | .fn (.func fid) first captured => isFn P fid = true ∧ CallOk P g fid (callArgs S.env first args captured) S (fun r S' => K (putV S' o.dst r))
      | .yld id => RoundOk P id (callArgs S.env [] args []) S (fun r S' => K (putV S' o.dst r))
      | _ => False)
    | _ => False

/-- A truth value that a branch has learned. -/
def setB (S : St) (t : Nat) (b : Bool) : St := ⟨(t, .bool b) :: S.env, S.H, S.nx⟩
theorem Rel.setB {g : G} {κ : Nat → Option Nat} {S : St} {a : Act} {w : World} (h : Rel g κ S a w) {t : Nat} {b : Bool} (ht : elook S.env t = .bool b) : Rel g κ (Am.setB S t b) a w :=
  ⟨h.h, h.fresh, h.sz, fun t' => by
    show VRel κ (avoid κ g.N S.H) w (if t = t' then .bool b else elook S.env t') _
    split
    · rename_i e; subst e; rw [← ht]; exact h.env t
    · exact h.env t', h.ext, h.wle, h.same, h.new, h.defs⟩

def AOps (P : Program) (g : G) : List SOp → St → (St → Prop) → Prop
  | [], S, K => K S
  | o :: r, S, K =>
    match o.gd with
    | none => AOp P g o S fun S' => AOps P g r S' K
    | some (some t, want) =>
      (match elook S.env t with
      | .bool b => (b = want → AOp P g o (setB S t want) fun S' => AOps P g r S' K) ∧ (b = !want → dstOk g o.dst ∧ AOps P g r (putV (setB S t !want) o.dst .undef) K)
      | .undef => dstOk g o.dst ∧ AOps P g r (putV S o.dst .undef) K
      | _ => False)
    | some (none, _) => dstOk g o.dst ∧ AOps P g r (putV S o.dst .undef) K

theorem Rel.skip {κ : Nat → Option Nat} {a : Act} {w : World} (h : Rel g κ S a w) {dst : Option Tmp} (hd : dstOk g dst) {v : AV} {u : Value} (hv : VRel κ (avoid κ g.N S.H) w v u) : Rel g κ (putV S dst v) (a.put dst u) w := by
  cases dst with
  | none => exact h.put0 (.refl h.h) h.fresh u
  | some d => exact h.put (.refl h.h) h.fresh hd hv

theorem isFn_spec {f : FuncId} (h : isFn P f = true) : ∃ fn, P.funcs[f]? = some fn ∧ ¬ fn.name = "runtime.NumGoroutine" ∧ ¬ fn.body = none := by
  unfold isFn at h
  split at h
  · rename_i fn hf
    refine ⟨fn, hf, ?_, ?_⟩
    · simp only [Bool.and_eq_true, bne_iff_ne, ne_eq] at h; exact h.1
    · simp only [Bool.and_eq_true] at h; intro e; rw [e] at h; simp at h
  · cases h

theorem CRel.args {κ : Nat → Option Nat} {a : Act} {w : World} (h : Rel g κ S a w) {fs cs : List AV} {vs us : Array Value} (hf : CRel κ (avoid κ g.N S.H) w fs vs) (hc : CRel κ (avoid κ g.N S.H) w cs us) (args : Array Operand) :
    CRel κ (avoid κ g.N S.H) w (callArgs S.env fs args cs) (vs ++ args.map a.eval ++ us) := by
  have happ : ∀ {xs ys : List AV} {p q : Array Value}, CRel κ (avoid κ g.N S.H) w xs p → CRel κ (avoid κ g.N S.H) w ys q → CRel κ (avoid κ g.N S.H) w (xs ++ ys) (p ++ q) := by
    intro xs ys p q h1 h2
    refine ⟨by simp [h1.1, h2.1], fun i c hi => ?_⟩
    rw [List.getElem?_append] at hi
    rw [Array.getElem?_append, h1.1]
    split at hi
    · rename_i hlt; rw [if_pos hlt]; exact h1.2 i c hi
    · rename_i hlt; rw [if_neg hlt]; exact h2.2 _ c hi
  refine happ (happ hf ⟨by simp, fun i c hi => ?_⟩) hc
  rw [List.getElem?_map, Array.getElem?_toList] at hi
  cases ha : args[i]? with
  | none => rw [ha] at hi; cases hi
  | some x => rw [ha] at hi; cases hi; exact ⟨a.eval x, by simp [ha], h.opd x⟩

theorem bindE_rel {κ : Nat → Option Nat} {av : Nat → Prop} {w : World} : ∀ (ps : List Nat) (as : List AV) (vs : List Value) (env : Env) (tmps : Array Value), as.length = ps.length → vs.length = as.length →
    (ps.all fun p => decide (p < tmps.size)) = true → (∀ (i : Nat) (c : AV), as[i]? = some c → ∃ u, vs[i]? = some u ∧ VRel κ av w c u) → (∀ t, VRel κ av w (elook env t) (tmps.getD t undef)) →
    ((ps.zip vs).foldl (fun (tmps : Array Value) (p : Nat × Value) => tmps.setIfInBounds p.1 p.2) tmps).size = tmps.size ∧
    ∀ t, VRel κ av w (elook (bindE env ps as) t) (((ps.zip vs).foldl (fun (tmps : Array Value) (p : Nat × Value) => tmps.setIfInBounds p.1 p.2) tmps).getD t undef) := by
  intro ps
  induction ps with
  | nil => intro as vs env tmps h1 h2 h3 h4 h5; exact ⟨rfl, fun t => by simpa [bindE] using h5 t⟩
  | cons p ps ih =>
    intro as vs env tmps h1 h2 h3 h4 h5
    cases as with
    | nil => simp at h1
    | cons a as =>
      cases vs with
      | nil => simp at h2
      | cons v vs =>
        simp only [List.all_cons, Bool.and_eq_true, decide_eq_true_eq] at h3
        obtain ⟨u, hu, hur⟩ := h4 0 a rfl
        simp at hu; subst hu
        have := ih as vs ((p, a) :: env) (tmps.setIfInBounds p v) (by simpa using h1) (by simpa using h2) (by simpa using h3.2) (fun i c hi => by simpa using h4 (i + 1) c (by simpa using hi)) (fun t => by
          simp only [elook]
          by_cases e : p = t
          · subst e; simp [h3.1]; exact hur
          · rw [if_neg e]; simpa [Array.getElem?_setIfInBounds_ne e] using h5 t)
        exact ⟨by simpa using this.1, this.2⟩

/-- A loop's record is turned. -/
theorem Step.turnLoop {N : Nat → Prop} {κ : Nat → Option Nat} {H : AHeap} {w : World} (h : HRel κ N H w) {id l : Nat} {L : ALoop} {R : Loop} (hL : hget H id = some (.loop L)) (hk : κ id = some l) (hR : w.heap[l]? = some (.loop R))
    (hp : R.params = L.params) (ha : R.assign = L.assign) (hb : R.body = L.body) (hn : R.tmps.size = L.n) (he : ∀ t, VRel κ (avoid κ N H) w (elook L.env t) (R.tmps.getD t Go.undef)) (st : LoopState) (pd : Option Code) :
    Step N κ H w κ (hset H id (.loop { L with state := st, pending := pd })) (w.putObj l (.loop { R with state := st, pending := pd })) := by
  have hlt : l < w.heap.size := by
    rcases Nat.lt_or_ge l w.heap.size with h | h
    · exact h
    · rw [Array.getElem?_eq_none h] at hR; cases hR
  have hne : ∀ b, b ≠ l → (w.putObj l (.loop { R with state := st, pending := pd })).heap[b]? = w.heap[b]? := fun b h => World.putObj_heap_other h
  refine .turn h hL hk ⟨by simp, fun b c e f hb => ⟨c, f, (hne b ?_).trans hb, rfl⟩, fun b L' hb => ?_, rfl, rfl, rfl⟩ hne (by simp) _ fun up => ?_
  · intro e'; subst e'; rw [hR] at hb; cases hb
  · by_cases e : b = l
    · subst e; exact ⟨_, World.putObj_heap_same hlt⟩
    · exact ⟨L', (hne b e).trans hb⟩
  · exact ⟨l, _, hk, World.putObj_heap_same hlt, rfl, rfl, hp, ha, hb, hn, fun t => up _ _ (he t)⟩

theorem Fresh.put {κ : Nat → Option Nat} {H : AHeap} {i : Nat} {o p : AObj} (hi : hget H i = some p) {j : Nat} (hf : Fresh κ H j) : Fresh κ (hset H i o) j := fresh_put hi j hf

def CallPost (N : Nat → Prop) (κ : Nat → Option Nat) (H : AHeap) (w : World) (K : AV → AHeap → Nat → Prop) (e : Ending) (w' : World) : Prop :=
  ∃ κ' H' nx' r v, e = .returned v ∧ Step N κ H w κ' H' w' ∧ (∀ id, nx' ≤ id → Fresh κ' H' id) ∧ VRel κ' (avoid κ' N H') w' r v ∧ K r H' nx'

theorem round_sound {κ : Nat → Option Nat} {a : Act} {w : World} (h : Rel g κ S a w) {id l : Nat} {args : List AV} {cargs : Array Value} (hc : CRel κ (avoid κ g.N S.H) w args cargs) (hk : κ id = some l) {K : AV → St → Prop}
    (hr : RoundOk P id args S K) : ∃ fn tmps as bd, (Instr.yield l cargs).run P w = .ok (.round l fn tmps as bd) w ∧
      RoundIn (Fr ro) 0 P l fn tmps as bd w (CallPost g.N κ S.H w fun r H' nx' => K r ⟨S.env, H', nx'⟩) := by
  obtain ⟨L, hL, hst, hps, hpn, hrun⟩ := hr
  obtain ⟨l', R, h1, h2, h3, h4, h5, h6, h7, h8, h9⟩ := h.h.rel id _ hL
  rw [hk] at h1; cases h1
  have hsz : cargs.size = R.params.size := by rw [hc.1, h5, ← hps]; simp
  refine ⟨_, _, _, _, run_yield h2 hsz, ?_⟩
  have hb := bindE_rel (κ := κ) (av := avoid κ g.N S.H) (w := w) L.params.toList args cargs.toList L.env R.tmps hps.symm (by simpa using hc.1) (by rw [h8]; exact hpn) (fun i c hi => by simpa using hc.2 i c hi) h9
  have hfold : (R.params.zip cargs).foldl (fun (tmps : Array Value) (x : Nat × Value) => tmps.setIfInBounds x.1 x.2) R.tmps = (L.params.toList.zip cargs.toList).foldl (fun (tmps : Array Value) (p : Nat × Value) => tmps.setIfInBounds p.1 p.2) R.tmps := by
    rw [← Array.foldl_toList, Array.toList_zip, h5]
  let g' : G := { N := g.N, w0 := w, E := owned κ S.H, κ0 := κ, n := L.n }
  have hlow : g'.low S.nx := fun id hid => Nat.lt_of_not_le fun hle => hid (h.fresh id hle).1
  rw [h6, h7]
  refine roundIn_of_wpIn (F := Fr ro) trivial ?_
  have hrel : Rel g' κ ⟨bindE L.env L.params.toList args, S.H, S.nx⟩ { tmps := (R.params.zip cargs).foldl (fun (tmps : Array Value) (x : Nat × Value) => tmps.setIfInBounds x.1 x.2) R.tmps, defers := [] } w := by
    refine ⟨h.h, h.fresh, ?_, fun t => ?_, fun _ _ h => h, .refl w, fun _ _ _ => rfl, fun b hb => .inl hb, ⟨[], rfl, List.nodup_nil, fun r hr => by cases hr⟩⟩
    · show Array.size _ = L.n
      rw [hfold, hb.1, h8]
    · show VRel κ (avoid κ g.N S.H) w _ (Array.getD _ t undef)
      rw [hfold]; exact hb.2 t
  refine wpIn_mono (hrun g' l rfl hlow hk κ _ w hrel) fun e a1 w1 hq => ?_
  cases e with
  | normal =>
    obtain ⟨κ1, S1, hr1, L1, hL1, hst1, hbody⟩ := hq
    have hk1 : κ1 id = some l := hr1.ext id l hk
    obtain ⟨l', R1, i1, i2, i3, i4, i5, i6, i7, i8, i9⟩ := hr1.h.rel id _ hL1
    rw [hk1] at i1; cases i1
    have st1 := Step.turnLoop hr1.h hL1 hk1 i2 i5 i6 i7 i8 i9 .busy L1.pending
    have hrel1 : Rel g' κ1 ⟨S1.env, hset S1.H id (.loop { L1 with state := .busy }), S1.nx⟩ a1 (w1.putObj l (.loop { R1 with state := .busy, pending := L1.pending })) :=
      hr1.put0 st1 (fun j hj => (hr1.fresh j hj).put hL1) undef
    have hbr : (Instr.beginRound l).run P w1 = .ok () (w1.putObj l (.loop { R1 with state := .busy, pending := L1.pending })) := by
      rw [run_beginRound i2 (i3.trans hst1), ← i4]
    refine ⟨_, hbr, wpIn_mono (hbody κ1 a1 _ hrel1) fun e2 a2 w3 hq2 => ?_⟩
    have fin : ∀ κ2 S2, Rel g' κ2 S2 a2 w3 → ∀ L2, hget S2.H id = some (.loop L2) → ∀ (jump : Option Code),
        K (.bool jump.isNone) ⟨S.env, hset S2.H id (.loop { L2 with state := if jump.isNone then .ready else .done, pending := jump }), S2.nx⟩ →
        ∃ v w', (Instr.endRound l jump).run P w3 = .ok v w' ∧ CallPost g.N κ S.H w (fun r H' nx' => K r ⟨S.env, H', nx'⟩) (.returned v) w' := by
      intro κ2 S2 hr2 L2 hL2 jump hK
      have hk2 : κ2 id = some l := hr2.ext id l hk
      obtain ⟨l', R2, j1, j2, j3, j4, j5, j6, j7, j8, j9⟩ := hr2.h.rel id _ hL2
      rw [hk2] at j1; cases j1
      have st2 := Step.turnLoop hr2.h hL2 hk2 j2 j5 j6 j7 j8 j9 (if jump.isNone then .ready else .done) jump
      refine ⟨_, _, run_endRound jump j2, ?_⟩
      have st0 : Step g.N κ S.H w κ2 S2.H w3 := ⟨hr2.ext, hr2.wle, hr2.same, hr2.new, hr2.h⟩
      exact ⟨κ2, _, S2.nx, .bool jump.isNone, _, rfl, st0.trans st2, fun j hj => (hr2.fresh j hj).put hL2, .bool _, hK⟩
    cases e2 with
    | normal => obtain ⟨κ2, S2, hr2, L2, hL2, hK⟩ := hq2; exact fin κ2 S2 hr2 L2 hL2 none hK
    | ret => obtain ⟨κ2, S2, hr2, L2, hL2, hK⟩ := hq2; exact fin κ2 S2 hr2 L2 hL2 (some .ret) hK
    | exit i => obtain ⟨κ2, S2, hr2, L2, hL2, hK⟩ := hq2; exact fin κ2 S2 hr2 L2 hL2 (some (.exit i)) hK
    | goto t => obtain ⟨κ2, S2, hr2, L2, hL2, hK⟩ := hq2; exact fin κ2 S2 hr2 L2 hL2 (some (.goto t)) hK
    | panic _ => exact hq2.elim
    | outgrown => exact hq2.elim
  | exit i => obtain ⟨_, _, _, hf⟩ := hq; exact hf.elim
  | goto i => obtain ⟨_, _, _, hf⟩ := hq; exact hf.elim
  | ret => obtain ⟨_, _, _, hf⟩ := hq; exact hf.elim
  | panic _ => exact hq.elim
  | outgrown => exact hq.elim

theorem aop_sound {κ : Nat → Option Nat} {a : Act} {w : World} (h : Rel g κ S a w) {o : Oper} {so : SOp} (hso : so.dst = o.dst ∧ so.op = o.op) {K : St → Prop} (hk : AOp P g so S K) (next : Act → World → Prop) (Q : Exit → Act → World → Prop)
    (hn : ∀ κ' S' a' w', Rel g κ' S' a' w' → K S' → next a' w') : o.wpIn (Fr ro) 0 P a w next Q := by
  obtain ⟨hd, hk⟩ := hk
  obtain ⟨e1, e2⟩ := hso
  rw [e1] at hd
  refine ⟨fun _ _ => trivial, ?_⟩
  split at hk
  · rename_i out hout
    rw [e2] at hout
    have hfr : Fresh κ S.H S.nx := h.fresh _ (Nat.le_refl _)
    obtain ⟨κ', w', v, hrun, st, hv, hf⟩ := aval_sound (P := P) (o := o) h.h hfr (fun x => h.opd x) hout
    have hdef : ∀ c, o.op ≠ .defer c := by
      intro c e; rw [e] at hout; simp [aval] at hout
    have hsem : o.semAt (Fr ro).round a.eval = execOp a.eval o := Oper.semAt_eq _ _ _ hdef
    have hnx : ∀ id, (match out.ups with | [] => S.nx | _ => S.nx + 1) ≤ id → Fresh κ' (upH S.H out.ups) id := by
      intro id hid
      refine hf id ?_ (h.fresh id ?_)
      · cases hu : out.ups with
        | nil => exact .inr rfl
        | cons x r => rw [hu] at hid; exact .inl (by simp at hid; omega)
      · revert hid; split <;> intro hid <;> omega
    have hrel : Rel g κ' (putOut S o.dst out (match out.ups with | [] => S.nx | _ => S.nx + 1)) (a.put o.dst v) w' := by
      cases hds : o.dst with
      | none => exact h.put0 st hnx v
      | some d => rw [hds] at hd; exact h.put st hnx hd hv
    rw [hsem]
    rw [e1] at hk
    rcases hrun with hrun | ⟨hrun, rfl⟩
    · rw [hrun]; exact hn _ _ _ _ hrel hk
    · rw [hrun]; exact hn _ _ _ _ hrel hk
  · rename_i hout
    split at hk
    · rename_i f args at' hop
      split at hk
      · rename_i fid first captured hf
        obtain ⟨hisfn, hcall⟩ := hk
        rw [e2] at hop
        have hfv := h.opd f
        rw [hf] at hfv
        generalize hfe : a.eval f = fv at hfv
        have hsem : o.semAt (Fr ro).round a.eval = execOp a.eval o := Oper.semAt_eq _ _ _ (fun c e => by rw [hop] at e; cases e)
        rw [hsem]
        cases hfv with
        | fn _ _ _ vs us uf uc hlf hlc hf' hc' hvf hvc =>
          obtain ⟨fn, hfn, hname, hbody⟩ := isFn_spec hisfn
          have hrun : (execOp a.eval o).run P w = .ok (.enter fid (vs ++ args.map a.eval ++ us)) w := by
            simp [execOp, hop, resolve, hfe, Deferred.ofValue, invoke, callFunc, hfn, hname, hbody]
          rw [hrun, Oper.uponIn_enter]
          refine ⟨fun h => by simp [Fr, Fence.wide] at h, ?_⟩
          have hargs := CRel.args h (fs := first) (cs := captured) (vs := vs) (us := us) ⟨hlf, fun i c hi => ⟨_, hf' i c hi, hvf i c hi⟩⟩ ⟨hlc, fun i c hi => ⟨_, hc' i c hi, hvc i c hi⟩⟩ args
          have hc := hcall κ a w _ h hargs
          have hin : ∀ {R : Ending → World → Prop}, Calls P fid (vs ++ args.map a.eval ++ us) w R → CallsIn (Fr ro) (0 - 1) P fid (vs ++ args.map a.eval ++ us) w R :=
            fun h => (callsIn_wide (n := 0 - 1)).2 h
          refine (hin hc).mono ?_
          rintro e w' ⟨κ', H', nx', r, v, rfl, st, hfr, hv, hkk⟩
          refine hn κ' _ _ _ ?_ hkk
          rw [e1]
          cases hds : o.dst with
          | none => exact h.put0 st hfr v
          | some d => rw [hds] at hd; exact h.put st hfr hd hv
      · rename_i id hf
        rw [e2] at hop
        have hfv := h.opd f
        rw [hf] at hfv
        generalize hfe : a.eval f = fv at hfv
        have hsem : o.semAt (Fr ro).round a.eval = execOp a.eval o := Oper.semAt_eq _ _ _ (fun c e => by rw [hop] at e; cases e)
        rw [hsem]
        cases hfv with
        | yld _ l hkl =>
          have hargs := CRel.args h (fs := []) (cs := []) (vs := #[]) (us := #[]) ⟨rfl, fun i c hi => by simp at hi⟩ ⟨rfl, fun i c hi => by simp at hi⟩ args
          obtain ⟨fn, tmps, as, bd, hy, hround⟩ := round_sound (ro := ro) h hargs hkl hk
          have hrun : (execOp a.eval o).run P w = .ok (.round l fn tmps as bd) w := by
            rw [← hy]
            simp [execOp, hop, resolve, hfe, Deferred.ofValue, invoke]
          rw [hrun, Oper.uponIn_round]
          refine ⟨fun h => by simp [Fr, Fence.wide] at h, hround.mono ?_⟩
          rintro e w' ⟨κ', H', nx', r, v, rfl, st, hfr, hv, hkk⟩
          refine hn κ' _ _ _ ?_ hkk
          rw [e1]
          cases hds : o.dst with
          | none => exact h.put0 st hfr v
          | some d => rw [hds] at hd; exact h.put st hfr hd hv
      · exact hk.elim
    · exact hk.elim

end
end Go.Am

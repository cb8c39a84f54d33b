import Derived.Test.YticiopkiikcokaaN13
/-
  A RUN OF CODE OVER ABSTRACT STATES, AS A FUNCTION THAT COMPUTES, and that the model's own run follows it.
-/
namespace Go.Am

/-! ### What is worked out at once: the kernel then meets finished values -/
section
variable {α : Type}
def fNat (n : Nat) (K : Nat → α) : α := match n with | 0 => K 0 | m + 1 => K (m + 1)
theorem fNat_eq (n : Nat) (K : Nat → α) : fNat n K = K n := by cases n <;> rfl
def fInt (n : Int) (K : Int → α) : α := match n with | .ofNat m => fNat m fun m => K (.ofNat m) | .negSucc m => fNat m fun m => K (.negSucc m)
theorem fInt_eq (n : Int) (K : Int → α) : fInt n K = K n := by cases n <;> simp only [fInt, fNat_eq]
def fBool (b : Bool) (K : Bool → α) : α := match b with | true => K true | false => K false
theorem fBool_eq (b : Bool) (K : Bool → α) : fBool b K = K b := by cases b <;> rfl
/-- The spine of a list. -/
def fLs {β : Type} : List β → (List β → α) → α
  | [], K => K []
  | v :: r, K => fLs r fun r => K (v :: r)
theorem fLs_eq {β : Type} : ∀ (l : List β) (K : List β → α), fLs l K = K l
  | [], K => rfl
  | v :: r, K => by simp only [fLs, fLs_eq r]
/-- A value's outside. -/
def fAV (a : AV) (K : AV → α) : α := match a with
  | .int k n => fInt n fun n => K (.int k n)
  | .bool b => fBool b fun b => K (.bool b)
  | .agg cs => fLs cs fun cs => K (.agg cs)
  | .rsl i o l e => fNat o fun o => fNat l fun l => K (.rsl i o l e)
  | .vptr i o => fNat o fun o => K (.vptr i o)
  | a => K a
theorem fAV_eq (a : AV) (K : AV → α) : fAV a K = K a := by
  unfold fAV
  split <;> simp only [fInt_eq, fBool_eq, fLs_eq, fNat_eq]
/-- The spine of a list of pairs. -/
def fSp {β : Type} : List (Nat × β) → (List (Nat × β) → α) → α
  | [], K => K []
  | (k, v) :: r, K => fNat k fun k => fSp r fun r => K ((k, v) :: r)
theorem fSp_eq {β : Type} : ∀ (l : List (Nat × β)) (K : List (Nat × β) → α), fSp l K = K l
  | [], K => rfl
  | (k, v) :: r, K => by simp only [fSp, fNat_eq, fSp_eq r]
def fLS (s : LoopState) (K : LoopState → α) : α := match s with | .ready => K .ready | .busy => K .busy | .done => K .done | .exhausted => K .exhausted
theorem fLS_eq (s : LoopState) (K : LoopState → α) : fLS s K = K s := by cases s <;> rfl
def fPd (p : Option Code) (K : Option Code → α) : α := match p with | none => K none | some c => K (some c)
theorem fPd_eq (p : Option Code) (K : Option Code → α) : fPd p K = K p := by cases p <;> rfl
def fObj : AObj → (AObj → α) → α
  | .cells cs, K => fLs cs fun cs => K (.cells cs)
  | .map es, K => fLs es fun es => K (.map es)
  | .loop ⟨st, pd, n, env, ps, as, bd⟩, K => fLS st fun st => fPd pd fun pd => fNat n fun n => fSp env fun env => K (.loop ⟨st, pd, n, env, ps, as, bd⟩)
theorem fObj_eq (o : AObj) (K : AObj → α) : fObj o K = K o := by
  rcases o with cs | es | ⟨st, pd, n, env, ps, as, bd⟩
  · simp only [fObj, fLs_eq]
  · simp only [fObj, fLs_eq]
  · simp only [fObj, fLS_eq, fPd_eq, fNat_eq, fSp_eq]
def fUps : List (Nat × Option AObj) → (List (Nat × Option AObj) → α) → α
  | [], K => K []
  | (i, none) :: r, K => fNat i fun i => fUps r fun r => K ((i, none) :: r)
  | (i, some o) :: r, K => fNat i fun i => fObj o fun o => fUps r fun r => K ((i, some o) :: r)
theorem fUps_eq : ∀ (l : List (Nat × Option AObj)) (K : List (Nat × Option AObj) → α), fUps l K = K l
  | [], K => rfl
  | (i, none) :: r, K => by simp only [fUps, fNat_eq, fUps_eq r]
  | (i, some o) :: r, K => by simp only [fUps, fNat_eq, fObj_eq, fUps_eq r]
/-- A state, its heap's spine and its next number worked out. -/
def fSt (S : St) (K : St → α) : α := match S with | ⟨env, H, nx⟩ => fSp H fun H => fNat nx fun nx => K ⟨env, H, nx⟩
theorem fSt_eq (S : St) (K : St → α) : fSt S K = K S := by obtain ⟨env, H, nx⟩ := S; simp only [fSt, fSp_eq, fNat_eq]
def fStE (S : St) (K : St → α) : α := match S with | ⟨env, H, nx⟩ => fSp env fun env => fSp H fun H => fNat nx fun nx => K ⟨env, H, nx⟩
theorem fStE_eq (S : St) (K : St → α) : fStE S K = K S := by obtain ⟨env, H, nx⟩ := S; simp only [fStE, fSp_eq, fNat_eq]
end

/-! ### Lookups by the recursors themselves: few steps in the kernel -/
noncomputable def elookR (env : Env) (t : Nat) : AV := List.rec (motive := fun _ => AV) AV.any (fun p _ ih => Bool.rec (motive := fun _ => AV) ih p.2 (Nat.beq p.1 t)) env
theorem elookR_eq : elookR = elook := by
  funext env t
  induction env with
  | nil => rfl
  | cons p env ih =>
    obtain ⟨k, v⟩ := p
    show Bool.rec (motive := fun _ => AV) (elookR env t) v (Nat.beq k t) = _
    cases h : Nat.beq k t with
    | true => have := Nat.eq_of_beq_eq_true h; subst this; simp [elook]
    | false =>
      have : k ≠ t := Nat.ne_of_beq_eq_false h
      simp only [elook, if_neg this, ih]
/-- A value for a slot, in its place. -/
noncomputable def eputR (env : Env) (d : Nat) (v : AV) : Env := List.rec (motive := fun _ => Env) [(d, v)] (fun p r ih => Bool.rec (motive := fun _ => Env) (p :: ih) ((d, v) :: r) (Nat.beq p.1 d)) env
theorem eputR_look (env : Env) (d : Nat) (v : AV) (t : Nat) : elook (eputR env d v) t = if d = t then v else elook env t := by
  induction env with
  | nil => rfl
  | cons p env ih =>
    obtain ⟨k, u⟩ := p
    have e : eputR ((k, u) :: env) d v = Bool.rec (motive := fun _ => Env) ((k, u) :: eputR env d v) ((d, v) :: env) (Nat.beq k d) := rfl
    rw [e]
    cases h : Nat.beq k d with
    | true =>
      have := Nat.eq_of_beq_eq_true h; subst this
      simp only [elook]
      by_cases h2 : k = t <;> simp [h2]
    | false =>
      have hne : k ≠ d := Nat.ne_of_beq_eq_false h
      simp only [elook, ih]
      by_cases h2 : k = t
      · subst h2; simp [Ne.symm hne]
      · simp [h2]
noncomputable def aopdR (env : Env) (x : Operand) : AV := match x with
  | .tmp t => elookR env t
  | .const v => ofVal v
  | .global _ => .any
  | .func f => .fn (.func f) [] []
theorem aopdR_eq : aopdR = aopd := by
  funext env x
  cases x <;> simp only [aopdR, aopd, elookR_eq]
noncomputable def putR (S : St) (d : Option Tmp) (v : AV) : St := match d with | some d => ⟨eputR S.env d v, S.H, S.nx⟩ | none => S
/-- States that hold the same. -/
def EEq (S T : St) : Prop := elook S.env = elook T.env ∧ S.H = T.H ∧ S.nx = T.nx
theorem EEq.refl (S : St) : EEq S S := ⟨rfl, rfl, rfl⟩
theorem EEq.trans {S T U : St} (h : EEq S T) (k : EEq T U) : EEq S U := ⟨h.1.trans k.1, h.2.1.trans k.2.1, h.2.2.trans k.2.2⟩
theorem EEq.seq {S T : St} (h : EEq S T) : SEq S T := ⟨fun t => congrFun h.1 t, fun id => by rw [h.2.1], h.2.2⟩
theorem EEq.opd {S T : St} (h : EEq S T) : aopd S.env = aopd T.env := by
  funext x; cases x <;> simp only [aopd]; rw [h.1]
theorem EEq.put {S T : St} (h : EEq S T) (d : Option Tmp) (v : AV) : EEq (putR S d v) (putV T d v) := by
  refine ⟨?_, ?_, ?_⟩
  · funext t
    cases d with
    | none => exact congrFun h.1 t
    | some d => simp only [putR, putV, eputR_look, elook]; rw [h.1]
  · cases d <;> exact h.2.1
  · cases d <;> exact h.2.2
theorem EEq.setB {S T : St} (h : EEq S T) {t : Nat} {b : Bool} (ht : elook S.env t = .bool b) : EEq S (Am.setB T t b) := by
  refine ⟨?_, h.2.1, h.2.2⟩
  funext t'
  simp only [Am.setB, elook]
  by_cases e : t = t'
  · subst e; rw [if_pos rfl]; exact ht
  · rw [if_neg e, h.1]
theorem EEq.heap {S T : St} (h : EEq S T) (H : AHeap) (nx : Nat) : EEq ⟨S.env, H, nx⟩ ⟨T.env, H, nx⟩ := ⟨h.1, rfl, rfl⟩
theorem ACode.congr {P : Program} {ro : Option Nat} {g : G} {c : Code} {Q : AX → St → Prop} {S T : St} (h : ACode P ro g c Q S) (he : EEq S T) : ACode P ro g c Q T :=
  fun κ a w hr => h κ a w (hr.congr ⟨fun t => (he.seq.1 t).symm, fun id => (he.seq.2.1 id).symm, he.seq.2.2.symm⟩)

/-- A loop, round by round. -/
theorem acode_unroll {P : Program} {ro : Option Nat} {g : G} {Q : AX → St → Prop} {S : St} {ι : Type} (st : ι → St) (I : ι → Prop) (μ : ι → Nat) (i0 : ι) (hI : I i0) (h0 : EEq (st i0) S) {c : Code}
    (round : ∀ i, I i → ACode P ro g c (AX.then (fun S' => ∃ j, I j ∧ μ j < μ i ∧ EEq (st j) S') Q) (st i)) : ACode P ro g (.loop c) Q S := fun κ a w hr => by
  have hmin : ∀ p : Nat → Prop, (∃ n, p n) → ∃ n, p n ∧ ∀ m, p m → n ≤ m := by
    intro p ⟨n, hn⟩
    induction n using Nat.strongRecOn with
    | _ n ih =>
      by_cases hx : ∃ m, m < n ∧ p m
      · obtain ⟨m, hm, hp⟩ := hx; exact ih m hm hp
      · exact ⟨n, hn, fun m hm => Nat.le_of_not_lt fun hlt => hx ⟨m, hlt, hm⟩⟩
  obtain ⟨f, hf⟩ : ∃ f : Act → World → Nat, ∀ a w, (∃ n i κ, μ i = n ∧ I i ∧ Rel g κ (st i) a w) → (∃ i κ, μ i = f a w ∧ I i ∧ Rel g κ (st i) a w) ∧ ∀ m, (∃ i κ, μ i = m ∧ I i ∧ Rel g κ (st i) a w) → f a w ≤ m := by
    classical
    exact ⟨fun a w => if h : ∃ n i κ, μ i = n ∧ I i ∧ Rel g κ (st i) a w then Classical.choose (hmin _ h) else 0, fun a w h => by
      simp only [dif_pos h]; exact Classical.choose_spec (hmin _ h)⟩
  have back : ∀ {T U : St}, EEq T U → SEq U T := fun he => ⟨fun t => (he.seq.1 t).symm, fun id => (he.seq.2.1 id).symm, he.seq.2.2.symm⟩
  refine wpIn_loop (fun a w => ∃ i κ, I i ∧ Rel g κ (st i) a w) f ⟨i0, _, hI, hr.congr (back h0)⟩ ?_
  rintro a w ⟨i1, κ1, hI1, hr1⟩
  obtain ⟨⟨i, κ2, hn, hI2, hr2⟩, _⟩ := hf a w ⟨_, i1, κ1, rfl, hI1, hr1⟩
  refine wpIn_mono (round i hI2 κ2 a w hr2) fun e a' w' hq => ?_
  cases e with
  | normal =>
    obtain ⟨κ', S', h1, j, hj, hlt, hle⟩ := hq
    have hr' := h1.congr (back hle)
    exact ⟨⟨j, _, hj, hr'⟩, Nat.lt_of_le_of_lt ((hf a' w' ⟨_, j, _, rfl, hj, hr'⟩).2 _ ⟨j, _, rfl, hj, hr'⟩) (hn ▸ hlt)⟩
  | panic _ => exact hq.elim
  | outgrown => exact hq.elim
  | _ => exact hq

structure Ex where
  call : FuncId → List AV → AHeap → Nat → Option (AV × AHeap × Nat)
  yld : Nat → List AV → AHeap → Nat → Option (AV × AHeap × Nat)

def dstB (n : Nat) (dst : Option Tmp) : Bool := match dst with | some d => Nat.blt d n | none => true
/-- An answer, worked out. -/
def fRes (r : AV) (H : AHeap) (nx : Nat) (K : AV → AHeap → Nat → Option (AV × AHeap × Nat)) : Option (AV × AHeap × Nat) := fAV r fun r => fSp H fun H => fNat nx fun nx => K r H nx
theorem fRes_eq (r : AV) (H : AHeap) (nx : Nat) (K : AV → AHeap → Nat → Option (AV × AHeap × Nat)) : fRes r H nx K = K r H nx := by simp only [fRes, fAV_eq, fSp_eq, fNat_eq]
/-- What an operation leaves. -/
noncomputable def upR (S : St) (d : Option Tmp) (v : AV) (ups : List (Nat × Option AObj)) (nx : Nat) : Option St := match ups with
  | [] => some (putR ⟨S.env, S.H, nx⟩ d v)
  | ups => fUps ups fun ups => fSp (upH S.H ups) fun H => fNat nx fun nx => some (putR ⟨S.env, H, nx⟩ d v)
theorem upR_eq (S : St) (d : Option Tmp) (v : AV) (ups : List (Nat × Option AObj)) (nx : Nat) : upR S d v ups nx = some (putR ⟨S.env, upH S.H ups, nx⟩ d v) := by
  cases ups with
  | nil => rfl
  | cons p r => simp only [upR, fUps_eq, fSp_eq, fNat_eq]

section
variable (P : Program) (X : Ex) (n : Nat) (rid : Option Nat)

noncomputable def exOp (o : SOp) (S : St) : Option St :=
  match dstB n o.dst with
  | false => none
  | true =>
    match aval P o.op (aopdR S.env) (hget S.H) S.nx with
    | some ⟨v, ups⟩ => fAV v fun v => upR S o.dst v ups (match ups with | [] => S.nx | _ => S.nx + 1)
    | none =>
      match o.op with
      | .call { callee := .value f, args := args, argTypes := _ } =>
        (match aopdR S.env f with
        | .fn (.func fid) first captured => (match isFn P fid with
          | true => fLs (first ++ args.toList.map (aopdR S.env) ++ captured) fun as => (match X.call fid as S.H S.nx with
            | some (r, H', nx') => some (putR ⟨S.env, H', nx'⟩ o.dst r)
            | none => none)
          | false => none)
        | .yld id => fLs (args.toList.map (aopdR S.env)) fun as => (match X.yld id as S.H S.nx with
          | some (r, H', nx') => some (putR ⟨S.env, H', nx'⟩ o.dst r)
          | none => none)
        | _ => none)
      | _ => none
noncomputable def exOps : List SOp → St → Option St
  | [], S => some S
  | o :: r, S =>
    match o.gd with
    | none => (match exOp P X n o S with | some S' => exOps r S' | none => none)
    | some (some t, want) =>
      (match elookR S.env t with
      | .bool b => (match b == want with
        | true => (match exOp P X n o S with | some S' => exOps r S' | none => none)
        | false => (match dstB n o.dst with | true => exOps r (putR S o.dst .undef) | false => none))
      | .undef => (match dstB n o.dst with | true => exOps r (putR S o.dst .undef) | false => none)
      | _ => none)
    | some (none, _) => (match dstB n o.dst with | true => exOps r (putR S o.dst .undef) | false => none)

/-- A function that only computes. -/
def exPure (h : Nat → Option AObj) (f : FuncId) (args : List AV) : Option (AV × List Nat) :=
  match okL 0 args with
  | true => (match X.call f args [] 0 with
    | some (r, H', _) => (match thaw 8 (hget H') r with
      | some (r', _) => fAV r' fun r' => some (r', [])
      | none => none)
    | none => none)
  | false =>
    match thawL h args with
    | some (args', is) => fLs args' fun args' => (match X.call f args' [] 0 with
      | some (r, H', _) => (match thawF 8 (hget H') r with
        | some (r', _) => fAV r' fun r' => some (r', is)
        | none => none)
      | none => none)
    | none => none

noncomputable def exDOp (base i : Nat) (o : SOp) (S : St) : Option (Eff × FP) :=
  match dstB n o.dst with
  | false => none
  | true =>
    match aval P o.op (aopdR S.env) (hget S.H) (base + i) with
    | some ⟨v, ups⟩ => fAV v fun v => fUps ups fun ups => some (⟨v, ups⟩, ⟨i, tmpsOf o, areads o.op (aopdR S.env), o.dst, ups.map (·.1)⟩)
    | none =>
      match o.op with
      | .call { callee := .value f, args := args, argTypes := _ } =>
        (match aopdR S.env f with
        | .fn (.func fid) first captured => (match isFn P fid with
          | true => fLs (first ++ args.toList.map (aopdR S.env) ++ captured) fun as => (match exPure X (hget S.H) fid as with
            | some (r, is) => some (⟨r, []⟩, ⟨i, tmpsOf o, is, o.dst, []⟩)
            | none => none)
          | false => none)
        | _ => none)
      | _ => none
noncomputable def appR (S : St) (d : Option Tmp) (e : Eff) : Option St := upR S d e.v e.ups S.nx
noncomputable def exDOps (base : Nat) : Nat → List SOp → St → List FP → Option (St × List FP)
  | _, [], S, fs => some (S, fs)
  | i, o :: r, S, fs =>
    match o.gd with
    | none => (match exDOp P X n base i o S with | some (e, f) => (match appR S o.dst e with | some S1 => exDOps base (i + 1) r S1 (fs ++ [f]) | none => none) | none => none)
    | some (some t, want) =>
      (match elookR S.env t with
      | .bool b => (match b == want with
        | true => (match exDOp P X n base i o S with | some (e, f) => (match appR S o.dst e with | some S1 => exDOps base (i + 1) r S1 (fs ++ [f]) | none => none) | none => none)
        | false => (match dstB n o.dst with | true => exDOps base (i + 1) r (putR S o.dst .undef) (fs ++ [⟨i, tmpsOf o, [], o.dst, []⟩]) | false => none))
      | .undef => (match dstB n o.dst with | true => exDOps base (i + 1) r (putR S o.dst .undef) (fs ++ [⟨i, tmpsOf o, [], o.dst, []⟩]) | false => none)
      | _ => none)
    | some (none, _) => (match dstB n o.dst with | true => exDOps base (i + 1) r (putR S o.dst .undef) (fs ++ [⟨i, tmpsOf o, [], o.dst, []⟩]) | false => none)

/-- From where on each operation stands behind all ahead of it. -/
def firstTail (A : Array Nat) : Nat → Nat
  | 0 => 0
  | k + 1 => if (A.getD k 0) % 2 ^ k = 2 ^ k - 1 then firstTail A k else k + 1
/-- What must be known of a region's text. -/
def drawOk (ops : Array Oper) : Bool :=
  drawB ops && decide (firstTail (Region.before ops) ops.size ≤ ops.size) && tailB ops (Region.before ops) (firstTail (Region.before ops) ops.size)
def exLoop (f : St → Option (AX × St)) : Nat → St → Option (AX × St)
  | 0, _ => none
  | k + 1, S =>
    match f S with
    | some (.norm, S1) => exLoop f k S1
    | r => r

def ridB (H : AHeap) : Bool := match rid with
  | none => true
  | some i => (match hget H i with | some (.loop _) => true | _ => false)

noncomputable def exCode (lf : Nat) : Code → St → Option (AX × St)
  | .skip, S => some (.norm, S)
  | .label _, S => some (.norm, S)
  | .exit i, S => some (.exit i, S)
  | .goto l, S => some (.goto l, S)
  | .ret, S => some (.ret, S)
  | .region _ ops false, S => (match exOps P X n (strip ops) S with | some S' => some (.norm, S') | none => none)
  | .region _ ops true, S => (match drawOk ops && decide (P.follows .mixedOrders = true) with
    | true => (match exDOps P X n S.nx 0 ((strip ops).take (firstTail (Region.before ops) ops.size)) ⟨S.env, S.H, S.nx + ops.size⟩ [] with
      | some (S', fs) => (match indepB (Region.before ops) fs with
        | true => (match exOps P X n ((strip ops).drop (firstTail (Region.before ops) ops.size)) S' with | some S2 => some (.norm, S2) | none => none)
        | false => none)
      | none => none)
    | false => none)
  | .seq a b, S => (match exCode lf a S with
    | some (.norm, S') => exCode lf b S'
    | r => r)
  | .cond c x y, S => (match aopdR S.env c with
    | .bool true => exCode lf x S
    | .bool false => exCode lf y S
    | _ => none)
  | .block id c, S => (match exCode lf c S with
    | some (.exit i, S') => if i = id then some (.norm, S') else some (.exit i, S')
    | r => r)
  | .loop c, S => exLoop (exCode lf c) lf S
  | .scope c, S => (match rid with
    | none => (match exCode lf c S with
      | some (.goto _, _) => none
      | r => r)
    | some _ => none)
  | .rangeFunc f ps assign body, S => (match ridB rid S.H with
    | true => (match aopdR S.env f with
      | .fn (.func fid) first captured => (match isFn P fid with
        | true => (match X.call fid (first ++ [.yld S.nx] ++ captured) (hset S.H S.nx (.loop (loop0 S n ps assign body))) (S.nx + 1) with
          | some (_, H', nx') => (match hget H' S.nx with
            | some (.loop L') => fSp (herase H' S.nx) fun H2 => (match L'.state, L'.pending with
              | .busy, _ => none
              | _, none => some (.norm, ⟨S.env, H2, nx'⟩)
              | _, some .ret => some (.ret, ⟨S.env, H2, nx'⟩)
              | _, some (.exit i) => some (.exit i, ⟨S.env, H2, nx'⟩)
              | _, some (.goto l) => some (.goto l, ⟨S.env, H2, nx'⟩)
              | _, _ => none)
            | _ => none)
          | none => none)
        | false => none)
      | _ => none)
    | false => none)
  | .refuse _, _ => none
end

noncomputable def exFn (P : Program) (X : Ex) (lf : Nat) (f : FuncId) (args : List AV) (H : AHeap) (nx : Nat) : Option (AV × AHeap × Nat) :=
  match P.funcs[f]? with
  | some fn => (match fn.body with
    | some c => (match exCode P X (args.length + (fn.ntmps - args.length)) none lf c ⟨env0 0 args, H, nx⟩ with
      | some (.norm, S') => (match ares P S' fn.results.toList with | some r => fRes r S'.H S'.nx fun r H nx => some (r, H, nx) | none => none)
      | some (.ret, S') => (match ares P S' fn.results.toList with | some r => fRes r S'.H S'.nx fun r H nx => some (r, H, nx) | none => none)
      | _ => none)
    | none => none)
  | none => none
noncomputable def exRound (P : Program) (X : Ex) (lf : Nat) (id : Nat) (args : List AV) (H : AHeap) (nx : Nat) : Option (AV × AHeap × Nat) :=
  match hget H id with
  | some (.loop L0) => if L0.state = .ready ∧ L0.params.toList.length = args.length ∧ (L0.params.toList.all fun p => decide (p < L0.n)) = true then
      (match exCode P X L0.n (some id) lf L0.assign ⟨bindE L0.env L0.params.toList args, H, nx⟩ with
      | some (.norm, S1) => (match hget S1.H id with
        | some (.loop L1) => if L1.state = .ready then
            (match fObj (.loop { L1 with state := .busy }) fun L => fSp (hset S1.H id L) fun H1 => exCode P X L0.n (some id) lf L0.body ⟨S1.env, H1, S1.nx⟩ with
            | some (x, S2) => (match hget S2.H id with
              | some (.loop L2) => (match x with
                | .norm => fObj (.loop { L2 with state := .ready, pending := none }) fun L => fSp (hset S2.H id L) fun H => some (.bool true, H, S2.nx)
                | .ret => fObj (.loop { L2 with state := .done, pending := some .ret }) fun L => fSp (hset S2.H id L) fun H => some (.bool false, H, S2.nx)
                | .exit i => fObj (.loop { L2 with state := .done, pending := some (.exit i) }) fun L => fSp (hset S2.H id L) fun H => some (.bool false, H, S2.nx)
                | .goto t => fObj (.loop { L2 with state := .done, pending := some (.goto t) }) fun L => fSp (hset S2.H id L) fun H => some (.bool false, H, S2.nx))
              | _ => none)
            | none => none) else none
        | _ => none)
      | _ => none) else none
  | _ => none
/-- Calls whose results are known. -/
structure Kn where
  f : FuncId
  args : List AV
  r : AV
  fresh : Bool
mutual
def eqAV : AV → AV → Bool
  | .bool a, b => (match b with | .bool b => a == b | _ => false)
  | .int k n, b => (match b with | .int k' n' => decide (k = k') && decide (n = n') | _ => false)
  | .nil, b => (match b with | .nil => true | _ => false)
  | .lst e xs, b => (match b with | .lst e' ys => Nat.beq e e' && eqLL xs ys | _ => false)
  | .agg xs, b => (match b with | .agg ys => eqL xs ys | _ => false)
  | _, _ => false
termination_by structural a => a
def eqL : List AV → List AV → Bool
  | [], b => (match b with | [] => true | _ => false)
  | x :: xs, b => (match b with | y :: ys => eqAV x y && eqL xs ys | _ => false)
termination_by structural a => a
def eqLL : List (List AV) → List (List AV) → Bool
  | [], b => (match b with | [] => true | _ => false)
  | x :: xs, b => (match b with | y :: ys => eqL x y && eqLL xs ys | _ => false)
termination_by structural a => a
def eqEE : List (AV × AV) → Bool
  | _ => false
def eqPP : AV × AV → Bool
  | _ => false
end
mutual
theorem eqAV_eq : ∀ (a b : AV), eqAV a b = true → a = b
  | .bool a, b, h => by
    simp only [eqAV] at h
    split at h
    · simp at h; rw [h]
    · cases h
  | .int k n, b, h => by
    simp only [eqAV] at h
    split at h
    · simp at h; rw [h.1, h.2]
    · cases h
  | .nil, b, h => by
    simp only [eqAV] at h
    split at h
    · rfl
    · cases h
  | .lst e xs, b, h => by
    simp only [eqAV] at h
    split at h
    · simp only [Bool.and_eq_true] at h
      rw [Nat.eq_of_beq_eq_true h.1, eqLL_eq _ _ h.2]
    · cases h
  | .agg xs, b, h => by
    simp only [eqAV] at h
    split at h
    · rw [eqL_eq _ _ h]
    · cases h
  | .any, _, h => by simp [eqAV] at h
  | .undef, _, h => by simp [eqAV] at h
  | .str _, _, h => by simp [eqAV] at h
  | .cptr _, _, h => by simp [eqAV] at h
  | .nptr, _, h => by simp [eqAV] at h
  | .vptr _ _, _, h => by simp [eqAV] at h
  | .rsl _ _ _ _, _, h => by simp [eqAV] at h
  | .mref _, _, h => by simp [eqAV] at h
  | .imap _, _, h => by simp [eqAV] at h
  | .nmap, _, h => by simp [eqAV] at h
  | .fn _ _ _, _, h => by simp [eqAV] at h
  | .yld _, _, h => by simp [eqAV] at h
  | .nilFunc, _, h => by simp [eqAV] at h
  | .iface _ _, _, h => by simp [eqAV] at h
  | .nilIface, _, h => by simp [eqAV] at h
  | .tup _, _, h => by simp [eqAV] at h
theorem eqL_eq : ∀ (a b : List AV), eqL a b = true → a = b
  | [], b, h => by
    simp only [eqL] at h
    split at h
    · rfl
    · cases h
  | x :: xs, b, h => by
    simp only [eqL] at h
    split at h
    · simp only [Bool.and_eq_true] at h
      rw [eqAV_eq _ _ h.1, eqL_eq _ _ h.2]
    · cases h
theorem eqLL_eq : ∀ (a b : List (List AV)), eqLL a b = true → a = b
  | [], b, h => by
    simp only [eqLL] at h
    split at h
    · rfl
    · cases h
  | x :: xs, b, h => by
    simp only [eqLL] at h
    split at h
    · simp only [Bool.and_eq_true] at h
      rw [eqL_eq _ _ h.1, eqLL_eq _ _ h.2]
    · cases h
end
def klook (fr : Bool) : List Kn → FuncId → List AV → Option AV
  | [], _, _ => none
  | e :: r, f, args => (match Nat.beq e.f f && (!fr || e.fresh) && eqL e.args args with
    | true => some e.r
    | false => klook fr r f args)
theorem klook_mem {fr : Bool} : ∀ {l : List Kn} {f : FuncId} {args : List AV} {r : AV}, klook fr l f args = some r → ∃ b, (fr = true → b = true) ∧ ⟨f, args, r, b⟩ ∈ l := by
  intro l
  induction l with
  | nil => intro f args r h; cases h
  | cons e l ih =>
    intro f args r h
    simp only [klook] at h
    split at h
    · rename_i h1
      simp only [Bool.and_eq_true] at h1
      cases h
      obtain ⟨a, b, c, d⟩ := e
      have e1 := Nat.eq_of_beq_eq_true h1.1.1
      have e2 := eqL_eq _ _ h1.2
      simp only at e1 e2
      subst e1; subst e2
      refine ⟨d, fun hf => ?_, List.mem_cons_self⟩
      have := h1.1.2
      rw [hf] at this
      simpa using this
    · obtain ⟨b, h1, h2⟩ := ih h
      exact ⟨b, h1, List.mem_cons_of_mem _ h2⟩
/-- Is a call's result known? -/
def kfind (kn : List Kn) (h : Nat → Option AObj) (f : FuncId) (args : List AV) : Option AV :=
  match kn.any fun e => Nat.beq e.f f with
  | false => none
  | true => (match okL 0 args with
    | true => klook false kn f args
    | false => (match thawL h args with
      | some (args', _) => fLs args' fun args' => klook true kn f args'
      | none => none))
noncomputable def ex (P : Program) (kn : List Kn) (lf : Nat) : Nat → Ex
  | 0 => ⟨fun _ _ _ _ => none, fun _ _ _ _ => none⟩
  | k + 1 => ⟨fun f args H nx => match kfind kn (hget H) f args with
      | some r => some (r, H, nx)
      | none => exFn P (ex P kn lf k) lf f args H nx, exRound P (ex P kn lf k) lf⟩
def KnOk (P : Program) (kn : List Kn) : Prop := ∀ e ∈ kn, APure P e.f e.args e.r ∧ (e.fresh = true → APureF P e.f e.args e.r)

/-! ### Soundness -/
structure ExOk (P : Program) (X : Ex) : Prop where
  call : ∀ {f args H nx r H' nx'}, X.call f args H nx = some (r, H', nx') → RangeOk P f args H nx fun r0 H0 nx0 => r0 = r ∧ H0 = H' ∧ nx0 = nx'
  yld : ∀ {id args H nx r H' nx'}, X.yld id args H nx = some (r, H', nx') → ∀ (env : Env) (K : AV → St → Prop), K r ⟨env, H', nx'⟩ → RoundOk P id args ⟨env, H, nx⟩ K

theorem RangeOk.mono {P : Program} {f : FuncId} {args : List AV} {H : AHeap} {nx : Nat} {K K' : AV → AHeap → Nat → Prop} (h : RangeOk P f args H nx K) (hk : ∀ r H nx, K r H nx → K' r H nx) : RangeOk P f args H nx K' :=
  fun κ N w cargs h1 h2 h3 => (h κ N w cargs h1 h2 h3).mono fun _e _w' ⟨v, r, κ', H', nx', e1, e2, e3, e4, e5⟩ => ⟨v, r, κ', H', nx', e1, e2, e3, e4, hk _ _ _ e5⟩
theorem CallOk.range {P : Program} {g : G} {f : FuncId} {args : List AV} {S : St} {K : AV → St → Prop} (h : RangeOk P f args S.H S.nx fun r H' nx' => K r ⟨S.env, H', nx'⟩) : CallOk P g f args S K := by
  intro κ a w cargs hr hc
  refine (h κ g.N w cargs hr.h hr.fresh hc).mono ?_
  rintro e w' ⟨v, r, κ', H', nx', h1, h2, h3, h4, h5⟩
  exact ⟨κ', H', nx', r, v, h1, h2, h3, h4, h5⟩

/-- What is owned at the end is let go. -/
theorem APure.range {P : Program} {f : FuncId} {args : List AV} {r : AV} (ha : okL 0 args = true) (hr : r.ok 0 = true) (h : RangeOk P f args [] 0 fun r0 H' _ => ∃ is, thaw 8 (hget H') r0 = some (r, is)) : APure P f args r := by
  intro κ N w cargs hN hargs
  have hown : ∀ b, ¬ owned (fun _ => none) [] b := fun b ⟨id, o, ho, _⟩ => by simp [hget] at ho
  have hav : avoid (fun _ => none) N [] = N := by
    funext b; unfold avoid; exact propext ⟨fun h => h.resolve_right (hown b), .inl⟩
  have hh : HRel (fun _ => none) N [] w := ⟨fun id o ho => (by simp [hget] at ho), fun id id' b o o' ho => (by simp [hget] at ho), fun id b hb => (by cases hb), hN, fun b _ => hown b⟩
  have hc : CRel (fun _ => none) (avoid (fun _ => none) N []) w args cargs := by
    rw [hav]
    exact ⟨hargs.1, fun i c hi => by
      obtain ⟨u, hu, hur⟩ := hargs.2 i c hi
      exact ⟨u, hu, hur.low (fun id hid => absurd hid (Nat.not_lt_zero _)) (okL_get ha hi)⟩⟩
  refine (h _ N w cargs hh (fun id _ => ⟨rfl, rfl⟩) hc).mono ?_
  rintro e w' ⟨v, r', κ', H', nx', rfl, h1, h2, h3, is, ht⟩
  refine ⟨v, rfl, h1.wle, fun b hb => h1.same b hb (hown b), ?_⟩
  exact (thaw_sound h1.hrel 8 r' r is v ht h3).low (κ' := κ) (nx' := 0) (fun id hid => absurd hid (Nat.not_lt_zero _)) hr

theorem APureF.range {P : Program} {f : FuncId} {args : List AV} {r : AV} (ha : okL 0 args = true) (hr : r.ok 0 = true) (h : RangeOk P f args [] 0 fun r0 H' _ => ∃ is, thawF 8 (hget H') r0 = some (r, is)) : APureF P f args r := by
  intro κ N w cargs hN hargs
  have hown : ∀ b, ¬ owned (fun _ => none) [] b := fun b ⟨id, o, ho, _⟩ => by simp [hget] at ho
  have hav : avoid (fun _ => none) N [] = N := by
    funext b; unfold avoid; exact propext ⟨fun h => h.resolve_right (hown b), .inl⟩
  have hh : HRel (fun _ => none) N [] w := ⟨fun id o ho => (by simp [hget] at ho), fun id id' b o o' ho => (by simp [hget] at ho), fun id b hb => (by cases hb), hN, fun b _ => hown b⟩
  have hc : CRel (fun _ => none) (avoid (fun _ => none) N []) w args cargs := by
    rw [hav]
    exact ⟨hargs.1, fun i c hi => by
      obtain ⟨u, hu, hur⟩ := hargs.2 i c hi
      exact ⟨u, hu, hur.low (fun id hid => absurd hid (Nat.not_lt_zero _)) (okL_get ha hi)⟩⟩
  refine (h _ N w cargs hh (fun id _ => ⟨rfl, rfl⟩) hc).mono ?_
  rintro e w' ⟨v, r', κ', H', nx', rfl, h1, h2, h3, is, ht⟩
  refine ⟨v, rfl, h1.wle, fun b hb => h1.same b hb (hown b), ?_⟩
  exact (thawF_sound h1.hrel (B := w.heap.size) (fun b hb => (h1.new b hb).resolve_left (hown b)) 8 r' r is v ht h3).low (κ' := κ) (nx' := 0) (fun id hid => absurd hid (Nat.not_lt_zero _)) hr

section
variable {P : Program} {X : Ex} (hX : ExOk P X) {n : Nat} {rid : Option Nat} {ro : Option Nat} {g : G}

theorem dstB_ok (hn : g.n = n) {d : Option Tmp} (h : dstB n d = true) : dstOk g d := by
  cases d with
  | none => trivial
  | some d =>
    simp only [dstB] at h
    show d < g.n
    rw [hn]
    simpa using h

theorem callArgs_eq {S T : St} (he : EEq S T) (first : List AV) (args : Array Operand) (captured : List AV) : first ++ args.toList.map (aopd S.env) ++ captured = callArgs T.env first args captured := by
  unfold callArgs; rw [he.opd]

include hX
theorem exOp_sound (hn : g.n = n) {o : SOp} {S S' T : St} (h : exOp P X n o S = some S') (he : EEq S T) {K : St → Prop} (hk : ∀ S'', EEq S' S'' → K S'') : AOp P g o T K := by
  unfold exOp at h
  simp only [aopdR_eq] at h
  split at h
  · cases h
  · rename_i hd
    refine ⟨dstB_ok hn hd, ?_⟩
    rw [← he.opd, ← he.2.1, ← he.2.2]
    split at h
    · rename_i v ups hout
      simp only [fAV_eq, upR_eq] at h
      rw [hout]; cases h
      refine hk _ ?_
      have key : ∀ m, EEq (putR ⟨S.env, upH S.H ups, m⟩ o.dst v) (putOut T o.dst ⟨v, ups⟩ m) := fun m => by
        have := EEq.put (S := ⟨S.env, upH S.H ups, m⟩) (T := ⟨T.env, upH S.H ups, m⟩) ⟨he.1, rfl, rfl⟩ o.dst v
        unfold putOut
        rw [← he.2.1]
        exact this
      exact key _
    · rename_i hout
      rw [hout]
      simp only []
      split at h
      · rename_i f args ts hop
        simp only [hop]
        split at h
        · rename_i fid first captured hf
          simp only [hf]
          split at h
          · rename_i hfn
            rw [fLs_eq] at h
            split at h
            · rename_i r H' nx' hc
              cases h
              rw [callArgs_eq he] at hc
              refine ⟨hfn, .range ?_⟩
              rw [← he.2.1, ← he.2.2]
              exact (hX.call hc).mono fun r0 H0 nx1 ⟨e1, e2, e3⟩ => by
                subst e1; subst e2; subst e3
                exact hk _ ((he.heap _ _).put _ _)
            · cases h
          · cases h
        · rename_i id hf
          simp only [hf]
          rw [fLs_eq] at h
          split at h
          · rename_i r H' nx' hc
            cases h
            have hc' : X.yld id (callArgs T.env [] args []) S.H S.nx = some (r, H', nx') := by
              rw [← callArgs_eq he]; simpa using hc
            have := hX.yld hc' T.env (fun r S' => K (putV S' o.dst r)) (hk _ ((he.heap _ _).put _ _))
            rw [he.2.1, he.2.2] at this
            exact this
          · cases h
        · cases h
      · cases h
theorem exOps_sound (hn : g.n = n) : ∀ (os : List SOp) (S S' T : St), exOps P X n os S = some S' → EEq S T → ∀ {K : St → Prop}, (∀ S'', EEq S' S'' → K S'') → AOps P g os T K := by
  intro os
  induction os with
  | nil => intro S S' T h he K hk; cases h; exact hk _ he
  | cons o os ih =>
    intro S S' T h he K hk
    unfold exOps at h
    unfold AOps
    simp only [elookR_eq] at h
    have one : ∀ T0, EEq S T0 → (match exOp P X n o S with | some S' => exOps P X n os S' | none => none) = some S' → AOp P g o T0 fun S1 => AOps P g os S1 K := by
      intro T0 he0 h0
      split at h0
      · rename_i S1 h1; exact exOp_sound hX hn h1 he0 fun S'' h'' => ih _ _ _ h0 h'' hk
      · cases h0
    have skip : ∀ T0, EEq S T0 → (match dstB n o.dst with | true => exOps P X n os (putR S o.dst .undef) | false => none) = some S' → dstOk g o.dst ∧ AOps P g os (putV T0 o.dst .undef) K := by
      intro T0 he0 h0
      split at h0
      · rename_i hd; exact ⟨dstB_ok hn hd, ih _ _ _ h0 (he0.put _ _) hk⟩
      · cases h0
    split at h
    · rename_i hg; rw [hg]; exact one _ he h
    · rename_i t want hg
      rw [hg]
      simp only []
      rw [← he.1]
      split at h
      · rename_i b hb
        rw [hb]
        simp only []
        refine ⟨fun e => ?_, fun e => ?_⟩
        · rw [e] at h; simp only [beq_self_eq_true] at h; exact one _ (he.setB (e ▸ hb)) h
        · have : (b == want) = false := by rw [e]; cases want <;> rfl
          rw [this] at h; exact skip _ (he.setB (e ▸ hb)) h
      · rename_i hb
        rw [hb]
        exact skip _ he h
      · cases h
    · rename_i want hg
      rw [hg]
      exact skip _ he h

theorem exPure_sound {h : Nat → Option AObj} {f : FuncId} {args : List AV} {r : AV} {is : List Nat} (he : exPure X h f args = some (r, is)) : Lent P h f args r is := by
  unfold exPure at he
  simp only [fAV_eq, fLs_eq] at he
  split at he
  · rename_i hok
    split at he
    · rename_i r0 H' nx' hc
      split at he
      · rename_i r' js ht
        cases he
        refine ⟨args, ?_, .inl ⟨.range hok (thaw_ok 8 _ _ _ ht) ((hX.call hc).mono fun r0 H0 nx1 ⟨e1, e2, e3⟩ => by subst e1; subst e2; exact ⟨js, ht⟩), .inl ⟨rfl, rfl⟩⟩⟩
        unfold thawL
        clear hc ht
        induction args with
        | nil => rfl
        | cons a l ih =>
          simp only [okL, Bool.and_eq_true] at hok
          have : thaw 8 h a = some (a, []) := by unfold thaw; rw [if_pos hok.1]
          simp only [mapO, this, ih hok.2, List.nil_append]
      · cases he
    · cases he
  · split at he
    · rename_i args' is' hth
      split at he
      · rename_i r0 H' nx' hc
        split at he
        · rename_i r' js ht
          cases he
          exact ⟨args', hth, .inr (.range (thawL_ok0 hth) (thawF_ok 8 _ _ _ ht) ((hX.call hc).mono fun r0 H0 nx1 ⟨e1, e2, e3⟩ => by subst e1; subst e2; exact ⟨js, ht⟩))⟩
        · cases he
      · cases he
    · cases he

theorem exDOp_sound (hn : g.n = n) {base i : Nat} {o : SOp} {S T : St} {e : Eff} {f : FP} (h : exDOp P X n base i o S = some (e, f)) (he : EEq S T) {K : Eff → FP → Prop} (hk : K e f) : DOp P g base i o T K := by
  unfold exDOp at h
  simp only [aopdR_eq] at h
  split at h
  · cases h
  · rename_i hd
    refine ⟨dstB_ok hn hd, ?_⟩
    rw [← he.opd, ← he.2.1]
    split at h
    · rename_i v ups hout
      simp only [fAV_eq, fUps_eq] at h
      rw [hout]; cases h; exact hk
    · rename_i hout
      rw [hout]
      simp only []
      split at h
      · rename_i f' args ts hop
        simp only [hop]
        split at h
        · rename_i fid first captured hf
          simp only [hf]
          split at h
          · rename_i hfn
            rw [fLs_eq] at h
            split at h
            · rename_i r is hc
              cases h
              rw [callArgs_eq he] at hc
              exact ⟨hfn, r, is, exPure_sound hX hc, by simpa only [hop] using hk⟩
            · cases h
          · cases h
        · cases h
      · cases h
theorem exDOps_sound (hn : g.n = n) {base : Nat} : ∀ (os : List SOp) (i : Nat) (S S' T : St) (fs fs' : List FP), exDOps P X n base i os S fs = some (S', fs') → EEq S T → ∀ {K : St → List FP → Prop}, (∀ S'', EEq S' S'' → K S'' fs') → DOps P g base i os T fs K := by
  intro os
  induction os with
  | nil => intro i S S' T fs fs' h he K hk; cases h; exact hk _ he
  | cons o os ih =>
    intro i S S' T fs fs' h he K hk
    unfold exDOps at h
    unfold DOps
    simp only [elookR_eq] at h
    have one : ∀ T0, EEq S T0 → (match exDOp P X n base i o S with | some (e, f) => (match appR S o.dst e with | some S1 => exDOps P X n base (i + 1) os S1 (fs ++ [f]) | none => none) | none => none) = some (S', fs') →
        DOp P g base i o T0 fun e f => DOps P g base (i + 1) os (app T0 o.dst e) (fs ++ [f]) K := by
      intro T0 he0 h0
      split at h0
      · rename_i e f h1
        simp only [appR, upR_eq] at h0
        refine exDOp_sound hX hn h1 he0 (ih _ _ _ _ _ _ h0 ?_ hk)
        have := EEq.put (S := ⟨S.env, upH S.H e.ups, S.nx⟩) (T := ⟨T0.env, upH S.H e.ups, S.nx⟩) ⟨he0.1, rfl, rfl⟩ o.dst e.v
        unfold app
        rw [← he0.2.1, ← he0.2.2]
        exact this
      · cases h0
    have skip : ∀ T0, EEq S T0 → (match dstB n o.dst with | true => exDOps P X n base (i + 1) os (putR S o.dst .undef) (fs ++ [⟨i, tmpsOf o, [], o.dst, []⟩]) | false => none) = some (S', fs') →
        dstOk g o.dst ∧ DOps P g base (i + 1) os (app T0 o.dst ⟨.undef, []⟩) (fs ++ [⟨i, tmpsOf o, [], o.dst, []⟩]) K := by
      intro T0 he0 h0
      split at h0
      · rename_i hd; exact ⟨dstB_ok hn hd, ih _ _ _ _ _ _ h0 (he0.put _ _) hk⟩
      · cases h0
    split at h
    · rename_i hg; rw [hg]; exact one _ he h
    · rename_i t want hg
      rw [hg]
      simp only []
      rw [← he.1]
      split at h
      · rename_i b hb
        rw [hb]
        simp only []
        refine ⟨fun e => ?_, fun e => ?_⟩
        · rw [e] at h; simp only [beq_self_eq_true] at h; exact one _ (he.setB (e ▸ hb)) h
        · have : (b == want) = false := by rw [e]; cases want <;> rfl
          rw [this] at h; exact skip _ (he.setB (e ▸ hb)) h
      · rename_i hb
        rw [hb]
        exact skip _ he h
      · cases h
    · rename_i want hg
      rw [hg]
      exact skip _ he h
omit hX

def RidOk (rid ro : Option Nat) (g : G) : Prop := match rid with
  | none => ro = none
  | some i => ∃ l, ro = some l ∧ g.κ0 i = some l
theorem RidOk.inRound (h : RidOk rid ro g) {S : St} (hb : ridB rid S.H = true) : InRound ro g S := by
  cases rid with
  | none => exact .inl h
  | some i =>
    obtain ⟨l, h1, h2⟩ := h
    unfold ridB at hb
    simp only [] at hb
    split at hb
    · rename_i L hL; exact .inr ⟨i, L, l, hL, h1, h2⟩
    · cases hb

include hX
theorem exCode_sound (hn : g.n = n) (lf : Nat) (hrid : RidOk rid ro g) : ∀ (c : Code) (S S' : St) (x : AX), exCode P X n rid lf c S = some (x, S') → ∀ {Q : AX → St → Prop}, (∀ S'', EEq S' S'' → Q x S'') → ACode P ro g c Q S := by
  intro c
  induction c with
  | skip => intro S S' x h Q hq; simp only [exCode, Option.some.injEq, Prod.mk.injEq] at h; obtain ⟨rfl, rfl⟩ := h; exact acode_skip (hq _ (.refl _))
  | label l => intro S S' x h Q hq; simp only [exCode, Option.some.injEq, Prod.mk.injEq] at h; obtain ⟨rfl, rfl⟩ := h; exact acode_label (hq _ (.refl _))
  | exit i => intro S S' x h Q hq; simp only [exCode, Option.some.injEq, Prod.mk.injEq] at h; obtain ⟨rfl, rfl⟩ := h; exact acode_exit (hq _ (.refl _))
  | goto i => intro S S' x h Q hq; simp only [exCode, Option.some.injEq, Prod.mk.injEq] at h; obtain ⟨rfl, rfl⟩ := h; exact acode_goto (hq _ (.refl _))
  | ret => intro S S' x h Q hq; simp only [exCode, Option.some.injEq, Prod.mk.injEq] at h; obtain ⟨rfl, rfl⟩ := h; exact acode_ret (hq _ (.refl _))
  | region id ops d =>
    intro S S' x h Q hq
    cases d with
    | false =>
      simp only [exCode] at h
      split at h
      · rename_i S1 h1
        cases h
        exact acode_region (exOps_sound hX hn _ _ _ _ h1 (.refl _) hq)
      · cases h
    | true =>
      simp only [exCode] at h
      split at h
      · rename_i hd
        simp only [drawOk, Bool.and_eq_true, decide_eq_true_eq] at hd
        split at h
        · rename_i S1 fs h1
          split at h
          · rename_i hi
            split at h
            · rename_i S2 h2
              cases h
              exact acode_draw_tail hd.2 hd.1.1.1 _ hd.1.1.2 hd.1.2 (exDOps_sound hX hn _ _ _ _ _ _ _ h1 (.refl _) fun S'' h'' => ⟨hi, exOps_sound hX hn _ _ _ _ h2 h'' hq⟩)
            · cases h
          · cases h
        · cases h
      · cases h
  | seq a b iha ihb =>
    intro S S' x h Q hq
    simp only [exCode] at h
    refine acode_seq ?_
    split at h
    · rename_i S1 h1
      exact iha _ _ _ h1 fun S'' h'' => (ihb _ _ _ h hq).congr h''
    · rename_i r hr
      refine iha _ _ _ h ?_
      cases x with
      | norm => exact absurd h (by intro e; exact hr _ e)
      | _ => exact hq
  | cond c a b iha ihb =>
    intro S S' x h Q hq
    simp only [exCode, aopdR_eq] at h
    split at h
    · rename_i hc; exact acode_cond hc (fun _ => iha _ _ _ h hq) (fun e => by cases e)
    · rename_i hc; exact acode_cond hc (fun e => by cases e) (fun _ => ihb _ _ _ h hq)
    · cases h
  | block id c ih =>
    intro S S' x h Q hq
    simp only [exCode] at h
    refine acode_block ?_
    split at h
    · rename_i i S1 h1
      refine ih _ _ _ h1 ?_
      simp only [AX.inBlock]
      split at h
      · rename_i e; cases h; intro S'' h''; rw [if_pos e]; exact hq S'' h''
      · rename_i e; cases h; intro S'' h''; rw [if_neg e]; exact hq S'' h''
    · rename_i r hr
      refine ih _ _ _ h ?_
      cases x with
      | exit i => exact absurd h (hr _ _)
      | _ => exact hq
  | loop c ih =>
    intro S S' x h Q hq
    simp only [exCode] at h
    refine acode_unroll (ι := Nat × St) (fun i => i.2) (fun i => exLoop (exCode P X n rid lf c) i.1 i.2 = some (x, S')) (fun i => i.1) (lf, S) h (.refl _) ?_
    rintro ⟨k, T⟩ hk
    cases k with
    | zero => cases hk
    | succ m =>
      simp only [exLoop] at hk
      split at hk
      · rename_i S1 hS1
        exact ih _ _ _ hS1 fun S'' h'' => ⟨(m, S1), hk, Nat.lt_succ_self m, h''⟩
      · rename_i r hr
        refine ih _ _ _ hk ?_
        cases x with
        | norm => exact absurd hk (hr _)
        | _ => exact hq
  | rangeFunc f ps assign body _ _ =>
    intro S S' x h Q hq
    simp only [exCode, aopdR_eq, fSp_eq] at h
    split at h
    · rename_i hb
      split at h
      · rename_i fid first captured hf
        split at h
        · rename_i hfn
          split at h
          · rename_i r H' nx' hc
            subst hn
            refine acode_rangeFunc hf hfn (hrid.inRound hb) ((hX.call hc).mono fun r0 H0 nx1 ⟨e1, e2, e3⟩ => ?_)
            subst e2; subst e3
            split at h
            · rename_i L' hL'
              refine ⟨L', hL', ?_⟩
              split at h
              · cases h
              · rename_i hpd hst; cases h; exact ⟨fun e => hst e, by rw [hpd]; exact hq _ (.refl _)⟩
              · rename_i hpd hst; cases h; exact ⟨fun e => hst e, by rw [hpd]; exact acode_ret (hq _ (.refl _))⟩
              · rename_i hpd hst; cases h; exact ⟨fun e => hst e, by rw [hpd]; exact acode_exit (hq _ (.refl _))⟩
              · rename_i hpd hst; cases h; exact ⟨fun e => hst e, by rw [hpd]; exact acode_goto (hq _ (.refl _))⟩
              · cases h
            · cases h
          · cases h
        · cases h
      · cases h
    · cases h
  | scope c ih =>
    intro S S' x h Q hq
    simp only [exCode] at h
    split at h
    · have hro : ro = none := hrid
      subst hro
      refine acode_scope ?_
      split at h
      · cases h
      · rename_i r hr
        refine ih _ _ _ h ?_
        cases x with
        | goto l => exact absurd h (hr _ _)
        | _ => exact hq
    · cases h
  | refuse w => intro S S' x h; simp only [exCode] at h; cases h
end

theorem RangeOk.lent {P : Program} {f : FuncId} {args : List AV} {r : AV} {is : List Nat} {H : AHeap} {nx : Nat} (h : Lent P (hget H) f args r is) : RangeOk P f args H nx fun r0 H0 nx0 => r0 = r ∧ H0 = H ∧ nx0 = nx := by
  intro κ N w cargs hr hfr hc
  refine (h.calls hr hc).mono ?_
  rintro e w' ⟨v, rfl, hle, hs, hv⟩
  exact ⟨v, r, κ, H, nx, rfl, .still hr hle hs, hfr, hv, rfl, rfl, rfl⟩
theorem thawL_of_ok {h : Nat → Option AObj} {l : List AV} (hl : okL 0 l = true) : thawL h l = some (l, []) := by
  unfold thawL
  induction l with
  | nil => rfl
  | cons a r ih =>
    simp only [okL, Bool.and_eq_true] at hl
    have : thaw 8 h a = some (a, []) := by unfold thaw; rw [if_pos hl.1]
    simp only [mapO, this, ih hl.2, List.nil_append]
theorem kfind_sound {P : Program} {kn : List Kn} (hkn : KnOk P kn) {h : Nat → Option AObj} {f : FuncId} {args : List AV} {r : AV} (hk : kfind kn h f args = some r) : ∃ is, Lent P h f args r is := by
  unfold kfind at hk
  simp only [fLs_eq] at hk
  split at hk
  · cases hk
  · split at hk
    · rename_i hok
      obtain ⟨b, _, hm⟩ := klook_mem hk
      exact ⟨[], args, thawL_of_ok hok, .inl ⟨(hkn _ hm).1, .inl ⟨rfl, rfl⟩⟩⟩
    · split at hk
      · rename_i args' is ht
        obtain ⟨b, hb, hm⟩ := klook_mem hk
        exact ⟨is, args', ht, .inr ((hkn _ hm).2 (hb rfl))⟩
      · cases hk
theorem ex_ok (P : Program) {kn : List Kn} (hkn : KnOk P kn) (lf : Nat) : ∀ k, ExOk P (ex P kn lf k) := by
  intro k
  induction k with
  | zero =>
    constructor
    · intro f args H nx r H' nx' h; cases h
    · intro f args H nx r H' nx' h; cases h
  | succ k ih =>
    refine ⟨?_, ?_⟩
    · intro f args H nx r H' nx' h
      simp only [ex] at h
      split at h
      · rename_i r0 hk
        cases h
        obtain ⟨is, hl⟩ := kfind_sound hkn hk
        exact RangeOk.lent hl
      simp only [exFn, fRes_eq] at h
      split at h
      · rename_i fn hfn
        split at h
        · rename_i c hc
          refine RangeOk.enter hfn hc fun g hg hlow => ?_
          have res : ∀ S', (match ares P S' fn.results.toList with | some r => some (r, S'.H, S'.nx) | none => none) = some (r, H', nx') → ∀ S'', EEq S' S'' → ∃ r0, ares P S'' fn.results.toList = some r0 ∧ r0 = r ∧ S''.H = H' ∧ S''.nx = nx' := by
            intro S' h0 S'' he
            have hares : ∀ l, aresL P S'' l = aresL P S' l := by
              intro l
              induction l with
              | nil => rfl
              | cons x l ihl =>
                have h1 : ares1 P S'' x = ares1 P S' x := by
                  cases x <;> simp only [ares1, he.1, he.2.1]
                simp only [aresL, h1, ihl]
            have hA : ares P S'' fn.results.toList = ares P S' fn.results.toList := by unfold ares; rw [hares]
            split at h0
            · rename_i r1 h1
              cases h0
              exact ⟨_, by rw [hA]; exact h1, rfl, he.2.1.symm, he.2.2.symm⟩
            · cases h0
          split at h
          · rename_i S' hS'
            exact exCode_sound (rid := none) (ro := none) ih hg lf rfl _ _ _ _ hS' fun S'' he => ⟨trivial, by obtain ⟨r0, a, b, c, d⟩ := res S' h S'' he; exact ⟨r0, a, b, c, d⟩⟩
          · rename_i S' hS'
            exact exCode_sound (rid := none) (ro := none) ih hg lf rfl _ _ _ _ hS' fun S'' he => ⟨trivial, by obtain ⟨r0, a, b, c, d⟩ := res S' h S'' he; exact ⟨r0, a, b, c, d⟩⟩
          · cases h
        · cases h
      · cases h
    · intro id args H nx r H' nx' h env K hK
      simp only [ex, exRound, fObj_eq, fSp_eq] at h
      split at h
      · rename_i L hL
        split at h
        · rename_i hc
          split at h
          · rename_i S1 hS1
            split at h
            · rename_i L1 hL1
              split at h
              · rename_i hst1
                split at h
                · rename_i x S2 hS2
                  split at h
                  · rename_i L2 hL2
                    refine ⟨L, hL, hc.1, hc.2.1, hc.2.2, fun g' l e1 e2 e3 => ?_⟩
                    refine exCode_sound (rid := some id) (ro := some l) ih e1 lf ⟨l, rfl, e3⟩ _ _ _ _ hS1 fun S1' he1 => ⟨L1, by rw [← he1.2.1]; exact hL1, hst1, ?_⟩
                    refine ACode.congr (S := ⟨S1.env, hset S1.H id (.loop { L1 with state := .busy }), S1.nx⟩) ?_ ⟨he1.1, by rw [he1.2.1], he1.2.2⟩
                    refine exCode_sound (rid := some id) (ro := some l) ih e1 lf ⟨l, rfl, e3⟩ _ _ _ _ hS2 fun S2' he2 => ⟨L2, by rw [← he2.2.1]; exact hL2, ?_⟩
                    cases x <;> (cases h; simp only []; rw [← he2.2.1, ← he2.2.2]; exact hK)
                  · cases h
                · cases h
              · cases h
            · cases h
          · cases h
        · cases h
      · cases h

/-- A FUNCTION THAT ONLY COMPUTES, RUN. -/
noncomputable def exRunK (P : Program) (kn : List Kn) (lf k : Nat) (f : FuncId) (args : List AV) : Option AV :=
  if okL 0 args = true then
    match (ex P kn lf k).call f args [] 0 with
    | some (r, H', _) => (match thaw 8 (hget H') r with
      | some (r', _) => some r'
      | none => none)
    | none => none
  else none
theorem APure.runK {P : Program} {kn : List Kn} (hkn : KnOk P kn) {f : FuncId} {args : List AV} {r : AV} (lf k : Nat) (h : exRunK P kn lf k f args = some r) : APure P f args r := by
  unfold exRunK at h
  split at h
  · rename_i hok
    split at h
    · rename_i r0 H' nx' hc
      split at h
      · rename_i r' js ht
        · cases h
          exact .range hok (thaw_ok 8 _ _ _ ht) (((ex_ok P hkn lf k).call hc).mono fun r0 H0 nx1 ⟨e1, e2, e3⟩ => by subst e1; subst e2; exact ⟨js, ht⟩)
      · cases h
    · cases h
  · cases h
noncomputable def exRun (P : Program) (lf k : Nat) (f : FuncId) (args : List AV) : Option AV := exRunK P [] lf k f args
theorem APure.run {P : Program} {f : FuncId} {args : List AV} {r : AV} (lf k : Nat) (h : exRun P lf k f args = some r) : APure P f args r := APure.runK (fun e he => by cases he) lf k h
/-- The same, the result in new memory. -/
noncomputable def exRunF (P : Program) (kn : List Kn) (lf k : Nat) (f : FuncId) (args : List AV) : Option AV :=
  if okL 0 args = true then
    match (ex P kn lf k).call f args [] 0 with
    | some (r, H', _) => (match thawF 8 (hget H') r with
      | some (r', _) => (match thaw 8 (hget H') r with
        | some _ => some r'
        | none => none)
      | none => none)
    | none => none
  else none
theorem APureF.runK {P : Program} {kn : List Kn} (hkn : KnOk P kn) {f : FuncId} {args : List AV} {r : AV} (lf k : Nat) (h : exRunF P kn lf k f args = some r) : APureF P f args r := by
  unfold exRunF at h
  split at h
  · rename_i hok
    split at h
    · rename_i r0 H' nx' hc
      split at h
      · rename_i r' js ht
        split at h
        · cases h
          exact .range hok (thawF_ok 8 _ _ _ ht) (((ex_ok P hkn lf k).call hc).mono fun r0 H0 nx1 ⟨e1, e2, e3⟩ => by subst e1; subst e2; exact ⟨js, ht⟩)
        · cases h
      · cases h
    · cases h
  · cases h
theorem APureF.pure {P : Program} {f : FuncId} {args : List AV} {r : AV} (h : APureF P f args r) : APure P f args r := by
  intro κ N w cargs hN hc
  refine (h κ N w cargs hN hc).mono ?_
  rintro e w' ⟨v, h1, h2, h3, h4⟩
  exact ⟨v, h1, h2, h3, h4.mono (fun _ _ h => h) (.refl _) (fun b _ hb => hN b hb) (fun _ _ _ => rfl)⟩
theorem KnOk.nil {P : Program} : KnOk P [] := fun e he => by cases he
theorem KnOk.consF {P : Program} {kn : List Kn} {f : FuncId} {args : List AV} {r : AV} (h : APureF P f args r) (hk : KnOk P kn) : KnOk P (⟨f, args, r, true⟩ :: kn) := fun e he => by
  rcases List.mem_cons.1 he with rfl | he
  · exact ⟨h.pure, fun _ => h⟩
  · exact hk e he
theorem KnOk.cons {P : Program} {kn : List Kn} {f : FuncId} {args : List AV} {r : AV} (h : APure P f args r) (hk : KnOk P kn) : KnOk P (⟨f, args, r, false⟩ :: kn) := fun e he => by
  rcases List.mem_cons.1 he with rfl | he
  · exact ⟨h, fun e => by cases e⟩
  · exact hk e he
end Go.Am

import Derived.Test.YticiopkiikcokaaN14
import Derived.Test.YticiopkiikcokaaNS
import Derived.Test.YticiopkiikcokaaN13
/-
  CODE OVER ABSTRACT STATES AS A PROPOSITION THAT COMPUTES: a tape tells what is not computed: how a branch goes, which element an index meets, what a call answers; what the tape says is owed.
-/
namespace Go.Am

inductive Tp where
  | nil
  /-- The branch on this temporary goes so. -/
  | br (t : Nat) (b : Bool) (r : Tp)
  /-- The branch on this temporary goes either way. -/
  | both (t : Nat) (x y : Tp)
  /-- The element that an index meets. -/
  | cells (c : List AV) (r : Tp)
  /-- The divisor is not 0. -/
  | nz (r : Tp)
  /-- What a call answers. -/
  | call (v : AV) (r : Tp)
  /-- A loop; what comes behind it has its own tape. -/
  | loop
  /-- A drawn region, and where its tail begins. -/
  | draw (k : Nat) (r : Tp)
  /-- What the operation for this temporary answers, and what it writes. -/
  | val (t : Nat) (v : AV) (ups : List (Nat × Option AObj)) (r : Tp)
  /-- A call of this function, walked through. -/
  | inl (fn : Func) (r : Tp)
  /-- What a call answers that is lent what is owned. -/
  | lent (v : AV) (is : List Nat) (r : Tp)

/-- A guard: what the tape says of it, or what it is. -/
noncomputable def vGd (t : Nat) (b : Bool) (τ : Tp) (K : Bool → Tp → Prop) : Prop :=
  match τ with
  | .br t' c τ' => (match Nat.beq t t' with
    | true => b = c ∧ K c τ'
    | false => (match b with | true => K true τ | false => K false τ))
  | .both t' x y => (match Nat.beq t t' with
    | true => (b = true → K true x) ∧ (b = false → K false y)
    | false => (match b with | true => K true τ | false => K false τ))
  | _ => (match b with | true => K true τ | false => K false τ)
theorem vGd_out {t : Nat} {b : Bool} {τ : Tp} {K : Bool → Tp → Prop} (h : vGd t b τ K) : ∃ τ', K b τ' := by
  unfold vGd at h
  split at h
  · split at h
    · exact ⟨_, h.1 ▸ h.2⟩
    · cases b <;> exact ⟨_, h⟩
  · split at h
    · cases b
      · exact ⟨_, h.2 rfl⟩
      · exact ⟨_, h.1 rfl⟩
    · cases b <;> exact ⟨_, h⟩
  · cases b <;> exact ⟨_, h⟩
/-- The temporary of a condition. -/
def condT : Operand → Nat
  | .tmp t => t
  | _ => 0
theorem EEq.setB2 {S T : St} (h : EEq S T) (t : Nat) (b : Bool) : EEq (Am.setB S t b) (Am.setB T t b) :=
  ⟨by funext t'; have := congrFun h.1 t'; simp only [Am.setB, elook, this], h.2.1, h.2.2⟩

/-- What an operation may owe to the tape. -/
noncomputable def vSpec (P : Program) (op : Op) (ρ : Operand → AV) (τ : Tp) (K : AV → Tp → Prop) : Option Prop :=
  match op with
  | .indexAddr t x i => (match ρ x with
    | .lst esz xs => (match ρ i with
      | .int _ j => (match τ with
        | .cells c r => (match tinfo P t with
          | some T => (match T.td with
            | .slice e => (match tinfo P e with
              | some E => if esz = E.size then some ((0 ≤ j ∧ xs[j.toNat]? = some c) ∧ K (.cptr c) r) else none
              | none => none)
            | _ => none)
          | none => none)
        | _ => none)
      | _ => none)
    | _ => none)
  | .binOp .quo _ x y _ => (match ρ x with
    | .int k a => (match ρ y with
      | .int k' b => (match τ with
        | .nz r => if k = k' then some (b ≠ 0 ∧ K (.int k (k.wrap (a.tdiv b))) r) else none
        | _ => none)
      | _ => none)
    | _ => none)
  | .binOp .rem _ x y _ => (match ρ x with
    | .int k a => (match ρ y with
      | .int k' b => (match τ with
        | .nz r => if k = k' then some (b ≠ 0 ∧ K (.int k (a.tmod b)) r) else none
        | _ => none)
      | _ => none)
    | _ => none)
  | .call { callee := .value f, args := args, argTypes := _ } => (match ρ f with
    | .fn (.func fid) first captured => (match τ with
      | .call v r => (match isFn P fid && okL 0 (first ++ args.toList.map ρ ++ captured) with
        | true => some (APure P fid (first ++ args.toList.map ρ ++ captured) v ∧ K v r)
        | false => none)
      | _ => none)
    | _ => none)
  | _ => none

/-- Of a state that holds the same. -/
def ECl (Q : AX → St → Prop) (x : AX) (S : St) : Prop := ∃ S', EEq S' S ∧ Q x S'
theorem ECl.mk {Q : AX → St → Prop} {x : AX} {S : St} (h : Q x S) : ECl Q x S := ⟨S, .refl _, h⟩

structure VX where
  call : Func → List AV → AHeap → Nat → Tp → (AV → AHeap → Nat → Tp → Prop) → Prop
  yld : Nat → List AV → AHeap → Nat → Tp → (AV → AHeap → Nat → Tp → Prop) → Prop

section
variable (P : Program) (X : VX) (n nx0 : Nat) (rid : Option Nat)

/-- Calls that are not told by a tape alone. -/
noncomputable def vCall (op : Op) (S : St) (τ : Tp) (K : AV → AHeap → Nat → Tp → Prop) : Prop :=
  match op with
  | .call { callee := .value f, args := args, argTypes := _ } =>
    (match aopdR S.env f with
    | .fn (.func fid) first captured =>
      (match isFn P fid with
      | true => (match τ with
        | .inl fn r => P.funcs[fid]? = some fn ∧ X.call fn (first ++ args.toList.map (aopdR S.env) ++ captured) S.H S.nx r K
        | .lent v is r => Lent P (hget S.H) fid (first ++ args.toList.map (aopdR S.env) ++ captured) v is ∧ K v S.H S.nx r
        | _ => False)
      | false => False)
    | .yld id => X.yld id (args.toList.map (aopdR S.env)) S.H S.nx τ K
    | _ => False)
  | _ => False
noncomputable def vOp1 (o : SOp) (S : St) (τ : Tp) (K : St → Tp → Prop) : Prop :=
  match vSpec P o.op (aopdR S.env) τ (fun v r => K (putR S o.dst v) r) with
  | some p => p
  | none => (match aval P o.op (aopdR S.env) (hget S.H) S.nx with
    | some ⟨v, ups⟩ => (match upR S o.dst v ups (match ups with | [] => S.nx | _ => S.nx + 1) with
      | some S' => K S' τ
      | none => False)
    | none => vCall P X o.op S τ fun r H nx τ' => K (putR ⟨S.env, H, nx⟩ o.dst r) τ')
/-- Is this the operation that is meant: by its temporary; what has none: a store is 1, all else 0. -/
def isDst (o : SOp) (t : Nat) : Bool := match o.dst with
  | some d => Nat.beq d t
  | none => (match o.op with | .store _ _ _ => Nat.beq t 1 | _ => Nat.beq t 0)
noncomputable def vOp (o : SOp) (S : St) (τ : Tp) (K : St → Tp → Prop) : Prop :=
  match dstB n o.dst with
  | false => False
  | true =>
    match τ with
    | .val t v ups r => (match isDst o t with
      | true => aval P o.op (aopdR S.env) (hget S.H) S.nx = some ⟨v, ups⟩ ∧ fSp (upH S.H ups) fun H => fNat (match ups with | [] => S.nx | _ => S.nx + 1) fun nx => K (putR ⟨S.env, H, nx⟩ o.dst v) r
      | false => vOp1 P X o S (.val t v ups r) K)
    | τ => vOp1 P X o S τ K
noncomputable def vOps : List SOp → St → Tp → (St → Tp → Prop) → Prop
  | [], S, τ, K => K S τ
  | o :: r, S, τ, K =>
    match o.gd with
    | none => vOp P X n o S τ fun S' τ' => vOps r S' τ' K
    | some (some t, want) =>
      (match elookR S.env t with
      | .bool b => vGd t b τ fun c τ' => (match c == want with
          | true => vOp P X n o (setB S t c) τ' fun S' τ' => vOps r S' τ' K
          | false => (match dstB n o.dst with | true => vOps r (putR (setB S t c) o.dst .undef) τ' K | false => False))
      | .undef => (match dstB n o.dst with | true => vOps r (putR S o.dst .undef) τ K | false => False)
      | _ => False)
    | some (none, _) => (match dstB n o.dst with | true => vOps r (putR S o.dst .undef) τ K | false => False)

noncomputable def vDCall (i : Nat) (o : SOp) (S : St) (τ : Tp) (K : St → FP → Tp → Prop) : Prop :=
  match o.op with
  | .call { callee := .value f, args := args, argTypes := _ } =>
    (match aopdR S.env f with
    | .fn (.func fid) first captured =>
      (match isFn P fid with
      | true => (match τ with
        | .lent v is r => Lent P (hget S.H) fid (first ++ args.toList.map (aopdR S.env) ++ captured) v is ∧ K (putR S o.dst v) ⟨i, tmpsOf o, is, o.dst, []⟩ r
        | _ => False)
      | false => False)
    | _ => False)
  | _ => False
noncomputable def vDOp1 (base i : Nat) (o : SOp) (S : St) (τ : Tp) (K : St → FP → Tp → Prop) : Prop :=
  match vSpec P o.op (aopdR S.env) τ (fun v r => K (putR S o.dst v) ⟨i, tmpsOf o, areads o.op (aopdR S.env), o.dst, []⟩ r) with
  | some p => p
  | none => (match aval P o.op (aopdR S.env) (hget S.H) (base + i) with
    | some ⟨v, ups⟩ => (match upR S o.dst v ups S.nx with
      | some S' => K S' ⟨i, tmpsOf o, areads o.op (aopdR S.env), o.dst, ups.map (·.1)⟩ τ
      | none => False)
    | none => vDCall P i o S τ K)
noncomputable def vDOp (base i : Nat) (o : SOp) (S : St) (τ : Tp) (K : St → FP → Tp → Prop) : Prop :=
  match dstB n o.dst with
  | false => False
  | true =>
    match τ with
    | .val t v ups r => (match isDst o t with
      | true => aval P o.op (aopdR S.env) (hget S.H) (base + i) = some ⟨v, ups⟩ ∧ fSp (upH S.H ups) fun H => K (putR ⟨S.env, H, S.nx⟩ o.dst v) ⟨i, tmpsOf o, areads o.op (aopdR S.env), o.dst, ups.map (·.1)⟩ r
      | false => vDOp1 P base i o S (.val t v ups r) K)
    | τ => vDOp1 P base i o S τ K
noncomputable def vDOps (base : Nat) : Nat → List SOp → St → List FP → Tp → (St → List FP → Tp → Prop) → Prop
  | _, [], S, fs, τ, K => K S fs τ
  | i, o :: r, S, fs, τ, K =>
    match o.gd with
    | none => vDOp P n base i o S τ fun S' f τ' => vDOps base (i + 1) r S' (fs ++ [f]) τ' K
    | some (some t, want) =>
      (match elookR S.env t with
      | .bool b => vGd t b τ fun c τ' => (match c == want with
          | true => vDOp P n base i o (setB S t c) τ' fun S' f τ' => vDOps base (i + 1) r S' (fs ++ [f]) τ' K
          | false => (match dstB n o.dst with | true => vDOps base (i + 1) r (putR (setB S t c) o.dst .undef) (fs ++ [⟨i, tmpsOf o, [], o.dst, []⟩]) τ' K | false => False))
      | .undef => (match dstB n o.dst with | true => vDOps base (i + 1) r (putR S o.dst .undef) (fs ++ [⟨i, tmpsOf o, [], o.dst, []⟩]) τ K | false => False)
      | _ => False)
    | some (none, _) => (match dstB n o.dst with | true => vDOps base (i + 1) r (putR S o.dst .undef) (fs ++ [⟨i, tmpsOf o, [], o.dst, []⟩]) τ K | false => False)

/-- A loop is owed as it stands. -/
def VLoop (c : Code) (S : St) (Q : AX → St → Prop) : Prop := match rid with
  | none => ∀ g : G, g.n = n → g.low nx0 → ACode P none g (.loop c) (ECl Q) S
  | some i => ∀ (g : G) (l : Nat), g.n = n → g.low nx0 → g.κ0 i = some l → ACode P (some l) g (.loop c) (ECl Q) S

noncomputable def vCode : Code → St → Tp → (AX → St → Tp → Prop) → Prop
  | .skip, S, τ, K => K .norm S τ
  | .label _, S, τ, K => K .norm S τ
  | .exit i, S, τ, K => K (.exit i) S τ
  | .goto l, S, τ, K => K (.goto l) S τ
  | .ret, S, τ, K => K .ret S τ
  | .region _ ops false, S, τ, K => vOps P X n (strip ops) S τ (K .norm)
  | .region _ ops true, S, τ, K => (match τ with
    | .draw k τ => drawOk ops = true ∧ P.follows .mixedOrders = true ∧ firstTail (Region.before ops) ops.size = k ∧
      vDOps P n S.nx 0 ((strip ops).take k) ⟨S.env, S.H, S.nx + ops.size⟩ [] τ fun S' fs τ' => indepB (Region.before ops) fs = true ∧
        vOps P X n ((strip ops).drop k) S' τ' (K .norm)
    | _ => False)
  | .seq a b, S, τ, K => vCode a S τ fun x S' τ' => (match x with
    | .norm => vCode b S' τ' K
    | x => K x S' τ')
  | .cond c x y, S, τ, K => (match aopdR S.env c with
    | .bool b => vGd (condT c) b τ fun c τ' => (match c with
      | true => vCode x S τ' K
      | false => vCode y S τ' K)
    | _ => False)
  | .block id c, S, τ, K => vCode c S τ fun x S' τ' => (match x with
    | .exit i => if i = id then K .norm S' τ' else K (.exit i) S' τ'
    | x => K x S' τ')
  | .loop c, S, τ, K => (match τ with
    | .loop => VLoop P n nx0 rid c S fun x S' => ∃ r, K x S' r
    | _ => False)
  | .scope c, S, τ, K => (match rid with
    | none => vCode c S τ fun x S' τ' => (match x with
      | .goto _ => False
      | x => K x S' τ')
    | some _ => False)
  | .rangeFunc f ps assign body, S, τ, K => (match ridB rid S.H with
    | true => (match aopdR S.env f with
      | .fn (.func fid) first captured => (match isFn P fid with
        | true => (match τ with
          | .inl fn r => P.funcs[fid]? = some fn ∧ X.call fn (first ++ [.yld S.nx] ++ captured) (hset S.H S.nx (.loop (loop0 S n ps assign body))) (S.nx + 1) r fun _ H' nx' τ' =>
            (match hget H' S.nx with
            | some (.loop L') => (match L'.state, L'.pending with
              | .busy, _ => False
              | _, none => K .norm ⟨S.env, herase H' S.nx, nx'⟩ τ'
              | _, some .ret => K .ret ⟨S.env, herase H' S.nx, nx'⟩ τ'
              | _, some (.exit i) => K (.exit i) ⟨S.env, herase H' S.nx, nx'⟩ τ'
              | _, some (.goto l) => K (.goto l) ⟨S.env, herase H' S.nx, nx'⟩ τ'
              | _, _ => False)
            | _ => False)
          | _ => False)
        | false => False)
      | _ => False)
    | false => False)
  | .refuse _, _, _, _ => False
end

/-- A function's body, walked through. -/
noncomputable def vFn (P : Program) (X : VX) (fn : Func) (args : List AV) (H : AHeap) (nx : Nat) (τ : Tp) (K : AV → AHeap → Nat → Tp → Prop) : Prop :=
  match fn.body with
  | some c => vCode P X (args.length + (fn.ntmps - args.length)) nx none c ⟨env0 0 args, H, nx⟩ τ fun x S' τ' => (match x with
    | .norm => (match ares P S' fn.results.toList with | some r => K r S'.H S'.nx τ' | none => False)
    | .ret => (match ares P S' fn.results.toList with | some r => K r S'.H S'.nx τ' | none => False)
    | _ => False)
  | none => False
/-- A round, walked through. -/
noncomputable def vRound (P : Program) (X : VX) (id : Nat) (args : List AV) (H : AHeap) (nx : Nat) (τ : Tp) (K : AV → AHeap → Nat → Tp → Prop) : Prop :=
  match hget H id with
  | some (.loop L0) => (match L0.state with
    | .ready => (match Nat.beq L0.params.toList.length args.length && (L0.params.toList.all fun p => decide (p < L0.n)) with
      | true => vCode P X L0.n nx (some id) L0.assign ⟨bindE L0.env L0.params.toList args, H, nx⟩ τ fun x S1 τ1 => (match x with
        | .norm => (match hget S1.H id with
          | some (.loop L1) => (match L1.state with
            | .ready => vCode P X L0.n nx (some id) L0.body ⟨S1.env, hset S1.H id (.loop { L1 with state := .busy }), S1.nx⟩ τ1 fun x S2 τ2 => (match hget S2.H id with
              | some (.loop L2) => (match x with
                | .norm => K (.bool true) (hset S2.H id (.loop { L2 with state := .ready, pending := none })) S2.nx τ2
                | .ret => K (.bool false) (hset S2.H id (.loop { L2 with state := .done, pending := some .ret })) S2.nx τ2
                | .exit i => K (.bool false) (hset S2.H id (.loop { L2 with state := .done, pending := some (.exit i) })) S2.nx τ2
                | .goto t => K (.bool false) (hset S2.H id (.loop { L2 with state := .done, pending := some (.goto t) })) S2.nx τ2)
              | _ => False)
            | _ => False)
          | _ => False)
        | _ => False)
      | false => False)
    | _ => False)
  | _ => False
noncomputable def vx (P : Program) : Nat → VX
  | 0 => ⟨fun _ _ _ _ _ _ => False, fun _ _ _ _ _ _ => False⟩
  | k + 1 => ⟨vFn P (vx P k), vRound P (vx P k)⟩

structure VXOk (P : Program) (X : VX) : Prop where
  call : ∀ {fn args H nx τ K}, X.call fn args H nx τ K → ∀ {f}, P.funcs[f]? = some fn → RangeOk P f args H nx fun r H' nx' => ∃ τ', K r H' nx' τ'
  yld : ∀ {id args H nx τ K}, X.yld id args H nx τ K → ∀ (env : Env) (K' : AV → St → Prop), (∀ r H' nx' τ', K r H' nx' τ' → K' r ⟨env, H', nx'⟩) → RoundOk P id args ⟨env, H, nx⟩ K'

section
variable {P : Program} {n nx0 : Nat} {g : G}

theorem vSpec_op (hn : g.n = n) {o : SOp} {S T : St} (he : EEq S T) (hd : dstB n o.dst = true) {τ : Tp} {K0 : AV → Tp → Prop} {p : Prop} (h : vSpec P o.op (aopd S.env) τ K0 = some p) (hp : p) {K : St → Prop}
    (hk : ∀ v r, K0 v r → ∀ S'', EEq (putR S o.dst v) S'' → K S'') : AOp P g o T K := by
  have put : ∀ v, K (putV T o.dst v) → K (putOut T o.dst ⟨v, []⟩ (match ([] : List (Nat × Option AObj)) with | [] => T.nx | _ => T.nx + 1)) := fun v h => by
    have e : putOut T o.dst ⟨v, []⟩ T.nx = putV T o.dst v := by cases o.dst <;> rfl
    rw [e]; exact h
  unfold vSpec at h
  refine ⟨dstB_ok hn hd, ?_⟩
  rw [← he.opd]
  split at h
  · rename_i t x i hop
    split at h <;> try (cases h; done)
    rename_i esz xs hx
    split at h <;> try (cases h; done)
    rename_i k j hi
    split at h <;> try (cases h; done)
    rename_i c r
    split at h <;> try (cases h; done)
    rename_i Tt hT
    split at h <;> try (cases h; done)
    rename_i e htd
    split at h <;> try (cases h; done)
    rename_i E hE
    split at h <;> try (cases h; done)
    rename_i hsz
    cases h
    obtain ⟨⟨h0, h1⟩, h2⟩ := hp
    have hv : aval P o.op (aopd S.env) (hget T.H) T.nx = some ⟨.cptr c, []⟩ := by
      rw [hop]
      simp only [aval, aindexAddr, hx, hi, hT, htd, hE, if_pos hsz, elemAt, if_pos h0, h1, Option.map_some]
    rw [hv]
    exact put _ (hk _ _ h2 _ (he.put _ _))
  · rename_i t x y t' hop
    split at h <;> try (cases h; done)
    rename_i k a hx
    split at h <;> try (cases h; done)
    rename_i k' b hy
    split at h <;> try (cases h; done)
    rename_i r
    split at h <;> try (cases h; done)
    rename_i hkk
    cases h
    obtain ⟨h0, h2⟩ := hp
    have hv : aval P o.op (aopd S.env) (hget T.H) T.nx = some ⟨.int k (k.wrap (a.tdiv b)), []⟩ := by
      rw [hop]
      simp only [aval, abin, hx, hy, if_pos hkk, abinInt, if_neg h0, Option.map_some]
    rw [hv]
    exact put _ (hk _ _ h2 _ (he.put _ _))
  · rename_i t x y t' hop
    split at h <;> try (cases h; done)
    rename_i k a hx
    split at h <;> try (cases h; done)
    rename_i k' b hy
    split at h <;> try (cases h; done)
    rename_i r
    split at h <;> try (cases h; done)
    rename_i hkk
    cases h
    obtain ⟨h0, h2⟩ := hp
    have hv : aval P o.op (aopd S.env) (hget T.H) T.nx = some ⟨.int k (a.tmod b), []⟩ := by
      rw [hop]
      simp only [aval, abin, hx, hy, if_pos hkk, abinInt, if_neg h0, Option.map_some]
    rw [hv]
    exact put _ (hk _ _ h2 _ (he.put _ _))
  · rename_i f args ts hop
    split at h <;> try (cases h; done)
    rename_i fid first captured hf
    split at h <;> try (cases h; done)
    rename_i v r
    split at h <;> try (cases h; done)
    rename_i hok
    cases h
    simp only [Bool.and_eq_true] at hok
    obtain ⟨h0, h2⟩ := hp
    have hv : aval P o.op (aopd S.env) (hget T.H) T.nx = none := by rw [hop]; rfl
    rw [hv, hop]
    simp only [hf]
    refine ⟨hok.1, CallOk.pure (r := v) ?_ (hk _ _ h2 _ (he.put _ _))⟩
    rw [callArgs_eq he] at h0
    exact h0
  · cases h

theorem vCall_sound {X : VX} (hX : VXOk P X) {o : SOp} {S T : St} (he : EEq S T) (hv : aval P o.op (aopd S.env) (hget S.H) S.nx = none) (hd : dstOk g o.dst) {τ : Tp} {K0 : AV → AHeap → Nat → Tp → Prop} (h : vCall P X o.op S τ K0) {K : St → Prop}
    (hk : ∀ v H nx r, K0 v H nx r → ∀ S'', EEq (putR ⟨S.env, H, nx⟩ o.dst v) S'' → K S'') : AOp P g o T K := by
  refine ⟨hd, ?_⟩
  rw [← he.opd, ← he.2.1, ← he.2.2, hv]
  simp only []
  unfold vCall at h
  simp only [aopdR_eq] at h
  split at h
  · rename_i f args ts hop
    simp only [hop]
    split at h
    · rename_i fid first captured hf
      simp only [hf]
      split at h
      · rename_i hfn
        refine ⟨hfn, ?_⟩
        split at h
        · rename_i fn r
          obtain ⟨h0, h1⟩ := h
          rw [callArgs_eq he] at h1
          refine .range ?_
          rw [← he.2.1, ← he.2.2]
          exact (hX.call h1 h0).mono fun r0 H0 nx1 ⟨τ', h2⟩ => hk _ _ _ _ h2 _ ((he.heap _ _).put _ _)
        · rename_i v is r
          obtain ⟨h0, h1⟩ := h
          rw [callArgs_eq he] at h0
          refine .lent (is := is) (r := v) (by rw [← he.2.1]; exact h0) (hk _ _ _ _ h1 _ (he.put _ _))
        · exact h.elim
      · exact h.elim
    · rename_i id hf
      simp only [hf]
      have e : args.toList.map (aopd S.env) = callArgs T.env [] args [] := by
        rw [← callArgs_eq he]; simp
      rw [e] at h
      have := hX.yld h T.env (fun r S' => K (putV S' o.dst r)) (fun r H' nx' τ' h2 => hk _ _ _ _ h2 _ ((he.heap _ _).put _ _))
      rw [he.2.1, he.2.2] at this
      exact this
    · exact h.elim
  · exact h.elim
theorem vOp1_sound {X : VX} (hX : VXOk P X) (hn : g.n = n) {o : SOp} {S T : St} (he : EEq S T) (hd : dstB n o.dst = true) {τ : Tp} {K0 : St → Tp → Prop} (h : vOp1 P X o S τ K0) {K : St → Prop} (hk : ∀ S' τ', K0 S' τ' → ∀ S'', EEq S' S'' → K S'') : AOp P g o T K := by
  unfold vOp1 at h
  simp only [aopdR_eq] at h
  split at h
  · rename_i p hp
    exact vSpec_op hn he hd hp h fun v r h0 S'' h'' => hk _ _ h0 _ h''
  · split at h
    · rename_i v ups hout
      simp only [upR_eq] at h
      refine ⟨dstB_ok hn hd, ?_⟩
      rw [← he.opd, ← he.2.1, ← he.2.2]
      rw [hout]
      refine hk _ _ h _ ?_
      have key : ∀ m, EEq (putR ⟨S.env, upH S.H ups, m⟩ o.dst v) (putOut T o.dst ⟨v, ups⟩ m) := fun m => by
        have := EEq.put (S := ⟨S.env, upH S.H ups, m⟩) (T := ⟨T.env, upH S.H ups, m⟩) ⟨he.1, rfl, rfl⟩ o.dst v
        unfold putOut
        rw [← he.2.1]
        exact this
      exact key _
    · rename_i hout
      exact vCall_sound hX he hout (dstB_ok hn hd) h fun v H nx r h1 S'' h'' => hk _ _ h1 _ h''
theorem vOp_sound {X : VX} (hX : VXOk P X) (hn : g.n = n) {o : SOp} {S T : St} (he : EEq S T) {τ : Tp} {K0 : St → Tp → Prop} (h : vOp P X n o S τ K0) {K : St → Prop} (hk : ∀ S' τ', K0 S' τ' → ∀ S'', EEq S' S'' → K S'') : AOp P g o T K := by
  unfold vOp at h
  simp only [aopdR_eq] at h
  split at h
  · exact h.elim
  · rename_i hd
    split at h
    · rename_i t v ups r
      split at h
      · obtain ⟨hout, h⟩ := h
        simp only [fSp_eq, fNat_eq] at h
        refine ⟨dstB_ok hn hd, ?_⟩
        rw [← he.opd, ← he.2.1, ← he.2.2]
        rw [hout]
        refine hk _ _ h _ ?_
        have key : ∀ m, EEq (putR ⟨S.env, upH S.H ups, m⟩ o.dst v) (putOut T o.dst ⟨v, ups⟩ m) := fun m => by
          have := EEq.put (S := ⟨S.env, upH S.H ups, m⟩) (T := ⟨T.env, upH S.H ups, m⟩) ⟨he.1, rfl, rfl⟩ o.dst v
          unfold putOut
          rw [← he.2.1]
          exact this
        exact key _
      · exact vOp1_sound hX hn he hd h hk
    · exact vOp1_sound hX hn he hd h hk
theorem vOps_sound {X : VX} (hX : VXOk P X) (hn : g.n = n) : ∀ (os : List SOp) (S T : St) (τ : Tp) (K0 : St → Tp → Prop), vOps P X n os S τ K0 → EEq S T → ∀ {K : St → Prop}, (∀ S' τ', K0 S' τ' → ∀ S'', EEq S' S'' → K S'') → AOps P g os T K := by
  intro os
  induction os with
  | nil => intro S T τ K0 h he K hk; exact hk _ _ h _ he
  | cons o os ih =>
    intro S T τ K0 h he K hk
    unfold vOps at h
    unfold AOps
    simp only [elookR_eq] at h
    have one : ∀ S T0 τ, EEq S T0 → (vOp P X n o S τ fun S' τ' => vOps P X n os S' τ' K0) → AOp P g o T0 fun S1 => AOps P g os S1 K := fun S T0 τ he0 h0 =>
      vOp_sound hX hn he0 h0 fun S' τ' h1 S'' h'' => ih _ _ _ _ h1 h'' hk
    have skip : ∀ S T0 τ, EEq S T0 → (match dstB n o.dst with | true => vOps P X n os (putR S o.dst .undef) τ K0 | false => False) → dstOk g o.dst ∧ AOps P g os (putV T0 o.dst .undef) K := by
      intro S T0 τ he0 h0
      split at h0
      · rename_i hd; exact ⟨dstB_ok hn hd, ih _ _ _ _ h0 (he0.put _ _) hk⟩
      · exact h0.elim
    split at h
    · rename_i hg; rw [hg]; exact one _ _ _ he h
    · rename_i t want hg
      rw [hg]
      simp only []
      rw [← he.1]
      split at h
      · rename_i b hb
        rw [hb]
        simp only []
        obtain ⟨τ', h⟩ := vGd_out h
        refine ⟨fun e => ?_, fun e => ?_⟩
        · rw [e] at h; simp only [beq_self_eq_true] at h; exact one _ _ _ (he.setB2 _ _) h
        · have : (b == want) = false := by rw [e]; cases want <;> rfl
          rw [this] at h
          rw [e] at h
          exact skip _ _ _ (he.setB2 _ _) h
      · rename_i hb
        rw [hb]
        exact skip _ _ _ he h
      · exact h.elim
    · rename_i want hg
      rw [hg]
      exact skip _ _ _ he h

theorem vSpec_dop (hn : g.n = n) {base i : Nat} {o : SOp} {S T : St} (he : EEq S T) (hd : dstB n o.dst = true) {τ : Tp} {K0 : AV → Tp → Prop} {p : Prop} (h : vSpec P o.op (aopd S.env) τ K0 = some p) (hp : p) {K : Eff → FP → Prop}
    (hk : ∀ v r, K0 v r → K ⟨v, []⟩ ⟨i, tmpsOf o, areads o.op (aopd S.env), o.dst, []⟩) : DOp P g base i o T K := by
  unfold vSpec at h
  refine ⟨dstB_ok hn hd, ?_⟩
  rw [← he.opd]
  split at h
  · rename_i t x i hop
    split at h <;> try (cases h; done)
    rename_i esz xs hx
    split at h <;> try (cases h; done)
    rename_i k j hi
    split at h <;> try (cases h; done)
    rename_i c r
    split at h <;> try (cases h; done)
    rename_i Tt hT
    split at h <;> try (cases h; done)
    rename_i e htd
    split at h <;> try (cases h; done)
    rename_i E hE
    split at h <;> try (cases h; done)
    rename_i hsz
    cases h
    obtain ⟨⟨h0, h1⟩, h2⟩ := hp
    have hv : ∀ m, aval P o.op (aopd S.env) (hget T.H) m = some ⟨.cptr c, []⟩ := by
      intro m
      rw [hop]
      simp only [aval, aindexAddr, hx, hi, hT, htd, hE, if_pos hsz, elemAt, if_pos h0, h1, Option.map_some]
    rw [hv]
    exact hk _ _ h2
  · rename_i t x y t' hop
    split at h <;> try (cases h; done)
    rename_i k a hx
    split at h <;> try (cases h; done)
    rename_i k' b hy
    split at h <;> try (cases h; done)
    rename_i r
    split at h <;> try (cases h; done)
    rename_i hkk
    cases h
    obtain ⟨h0, h2⟩ := hp
    have hv : ∀ m, aval P o.op (aopd S.env) (hget T.H) m = some ⟨.int k (k.wrap (a.tdiv b)), []⟩ := by
      intro m
      rw [hop]
      simp only [aval, abin, hx, hy, if_pos hkk, abinInt, if_neg h0, Option.map_some]
    rw [hv]
    exact hk _ _ h2
  · rename_i t x y t' hop
    split at h <;> try (cases h; done)
    rename_i k a hx
    split at h <;> try (cases h; done)
    rename_i k' b hy
    split at h <;> try (cases h; done)
    rename_i r
    split at h <;> try (cases h; done)
    rename_i hkk
    cases h
    obtain ⟨h0, h2⟩ := hp
    have hv : ∀ m, aval P o.op (aopd S.env) (hget T.H) m = some ⟨.int k (a.tmod b), []⟩ := by
      intro m
      rw [hop]
      simp only [aval, abin, hx, hy, if_pos hkk, abinInt, if_neg h0, Option.map_some]
    rw [hv]
    exact hk _ _ h2
  · rename_i f args ts hop
    split at h <;> try (cases h; done)
    rename_i fid first captured hf
    split at h <;> try (cases h; done)
    rename_i v r
    split at h <;> try (cases h; done)
    rename_i hok
    cases h
    simp only [Bool.and_eq_true] at hok
    obtain ⟨h0, h2⟩ := hp
    have hv : ∀ m, aval P o.op (aopd S.env) (hget T.H) m = none := by intro m; rw [hop]; rfl
    rw [hv]
    have hk' := hk _ _ h2
    simp only [hop] at hk' ⊢
    simp only [hf]
    have e := callArgs_eq he first args captured
    rw [e] at h0
    have hok2 := hok.2
    rw [e] at hok2
    exact ⟨hok.1, v, [], ⟨_, thawL_of_ok hok2, .inl ⟨h0, .inl ⟨rfl, rfl⟩⟩⟩, hk'⟩
  · cases h

theorem vDOp1_sound (hn : g.n = n) {base i : Nat} {o : SOp} {S T : St} (he : EEq S T) (hd : dstB n o.dst = true) {τ : Tp} {K0 : St → FP → Tp → Prop} (h : vDOp1 P base i o S τ K0) {K : Eff → FP → Prop}
    (hk : ∀ (e : Eff) f S' τ', K0 S' f τ' → EEq S' (app T o.dst e) → K e f) : DOp P g base i o T K := by
  unfold vDOp1 at h
  simp only [aopdR_eq] at h
  have key : ∀ e : Eff, EEq (putR ⟨S.env, upH S.H e.ups, S.nx⟩ o.dst e.v) (app T o.dst e) := fun e => by
    have := EEq.put (S := ⟨S.env, upH S.H e.ups, S.nx⟩) (T := ⟨T.env, upH S.H e.ups, S.nx⟩) ⟨he.1, rfl, rfl⟩ o.dst e.v
    unfold app
    rw [← he.2.1, ← he.2.2]
    exact this
  split at h
  · rename_i p hp
    exact vSpec_dop hn he hd hp h fun v r h0 => hk ⟨v, []⟩ _ _ _ h0 (key ⟨v, []⟩)
  · split at h
    · rename_i v ups hout
      refine ⟨dstB_ok hn hd, ?_⟩
      rw [← he.opd, ← he.2.1]
      simp only [upR_eq] at h
      rw [hout]
      exact hk ⟨v, ups⟩ _ _ _ h (key ⟨v, ups⟩)
    · rename_i hout
      refine ⟨dstB_ok hn hd, ?_⟩
      rw [← he.opd, ← he.2.1, hout]
      simp only []
      unfold vDCall at h
      simp only [aopdR_eq] at h
      split at h
      · rename_i f args ts hop
        simp only [hop]
        split at h
        · rename_i fid first captured hf
          simp only [hf]
          split at h
          · rename_i hfn
            refine ⟨hfn, ?_⟩
            split at h
            · obtain ⟨h0, h1⟩ := h
              rw [callArgs_eq he] at h0
              exact ⟨_, _, h0, by simpa only [hop] using hk ⟨_, []⟩ _ _ _ h1 (key ⟨_, []⟩)⟩
            · exact h.elim
          · exact h.elim
        · exact h.elim
      · exact h.elim
theorem vDOp_sound (hn : g.n = n) {base i : Nat} {o : SOp} {S T : St} (he : EEq S T) {τ : Tp} {K0 : St → FP → Tp → Prop} (h : vDOp P n base i o S τ K0) {K : Eff → FP → Prop}
    (hk : ∀ (e : Eff) f S' τ', K0 S' f τ' → EEq S' (app T o.dst e) → K e f) : DOp P g base i o T K := by
  unfold vDOp at h
  simp only [aopdR_eq] at h
  have key : ∀ e : Eff, EEq (putR ⟨S.env, upH S.H e.ups, S.nx⟩ o.dst e.v) (app T o.dst e) := fun e => by
    have := EEq.put (S := ⟨S.env, upH S.H e.ups, S.nx⟩) (T := ⟨T.env, upH S.H e.ups, S.nx⟩) ⟨he.1, rfl, rfl⟩ o.dst e.v
    unfold app
    rw [← he.2.1, ← he.2.2]
    exact this
  split at h
  · exact h.elim
  · rename_i hd
    split at h
    · rename_i t v ups r
      split at h
      · obtain ⟨hout, h⟩ := h
        refine ⟨dstB_ok hn hd, ?_⟩
        rw [← he.opd, ← he.2.1]
        simp only [fSp_eq] at h
        rw [hout]
        exact hk ⟨v, ups⟩ _ _ _ h (key ⟨v, ups⟩)
      · exact vDOp1_sound hn he hd h hk
    · exact vDOp1_sound hn he hd h hk
theorem vDOps_sound (hn : g.n = n) {base : Nat} : ∀ (os : List SOp) (i : Nat) (S T : St) (fs : List FP) (τ : Tp) (K0 : St → List FP → Tp → Prop), vDOps P n base i os S fs τ K0 → EEq S T → ∀ {K : St → List FP → Prop},
    (∀ S' fs' τ', K0 S' fs' τ' → ∀ S'', EEq S' S'' → K S'' fs') → DOps P g base i os T fs K := by
  intro os
  induction os with
  | nil => intro i S T fs τ K0 h he K hk; exact hk _ _ _ h _ he
  | cons o os ih =>
    intro i S T fs τ K0 h he K hk
    unfold vDOps at h
    unfold DOps
    simp only [elookR_eq] at h
    have one : ∀ S T0 τ, EEq S T0 → (vDOp P n base i o S τ fun S' f τ' => vDOps P n base (i + 1) os S' (fs ++ [f]) τ' K0) → DOp P g base i o T0 fun e f => DOps P g base (i + 1) os (app T0 o.dst e) (fs ++ [f]) K := fun S T0 τ he0 h0 =>
      vDOp_sound hn he0 h0 fun e f S' τ' h1 h'' => ih _ _ _ _ _ _ h1 h'' hk
    have skip : ∀ S T0 τ, EEq S T0 → (match dstB n o.dst with | true => vDOps P n base (i + 1) os (putR S o.dst .undef) (fs ++ [⟨i, tmpsOf o, [], o.dst, []⟩]) τ K0 | false => False) →
        dstOk g o.dst ∧ DOps P g base (i + 1) os (app T0 o.dst ⟨.undef, []⟩) (fs ++ [⟨i, tmpsOf o, [], o.dst, []⟩]) K := by
      intro S T0 τ he0 h0
      split at h0
      · rename_i hd; exact ⟨dstB_ok hn hd, ih _ _ _ _ _ _ h0 (he0.put _ _) hk⟩
      · exact h0.elim
    split at h
    · rename_i hg; rw [hg]; exact one _ _ _ he h
    · rename_i t want hg
      rw [hg]
      simp only []
      rw [← he.1]
      split at h
      · rename_i b hb
        rw [hb]
        simp only []
        obtain ⟨τ', h⟩ := vGd_out h
        refine ⟨fun e => ?_, fun e => ?_⟩
        · rw [e] at h; simp only [beq_self_eq_true] at h; exact one _ _ _ (he.setB2 _ _) h
        · have : (b == want) = false := by rw [e]; cases want <;> rfl
          rw [this] at h
          rw [e] at h
          exact skip _ _ _ (he.setB2 _ _) h
      · rename_i hb
        rw [hb]
        exact skip _ _ _ he h
      · exact h.elim
    · rename_i want hg
      rw [hg]
      exact skip _ _ _ he h

theorem vCode_sound {X : VX} (hX : VXOk P X) {rid ro : Option Nat} (hn : g.n = n) (hlow : g.low nx0) (hrid : RidOk rid ro g) : ∀ (c : Code) (S : St) (τ : Tp) (K : AX → St → Tp → Prop), vCode P X n nx0 rid c S τ K → ∀ {Q : AX → St → Prop}, (∀ x S' τ', K x S' τ' → ∀ S'', EEq S' S'' → Q x S'') → ACode P ro g c Q S := by
  intro c
  induction c with
  | skip => intro S τ K h Q hq; exact acode_skip (hq _ _ _ h _ (.refl _))
  | label l => intro S τ K h Q hq; exact acode_label (hq _ _ _ h _ (.refl _))
  | exit i => intro S τ K h Q hq; exact acode_exit (hq _ _ _ h _ (.refl _))
  | goto i => intro S τ K h Q hq; exact acode_goto (hq _ _ _ h _ (.refl _))
  | ret => intro S τ K h Q hq; exact acode_ret (hq _ _ _ h _ (.refl _))
  | region id ops d =>
    intro S τ K h Q hq
    cases d with
    | false =>
      simp only [vCode] at h
      exact acode_region (vOps_sound hX hn _ _ _ _ _ h (.refl _) fun S' τ' h1 S'' h'' => hq _ _ _ h1 _ h'')
    | true =>
      simp only [vCode] at h
      split at h <;> try (exact h.elim)
      obtain ⟨hd, hm, hk, h⟩ := h
      subst hk
      simp only [drawOk, Bool.and_eq_true, decide_eq_true_eq] at hd
      exact acode_draw_tail hm hd.1.1 _ hd.1.2 hd.2 (vDOps_sound hn _ _ _ _ _ _ _ h (.refl _) fun S' fs' τ' h1 S'' h'' =>
        ⟨h1.1, vOps_sound hX hn _ _ _ _ _ h1.2 h'' fun S3 τ3 h3 S4 h4 => hq _ _ _ h3 _ h4⟩)
  | seq a b iha ihb =>
    intro S τ K h Q hq
    simp only [vCode] at h
    refine acode_seq (iha _ _ _ h fun x S' τ' h1 S'' h'' => ?_)
    cases x with
    | norm => exact (ihb _ _ _ h1 hq).congr h''
    | _ => exact hq _ _ _ h1 _ h''
  | cond c a b iha ihb =>
    intro S τ K h Q hq
    simp only [vCode, aopdR_eq] at h
    split at h
    · rename_i v hc
      obtain ⟨τ', h⟩ := vGd_out h
      exact acode_cond hc (fun e => by subst e; exact iha _ _ _ h hq) (fun e => by subst e; exact ihb _ _ _ h hq)
    · exact h.elim
  | block id c ih =>
    intro S τ K h Q hq
    simp only [vCode] at h
    refine acode_block (ih _ _ _ h fun x S' τ' h1 S'' h'' => ?_)
    cases x with
    | exit i =>
      simp only [AX.inBlock]
      simp only [] at h1
      split
      · rename_i e; rw [if_pos e] at h1; exact hq _ _ _ h1 _ h''
      · rename_i e; rw [if_neg e] at h1; exact hq _ _ _ h1 _ h''
    | _ => exact hq _ _ _ h1 _ h''
  | loop c ih =>
    intro S τ K h Q hq
    simp only [vCode] at h
    split at h
    · cases rid with
      | none =>
        have hro : ro = none := hrid
        subst hro
        have h' : ∀ g : G, g.n = n → g.low nx0 → ACode P none g (.loop c) (ECl fun x S' => ∃ r, K x S' r) S := h
        exact ACode.mono (h' g hn hlow) fun x S' ⟨_, he, _, h1⟩ => hq _ _ _ h1 _ he
      | some i =>
        obtain ⟨l, rfl, hk⟩ := hrid
        have h' : ∀ (g : G) (l : Nat), g.n = n → g.low nx0 → g.κ0 i = some l → ACode P (some l) g (.loop c) (ECl fun x S' => ∃ r, K x S' r) S := h
        exact ACode.mono (h' g l hn hlow hk) fun x S' ⟨_, he, _, h1⟩ => hq _ _ _ h1 _ he
    · exact h.elim
  | rangeFunc f ps assign body _ _ =>
    intro S τ K h Q hq
    simp only [vCode, aopdR_eq] at h
    split at h
    · rename_i hb
      split at h
      · rename_i fid first captured hf
        split at h
        · rename_i hfn
          split at h
          · rename_i fn r
            obtain ⟨h0, h1⟩ := h
            subst hn
            refine acode_rangeFunc hf hfn (hrid.inRound hb) ((hX.call h1 h0).mono fun r0 H0 nx1 ⟨τ', h⟩ => ?_)
            split at h
            · rename_i L' hL'
              refine ⟨L', hL', ?_⟩
              split at h
              · exact h.elim
              · rename_i hpd hst; exact ⟨fun e => hst e, by rw [hpd]; exact hq _ _ _ h _ (.refl _)⟩
              · rename_i hpd hst; exact ⟨fun e => hst e, by rw [hpd]; exact acode_ret (hq _ _ _ h _ (.refl _))⟩
              · rename_i hpd hst; exact ⟨fun e => hst e, by rw [hpd]; exact acode_exit (hq _ _ _ h _ (.refl _))⟩
              · rename_i hpd hst; exact ⟨fun e => hst e, by rw [hpd]; exact acode_goto (hq _ _ _ h _ (.refl _))⟩
              · exact h.elim
            · exact h.elim
          · exact h.elim
        · exact h.elim
      · exact h.elim
    · exact h.elim
  | scope c ih =>
    intro S τ K h Q hq
    simp only [vCode] at h
    split at h
    · have hro : ro = none := hrid
      subst hro
      refine acode_scope (ih _ _ _ h fun x S' τ' h1 S'' h'' => ?_)
      cases x with
      | goto l => exact h1.elim
      | _ => exact hq _ _ _ h1 _ h''
    · exact h.elim
  | refuse w => intro S τ K h; exact h.elim

theorem ares_eeq {S S' : St} (he : EEq S S') (l : List ResultVar) : ares P S' l = ares P S l := by
  have hares : ∀ l, aresL P S' l = aresL P S l := by
    intro l
    induction l with
    | nil => rfl
    | cons x l ihl =>
      have h1 : ares1 P S' x = ares1 P S x := by cases x <;> simp only [ares1, he.1, he.2.1]
      simp only [aresL, h1, ihl]
  unfold ares; rw [hares]
theorem vx_ok (P : Program) : ∀ k, VXOk P (vx P k) := by
  intro k
  induction k with
  | zero => exact ⟨fun h => h.elim, fun h => h.elim⟩
  | succ k ih =>
    refine ⟨?_, ?_⟩
    · intro fn args H nx τ K h f hf
      simp only [vx, vFn] at h
      split at h
      · rename_i c hc
        refine RangeOk.enter hf hc fun g hg hlow => ?_
        refine vCode_sound (rid := none) (ro := none) ih hg hlow rfl _ _ _ _ h fun x S' τ' h1 S'' he => ?_
        have fin : (match ares P S' fn.results.toList with | some r => K r S'.H S'.nx τ' | none => False) → ∃ r, ares P S'' fn.results.toList = some r ∧ ∃ τ', K r S''.H S''.nx τ' := fun h2 => by
          rw [ares_eeq he, ← he.2.1, ← he.2.2]
          split at h2
          · rename_i r hr; exact ⟨r, hr, _, h2⟩
          · exact h2.elim
        cases x with
        | norm => exact ⟨trivial, fin h1⟩
        | ret => exact ⟨trivial, fin h1⟩
        | _ => exact h1.elim
      · exact h.elim
    · intro id args H nx τ K h env K' hK
      simp only [vx, vRound] at h
      split at h
      · rename_i L hL
        split at h
        · rename_i hst
          split at h
          · rename_i hc
            simp only [Bool.and_eq_true] at hc
            refine ⟨L, hL, hst, Nat.eq_of_beq_eq_true hc.1, hc.2, fun g' l e1 e2 e3 => ?_⟩
            refine vCode_sound (rid := some id) (ro := some l) ih e1 e2 ⟨l, rfl, e3⟩ _ _ _ _ h fun x S1 τ1 h1 S1' he1 => ?_
            cases x with
            | norm =>
              simp only [] at h1
              split at h1
              · rename_i L1 hL1
                split at h1
                · rename_i hst1
                  refine ⟨L1, by rw [← he1.2.1]; exact hL1, hst1, ?_⟩
                  refine ACode.congr (S := ⟨S1.env, hset S1.H id (.loop { L1 with state := .busy }), S1.nx⟩) ?_ ⟨he1.1, by rw [he1.2.1], he1.2.2⟩
                  refine vCode_sound (rid := some id) (ro := some l) ih e1 e2 ⟨l, rfl, e3⟩ _ _ _ _ h1 fun x S2 τ2 h2 S2' he2 => ?_
                  split at h2
                  · rename_i L2 hL2
                    refine ⟨L2, by rw [← he2.2.1]; exact hL2, ?_⟩
                    rw [← he2.2.1, ← he2.2.2]
                    cases x <;> exact hK _ _ _ _ h2
                  · exact h2.elim
                · exact h1.elim
              · exact h1.elim
            | _ => exact h1.elim
          · exact h.elim
        · exact h.elim
      · exact h.elim

/-- What holds of a state holds of one that holds the same. -/
def EClosed (Q : AX → St → Prop) : Prop := ∀ x S S', EEq S S' → Q x S → Q x S'
theorem EClosed.cl {Q : AX → St → Prop} : EClosed (ECl Q) := fun _ _ _ he ⟨S0, h0, h⟩ => ⟨S0, ⟨h0.1.trans he.1, h0.2.1.trans he.2.1, h0.2.2.trans he.2.2⟩, h⟩
theorem EClosed.ret {fn : Func} {r : AV} : EClosed (Ret P fn r) := fun x S S' he h => by
  refine ⟨h.1, ?_⟩
  rw [← h.2]
  have hares : ∀ l, aresL P S' l = aresL P S l := by
    intro l
    induction l with
    | nil => rfl
    | cons x l ihl =>
      have h1 : ares1 P S' x = ares1 P S x := by cases x <;> simp only [ares1, he.1, he.2.1]
      simp only [aresL, h1, ihl]
  unfold ares; rw [hares]
theorem St.le.congr {A S S' : St} (h : A.le S) (he : EEq S S') : A.le S' := by
  obtain ⟨h1, h2, h3, h4⟩ := h
  exact ⟨fun t => by rw [← congrFun he.1 t]; exact h1 t, fun id o ho => by rw [← he.2.1]; exact h2 id o ho, h3, h4⟩
theorem EClosed.round {ι : Type} {st : ι → St} {I : ι → Prop} {μ : ι → Nat} {i : ι} {Q : AX → St → Prop} (hq : EClosed Q) : EClosed (AX.then (RoundEnd st I μ i) Q) := fun x S S' he h => by
  cases x with
  | norm => obtain ⟨j, h1, h2, h3⟩ := h; exact ⟨j, h1, h2, h3.congr he⟩
  | _ => exact hq _ _ _ he h

theorem ACode.vcR {rid ro : Option Nat} (d : Nat) (τ : Tp) {c : Code} {S : St} {Q : AX → St → Prop} (hn : g.n = n) (hlow : g.low nx0) (hrid : RidOk rid ro g) (hQ : EClosed Q) (h : vCode P (vx P d) n nx0 rid c S τ fun x S' _ => Q x S') : ACode P ro g c Q S :=
  vCode_sound (vx_ok P d) hn hlow hrid c S τ _ h fun x S' _ h1 S'' h'' => hQ x S' S'' h'' h1
theorem ACode.vc (τ : Tp) {c : Code} {S : St} {Q : AX → St → Prop} (hn : g.n = n) (hlow : g.low nx0) (hQ : EClosed Q) (h : vCode P (vx P 4) n nx0 none c S τ fun x S' _ => Q x S') : ACode P none g c Q S :=
  .vcR (rid := none) (ro := none) 4 τ hn hlow rfl hQ h
theorem APure.vc {f : FuncId} {fn : Func} {c : Code} {args : List AV} {r : AV} (hf : P.funcs[f]? = some fn) (hb : fn.body = some c) (τ : Tp) (ha : okL 0 args = true) (hr : r.ok 0 = true)
    (h : vCode P (vx P 4) (args.length + (fn.ntmps - args.length)) 0 none c ⟨env0 0 args, [], 0⟩ τ fun x S' _ => Ret P fn r x S') : APure P f args r :=
  .intro hf hb ha hr fun _ hn hl => .vc τ hn hl .ret h
/-- A function whose answer is let go of: what it owns at the end is no more changed. -/
theorem APure.vcT {f : FuncId} {fn : Func} {args : List AV} {r : AV} (hf : P.funcs[f]? = some fn) (τ : Tp) (ha : okL 0 args = true) (hr : r.ok 0 = true)
    (h : vFn P (vx P 4) fn args [] 0 τ fun r0 H' _ _ => ∃ is, thaw 8 (hget H') r0 = some (r, is)) : APure P f args r := by
  have h' : (vx P (4 + 1)).call fn args [] 0 τ (fun r0 H' _ _ => ∃ is, thaw 8 (hget H') r0 = some (r, is)) := h
  exact .range ha hr (((vx_ok P (4 + 1)).call h' hf).mono fun _ _ _ ⟨_, h⟩ => h)
theorem APureF.vc {f : FuncId} {fn : Func} {args : List AV} {r : AV} (hf : P.funcs[f]? = some fn) (τ : Tp) (ha : okL 0 args = true) (hr : r.ok 0 = true)
    (h : vFn P (vx P 4) fn args [] 0 τ fun r0 H' _ _ => ∃ is, thawF 8 (hget H') r0 = some (r, is)) : APureF P f args r := by
  have h' : (vx P (4 + 1)).call fn args [] 0 τ (fun r0 H' _ _ => ∃ is, thawF 8 (hget H') r0 = some (r, is)) := h
  exact .range ha hr (((vx_ok P (4 + 1)).call h' hf).mono fun _ _ _ ⟨_, h⟩ => h)
end
end Go.Am

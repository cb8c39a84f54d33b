import Derived.Test.YticiopkiikcokaaN10b
/-
  A REGION WHOSE ORDER GO LEAVES OPEN: one run in the text's order serves every order, where no operation reads or writes what another one writes, unless their order is laid down.
-/
namespace Go.Am

/-- The numbers whose objects an operation looks at. -/
def idOf : AV → List Nat
  | .vptr i _ => [i]
  | .rsl i _ _ _ => [i]
  | .mref i => [i]
  | _ => []
def areads (o : Op) (ρ : Operand → AV) : List Nat :=
  match o with
  | .load _ a => idOf (ρ a)
  | .store _ a _ => idOf (ρ a)
  | .slice _ x _ _ _ => idOf (ρ x)
  | .lookup _ x _ _ => idOf (ρ x)
  | .mapUpdate _ x _ _ => idOf (ρ x)
  | .insert _ x _ _ => idOf (ρ x)
  | .call { callee := .builtin _, args := args, argTypes := _ } => args.toList.flatMap fun x => idOf (ρ x)
  | _ => []

def tmpsL : List Operand → List Nat
  | [] => []
  | .tmp t :: r => t :: tmpsL r
  | .const _ :: r => tmpsL r
  | .global _ :: r => tmpsL r
  | .func _ :: r => tmpsL r
theorem mem_tmpsL {t : Nat} : ∀ {l : List Operand}, .tmp t ∈ l → t ∈ tmpsL l := by
  intro l
  induction l with
  | nil => intro h; cases h
  | cons x l ih =>
    intro h
    rcases List.mem_cons.1 h with e | e
    · subst e; exact List.mem_cons_self
    · cases x <;> simp only [tmpsL] <;> first | exact List.mem_cons_of_mem _ (ih e) | exact ih e
def tmpsOf (o : SOp) : List Nat :=
  tmpsL o.op.operands.toList ++ (match o.gd with | some (some t, _) => [t] | _ => [])

structure FP where
  i : Nat
  tr : List Nat
  hr : List Nat
  tw : Option Nat
  hw : List Nat
structure Eff where
  v : AV
  ups : List (Nat × Option AObj)
structure Item where
  i : Nat
  so : SOp
  fp : FP
  e : Eff
  act : Bool

def app (S : St) (d : Option Tmp) (e : Eff) : St :=
  ⟨(match d with | some d => (d, e.v) :: S.env | none => S.env), upH S.H e.ups, S.nx⟩

def SEq (S S' : St) : Prop := (∀ t, elook S.env t = elook S'.env t) ∧ (∀ id, hget S.H id = hget S'.H id) ∧ S.nx = S'.nx
theorem SEq.refl (S : St) : SEq S S := ⟨fun _ => rfl, fun _ => rfl, rfl⟩

theorem Rel.congr {g : G} {κ : Nat → Option Nat} {S S' : St} {a : Act} {w : World} (h : Rel g κ S a w) (he : SEq S S') : Rel g κ S' a w := by
  obtain ⟨h1, h2, h3⟩ := he
  have hown : owned κ S'.H = owned κ S.H := by funext b; unfold owned; simp only [h2]
  have hav : avoid κ g.N S'.H = avoid κ g.N S.H := by funext b; unfold avoid; rw [hown]
  refine ⟨⟨fun id o ho => by rw [hav]; exact h.h.rel id o (by rw [h2]; exact ho), fun id id' b o o' ho ho' => h.h.inj id id' b o o' (by rw [h2]; exact ho) (by rw [h2]; exact ho'), h.h.bd, h.h.Nbd, fun b hb => by rw [hown]; exact h.h.NH b hb⟩,
    fun id hid => ⟨(h.fresh id (by rw [h3]; exact hid)).1, by rw [← h2]; exact (h.fresh id (by rw [h3]; exact hid)).2⟩, h.sz, fun t => by rw [hav, ← h1]; exact h.env t, h.ext, h.wle, h.same, fun b hb => h.new b (by rw [← hown]; exact hb), by
      obtain ⟨ms, m1, m2, m3⟩ := h.defs
      exact ⟨ms, m1, m2, fun r hr => by rw [hown]; exact m3 r hr⟩⟩

section
variable (P : Program) (g : G) (base : Nat)

/-- The effect of an operation that is carried out. -/
def Acts (i : Nat) (o : SOp) (S : St) (e : Eff) (hr : List Nat) : Prop :=
  dstOk g o.dst ∧
  ((∃ out, aval P o.op (aopd S.env) (hget S.H) (base + i) = some out ∧ hr = areads o.op (aopd S.env) ∧ e = ⟨out.v, out.ups⟩) ∨
   ∃ f args ts fid first captured r is, o.op = .call { callee := .value f, args := args, argTypes := ts } ∧ aopd S.env f = .fn (.func fid) first captured ∧ isFn P fid = true ∧
     Lent P (hget S.H) fid (callArgs S.env first args captured) r is ∧ hr = is ∧ e = ⟨r, []⟩)
def Does (i : Nat) (o : SOp) (S : St) (e : Eff) (hr : List Nat) (act : Bool) : Prop :=
  if act = true then
    (match o.gd with
    | none => True
    | some (some t, want) => elook S.env t = .bool want
    | some (none, _) => False) ∧ Acts P g base i o S e hr
  else
    (match o.gd with
    | none => False
    | some (some t, want) => elook S.env t = .bool (!want) ∨ elook S.env t = .undef
    | some (none, _) => True) ∧ dstOk g o.dst ∧ e = ⟨.undef, []⟩

/-- A call within such a region. -/
def CallP (h : Nat → Option AObj) (f : FuncId) (args : List AV) (K : AV → List Nat → Prop) : Prop := ∃ r is, Lent P h f args r is ∧ K r is
/-- The walk in the text's order. -/
def DOp (i : Nat) (o : SOp) (S : St) (K : Eff → FP → Prop) : Prop :=
  dstOk g o.dst ∧
  match aval P o.op (aopd S.env) (hget S.H) (base + i) with
  | some out => K ⟨out.v, out.ups⟩ ⟨i, tmpsOf o, areads o.op (aopd S.env), o.dst, out.ups.map (·.1)⟩
  | none =>
    match o.op with
    | .call { callee := .value f, args := args, argTypes := _ } =>
      (match aopd S.env f with
      | .fn (.func fid) first captured => isFn P fid = true ∧ CallP P (hget S.H) fid (callArgs S.env first args captured) fun r is => K ⟨r, []⟩ ⟨i, tmpsOf o, is, o.dst, []⟩
      | _ => False)
    | _ => False
def DOps : Nat → List SOp → St → List FP → (St → List FP → Prop) → Prop
  | _, [], S, fs, K => K S fs
  | i, o :: r, S, fs, K =>
    match o.gd with
    | none => DOp P g base i o S fun e f => DOps (i + 1) r (app S o.dst e) (fs ++ [f]) K
    | some (some t, want) =>
      (match elook S.env t with
      | .bool b => (b = want → DOp P g base i o (setB S t want) fun e f => DOps (i + 1) r (app (setB S t want) o.dst e) (fs ++ [f]) K) ∧
          (b = !want → dstOk g o.dst ∧ DOps (i + 1) r (app (setB S t !want) o.dst ⟨.undef, []⟩) (fs ++ [⟨i, tmpsOf o, [], o.dst, []⟩]) K)
      | .undef => dstOk g o.dst ∧ DOps (i + 1) r (app S o.dst ⟨.undef, []⟩) (fs ++ [⟨i, tmpsOf o, [], o.dst, []⟩]) K
      | _ => False)
    | some (none, _) => dstOk g o.dst ∧ DOps (i + 1) r (app S o.dst ⟨.undef, []⟩) (fs ++ [⟨i, tmpsOf o, [], o.dst, []⟩]) K
end

def disj (a b : List Nat) : Bool := a.all fun x => !b.contains x
def FP.apart (a b : FP) : Bool :=
  (match a.tw with | some d => !b.tr.contains d && b.tw != some d | none => true) && (match b.tw with | some d => !a.tr.contains d | none => true) &&
  disj a.hw (b.hr ++ b.hw) && disj b.hw a.hr
/-- Every two footprints (the later one's ancestors A) are apart or in order. -/
def indepB (A : Array Nat) : List FP → Bool
  | [] => true
  | f :: r => (r.all fun h => (A.getD h.i 0).testBit f.i || FP.apart h f) && indepB A r
/-- What is taken for an ancestor is one. -/
def closedB (ops : Array Oper) (A : Array Nat) : Bool :=
  (List.range ops.size).all fun i => (List.range ops.size).all fun j => !(A.getD i 0).testBit j ||
    match ops[i]? with
    | some o => o.after.any fun e => Region.binds .any e && (e.on == j || (decide (e.on < i) && (A.getD e.on 0).testBit j))
    | none => false
def earlierB (ops : Array Oper) : Bool :=
  (List.range ops.size).all fun i => match ops[i]? with | some o => o.after.all fun e => !Region.binds .any e || decide (e.on < i) | none => true
def drawB (ops : Array Oper) : Bool := earlierB ops && closedB ops (Region.before ops)

theorem upH_other (u : List (Nat × Option AObj)) : ∀ (H : AHeap) (id : Nat), id ∉ u.map (·.1) → hget (upH H u) id = hget H id := by
  induction u with
  | nil => intros; rfl
  | cons x u ih =>
    intro H id h
    obtain ⟨i, o⟩ := x
    simp only [List.map_cons, List.mem_cons, not_or] at h
    cases o with
    | none => simp only [upH]; rw [ih _ _ h.2, hget_herase, if_neg (Ne.symm h.1)]
    | some o => simp only [upH]; rw [ih _ _ h.2, hget_hset, if_neg (Ne.symm h.1)]
theorem upH_same (u : List (Nat × Option AObj)) : ∀ (H H' : AHeap) (id : Nat), (id ∈ u.map (·.1) ∨ hget H id = hget H' id) → hget (upH H u) id = hget (upH H' u) id := by
  induction u with
  | nil => intro H H' id h; simpa [upH] using h
  | cons x u ih =>
    intro H H' id h
    obtain ⟨i, o⟩ := x
    cases o with
    | none =>
      simp only [upH]
      refine ih _ _ id ?_
      by_cases e : i = id
      · exact .inr (by rw [hget_herase, hget_herase, if_pos e, if_pos e])
      · rcases h with h | h
        · simp only [List.map_cons, List.mem_cons] at h; exact .inl (h.resolve_left (Ne.symm e))
        · exact .inr (by rw [hget_herase, hget_herase, if_neg e, if_neg e]; exact h)
    | some o =>
      simp only [upH]
      refine ih _ _ id ?_
      by_cases e : i = id
      · exact .inr (by rw [hget_hset, hget_hset, if_pos e, if_pos e])
      · rcases h with h | h
        · simp only [List.map_cons, List.mem_cons] at h; exact .inl (h.resolve_left (Ne.symm e))
        · exact .inr (by rw [hget_hset, hget_hset, if_neg e, if_neg e]; exact h)
theorem SEq.app {S S' : St} (h : SEq S S') (d : Option Tmp) (e : Eff) : SEq (app S d e) (app S' d e) := by
  obtain ⟨h1, h2, h3⟩ := h
  refine ⟨fun t => ?_, fun id => upH_same _ _ _ _ (.inr (h2 id)), h3⟩
  cases d with
  | none => exact h1 t
  | some d => simp only [Am.app, elook]; split <;> first | rfl | exact h1 t

theorem aMapUpdate_congr {P : Program} {h h' : Nat → Option AObj} {t : TypeId} {m k x : AV} (hh : ∀ i ∈ idOf m, h i = h' i) : aMapUpdate P h t m k x = aMapUpdate P h' t m k x := by
  unfold aMapUpdate
  cases tinfo P t with
  | none => rfl
  | some T =>
    simp only []
    cases m with
    | mref i =>
      have hi := hh i (by simp [idOf])
      cases T.td <;> first | rfl | (simp only []; rw [hi])
    | _ => cases T.td <;> rfl
theorem aDelete_congr {P : Program} {h h' : Nat → Option AObj} {t : TypeId} {m k : AV} (hh : ∀ i ∈ idOf m, h i = h' i) : aDelete P h t m k = aDelete P h' t m k := by
  unfold aDelete
  cases tinfo P t with
  | none => rfl
  | some T =>
    simp only []
    cases m with
    | mref i =>
      have hi := hh i (by simp [idOf])
      cases T.td <;> first | rfl | (simp only []; rw [hi])
    | _ => cases T.td <;> rfl
theorem aval_congr {P : Program} {o : Op} {ρ ρ' : Operand → AV} {h h' : Nat → Option AObj} {id : Nat} (hρ : ∀ x ∈ o.operands, ρ x = ρ' x) (hh : ∀ i ∈ areads o ρ, h i = h' i) : aval P o ρ h id = aval P o ρ' h' id := by
  cases o <;> try rfl
  case makeMap t r => cases r <;> rfl
  case move x => simp only [aval]; rw [hρ x (by simp [Op.operands])]
  case assign x => simp only [aval]; rw [hρ x (by simp [Op.operands])]
  case pick c a b => simp only [aval]; rw [hρ c (by simp [Op.operands]), hρ a (by simp [Op.operands]), hρ b (by simp [Op.operands])]
  case box e x => simp only [aval]; rw [hρ x (by simp [Op.operands])]
  case build t ps =>
    simp only [aval]
    rw [List.map_congr_left fun p hp => by rw [hρ p.2 (by simp only [Op.operands, List.mem_toArray, List.mem_map]; exact ⟨p, hp, rfl⟩)]]
  case buildSlice t n ps =>
    simp only [aval]
    rw [List.map_congr_left fun p hp => by rw [hρ p.2 (by simp only [Op.operands, List.mem_toArray, List.mem_map]; exact ⟨p, hp, rfl⟩)]]
  case load t a =>
    simp only [aval]
    rw [← hρ a (by simp [Op.operands])]
    unfold aLoad
    simp only [areads] at hh
    cases tinfo P t with
    | none => rfl
    | some T =>
      cases hx : ρ a <;> simp only []
      rename_i i off
      rw [hh i (by rw [hx]; simp [idOf])]
  case store t a x =>
    simp only [aval]
    rw [← hρ a (by simp [Op.operands]), ← hρ x (by simp [Op.operands])]
    unfold aStore
    simp only [areads] at hh
    cases tinfo P t with
    | none => rfl
    | some T =>
      cases hc : acells (ρ x) with
      | none => cases ρ a <;> rfl
      | some xs =>
        cases hx : ρ a <;> simp only []
        rename_i i off
        rw [hh i (by rw [hx]; simp [idOf])]
  case binOp op t x y t' => simp only [aval]; rw [hρ x (by simp [Op.operands]), hρ y (by simp [Op.operands])]
  case unOp op t x => simp only [aval]; rw [hρ x (by simp [Op.operands])]
  case convert s d x => simp only [aval]; rw [hρ x (by simp [Op.operands])]
  case makeInterface t x => simp only [aval]; rw [hρ x (by simp [Op.operands])]
  case nilCheck x => simp only [aval]; rw [hρ x (by simp [Op.operands])]
  case index t x i => simp only [aval]; rw [hρ x (by simp [Op.operands]), hρ i (by simp [Op.operands])]
  case lookup t x k ok =>
    simp only [aval]
    rw [← hρ x (by simp [Op.operands]), ← hρ k (by simp [Op.operands])]
    simp only [areads] at hh
    unfold aLookup
    have hm : amap h (ρ x) = amap h' (ρ x) := by
      cases hx : ρ x <;> try rfl
      rename_i i
      unfold amap; simp only []
      rw [hh i (by rw [hx]; simp [idOf])]
    simp only [hm]
  case mapUpdate t m k x =>
    simp only [aval]
    rw [← hρ m (by simp [Op.operands]), ← hρ k (by simp [Op.operands]), ← hρ x (by simp [Op.operands])]
    simp only [areads] at hh
    exact aMapUpdate_congr hh
  case insert t m k x =>
    simp only [aval]
    rw [← hρ m (by simp [Op.operands]), ← hρ k (by simp [Op.operands]), ← hρ x (by simp [Op.operands])]
    simp only [areads] at hh
    exact aMapUpdate_congr hh
  case makeFunc f fs cs =>
    simp only [aval]
    rw [List.map_congr_left fun x hx => hρ x (by simp only [Op.operands, Array.mem_append]; exact .inl (by simpa using hx)), List.map_congr_left fun x hx => hρ x (by simp only [Op.operands, Array.mem_append]; exact .inr (by simpa using hx))]
  case fieldAddr s x f => simp only [aval]; rw [hρ x (by simp [Op.operands])]
  case field s x f => simp only [aval]; rw [hρ x (by simp [Op.operands])]
  case indexAddr t x i => simp only [aval, aindexAddr]; rw [hρ x (by simp [Op.operands]), hρ i (by simp [Op.operands])]
  case extract x i => simp only [aval]; rw [hρ x (by simp [Op.operands])]
  case slice t x lo hi mx =>
    cases mx with
    | some _ => rfl
    | none =>
      have hlo : lo.map ρ = lo.map ρ' := by
        cases lo with
        | none => rfl
        | some y => simp only [Option.map_some]; rw [hρ y (by simp [Op.operands])]
      have hhi : hi.map ρ = hi.map ρ' := by
        cases hi with
        | none => rfl
        | some y => simp only [Option.map_some]; rw [hρ y (by cases lo <;> simp [Op.operands])]
      simp only [aval]
      rw [← hlo, ← hhi, ← hρ x (by simp [Op.operands])]
      simp only [areads] at hh
      have hx : ∀ i off, ρ x = .vptr i off → h i = h' i := fun i off e => hh i (by rw [e]; simp [idOf])
      generalize ρ x = xv at hx
      cases xv with
      | vptr i off =>
        unfold aSlice
        cases tinfo P t with
        | none => rfl
        | some T =>
          cases hT : T.td <;> simp only [hT]
          rw [hx i off rfl]
      | _ =>
        unfold aSlice
        cases tinfo P t with
        | none => rfl
        | some T => cases hT : T.td <;> simp only [hT]
  case call c =>
    obtain ⟨cal, args, ts⟩ := c
    cases cal <;> simp only [aval]
    rename_i b
    have ha : args.toList.map ρ = args.toList.map ρ' := List.map_congr_left fun x hx => hρ x (by simp only [Op.operands, Call.operands, Array.mem_append]; exact .inr (by simpa using hx))
    rw [← ha]
    simp only [areads, List.mem_flatMap] at hh
    have hx : ∀ y ∈ args.toList.map ρ, ∀ i ∈ idOf y, h i = h' i := by
      intro y hy i hi
      rw [List.mem_map] at hy
      obtain ⟨x, hx, rfl⟩ := hy
      exact hh i ⟨x, hx, hi⟩
    generalize args.toList.map ρ = l at hx
    generalize ts.toList = tl
    unfold aBuiltin
    split
    · rename_i t r x
      have hx := hx x (by simp)
      congr 1
      cases x with
      | mref i =>
        unfold aLen
        cases tinfo P t with
        | none => rfl
        | some T =>
          cases hT : T.td <;> simp only [hT]
          rw [hx i (by simp [idOf])]
      | _ =>
        unfold aLen
        cases tinfo P t with
        | none => rfl
        | some T => cases hT : T.td <;> simp only [hT]
    · rename_i t u r s x
      have hs := hx s (by simp)
      have hx := hx x (by simp)
      have hsrc : ∀ n, srcCells h n x = srcCells h' n x := by
        intro n
        cases x with
        | rsl i off len esz => unfold srcCells; simp only []; rw [hx i (by simp [idOf])]
        | _ => rfl
      cases s with
      | rsl i off len esz =>
        have hi := hs i (by simp [idOf])
        unfold aAppend
        simp only [hsrc]
        rcases tinfo P t with _ | T <;> rcases tinfo P u with _ | X <;> try rfl
        simp only []
        cases T.td <;> try rfl
        cases X.td <;> try rfl
        simp only []
        rename_i e _
        rcases tinfo P e with _ | E <;> try rfl
        simp only []
        split <;> try rfl
        split <;> try rfl
        cases off <;> try rfl
        simp only []
        rw [hi]
      | _ =>
        unfold aAppend
        simp only [hsrc]
    · rfl
    · rfl
    · rename_i t r x k
      exact aDelete_congr (hx x (by simp))
    · rfl

theorem aopd_congr {env env' : Env} {o : SOp} (h : ∀ t ∈ tmpsOf o, elook env t = elook env' t) (x : Operand) (hx : x ∈ o.op.operands) : aopd env x = aopd env' x := by
  cases x with
  | tmp t =>
    refine h t ?_
    unfold tmpsOf
    exact List.mem_append_left _ (mem_tmpsL (by simpa using hx))
  | _ => rfl

theorem areads_congr {o : SOp} {env env' : Env} (ht : ∀ t ∈ tmpsOf o, elook env t = elook env' t) : areads o.op (aopd env') = areads o.op (aopd env) := by
  have hop := fun y hy => (aopd_congr ht y hy : aopd env y = aopd env' y)
  unfold areads
  split
  · rename_i t a e; rw [hop a (by rw [e]; simp [Op.operands])]
  · rename_i t a x e; rw [hop a (by rw [e]; simp [Op.operands])]
  · rename_i t a lo hi mx e; rw [hop a (by rw [e]; simp [Op.operands])]
  · rename_i t a k ok e; rw [hop a (by rw [e]; simp [Op.operands])]
  · rename_i t a k x e; rw [hop a (by rw [e]; simp [Op.operands])]
  · rename_i t a k x e; rw [hop a (by rw [e]; simp [Op.operands])]
  · rename_i b args ts e
    simp only [List.flatMap]
    rw [List.map_congr_left (g := fun y => idOf (aopd env y)) fun y hy => by rw [hop y (by rw [e]; simp only [Op.operands, Call.operands, Array.mem_append]; exact .inr (by simpa using hy))]]
  · rfl
theorem Acts.frame {P : Program} {g : G} {base i : Nat} {o : SOp} {S S' : St} {e : Eff} {hr : List Nat} (h : Acts P g base i o S e hr) (ht : ∀ t ∈ tmpsOf o, elook S.env t = elook S'.env t)
    (hh : ∀ id ∈ hr, hget S.H id = hget S'.H id) : Acts P g base i o S' e hr := by
  refine ⟨h.1, ?_⟩
  rcases h.2 with ⟨out, h1, h0, h2⟩ | ⟨f, args, ts, fid, first, captured, r, is, h1, h2, h3, h4, h0, h5⟩
  · subst h0
    exact .inl ⟨out, by rw [← aval_congr (fun x hx => aopd_congr ht x hx) hh]; exact h1, (areads_congr ht).symm, h2⟩
  · have hop : ∀ x ∈ o.op.operands, aopd S.env x = aopd S'.env x := fun x hx => aopd_congr ht x hx
    rw [h1] at hop
    refine .inr ⟨f, args, ts, fid, first, captured, r, is, h1, by rw [← hop f (by simp [Op.operands, Call.operands])]; exact h2, h3, ?_, h0, h5⟩
    have : callArgs S'.env first args captured = callArgs S.env first args captured := by
      unfold callArgs
      rw [List.map_congr_left fun x hx => (hop x (by simp only [Op.operands, Call.operands, Array.mem_append]; exact .inr (by simpa using hx))).symm]
    rw [this]; exact h4.congr (h0 ▸ hh)
theorem Does.frame {P : Program} {g : G} {base i : Nat} {o : SOp} {S S' : St} {e : Eff} {hr : List Nat} {act : Bool} (h : Does P g base i o S e hr act) (ht : ∀ t ∈ tmpsOf o, elook S.env t = elook S'.env t)
    (hh : act = true → ∀ id ∈ hr, hget S.H id = hget S'.H id) : Does P g base i o S' e hr act := by
  unfold Does at *
  have hgd : ∀ t want, o.gd = some (some t, want) → elook S.env t = elook S'.env t := fun t want hg => ht t (by unfold tmpsOf; rw [hg]; simp)
  cases act with
  | true =>
    simp only [if_true] at h ⊢
    refine ⟨?_, h.2.frame ht (hh rfl)⟩
    have h1 := h.1
    split at h1
    · trivial
    · rename_i t want hg; rw [← hgd t want hg]; exact h1
    · exact h1
  | false =>
    simp only [Bool.false_eq_true, if_false] at h ⊢
    refine ⟨?_, h.2⟩
    have h1 := h.1
    split at h1
    · exact h1
    · rename_i t want hg; rw [← hgd t want hg]; exact h1
    · trivial

/-- An item fits: its footprint is its operation's. -/
structure Fits (P : Program) (g : G) (base : Nat) (x : Item) (S : St) : Prop where
  does : Does P g base x.i x.so S x.e x.fp.hr x.act
  tr : x.fp.tr = tmpsOf x.so
  tw : x.fp.tw = x.so.dst
  hw : x.fp.hw = x.e.ups.map (·.1)
  ii : x.fp.i = x.i

/-- The run of some items, up to equal states. -/
def TRun (P : Program) (g : G) (base : Nat) : St → List Item → St → Prop
  | S, [], S' => SEq S S'
  | S, x :: l, S' => Fits P g base x S ∧ TRun P g base (app S x.so.dst x.e) l S'

theorem Fits.congr {P : Program} {g : G} {base : Nat} {x : Item} {S S' : St} (h : Fits P g base x S) (ht : ∀ t ∈ tmpsOf x.so, elook S.env t = elook S'.env t)
    (hh : x.act = true → ∀ id ∈ x.fp.hr, hget S.H id = hget S'.H id) : Fits P g base x S' := by
  exact ⟨h.does.frame ht hh, h.tr, h.tw, h.hw, h.ii⟩

theorem TRun.congr {P : Program} {g : G} {base : Nat} : ∀ (l : List Item) {S T S' : St}, SEq S T → TRun P g base S l S' → TRun P g base T l S' := by
  intro l
  induction l with
  | nil => intro S T S' h k; exact ⟨fun t => (h.1 t).symm.trans (k.1 t), fun id => (h.2.1 id).symm.trans (k.2.1 id), h.2.2.symm.trans k.2.2⟩
  | cons x l ih => intro S T S' h k; exact ⟨k.1.congr (fun t _ => h.1 t) (fun _ id _ => h.2.1 id), ih (h.app _ _) k.2⟩

theorem apart_spec {a b : FP} (h : FP.apart a b = true) : (∀ d, a.tw = some d → d ∉ b.tr ∧ b.tw ≠ some d) ∧ (∀ d, b.tw = some d → d ∉ a.tr) ∧ (∀ x ∈ a.hw, x ∉ b.hr ∧ x ∉ b.hw) ∧ (∀ x ∈ b.hw, x ∉ a.hr) := by
  unfold FP.apart at h
  simp only [Bool.and_eq_true] at h
  obtain ⟨⟨⟨h1, h2⟩, h3⟩, h4⟩ := h
  refine ⟨fun d hd => ?_, fun d hd => ?_, fun x hx => ?_, fun x hx => ?_⟩
  · rw [hd] at h1; simp at h1; exact h1
  · rw [hd] at h2; simp at h2; exact h2
  · unfold disj at h3; rw [List.all_eq_true] at h3; have := h3 x hx; simp at this; exact this
  · unfold disj at h4; rw [List.all_eq_true] at h4; have := h4 x hx; simpa using this

theorem app_look_other {S : St} {d : Option Tmp} {e : Eff} {t : Nat} (h : d ≠ some t) : elook (app S d e).env t = elook S.env t := by
  cases d with
  | none => rfl
  | some d => simp only [app, elook]; rw [if_neg (by intro e; subst e; exact h rfl)]

/-- Two items that are apart change places. -/
theorem TRun.swap {P : Program} {g : G} {base : Nat} {x y : Item} {l : List Item} {S S' : St} (hap : FP.apart x.fp y.fp = true) (h : TRun P g base S (y :: x :: l) S') : TRun P g base S (x :: y :: l) S' := by
  obtain ⟨hy, hx, hl⟩ := h
  obtain ⟨a1, a2, a3, a4⟩ := apart_spec hap
  have hx' : Fits P g base x S := by
    refine hx.congr (fun t ht => ?_) (fun ha id hid => ?_)
    · refine app_look_other fun e => ?_
      rw [← hy.tw] at e
      exact a2 t e (by rw [hx.tr]; exact ht)
    · refine upH_other _ _ _ fun hm => ?_
      rw [← hy.hw] at hm
      exact a4 id hm hid
  have hy' : Fits P g base y (app S x.so.dst x.e) := by
    refine hy.congr (fun t ht => ?_) (fun ha id hid => ?_)
    · refine (app_look_other fun e => ?_).symm
      rw [← hx.tw] at e
      exact (a1 t e).1 (by rw [hy.tr]; exact ht)
    · refine (upH_other _ _ _ fun hm => ?_).symm
      rw [← hx.hw] at hm
      exact (a3 id hm).1 hid
  refine ⟨hx', hy', TRun.congr l ?_ hl⟩
  refine ⟨fun t => ?_, fun id => ?_, rfl⟩
  · by_cases e1 : x.so.dst = some t
    · have e2 : y.so.dst ≠ some t := by rw [← hy.tw]; exact (a1 t (by rw [hx.tw]; exact e1)).2
      rw [app_look_other e2]
      simp only [app, e1, elook, if_true]
    · rw [app_look_other e1]
      by_cases e2 : y.so.dst = some t
      · simp only [app, e2, elook, if_true]
      · rw [app_look_other e2, app_look_other e2, app_look_other e1]
  · show hget (upH (upH S.H y.e.ups) x.e.ups) id = hget (upH (upH S.H x.e.ups) y.e.ups) id
    by_cases e1 : id ∈ x.e.ups.map (·.1)
    · have e2 : id ∉ y.e.ups.map (·.1) := by rw [← hy.hw]; exact (a3 id (by rw [hx.hw]; exact e1)).2
      rw [upH_other y.e.ups _ _ e2]
      exact upH_same _ _ _ _ (.inl e1)
    · rw [upH_other x.e.ups _ _ e1]
      exact upH_same _ _ _ _ (.inr (upH_other x.e.ups _ _ e1).symm)

theorem TRun.first {P : Program} {g : G} {base : Nat} {x : Item} {post : List Item} {S' : St} : ∀ (pre : List Item) {S : St}, (∀ y ∈ pre, FP.apart x.fp y.fp = true) → TRun P g base S (pre ++ x :: post) S' → TRun P g base S (x :: (pre ++ post)) S' := by
  intro pre
  induction pre with
  | nil => intro S _ h; exact h
  | cons y pre ih =>
    intro S hp h
    obtain ⟨hy, hr⟩ := h
    have := ih (fun z hz => hp z (List.mem_cons_of_mem _ hz)) hr
    exact TRun.swap (hp y List.mem_cons_self) ⟨hy, this⟩

end Go.Am

import Derived.Test.YticiopkiikcokaaN12
import Derived.Attr
/-
  THE WALK's OWN REWRITE RULES.
-/
namespace Go.Am

theorem acode_cond_t {P : Program} {ro : Option Nat} {g : G} {Q : AX → St → Prop} {S : St} {c : Operand} {x y : Code} (hc : aopd S.env c = .bool true) (h : ACode P ro g x Q S) : ACode P ro g (.cond c x y) Q S :=
  acode_cond hc (fun _ => h) (fun e => by cases e)
theorem acode_cond_f {P : Program} {ro : Option Nat} {g : G} {Q : AX → St → Prop} {S : St} {c : Operand} {x y : Code} (hc : aopd S.env c = .bool false) (h : ACode P ro g y Q S) : ACode P ro g (.cond c x y) Q S :=
  acode_cond hc (fun e => by cases e) (fun _ => h)

theorem acode_cond_d {P : Program} {ro : Option Nat} {g : G} {Q : AX → St → Prop} {S : St} {c : Operand} {x y : Code} {p : Prop} [Decidable p] (hc : aopd S.env c = .bool (decide p)) (ht : p → ACode P ro g x Q S) (hf : ¬ p → ACode P ro g y Q S) : ACode P ro g (.cond c x y) Q S :=
  acode_cond hc (fun e => ht (of_decide_eq_true e)) (fun e => hf (of_decide_eq_false e))
theorem acode_cond_n {P : Program} {ro : Option Nat} {g : G} {Q : AX → St → Prop} {S : St} {c : Operand} {x y : Code} {b : Bool} (hc : aopd S.env c = .bool (!b)) (ht : b = false → ACode P ro g x Q S) (hf : b = true → ACode P ro g y Q S) : ACode P ro g (.cond c x y) Q S :=
  acode_cond hc (fun e => ht (by simpa using e)) (fun e => hf (by simpa using e))

theorem acode_cond_ne {P : Program} {ro : Option Nat} {g : G} {Q : AX → St → Prop} {S : St} {c : Operand} {x y : Code} {a b : Int} (hc : aopd S.env c = .bool (a != b)) (ht : a ≠ b → ACode P ro g x Q S) (hf : a = b → ACode P ro g y Q S) : ACode P ro g (.cond c x y) Q S :=
  acode_cond hc (fun e => ht (by simpa using e)) (fun e => hf (by simpa using e))
theorem acode_cond_eq {P : Program} {ro : Option Nat} {g : G} {Q : AX → St → Prop} {S : St} {c : Operand} {x y : Code} {a b : Int} (hc : aopd S.env c = .bool (a == b)) (ht : a = b → ACode P ro g x Q S) (hf : a ≠ b → ACode P ro g y Q S) : ACode P ro g (.cond c x y) Q S :=
  acode_cond hc (fun e => ht (by simpa using e)) (fun e => hf (by simpa using e))
theorem St.le.intro {S' S : St} (h1 : ∀ p ∈ S'.env, elook S.env p.1 = p.2 ∧ p.2.ok S'.nx = true) (h2 : ∀ p ∈ S'.H, hget S.H p.1 = some p.2 ∧ p.1 < S'.nx ∧ okO S'.nx p.2 = true) : S'.le S := by
  have e1 : ∀ (l : Env) (t : Nat), elook l t = .any ∨ ∃ p ∈ l, p.1 = t ∧ elook l t = p.2 := by
    intro l t
    induction l with
    | nil => exact .inl rfl
    | cons p l ih =>
      obtain ⟨k, v⟩ := p
      by_cases e : k = t
      · exact .inr ⟨(k, v), List.mem_cons_self, e, by simp [elook, e]⟩
      · rcases ih with h | ⟨p, hp, h⟩
        · exact .inl (by simp [elook, e, h])
        · exact .inr ⟨p, List.mem_cons_of_mem _ hp, h.1, by simp [elook, e, h.2]⟩
  have e2 : ∀ (l : AHeap) (t : Nat) (o : AObj), hget l t = some o → (t, o) ∈ l := by
    intro l t o h
    induction l with
    | nil => simp [hget] at h
    | cons p l ih =>
      obtain ⟨k, v⟩ := p
      by_cases e : k = t
      · subst e; simp [hget] at h; subst h; exact List.mem_cons_self
      · simp only [hget, if_neg e] at h; exact List.mem_cons_of_mem _ (ih h)
  refine ⟨fun t => ?_, fun id o ho => (h2 _ (e2 _ _ _ ho)).1, fun t => ?_, fun id o ho => (h2 _ (e2 _ _ _ ho)).2⟩
  · rcases e1 S'.env t with h | ⟨p, hp, rfl, h⟩
    · exact .inl h
    · exact .inr (h.trans (h1 p hp).1.symm)
  · rcases e1 S'.env t with h | ⟨p, hp, rfl, h⟩
    · rw [h]; rfl
    · rw [h]; exact (h1 p hp).2
def leE (env : Env) (n : Nat) : Env → Prop
  | [] => True
  | p :: l => elook env p.1 = p.2 ∧ p.2.ok n = true ∧ leE env n l
def leH (H : AHeap) (n : Nat) : AHeap → Prop
  | [] => True
  | p :: l => hget H p.1 = some p.2 ∧ p.1 < n ∧ okO n p.2 = true ∧ leH H n l
theorem leE_cons (env : Env) (n t : Nat) (v : AV) (l : Env) : leE env n ((t, v) :: l) = (elook env t = v ∧ v.ok n = true ∧ leE env n l) := (rfl)
theorem leE_nil (env : Env) (n : Nat) : leE env n [] = True := (rfl)
theorem leH_cons (H : AHeap) (n i : Nat) (o : AObj) (l : AHeap) : leH H n ((i, o) :: l) = (hget H i = some o ∧ i < n ∧ okO n o = true ∧ leH H n l) := (rfl)
theorem leH_nil (H : AHeap) (n : Nat) : leH H n [] = True := (rfl)
theorem St.le.of {S' S : St} (h1 : leE S.env S'.nx S'.env) (h2 : leH S.H S'.nx S'.H) : S'.le S := by
  refine St.le.intro ?_ ?_
  · generalize S'.env = l at h1
    induction l with
    | nil => intro p hp; cases hp
    | cons a l ih =>
      intro p hp
      rcases List.mem_cons.1 hp with rfl | hp
      · exact ⟨h1.1, h1.2.1⟩
      · exact ih h1.2.2 p hp
  · generalize S'.H = l at h2
    induction l with
    | nil => intro p hp; cases hp
    | cons a l ih =>
      intro p hp
      rcases List.mem_cons.1 hp with rfl | hp
      · exact ⟨h2.1, h2.2.1, h2.2.2.1⟩
      · exact ih h2.2.2.2 p hp
theorem G.low.mono {g : G} {n m : Nat} (h : g.low n) (hle : n ≤ m) : g.low m := fun id hid => Nat.lt_of_lt_of_le (h id hid) hle

theorem wrap64 {n : Int} (h1 : -9223372036854775808 ≤ n) (h2 : n ≤ 9223372036854775807) : IntKind.i64.wrap n = n := by
  unfold IntKind.wrap
  have e1 : (2 : Int) ^ IntKind.i64.bits = 18446744073709551616 := by decide
  have e2 : (2 : Int) ^ (IntKind.i64.bits - 1) = 9223372036854775808 := by decide
  simp only [e1, e2, IntKind.signed, Bool.true_and, decide_eq_true_eq]
  split <;> omega
/-- The end of a round. -/
def RoundEnd {ι : Type} (st : ι → St) (I : ι → Prop) (μ : ι → Nat) (i : ι) (S' : St) : Prop := ∃ j, I j ∧ μ j < μ i ∧ (st j).le S'
theorem RoundEnd.mk {ι : Type} {st : ι → St} {I : ι → Prop} {μ : ι → Nat} {i : ι} {S' : St} (j : ι) (h1 : I j) (h2 : μ j < μ i) (h3 : (st j).le S') : RoundEnd st I μ i S' := ⟨j, h1, h2, h3⟩
theorem acode_while {P : Program} {ro : Option Nat} {g : G} {Q : AX → St → Prop} {S : St} {ι : Type} (st : ι → St) (I : ι → Prop) (μ : ι → Nat) (i0 : ι) (hI : I i0) (h0 : (st i0).le S) (hg : ∀ i, I i → g.low (st i).nx) {c : Code}
    (round : ∀ i, I i → ACode P ro g c (AX.then (RoundEnd st I μ i) Q) (st i)) : ACode P ro g (.loop c) Q S := acode_loop st I μ i0 hI h0 hg round

/-! The walk without binders: what comes behind is a name. -/
section
variable {P : Program} {g : G} {d : Option Tmp} {op : Op} {r : List SOp} {S : St} {K : St → Prop} {KD : St → List FP → Prop} {b i : Nat} {fs : List FP} {t : Nat} {want : Bool}
/-- A call, and what is left of its region. -/
def CallR (P : Program) (g : G) (f : FuncId) (args : List AV) (S : St) (d : Option Tmp) (r : List SOp) (K : St → Prop) : Prop :=
  CallOk P g f args S fun v S' => AOps P g r (putV S' d v) K
def YieldR (P : Program) (g : G) (id : Nat) (args : List AV) (S : St) (d : Option Tmp) (r : List SOp) (K : St → Prop) : Prop :=
  RoundOk P id args S fun v S' => AOps P g r (putV S' d v) K
def AOpsC (P : Program) (g : G) (op : Op) (d : Option Tmp) (r : List SOp) (S : St) (K : St → Prop) : Prop :=
  match op with
  | .call { callee := .value f, args := args, argTypes := _ } =>
    (match aopd S.env f with
    | .fn (.func fid) first captured => isFn P fid = true ∧ CallR P g fid (callArgs S.env first args captured) S d r K
    | .yld id => YieldR P g id (callArgs S.env [] args []) S d r K
    | _ => False)
  | _ => False
def AOpsM (P : Program) (g : G) (res : Option Out) (op : Op) (d : Option Tmp) (r : List SOp) (S : St) (K : St → Prop) : Prop :=
  match res with
  | some out => AOps P g r (putOut S d out (match out.ups with | [] => S.nx | _ => S.nx + 1)) K
  | none => AOpsC P g op d r S K
theorem AOps_nil : AOps P g [] S K = K S := rfl
theorem AOps_plain : AOps P g (⟨d, op, none⟩ :: r) S K = (dstOk g d ∧ AOpsM P g (aval P op (aopd S.env) (hget S.H) S.nx) op d r S K) := rfl
theorem AOps_gd : AOps P g (⟨d, op, some (some t, want)⟩ :: r) S K =
    match elook S.env t with
      | .bool x => (x = want → AOps P g (⟨d, op, none⟩ :: r) (setB S t want) K) ∧ (x = !want → dstOk g d ∧ AOps P g r (putV (setB S t !want) d .undef) K)
      | .undef => dstOk g d ∧ AOps P g r (putV S d .undef) K
      | _ => False := rfl
theorem AOps_no : AOps P g (⟨d, op, some (none, want)⟩ :: r) S K = (dstOk g d ∧ AOps P g r (putV S d .undef) K) := rfl
theorem AOpsM_some {v : AV} {ups : List (Nat × Option AObj)} : AOpsM P g (some ⟨v, ups⟩) op d r S K = AOps P g r (putOut S d ⟨v, ups⟩ (match ups with | [] => S.nx | _ => S.nx + 1)) K := rfl
theorem AOpsM_none : AOpsM P g none op d r S K = AOpsC P g op d r S K := rfl
theorem AOpsC_call {f : Operand} {args : Array Operand} {ts : Array TypeId} : AOpsC P g (.call { callee := .value f, args := args, argTypes := ts }) d r S K =
    (match aopd S.env f with
    | .fn (.func fid) first captured => isFn P fid = true ∧ CallR P g fid (callArgs S.env first args captured) S d r K
    | .yld id => YieldR P g id (callArgs S.env [] args []) S d r K
    | _ => False) := rfl
theorem CallR.pure {f : FuncId} {args : List AV} {v : AV} (h : APure P f args v) (hk : AOps P g r (putV S d v) K) : CallR P g f args S d r K := CallOk.pure h hk

def DCall (P : Program) (g : G) (b i : Nat) (f : FuncId) (args : List AV) (S : St) (d : Option Tmp) (tr : List Nat) (r : List SOp) (fs : List FP) (K : St → List FP → Prop) : Prop :=
  CallP P (hget S.H) f args fun v is => DOps P g b (i + 1) r (app S d ⟨v, []⟩) (fs ++ [⟨i, tr, is, d, []⟩]) K
def DOpsC (P : Program) (g : G) (b i : Nat) (op : Op) (d : Option Tmp) (tr : List Nat) (r : List SOp) (S : St) (fs : List FP) (K : St → List FP → Prop) : Prop :=
  match op with
  | .call { callee := .value f, args := args, argTypes := _ } =>
    (match aopd S.env f with
    | .fn (.func fid) first captured => isFn P fid = true ∧ DCall P g b i fid (callArgs S.env first args captured) S d tr r fs K
    | _ => False)
  | _ => False
def DOpsM (P : Program) (g : G) (b i : Nat) (res : Option Out) (op : Op) (d : Option Tmp) (tr hr : List Nat) (r : List SOp) (S : St) (fs : List FP) (K : St → List FP → Prop) : Prop :=
  match res with
  | some out => DOps P g b (i + 1) r (app S d ⟨out.v, out.ups⟩) (fs ++ [⟨i, tr, hr, d, out.ups.map (·.1)⟩]) K
  | none => DOpsC P g b i op d tr r S fs K
def DOne (P : Program) (g : G) (b i : Nat) (op : Op) (d : Option Tmp) (tr : List Nat) (r : List SOp) (S : St) (fs : List FP) (K : St → List FP → Prop) : Prop :=
  dstOk g d ∧ DOpsM P g b i (aval P op (aopd S.env) (hget S.H) (b + i)) op d tr (areads op (aopd S.env)) r S fs K
theorem DOps_nil : DOps P g b i [] S fs KD = KD S fs := rfl
theorem DOps_plain : DOps P g b i (⟨d, op, none⟩ :: r) S fs KD = DOne P g b i op d (tmpsOf ⟨d, op, none⟩) r S fs KD := rfl
theorem DOps_gd : DOps P g b i (⟨d, op, some (some t, want)⟩ :: r) S fs KD =
    match elook S.env t with
      | .bool x => (x = want → DOne P g b i op d (tmpsOf ⟨d, op, some (some t, want)⟩) r (setB S t want) fs KD) ∧
          (x = !want → dstOk g d ∧ DOps P g b (i + 1) r (app (setB S t !want) d ⟨.undef, []⟩) (fs ++ [⟨i, tmpsOf ⟨d, op, some (some t, want)⟩, [], d, []⟩]) KD)
      | .undef => dstOk g d ∧ DOps P g b (i + 1) r (app S d ⟨.undef, []⟩) (fs ++ [⟨i, tmpsOf ⟨d, op, some (some t, want)⟩, [], d, []⟩]) KD
      | _ => False := rfl
theorem DOps_no : DOps P g b i (⟨d, op, some (none, want)⟩ :: r) S fs KD =
    (dstOk g d ∧ DOps P g b (i + 1) r (app S d ⟨.undef, []⟩) (fs ++ [⟨i, tmpsOf ⟨d, op, some (none, want)⟩, [], d, []⟩]) KD) := rfl
theorem DOpsM_some {v : AV} {ups : List (Nat × Option AObj)} {tr hr : List Nat} : DOpsM P g b i (some ⟨v, ups⟩) op d tr hr r S fs KD = DOps P g b (i + 1) r (app S d ⟨v, ups⟩) (fs ++ [⟨i, tr, hr, d, ups.map (·.1)⟩]) KD := rfl
theorem DOpsM_none {tr hr : List Nat} : DOpsM P g b i none op d tr hr r S fs KD = DOpsC P g b i op d tr r S fs KD := rfl
theorem DOpsC_call {f : Operand} {args : Array Operand} {ts : Array TypeId} {tr : List Nat} : DOpsC P g b i (.call { callee := .value f, args := args, argTypes := ts }) d tr r S fs KD =
    (match aopd S.env f with
    | .fn (.func fid) first captured => isFn P fid = true ∧ DCall P g b i fid (callArgs S.env first args captured) S d tr r fs KD
    | _ => False) := rfl
theorem thawL_ok {h : Nat → Option AObj} {l : List AV} (hl : okL 0 l = true) : thawL h l = some (l, []) := by
  unfold thawL
  induction l with
  | nil => rfl
  | cons a r ih =>
    simp only [okL, Bool.and_eq_true] at hl
    have : thaw 8 h a = some (a, []) := by unfold thaw; rw [if_pos hl.1]
    simp only [mapO, this, ih hl.2, List.nil_append]
theorem DCall.pure {f : FuncId} {args : List AV} {v : AV} {tr : List Nat} (h : APure P f args v) (ha : okL 0 args = true) (hk : DOps P g b (i + 1) r (app S d ⟨v, []⟩) (fs ++ [⟨i, tr, [], d, []⟩]) KD) : DCall P g b i f args S d tr r fs KD :=
  ⟨v, [], ⟨args, thawL_ok ha, .inl ⟨h, .inl ⟨rfl, rfl⟩⟩⟩, hk⟩
/-- What is owned is lent. -/
theorem CallR.lent {f : FuncId} {args : List AV} {v : AV} {is : List Nat} (h : Lent P (hget S.H) f args v is) (hk : AOps P g r (putV S d v) K) : CallR P g f args S d r K := CallOk.lent h hk
theorem DCall.lent {f : FuncId} {args : List AV} {v : AV} {tr is : List Nat} (h : Lent P (hget S.H) f args v is) (hk : DOps P g b (i + 1) r (app S d ⟨v, []⟩) (fs ++ [⟨i, tr, is, d, []⟩]) KD) : DCall P g b i f args S d tr r fs KD :=
  ⟨v, is, h, hk⟩

/-- A region, what comes behind it under a name. -/
theorem acode_region_k {ro : Option Nat} {Q : AX → St → Prop} {id : Nat} {ops : Array Oper} (h : ∀ K : St → Prop, (∀ S', Q .norm S' → K S') → AOps P g (strip ops) S K) : ACode P ro g (.region id ops false) Q S :=
  acode_region (h (fun S' => Q .norm S') fun _ h => h)
theorem acode_draw_k {ro : Option Nat} {Q : AX → St → Prop} (hm : P.follows .mixedOrders = true) {id : Nat} {ops : Array Oper} (hd : drawB ops = true)
    (h : ∀ K : St → List FP → Prop, (∀ S' fs, indepB (Region.before ops) fs = true ∧ Q .norm S' → K S' fs) → DOps P g S.nx 0 (strip ops) ⟨S.env, S.H, S.nx + ops.size⟩ [] K) : ACode P ro g (.region id ops true) Q S :=
  acode_draw hm hd (h _ fun _ _ h => h)
end

theorem dstOk_some {g : G} {d : Nat} : dstOk g (some d) = (d < g.n) := rfl
theorem dstOk_none {g : G} : dstOk g none = True := rfl
theorem elook_cons (k t : Nat) (v : AV) (r : Env) : elook ((k, v) :: r) t = if k = t then v else elook r t := rfl
theorem elook_nil (t : Nat) : elook [] t = .any := rfl
theorem hget_cons (k i : Nat) (o : AObj) (r : AHeap) : hget ((k, o) :: r) i = if k = i then some o else hget r i := rfl
theorem hget_nil (i : Nat) : hget [] i = none := rfl
theorem hset_cons (k i : Nat) (p o : AObj) (r : AHeap) : hset ((k, p) :: r) i o = if k = i then (i, o) :: r else (k, p) :: hset r i o := rfl
theorem hset_nil (i : Nat) (o : AObj) : hset [] i o = [(i, o)] := rfl
theorem acells_agg (cs : List AV) : acells (.agg cs) = some cs := rfl
theorem acells_int (k : IntKind) (n : Int) : acells (.int k n) = some [.int k n] := rfl

attribute [go_sem] AOps_nil AOps_plain AOps_gd AOps_no AOpsM_some AOpsM_none AOpsC_call DOps_nil DOps_plain DOps_gd DOps_no DOpsM_some DOpsM_none DOpsC_call DOne tmpsOf tmpsL List.size_toArray Array.toList_append List.map_map Op.operands Call.operands dstOk_some dstOk_none elook_cons elook_nil hget_cons hget_nil hset_cons hset_nil
attribute [go_sem] leE_cons leE_nil leH_cons leH_nil AV.ok okL okLL okE okO
attribute [go_sem] strip sop aval aopd env0 putOut putV setB upH herase acells ofVal ofCell app areads idOf
attribute [go_sem] Ret ares aresL ares1 aLen srcCells aAppend abound chunks aSlice aBuiltin foldO amin2 amax2 aLoad aStore aread aBuild aBuildSlice afill fieldPl splice rep TD.agg aFieldAddr aField apart aConvert aMakeIface abin abinInt aun aindexAddr aeqT aeqF andO cmpOk callArgs cellB elemAt
attribute [go_sem] List.map_cons List.map_nil Option.map_none Option.map_some Option.bind_some Option.bind_none List.getElem?_toArray List.getElem?_cons_zero List.getElem?_cons_succ List.getElem?_nil
attribute [go_sem] Option.some.injEq AV.bool.injEq AV.int.injEq AV.tup.injEq AV.agg.injEq List.cons.injEq if_true if_false true_and and_true false_and and_false Bool.not_true Bool.not_false List.nil_append List.cons_append List.append_nil Bool.true_and Bool.false_and Bool.and_true Bool.and_false forall_const reduceCtorEq List.drop_zero List.drop_succ_cons List.take_zero List.take_succ_cons List.length_cons List.length_nil
attribute [go_sem] Bool.true_eq_false Bool.false_eq_true eq_self false_imp_iff true_imp_iff implies_true List.all_cons List.all_nil beq_self_eq_true Int.toNat_natCast Int.natCast_nonneg List.set_cons_zero List.set_cons_succ Nat.zero_add Nat.add_zero

end Go.Am

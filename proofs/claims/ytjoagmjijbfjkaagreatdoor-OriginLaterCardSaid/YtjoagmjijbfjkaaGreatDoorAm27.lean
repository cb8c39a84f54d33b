/-
  A MAP OF ONE's OWN THAT IS RANGED OVER WHILE ENTRIES ARE TAKEN FROM IT: its block and the iterator's are held by hand, outside of what is numbered, as long as the range lasts.
-/
import Derived.Test.YtjoagmjijbfjkaaGreatDoorAm20
import Derived.Maps.RangeRun
import Derived.TacticsIn
namespace Go.Am
open Go.ChangeMaps (setBlock)

def G.two (g : G) (m r : Nat) : G := { g with N := fun b => g.N b ∨ b = m ∨ b = r }

structure OwnIt (κ : Nat → Option Nat) (av : Nat → Prop) (w : World) (m r : Nat) (L : List ((AV × AV) × Bool)) (cur : Option (AV × AV)) : Prop where
  of : ∃ (ents : Array MapEntry) (clk : Nat) (seen : Array Nat), w.heap[m]? = some (.map ents clk) ∧ w.heap[r]? = some (.mapIter (some m) clk seen clk) ∧ Born ents clk ∧ ents.size = L.length ∧
    (∀ (i : Nat) (x : (AV × AV) × Bool), L[i]? = some x → ∃ e : MapEntry, ents[i]? = some e ∧ VRel κ av w x.1.1 e.key ∧ VRel κ av w x.1.2 e.val ∧ seen.contains e.born = x.2) ∧
    ∀ c : AV × AV, cur = some c → ∃ (s : Array Nat) (e : MapEntry), seen = s.push e.born ∧ e ∈ ents.toList ∧ VRel κ av w c.1 e.key ∧ VRel κ av w c.2 e.val

structure RX (g : G) (κ : Nat → Option Nat) (S : St) (a : Act) (w : World) (mid it m r : Nat) (L : List ((AV × AV) × Bool)) (cur : Option (AV × AV)) : Prop where
  rel : Rel (g.two m r) κ S a w
  km : κ mid = some m
  kr : κ it = some r
  hmid : hget S.H mid = none
  nmid : mid < S.nx
  Em : g.E m ∨ g.w0.heap.size ≤ m
  Er : g.w0.heap.size ≤ r
  nNm : ¬ g.N m
  own : OwnIt κ (avoid κ (g.two m r).N S.H) w m r L cur

theorem heap_ltL {α : Type} {l : List α} {j : Nat} {x : α} (h : l[j]? = some x) : j < l.length := by
  rcases Nat.lt_or_ge j l.length with h' | h'
  · exact h'
  · rw [List.getElem?_eq_none h'] at h; cases h
theorem heap_lt {w : World} {b : Nat} {o : Obj} (h : w.heap[b]? = some o) : b < w.heap.size := by
  rcases Nat.lt_or_ge b w.heap.size with h' | h'
  · exact h'
  · rw [Array.getElem?_eq_none h'] at h; cases h

section
variable {P : Program} {ro : Option Nat} {g : G} {κ : Nat → Option Nat} {S : St} {a : Act} {w : World} {mid it m r : Nat} {L : List ((AV × AV) × Bool)} {cur : Option (AV × AV)}

theorem OwnIt.mono {κ' : Nat → Option Nat} {av av' : Nat → Prop} {w' : World} (h : OwnIt κ av w m r L cur) (hm : w'.heap[m]? = w.heap[m]?) (hr : w'.heap[r]? = w.heap[r]?)
    (up : ∀ {x : AV} {v : Value}, VRel κ av w x v → VRel κ' av' w' x v) : OwnIt κ' av' w' m r L cur := by
  obtain ⟨ents, clk, seen, h1, h2, h3, h4, h5, h6⟩ := h.of
  refine ⟨ents, clk, seen, hm.trans h1, hr.trans h2, h3, h4, fun i x hx => ?_, fun c hc => ?_⟩
  · obtain ⟨e, e1, e2, e3, e4⟩ := h5 i x hx
    exact ⟨e, e1, up e2, up e3, e4⟩
  · obtain ⟨s, e, e1, e2, e3, e4⟩ := h6 c hc
    exact ⟨s, e, e1, e2, up e3, up e4⟩
theorem RX.Nm (_h : RX g κ S a w mid it m r L cur) : (g.two m r).N m := .inr (.inl rfl)
theorem RX.Nr (_h : RX g κ S a w mid it m r L cur) : (g.two m r).N r := .inr (.inr rfl)

/-- One operation that is told by its value, and writes nothing. -/
theorem RX.pure {ops : Array Oper} {Q : Exit → Act → World → Prop} {rest : List Oper} {o : Oper} {v : AV} (h : RX g κ S a w mid it m r L cur) (hg : o.guard = none) (hd : dstOk g o.dst)
    (hav : aval P o.op (aopd S.env) (hget S.H) S.nx = some ⟨v, []⟩)
    (hn : ∀ κ' a' w', RX g κ' (putV S o.dst v) a' w' mid it m r L cur → wpListIn (Fr ro) 0 P ops Q rest a' w') : wpListIn (Fr ro) 0 P ops Q (o :: rest) a w := by
  refine wpListIn_plain hg fun K hK => ⟨fun _ _ => trivial, ?_⟩
  have hfr : Fresh κ S.H S.nx := h.rel.fresh _ (Nat.le_refl _)
  obtain ⟨κ', w', u, hrun, st, hv, hf⟩ := aval_sound (P := P) (o := o) h.rel.h hfr (fun x => h.rel.opd x) hav
  have hdef : ∀ c, o.op ≠ .defer c := by
    intro c e; rw [e] at hav; simp [aval] at hav
  have hsem : o.semAt (Fr ro).round a.eval = execOp a.eval o := Oper.semAt_eq _ _ _ hdef
  have hnx : ∀ id, S.nx ≤ id → Fresh κ' (upH S.H []) id := fun id hid => hf id (.inr rfl) (h.rel.fresh id hid)
  have hm : w'.heap[m]? = w.heap[m]? := st.same m (h.rel.h.Nbd m h.Nm) (h.rel.h.NH m h.Nm)
  have hr : w'.heap[r]? = w.heap[r]? := st.same r (h.rel.h.Nbd r h.Nr) (h.rel.h.NH r h.Nr)
  have hx : RX g κ' (putV S o.dst v) (a.put o.dst u) w' mid it m r L cur := by
    have own := h.own.mono hm hr (fun q => st.v q)
    cases hds : o.dst with
    | none => exact ⟨h.rel.put0 st hnx u, st.ext _ _ h.km, st.ext _ _ h.kr, h.hmid, h.nmid, h.Em, h.Er, h.nNm, own⟩
    | some d => rw [hds] at hd; exact ⟨h.rel.put st hnx hd hv, st.ext _ _ h.km, st.ext _ _ h.kr, h.hmid, h.nmid, h.Em, h.Er, h.nNm, own⟩
  rw [hsem]
  rcases hrun with hrun | ⟨hrun, rfl⟩
  · rw [hrun]; exact hK _ _ (hn _ _ _ hx)
  · rw [hrun]; exact hK _ _ (hn _ _ _ hx)

/-- The two blocks turn, nothing else does. -/
theorem RX.turn {w' : World} {L' : List ((AV × AV) × Bool)} {cur' : Option (AV × AV)} (h : RX g κ S a w mid it m r L cur) (hs : ∀ b, b ≠ m → b ≠ r → w'.heap[b]? = w.heap[b]?) (hz : w'.heap.size = w.heap.size)
    (hos : w'.os = w.os ∧ w'.tape = w.tape ∧ w'.output = w.output)
    (own : (∀ {x : AV} {v : Value}, VRel κ (avoid κ (g.two m r).N S.H) w x v → VRel κ (avoid κ (g.two m r).N S.H) w' x v) → OwnIt κ (avoid κ (g.two m r).N S.H) w' m r L' cur') : RX g κ S a w' mid it m r L' cur' := by
  obtain ⟨ents, clk, seen, h1, h2, _⟩ := h.own.of
  have nm : ∀ b, ¬ avoid κ (g.two m r).N S.H b → b ≠ m ∧ b ≠ r := fun b hb => ⟨fun e => hb (.inl (e ▸ h.Nm)), fun e => hb (.inl (e ▸ h.Nr))⟩
  have wle : Wle w w' := by
    refine ⟨by rw [hz]; exact Nat.le_refl _, fun b c e f hb => ⟨c, f, (hs b ?_ ?_).trans hb, rfl⟩, fun b R hb => ⟨R, (hs b ?_ ?_).trans hb⟩, hos⟩
    · intro e'; subst e'; rw [h1] at hb; cases hb
    · intro e'; subst e'; rw [h2] at hb; cases hb
    · intro e'; subst e'; rw [h1] at hb; cases hb
    · intro e'; subst e'; rw [h2] at hb; cases hb
  have ow : ∀ b, owned κ S.H b → b ≠ m ∧ b ≠ r := fun b hb => ⟨fun e => h.rel.h.NH m h.Nm (e ▸ hb), fun e => h.rel.h.NH r h.Nr (e ▸ hb)⟩
  have up : ∀ {x : AV} {v : Value}, VRel κ (avoid κ (g.two m r).N S.H) w x v → VRel κ (avoid κ (g.two m r).N S.H) w' x v := fun q =>
    q.mono (fun _ _ h => h) wle (fun _ _ h => h) fun b _ hb => hs b (nm b hb).1 (nm b hb).2
  have defs : Marks κ S.H g.w0.heap.size a.defers w' := by
    obtain ⟨ms, d1, d2, d3⟩ := h.rel.defs
    refine ⟨ms, d1, d2, fun q hq => ?_⟩
    obtain ⟨d4, d5, d6⟩ := d3 q hq
    refine ⟨d4, (hs q ?_ ?_).trans d5, d6⟩
    · intro e; subst e; rw [h1] at d5; cases d5
    · intro e; subst e; rw [h2] at d5; cases d5
  have same : ∀ b, b < g.w0.heap.size → ¬ g.E b → w'.heap[b]? = g.w0.heap[b]? := fun b hb hn => by
    refine (hs b ?_ ?_).trans (h.rel.same b hb hn)
    · intro e; subst e
      rcases h.Em with q | q
      · exact hn q
      · omega
    · intro e; subst e; have := h.Er; omega
  refine ⟨⟨⟨fun id o ho => ?_, h.rel.h.inj, fun id b hb => by rw [hz]; exact h.rel.h.bd id b hb, fun b hb => by rw [hz]; exact h.rel.h.Nbd b hb, h.rel.h.NH, fun i => (h.rel.h.gl i).mono (fun _ _ h => h) wle (fun _ _ h => h) fun b _ hb => hs b (nm b hb).1 (nm b hb).2⟩, h.rel.fresh, h.rel.sz, fun t => up (h.rel.env t), h.rel.ext, h.rel.wle.trans wle, same, h.rel.new, defs⟩,
    h.km, h.kr, h.hmid, h.nmid, h.Em, h.Er, h.nNm, own up⟩
  exact (h.rel.h.rel id o ho).mono id (fun _ _ h => h) (fun h => h) wle (fun _ _ h => h) (fun b _ hb => hs b (nm b hb).1 (nm b hb).2) fun b hb => hs b (ow b ⟨id, o, ho, hb⟩).1 (ow b ⟨id, o, ho, hb⟩).2

theorem RX.put {S' : St} {d : Option Tmp} {v : AV} {u : Value} (h : RX g κ S a w mid it m r L cur) (hd : dstOk g d) (hv : VRel κ (avoid κ (g.two m r).N S.H) w v u) (hS : S' = putV S d v) : RX g κ S' (a.put d u) w mid it m r L cur := by
  subst hS
  cases d with
  | none => exact ⟨h.rel.put0 (.refl h.rel.h) h.rel.fresh u, h.km, h.kr, h.hmid, h.nmid, h.Em, h.Er, h.nNm, h.own⟩
  | some d => exact ⟨h.rel.put (.refl h.rel.h) h.rel.fresh hd hv, h.km, h.kr, h.hmid, h.nmid, h.Em, h.Er, h.nNm, h.own⟩

theorem exec_next (a : Act) {o : Oper} {x : Operand} (hop : o.op = .next x false) : execOp a.eval o = (do pure (.value (← Instr.next (a.eval x) false o.type))) := by
  obtain ⟨dst, op, ty, pos, aft, gd⟩ := o
  simp only at hop; subst hop; rfl
theorem exec_entry (a : Act) {o : Oper} {x : Operand} (hop : o.op = .entry x) : execOp a.eval o = (do pure (.value (← Instr.entry (a.eval x)))) := by
  obtain ⟨dst, op, ty, pos, aft, gd⟩ := o
  simp only at hop; subst hop; rfl

theorem RX.next {ops : Array Oper} {Q : Exit → Act → World → Prop} {rest : List Oper} {o : Oper} {x : Operand} (h : RX g κ S a w mid it m r L cur) (hg : o.guard = none) (hd : dstOk g o.dst) (hop : o.op = .next x false)
    (hx : aopd S.env x = .vptr it 0)
    (h0 : (∀ p ∈ L, p.2 = true) → ∀ a', RX g κ (putV S o.dst (.tup [.bool false])) a' w mid it m r L cur → wpListIn (Fr ro) 0 P ops Q rest a' w)
    (h1 : ∀ (j : Nat) (e : AV × AV), L[j]? = some (e, false) → ∀ a' w', RX g κ (putV S o.dst (.tup [.bool true, e.1, e.2])) a' w' mid it m r (L.set j (e, true)) (some e) → wpListIn (Fr ro) 0 P ops Q rest a' w') :
    wpListIn (Fr ro) 0 P ops Q (o :: rest) a w := by
  refine wpListIn_plain hg fun K hK => ⟨fun _ _ => trivial, ?_⟩
  have hsem : o.semAt (Fr ro).round a.eval = execOp a.eval o := Oper.semAt_eq _ _ _ (fun c e => by rw [hop] at e; cases e)
  rw [hsem, exec_next a hop]
  have hv := h.rel.opd x
  rw [hx] at hv
  generalize hva : a.eval x = va at hv
  cases hv with
  | vptr _ _ blk hk =>
    rw [h.kr] at hk
    cases hk
    obtain ⟨ents, clk, seen, g1, g2, hB, g4, g5, g6⟩ := h.own.of
    rcases run_next_at (P := P) w o.type r m clk clk seen ents clk g2 g1 hB.2 (Nat.le_refl _) with ⟨hz, hrun⟩ | ⟨e, hem, w1, hw1, hrun⟩
    · simp only [Sem.run_bind, hrun, Result.andThen_ok, Sem.run_pure]
      refine hK _ _ (h0 (fun p hp => ?_) _ (h.put hd (.tupOf rfl fun i c hi => ?_) rfl))
      · obtain ⟨i, hi⟩ := List.mem_iff_getElem?.1 hp
        obtain ⟨e, e1, _, _, e4⟩ := g5 i p hi
        cases q : p.2 with
        | true => rfl
        | false =>
          have hmem : e ∈ (leftOf ents seen).toList := by
            unfold leftOf
            rw [Array.toList_filter, List.mem_filter]
            exact ⟨List.mem_of_getElem? (by simpa using e1), by rw [e4, q]; rfl⟩
          have : (leftOf ents seen).toList = [] := List.eq_nil_of_length_eq_zero (by simpa using hz)
          rw [this] at hmem; cases hmem
      · rcases i with _ | i
        · simp at hi; subst hi; exact ⟨_, rfl, .bool _⟩
        · simp at hi
    · simp only [Sem.run_bind, hrun, Result.andThen_ok, Sem.run_pure]
      have hem2 : e ∈ ents.toList ∧ seen.contains e.born = false := by
        unfold leftOf at hem
        rw [Array.toList_filter, List.mem_filter] at hem
        exact ⟨hem.1, by simpa using hem.2⟩
      obtain ⟨j, hj⟩ := List.mem_iff_getElem?.1 hem2.1
      have hj' : ents[j]? = some e := by simpa using hj
      have hjL : j < L.length := by rw [← g4]; exact (by rcases Nat.lt_or_ge j ents.size with q | q; exact q; rw [Array.getElem?_eq_none q] at hj'; cases hj')
      obtain ⟨e', e1, e2, e3, e4⟩ := g5 j L[j] (List.getElem?_eq_getElem hjL)
      rw [hj'] at e1; cases e1
      have hLj : L[j]? = some ((L[j]).1, false) := by
        rw [List.getElem?_eq_getElem hjL]
        congr 1
        exact Prod.ext rfl (by rw [← e4, hem2.2])
      have hh1 : w1.heap = w.heap := by rcases hw1 with rfl | rfl <;> rfl
      have hs1 : w1.os = w.os ∧ w1.tape = w.tape ∧ w1.output = w.output := by rcases hw1 with rfl | rfl <;> exact ⟨rfl, rfl, rfl⟩
      have hne : ∀ b, b ≠ r → (setBlock w1 r (.mapIter (some m) clk (seen.push e.born) clk)).heap[b]? = w.heap[b]? := fun b hb => by
        simp [setBlock, hh1, Array.getElem?_setIfInBounds_ne (Ne.symm hb)]
      have hsz : (setBlock w1 r (.mapIter (some m) clk (seen.push e.born) clk)).heap.size = w.heap.size := by simp [setBlock, hh1]
      have hrl := heap_lt g2
      have hsame : (setBlock w1 r (.mapIter (some m) clk (seen.push e.born) clk)).heap[r]? = some (.mapIter (some m) clk (seen.push e.born) clk) := by
        simp [setBlock, hh1, hrl]
      have hmr : m ≠ r := fun e => by subst e; rw [g1] at g2; cases g2
      have hkv : VRel κ (avoid κ (g.two m r).N S.H) (setBlock w1 r (.mapIter (some m) clk (seen.push e.born) clk)) (L[j]).1.1 e.key ∧ VRel κ (avoid κ (g.two m r).N S.H) (setBlock w1 r (.mapIter (some m) clk (seen.push e.born) clk)) (L[j]).1.2 e.val := by
        have wle : Wle w (setBlock w1 r (.mapIter (some m) clk (seen.push e.born) clk)) := by
          refine ⟨by rw [hsz]; exact Nat.le_refl _, fun b c e f hb => ⟨c, f, (hne b ?_).trans hb, rfl⟩, fun b R hb => ⟨R, (hne b ?_).trans hb⟩, hs1⟩
          · intro e'; subst e'; rw [g2] at hb; cases hb
          · intro e'; subst e'; rw [g2] at hb; cases hb
        have up := fun (x : AV) (v : Value) (q : VRel κ (avoid κ (g.two m r).N S.H) w x v) => q.mono (w' := setBlock w1 r (.mapIter (some m) clk (seen.push e.born) clk)) (fun _ _ h => h) wle (fun _ _ h => h) fun b _ hb => hne b fun e => hb (.inl (e ▸ h.Nr))
        exact ⟨up _ _ e2, up _ _ e3⟩
      have hX : RX g κ S a (setBlock w1 r (.mapIter (some m) clk (seen.push e.born) clk)) mid it m r (L.set j ((L[j]).1, true)) (some (L[j]).1) := by
        refine h.turn (fun b _ hb => hne b hb) hsz hs1 fun up => ⟨ents, clk, seen.push e.born, (hne m hmr).trans g1, hsame, hB, by rw [List.length_set]; exact g4, fun i x hxi => ?_, fun c hc => ?_⟩
        · by_cases hij : j = i
          · subst hij
            rw [List.getElem?_set_self hjL] at hxi
            cases hxi
            exact ⟨e, hj', up e2, up e3, by simp⟩
          · rw [List.getElem?_set_ne hij] at hxi
            obtain ⟨y, y1, y2, y3, y4⟩ := g5 i x hxi
            refine ⟨y, y1, up y2, up y3, ?_⟩
            rw [Array.contains_push, y4]
            have : (y.born == e.born) = false := by
              rw [beq_eq_false_iff_ne]
              intro hb
              refine hij ((List.getElem?_inj (l := ents.toList.map (fun z : MapEntry => z.born)) (i := i) (j := j) ?_ hB.1).1 ?_).symm
              · rw [List.length_map]; exact heap_ltL (show ents.toList[i]? = some y by simpa using y1)
              · rw [List.getElem?_map, List.getElem?_map, hj, show ents.toList[i]? = some y by simpa using y1]
                exact congrArg some hb
            first | rw [this, Bool.or_false] | rw [Bool.or_comm, this]; simp
        · cases hc
          exact ⟨seen, e, rfl, hem2.1, up e2, up e3⟩
      refine hK _ _ (h1 j _ hLj _ _ (hX.put hd (.tupOf rfl fun i c hi => ?_) rfl))
      rcases i with _ | _ | _ | i
      · simp at hi; subst hi; exact ⟨_, rfl, .bool _⟩
      · simp at hi; subst hi; exact ⟨_, rfl, hkv.1⟩
      · simp at hi; subst hi; exact ⟨_, rfl, hkv.2⟩
      · simp at hi

theorem RX.entry {ops : Array Oper} {Q : Exit → Act → World → Prop} {rest : List Oper} {o : Oper} {x : Operand} {c : AV × AV} (h : RX g κ S a w mid it m r L (some c)) (hg : o.guard = none) (hd : dstOk g o.dst) (hop : o.op = .entry x)
    (hx : aopd S.env x = .vptr it 0)
    (h1 : ∀ a', RX g κ (putV S o.dst (.tup [c.1, c.2])) a' w mid it m r L (some c) → wpListIn (Fr ro) 0 P ops Q rest a' w) :
    wpListIn (Fr ro) 0 P ops Q (o :: rest) a w := by
  refine wpListIn_plain hg fun K hK => ⟨fun _ _ => trivial, ?_⟩
  have hsem : o.semAt (Fr ro).round a.eval = execOp a.eval o := Oper.semAt_eq _ _ _ (fun c e => by rw [hop] at e; cases e)
  rw [hsem, exec_entry a hop]
  have hv := h.rel.opd x
  rw [hx] at hv
  generalize hva : a.eval x = va at hv
  cases hv with
  | vptr _ _ blk hk =>
    rw [h.kr] at hk
    cases hk
    obtain ⟨ents, clk, seen, g1, g2, hB, g4, g5, g6⟩ := h.own.of
    obtain ⟨s, e, rfl, hm, hkx, hvx⟩ := g6 c rfl
    simp only [Sem.run_bind, run_entry_at w r m clk s ents clk e g2 g1 hm hB.1, Result.andThen_ok, Sem.run_pure]
    refine hK _ _ (h1 _ (h.put hd (.tupOf rfl fun i c hi => ?_) rfl))
    rcases i with _ | _ | i
    · simp at hi; subst hi; exact ⟨_, rfl, hkx⟩
    · simp at hi; subst hi; exact ⟨_, rfl, hvx⟩
    · simp at hi

theorem exec_delete (a : Act) {o : Oper} {args : Array Operand} {ts : Array TypeId} (hop : o.op = .call { callee := .builtin .delete, args := args, argTypes := ts }) :
    execOp a.eval o = (do pure (.value (← Builtin.delete_ ts o.type (args.map a.eval)))) := by
  obtain ⟨dst, op, ty, pos, aft, gd⟩ := o
  simp only at hop; subst hop; rfl

/-- The entry with a key is taken away. -/
theorem RX.delete {ops : Array Oper} {Q : Exit → Act → World → Prop} {rest : List Oper} {o : Oper} {x k : Operand} {ts : Array TypeId} {t kt et : TypeId} {T K0 : TI} {ka v : AV} {j : Nat} (h : RX g κ S a w mid it m r L cur) (hg : o.guard = none) (hd : dstOk g o.dst)
    (hop : o.op = .call { callee := .builtin .delete, args := #[x, k], argTypes := ts }) (hts : ts[0]? = some t) (hT : tinfo P t = some T) (htd : T.td = .map kt et) (hK0 : tinfo P kt = some K0)
    (hx : aopd S.env x = .mref mid) (hk : aopd S.env k = ka) (hkb : akeyB P K0.td ka = true) (hf : afind P kt K0.td ka (L.map (·.1)) 0 = some (some (j, v)))
    (h1 : ∀ a' w', RX g κ (putV S o.dst .undef) a' w' mid it m r (L.eraseIdx j) none → wpListIn (Fr ro) 0 P ops Q rest a' w') :
    wpListIn (Fr ro) 0 P ops Q (o :: rest) a w := by
  refine wpListIn_plain hg fun K hK => ⟨fun _ _ => trivial, ?_⟩
  have hsem : o.semAt (Fr ro).round a.eval = execOp a.eval o := Oper.semAt_eq _ _ _ (fun c e => by rw [hop] at e; cases e)
  rw [hsem, exec_delete a hop]
  have hv := h.rel.opd x
  have hkv := h.rel.opd k
  rw [hx] at hv
  rw [hk] at hkv
  have hargs : (#[x, k].map a.eval) = #[a.eval x, a.eval k] := by simp
  rw [hargs]
  generalize hva : a.eval x = va at hv
  generalize hka : a.eval k = kv at hkv
  cases hv with
  | mref _ blk hkm =>
    rw [h.km] at hkm
    cases hkm
    obtain ⟨ents, clk, seen, g1, g2, hB, g4, g5, g6⟩ := h.own.of
    have hun := mapElem hT htd
    have hun' : (underlying t).run P w = .ok (.map kt et) w := Go.run_underlying hun w
    have hck : ∀ e, (Instr.checkKey e 10000 kt kv).run P w = .ok () w := fun e => checkKey_sound hK0 hkb hkv e
    have h4' : ∀ (j : Nat) (e : AV × AV), (L.map (·.1))[j]? = some e → ∃ y, ents.toList[j]? = some y ∧ VRel κ (avoid κ (g.two m r).N S.H) w e.1 y.key ∧ VRel κ (avoid κ (g.two m r).N S.H) w e.2 y.val := by
      intro j e he
      rw [List.getElem?_map] at he
      cases hes : L[j]? with
      | none => rw [hes] at he; cases he
      | some x =>
        rw [hes] at he; cases he
        obtain ⟨e', y1, y2, y3, _⟩ := g5 j x hes
        exact ⟨e', by simpa using y1, y2, y3⟩
    rcases findKey_sound hK0 hkv (L.map (·.1)) ents.toList (by simpa using g4) h4' hf with ⟨e1, _⟩ | ⟨j', v'', mm, e1, e2, e3, e4, e, e5, e6⟩
    · cases e1
    · simp only [Option.some.injEq, Prod.mk.injEq] at e1
      obtain ⟨rfl, rfl⟩ := e1
      have hlt : j < L.length := by
        rcases Nat.lt_or_ge j (L.map (·.1)).length with h | h
        · simpa using h
        · rw [List.getElem?_eq_none h] at e5; cases e5
      have hlt' : j < ents.size := by omega
      have hml := heap_lt g1
      have hmr : r ≠ m := fun e => by subst e; rw [g1] at g2; cases g2
      have hrun : (Builtin.delete_ ts o.type #[.map (some m), kv]).run P w = .ok Go.undef (w.putObj m (.map (ents.eraseIdxIfInBounds j) clk)) := by
        simp [Builtin.delete_, hts, hun', MapKept.run_getObj_map g1, hck, e2, MapKept.run_setObj_map _ g1, World.putObj, Go.undef]
      have hne : ∀ b, b ≠ m → (w.putObj m (.map (ents.eraseIdxIfInBounds j) clk)).heap[b]? = w.heap[b]? := fun b hb => by
        simp [World.putObj, Array.getElem?_setIfInBounds_ne (Ne.symm hb)]
      have hsz : (w.putObj m (.map (ents.eraseIdxIfInBounds j) clk)).heap.size = w.heap.size := by simp [World.putObj]
      have hsame : (w.putObj m (.map (ents.eraseIdxIfInBounds j) clk)).heap[m]? = some (.map (ents.eraseIdxIfInBounds j) clk) := by simp [World.putObj, hml]
      simp only [Sem.run_bind, hrun, Result.andThen_ok, Sem.run_pure]
      have hX : RX g κ S a (w.putObj m (.map (ents.eraseIdxIfInBounds j) clk)) mid it m r (L.eraseIdx j) none := by
        refine h.turn (fun b hb _ => hne b hb) hsz ⟨rfl, rfl, rfl⟩ fun up => ⟨_, clk, seen, hsame, (hne r hmr).trans g2, hB.erase j, ?_, fun q x hq => ?_, fun c hc => by cases hc⟩
        · simp [Array.eraseIdxIfInBounds, List.length_eraseIdx, hlt, g4]
        · have hl : ∀ p : MapEntry, (ents.eraseIdxIfInBounds j)[q]? = some p ↔ (ents.toList.eraseIdx j)[q]? = some p := fun p => by
            simp [Array.eraseIdxIfInBounds, hlt', ← Array.getElem?_toList]
          rw [List.getElem?_eraseIdx] at hq
          split at hq
          · rename_i hqj
            obtain ⟨e', y1, y2, y3, y4⟩ := g5 q x hq
            exact ⟨e', (hl _).2 (by rw [List.getElem?_eraseIdx, if_pos hqj]; simpa using y1), up y2, up y3, y4⟩
          · rename_i hqj
            obtain ⟨e', y1, y2, y3, y4⟩ := g5 (q + 1) x hq
            exact ⟨e', (hl _).2 (by rw [List.getElem?_eraseIdx, if_neg hqj]; simpa using y1), up y2, up y3, y4⟩
      exact hK _ _ (h1 _ _ (hX.put hd .undef rfl))

theorem exec_range (a : Act) {o : Oper} {t : TypeId} {x : Operand} (hop : o.op = .range t x) : execOp a.eval o = (do pure (.value (← Instr.range t (a.eval x)))) := by
  obtain ⟨dst, op, ty, pos, aft, gd⟩ := o
  simp only at hop; subst hop; rfl

theorem RX.enter {ops : Array Oper} {Q : Exit → Act → World → Prop} {rest : List Oper} {o : Oper} {x : Operand} {d : Tmp} {t kt et : TypeId} {T : TI} {es : List (AV × AV)} (h : Rel g κ S a w) (hg : o.guard = none) (hds : o.dst = some d) (hd : d < g.n)
    (hop : o.op = .range t x) (hT : tinfo P t = some T) (htd : T.td = .map kt et) (hx : aopd S.env x = .mref mid) (hm : hget S.H mid = some (.map es))
    (hn : ∀ κ' a' w' m r, RX g κ' ⟨(d, .vptr S.nx 0) :: S.env, herase S.H mid, S.nx + 1⟩ a' w' mid S.nx m r (es.map fun e => (e, false)) none → wpListIn (Fr ro) 0 P ops Q rest a' w') :
    wpListIn (Fr ro) 0 P ops Q (o :: rest) a w := by
  refine wpListIn_plain hg fun K hK => ⟨fun _ _ => trivial, ?_⟩
  have hsem : o.semAt (Fr ro).round a.eval = execOp a.eval o := Oper.semAt_eq _ _ _ (fun c e => by rw [hop] at e; cases e)
  rw [hsem, exec_range a hop]
  have hv := h.opd x
  rw [hx] at hv
  generalize hva : a.eval x = va at hv
  cases hv with
  | mref _ m hkm =>
    obtain ⟨m', ents, clk, h1, h2, h3, hB, h4⟩ := h.h.rel _ _ hm
    rw [hkm] at h1
    cases h1
    have hun := mapElem hT htd
    simp only [Sem.run_bind, run_range_map w t kt et m ents clk hun h2, Result.andThen_ok, Sem.run_pure]
    have hfr : Fresh κ S.H S.nx := h.fresh _ (Nat.le_refl _)
    have hml := heap_lt h2
    have hmid : mid < S.nx := by
      rcases Nat.lt_or_ge mid S.nx with q | q
      · exact q
      · rw [(h.fresh mid q).2] at hm; cases hm
    obtain ⟨r, hr⟩ : ∃ r, r = w.heap.size := ⟨_, rfl⟩
    obtain ⟨κ', hκ'⟩ : ∃ κ', κ' = withNew κ S.nx (some w.heap.size) := ⟨_, rfl⟩
    have kold : ∀ {j : Nat}, j ≠ S.nx → κ' j = κ j := fun hj => by rw [hκ']; exact withNew_old hj
    have knew : κ' S.nx = some r := by rw [hκ', hr]; exact withNew_new
    have kext : ∀ j b, κ j = some b → κ' j = some b := fun j b hj => by rw [hκ']; exact withNew_ext hfr.1 j b hj
    have hbd := h.h.bd
    have gH : ∀ {j : Nat} {o : AObj}, hget (herase S.H mid) j = some o → j ≠ mid ∧ j ≠ S.nx ∧ hget S.H j = some o := fun {j o} hj => by
      rw [hget_herase] at hj
      split at hj
      · cases hj
      · rename_i e
        refine ⟨fun q => e q.symm, fun q => ?_, hj⟩
        subst q; rw [hfr.2] at hj; cases hj
    have own' : ∀ b, owned κ' (herase S.H mid) b → owned κ S.H b ∧ b ≠ m ∧ b < w.heap.size := by
      rintro b ⟨j, o, hj, hb⟩
      obtain ⟨q1, q2, q3⟩ := gH hj
      rw [kold q2] at hb
      refine ⟨⟨j, o, q3, hb⟩, fun e => ?_, hbd _ _ hb⟩
      subst e
      exact q1 (h.h.inj j mid _ _ _ q3 hm hb hkm)
    have hav : ∀ b, b < w.heap.size → avoid κ' (g.two m r).N (herase S.H mid) b → avoid κ g.N S.H b := by
      rintro b hb ((q | q | q) | q)
      · exact .inl q
      · subst q; exact .inr ⟨mid, _, hm, hkm⟩
      · omega
      · exact .inr (own' b q).1
    have wle : Wle w (w.alloc (.mapIter (some m) clk #[] clk)) := by
      refine ⟨by show w.heap.size ≤ (w.heap.push _).size; rw [Array.size_push]; omega, fun b c e f hb => ⟨c, f, (alloc_old w _ b (heap_lt hb)).trans hb, rfl⟩, fun b R hb => ⟨R, (alloc_old w _ b (heap_lt hb)).trans hb⟩, rfl, rfl, rfl⟩
    have up : ∀ {x : AV} {v : Value}, VRel κ (avoid κ g.N S.H) w x v → VRel κ' (avoid κ' (g.two m r).N (herase S.H mid)) (w.alloc (.mapIter (some m) clk #[] clk)) x v := fun q =>
      q.mono kext wle hav fun b hb _ => alloc_old w _ b hb
    have nNm : ¬ g.N m := fun q => h.h.NH m q ⟨mid, _, hm, hkm⟩
    have hX : Rel (g.two m r) κ' ⟨(d, .vptr S.nx 0) :: S.env, herase S.H mid, S.nx + 1⟩ (a.put (some d) (.pointer (some ⟨w.heap.size, 0, none⟩))) (w.alloc (.mapIter (some m) clk #[] clk)) := by
      refine ⟨⟨fun id o ho => ?_, fun id id' b o o' ho ho' hb hb' => ?_, fun id b hb => ?_, fun b hb => ?_, fun b hb ho => ?_, fun i => (h.h.gl i).mono (fun _ _ h => h) wle hav fun b hb _ => alloc_old w _ b hb⟩, fun id hid => ?_, ?_, fun t => ?_, fun id b hb => kext _ _ (h.ext id b hb), h.wle.trans wle, fun b hb hn => (alloc_old w _ b (Nat.lt_of_lt_of_le hb h.wle.1)).trans (h.same b hb hn), fun b hb => h.new b (own' b hb).1, ?_⟩
      · obtain ⟨q1, q2, q3⟩ := gH ho
        exact (h.h.rel id o q3).mono id kext (fun q => by rw [kold q2]; exact q) wle hav (fun b hb _ => alloc_old w _ b hb) fun b hb => alloc_old w _ b (hbd _ _ hb)
      · obtain ⟨q1, q2, q3⟩ := gH ho
        obtain ⟨p1, p2, p3⟩ := gH ho'
        rw [kold q2] at hb; rw [kold p2] at hb'
        exact h.h.inj id id' b o o' q3 p3 hb hb'
      · have hs : (w.alloc (.mapIter (some m) clk #[] clk)).heap.size = w.heap.size + 1 := Array.size_push _
        rw [hs]
        by_cases q : id = S.nx
        · subst q; rw [knew] at hb; cases hb; omega
        · rw [kold q] at hb; have := hbd _ _ hb; omega
      · have hs : (w.alloc (.mapIter (some m) clk #[] clk)).heap.size = w.heap.size + 1 := Array.size_push _
        rw [hs]
        rcases hb with q | q | q
        · have := h.h.Nbd b q; omega
        · omega
        · omega
      · obtain ⟨o1, o2, o3⟩ := own' b ho
        rcases hb with q | q | q
        · exact h.h.NH b q o1
        · exact o2 q
        · omega
      · refine ⟨?_, ?_⟩
        · have hid : S.nx + 1 ≤ id := hid
          rw [kold (by omega)]; exact (h.fresh id (by omega)).1
        · have hid : S.nx + 1 ≤ id := hid
          show hget (herase S.H mid) id = none
          rw [hget_herase]; split
          · rfl
          · exact (h.fresh id (by omega)).2
      · show (a.tmps.setIfInBounds d _).size = g.n
        simp [h.sz]
      · simp only [elook, Act.put]
        by_cases e : d = t
        · subst e; simp [h.sz, hd]; exact .vptr _ _ _ (hr ▸ knew)
        · rw [if_neg e]
          have := up (h.env t)
          simpa [Array.getElem?_setIfInBounds_ne e] using this
      · obtain ⟨ms, d1, d2, d3⟩ := h.defs
        refine ⟨ms, d1, d2, fun q hq => ?_⟩
        obtain ⟨d4, d5, d6⟩ := d3 q hq
        exact ⟨d4, (alloc_old w _ q (heap_lt d5)).trans d5, fun ho => d6 (own' q ho).1⟩
    have fin : RX g κ' ⟨(d, .vptr S.nx 0) :: S.env, herase S.H mid, S.nx + 1⟩ (a.put (some d) (.pointer (some ⟨w.heap.size, 0, none⟩))) (w.alloc (.mapIter (some m) clk #[] clk)) mid S.nx m r (es.map fun e => (e, false)) none := by
      refine ⟨hX, kext _ _ hkm, knew, ?_, by show mid < S.nx + 1; omega, h.new m ⟨mid, _, hm, hkm⟩, by have := h.wle.1; omega, nNm, ⟨ents, clk, #[], (alloc_old w _ m hml).trans h2, hr ▸ alloc_new w _, hB, by rw [List.length_map]; exact h3, fun i x hx => ?_, fun c hc => by cases hc⟩⟩
      · show hget (herase S.H mid) mid = none
        rw [hget_herase, if_pos rfl]
      · rw [List.getElem?_map] at hx
        cases hes : es[i]? with
        | none => rw [hes] at hx; cases hx
        | some e =>
          rw [hes] at hx; cases hx
          obtain ⟨mm, m1, m2, m3⟩ := h4 i e hes
          exact ⟨mm, m1, up m2, up m3, by simp⟩
    have hput : a.put o.dst (.pointer (some ⟨w.heap.size, 0, none⟩)) = a.put (some d) (.pointer (some ⟨w.heap.size, 0, none⟩)) := by rw [hds]
    refine hK _ _ ?_
    rw [hput]
    exact hn _ _ _ _ _ fin

theorem RX.leave (h : RX g κ S a w mid it m r L cur) : Rel g κ ⟨S.env, hset S.H mid (.map (L.map (·.1))), S.nx⟩ a w := by
  obtain ⟨ents, clk, seen, g1, g2, hB, g4, g5, g6⟩ := h.own.of
  have gH : ∀ {j : Nat} {o : AObj}, hget (hset S.H mid (.map (L.map (·.1)))) j = some o → (j = mid ∧ o = .map (L.map (·.1))) ∨ (j ≠ mid ∧ hget S.H j = some o) := fun {j o} hj => by
    rw [hget_hset] at hj
    split at hj
    · rename_i e; cases hj; exact .inl ⟨e.symm, rfl⟩
    · rename_i e; exact .inr ⟨fun q => e q.symm, hj⟩
  have own' : ∀ b, owned κ (hset S.H mid (.map (L.map (·.1)))) b → b = m ∨ owned κ S.H b := by
    rintro b ⟨j, o, hj, hb⟩
    rcases gH hj with ⟨rfl, _⟩ | ⟨_, q⟩
    · rw [h.km] at hb; cases hb; exact .inl rfl
    · exact .inr ⟨j, o, q, hb⟩
  have hav : ∀ b, b < w.heap.size → avoid κ g.N (hset S.H mid (.map (L.map (·.1)))) b → avoid κ (g.two m r).N S.H b := by
    rintro b _ (q | q)
    · exact .inl (.inl q)
    · rcases own' b q with q | q
      · subst q; exact .inl h.Nm
      · exact .inr q
  have up : ∀ {x : AV} {v : Value}, VRel κ (avoid κ (g.two m r).N S.H) w x v → VRel κ (avoid κ g.N (hset S.H mid (.map (L.map (·.1))))) w x v := fun q =>
    q.mono (fun _ _ h => h) (.refl w) hav fun _ _ _ => rfl
  refine ⟨⟨fun id o ho => ?_, fun id id' b o o' ho ho' hb hb' => ?_, h.rel.h.bd, fun b hb => h.rel.h.Nbd b (.inl hb), fun b hb ho => ?_, fun i => (h.rel.h.gl i).mono (fun _ _ h => h) (.refl w) hav fun _ _ _ => rfl⟩, fun id hid => ⟨(h.rel.fresh id hid).1, ?_⟩, h.rel.sz, fun t => up (h.rel.env t), h.rel.ext, h.rel.wle, h.rel.same, fun b hb => ?_, ?_⟩
  · rcases gH ho with ⟨rfl, rfl⟩ | ⟨_, q⟩
    · refine ⟨m, ents, clk, h.km, g1, by rw [List.length_map]; exact g4, hB, fun i e he => ?_⟩
      rw [List.getElem?_map] at he
      cases hes : L[i]? with
      | none => rw [hes] at he; cases he
      | some x =>
        rw [hes] at he; cases he
        obtain ⟨e', y1, y2, y3, _⟩ := g5 i x hes
        exact ⟨e', y1, up y2, up y3⟩
    · exact (h.rel.h.rel id o q).mono id (fun _ _ h => h) (fun h => h) (.refl w) hav (fun _ _ _ => rfl) fun _ _ => rfl
  · have clash : ∀ {j : Nat} {o : AObj}, hget S.H j = some o → κ j = some m → False := fun hj hb => h.rel.h.NH m h.Nm ⟨_, _, hj, hb⟩
    rcases gH ho with ⟨rfl, _⟩ | ⟨_, q⟩
    · rw [h.km] at hb; cases hb
      rcases gH ho' with ⟨rfl, _⟩ | ⟨_, q'⟩
      · rfl
      · exact (clash q' hb').elim
    · rcases gH ho' with ⟨rfl, _⟩ | ⟨_, q'⟩
      · rw [h.km] at hb'; cases hb'
        exact (clash q hb).elim
      · exact h.rel.h.inj id id' b o o' q q' hb hb'
  · rcases own' b ho with q | q
    · subst q; exact h.nNm hb
    · exact h.rel.h.NH b (.inl hb) q
  · show hget (hset S.H mid _) id = none
    have hid : S.nx ≤ id := hid
    have := h.nmid
    rw [hget_hset, if_neg (by omega)]
    exact (h.rel.fresh id hid).2
  · rcases own' b hb with q | q
    · subst q; exact h.Em
    · exact h.rel.new b q
  · obtain ⟨ms, d1, d2, d3⟩ := h.rel.defs
    refine ⟨ms, d1, d2, fun q hq => ?_⟩
    obtain ⟨d4, d5, d6⟩ := d3 q hq
    refine ⟨d4, d5, fun ho => ?_⟩
    rcases own' q ho with e | e
    · subst e; rw [g1] at d5; cases d5
    · exact d6 e
end
end Go.Am

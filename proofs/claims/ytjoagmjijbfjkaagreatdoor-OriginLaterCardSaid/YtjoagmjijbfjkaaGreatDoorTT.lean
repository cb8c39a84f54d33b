import Derived.Test.YtjoagmjijbfjkaaGreatDoorAm27
import Derived.Test.YtjoagmjijbfjkaaGreatDoorAm24
import Derived.Test.YtjoagmjijbfjkaaGreatDoorW4
import Derived.Test.YtjoagmjijbfjkaaGreatDoorNU
import Derived.Sort.LoopGhostIn
/-
  WHAT IS TOLD, AS A MAP: rooms without minutes are taken out of it while it is ranged over.
-/
namespace Go.Proofs.YtjoagmjijbfjkaaGreatDoor
open Go Go.Am
set_option maxRecDepth 100000
set_option maxHeartbeats 4000000
def entG (f : Int → AV) (x : Int) : AV × AV := (.int .i64 x, f x)
def entsG (f : Int → AV) (l : List Int) : List (AV × AV) := l.map (entG f)
theorem okE_entsG {n : Nat} {f : Int → AV} (hf : ∀ x, (f x).ok n = true) : ∀ l : List Int, okE n (entsG f l) = true := by
  intro l
  induction l with
  | nil => rfl
  | cons a l ih =>
    show (((entG f a).1.ok n && (entG f a).2.ok n) && okE n (entsG f l)) = true
    rw [ih, show (entG f a).2.ok n = true from hf a]; rfl
theorem akeI (x a : Int) : akeq Tryz.prog 3 (.int .i64) (.int .i64 x) (.int .i64 a) = some (decide (x = a)) := by
  show (if IntKind.i64 = IntKind.i64 then some (x == a) else none) = _
  rw [if_pos rfl]
  congr 1
theorem afindG (f : Int → AV) (x : Int) : ∀ (l : List Int) (i : Nat), afind Tryz.prog 3 (.int .i64) (.int .i64 x) (entsG f l) i = some (if x ∈ l then some (i + l.idxOf x, f x) else none) := by
  intro l
  induction l with
  | nil => intro i; rfl
  | cons a l ih =>
    intro i
    show (match akeq Tryz.prog 3 (.int .i64) (.int .i64 x) (.int .i64 a) with
      | some true => some (some (i, (entG f a).2))
      | some false => afind Tryz.prog 3 (.int .i64) (.int .i64 x) (entsG f l) (i + 1)
      | none => none) = _
    rw [akeI]
    by_cases e : x = a
    · subst e
      simp [entG]
    · rw [decide_eq_false e]
      simp only []
      rw [ih (i + 1)]
      by_cases hm : x ∈ l
      · rw [if_pos hm, if_pos (List.mem_cons_of_mem _ hm), show (a :: l).idxOf x = l.idxOf x + 1 from by rw [List.idxOf_cons, show (a == x) = false from by rw [beq_eq_false_iff_ne]; exact Ne.symm e]; rfl]
        congr 2
        rw [Nat.add_assoc, Nat.add_comm 1]
      · rw [if_neg hm, if_neg (by simp [e, hm])]
/-- One key more. -/
theorem updG {h : Nat → Option AObj} {i : Nat} {f : Int → AV} {l : List Int} {x : Int} (h0 : h i = some (.map (entsG f l))) (hl : x ∉ l) :
    aMapUpdate Tryz.prog h 96 (.mref i) (.int .i64 x) (f x) = some ⟨.undef, [(i, some (.map (entsG f (l ++ [x]))))]⟩ := by
  simp only [aMapUpdate, ty96, ty3, h0]
  rw [if_pos (show akeyB Tryz.prog (.int .i64) (.int .i64 x) = true from rfl), afindG, if_neg hl]
  simp [entsG, entG]
theorem lookG {h : Nat → Option AObj} {f : Int → AV} {l : List Int} {x : Int} : aLookup Tryz.prog h 96 (.imap (entsG f l)) (.int .i64 x) false = some (if x ∈ l then f x else .nil) := by
  have hz : azero Tryz.prog 39 = some .nil := by kernel_rfl
  simp only [aLookup, ty96, ty3, amap]
  rw [if_pos (show akeyB Tryz.prog (.int .i64) (.int .i64 x) = true from rfl), afindG, hz]
  by_cases hm : x ∈ l
  · rw [if_pos hm, if_pos hm]; rfl
  · rw [if_neg hm, if_neg hm]; rfl
theorem mapOE_G (n : Nat) (h : Nat → Option AObj) {f : Int → AV} (hf : ∀ x, (f x).ok 0 = true) : ∀ l : List Int, mapOE (thaw (n + 1) h) (entsG f l) = some (entsG f l, []) := by
  intro l
  induction l with
  | nil => rfl
  | cons a l ih =>
    show mapOE (thaw (n + 1) h) (entG f a :: entsG f l) = some (entG f a :: entsG f l, [])
    have h1 : thaw (n + 1) h (entG f a).1 = some ((entG f a).1, []) := by unfold thaw; exact if_pos rfl
    have h2 : thaw (n + 1) h (entG f a).2 = some ((entG f a).2, []) := by unfold thaw; exact if_pos (hf a)
    simp only [mapOE, h1, h2, ih, List.nil_append]
theorem thawG {h : Nat → Option AObj} {i : Nat} {f : Int → AV} (hf : ∀ x, (f x).ok 0 = true) {l : List Int} (h0 : h i = some (.map (entsG f l))) : thaw 8 h (.mref i) = some (.imap (entsG f l), [i]) := by
  have e : thaw 8 h (.mref i) = (match h i with
      | some (.map es) => (match mapOE (thaw 7 h) es with | some (es', is) => some (.imap es', i :: is) | none => none)
      | _ => none) := rfl
  rw [e, h0]
  simp only []
  rw [mapOE_G 6 h hf]
end Go.Proofs.YtjoagmjijbfjkaaGreatDoor
/-
  THE SWEEP.
-/
namespace Go.Proofs.YtjoagmjijbfjkaaGreatDoor
open Go Go.Am
set_option maxRecDepth 100000
set_option maxHeartbeats 4000000
/-- One operation, what is known of it. -/
theorem RX.step {P : Program} {ro : Option Nat} {g : G} {κ : Nat → Option Nat} {S : St} {a : Act} {w : World} {mid it m r : Nat} {L : List ((AV × AV) × Bool)} {cur : Option (AV × AV)}
    {ops : Array Oper} {Q : Exit → Act → World → Prop} {rest : List Oper} {o : Oper} (h : RX g κ S a w mid it m r L cur) {d : Nat} {v : AV} (hg : o.guard = none) (hds : o.dst = some d) (hd : d < g.n)
    (hav : aval P o.op (aopd S.env) (hget S.H) S.nx = some ⟨v, []⟩)
    (hn : ∀ κ' S' a' w', RX g κ' S' a' w' mid it m r L cur → S'.H = S.H → S'.nx = S.nx → elook S'.env d = v → (∀ t, d ≠ t → elook S'.env t = elook S.env t) → wpListIn (Fr ro) 0 P ops Q rest a' w') : wpListIn (Fr ro) 0 P ops Q (o :: rest) a w :=
  h.pure hg (by rw [hds]; exact hd) hav fun κ' a' w' hx => hn κ' _ a' w' hx rfl rfl (by rw [hds]; exact if_pos rfl) fun t ht => by rw [hds]; exact if_neg ht
/-- The same before the range begins. -/
theorem Rel.step {P : Program} {ro : Option Nat} {g : G} {κ : Nat → Option Nat} {S : St} {a : Act} {w : World}
    {ops : Array Oper} {Q : Exit → Act → World → Prop} {rest : List Oper} {o : Oper} (h : Rel g κ S a w) {d : Nat} {v : AV} (hg : o.guard = none) (hds : o.dst = some d) (hd : d < g.n)
    (hav : aval P o.op (aopd S.env) (hget S.H) S.nx = some ⟨v, []⟩)
    (hn : ∀ κ' S' a' w', Rel g κ' S' a' w' → S'.H = S.H → S'.nx = S.nx → elook S'.env d = v → (∀ t, d ≠ t → elook S'.env t = elook S.env t) → wpListIn (Fr ro) 0 P ops Q rest a' w') : wpListIn (Fr ro) 0 P ops Q (o :: rest) a w := by
  refine wpListIn_plain hg fun K hK => ?_
  refine aop_sound (so := ⟨o.dst, o.op, none⟩) h ⟨rfl, rfl⟩ (K := fun S' => S'.H = S.H ∧ S'.nx = S.nx ∧ elook S'.env d = v ∧ ∀ t, d ≠ t → elook S'.env t = elook S.env t) ⟨by rw [hds]; exact hd, ?_⟩ _ _ fun κ' S' a' w' hr hk => hK _ _ (hn κ' S' a' w' hr hk.1 hk.2.1 hk.2.2.1 hk.2.2.2)
  show (match aval P o.op (aopd S.env) (hget S.H) S.nx with | some out => _ | none => _)
  rw [hav]
  refine ⟨rfl, rfl, ?_, fun t ht => ?_⟩
  · show elook (match o.dst with | some d => (d, v) :: S.env | none => S.env) d = v
    rw [hds]; exact if_pos rfl
  · show elook (match o.dst with | some d => (d, v) :: S.env | none => S.env) t = _
    rw [hds]; exact if_neg ht
theorem bool_of {κ : Nat → Option Nat} {av : Nat → Prop} {w : World} {b : Bool} {v : Value} (h : VRel κ av w (.bool b) v) : v = .bool b := by cases h; rfl
abbrev KB := List (Int × Bool)
def lE (f : Int → AV) (ks : KB) : List ((AV × AV) × Bool) := ks.map fun p => (entG f p.1, p.2)
theorem lE_fst (f : Int → AV) (ks : KB) : (lE f ks).map (·.1) = entsG f (ks.map (·.1)) := by
  unfold lE entsG
  rw [List.map_map, List.map_map]; rfl
theorem lE_set (f : Int → AV) (ks : KB) (j : Nat) (x : Int) : (lE f ks).set j (entG f x, true) = lE f (ks.set j (x, true)) := by
  unfold lE
  rw [List.map_set]
theorem lE_erase (f : Int → AV) (ks : KB) (j : Nat) : (lE f ks).eraseIdx j = lE f (ks.eraseIdx j) := by
  unfold lE
  rw [map_erase]
/-- What holds of the entries while the range lasts. -/
structure KsI (p : Int → Bool) (l0 : List Int) (ks : KB) : Prop where
  sub : List.Sublist (ks.map (·.1)) l0
  keep : ∀ x ∈ l0, p x = true → x ∈ ks.map (·.1)
  seen : ∀ q ∈ ks, q.2 = true → p q.1 = true
def cntF (ks : KB) : Nat := ks.countP fun q => !q.2
theorem cnt_set {ks : KB} {j : Nat} {x : Int} (h : ks[j]? = some (x, false)) : cntF (ks.set j (x, true)) < cntF ks := by
  unfold cntF
  induction ks generalizing j with
  | nil => simp at h
  | cons a ks ih =>
    cases j with
    | zero =>
      simp only [List.getElem?_cons_zero, Option.some.injEq] at h
      subst h
      simp
    | succ j =>
      simp only [List.getElem?_cons_succ] at h
      have := ih h
      simp only [List.set_cons_succ, List.countP_cons]
      omega
theorem cnt_erase {ks : KB} {j : Nat} {x : Int} (h : ks[j]? = some (x, false)) : cntF (ks.eraseIdx j) < cntF ks := by
  unfold cntF
  induction ks generalizing j with
  | nil => simp at h
  | cons a ks ih =>
    cases j with
    | zero =>
      simp only [List.getElem?_cons_zero, Option.some.injEq] at h
      subst h
      simp
    | succ j =>
      simp only [List.getElem?_cons_succ] at h
      have := ih h
      simp only [List.eraseIdx_cons_succ, List.countP_cons]
      omega
theorem set_fst {ks : KB} {j : Nat} {x : Int} {b c : Bool} (h : ks[j]? = some (x, b)) : (ks.set j (x, c)).map (·.1) = ks.map (·.1) := by
  induction ks generalizing j with
  | nil => rfl
  | cons a ks ih =>
    cases j with
    | zero => simp only [List.getElem?_cons_zero, Option.some.injEq] at h; subst h; rfl
    | succ j => simp only [List.getElem?_cons_succ] at h; simp only [List.set_cons_succ, List.map_cons, ih h]
theorem KsI.yes {p : Int → Bool} {l0 : List Int} {ks : KB} (h : KsI p l0 ks) {j : Nat} {x : Int} (hj : ks[j]? = some (x, false)) (hp : p x = true) : KsI p l0 (ks.set j (x, true)) := by
  have e := set_fst (c := true) hj
  refine ⟨by rw [e]; exact h.sub, fun y hy hpy => by rw [e]; exact h.keep y hy hpy, fun q hq hb => ?_⟩
  rcases List.mem_or_eq_of_mem_set hq with hq | rfl
  · exact h.seen q hq hb
  · exact hp
theorem KsI.no {p : Int → Bool} {l0 : List Int} (_hn : l0.Nodup) {ks : KB} (h : KsI p l0 ks) {j : Nat} {x : Int} {b : Bool} (hj : ks[j]? = some (x, b)) (hp : p x = false) : KsI p l0 (ks.eraseIdx j) := by
  have e : (ks.eraseIdx j).map (·.1) = (ks.map (·.1)).eraseIdx j := (map_erase _ _ _).symm
  refine ⟨by rw [e]; exact (List.eraseIdx_sublist _ _).trans h.sub, fun y hy hpy => ?_, fun q hq hb => h.seen q ((List.eraseIdx_sublist _ _).subset hq) hb⟩
  have hm := h.keep y hy hpy
  rw [e]
  obtain ⟨i, hi⟩ := List.mem_iff_getElem?.1 hm
  have hx : (ks.map (·.1))[j]? = some x := by rw [List.getElem?_map, hj]; rfl
  have hij : i ≠ j := fun q => by
    subst q
    rw [hx] at hi; cases hi
    rw [hp] at hpy; cases hpy
  exact List.mem_eraseIdx_iff_getElem?.2 ⟨i, hij, hi⟩
theorem KsI.fin {p : Int → Bool} {l0 : List Int} (hn : l0.Nodup) {ks : KB} (h : KsI p l0 ks) (hall : ∀ q ∈ ks, q.2 = true) : ks.map (·.1) = l0.filter p := by
  refine sub_filter h.sub hn (fun x hx => ?_) h.keep
  obtain ⟨q, hq, rfl⟩ := List.mem_map.1 hx
  exact h.seen q hq (hall q hq)
end Go.Proofs.YtjoagmjijbfjkaaGreatDoor
/-
  WHAT IS TOLD: the second half of the function, in which rooms without minutes are taken out.
-/
namespace Go.Proofs.YtjoagmjijbfjkaaGreatDoor
open Go Go.Am
set_option maxRecDepth 100000
set_option maxHeartbeats 4000000
noncomputable def bodyT : Code := (Tryz.f49.body).getD .skip
noncomputable def tailT : Code := cdrop 2 bodyT
def neL (V : Int → List Spn) (x : Int) : Bool := !(V x).isEmpty
theorem set_erase {α : Type} : ∀ (l : List α) (j : Nat) (x : α), (l.set j x).eraseIdx j = l.eraseIdx j := by
  intro l
  induction l with
  | nil => intro j x; rfl
  | cons a l ih =>
    intro j x
    cases j with
    | zero => rfl
    | succ j => simp only [List.set_cons_succ, List.eraseIdx_cons_succ, ih]
theorem idx_nodup : ∀ {l : List Int} {j : Nat} {x : Int}, l.Nodup → l[j]? = some x → l.idxOf x = j := by
  intro l
  induction l with
  | nil => intro j x _ h; simp at h
  | cons a l ih =>
    intro j x hn h
    obtain ⟨n1, n2⟩ := List.nodup_cons.1 hn
    cases j with
    | zero =>
      simp only [List.getElem?_cons_zero, Option.some.injEq] at h
      subst h
      rw [List.idxOf_cons]; simp
    | succ j =>
      simp only [List.getElem?_cons_succ] at h
      have hne : (a == x) = false := by
        rw [beq_eq_false_iff_ne]
        intro e; subst e
        exact n1 (List.mem_of_getElem? h)
      rw [List.idxOf_cons, hne]
      simp only [cond_false]
      rw [ih n2 h]
theorem exit4 {K1 K2 : Act → World → Prop} {Q : Exit → Act → World → Prop} {a : Act} {w : World} (h : Q .normal a w) : Exit.then K1 (Exit.then K2 (Exit.inBlock 4 Q)) (.exit 4) a w := by
  show (if 4 = 4 then Q .normal a w else Q (.exit 4) a w)
  rw [if_pos rfl]; exact h
structure SwI (V : Int → List Spn) (l0 : List Int) (g : G) (it : Nat) (n : Nat) (a : Act) (w : World) : Prop where
  of : ∃ κ S m r ks cur, RX g κ S a w 1 it m r (lE (fun x => encSps (V x)) ks) cur ∧ elook S.env 33 = .vptr it 0 ∧ elook S.env 3 = .mref 1 ∧ S.H = [] ∧ S.nx = 3 ∧ KsI (neL V) l0 ks ∧ cntF ks = n
theorem tail_ok {g : G} {Q : AX → St → Prop} {V : Int → List Spn} {l0 : List Int} (hn : g.n = 45) (hlo : g.low 2) (hnd : l0.Nodup)
    (hQ : ACode Tryz.prog none g (cdrop 0 tailT) Q ⟨[(3, .mref 1)], [(1, .map (entsG (fun x => encSps (V x)) (l0.filter (neL V))))], 2⟩) :
    ACode Tryz.prog none g tailT Q ⟨[(3, .mref 1)], [(1, .map (entsG (fun x => encSps (V x)) l0))], 2⟩ := by
  intro κ a w hr
  show Code.wpIn (Fr none) 0 Tryz.prog (Code.seq (Code.seq (Code.region _ _ _) (Code.block _ (Code.loop (Code.seq (Code.region _ _ _) (Code.seq (Code.cond _ _ _) (Code.block _ (Code.seq (Code.region _ _ _) (Code.seq (Code.region _ _ _) (Code.cond _ (Code.region _ _ _) _))))))))) (cdrop 0 tailT)) (AQ g Q) a w
  refine wpIn_seq ?_
  refine wpIn_seq (wpIn_region_list ?_)
  show wpListIn _ _ _ _ _ (_ :: _ :: []) _ _
  refine Rel.step (P := Tryz.prog) hr (d := 32) (v := .mref 1) rfl rfl (by rw [hn]; decide) rfl fun κ1 S1 a1 w1 hr1 hH1 hx1 he1 ho1 => ?_
  have hm1 : hget S1.H 1 = some (.map (entsG (fun x => encSps (V x)) l0)) := by rw [hH1]; rfl
  have h31 : elook S1.env 3 = .mref 1 := (ho1 3 (by decide)).trans rfl
  refine RX.enter (P := Tryz.prog) hr1 (d := 33) (mid := 1) rfl rfl (by rw [hn]; decide) rfl ty96 rfl he1 hm1 fun κ2 a2 w2 m r hx2 => ?_
  have hfinal : ∀ (κ : Nat → Option Nat) (S : St) (a : Act) (w : World) (ks : KB) (m r : Nat) (cur : Option (AV × AV)) (it : Nat), RX g κ S a w 1 it m r (lE (fun x => encSps (V x)) ks) cur → elook S.env 3 = .mref 1 → S.H = [] → S.nx = 3 → KsI (neL V) l0 ks → (∀ q ∈ ks, q.2 = true) →
      Code.wpIn (Fr none) 0 Tryz.prog (cdrop 0 tailT) (AQ g Q) a w := by
    intro κ S a w ks m r cur it hx h3 hH hnx hI hall
    have hl := hx.leave
    rw [hH, hnx, lE_fst, hI.fin hnd hall] at hl
    refine hQ _ a w (hl.weaken ?_ hlo)
    refine St.le.of ⟨?_, rfl, trivial⟩ ⟨rfl, (by decide : (1 : Nat) < 2), okE_entsG (fun _ => rfl) _, trivial⟩
    exact h3
  show Code.wpIn (Fr none) 0 Tryz.prog (Code.block _ (Code.loop _)) _ a2 w2
  refine wpIn_block ?_
  refine wpIn_loop_ghost (SwI V l0 g S1.nx) (cntF (l0.map fun x => (x, false))) ⟨κ2, ⟨(33, .vptr S1.nx 0) :: S1.env, herase S1.H 1, S1.nx + 1⟩, m, r, l0.map fun x => (x, false), none, ?_, ?_, ?_, ?_, ?_, ?_, rfl⟩ ?_
  · have e : lE (fun x => encSps (V x)) (l0.map fun x => (x, false)) = (entsG (fun x => encSps (V x)) l0).map fun e => (e, false) := by
      unfold lE entsG
      rw [List.map_map, List.map_map]; rfl
    rw [e]
    exact hx2
  · exact if_pos rfl
  · exact (if_neg (by decide)).trans h31
  · show herase S1.H 1 = []
    rw [hH1]; rfl
  · show S1.nx + 1 = 3
    rw [hx1]
  · have e : (l0.map fun x => (x, false)).map (·.1) = l0 := by rw [List.map_map]; exact List.map_id _
    refine ⟨by rw [e]; exact .refl _, fun x hx _ => by rw [e]; exact hx, fun q hq hb => ?_⟩
    obtain ⟨x, _, rfl⟩ := List.mem_map.1 hq
    cases hb
  · intro n a w hI
    obtain ⟨κ, S, m, r, ks, cur, hx, e33, e3, hH, hnx, hK, hc⟩ := hI.of
    refine wpIn_seq (wpIn_region_list ?_)
    show wpListIn _ _ _ _ _ (_ :: _ :: []) _ _
    refine RX.next (P := Tryz.prog) hx rfl (show (34 : Nat) < g.n by rw [hn]; decide) rfl e33 ?_ ?_
    · intro hall a' hx'
      refine RX.step (P := Tryz.prog) hx' (d := 35) (v := .bool false) rfl rfl (by rw [hn]; decide) rfl fun κ1 S1 a1 w1 hx1 hH1 hnx1 he1 ho1 => ?_
      show Code.wpIn (Fr none) 0 Tryz.prog (Code.seq (Code.cond _ _ _) _) _ a1 w1
      have hb := bool_of (he1 ▸ hx1.rel.env 35)
      refine wpIn_seq (wpIn_cond (t := false) hb ?_)
      refine wpIn_exit ?_
      refine exit4 ?_
      refine hfinal κ1 S1 a1 w1 ks m r cur _ hx1 ((ho1 3 (by decide)).trans ((if_neg (by decide)).trans e3)) (hH1.trans hH) (hnx1.trans hnx) hK fun q hq => ?_
      exact hall (entG (fun x => encSps (V x)) q.1, q.2) (List.mem_map.2 ⟨q, hq, rfl⟩)
    · intro j e hje a' w' hx'
      have hjk : ∃ x, ks[j]? = some (x, false) ∧ e = entG (fun x => encSps (V x)) x := by
        unfold lE at hje
        rw [List.getElem?_map] at hje
        cases hq : ks[j]? with
        | none => rw [hq] at hje; cases hje
        | some q =>
          rw [hq] at hje
          obtain ⟨x, b⟩ := q
          simp only [Option.map_some, Option.some.injEq, Prod.mk.injEq] at hje
          obtain ⟨rfl, rfl⟩ := hje
          exact ⟨x, rfl, rfl⟩
      obtain ⟨x, hjx, rfl⟩ := hjk
      rw [lE_set] at hx'
      refine RX.step (P := Tryz.prog) hx' (d := 35) (v := .bool true) rfl rfl (by rw [hn]; decide) rfl fun κ1 S1 a1 w1 hx1 hH1 hnx1 he1 ho1 => ?_
      show Code.wpIn (Fr none) 0 Tryz.prog (Code.seq (Code.cond _ _ _) _) _ a1 w1
      have hb := bool_of (he1 ▸ hx1.rel.env 35)
      refine wpIn_seq (wpIn_cond (t := true) hb ?_)
      refine wpIn_skip ?_
      show Code.wpIn (Fr none) 0 Tryz.prog (Code.block _ (Code.seq _ _)) _ a1 w1
      have h33 : elook S1.env 33 = .vptr _ 0 := (ho1 33 (by decide)).trans ((if_neg (by decide)).trans e33)
      have h3 : elook S1.env 3 = .mref 1 := (ho1 3 (by decide)).trans ((if_neg (by decide)).trans e3)
      have hHa : S1.H = [] := hH1.trans hH
      have hna : S1.nx = 3 := hnx1.trans hnx
      clear ho1 he1 hb hx' hx
      refine wpIn_block (wpIn_seq (wpIn_region_list ?_))
      show wpListIn _ _ _ _ _ (_ :: _ :: _ :: _ :: _ :: []) _ _
      refine RX.entry (P := Tryz.prog) hx1 rfl (show (36 : Nat) < g.n by rw [hn]; decide) rfl h33 fun a2 hx2 => ?_
      refine RX.step (P := Tryz.prog) hx2 (d := 37) (v := .int .i64 x) rfl rfl (by rw [hn]; decide) rfl fun κ3 S3 a3 w3 hx3 hH3 hnx3 he3 ho3 => ?_
      have f36 : elook S3.env 36 = .tup [.int .i64 x, encSps (V x)] := ho3 36 (by decide)
      refine RX.step (P := Tryz.prog) hx3 (d := 38) (v := encSps (V x)) rfl rfl (by rw [hn]; decide) (by
        show (match elook S3.env 36 with | .tup vs => (vs[1]?).map fun v => (⟨v, []⟩ : Out) | _ => none) = _
        rw [f36]; rfl) fun κ4 S4 a4 w4 hx4 hH4 hnx4 he4 ho4 => ?_
      have f37 : elook S4.env 37 = .int .i64 x := (ho4 37 (by decide)).trans he3
      refine RX.step (P := Tryz.prog) hx4 (d := 7) (v := .int .i64 x) rfl rfl (by rw [hn]; decide) (by
        show some (⟨elook S4.env 37, []⟩ : Out) = _
        rw [f37]) fun κ5 S5 a5 w5 hx5 hH5 hnx5 he5 ho5 => ?_
      have f38 : elook S5.env 38 = encSps (V x) := (ho5 38 (by decide)).trans he4
      refine RX.step (P := Tryz.prog) hx5 (d := 8) (v := encSps (V x)) rfl rfl (by rw [hn]; decide) (by
        show some (⟨elook S5.env 38, []⟩ : Out) = _
        rw [f38]) fun κ6 S6 a6 w6 hx6 hH6 hnx6 he6 ho6 => ?_
      have g7 : elook S6.env 7 = .int .i64 x := (ho6 7 (by decide)).trans he5
      have g33 : elook S6.env 33 = .vptr _ 0 := (ho6 33 (by decide)).trans <| (ho5 33 (by decide)).trans <| (ho4 33 (by decide)).trans <| (ho3 33 (by decide)).trans ((if_neg (by decide)).trans h33)
      have g3 : elook S6.env 3 = .mref 1 := (ho6 3 (by decide)).trans <| (ho5 3 (by decide)).trans <| (ho4 3 (by decide)).trans <| (ho3 3 (by decide)).trans ((if_neg (by decide)).trans h3)
      have hHb : S6.H = [] := hH6.trans <| hH5.trans <| hH4.trans <| hH3.trans hHa
      have hnb : S6.nx = 3 := hnx6.trans <| hnx5.trans <| hnx4.trans <| hnx3.trans hna
      clear ho3 ho4 ho5 ho6 he3 he4 he5 f36 f37 f38 hx1 hx2 hx3 hx4 hx5
      show Code.wpIn (Fr none) 0 Tryz.prog (Code.seq (Code.region _ _ _) (Code.cond _ (Code.region _ _ _) _)) _ a6 w6
      refine wpIn_seq (wpIn_region_list ?_)
      show wpListIn _ _ _ _ _ (_ :: _ :: _ :: []) _ _
      refine RX.step (P := Tryz.prog) hx6 (d := 39) (v := encSps (V x)) rfl rfl (by rw [hn]; decide) (by
        show some (⟨elook S6.env 8, []⟩ : Out) = _
        rw [he6]) fun κ7 S7 a7 w7 hx7 hH7 hnx7 he7 ho7 => ?_
      refine RX.step (P := Tryz.prog) hx7 (d := 40) (v := .int .i64 (((V x).map cSp).length : Int)) rfl rfl (by rw [hn]; decide) (by
        show ((aLen Tryz.prog (hget S7.H) 39 (elook S7.env 39)).map fun v => (⟨v, []⟩ : Out)) = _
        rw [he7]
        simp only [aLen, ty39, encSps]
        rfl) fun κ8 S8 a8 w8 hx8 hH8 hnx8 he8 ho8 => ?_
      refine RX.step (P := Tryz.prog) hx8 (d := 41) (v := .bool ((((V x).map cSp).length : Int) == 0)) rfl rfl (by rw [hn]; decide) (by
        show ((abin Tryz.prog .eql 3 (elook S8.env 40) (.int .i64 0)).map fun v => (⟨v, []⟩ : Out)) = _
        rw [he8]
        rfl) fun κ9 S9 a9 w9 hx9 hH9 hnx9 he9 ho9 => ?_
      have k7 : elook S9.env 7 = .int .i64 x := (ho9 7 (by decide)).trans <| (ho8 7 (by decide)).trans <| (ho7 7 (by decide)).trans g7
      have k33 : elook S9.env 33 = .vptr _ 0 := (ho9 33 (by decide)).trans <| (ho8 33 (by decide)).trans <| (ho7 33 (by decide)).trans g33
      have k3 : elook S9.env 3 = .mref 1 := (ho9 3 (by decide)).trans <| (ho8 3 (by decide)).trans <| (ho7 3 (by decide)).trans g3
      have hHc : S9.H = [] := hH9.trans <| hH8.trans <| hH7.trans hHb
      have hnc : S9.nx = 3 := hnx9.trans <| hnx8.trans <| hnx7.trans hnb
      clear ho7 ho8 ho9 he6 he7 he8 hx6 hx7 hx8
      show Code.wpIn (Fr none) 0 Tryz.prog (Code.cond _ (Code.region _ _ _) _) _ a9 w9
      have hbl := bool_of (he9 ▸ hx9.rel.env 41)
      have hset : (ks.set j (x, true))[j]? = some (x, true) := List.getElem?_set_self (heap_ltL hjx)
      refine wpIn_cond_split hbl (fun hz => ?_) (fun hz => ?_)
      · have hp : neL V x = false := by
          unfold neL
          have hz := eq_of_beq hz
          rw [List.length_map] at hz
          have : V x = [] := List.eq_nil_of_length_eq_zero (by omega)
          rw [this]; rfl
        refine wpIn_region_list ?_
        show wpListIn _ _ _ _ _ (_ :: _ :: _ :: []) _ _
        refine RX.step (P := Tryz.prog) hx9 (d := 42) (v := .mref 1) rfl rfl (by rw [hn]; decide) (by
          show some (⟨elook S9.env 3, []⟩ : Out) = _
          rw [k3]) fun κb Sb ab wb hxb hHb' hnxb heb hob => ?_
        refine RX.step (P := Tryz.prog) hxb (d := 43) (v := .int .i64 x) rfl rfl (by rw [hn]; decide) (by
          show some (⟨elook Sb.env 7, []⟩ : Out) = _
          rw [(hob 7 (by decide)).trans k7]) fun κc Sc ac wc hxc hHc' hnxc hec hoc => ?_
        have l42 : elook Sc.env 42 = .mref 1 := (hoc 42 (by decide)).trans heb
        have l33 : elook Sc.env 33 = .vptr _ 0 := (hoc 33 (by decide)).trans <| (hob 33 (by decide)).trans k33
        have l3 : elook Sc.env 3 = .mref 1 := (hoc 3 (by decide)).trans <| (hob 3 (by decide)).trans k3
        have hK1 : KsI (neL V) l0 ((ks.set j (x, true)).eraseIdx j) := by
          have e : (ks.set j (x, true)).eraseIdx j = ks.eraseIdx j := set_erase ks j _
          rw [e]; exact hK.no hnd hjx hp
        have hnd2 : (ks.map (·.1)).Nodup := hK.sub.nodup hnd
        have hfi : afind Tryz.prog 3 (.int .i64) (.int .i64 x) ((lE (fun x => encSps (V x)) (ks.set j (x, true))).map (·.1)) 0 = some (some (j, encSps (V x))) := by
          rw [lE_fst, set_fst hjx, afindG]
          have hm : (ks.map (·.1))[j]? = some x := by rw [List.getElem?_map, hjx]; rfl
          rw [if_pos (List.mem_of_getElem? hm), idx_nodup hnd2 hm, Nat.zero_add]
        refine RX.delete (P := Tryz.prog) hxc rfl (show dstOk g none from trivial) rfl rfl ty96 rfl ty3 l42 hec rfl hfi fun ad wd hxd => ?_
        rw [lE_erase] at hxd
        show ∃ n', n' < n ∧ SwI V l0 g _ n' ad wd
        refine ⟨_, ?_, ⟨_, _, m, r, _, _, hxd, l33, l3, ?_, ?_, hK1, rfl⟩⟩
        · rw [set_erase, ← hc]; exact cnt_erase hjx
        · exact hHc'.trans <| hHb'.trans hHc
        · exact hnxc.trans <| hnxb.trans hnc
      · refine wpIn_skip ?_
        have hp : neL V x = true := by
          unfold neL
          cases hv : V x with
          | nil => rw [hv] at hz; cases hz
          | cons a l => rfl
        show ∃ n', n' < n ∧ SwI V l0 g _ n' a9 w9
        exact ⟨_, hc ▸ cnt_set hjx, ⟨_, _, m, r, _, _, hx9, k33, k3, hHc, hnc, hK.yes hjx hp, rfl⟩⟩
end Go.Proofs.YtjoagmjijbfjkaaGreatDoor

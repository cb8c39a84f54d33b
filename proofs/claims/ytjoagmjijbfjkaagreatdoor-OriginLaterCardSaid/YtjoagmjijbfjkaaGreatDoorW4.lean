import Derived.Test.YtjoagmjijbfjkaaGreatDoorTy
import Derived.Test.YtjoagmjijbfjkaaGreatDoorAm22
import Derived.Test.YtjoagmjijbfjkaaGreatDoorAm24
import Derived.Test.YtjoagmjijbfjkaaGreatDoorNU
import Derived.Test.YtjoagmjijbfjkaaGreatDoorSr
/-
  SMALL THINGS THAT EVERY WALK WANTS: answers, indexes, lists laid cell by cell.
-/
namespace Go.Proofs.YtjoagmjijbfjkaaGreatDoor
open Go Go.Am
theorem rB {b b' : Bool} (h : b = b') : True ∧ some (AV.bool b) = some (AV.bool b') := ⟨trivial, h ▸ rfl⟩
theorem rI {b b' : Int} {k : IntKind} (h : b = b') : True ∧ some (AV.int k b) = some (AV.int k b') := ⟨trivial, h ▸ rfl⟩
theorem idx {α : Type} {l : List α} {enc : α → List AV} {k : Nat} {a : α} (h : l[k]? = some a) : 0 ≤ (k : Int) ∧ (l.map enc)[(k : Int).toNat]? = some (enc a) := ⟨Int.natCast_nonneg _, by rw [Int.toNat_natCast, List.getElem?_map, h]; rfl⟩
theorem idxW {α : Type} {l : List α} {enc : α → List AV} {k : Nat} {a : α} {n : Int} (hn : n = (k : Int)) (h : l[k]? = some a) : 0 ≤ n ∧ (l.map enc)[n.toNat]? = some (enc a) := by subst hn; exact idx h
theorem getE {α : Type} {l : List α} {k : Nat} (h : k < l.length) : ∃ a, l[k]? = some a := ⟨_, List.getElem?_eq_getElem h⟩
theorem ltLen {α : Type} {l : List α} {enc : α → List AV} {k : Nat} (h : k < l.length) : decide ((k : Int) < ((l.map enc).length : Int)) = true := by simpa using h
theorem geLen {α : Type} {l : List α} {enc : α → List AV} {k : Nat} (h : ¬ k < l.length) : decide ((k : Int) < ((l.map enc).length : Int)) = false := by simpa using h
theorem succ64 {k : Nat} (h : k < 1000000000) : IntKind.i64.wrap ((k : Int) + 1) = ((k + 1 : Nat) : Int) := wrap64 (by omega) (by omega)
theorem mu1 {n k : Nat} (h : k < n) : n - (k + 1) < n - k := by omega
theorem take_all {α : Type} {l : List α} {p : α → Bool} {k : Nat} {a : α} (h : l[k]? = some a) : (l.take (k + 1)).all p = ((l.take k).all p && p a) := by
  rw [List.take_add_one, h]; simp
theorem all_bad {α : Type} {l : List α} {p : α → Bool} {k : Nat} {a : α} (h : l[k]? = some a) (hp : p a = false) : l.all p = false :=
  List.all_eq_false.2 ⟨a, List.mem_of_getElem? h, by simp [hp]⟩
theorem ifmax (a m : Int) : (if a > m then a else m) = max m a := by rw [Int.max_def]; split <;> split <;> omega
theorem ifmin (a m : Int) : (if a < m then a else m) = min m a := by rw [Int.min_def]; split <;> split <;> omega
theorem drop_cons {α : Type} {l : List α} {k : Nat} {a : α} (h : l[k]? = some a) : l.drop k = a :: l.drop (k + 1) := by
  have hk : k < l.length := by
    rcases Nat.lt_or_ge k l.length with h' | h'
    · exact h'
    · rw [List.getElem?_eq_none h'] at h; cases h
  rw [List.drop_eq_getElem_cons hk]
  rw [List.getElem?_eq_getElem hk] at h
  cases h; rfl
/-! Lists of things, laid cell by cell. -/
def fl {α : Type} (enc : α → List AV) (l : List α) : List AV := l.flatMap enc
theorem fl_cons {α : Type} (enc : α → List AV) (a : α) (l : List α) : fl enc (a :: l) = enc a ++ fl enc l := rfl
theorem fl_len {α : Type} {enc : α → List AV} {n : Nat} (h : ∀ a, (enc a).length = n) : ∀ l : List α, (fl enc l).length = l.length * n := by
  intro l
  induction l with
  | nil => simp [fl]
  | cons a l ih => rw [fl_cons, List.length_append, ih, h, List.length_cons, Nat.succ_mul]; omega
theorem okL_app (n : Nat) : ∀ a b : List AV, okL n a = true → okL n b = true → okL n (a ++ b) = true := by
  intro a b ha hb
  induction a with
  | nil => exact hb
  | cons x a ih =>
    simp only [okL, Bool.and_eq_true] at ha
    show (x.ok n && okL n (a ++ b)) = true
    rw [ha.1, ih ha.2]; rfl
theorem fl_ok {α : Type} {enc : α → List AV} {n : Nat} (h : ∀ a, okL n (enc a) = true) : ∀ l : List α, okL n (fl enc l) = true := by
  intro l
  induction l with
  | nil => rfl
  | cons a l ih => rw [fl_cons]; exact okL_app n _ _ (h a) ih
theorem fl_cellB {α : Type} {enc : α → List AV} (h : ∀ a, (enc a).all cellB = true) : ∀ l : List α, (fl enc l).all cellB = true := by
  intro l
  induction l with
  | nil => rfl
  | cons a l ih => rw [fl_cons, List.all_append, h, ih]; rfl
theorem fl_chunks {α : Type} {enc : α → List AV} {n : Nat} (h : ∀ a, (enc a).length = n) : ∀ l : List α, chunks n (fl enc l) l.length = l.map enc := by
  intro l
  induction l with
  | nil => rfl
  | cons a l ih =>
    have e1 : (enc a ++ fl enc l).take n = enc a := by rw [← h a, List.take_left]
    have e2 : (enc a ++ fl enc l).drop n = fl enc l := by rw [← h a, List.drop_left]
    show ((enc a ++ fl enc l).take n) :: chunks n ((enc a ++ fl enc l).drop n) l.length = _
    rw [e1, e2, ih]; rfl
theorem fl_flatten {α : Type} (enc : α → List AV) (l : List α) : (l.map enc).flatten = fl enc l := by
  unfold fl; rw [List.flatMap_def]
theorem map_all {α : Type} {enc : α → List AV} {n : Nat} (h : ∀ a, (enc a).length = n) (l : List α) : ((l.map enc).all fun y => y.length == n) = true := by
  rw [List.all_eq_true]
  intro y hy
  obtain ⟨a, _, rfl⟩ := List.mem_map.1 hy
  simp [h a]
/-- A slice of one's own, let go of as the whole answer's part. -/
theorem thaw_fl {α : Type} {enc : α → List AV} {n : Nat} (d : Nat) {h : Nat → Option AObj} {id : Nat} {l : List α} (hn : ∀ a, (enc a).length = n) (hok : ∀ a, okL 0 (enc a) = true) (h0 : h id = some (.cells (fl enc l))) :
    thaw (d + 2) h (.rsl id 0 l.length n) = some (.lst n (l.map enc), [id]) := by
  have e : thaw (d + 2) h (.rsl id 0 l.length n) = (match h id with
      | some (.cells cs) => if 0 + l.length * n ≤ cs.length then (match mapO (thaw (d + 1) h) cs with | some (cs', is) => some (.lst n (chunks n (cs'.drop 0) l.length), id :: is) | none => none) else none
      | _ => none) := rfl
  rw [e, h0]
  simp only []
  rw [if_pos (by rw [fl_len hn]; omega), thaw_all d h _ (fl_ok hok l)]
  simp only [List.drop_zero, fl_chunks hn]

theorem app_ints {h : Nat → Option AObj} {i nid : Nat} {l : List Int} (h0 : h i = some (.cells [])) (hl : l.length ≤ 100000) : aAppend Tryz.prog h nid 24 24 (.rsl i 0 0 1) (.lst 1 (l.map encI)) = some ⟨.rsl nid 0 l.length 1, [(i, none), (nid, some (.cells (fl encI l)))]⟩ := by
  have hb := fl_cellB (enc := encI) (fun _ => rfl) l
  simp only [aAppend, aAppend0, ty24, ty3, srcCells, map_all (enc := encI) (n := 1) (fun _ => rfl) l, fl_flatten, h0]
  simp [hb]; omega
theorem eqSpan (a b c d : Int) (n : Nat) : aeqT Tryz.prog (n + 2) 36 (.agg [.int .i64 a, .int .i64 b]) (.agg [.int .i64 c, .int .i64 d]) = some (a == c && b == d) := by
  simp [aeqT, aeqF, ty36, ty3, apart, TD.agg, andO]
theorem kmp {a b : Prop} (h : a = b) (x : a) : b := h ▸ x
theorem tTrue : true = true := rfl
theorem rTrue : some (AV.bool true) = some (AV.bool true) := rfl
theorem neS (a b c d : Int) : ((aeqT Tryz.prog 6 36 (.agg [.int .i64 a, .int .i64 b]) (.agg [.int .i64 c, .int .i64 d])).map fun b => AV.bool !b).map (fun v => (⟨v, []⟩ : Out)) = some ⟨.bool !(a == c && b == d), []⟩ := by rw [eqSpan]; rfl
theorem eqSs (a b c d : Int) : ((aeqT Tryz.prog 6 36 (.agg [.int .i64 a, .int .i64 b]) (.agg [.int .i64 c, .int .i64 d])).map AV.bool).map (fun v => (⟨v, []⟩ : Out)) = some ⟨.bool (a == c && b == d), []⟩ := by rw [eqSpan]; rfl
end Go.Proofs.YtjoagmjijbfjkaaGreatDoor
/-
  SLICES OF NUMBERS OF ONE'S OWN: indices, loads, stores.
-/
namespace Go.Proofs.YtjoagmjijbfjkaaGreatDoor
open Go Go.Am
set_option maxRecDepth 100000
def iL (l : List Int) : List AV := fl encI l
theorem iL_eq (l : List Int) : iL l = l.map fun x => .int .i64 x := by
  unfold iL fl
  induction l with
  | nil => rfl
  | cons a l ih => rw [List.flatMap_cons, ih]; rfl
theorem iL_ok (n : Nat) (l : List Int) : okL n (iL l) = true := fl_ok (enc := encI) (fun _ => rfl) l
theorem iL_len (l : List Int) : (iL l).length = l.length := by rw [iL_eq, List.length_map]
theorem iL_flat (l : List Int) : ∀ c ∈ iL l, c.flat = true := by
  intro c hc
  rw [iL_eq] at hc
  obtain ⟨b, _, rfl⟩ := List.mem_map.1 hc
  rfl
theorem ixI {h : Nat → Option AObj} {id n k : Nat} {i : Int} (hi : i = (k : Int)) (hk : k < n) : (aindexAddr Tryz.prog h 24 (.rsl id 0 n 1) (.int .i64 i)).map (fun v => (⟨v, []⟩ : Out)) = some ⟨.vptr id k, []⟩ := by
  subst hi
  simp only [aindexAddr, ty24, ty3]
  rw [if_pos ⟨trivial, Int.natCast_nonneg _, by simpa using hk⟩]
  simp
theorem ldI {h : Nat → Option AObj} {id k : Nat} {l : List Int} {x : Int} (h0 : h id = some (.cells (iL l))) (hk : l[k]? = some x) : aLoad Tryz.prog h 3 (.vptr id k) = some ⟨.int .i64 x, []⟩ := by
  have e : ∃ r, (iL l).drop k = .int .i64 x :: r := by
    rw [iL_eq, ← List.map_drop, drop_cons hk]; exact ⟨_, rfl⟩
  obtain ⟨r, e⟩ := e
  simp only [aLoad, ty3, h0, e, aread]
  rfl
theorem stI {h : Nat → Option AObj} {id k : Nat} {l : List Int} {x : Int} (h0 : h id = some (.cells (iL l))) (hk : k < l.length) :
    aStore Tryz.prog h 3 (.vptr id k) (.int .i64 x) = some ⟨.undef, [(id, some (.cells (iL (l.set k x))))]⟩ := by
  have e : splice (iL l) k [.int .i64 x] = iL (l.set k x) := by
    show (iL l).set k _ = _
    rw [iL_eq, iL_eq, List.map_set]
  have hl : k + 1 ≤ (iL l).length := by rw [iL_len]; omega
  simp only [aStore, ty3, acells, h0]
  rw [if_pos ⟨rfl, hl, rfl⟩, e]
theorem pred64 {j : Nat} (h : j < 1000000) : IntKind.i64.wrap (((j + 1 : Nat) : Int) - 1) = (j : Int) := by rw [wrap64 (by omega) (by omega)]; omega
theorem thawF_all (n : Nat) (h : Nat → Option AObj) : ∀ l : List AV, (∀ c ∈ l, c.flat = true) → mapO (thawF (n + 1) h) l = some (l, []) := by
  intro l
  induction l with
  | nil => intro _; rfl
  | cons a r ih =>
    intro hl
    have e : thawF (n + 1) h a = some (a, []) := by unfold thawF; rw [if_pos (hl a List.mem_cons_self)]
    simp only [mapO, e, ih fun c hc => hl c (List.mem_cons_of_mem _ hc), List.nil_append]
theorem thawF_ints (d : Nat) {h : Nat → Option AObj} {id : Nat} {l : List Int} (h0 : h id = some (.cells (iL l))) : thawF (d + 2) h (.rsl id 0 l.length 1) = some (encR l, [id]) := by
  have e : thawF (d + 2) h (.rsl id 0 l.length 1) = (match h id with
      | some (.cells cs) => if 0 + l.length * 1 ≤ cs.length then (match mapO (thawF (d + 1) h) cs with | some (cs', is) => some (.lst 1 (chunks 1 (cs'.drop 0) l.length), id :: is) | none => none) else none
      | _ => none) := rfl
  rw [e, h0]
  simp only []
  rw [if_pos (by rw [iL_len]; omega), thawF_all d h _ (iL_flat l)]
  simp only [List.drop_zero]
  unfold iL encR
  rw [fl_chunks (enc := encI) (n := 1) (fun _ => rfl)]
theorem APureF.vcM {P : Program} {f : FuncId} {fn : Func} {args : List AV} {r : AV} (hf : P.funcs[f]? = some fn) (τ : Tp) (ha : okL 0 args = true) (hr : r.ok 0 = true)
    (h : vFn P (vxm P 4) fn args [] 0 τ fun r0 H' _ _ => ∃ is, thawF 8 (hget H') r0 = some (r, is)) : APureF P f args r :=
  .range ha hr (((vFn_ok (vxm_ok P 4)).call h hf).mono fun _ _ _ ⟨_, h⟩ => h)
def rfParts : Code → Option (Code × Code)
  | .rangeFunc _ _ a b => some (a, b)
  | .seq a b => (match rfParts a with | some p => some p | none => rfParts b)
  | .cond _ a b => (match rfParts a with | some p => some p | none => rfParts b)
  | .block _ a => rfParts a
  | .loop a => rfParts a
  | .scope a => rfParts a
  | _ => none
def cOf (f : Func) : Code := match f.body with | some c => c | none => .skip
def rfA (f : Func) : Code := match rfParts (cOf f) with | some p => p.1 | none => .skip
def rfB (f : Func) : Code := match rfParts (cOf f) with | some p => p.2 | none => .skip
theorem app_exact {P : Program} {h : Nat → Option AObj} {i len esz nid : Nat} {t u : TypeId} {cs : List AV} {x : AV} (h0 : h i = some (.cells cs)) (hl : ¬ len * esz < cs.length) : aAppend P h nid t u (.rsl i 0 len esz) x = aAppend0 P h nid t u (.rsl i 0 len esz) x := by
  unfold aAppend
  simp only [h0]
  rw [if_neg hl]
/-- One number more. -/
theorem app_one {h : Nat → Option AObj} {i j nid : Nat} {l : List Int} {x : Int} (h0 : h i = some (.cells (iL l))) (h1 : h j = some (.cells [.int .i64 x])) (hl : l.length ≤ 100000) :
    aAppend Tryz.prog h nid 24 24 (.rsl i 0 l.length 1) (.rsl j 0 1 1) = some ⟨.rsl nid 0 (l.length + 1) 1, [(i, none), (nid, some (.cells (iL (l ++ [x]))))]⟩ := by
  have e : iL (l ++ [x]) = iL l ++ [.int .i64 x] := by rw [iL_eq, iL_eq, List.map_append]; rfl
  rw [app_exact h0 (by rw [iL_len]; omega)]
  simp only [aAppend0, ty24, ty3, srcCells, h0, h1]
  simp [iL_len, e, cellB]
  omega
theorem perm_erase {α : Type} : ∀ {l : List α} {j : Nat} {a : α}, l[j]? = some a → (a :: l.eraseIdx j).Perm l
  | [], j, a, h => by simp at h
  | b :: l, 0, a, h => by simp at h; subst h; exact .refl _
  | b :: l, j + 1, a, h => by
    simp only [List.getElem?_cons_succ] at h
    exact (List.Perm.swap b a _).trans ((perm_erase h).cons b)
theorem map_erase {α β : Type} (f : α → β) : ∀ (l : List α) (j : Nat), (l.map f).eraseIdx j = (l.eraseIdx j).map f
  | [], j => rfl
  | b :: l, 0 => rfl
  | b :: l, j + 1 => by simp only [List.map_cons, List.eraseIdx_cons_succ, map_erase f l j]
end Go.Proofs.YtjoagmjijbfjkaaGreatDoor
/-
  SPANS AND TIMES.
-/
namespace Go.Proofs.YtjoagmjijbfjkaaGreatDoor
open Go Go.Am
set_option maxRecDepth 100000
set_option maxHeartbeats 4000000
theorem inB_f1 {lo hi x : Int} (h : decide (lo ≤ x) = false) : inB lo hi x = false := by
  rw [Bool.eq_false_iff]; intro q; have := (inB_iff.1 q).1; exact absurd this (of_decide_eq_false h)
theorem inB_t1 {lo hi x : Int} (h : decide (lo ≤ x) = true) : decide (x ≤ hi) = inB lo hi x := by
  have := of_decide_eq_true h
  unfold inB
  congr 1
  exact propext ⟨fun q => ⟨this, q⟩, fun q => q.2⟩
theorem within_spec (lo hi x : Int) : APure Tryz.prog 70 [.agg [.int .i64 lo, .int .i64 hi], .int .i64 x] (.bool (inB lo hi x)) :=
  APure.vc Tryz.func70 rfl (.both 9 .nil .nil) rfl rfl ⟨fun h => rB (inB_t1 h), fun h => rB (inB_f1 h).symm⟩
theorem upTo_spec (n : Int) : APure Tryz.prog 78 [.int .i64 n] (.agg [.int .i64 0, .int .i64 n]) := APure.vc Tryz.func78 rfl .nil rfl rfl ⟨trivial, rfl⟩
theorem isSpan_spec (g lo hi : Int) : APure Tryz.prog 112 [.agg [.int .i64 lo, .int .i64 hi], .int .i64 g] (.bool (spanB g lo hi)) := by
  have u := upTo_spec g
  have w1 := within_spec 0 g lo
  have w2 := within_spec 0 g hi
  unfold spanB
  cases h1 : inB 0 g lo
  · rw [h1] at w1
    exact APure.vc Tryz.func112 rfl (.draw 17 <| .call (.agg [.int .i64 0, .int .i64 g]) <| .call (.bool false) .nil) rfl rfl ⟨by kernel_rfl, mixed, by kernel_rfl, u, w1, by kernel_rfl, rB rfl⟩
  · rw [h1] at w1
    cases h2 : inB 0 g hi
    · rw [h2] at w2
      exact APure.vc Tryz.func112 rfl (.draw 17 <| .call (.agg [.int .i64 0, .int .i64 g]) <| .call (.bool true) <| .call (.agg [.int .i64 0, .int .i64 g]) <| .call (.bool false) .nil) rfl rfl ⟨by kernel_rfl, mixed, by kernel_rfl, u, w1, u, w2, by kernel_rfl, rB rfl⟩
    · rw [h2] at w2
      exact APure.vc Tryz.func112 rfl (.draw 17 <| .call (.agg [.int .i64 0, .int .i64 g]) <| .call (.bool true) <| .call (.agg [.int .i64 0, .int .i64 g]) <| .call (.bool true) .nil) rfl rfl ⟨by kernel_rfl, mixed, by kernel_rfl, u, w1, u, w2, by kernel_rfl, rB rfl⟩
theorem isRoom_spec (s : Scn) (x : Int) (h : -1000000 ≤ s.rooms ∧ s.rooms ≤ 1000000) : APure Tryz.prog 62 [encSc s, .int .i64 x] (.bool (isR s.rooms x)) := by
  have u := upTo_spec (IntKind.i64.wrap (s.rooms - 1))
  have w := within_spec 0 (IntKind.i64.wrap (s.rooms - 1)) x
  have e : inB 0 (IntKind.i64.wrap (s.rooms - 1)) x = isR s.rooms x := by rw [wrap64 (by omega) (by omega)]; rfl
  rw [e] at w
  exact APure.vc Tryz.func62 rfl (.call (.agg [.int .i64 0, .int .i64 (IntKind.i64.wrap (s.rooms - 1))]) <| .call (.bool (isR s.rooms x)) .nil) rfl rfl ⟨u, w, rB rfl⟩
/-! ### times -/
theorem eqTm (n : Nat) (a b : Int) (p q : Bool) : aeqT Tryz.prog (n + 2) 113 (.agg [.int .i64 a, .bool p]) (.agg [.int .i64 b, .bool q]) = some (a == b && p == q) := by
  simp [aeqT, aeqF, ty113, ty3, ty4, apart, TD.agg, andO]
theorem nvE (t : Tm) : ((aeqT Tryz.prog 6 113 (.agg (cTm t)) (.agg [.int .i64 0, .bool true])).map AV.bool).map (fun v => (⟨v, []⟩ : Out)) = some ⟨.bool t.isNone, []⟩ := by
  unfold cTm; rw [eqTm]; cases t <;> simp
theorem nvN (t : Tm) : ((aeqT Tryz.prog 6 113 (.agg (cTm t)) (.agg [.int .i64 0, .bool true])).map fun b => AV.bool !b).map (fun v => (⟨v, []⟩ : Out)) = some ⟨.bool (!t.isNone), []⟩ := by
  unfold cTm; rw [eqTm]; cases t <;> simp
/-- Times that are not long. -/
def smT (t : Tm) : Prop := ∀ c, t = some c → 0 ≤ c ∧ c ≤ 1000000
theorem in_spec (t : Tm) (lo hi : Int) (ht : smT t) (hl : -1000000 ≤ lo ∧ lo ≤ 1000000) (hh : -1000000 ≤ hi ∧ hi ≤ 1000000) : APure Tryz.prog 85 [encTm t, .agg [.int .i64 lo, .int .i64 hi]] (encSp (inT t lo hi)) := by
  have e7 := nvE t
  cases t with
  | none => exact APure.vc Tryz.func85 rfl (.val 7 (.bool true) [] .nil) rfl rfl ⟨Eq.trans (by kernel_rfl) e7, trivial, rfl⟩
  | some c =>
    have hc := ht c rfl
    have e : some (AV.agg [.int .i64 (IntKind.i64.wrap (lo - c)), .int .i64 (IntKind.i64.wrap (hi - c))]) = some (encSp (inT (some c) lo hi)) := by rw [wrap64 (by omega) (by omega), wrap64 (by omega) (by omega)]; rfl
    exact APure.vc Tryz.func85 rfl (.val 7 (.bool false) [] .nil) rfl rfl ⟨Eq.trans (by kernel_rfl) e7, trivial, Eq.trans (by kernel_rfl) e⟩
theorem until_spec (t : Tm) (m : Int) (ht : smT t) (hl : -1000000 ≤ m ∧ m ≤ 1000000) : APure Tryz.prog 89 [encTm t, .int .i64 m] (encSp (untilT t m)) := by
  have e7 := nvE t
  cases t with
  | none => exact APure.vc Tryz.func89 rfl (.val 7 (.bool true) [] .nil) rfl rfl ⟨Eq.trans (by kernel_rfl) e7, trivial, rfl⟩
  | some c =>
    have hc := ht c rfl
    have e : some (AV.agg [.int .i64 0, .int .i64 (IntKind.i64.wrap (m - c))]) = some (encSp (untilT (some c) m)) := by rw [wrap64 (by omega) (by omega)]; rfl
    exact APure.vc Tryz.func89 rfl (.val 7 (.bool false) [] .nil) rfl rfl ⟨Eq.trans (by kernel_rfl) e7, trivial, Eq.trans (by kernel_rfl) e⟩
theorem after_spec (t : Tm) (m : Int) (ht : smT t) (hl : -1000000 ≤ m ∧ m ≤ 1000000) : APure Tryz.prog 87 [encTm t, .int .i64 m] (encSp (afterT t m)) := by
  have e7 := nvE t
  cases t with
  | none => exact APure.vc Tryz.func87 rfl (.val 7 (.bool true) [] .nil) rfl rfl ⟨Eq.trans (by kernel_rfl) e7, trivial, rfl⟩
  | some c =>
    have hc := ht c rfl
    have e : some (AV.agg [.int .i64 (IntKind.i64.wrap (IntKind.i64.wrap (m + 1) - c)), .int .i64 600]) = some (encSp (afterT (some c) m)) := by rw [wrap64 (n := m + 1) (by omega) (by omega), wrap64 (by omega) (by omega)]; rfl
    exact APure.vc Tryz.func87 rfl (.val 7 (.bool false) [] .nil) rfl rfl ⟨Eq.trans (by kernel_rfl) e7, trivial, Eq.trans (by kernel_rfl) e⟩
theorem isBefore_spec (t u : Tm) : APure Tryz.prog 93 [encTm t, encTm u] (.bool (befT t u)) := by
  have e7 := nvN t
  have e11 := nvE u
  cases t with
  | none => exact APure.vc Tryz.func93 rfl (.val 7 (.bool false) [] .nil) rfl rfl ⟨Eq.trans (by kernel_rfl) e7, rB rfl⟩
  | some c =>
    cases u with
    | none => exact APure.vc Tryz.func93 rfl (.val 7 (.bool true) [] <| .val 11 (.bool true) [] .nil) rfl rfl ⟨Eq.trans (by kernel_rfl) e7, Eq.trans (by kernel_rfl) e11, rB rfl⟩
    | some d => exact APure.vc Tryz.func93 rfl (.val 7 (.bool true) [] <| .val 11 (.bool false) [] .nil) rfl rfl ⟨Eq.trans (by kernel_rfl) e7, Eq.trans (by kernel_rfl) e11, rB rfl⟩
theorem sooner_spec (t u : Tm) : APure Tryz.prog 97 [encTm t, encTm u] (encTm (soonT t u)) := by
  have s := isBefore_spec u t
  unfold soonT
  cases h : befT u t
  · rw [h] at s
    exact APure.vc Tryz.func97 rfl (.call (.bool false) .nil) rfl rfl ⟨s, trivial, rfl⟩
  · rw [h] at s
    exact APure.vc Tryz.func97 rfl (.call (.bool true) .nil) rfl rfl ⟨s, trivial, rfl⟩
theorem and_spec (t u : Tm) (ht : smT t) (hu : smT u) : APure Tryz.prog 98 [encTm t, encTm u] (encTm (andT t u)) := by
  have e7 := nvE t
  have e11 := nvE u
  cases t with
  | none => exact APure.vc Tryz.func98 rfl (.val 7 (.bool true) [] .nil) rfl rfl ⟨Eq.trans (by kernel_rfl) e7, trivial, rfl⟩
  | some c =>
    cases u with
    | none => exact APure.vc Tryz.func98 rfl (.val 7 (.bool false) [] <| .val 11 (.bool true) [] .nil) rfl rfl ⟨Eq.trans (by kernel_rfl) e7, Eq.trans (by kernel_rfl) e11, trivial, rfl⟩
    | some d =>
      have hc := ht c rfl
      have hd := hu d rfl
      have e : some (AV.agg [.int .i64 (IntKind.i64.wrap (c + d)), .bool false]) = some (encTm (andT (some c) (some d))) := by rw [wrap64 (by omega) (by omega)]; rfl
      exact APure.vc Tryz.func98 rfl (.val 7 (.bool false) [] <| .val 11 (.bool false) [] .nil) rfl rfl ⟨Eq.trans (by kernel_rfl) e7, Eq.trans (by kernel_rfl) e11, trivial, Eq.trans (by kernel_rfl) e⟩
theorem overlap_spec (a b : Spn) : APure Tryz.prog 100 [encSp a, encSp b] (encSp (overV a b)) := by
  have e : some (AV.agg [.int .i64 (if b.1 > a.1 then b.1 else a.1), .int .i64 (if b.2 < a.2 then b.2 else a.2)]) = some (encSp (overV a b)) := by rw [ifmax, ifmin]; rfl
  exact APure.vc Tryz.func100 rfl .nil rfl rfl ⟨trivial, Eq.trans (by kernel_rfl) e⟩
end Go.Proofs.YtjoagmjijbfjkaaGreatDoor
/-
  WHAT IS VALID OF A SCENE: Check.
-/
namespace Go.Proofs.YtjoagmjijbfjkaaGreatDoor
open Go Go.Am
set_option maxRecDepth 100000
set_option maxHeartbeats 4000000
def kdF (i : Nat) : AV := .fn (.func i) [] []
def kdL : List AV := [.bool false, .bool false, .bool false, .nilFunc, .bool true, .bool false, .bool false, kdF 84, .bool true, .bool false, .bool false, kdF 86, .bool true, .bool false, .bool false, kdF 88, .bool false, .bool true, .bool false, kdF 90, .bool false, .bool true, .bool false, kdF 91, .bool false, .bool false, .bool true, kdF 92]
theorem kinds_spec : APure Tryz.prog 63 [] (.agg kdL) := APure.vc Tryz.func63 rfl (.val 7 (.agg kdL) [] <| .val 1 .undef [(0, some (.cells kdL))] .nil) rfl rfl (kmp (a := (some (⟨.agg kdL, []⟩ : Out) = some ⟨.agg kdL, []⟩) ∧ (some (⟨.undef, [(0, some (.cells kdL))]⟩ : Out) = some ⟨.undef, [(0, some (.cells kdL))]⟩) ∧ True ∧ some (AV.agg kdL) = some (AV.agg kdL)) (by kernel_rfl) ⟨rfl, rfl, trivial, rfl⟩)
theorem eqSpan0 (a b : Int) : ((aeqT Tryz.prog 6 36 (.agg [.int .i64 a, .int .i64 b]) (.agg [.int .i64 0, .int .i64 0])).map fun b => AV.bool !b).map (fun v => (⟨v, []⟩ : Out)) = some ⟨.bool !(a == 0 && b == 0), []⟩ := neS a b 0 0
/-- The cells of a mark, with a kind that is told. -/
def cMj (i k r o lo hi l : Int) : List AV := [.int .i64 i, .int .u8 k, .int .i64 r, .int .i64 o, .int .i64 lo, .int .i64 hi, .int .i64 l]
theorem cMk_eq (m : Mk) : cMk m = cMj m.id m.kd.val m.room m.other m.lo m.hi m.long := rfl
theorem uses1 (s : Scn) (i r x lo hi l : Int) : APure Tryz.prog 113 [encSc s, .agg (cMj i 1 r x lo hi l)] (.bool (x == 0 && (spanB 600 lo hi && l == 0))) := by
  have sp := isSpan_spec 600 lo hi
  have h0 : (x != 0) = true → false = (x == 0 && (spanB 600 lo hi && l == 0)) := fun h => by rw [bne_iff_ne] at h; rw [beq_eq_false_iff_ne.2 h]; rfl
  have h1 : (x != 0) = false → (x == 0) = true := fun h => by simpa using h
  cases hs : spanB 600 lo hi
  · rw [hs] at sp h0
    exact APure.vc Tryz.func113 rfl (.draw 5 <| .call (.agg kdL) <| .val 17 (.agg [.bool true, .bool false, .bool false, kdF 84]) [] <| .both 43 .nil (.call (.bool false) .nil)) rfl rfl ⟨by kernel_rfl, mixed, by kernel_rfl, kinds_spec, by kernel_rfl, by kernel_rfl, fun h => rB (h0 h), fun h => ⟨sp, rB (by rw [h1 h]; rfl)⟩⟩
  · rw [hs] at sp h0
    exact APure.vc Tryz.func113 rfl (.draw 5 <| .call (.agg kdL) <| .val 17 (.agg [.bool true, .bool false, .bool false, kdF 84]) [] <| .both 43 .nil (.call (.bool true) <| .draw 6 .nil)) rfl rfl ⟨by kernel_rfl, mixed, by kernel_rfl, kinds_spec, by kernel_rfl, by kernel_rfl, fun h => rB (h0 h), fun h => ⟨sp, by kernel_rfl, mixed, by kernel_rfl, by kernel_rfl, rB (by rw [h1 h]; rfl)⟩⟩
theorem uses2 (s : Scn) (i r x lo hi l : Int) : APure Tryz.prog 113 [encSc s, .agg (cMj i 2 r x lo hi l)] (.bool (x == 0 && (spanB 600 lo hi && l == 0))) := by
  have sp := isSpan_spec 600 lo hi
  have h0 : (x != 0) = true → false = (x == 0 && (spanB 600 lo hi && l == 0)) := fun h => by rw [bne_iff_ne] at h; rw [beq_eq_false_iff_ne.2 h]; rfl
  have h1 : (x != 0) = false → (x == 0) = true := fun h => by simpa using h
  cases hs : spanB 600 lo hi
  · rw [hs] at sp h0
    exact APure.vc Tryz.func113 rfl (.draw 5 <| .call (.agg kdL) <| .val 17 (.agg [.bool true, .bool false, .bool false, kdF 86]) [] <| .both 43 .nil (.call (.bool false) .nil)) rfl rfl ⟨by kernel_rfl, mixed, by kernel_rfl, kinds_spec, by kernel_rfl, by kernel_rfl, fun h => rB (h0 h), fun h => ⟨sp, rB (by rw [h1 h]; rfl)⟩⟩
  · rw [hs] at sp h0
    exact APure.vc Tryz.func113 rfl (.draw 5 <| .call (.agg kdL) <| .val 17 (.agg [.bool true, .bool false, .bool false, kdF 86]) [] <| .both 43 .nil (.call (.bool true) <| .draw 6 .nil)) rfl rfl ⟨by kernel_rfl, mixed, by kernel_rfl, kinds_spec, by kernel_rfl, by kernel_rfl, fun h => rB (h0 h), fun h => ⟨sp, by kernel_rfl, mixed, by kernel_rfl, by kernel_rfl, rB (by rw [h1 h]; rfl)⟩⟩
theorem uses3 (s : Scn) (i r x lo hi l : Int) : APure Tryz.prog 113 [encSc s, .agg (cMj i 3 r x lo hi l)] (.bool (x == 0 && (spanB 600 lo hi && l == 0))) := by
  have sp := isSpan_spec 600 lo hi
  have h0 : (x != 0) = true → false = (x == 0 && (spanB 600 lo hi && l == 0)) := fun h => by rw [bne_iff_ne] at h; rw [beq_eq_false_iff_ne.2 h]; rfl
  have h1 : (x != 0) = false → (x == 0) = true := fun h => by simpa using h
  cases hs : spanB 600 lo hi
  · rw [hs] at sp h0
    exact APure.vc Tryz.func113 rfl (.draw 5 <| .call (.agg kdL) <| .val 17 (.agg [.bool true, .bool false, .bool false, kdF 88]) [] <| .both 43 .nil (.call (.bool false) .nil)) rfl rfl ⟨by kernel_rfl, mixed, by kernel_rfl, kinds_spec, by kernel_rfl, by kernel_rfl, fun h => rB (h0 h), fun h => ⟨sp, rB (by rw [h1 h]; rfl)⟩⟩
  · rw [hs] at sp h0
    exact APure.vc Tryz.func113 rfl (.draw 5 <| .call (.agg kdL) <| .val 17 (.agg [.bool true, .bool false, .bool false, kdF 88]) [] <| .both 43 .nil (.call (.bool true) <| .draw 6 .nil)) rfl rfl ⟨by kernel_rfl, mixed, by kernel_rfl, kinds_spec, by kernel_rfl, by kernel_rfl, fun h => rB (h0 h), fun h => ⟨sp, by kernel_rfl, mixed, by kernel_rfl, by kernel_rfl, rB (by rw [h1 h]; rfl)⟩⟩
theorem uses4 (s : Scn) (i r x lo hi l : Int) : APure Tryz.prog 113 [encSc s, .agg (cMj i 4 r x lo hi l)] (.bool (x == 0 && ((lo == 0 && hi == 0) && inB 0 600 l))) := by
  have u := upTo_spec 600
  have w := within_spec 0 600 l
  have ne := eqSpan0 lo hi
  have h0 : (x != 0) = true → false = (x == 0 && ((lo == 0 && hi == 0) && inB 0 600 l)) := fun h => by rw [bne_iff_ne] at h; rw [beq_eq_false_iff_ne.2 h]; rfl
  have h1 : (x != 0) = false → (x == 0) = true := fun h => by simpa using h
  cases hs : (lo == 0 && hi == 0)
  · rw [hs] at ne h0
    exact APure.vc Tryz.func113 rfl (.draw 5 <| .call (.agg kdL) <| .val 17 (.agg [.bool false, .bool true, .bool false, kdF 90]) [] <| .both 43 .nil (.val 60 (.bool true) [] .nil)) rfl rfl ⟨by kernel_rfl, mixed, by kernel_rfl, kinds_spec, by kernel_rfl, by kernel_rfl, fun h => rB (h0 h), fun h => ⟨Eq.trans (by kernel_rfl) ne, rB (by rw [h1 h]; rfl)⟩⟩
  · rw [hs] at ne h0
    cases hl : inB 0 600 l
    · rw [hl] at w h0
      exact APure.vc Tryz.func113 rfl (.draw 5 <| .call (.agg kdL) <| .val 17 (.agg [.bool false, .bool true, .bool false, kdF 90]) [] <| .both 43 .nil (.val 60 (.bool false) [] <| .draw 6 <| .call (.agg [.int .i64 0, .int .i64 600]) <| .call (.bool false) .nil)) rfl rfl ⟨by kernel_rfl, mixed, by kernel_rfl, kinds_spec, by kernel_rfl, by kernel_rfl, fun h => rB (h0 h), fun h => ⟨Eq.trans (by kernel_rfl) ne, by kernel_rfl, mixed, by kernel_rfl, u, by kernel_rfl, w, rB (by rw [h1 h]; rfl)⟩⟩
    · rw [hl] at w h0
      exact APure.vc Tryz.func113 rfl (.draw 5 <| .call (.agg kdL) <| .val 17 (.agg [.bool false, .bool true, .bool false, kdF 90]) [] <| .both 43 .nil (.val 60 (.bool false) [] <| .draw 6 <| .call (.agg [.int .i64 0, .int .i64 600]) <| .call (.bool true) .nil)) rfl rfl ⟨by kernel_rfl, mixed, by kernel_rfl, kinds_spec, by kernel_rfl, by kernel_rfl, fun h => rB (h0 h), fun h => ⟨Eq.trans (by kernel_rfl) ne, by kernel_rfl, mixed, by kernel_rfl, u, by kernel_rfl, w, rB (by rw [h1 h]; rfl)⟩⟩
theorem uses5 (s : Scn) (i r x lo hi l : Int) : APure Tryz.prog 113 [encSc s, .agg (cMj i 5 r x lo hi l)] (.bool (x == 0 && ((lo == 0 && hi == 0) && inB 0 600 l))) := by
  have u := upTo_spec 600
  have w := within_spec 0 600 l
  have ne := eqSpan0 lo hi
  have h0 : (x != 0) = true → false = (x == 0 && ((lo == 0 && hi == 0) && inB 0 600 l)) := fun h => by rw [bne_iff_ne] at h; rw [beq_eq_false_iff_ne.2 h]; rfl
  have h1 : (x != 0) = false → (x == 0) = true := fun h => by simpa using h
  cases hs : (lo == 0 && hi == 0)
  · rw [hs] at ne h0
    exact APure.vc Tryz.func113 rfl (.draw 5 <| .call (.agg kdL) <| .val 17 (.agg [.bool false, .bool true, .bool false, kdF 91]) [] <| .both 43 .nil (.val 60 (.bool true) [] .nil)) rfl rfl ⟨by kernel_rfl, mixed, by kernel_rfl, kinds_spec, by kernel_rfl, by kernel_rfl, fun h => rB (h0 h), fun h => ⟨Eq.trans (by kernel_rfl) ne, rB (by rw [h1 h]; rfl)⟩⟩
  · rw [hs] at ne h0
    cases hl : inB 0 600 l
    · rw [hl] at w h0
      exact APure.vc Tryz.func113 rfl (.draw 5 <| .call (.agg kdL) <| .val 17 (.agg [.bool false, .bool true, .bool false, kdF 91]) [] <| .both 43 .nil (.val 60 (.bool false) [] <| .draw 6 <| .call (.agg [.int .i64 0, .int .i64 600]) <| .call (.bool false) .nil)) rfl rfl ⟨by kernel_rfl, mixed, by kernel_rfl, kinds_spec, by kernel_rfl, by kernel_rfl, fun h => rB (h0 h), fun h => ⟨Eq.trans (by kernel_rfl) ne, by kernel_rfl, mixed, by kernel_rfl, u, by kernel_rfl, w, rB (by rw [h1 h]; rfl)⟩⟩
    · rw [hl] at w h0
      exact APure.vc Tryz.func113 rfl (.draw 5 <| .call (.agg kdL) <| .val 17 (.agg [.bool false, .bool true, .bool false, kdF 91]) [] <| .both 43 .nil (.val 60 (.bool false) [] <| .draw 6 <| .call (.agg [.int .i64 0, .int .i64 600]) <| .call (.bool true) .nil)) rfl rfl ⟨by kernel_rfl, mixed, by kernel_rfl, kinds_spec, by kernel_rfl, by kernel_rfl, fun h => rB (h0 h), fun h => ⟨Eq.trans (by kernel_rfl) ne, by kernel_rfl, mixed, by kernel_rfl, u, by kernel_rfl, w, rB (by rw [h1 h]; rfl)⟩⟩
theorem uses6 (s : Scn) (hsr : -1000000 ≤ s.rooms ∧ s.rooms ≤ 1000000) (i r x lo hi l : Int) : APure Tryz.prog 113 [encSc s, .agg (cMj i 6 r x lo hi l)] (.bool ((isR s.rooms x && !(x == r)) && ((lo == 0 && hi == 0) && l == 0))) := by
  have rm := isRoom_spec s x hsr
  have ne := eqSpan0 lo hi
  cases hr : isR s.rooms x
  · rw [hr] at rm
    exact APure.vc Tryz.func113 rfl (.draw 5 <| .call (.agg kdL) <| .val 17 (.agg [.bool false, .bool false, .bool true, kdF 92]) [] <| .call (.bool false) .nil) rfl rfl ⟨by kernel_rfl, mixed, by kernel_rfl, kinds_spec, by kernel_rfl, by kernel_rfl, rm, rB rfl⟩
  · rw [hr] at rm
    cases hs : (lo == 0 && hi == 0)
    · rw [hs] at ne
      exact APure.vc Tryz.func113 rfl (.draw 5 <| .call (.agg kdL) <| .val 17 (.agg [.bool false, .bool false, .bool true, kdF 92]) [] <| .call (.bool true) <| .both 34 (.nil) (.val 60 (.bool true) [] .nil)) rfl rfl ⟨by kernel_rfl, mixed, by kernel_rfl, kinds_spec, by kernel_rfl, by kernel_rfl, rm, fun h => rB (by rw [h]; rfl), fun h => ⟨Eq.trans (by kernel_rfl) ne, rB (by rw [h]; rfl)⟩⟩
    · rw [hs] at ne
      exact APure.vc Tryz.func113 rfl (.draw 5 <| .call (.agg kdL) <| .val 17 (.agg [.bool false, .bool false, .bool true, kdF 92]) [] <| .call (.bool true) <| .both 34 (.nil) (.val 60 (.bool false) [] <| .draw 6 .nil)) rfl rfl ⟨by kernel_rfl, mixed, by kernel_rfl, kinds_spec, by kernel_rfl, by kernel_rfl, rm, fun h => rB (by rw [h]; rfl), fun h => ⟨Eq.trans (by kernel_rfl) ne, by kernel_rfl, mixed, by kernel_rfl, by kernel_rfl, rB (by rw [h]; rfl)⟩⟩
theorem uses0 (s : Scn) (i k r x lo hi l : Int) (hk : k < 1 ∨ k > 6) : APure Tryz.prog 113 [encSc s, .agg (cMj i k r x lo hi l)] (.bool false) := by
  have h1 : decide (k < 1) = false → decide (k > 6) = true := fun h => decide_eq_true (by have := of_decide_eq_false h; omega)
  exact APure.vc Tryz.func113 rfl (.both 9 .nil (.br 13 true .nil)) rfl rfl ⟨fun _ => rB rfl, fun h => ⟨h1 h, rB rfl⟩⟩
theorem uses_spec (s : Scn) (hsr : -1000000 ≤ s.rooms ∧ s.rooms ≤ 1000000) (m : Mk) : APure Tryz.prog 113 [encSc s, .agg (cMk m)] (.bool (usB s.rooms m)) := by
  rw [cMk_eq]
  by_cases h1 : m.kd.val = 1
  · have := uses1 s m.id m.room m.other m.lo m.hi m.long
    unfold usB; rw [h1]; exact this
  by_cases h2 : m.kd.val = 2
  · have := uses2 s m.id m.room m.other m.lo m.hi m.long
    unfold usB; rw [h2]; exact this
  by_cases h3 : m.kd.val = 3
  · have := uses3 s m.id m.room m.other m.lo m.hi m.long
    unfold usB; rw [h3]; exact this
  by_cases h4 : m.kd.val = 4
  · have := uses4 s m.id m.room m.other m.lo m.hi m.long
    unfold usB; rw [h4]; exact this
  by_cases h5 : m.kd.val = 5
  · have := uses5 s m.id m.room m.other m.lo m.hi m.long
    unfold usB; rw [h5]; exact this
  by_cases h6 : m.kd.val = 6
  · have := uses6 s hsr m.id m.room m.other m.lo m.hi m.long
    unfold usB; rw [h6]; exact this
  have := uses0 s m.id m.kd.val m.room m.other m.lo m.hi m.long (by omega)
  have e : usB s.rooms m = false := by
    unfold usB
    rw [if_neg h6, if_neg (by omega), if_neg (by omega)]
  rw [e]; exact this
end Go.Proofs.YtjoagmjijbfjkaaGreatDoor
/-
  WHETHER A SCENE IS VALID.
-/
namespace Go.Proofs.YtjoagmjijbfjkaaGreatDoor
open Go Go.Am
set_option maxRecDepth 100000
set_option maxHeartbeats 4000000
theorem ltLenG {l : List Gt} {k : Nat} (h : k < l.length) : decide ((k : Int) < ((l.map cGt).length : Int)) = true := ltLen h
/-- Gates. -/
theorem areGates_spec (s : Scn) (hr : 1 ≤ s.rooms ∧ s.rooms ≤ 6) : APure Tryz.prog 79 [encSc s] (.bool (decide (s.gates.length ≤ 6) && s.gates.all (gtB s.rooms))) := by
  by_cases hlen : s.gates.length ≤ 6
  · have el : decide (((s.gates.map cGt).length : Int) > 6) = false := decide_eq_false (by rw [List.length_map]; omega)
    rw [decide_eq_true hlen, Bool.true_and]
    refine APure.vc Tryz.func79 rfl (.br 8 false .loop) rfl rfl ⟨el, ?_⟩
    intro g hn hl
    replace hn : g.n = 50 := hn
    replace hl : g.low 0 := hl
    refine acode_while (fun k : Nat => ⟨[(1, .vptr 0 0), (10, encGs s.gates), (11, .int .i64 (s.gates.map cGt).length), (12, .int .i64 k)], [(0, .cells (cSc s))], 1⟩) (fun k => k ≤ s.gates.length ∧ (s.gates.take k).all (gtB s.rooms) = true) (fun k => s.gates.length - k) 0 ⟨Nat.zero_le _, rfl⟩ ?_ (fun _ _ => hl.mono (Nat.zero_le _)) ?_
    · exact St.le.of ⟨by kernel_rfl, rfl, by kernel_rfl, rfl, by kernel_rfl, rfl, by kernel_rfl, rfl, trivial⟩ ⟨by kernel_rfl, (by decide : (0 : Nat) < 1), rfl, trivial⟩
    · rintro k ⟨hk1, hk2⟩
      by_cases hlt : k < s.gates.length
      · refine Exists.elim (getE hlt) fun x hx => ?_
        have ek := congrArg (AV.int .i64) (succ64 (k := k) (by omega))
        have ra := isRoom_spec s x.a ⟨by omega, by omega⟩
        have rb := isRoom_spec s x.b ⟨by omega, by omega⟩
        have sp := isSpan_spec 60 x.lo x.hi
        have bad : gtB s.rooms x = false → false = s.gates.all (gtB s.rooms) := fun h => (all_bad hx h).symm
        have good : gtB s.rooms x = true → (s.gates.take (k + 1)).all (gtB s.rooms) = true := fun h => by rw [take_all hx, hk2, h]; rfl
        cases h1 : isR s.rooms x.a
        · rw [h1] at ra
          have b1 := bad (by unfold gtB; rw [h1]; rfl)
          exact ACode.vc (.br 13 true <| .cells (cGt x) <| .call (.bool false) .nil) hn hl (.round .cl) ⟨ltLen hlt, idx hx, ra, _, .refl _, .nil, rB b1⟩
        · rw [h1] at ra
          cases h2 : isR s.rooms x.b
          · rw [h2] at rb
            have b1 := bad (by unfold gtB; rw [h1, h2]; rfl)
            exact ACode.vc (.br 13 true <| .cells (cGt x) <| .call (.bool true) <| .call (.bool false) .nil) hn hl (.round .cl) ⟨ltLen hlt, idx hx, ra, rb, _, .refl _, .nil, rB b1⟩
          · rw [h2] at rb
            cases h3 : (x.a == x.b)
            · cases h4 : spanB 60 x.lo x.hi
              · rw [h4] at sp
                have b1 := bad (by unfold gtB; rw [h1, h2, h3, h4]; rfl)
                exact ACode.vc (.br 13 true <| .cells (cGt x) <| .call (.bool true) <| .call (.bool true) <| .br 34 false <| .call (.bool false) .nil) hn hl (.round .cl) ⟨ltLen hlt, idx hx, ra, rb, h3, sp, _, .refl _, .nil, rB b1⟩
              · rw [h4] at sp
                have hs := h4
                simp only [spanB, Bool.and_eq_true, inB_iff, decide_eq_true_eq] at hs
                have ew : decide (IntKind.i64.wrap (x.hi - x.lo) > 2) = decide (x.hi - x.lo > 2) := by rw [wrap64 (by omega) (by omega)]
                cases h5 : decide (x.hi - x.lo > 2)
                · rw [h5] at ew
                  have g1 := good (by unfold gtB; rw [h1, h2, h3, h4, h5]; rfl)
                  exact ACode.vc (.br 13 true <| .cells (cGt x) <| .call (.bool true) <| .call (.bool true) <| .br 34 false <| .call (.bool true) <| .br 48 false .nil) hn hl (.round .cl) ⟨ltLen hlt, idx hx, ra, rb, h3, sp, ew, k + 1, ⟨hlt, g1⟩, mu1 hlt,
                    St.le.of ⟨by kernel_rfl, rfl, by kernel_rfl, rfl, by kernel_rfl, rfl, Eq.trans (by kernel_rfl) ek, rfl, trivial⟩ ⟨by kernel_rfl, (by decide : (0 : Nat) < 1), rfl, trivial⟩⟩
                · rw [h5] at ew
                  have b1 := bad (by unfold gtB; rw [h1, h2, h3, h4, h5]; rfl)
                  exact ACode.vc (.br 13 true <| .cells (cGt x) <| .call (.bool true) <| .call (.bool true) <| .br 34 false <| .call (.bool true) <| .br 48 true .nil) hn hl (.round .cl) ⟨ltLen hlt, idx hx, ra, rb, h3, sp, ew, _, .refl _, .nil, rB b1⟩
            · have b1 := bad (by unfold gtB; rw [h1, h2, h3]; rfl)
              exact ACode.vc (.br 13 true <| .cells (cGt x) <| .call (.bool true) <| .call (.bool true) <| .br 34 true .nil) hn hl (.round .cl) ⟨ltLen hlt, idx hx, ra, rb, h3, _, .refl _, .nil, rB b1⟩
      · have hk' : k = s.gates.length := by omega
        have e : true = s.gates.all (gtB s.rooms) := by rw [hk', List.take_length] at hk2; exact hk2.symm
        exact ACode.vc (.br 13 false .nil) hn hl (.round .cl) ⟨geLen hlt, _, .refl _, .nil, rB e⟩
  · have el : decide (((s.gates.map cGt).length : Int) > 6) = true := decide_eq_true (by rw [List.length_map]; omega)
    rw [decide_eq_false hlen, Bool.false_and]
    exact APure.vc Tryz.func79 rfl (.br 8 true .nil) rfl rfl ⟨el, rB rfl⟩
/-- Marks. -/
theorem areMarks_spec (s : Scn) (hr : 1 ≤ s.rooms ∧ s.rooms ≤ 6) : APure Tryz.prog 80 [encSc s] (.bool (decide (s.marks.length ≤ 8) && marksB s.rooms 0 s.marks)) := by
  by_cases hlen : s.marks.length ≤ 8
  · have el : decide (((s.marks.map cMk).length : Int) > 8) = false := decide_eq_false (by rw [List.length_map]; omega)
    rw [decide_eq_true hlen, Bool.true_and]
    refine APure.vc Tryz.func80 rfl (.br 9 false .loop) rfl rfl ⟨el, ?_⟩
    intro g hn hl
    replace hn : g.n = 40 := hn
    replace hl : g.low 0 := hl
    refine acode_while (fun k : Nat × Int => ⟨[(1, .vptr 0 0), (3, .int .i64 k.2), (11, encMs s.marks), (12, .int .i64 (s.marks.map cMk).length), (13, .int .i64 k.1)], [(0, .cells (cSc s))], 1⟩) (fun k => (k.1 ≤ s.marks.length ∧ 0 ≤ k.2) ∧ marksB s.rooms 0 s.marks = marksB s.rooms k.2 (s.marks.drop k.1)) (fun k => s.marks.length - k.1) (0, 0) ⟨⟨Nat.zero_le _, Int.le_refl _⟩, rfl⟩ ?_ (fun _ _ => hl.mono (Nat.zero_le _)) ?_
    · exact St.le.of ⟨by kernel_rfl, rfl, by kernel_rfl, rfl, by kernel_rfl, rfl, by kernel_rfl, rfl, by kernel_rfl, rfl, trivial⟩ ⟨by kernel_rfl, (by decide : (0 : Nat) < 1), rfl, trivial⟩
    · rintro ⟨k, L⟩ ⟨⟨hk1, hL⟩, hk2⟩
      replace hk1 : k ≤ s.marks.length := hk1
      replace hL : 0 ≤ L := hL
      replace hk2 : marksB s.rooms 0 s.marks = marksB s.rooms L (s.marks.drop k) := hk2
      by_cases hlt : k < s.marks.length
      · refine Exists.elim (getE hlt) fun x hx => ?_
        have ek := congrArg (AV.int .i64) (succ64 (k := k) (by omega))
        have w := within_spec L 9999 x.id
        have rm := isRoom_spec s x.room ⟨by omega, by omega⟩
        have us := uses_spec s ⟨by omega, by omega⟩ x
        rw [drop_cons hx] at hk2
        replace hk2 : marksB s.rooms 0 s.marks = (inB L 9999 x.id && ((isR s.rooms x.room && usB s.rooms x) && marksB s.rooms (x.id + 1) (s.marks.drop (k + 1)))) := hk2
        cases h1 : inB L 9999 x.id
        · rw [h1] at w hk2
          exact ACode.vc (.br 14 true <| .cells (cMk x) <| .call (.bool false) .nil) hn hl (.round .cl) ⟨ltLen hlt, idx hx, w, _, .refl _, .nil, rB hk2.symm⟩
        · rw [h1] at w hk2
          cases h2 : isR s.rooms x.room
          · rw [h2] at rm hk2
            exact ACode.vc (.br 14 true <| .cells (cMk x) <| .call (.bool true) <| .call (.bool false) .nil) hn hl (.round .cl) ⟨ltLen hlt, idx hx, w, rm, _, .refl _, .nil, rB hk2.symm⟩
          · rw [h2] at rm hk2
            cases h3 : usB s.rooms x
            · rw [h3] at us hk2
              exact ACode.vc (.br 14 true <| .cells (cMk x) <| .call (.bool true) <| .call (.bool true) <| .call (.bool false) .nil) hn hl (.round .cl) ⟨ltLen hlt, idx hx, w, rm, us, _, .refl _, .nil, rB hk2.symm⟩
            · rw [h3] at us hk2
              have hid := inB_iff.1 h1
              have ei : IntKind.i64.wrap (x.id + 1) = x.id + 1 := wrap64 (by omega) (by omega)
              have ev := congrArg (AV.int .i64) ei
              exact ACode.vc (.br 14 true <| .cells (cMk x) <| .call (.bool true) <| .call (.bool true) <| .call (.bool true) .nil) hn hl (.round .cl) ⟨ltLen hlt, idx hx, w, rm, us, (k + 1, x.id + 1), ⟨⟨hlt, by show 0 ≤ x.id + 1; omega⟩, hk2⟩, mu1 hlt,
                St.le.of ⟨by kernel_rfl, rfl, Eq.trans (by kernel_rfl) ev, rfl, by kernel_rfl, rfl, by kernel_rfl, rfl, Eq.trans (by kernel_rfl) ek, rfl, trivial⟩ ⟨by kernel_rfl, (by decide : (0 : Nat) < 1), rfl, trivial⟩⟩
      · have hk' : k = s.marks.length := by omega
        have e : true = marksB s.rooms 0 s.marks := by rw [hk2, hk', List.drop_length]; rfl
        exact ACode.vc (.br 14 false .nil) hn hl (.round .cl) ⟨geLen hlt, _, .refl _, .nil, rB e⟩
  · have el : decide (((s.marks.map cMk).length : Int) > 8) = true := decide_eq_true (by rw [List.length_map]; omega)
    rw [decide_eq_false hlen, Bool.false_and]
    exact APure.vc Tryz.func80 rfl (.br 9 true .nil) rfl rfl ⟨el, rB rfl⟩
theorem isScene_spec (s : Scn) : APure Tryz.prog 52 [encSc s] (.bool (scB s)) := by
  have w1 := within_spec 1 6 s.rooms
  have w2 := within_spec 0 600 s.fin
  have u := upTo_spec 600
  have eq : scB s = (inB 1 6 s.rooms && (inB 0 600 s.fin && ((decide (s.gates.length ≤ 6) && s.gates.all (gtB s.rooms)) && (decide (s.marks.length ≤ 8) && marksB s.rooms 0 s.marks)))) := rfl
  rw [eq]
  cases h1 : inB 1 6 s.rooms
  · rw [h1] at w1
    exact APure.vc Tryz.func52 rfl (.draw 8 <| .call (.bool false) .nil) rfl rfl ⟨by kernel_rfl, mixed, by kernel_rfl, w1, by kernel_rfl, rB rfl⟩
  · rw [h1] at w1
    have hr := inB_iff.1 h1
    cases h2 : inB 0 600 s.fin
    · rw [h2] at w2
      exact APure.vc Tryz.func52 rfl (.draw 8 <| .call (.bool true) <| .call (.agg [.int .i64 0, .int .i64 600]) <| .call (.bool false) .nil) rfl rfl ⟨by kernel_rfl, mixed, by kernel_rfl, w1, u, by kernel_rfl, w2, rB rfl⟩
    · rw [h2] at w2
      have ga := areGates_spec s hr
      have ma := areMarks_spec s hr
      cases h3 : (decide (s.gates.length ≤ 6) && s.gates.all (gtB s.rooms))
      · rw [h3] at ga
        exact APure.vc Tryz.func52 rfl (.draw 8 <| .call (.bool true) <| .call (.agg [.int .i64 0, .int .i64 600]) <| .call (.bool true) <| .call (.bool false) .nil) rfl rfl ⟨by kernel_rfl, mixed, by kernel_rfl, w1, u, by kernel_rfl, w2, ga, rB rfl⟩
      · rw [h3] at ga
        exact APure.vc Tryz.func52 rfl (.draw 8 <| .call (.bool true) <| .call (.agg [.int .i64 0, .int .i64 600]) <| .call (.bool true) <| .call (.bool true) <| .call (.bool (decide (s.marks.length ≤ 8) && marksB s.rooms 0 s.marks)) .nil) rfl rfl ⟨by kernel_rfl, mixed, by kernel_rfl, w1, u, by kernel_rfl, w2, ga, ma, rB rfl⟩
theorem Check_spec (s : Scn) : APure Tryz.prog 25 [encSc s] (.int .i64 (ckE s)) := by
  have i := isScene_spec s
  unfold ckE
  cases h : scB s
  · rw [h] at i
    exact APure.vc Tryz.func25 rfl (.call (.bool false) .nil) rfl rfl ⟨i, rI rfl⟩
  · rw [h] at i
    exact APure.vc Tryz.func25 rfl (.call (.bool true) .nil) rfl rfl ⟨i, rI rfl⟩
theorem scB_rooms {s : Scn} (h : scB s = true) : -1000000 ≤ s.rooms ∧ s.rooms ≤ 1000000 := by
  have := (scB_iff.1 h).rooms; omega
theorem checkRoom_spec (s : Scn) (x : Int) : APure Tryz.prog 45 [encSc s, .int .i64 x] (.int .i64 (rmE s x)) := by
  have c := Check_spec s
  unfold ckE at c
  unfold rmE
  cases h : scB s
  · rw [h] at c
    exact APure.vc Tryz.func45 rfl (.call (.int .i64 90) .nil) rfl rfl ⟨c, rI rfl⟩
  · rw [h] at c
    have r := isRoom_spec s x (scB_rooms h)
    cases hr : isR s.rooms x
    · rw [hr] at r
      exact APure.vc Tryz.func45 rfl (.call (.int .i64 0) <| .call (.bool false) .nil) rfl rfl ⟨c, r, rI rfl⟩
    · rw [hr] at r
      exact APure.vc Tryz.func45 rfl (.call (.int .i64 0) <| .call (.bool true) .nil) rfl rfl ⟨c, r, rI rfl⟩
end Go.Proofs.YtjoagmjijbfjkaaGreatDoor
/-
  WHAT MARKS SAY, by their kinds; tables of times.
-/
namespace Go.Proofs.YtjoagmjijbfjkaaGreatDoor
open Go Go.Am
set_option maxRecDepth 100000
set_option maxHeartbeats 4000000
/-- Marks whose numbers are not great. -/
structure smM (m : Mk) : Prop where
  lo : -1000000 ≤ m.lo ∧ m.lo ≤ 100000
  hi : -1000000 ≤ m.hi ∧ m.hi ≤ 100000
  long : -100000 ≤ m.long ∧ m.long ≤ 100000
theorem say1 {m : Mk} (hm : smM m) (fin : Int) {r : Tm} (o : Tm) (hr : smT r) : APure Tryz.prog 84 [.agg (cMk m), .int .i64 fin, encTm r, encTm o] (encSp (inT r m.lo m.hi)) := by
  have c := in_spec r m.lo m.hi hr ⟨hm.lo.1, by have := hm.lo.2; omega⟩ ⟨hm.hi.1, by have := hm.hi.2; omega⟩
  generalize inT r m.lo m.hi = R at *
  exact APure.vc Tryz.func84 rfl (.call (encSp R) .nil) rfl rfl ⟨c, trivial, by kernel_rfl⟩
theorem say2 {m : Mk} (hm : smM m) (fin : Int) {r : Tm} (o : Tm) (hr : smT r) : APure Tryz.prog 86 [.agg (cMk m), .int .i64 fin, encTm r, encTm o] (encSp (afterT r m.lo)) := by
  have c := after_spec r m.lo hr ⟨hm.lo.1, by have := hm.lo.2; omega⟩
  generalize afterT r m.lo = R at *
  exact APure.vc Tryz.func86 rfl (.call (encSp R) .nil) rfl rfl ⟨c, trivial, by kernel_rfl⟩
theorem say3 {m : Mk} (hm : smM m) (fin : Int) {r : Tm} (o : Tm) (hr : smT r) : APure Tryz.prog 88 [.agg (cMk m), .int .i64 fin, encTm r, encTm o] (encSp (untilT r m.hi)) := by
  have c := until_spec r m.hi hr ⟨hm.hi.1, by have := hm.hi.2; omega⟩
  generalize untilT r m.hi = R at *
  exact APure.vc Tryz.func88 rfl (.call (encSp R) .nil) rfl rfl ⟨c, trivial, by kernel_rfl⟩
theorem say4 {m : Mk} (hm : smM m) {fin : Int} (hf : 0 ≤ fin ∧ fin ≤ 100000) {r : Tm} (o : Tm) (hr : smT r) : APure Tryz.prog 90 [.agg (cMk m), .int .i64 fin, encTm r, encTm o] (encSp (untilT r (fin - m.long))) := by
  have hl := hm.long
  have ew : IntKind.i64.wrap (fin - m.long) = fin - m.long := wrap64 (by omega) (by omega)
  have c := until_spec r (IntKind.i64.wrap (fin - m.long)) hr (by rw [ew]; omega)
  rw [← ew]
  generalize untilT r (IntKind.i64.wrap (fin - m.long)) = R at *
  exact APure.vc Tryz.func90 rfl (.call (encSp R) .nil) rfl rfl ⟨c, trivial, by kernel_rfl⟩
theorem say5 {m : Mk} (hm : smM m) {fin : Int} (hf : 0 ≤ fin ∧ fin ≤ 100000) {r : Tm} (o : Tm) (hr : smT r) : APure Tryz.prog 91 [.agg (cMk m), .int .i64 fin, encTm r, encTm o] (encSp (afterT r (fin - m.long))) := by
  have hl := hm.long
  have ew : IntKind.i64.wrap (fin - m.long) = fin - m.long := wrap64 (by omega) (by omega)
  have c := after_spec r (IntKind.i64.wrap (fin - m.long)) hr (by rw [ew]; omega)
  rw [← ew]
  generalize afterT r (IntKind.i64.wrap (fin - m.long)) = R at *
  exact APure.vc Tryz.func91 rfl (.call (encSp R) .nil) rfl rfl ⟨c, trivial, by kernel_rfl⟩
theorem say6 (m : Mk) (fin : Int) (r o : Tm) : APure Tryz.prog 92 [.agg (cMk m), .int .i64 fin, encTm r, encTm o] (encSp (if befT r o then (0, 600) else (1, 0))) := by
  have c := isBefore_spec r o
  cases h : befT r o
  · rw [h] at c
    exact APure.vc Tryz.func92 rfl (.call (.bool false) .nil) rfl rfl ⟨c, trivial, by kernel_rfl⟩
  · rw [h] at c
    exact APure.vc Tryz.func92 rfl (.call (.bool true) .nil) rfl rfl ⟨c, trivial, by kernel_rfl⟩
/-! ### tables -/
def cRow (f : Nat → Tm) : List AV := [.int .i64 ((f 0).getD 0), .bool (f 0).isNone, .int .i64 ((f 1).getD 0), .bool (f 1).isNone, .int .i64 ((f 2).getD 0), .bool (f 2).isNone, .int .i64 ((f 3).getD 0), .bool (f 3).isNone, .int .i64 ((f 4).getD 0), .bool (f 4).isNone, .int .i64 ((f 5).getD 0), .bool (f 5).isNone]
def cTab (F : Tab) : List AV := cRow (F 0) ++ (cRow (F 1) ++ (cRow (F 2) ++ (cRow (F 3) ++ (cRow (F 4) ++ cRow (F 5)))))
theorem six {a : Nat} (h : a < 6) : a = 0 ∨ a = 1 ∨ a = 2 ∨ a = 3 ∨ a = 4 ∨ a = 5 := by omega
theorem row_at {f : Nat → Tm} {x : Nat} (h : x < 6) : ((cRow f).drop (2 * x)).take 2 = cTm (f x) := by
  rcases six h with rfl | rfl | rfl | rfl | rfl | rfl <;> rfl
theorem tab_row {F : Tab} {a : Nat} (h : a < 6) : ((cTab F).drop (12 * a)).take 12 = cRow (F a) := by
  rcases six h with rfl | rfl | rfl | rfl | rfl | rfl <;> rfl
theorem tab_at {F : Tab} {a b : Nat} (ha : a < 6) (hb : b < 6) : ((cTab F).drop (12 * a + 2 * b)).take 2 = cTm (F a b) := by
  rcases six ha with rfl | rfl | rfl | rfl | rfl | rfl <;> rcases six hb with rfl | rfl | rfl | rfl | rfl | rfl <;> rfl
theorem tab_set {F : Tab} {a b : Nat} (ha : a < 6) (hb : b < 6) (t : Tm) : splice (cTab F) (12 * a + 2 * b) (cTm t) = cTab (setT F a b t) := by
  rcases six ha with rfl | rfl | rfl | rfl | rfl | rfl <;> rcases six hb with rfl | rfl | rfl | rfl | rfl | rfl <;> kernel_rfl
theorem tab_len (F : Tab) : (cTab F).length = 72 := rfl
theorem tab_flat (F : Tab) : (cTab F).all AV.flat = true := by kernel_rfl
theorem tab_ok (n : Nat) (F : Tab) : okL n (cTab F) = true := by kernel_rfl
end Go.Proofs.YtjoagmjijbfjkaaGreatDoor

import Derived.Test.YtmllgnnhblhfeaaDoorTy
import Derived.Test.YtmllgnnhblhfeaaDoorAm22
import Derived.Test.YtmllgnnhblhfeaaDoorAm24
import Derived.Test.YtmllgnnhblhfeaaDoorNR
import Derived.Test.YtmllgnnhblhfeaaDoorSr
/-
  SMALL THINGS THAT EVERY WALK WANTS: answers, indexes, lists laid cell by cell.
-/
namespace Go.Proofs.YtmllgnnhblhfeaaDoor
open Go Go.Am
theorem rB {b b' : Bool} (h : b = b') : True ∧ some (AV.bool b) = some (AV.bool b') := ⟨trivial, h ▸ rfl⟩
theorem rI {b b' : Int} {k : IntKind} (h : b = b') : True ∧ some (AV.int k b) = some (AV.int k b') := ⟨trivial, h ▸ rfl⟩
theorem idx {α : Type} {l : List α} {enc : α → List AV} {k : Nat} {a : α} (h : l[k]? = some a) : 0 ≤ (k : Int) ∧ (l.map enc)[(k : Int).toNat]? = some (enc a) := ⟨Int.natCast_nonneg _, by rw [Int.toNat_natCast, List.getElem?_map, h]; rfl⟩
theorem idxW {α : Type} {l : List α} {enc : α → List AV} {k : Nat} {a : α} {n : Int} (hn : n = (k : Int)) (h : l[k]? = some a) : 0 ≤ n ∧ (l.map enc)[n.toNat]? = some (enc a) := by subst hn; exact idx h
theorem getE {α : Type} {l : List α} {k : Nat} (h : k < l.length) : ∃ a, l[k]? = some a := ⟨_, List.getElem?_eq_getElem h⟩
theorem ltLen {α : Type} {l : List α} {enc : α → List AV} {k : Nat} (h : k < l.length) : decide ((k : Int) < ((l.map enc).length : Int)) = true := by simpa using h
theorem geLen {α : Type} {l : List α} {enc : α → List AV} {k : Nat} (h : ¬ k < l.length) : decide ((k : Int) < ((l.map enc).length : Int)) = false := by simpa using h
theorem succ64 {k : Nat} (h : k < 1000000000) : IntKind.i64.wrap ((k : Int) + 1) = ((k + 1 : Nat) : Int) := wrap64 (by omega) (by omega)
theorem mu1 {n k : Nat} (h : k < n) : n - (k + 1) < n - k := by omega
theorem take_all {α : Type} {l : List α} {p : α → Bool} {k : Nat} {a : α} (h : l[k]? = some a) : (l.take (k + 1)).all p = ((l.take k).all p && p a) := by
  rw [List.take_add_one, h]; simp
theorem all_bad {α : Type} {l : List α} {p : α → Bool} {k : Nat} {a : α} (h : l[k]? = some a) (hp : p a = false) : l.all p = false :=
  List.all_eq_false.2 ⟨a, List.mem_of_getElem? h, by simp [hp]⟩
theorem ifmax (a m : Int) : (if a > m then a else m) = max m a := by rw [Int.max_def]; split <;> split <;> omega
theorem ifmin (a m : Int) : (if a < m then a else m) = min m a := by rw [Int.min_def]; split <;> split <;> omega
theorem drop_cons {α : Type} {l : List α} {k : Nat} {a : α} (h : l[k]? = some a) : l.drop k = a :: l.drop (k + 1) := by
  have hk : k < l.length := by
    rcases Nat.lt_or_ge k l.length with h' | h'
    · exact h'
    · rw [List.getElem?_eq_none h'] at h; cases h
  rw [List.drop_eq_getElem_cons hk]
  rw [List.getElem?_eq_getElem hk] at h
  cases h; rfl
/-! Lists of things, laid cell by cell. -/
def fl {α : Type} (enc : α → List AV) (l : List α) : List AV := l.flatMap enc
theorem fl_cons {α : Type} (enc : α → List AV) (a : α) (l : List α) : fl enc (a :: l) = enc a ++ fl enc l := rfl
theorem fl_len {α : Type} {enc : α → List AV} {n : Nat} (h : ∀ a, (enc a).length = n) : ∀ l : List α, (fl enc l).length = l.length * n := by
  intro l
  induction l with
  | nil => simp [fl]
  | cons a l ih => rw [fl_cons, List.length_append, ih, h, List.length_cons, Nat.succ_mul]; omega
theorem okL_app (n : Nat) : ∀ a b : List AV, okL n a = true → okL n b = true → okL n (a ++ b) = true := by
  intro a b ha hb
  induction a with
  | nil => exact hb
  | cons x a ih =>
    simp only [okL, Bool.and_eq_true] at ha
    show (x.ok n && okL n (a ++ b)) = true
    rw [ha.1, ih ha.2]; rfl
theorem fl_ok {α : Type} {enc : α → List AV} {n : Nat} (h : ∀ a, okL n (enc a) = true) : ∀ l : List α, okL n (fl enc l) = true := by
  intro l
  induction l with
  | nil => rfl
  | cons a l ih => rw [fl_cons]; exact okL_app n _ _ (h a) ih
theorem fl_cellB {α : Type} {enc : α → List AV} (h : ∀ a, (enc a).all cellB = true) : ∀ l : List α, (fl enc l).all cellB = true := by
  intro l
  induction l with
  | nil => rfl
  | cons a l ih => rw [fl_cons, List.all_append, h, ih]; rfl
theorem fl_chunks {α : Type} {enc : α → List AV} {n : Nat} (h : ∀ a, (enc a).length = n) : ∀ l : List α, chunks n (fl enc l) l.length = l.map enc := by
  intro l
  induction l with
  | nil => rfl
  | cons a l ih =>
    have e1 : (enc a ++ fl enc l).take n = enc a := by rw [← h a, List.take_left]
    have e2 : (enc a ++ fl enc l).drop n = fl enc l := by rw [← h a, List.drop_left]
    show ((enc a ++ fl enc l).take n) :: chunks n ((enc a ++ fl enc l).drop n) l.length = _
    rw [e1, e2, ih]; rfl
theorem fl_flatten {α : Type} (enc : α → List AV) (l : List α) : (l.map enc).flatten = fl enc l := by
  unfold fl; rw [List.flatMap_def]
theorem map_all {α : Type} {enc : α → List AV} {n : Nat} (h : ∀ a, (enc a).length = n) (l : List α) : ((l.map enc).all fun y => y.length == n) = true := by
  rw [List.all_eq_true]
  intro y hy
  obtain ⟨a, _, rfl⟩ := List.mem_map.1 hy
  simp [h a]
/-- A slice of one's own, let go of as the whole answer's part. -/
theorem thaw_fl {α : Type} {enc : α → List AV} {n : Nat} (d : Nat) {h : Nat → Option AObj} {id : Nat} {l : List α} (hn : ∀ a, (enc a).length = n) (hok : ∀ a, okL 0 (enc a) = true) (h0 : h id = some (.cells (fl enc l))) :
    thaw (d + 2) h (.rsl id 0 l.length n) = some (.lst n (l.map enc), [id]) := by
  have e : thaw (d + 2) h (.rsl id 0 l.length n) = (match h id with
      | some (.cells cs) => if 0 + l.length * n ≤ cs.length then (match mapO (thaw (d + 1) h) cs with | some (cs', is) => some (.lst n (chunks n (cs'.drop 0) l.length), id :: is) | none => none) else none
      | _ => none) := rfl
  rw [e, h0]
  simp only []
  rw [if_pos (by rw [fl_len hn]; omega), thaw_all d h _ (fl_ok hok l)]
  simp only [List.drop_zero, fl_chunks hn]

theorem app_ints {h : Nat → Option AObj} {i nid : Nat} {l : List Int} (h0 : h i = some (.cells [])) (hl : l.length ≤ 100000) : aAppend Tryd.prog h nid 28 28 (.rsl i 0 0 1) (.lst 1 (l.map encI)) = some ⟨.rsl nid 0 l.length 1, [(i, none), (nid, some (.cells (fl encI l)))]⟩ := by
  have hb := fl_cellB (enc := encI) (fun _ => rfl) l
  simp only [aAppend, aAppend0, ty28, ty3, srcCells, map_all (enc := encI) (n := 1) (fun _ => rfl) l, fl_flatten, h0]
  simp [hb]; omega
theorem eqSpan (a b c d : Int) (n : Nat) : aeqT Tryd.prog (n + 2) 57 (.agg [.int .i64 a, .int .i64 b]) (.agg [.int .i64 c, .int .i64 d]) = some (a == c && b == d) := by
  simp [aeqT, aeqF, ty57, ty3, apart, TD.agg, andO]
theorem kmp {a b : Prop} (h : a = b) (x : a) : b := h ▸ x
theorem tTrue : true = true := rfl
theorem rTrue : some (AV.bool true) = some (AV.bool true) := rfl
theorem neS (a b c d : Int) : ((aeqT Tryd.prog 6 57 (.agg [.int .i64 a, .int .i64 b]) (.agg [.int .i64 c, .int .i64 d])).map fun b => AV.bool !b).map (fun v => (⟨v, []⟩ : Out)) = some ⟨.bool !(a == c && b == d), []⟩ := by rw [eqSpan]; rfl
theorem eqSs (a b c d : Int) : ((aeqT Tryd.prog 6 57 (.agg [.int .i64 a, .int .i64 b]) (.agg [.int .i64 c, .int .i64 d])).map AV.bool).map (fun v => (⟨v, []⟩ : Out)) = some ⟨.bool (a == c && b == d), []⟩ := by rw [eqSpan]; rfl
end Go.Proofs.YtmllgnnhblhfeaaDoor
/-
  SLICES OF NUMBERS OF ONE'S OWN: indices, loads, stores.
-/
namespace Go.Proofs.YtmllgnnhblhfeaaDoor
open Go Go.Am
set_option maxRecDepth 100000
def iL (l : List Int) : List AV := fl encI l
theorem iL_eq (l : List Int) : iL l = l.map fun x => .int .i64 x := by
  unfold iL fl
  induction l with
  | nil => rfl
  | cons a l ih => rw [List.flatMap_cons, ih]; rfl
theorem iL_ok (n : Nat) (l : List Int) : okL n (iL l) = true := fl_ok (enc := encI) (fun _ => rfl) l
theorem iL_len (l : List Int) : (iL l).length = l.length := by rw [iL_eq, List.length_map]
theorem iL_flat (l : List Int) : ∀ c ∈ iL l, c.flat = true := by
  intro c hc
  rw [iL_eq] at hc
  obtain ⟨b, _, rfl⟩ := List.mem_map.1 hc
  rfl
theorem ixI {h : Nat → Option AObj} {id n k : Nat} {i : Int} (hi : i = (k : Int)) (hk : k < n) : (aindexAddr Tryd.prog h 28 (.rsl id 0 n 1) (.int .i64 i)).map (fun v => (⟨v, []⟩ : Out)) = some ⟨.vptr id k, []⟩ := by
  subst hi
  simp only [aindexAddr, ty28, ty3]
  rw [if_pos ⟨trivial, Int.natCast_nonneg _, by simpa using hk⟩]
  simp
theorem ldI {h : Nat → Option AObj} {id k : Nat} {l : List Int} {x : Int} (h0 : h id = some (.cells (iL l))) (hk : l[k]? = some x) : aLoad Tryd.prog h 3 (.vptr id k) = some ⟨.int .i64 x, []⟩ := by
  have e : ∃ r, (iL l).drop k = .int .i64 x :: r := by
    rw [iL_eq, ← List.map_drop, drop_cons hk]; exact ⟨_, rfl⟩
  obtain ⟨r, e⟩ := e
  simp only [aLoad, ty3, h0, e, aread]
  rfl
theorem stI {h : Nat → Option AObj} {id k : Nat} {l : List Int} {x : Int} (h0 : h id = some (.cells (iL l))) (hk : k < l.length) :
    aStore Tryd.prog h 3 (.vptr id k) (.int .i64 x) = some ⟨.undef, [(id, some (.cells (iL (l.set k x))))]⟩ := by
  have e : splice (iL l) k [.int .i64 x] = iL (l.set k x) := by
    show (iL l).set k _ = _
    rw [iL_eq, iL_eq, List.map_set]
  have hl : k + 1 ≤ (iL l).length := by rw [iL_len]; omega
  simp only [aStore, ty3, acells, h0]
  rw [if_pos ⟨rfl, hl, rfl⟩, e]
theorem pred64 {j : Nat} (h : j < 1000000) : IntKind.i64.wrap (((j + 1 : Nat) : Int) - 1) = (j : Int) := by rw [wrap64 (by omega) (by omega)]; omega
theorem thawF_all (n : Nat) (h : Nat → Option AObj) : ∀ l : List AV, (∀ c ∈ l, c.flat = true) → mapO (thawF (n + 1) h) l = some (l, []) := by
  intro l
  induction l with
  | nil => intro _; rfl
  | cons a r ih =>
    intro hl
    have e : thawF (n + 1) h a = some (a, []) := by unfold thawF; rw [if_pos (hl a List.mem_cons_self)]
    simp only [mapO, e, ih fun c hc => hl c (List.mem_cons_of_mem _ hc), List.nil_append]
theorem thawF_ints (d : Nat) {h : Nat → Option AObj} {id : Nat} {l : List Int} (h0 : h id = some (.cells (iL l))) : thawF (d + 2) h (.rsl id 0 l.length 1) = some (encR l, [id]) := by
  have e : thawF (d + 2) h (.rsl id 0 l.length 1) = (match h id with
      | some (.cells cs) => if 0 + l.length * 1 ≤ cs.length then (match mapO (thawF (d + 1) h) cs with | some (cs', is) => some (.lst 1 (chunks 1 (cs'.drop 0) l.length), id :: is) | none => none) else none
      | _ => none) := rfl
  rw [e, h0]
  simp only []
  rw [if_pos (by rw [iL_len]; omega), thawF_all d h _ (iL_flat l)]
  simp only [List.drop_zero]
  unfold iL encR
  rw [fl_chunks (enc := encI) (n := 1) (fun _ => rfl)]
theorem APureF.vcM {P : Program} {f : FuncId} {fn : Func} {args : List AV} {r : AV} (hf : P.funcs[f]? = some fn) (τ : Tp) (ha : okL 0 args = true) (hr : r.ok 0 = true)
    (h : vFn P (vxm P 4) fn args [] 0 τ fun r0 H' _ _ => ∃ is, thawF 8 (hget H') r0 = some (r, is)) : APureF P f args r :=
  .range ha hr (((vFn_ok (vxm_ok P 4)).call h hf).mono fun _ _ _ ⟨_, h⟩ => h)
def rfParts : Code → Option (Code × Code)
  | .rangeFunc _ _ a b => some (a, b)
  | .seq a b => (match rfParts a with | some p => some p | none => rfParts b)
  | .cond _ a b => (match rfParts a with | some p => some p | none => rfParts b)
  | .block _ a => rfParts a
  | .loop a => rfParts a
  | .scope a => rfParts a
  | _ => none
def cOf (f : Func) : Code := match f.body with | some c => c | none => .skip
def rfA (f : Func) : Code := match rfParts (cOf f) with | some p => p.1 | none => .skip
def rfB (f : Func) : Code := match rfParts (cOf f) with | some p => p.2 | none => .skip
theorem app_exact {P : Program} {h : Nat → Option AObj} {i len esz nid : Nat} {t u : TypeId} {cs : List AV} {x : AV} (h0 : h i = some (.cells cs)) (hl : ¬ len * esz < cs.length) : aAppend P h nid t u (.rsl i 0 len esz) x = aAppend0 P h nid t u (.rsl i 0 len esz) x := by
  unfold aAppend
  simp only [h0]
  rw [if_neg hl]
/-- One number more. -/
theorem app_one {h : Nat → Option AObj} {i j nid : Nat} {l : List Int} {x : Int} (h0 : h i = some (.cells (iL l))) (h1 : h j = some (.cells [.int .i64 x])) (hl : l.length ≤ 100000) :
    aAppend Tryd.prog h nid 28 28 (.rsl i 0 l.length 1) (.rsl j 0 1 1) = some ⟨.rsl nid 0 (l.length + 1) 1, [(i, none), (nid, some (.cells (iL (l ++ [x]))))]⟩ := by
  have e : iL (l ++ [x]) = iL l ++ [.int .i64 x] := by rw [iL_eq, iL_eq, List.map_append]; rfl
  rw [app_exact h0 (by rw [iL_len]; omega)]
  simp only [aAppend0, ty28, ty3, srcCells, h0, h1]
  simp [iL_len, e, cellB]
  omega
theorem perm_erase {α : Type} : ∀ {l : List α} {j : Nat} {a : α}, l[j]? = some a → (a :: l.eraseIdx j).Perm l
  | [], j, a, h => by simp at h
  | b :: l, 0, a, h => by simp at h; subst h; exact .refl _
  | b :: l, j + 1, a, h => by
    simp only [List.getElem?_cons_succ] at h
    exact (List.Perm.swap b a _).trans ((perm_erase h).cons b)
theorem map_erase {α β : Type} (f : α → β) : ∀ (l : List α) (j : Nat), (l.map f).eraseIdx j = (l.eraseIdx j).map f
  | [], j => rfl
  | b :: l, 0 => rfl
  | b :: l, j + 1 => by simp only [List.map_cons, List.eraseIdx_cons_succ, map_erase f l j]
end Go.Proofs.YtmllgnnhblhfeaaDoor

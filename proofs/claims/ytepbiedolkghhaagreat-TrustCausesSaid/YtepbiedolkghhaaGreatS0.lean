/-
  SLICES OF NUMBERS OF ONE'S OWN: indices, loads, stores.
-/
import Derived.Test.YtepbiedolkghhaaGreatSb
import Derived.Test.YtepbiedolkghhaaGreatSr
namespace Go.Proofs.YtepbiedolkghhaaGreat
open Go Go.Am
set_option maxRecDepth 100000
def iL (l : List Int) : List AV := fl encI l
theorem iL_eq (l : List Int) : iL l = l.map fun x => .int .i64 x := by
  unfold iL fl
  induction l with
  | nil => rfl
  | cons a l ih => rw [List.flatMap_cons, ih]; rfl
theorem iL_ok (n : Nat) (l : List Int) : okL n (iL l) = true := fl_ok (enc := encI) (fun _ => rfl) l
theorem iL_len (l : List Int) : (iL l).length = l.length := by rw [iL_eq, List.length_map]
theorem iL_flat (l : List Int) : ∀ c ∈ iL l, c.flat = true := by
  intro c hc
  rw [iL_eq] at hc
  obtain ⟨b, _, rfl⟩ := List.mem_map.1 hc
  rfl
theorem ixI {h : Nat → Option AObj} {id n k : Nat} {i : Int} (hi : i = (k : Int)) (hk : k < n) : (aindexAddr Tryz.prog h 31 (.rsl id 0 n 1) (.int .i64 i)).map (fun v => (⟨v, []⟩ : Out)) = some ⟨.vptr id k, []⟩ := by
  subst hi
  simp only [aindexAddr, ty31, ty3]
  rw [if_pos ⟨trivial, Int.natCast_nonneg _, by simpa using hk⟩]
  simp
theorem ldI {h : Nat → Option AObj} {id k : Nat} {l : List Int} {x : Int} (h0 : h id = some (.cells (iL l))) (hk : l[k]? = some x) : aLoad Tryz.prog h 3 (.vptr id k) = some ⟨.int .i64 x, []⟩ := by
  have e : ∃ r, (iL l).drop k = .int .i64 x :: r := by
    rw [iL_eq, ← List.map_drop, drop_cons hk]; exact ⟨_, rfl⟩
  obtain ⟨r, e⟩ := e
  simp only [aLoad, ty3, h0, e, aread]
  rfl
theorem stI {h : Nat → Option AObj} {id k : Nat} {l : List Int} {x : Int} (h0 : h id = some (.cells (iL l))) (hk : k < l.length) :
    aStore Tryz.prog h 3 (.vptr id k) (.int .i64 x) = some ⟨.undef, [(id, some (.cells (iL (l.set k x))))]⟩ := by
  have e : splice (iL l) k [.int .i64 x] = iL (l.set k x) := by
    show (iL l).set k _ = _
    rw [iL_eq, iL_eq, List.map_set]
  have hl : k + 1 ≤ (iL l).length := by rw [iL_len]; omega
  simp only [aStore, ty3, acells, h0]
  rw [if_pos ⟨rfl, hl, rfl⟩, e]
theorem pred64 {j : Nat} (h : j < 1000000) : IntKind.i64.wrap (((j + 1 : Nat) : Int) - 1) = (j : Int) := by rw [wrap64 (by omega) (by omega)]; omega
theorem thawF_all (n : Nat) (h : Nat → Option AObj) : ∀ l : List AV, (∀ c ∈ l, c.flat = true) → mapO (thawF (n + 1) h) l = some (l, []) := by
  intro l
  induction l with
  | nil => intro _; rfl
  | cons a r ih =>
    intro hl
    have e : thawF (n + 1) h a = some (a, []) := by unfold thawF; rw [if_pos (hl a List.mem_cons_self)]
    simp only [mapO, e, ih fun c hc => hl c (List.mem_cons_of_mem _ hc), List.nil_append]
theorem thawF_ints (d : Nat) {h : Nat → Option AObj} {id : Nat} {l : List Int} (h0 : h id = some (.cells (iL l))) : thawF (d + 2) h (.rsl id 0 l.length 1) = some (encR l, [id]) := by
  have e : thawF (d + 2) h (.rsl id 0 l.length 1) = (match h id with
      | some (.cells cs) => if 0 + l.length * 1 ≤ cs.length then (match mapO (thawF (d + 1) h) cs with | some (cs', is) => some (.lst 1 (chunks 1 (cs'.drop 0) l.length), id :: is) | none => none) else none
      | _ => none) := rfl
  rw [e, h0]
  simp only []
  rw [if_pos (by rw [iL_len]; omega), thawF_all d h _ (iL_flat l)]
  simp only [List.drop_zero]
  unfold iL encR
  rw [fl_chunks (enc := encI) (n := 1) (fun _ => rfl)]
theorem APureF.vcM {P : Program} {f : FuncId} {fn : Func} {args : List AV} {r : AV} (hf : P.funcs[f]? = some fn) (τ : Tp) (ha : okL 0 args = true) (hr : r.ok 0 = true)
    (h : vFn P (vxm P 4) fn args [] 0 τ fun r0 H' _ _ => ∃ is, thawF 8 (hget H') r0 = some (r, is)) : APureF P f args r :=
  .range ha hr (((vFn_ok (vxm_ok P 4)).call h hf).mono fun _ _ _ ⟨_, h⟩ => h)
def rfParts : Code → Option (Code × Code)
  | .rangeFunc _ _ a b => some (a, b)
  | .seq a b => (match rfParts a with | some p => some p | none => rfParts b)
  | .cond _ a b => (match rfParts a with | some p => some p | none => rfParts b)
  | .block _ a => rfParts a
  | .loop a => rfParts a
  | .scope a => rfParts a
  | _ => none
def cOf (f : Func) : Code := match f.body with | some c => c | none => .skip
def rfA (f : Func) : Code := match rfParts (cOf f) with | some p => p.1 | none => .skip
def rfB (f : Func) : Code := match rfParts (cOf f) with | some p => p.2 | none => .skip
theorem app_exact {P : Program} {h : Nat → Option AObj} {i len esz nid : Nat} {t u : TypeId} {cs : List AV} {x : AV} (h0 : h i = some (.cells cs)) (hl : ¬ len * esz < cs.length) : aAppend P h nid t u (.rsl i 0 len esz) x = aAppend0 P h nid t u (.rsl i 0 len esz) x := by
  unfold aAppend
  simp only [h0]
  rw [if_neg hl]
/-- One number more. -/
theorem app_one {h : Nat → Option AObj} {i j nid : Nat} {l : List Int} {x : Int} (h0 : h i = some (.cells (iL l))) (h1 : h j = some (.cells [.int .i64 x])) (hl : l.length ≤ 100000) :
    aAppend Tryz.prog h nid 31 31 (.rsl i 0 l.length 1) (.rsl j 0 1 1) = some ⟨.rsl nid 0 (l.length + 1) 1, [(i, none), (nid, some (.cells (iL (l ++ [x]))))]⟩ := by
  have e : iL (l ++ [x]) = iL l ++ [.int .i64 x] := by rw [iL_eq, iL_eq, List.map_append]; rfl
  rw [app_exact h0 (by rw [iL_len]; omega)]
  simp only [aAppend0, ty31, ty3, srcCells, h0, h1]
  simp [iL_len, e, cellB]
  omega
theorem perm_erase {α : Type} : ∀ {l : List α} {j : Nat} {a : α}, l[j]? = some a → (a :: l.eraseIdx j).Perm l
  | [], j, a, h => by simp at h
  | b :: l, 0, a, h => by simp at h; subst h; exact .refl _
  | b :: l, j + 1, a, h => by
    simp only [List.getElem?_cons_succ] at h
    exact (List.Perm.swap b a _).trans ((perm_erase h).cons b)
theorem map_erase {α β : Type} (f : α → β) : ∀ (l : List α) (j : Nat), (l.map f).eraseIdx j = (l.eraseIdx j).map f
  | [], j => rfl
  | b :: l, 0 => rfl
  | b :: l, j + 1 => by simp only [List.map_cons, List.eraseIdx_cons_succ, map_erase f l j]
end Go.Proofs.YtepbiedolkghhaaGreat

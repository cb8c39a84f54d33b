/-
  RECORDS IN NEW MEMORY: Twin; the same records, the same letters.
-/
import Derived.Test.YtmdhgkfjlphliaaG2
import Derived.Test.YtmdhgkfjlphliaaFG
import Derived.Test.YtmdhgkfjlphliaaW3
namespace Go.Proofs.Ytmdhgkfjlphliaa
open Go Go.Am
set_option maxRecDepth 100000
set_option maxHeartbeats 8000000
def lL (l : List Ltr) : List AV := fl cLt l
theorem lL_ok (n : Nat) (l : List Ltr) : okL n (lL l) = true := fl_ok (enc := cLt) (fun _ => rfl) l
theorem lL_len (l : List Ltr) : (lL l).length = l.length * 4 := fl_len (enc := cLt) (n := 4) (fun _ => rfl) l
theorem srcL (h : Nat → Option AObj) (l : List Ltr) : srcCells h 4 (.lst 4 (l.map cLt)) = some (fl cLt l, l.length) := by
  have h1 : (l.map cLt).all (fun y => y.length == 4) = true := by simp [cLt]
  simp only [srcCells]
  rw [if_pos ⟨trivial, h1⟩, fl_flatten, List.length_map]
theorem appL0 {h : Nat → Option AObj} {i nid : Nat} {l : List Ltr} (h0 : h i = some (.cells [])) (hn : l.length ≤ 1000) :
    aAppend Try.prog h nid 23 23 (.rsl i 0 0 4) (encLs l) = some ⟨.rsl nid 0 l.length 4, [(i, none), (nid, some (.cells (lL l)))]⟩ := by
  unfold aAppend encLs lL
  simp only [h0]
  rw [if_neg (by decide)]
  simp only [aAppend0, ty23, ty64, srcL, h0]
  rw [if_pos ⟨by decide, by decide, rfl⟩]
  rw [if_pos ⟨trivial, rfl, fl_cellB (fun _ => rfl) _, by omega⟩, Nat.zero_add, List.nil_append]
theorem thawL_letters {h : Nat → Option AObj} {i n : Nat} {r : List Rcd} {l : List Ltr} {d : Int} (hn : n = l.length) (h0 : h i = some (.cells (lL l))) : thawL h [encRs r, .rsl i 0 n 4, .int .i64 d] = some ([encRs r, encLs l, .int .i64 d], [i]) := by
  subst hn
  have t1 : thaw 8 h (encRs r) = some (encRs r, []) := by unfold thaw; exact if_pos rfl
  have t2 := thaw_fl 6 (h := h) (id := i) (enc := cLt) (n := 4) (l := l) (fun _ => rfl) (fun _ => rfl) h0
  have t3 : thaw 8 h (.int .i64 d) = some (.int .i64 d, []) := by unfold thaw; exact if_pos rfl
  simp only [thawL, mapO, t1, t2, t3]
  rfl
theorem thawL_letters2 {h : Nat → Option AObj} {i n : Nat} {r : List Rcd} {l : List Ltr} {d e : Int} (hn : n = l.length) (h0 : h i = some (.cells (lL l))) : thawL h [encRs r, .rsl i 0 n 4, .int .i64 d, .int .i64 e] = some ([encRs r, encLs l, .int .i64 d, .int .i64 e], [i]) := by
  subst hn
  have t1 : thaw 8 h (encRs r) = some (encRs r, []) := by unfold thaw; exact if_pos rfl
  have t2 := thaw_fl 6 (h := h) (id := i) (enc := cLt) (n := 4) (l := l) (fun _ => rfl) (fun _ => rfl) h0
  have t3 : thaw 8 h (.int .i64 d) = some (.int .i64 d, []) := by unfold thaw; exact if_pos rfl
  have t4 : thaw 8 h (.int .i64 e) = some (.int .i64 e, []) := by unfold thaw; exact if_pos rfl
  simp only [thawL, mapO, t1, t2, t3, t4]
  rfl
/-! ### the same lists -/
theorem Same_nil : APure Try.prog 16 [.nil, .nil] (.bool true) := by
  refine APure.vc Try.func16 rfl .loop rfl rfl ?_
  intro g hn hl
  replace hn : g.n = 26 := hn
  replace hl : g.low 0 := hl
  refine acode_while (fun _ : Unit => ⟨[(0, .nil), (1, .nil), (5, .int .i64 0)], [], 0⟩) (fun _ => True) (fun _ => 0) () trivial ?_ (fun _ _ => hl) ?_
  · exact St.le.of ⟨rfl, rfl, rfl, rfl, rfl, rfl, trivial⟩ trivial
  · intro _ _
    exact ACode.vc .nil hn hl (.round .cl) ⟨_, .refl _, .nil, rB rfl⟩
theorem Same_spec (l : List Int) (hl1 : l.length ≤ 1000) : APure Try.prog 16 [encR l, encR l] (.bool true) := by
  have d : (((l.map encI).length : Int) != ((l.map encI).length : Int)) = false := by simp
  refine APure.vc Try.func16 rfl (.br 10 false .loop) rfl rfl ⟨d, ?_⟩
  intro g hn hl
  replace hn : g.n = 26 := hn
  replace hl : g.low 0 := hl
  refine acode_while (fun k : Nat => ⟨[(0, encR l), (1, encR l), (5, .int .i64 (k : Int))], [], 0⟩) (fun k => k ≤ l.length) (fun k => l.length - k) 0 (Nat.zero_le _) ?_ (fun _ _ => hl) ?_
  · exact St.le.of ⟨rfl, rfl, rfl, rfl, rfl, rfl, trivial⟩ trivial
  · intro k hk
    replace hk : k ≤ l.length := hk
    by_cases hlt : k < l.length
    · refine Exists.elim (getE hlt) fun x hx => ?_
      have ek := congrArg (AV.int .i64) (succ64 (k := k) (by omega))
      have dx : (x != x) = false := by simp
      exact ACode.vc (.br 14 true <| .draw 8 <| .cells (encI x) <| .cells (encI x) <| .br 25 false .nil) hn hl (.round .cl) ⟨ltLen hlt, by kernel_rfl, mixed, by kernel_rfl, idx hx, idx hx, by kernel_rfl, dx, k + 1, hlt, mu1 hlt, St.le.of ⟨by kernel_rfl, rfl, by kernel_rfl, rfl, Eq.trans (by kernel_rfl) ek, rfl, trivial⟩ trivial⟩
    · exact ACode.vc (.br 14 false .nil) hn hl (.round .cl) ⟨geLen hlt, _, .refl _, .nil, rB rfl⟩
theorem neLtr (a : Ltr) : ((aeqT Try.prog 6 64 (.agg (cLt a)) (.agg (cLt a))).map fun b => AV.bool !b).map (fun v => (⟨v, []⟩ : Out)) = some ⟨.bool false, []⟩ := by
  simp [cLt, kO, aeqT, aeqF, ty64, ty3, ty5, apart, TD.agg, andO]
theorem SameL_spec (l : List Ltr) (hl1 : l.length ≤ 1000) : APure Try.prog 18 [encLs l, encLs l] (.bool true) := by
  have d : (((l.map cLt).length : Int) != ((l.map cLt).length : Int)) = false := by simp
  refine APure.vc Try.func18 rfl (.br 10 false .loop) rfl rfl ⟨d, ?_⟩
  intro g hn hl
  replace hn : g.n = 26 := hn
  replace hl : g.low 0 := hl
  refine acode_while (fun k : Nat => ⟨[(0, encLs l), (1, encLs l), (5, .int .i64 (k : Int))], [], 0⟩) (fun k => k ≤ l.length) (fun k => l.length - k) 0 (Nat.zero_le _) ?_ (fun _ _ => hl) ?_
  · exact St.le.of ⟨rfl, rfl, rfl, rfl, rfl, rfl, trivial⟩ trivial
  · intro k hk
    replace hk : k ≤ l.length := hk
    by_cases hlt : k < l.length
    · refine Exists.elim (getE hlt) fun x hx => ?_
      have ek := congrArg (AV.int .i64) (succ64 (k := k) (by omega))
      have dx := neLtr x
      exact ACode.vc (.br 14 true <| .draw 8 <| .cells (cLt x) <| .cells (cLt x) <| .val 25 (.bool false) [] .nil) hn hl (.round .cl) ⟨ltLen hlt, by kernel_rfl, mixed, by kernel_rfl, idx hx, idx hx, by kernel_rfl, Eq.trans (by kernel_rfl) dx, k + 1, hlt, mu1 hlt, St.le.of ⟨by kernel_rfl, rfl, by kernel_rfl, rfl, Eq.trans (by kernel_rfl) ek, rfl, trivial⟩ trivial⟩
    · exact ACode.vc (.br 14 false .nil) hn hl (.round .cl) ⟨geLen hlt, _, .refl _, .nil, rB rfl⟩
theorem SameR_spec (r : List Rcd) (hr : r.length ≤ 1000) (hw : ∀ x ∈ r, x.ways.length ≤ 1000 ∧ ∀ w ∈ x.ways, w.length ≤ 1000) : APure Try.prog 17 [encRs r, encRs r] (.bool true) := by
  have d : (((r.map cRc).length : Int) != ((r.map cRc).length : Int)) = false := by simp
  refine APure.vc Try.func17 rfl (.br 11 false .loop) rfl rfl ⟨d, ?_⟩
  intro g hn hl
  replace hn : g.n = 85 := hn
  replace hl : g.low 0 := hl
  refine acode_while (fun k : Nat => ⟨[(0, encRs r), (1, encRs r), (5, .int .i64 (k : Int))], [], 0⟩) (fun k => k ≤ r.length) (fun k => r.length - k) 0 (Nat.zero_le _) ?_ (fun _ _ => hl) ?_
  · exact St.le.of ⟨rfl, rfl, rfl, rfl, rfl, rfl, trivial⟩ trivial
  intro k hk
  replace hk : k ≤ r.length := hk
  by_cases hlt : k < r.length
  · refine Exists.elim (getE hlt) fun x hx => ?_
    have ek := congrArg (AV.int .i64) (succ64 (k := k) (by omega))
    have hxw := hw x (List.mem_of_getElem? hx)
    have d1 : (x.id != x.id) = false := by simp
    have d2 : ((x.kd.val : Int) != (x.kd.val : Int)) = false := by simp
    have d3 : (((x.ways.map cW).length : Int) != ((x.ways.map cW).length : Int)) = false := by simp
    refine ACode.vc (.br 15 true <| .draw 37 <| .cells (cRc x) <| .cells (cRc x) <| .br 29 false <| .cells (cRc x) <| .cells (cRc x) <| .br 42 false <| .cells (cRc x) <| .cells (cRc x) <| .br 56 false .loop) hn hl (.round .cl) ⟨ltLen hlt, by kernel_rfl, mixed, by kernel_rfl, idx hx, idx hx, d1, idx hx, idx hx, d2, idx hx, idx hx, by kernel_rfl, d3, ?_⟩
    intro g hn hl2
    replace hn : g.n = 85 := hn
    replace hl2 : g.low 0 := hl2
    refine acode_while (fun i : Nat => ⟨[(0, encRs r), (1, encRs r), (5, .int .i64 (k : Int)), (6, .int .i64 (i : Int))], [], 0⟩) (fun i => i ≤ x.ways.length) (fun i => x.ways.length - i) 0 (Nat.zero_le _) ?_ (fun _ _ => hl2) ?_
    · exact St.le.of ⟨by kernel_rfl, rfl, by kernel_rfl, rfl, by kernel_rfl, rfl, by kernel_rfl, rfl, trivial⟩ trivial
    intro i hi
    replace hi : i ≤ x.ways.length := hi
    by_cases hil : i < x.ways.length
    · refine Exists.elim (getE hil) fun w hwi => ?_
      have ei := congrArg (AV.int .i64) (succ64 (k := i) (by omega))
      have sS := Same_spec w (hxw.2 w (List.mem_of_getElem? hwi))
      exact ACode.vc (.cells (cRc x) <| .br 64 true <| .draw 16 <| .cells (cRc x) <| .cells (cW w) <| .cells (cRc x) <| .cells (cW w) <| .call (.bool true) .nil) hn hl2 (.round .cl) ⟨idx hx, ltLen hil, by kernel_rfl, mixed, by kernel_rfl, idx hx, idx hwi, idx hx, idx hwi, by kernel_rfl, sS, i + 1, hil, mu1 hil, St.le.of ⟨by kernel_rfl, rfl, by kernel_rfl, rfl, by kernel_rfl, rfl, Eq.trans (by kernel_rfl) ei, rfl, trivial⟩ trivial⟩
    · exact ACode.vc (.cells (cRc x) <| .br 64 false .nil) hn hl2 (.round .cl) ⟨idx hx, geLen hil, _, .refl _, .nil, k + 1, hlt, mu1 hlt, St.le.of ⟨by kernel_rfl, rfl, by kernel_rfl, rfl, Eq.trans (by kernel_rfl) ek, rfl, trivial⟩ trivial⟩
  · exact ACode.vc (.br 15 false .nil) hn hl (.round .cl) ⟨geLen hlt, _, .refl _, .nil, rB rfl⟩
/-! ### slices that are written no more -/
def frzH (H : AHeap) (c id esz : Nat) (cs : List AV) : AHeap → Prop
  | [] => True
  | p :: l => (p.1 < c ∧ ((hget H p.1 = some p.2 ∧ okO c p.2 = true) ∨ ∃ xs ys : List AV, p.2 = .cells xs ∧ hget H p.1 = some (.cells ys) ∧ xs.length = ys.length ∧
    ∀ (i : Nat) (x : AV), xs[i]? = some x → (ys[i]? = some x ∧ x.ok c = true) ∨ ∃ n, ys[i]? = some (.rsl id 0 n esz) ∧ x = .lst esz (chunks esz cs n) ∧ n * esz ≤ cs.length)) ∧ frzH H c id esz cs l
theorem St.frz.of {S' S : St} {c id esz : Nat} {cs : List AV} (hnx : S'.nx = c) (hci : c ≤ id) (ho : hget S.H id = some (.cells cs)) (hok : okL 0 cs = true) (h1 : leE S.env c S'.env) (h2 : frzH S.H c id esz cs S'.H) : St.frz c id esz cs S' S := by
  refine ⟨hnx, hci, ho, hok, fun t => ?_, fun j o hj => ?_⟩
  · generalize S'.env = l at h1 ⊢
    induction l with
    | nil => exact .inl rfl
    | cons p l ih =>
      obtain ⟨k, v⟩ := p
      by_cases e : k = t
      · subst e
        have : elook ((k, v) :: l) k = v := by simp [elook]
        rw [this]; exact .inr ⟨h1.1.symm, h1.2.1⟩
      · have : elook ((k, v) :: l) t = elook l t := by simp [elook, e]
        rw [this]; exact ih h1.2.2
  · generalize S'.H = l at h2 hj
    induction l with
    | nil => simp [hget] at hj
    | cons p l ih =>
      obtain ⟨k, v⟩ := p
      by_cases e : k = j
      · subst e; simp [hget] at hj; subst hj; exact h2.1
      · simp only [hget, if_neg e] at hj; exact ih h2.2 hj
theorem frz_set {xs : List AV} {c p id n esz : Nat} {cs : List AV} (hok : okL c xs = true) (hp : xs[p]? = some (.lst esz (chunks esz cs n))) (hn : n * esz ≤ cs.length) : ∀ (i : Nat) (x : AV), xs[i]? = some x → ((xs.set p (.rsl id 0 n esz))[i]? = some x ∧ x.ok c = true) ∨ ∃ n', (xs.set p (.rsl id 0 n esz))[i]? = some (.rsl id 0 n' esz) ∧ x = .lst esz (chunks esz cs n') ∧ n' * esz ≤ cs.length := fun i x hx => by
  have hl := (List.getElem?_eq_some_iff.1 hp).1
  by_cases e : p = i
  · subst e
    rw [hp] at hx
    have hx := Option.some.inj hx
    exact .inr ⟨n, by rw [List.getElem?_set_self hl], hx.symm, hn⟩
  · exact .inl ⟨by rw [List.getElem?_set_ne e]; exact hx, okL_get hok hx⟩
theorem okL_set {c : Nat} {x : AV} (hx : x.ok c = true) : ∀ (xs : List AV) (p : Nat), okL c xs = true → okL c (xs.set p x) = true := by
  intro xs
  induction xs with
  | nil => intro p h; exact h
  | cons a xs ih =>
    intro p h
    simp only [okL, Bool.and_eq_true] at h
    cases p with
    | zero => simp only [List.set_cons_zero, okL, Bool.and_eq_true]; exact ⟨hx, h.2⟩
    | succ p => simp only [List.set_cons_succ, okL, Bool.and_eq_true]; exact ⟨h.1, ih p h.2⟩
def rL (r : List Rcd) : List AV := fl cRc r
theorem rL_ok (n : Nat) (r : List Rcd) : okL n (rL r) = true := fl_ok (enc := cRc) (fun _ => rfl) r
theorem rL_len (r : List Rcd) : (rL r).length = r.length * 3 := fl_len (enc := cRc) (n := 3) (fun _ => rfl) r
theorem rL_way {r : List Rcd} {k : Nat} {x : Rcd} (hx : r[k]? = some x) : (rL r)[k * 3 + 2]? = some (encWs x.ways) := by
  unfold rL
  rw [fl_get (enc := cRc) (n := 3) (fun _ => rfl) hx (by decide)]; rfl
def wL (w : List (List Int)) : List AV := fl cW w
theorem wL_ok (n : Nat) (w : List (List Int)) : okL n (wL w) = true := fl_ok (enc := cW) (fun _ => rfl) w
theorem wL_len (w : List (List Int)) : (wL w).length = w.length := by unfold wL; rw [fl_len (enc := cW) (n := 1) (fun _ => rfl), Nat.mul_one]
theorem wL_get {w : List (List Int)} {k : Nat} {v : List Int} (hx : w[k]? = some v) : (wL w)[k]? = some (encR v) := by
  have h := fl_get (enc := cW) (n := 1) (j := 0) (fun _ => rfl) hx (by decide)
  rw [Nat.mul_one, Nat.add_zero] at h
  exact h
theorem ixRc {h : Nat → Option AObj} {id N k : Nat} (hk : k < N) : (aindexAddr Try.prog h 22 (.rsl id 0 N 3) (.int .i64 (k : Int))).map (fun v => (⟨v, []⟩ : Out)) = some ⟨.vptr id (k * 3), []⟩ := by
  simp only [aindexAddr, ty22, ty62]
  rw [if_pos ⟨trivial, Int.natCast_nonneg _, by simpa using hk⟩]
  simp
theorem ixWy {h : Nat → Option AObj} {id N k : Nat} (hk : k < N) : (aindexAddr Try.prog h 60 (.rsl id 0 N 1) (.int .i64 (k : Int))).map (fun v => (⟨v, []⟩ : Out)) = some ⟨.vptr id k, []⟩ := by
  simp only [aindexAddr, ty60, ty26]
  rw [if_pos ⟨trivial, Int.natCast_nonneg _, by simpa using hk⟩]
  simp
/-- A slice in a cell is read. -/
theorem ldWy {h : Nat → Option AObj} {id o : Nat} {cs : List AV} {v : AV} (h0 : h id = some (.cells cs)) (hk : cs[o]? = some v) : aLoad Try.prog h 60 (.vptr id o) = some ⟨v, []⟩ := by
  have e := drop_cons hk
  simp only [aLoad, ty60, h0, e, aread]
  rfl
theorem ldIn {h : Nat → Option AObj} {id o : Nat} {cs : List AV} {v : AV} (h0 : h id = some (.cells cs)) (hk : cs[o]? = some v) : aLoad Try.prog h 26 (.vptr id o) = some ⟨v, []⟩ := by
  have e := drop_cons hk
  simp only [aLoad, ty26, h0, e, aread]
  rfl
theorem stWy {h : Nat → Option AObj} {id o i n z : Nat} {cs : List AV} (h0 : h id = some (.cells cs)) (hk : o < cs.length) : aStore Try.prog h 60 (.vptr id o) (.rsl i 0 n z) = some ⟨.undef, [(id, some (.cells (cs.set o (.rsl i 0 n z))))]⟩ := by
  simp only [aStore, ty60, acells, h0]
  rw [if_pos ⟨rfl, hk, rfl⟩]; rfl
theorem stIn {h : Nat → Option AObj} {id o i n z : Nat} {cs : List AV} (h0 : h id = some (.cells cs)) (hk : o < cs.length) : aStore Try.prog h 26 (.vptr id o) (.rsl i 0 n z) = some ⟨.undef, [(id, some (.cells (cs.set o (.rsl i 0 n z))))]⟩ := by
  simp only [aStore, ty26, acells, h0]
  rw [if_pos ⟨rfl, hk, rfl⟩]; rfl
theorem appR0 {h : Nat → Option AObj} {i nid : Nat} {l : List Rcd} (h0 : h i = some (.cells [])) (hn : l.length ≤ 1000) :
    aAppend Try.prog h nid 22 22 (.rsl i 0 0 3) (encRs l) = some ⟨.rsl nid 0 l.length 3, [(i, none), (nid, some (.cells (rL l)))]⟩ := by
  have hb := fl_cellB (enc := cRc) (fun _ => rfl) l
  unfold encRs rL
  simp only [aAppend, aAppend0, ty22, ty62, srcCells, map_all (enc := cRc) (n := 3) (fun _ => rfl) l, fl_flatten, h0]
  simp [hb]; omega
theorem appWy {h : Nat → Option AObj} {i nid : Nat} {l : List (List Int)} (h0 : h i = some (.cells [])) (hn : l.length ≤ 1000) :
    aAppend Try.prog h nid 60 60 (.rsl i 0 0 1) (encWs l) = some ⟨.rsl nid 0 l.length 1, [(i, none), (nid, some (.cells (wL l)))]⟩ := by
  have hb := fl_cellB (enc := cW) (fun _ => rfl) l
  unfold encWs wL
  simp only [aAppend, aAppend0, ty60, ty26, srcCells, map_all (enc := cW) (n := 1) (fun _ => rfl) l, fl_flatten, h0]
  simp [hb]; omega
theorem Twin_spec (r : List Rcd) (hr : r.length ≤ 1000) (hw : ∀ x ∈ r, x.ways.length ≤ 1000 ∧ ∀ w ∈ x.ways, w.length ≤ 1000) : APure Try.prog 9 [encRs r] (encRs r) := by
  have ap0 := appR0 (h := hget [(0, .cells [])]) (i := 0) (nid := 1) (l := r) rfl hr
  refine APure.vcM Try.func9 (.val 8 (.rsl 1 0 r.length 3) [(0, none), (1, some (.cells (rL r)))] .loop) rfl rfl ⟨Eq.trans (by kernel_rfl) ap0, ?_⟩
  intro g hn hlo
  replace hn : g.n = 54 := hn
  replace hlo : g.low 0 := hlo
  have hloR := hlo
  refine acode_whileW (fun i : Nat => ⟨[(3, .rsl 1 0 r.length 3), (4, .int .i64 (i : Int))], [(1, .cells (rL r))], 2⟩) (fun i => i ≤ r.length) (fun i => r.length - i) 0 (Nat.zero_le _) ?_ ?_
  · exact Wk.le (St.le.of ⟨by kernel_rfl, rfl, by kernel_rfl, rfl, trivial⟩ ⟨by kernel_rfl, (by decide : (1 : Nat) < 2), rL_ok _ _, trivial⟩) (hlo.mono (Nat.zero_le _))
  intro i hi
  replace hi : i ≤ r.length := hi
  by_cases hil : i < r.length
  · refine Exists.elim (getE hil) fun x hx => ?_
    have ei := congrArg (AV.int .i64) (succ64 (k := i) (by omega))
    have hxw := hw x (List.mem_of_getElem? hx)
    have d12 : decide ((i : Int) < (r.length : Int)) = true := decide_eq_true (by omega)
    have ix := ixRc (h := hget []) (id := 1) (N := r.length) (k := i) hil
    have hway := rL_way hx
    have hlt2 : i * 3 + 2 < (rL r).length := by rw [rL_len]; omega
    have ld := ldWy (h := hget [(1, .cells (rL r))]) (id := 1) (o := i * 3 + 2) rfl hway
    have ap := appWy (h := hget [(2, .cells [])]) (i := 2) (nid := 3) (l := x.ways) rfl hxw.1
    have sto := stWy (h := hget [(1, .cells (rL r))]) (id := 1) (o := i * 3 + 2) (i := 3) (n := x.ways.length) (z := 1) rfl hlt2
    have hDw : ((rL r).set (i * 3 + 2) (.rsl 3 0 x.ways.length 1))[i * 3 + 2]? = some (.rsl 3 0 x.ways.length 1) := List.getElem?_set_self hlt2
    have hDok : okL 4 ((rL r).set (i * 3 + 2) (.rsl 3 0 x.ways.length 1)) = true := okL_set rfl _ _ (rL_ok _ _)
    have fD := frz_set (c := 2) (p := i * 3 + 2) (id := 3) (n := x.ways.length) (esz := 1) (cs := wL x.ways) (rL_ok 2 r) (by rw [hway]; unfold wL encWs; rw [fl_chunks (enc := cW) (fun _ => rfl)]) (by rw [wL_len]; omega)
    have hDl : (rL r).length = ((rL r).set (i * 3 + 2) (.rsl 3 0 x.ways.length 1)).length := by rw [List.length_set]
    obtain ⟨DD, hDD⟩ : ∃ DD, DD = ((rL r).set (i * 3 + 2) (.rsl 3 0 x.ways.length 1)) := ⟨_, rfl⟩
    rw [← hDD] at sto hDw hDok fD hDl
    clear hDD
    refine ACode.vcM (.br 12 true <| .val 20 (.vptr 1 (i * 3)) [] <| .val 22 (encWs x.ways) [] <| .val 23 (.rsl 3 0 x.ways.length 1) [(2, none), (3, some (.cells (wL x.ways)))] <| .val 24 (.vptr 1 (i * 3)) [] <| .val 1 .undef [(1, some (.cells DD))] .loop) hn hlo (.roundW .cl) ⟨d12, Eq.trans (by kernel_rfl) ix, Eq.trans (by kernel_rfl) ld, Eq.trans (by kernel_rfl) ap, Eq.trans (by kernel_rfl) ix, Eq.trans (by kernel_rfl) sto, ?_⟩
    intro g hn hlo
    replace hn : g.n = 54 := hn
    replace hlo : g.low 0 := hlo
    refine acode_whileW (fun k : Nat => ⟨[(3, .rsl 1 0 r.length 3), (4, .int .i64 (i : Int)), (5, .int .i64 (k : Int))], [(1, .cells DD), (3, .cells (wL x.ways))], 4⟩) (fun k => k ≤ x.ways.length) (fun k => x.ways.length - k) 0 (Nat.zero_le _) ?_ ?_
    · exact Wk.le (St.le.of ⟨by kernel_rfl, rfl, by kernel_rfl, rfl, by kernel_rfl, rfl, trivial⟩ ⟨by kernel_rfl, (by decide : (1 : Nat) < 4), hDok, by kernel_rfl, (by decide : (3 : Nat) < 4), wL_ok _ _, trivial⟩) (hlo.mono (Nat.zero_le _))
    intro k hk
    replace hk : k ≤ x.ways.length := hk
    have ldD := ldWy (h := hget [(1, .cells DD)]) (id := 1) (o := i * 3 + 2) rfl hDw
    by_cases hkl : k < x.ways.length
    · refine Exists.elim (getE hkl) fun w hwk => ?_
      have ek := congrArg (AV.int .i64) (succ64 (k := k) (by omega))
      have hwl := hxw.2 w (List.mem_of_getElem? hwk)
      have d33 : decide ((k : Int) < (x.ways.length : Int)) = true := decide_eq_true (by omega)
      have ixk := ixWy (h := hget []) (id := 3) (N := x.ways.length) (k := k) hkl
      have hget3 := wL_get hwk
      have ld50 := ldIn (h := hget [(3, .cells (wL x.ways))]) (id := 3) (o := k) rfl hget3
      have ap51 := app_ints (h := hget [(10, .cells [])]) (i := 10) (nid := 19) (l := w) rfl (by omega)
      have st1 := stIn (h := hget [(3, .cells (wL x.ways))]) (id := 3) (o := k) (i := 19) (n := w.length) (z := 1) rfl (by rw [wL_len]; exact hkl)
      have fW := frz_set (c := 4) (p := k) (id := 19) (n := w.length) (esz := 1) (cs := fl encI w) (wL_ok 4 x.ways) (by rw [hget3]; unfold encR; rw [fl_chunks (enc := encI) (fun _ => rfl)]) (by rw [fl_len (enc := encI) (n := 1) (fun _ => rfl)]; omega)
      exact ACode.vcM (.val 29 (.vptr 1 (i * 3)) [] <| .val 31 (.rsl 3 0 x.ways.length 1) [] <| .br 33 true <| .draw 16 <| .val 38 (.vptr 1 (i * 3)) [] <| .val 40 (.rsl 3 0 x.ways.length 1) [] <| .val 45 (.vptr 1 (i * 3)) [] <| .val 47 (.rsl 3 0 x.ways.length 1) [] <| .val 49 (.vptr 3 k) [] <| .val 50 (encR w) [] <| .val 51 (.rsl 19 0 w.length 1) [(10, none), (19, some (.cells (fl encI w)))] <| .val 52 (.vptr 3 k) [] <| .val 1 .undef [(3, some (.cells ((wL x.ways).set k (.rsl 19 0 w.length 1))))] .nil) hn hlo (.roundW .cl)
        ⟨Eq.trans (by kernel_rfl) ix, Eq.trans (by kernel_rfl) ldD, d33, by kernel_rfl, mixed, by kernel_rfl, Eq.trans (by kernel_rfl) ix, Eq.trans (by kernel_rfl) ldD, Eq.trans (by kernel_rfl) ix, Eq.trans (by kernel_rfl) ldD, Eq.trans (by kernel_rfl) ixk, Eq.trans (by kernel_rfl) ld50, Eq.trans (by kernel_rfl) ap51, by kernel_rfl, Eq.trans (by kernel_rfl) ixk, Eq.trans (by kernel_rfl) st1, k + 1, hkl, mu1 hkl,
          Wk.frz (c := 4) (id := 19) (esz := 1) (cs := fl encI w) (St.frz.of rfl (by decide) (by kernel_rfl) (fl_ok (fun _ => rfl) _) ⟨by kernel_rfl, rfl, by kernel_rfl, rfl, Eq.trans (by kernel_rfl) ek, rfl, trivial⟩
            ⟨⟨(by decide : (1 : Nat) < 4), .inl ⟨by kernel_rfl, hDok⟩⟩, ⟨(by decide : (3 : Nat) < 4), .inr ⟨wL x.ways, (wL x.ways).set k (.rsl 19 0 w.length 1), rfl, by kernel_rfl, by simp, fW⟩⟩, trivial⟩) (hlo.mono (Nat.zero_le _))⟩
    · have d33 : decide ((k : Int) < (x.ways.length : Int)) = false := decide_eq_false (by omega)
      exact ACode.vcM (.val 29 (.vptr 1 (i * 3)) [] <| .val 31 (.rsl 3 0 x.ways.length 1) [] <| .br 33 false .nil) hn hlo (.roundW .cl) ⟨Eq.trans (by kernel_rfl) ix, Eq.trans (by kernel_rfl) ldD, d33, _, .refl _, .nil, i + 1, hil, mu1 hil,
        Wk.frz (c := 2) (id := 3) (esz := 1) (cs := wL x.ways) (St.frz.of rfl (by decide) (by kernel_rfl) (wL_ok _ _) ⟨by kernel_rfl, rfl, Eq.trans (by kernel_rfl) ei, rfl, trivial⟩
          ⟨⟨(by decide : (1 : Nat) < 2), .inr ⟨rL r, DD, rfl, by kernel_rfl, hDl, fD⟩⟩, trivial⟩) (hloR.mono (Nat.zero_le _))⟩
  · have d12 : decide ((i : Int) < (r.length : Int)) = false := decide_eq_false (by omega)
    have ht := thaw_fl 6 (h := hget [(1, .cells (rL r))]) (id := 1) (enc := cRc) (n := 3) (l := r) (fun _ => rfl) (fun _ => rfl) rfl
    exact ACode.vcM (.br 12 false .nil) hn hlo (.roundW .cl) ⟨d12, _, .refl _, .nil, [1], Eq.trans (by kernel_rfl) ht⟩
end Go.Proofs.Ytmdhgkfjlphliaa

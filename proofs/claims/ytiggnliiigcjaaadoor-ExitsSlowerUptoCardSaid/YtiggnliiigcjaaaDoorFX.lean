import Derived.Test.YtiggnliiigcjaaaDoorW0
import Derived.Test.YtiggnliiigcjaaaDoorCe
/-
  A choice by its place.
-/
namespace Go.Proofs.YtiggnliiigcjaaaDoor
open Go Go.Am
set_option maxRecDepth 100000
set_option maxHeartbeats 1000000
theorem choose_spec (l : List Int) (hl : ∀ x ∈ l, 0 ≤ x ∧ x < 4294967296) (i : Nat) : APure Tryd.prog 35 [.lst 1 (l.map encU), .int .i64 i] (.int .i64 (chV l i)) := by
  cases l with
  | nil =>
    have e : chV [] i = 0 := rfl
    rw [e]
    exact APure.vcM Tryd.func35 .nil rfl rfl ⟨[], by kernel_rfl⟩
  | cons a r =>
    generalize hL : a :: r = L at *
    have hpos : 0 < L.length := by rw [← hL]; exact Nat.zero_lt_succ _
    have hm : i % L.length < L.length := Nat.mod_lt _ hpos
    refine Exists.elim (getE hm) fun x hx => ?_
    have hc : chV L i = x := by unfold chV; rw [List.getD_eq_getElem?_getD, hx]; rfl
    have hr := hl x (List.mem_of_getElem? hx)
    have e7 : (((L.map encU).length : Int) == 0) = false := by rw [List.length_map]; exact beq_eq_false_iff_ne.2 (by omega)
    have hnz : ((L.map encU).length : Int) ≠ 0 := by rw [List.length_map]; omega
    have ht : ((i : Int)).tmod ((L.map encU).length : Int) = ((i % L.length : Nat) : Int) := by rw [List.length_map]; rfl
    have h0 : 0 ≤ ((i : Int)).tmod ((L.map encU).length : Int) := by rw [ht]; omega
    have h1 : (L.map encU)[(((i : Int)).tmod ((L.map encU).length : Int)).toNat]? = some (encU x) := by rw [ht, Int.toNat_natCast, List.getElem?_map, hx]; rfl
    have e14 : thaw 8 (hget []) (.int .i64 (IntKind.i64.wrap x)) = some (.int .i64 (chV L i), []) := by rw [hc, wrap64 (by omega) (by omega)]; unfold thaw; exact if_pos rfl
    exact APure.vcM Tryd.func35 (.br 7 false <| .nz <| .cells (encU x) .nil) rfl rfl ⟨e7, hnz, ⟨h0, h1⟩, [], Eq.trans (by kernel_rfl) e14⟩
/-! ### cells of a list of structures of one's own -/
theorem fl_split {α : Type} {enc : α → List AV} {n : Nat} (hn : ∀ a, (enc a).length = n) {l : List α} {k : Nat} {a : α} (hk : l[k]? = some a) :
    fl enc l = fl enc (l.take k) ++ (enc a ++ fl enc (l.drop (k + 1))) ∧ (fl enc (l.take k)).length = k * n := by
  have hl : k < l.length := by
    rcases Nat.lt_or_ge k l.length with h' | h'
    · exact h'
    · rw [List.getElem?_eq_none h'] at hk; cases hk
  refine ⟨?_, by rw [fl_len hn, List.length_take, Nat.min_eq_left (Nat.le_of_lt hl)]⟩
  have e : l = l.take k ++ a :: l.drop (k + 1) := by rw [← drop_cons hk, List.take_append_drop]
  have e2 : fl enc l = fl enc (l.take k ++ a :: l.drop (k + 1)) := congrArg _ e
  rw [e2]
  simp [fl]
theorem fl_get {α : Type} {enc : α → List AV} {n : Nat} (hn : ∀ a, (enc a).length = n) {l : List α} {k j : Nat} {a : α} (hk : l[k]? = some a) (hj : j < n) : (fl enc l)[k * n + j]? = (enc a)[j]? := by
  obtain ⟨e, h1⟩ := fl_split hn hk
  rw [e, List.getElem?_append_right (by omega), h1, Nat.add_sub_cancel_left, List.getElem?_append_left (by rw [hn]; exact hj)]
theorem fl_splice {α : Type} {enc : α → List AV} {n : Nat} (hn : ∀ a, (enc a).length = n) {l : List α} {k j : Nat} {a a' : α} {ys : List AV} (hk : l[k]? = some a) (hj : j + ys.length ≤ n) (ha : enc a' = (enc a).take j ++ ys ++ (enc a).drop (j + ys.length)) :
    k * n + j + ys.length ≤ (fl enc l).length ∧ splice (fl enc l) (k * n + j) ys = fl enc (l.set k a') := by
  obtain ⟨e, h1⟩ := fl_split hn hk
  have hl : k < l.length := by
    rcases Nat.lt_or_ge k l.length with h' | h'
    · exact h'
    · rw [List.getElem?_eq_none h'] at hk; cases hk
  have hk' : (l.set k a')[k]? = some a' := by rw [List.getElem?_set_self hl]
  obtain ⟨e', h1'⟩ := fl_split hn hk'
  rw [List.take_set_of_le (Nat.le_refl k), List.drop_set_of_lt (Nat.lt_succ_self k)] at e'
  have h2 : (enc a).length = n := hn a
  have hlen : k * n + j + ys.length ≤ (fl enc l).length := by rw [e, List.length_append, List.length_append, h1, h2]; omega
  refine ⟨hlen, ?_⟩
  rw [splice_is _ _ _ hlen, e', ha, e]
  have t1 : (fl enc (l.take k) ++ (enc a ++ fl enc (l.drop (k + 1)))).take (k * n + j) = fl enc (l.take k) ++ (enc a).take j := by
    rw [List.take_append, h1, List.take_of_length_le (by omega), Nat.add_sub_cancel_left, List.take_append_of_le_length (by omega)]
  have t2 : (fl enc (l.take k) ++ (enc a ++ fl enc (l.drop (k + 1)))).drop (k * n + j + ys.length) = (enc a).drop (j + ys.length) ++ fl enc (l.drop (k + 1)) := by
    rw [List.drop_append, h1, List.drop_eq_nil_of_le (by omega), List.nil_append, show k * n + j + ys.length - k * n = j + ys.length by omega, List.drop_append_of_le_length (by omega)]
  rw [t1, t2]
  simp only [List.append_assoc]
theorem ixSt {h : Nat → Option AObj} {id N k : Nat} {i : Int} (hi : i = (k : Int)) (hk : k < N) : (aindexAddr Tryd.prog h 22 (.rsl id 0 N 6) (.int .i64 i)).map (fun v => (⟨v, []⟩ : Out)) = some ⟨.vptr id (k * 6), []⟩ := by
  subst hi
  simp only [aindexAddr, ty22, ty49]
  rw [if_pos ⟨trivial, Int.natCast_nonneg _, by simpa using hk⟩]
  simp
theorem ixWa {h : Nat → Option AObj} {id N k : Nat} {i : Int} (hi : i = (k : Int)) (hk : k < N) : (aindexAddr Tryd.prog h 26 (.rsl id 0 N 5) (.int .i64 i)).map (fun v => (⟨v, []⟩ : Out)) = some ⟨.vptr id (k * 5), []⟩ := by
  subst hi
  simp only [aindexAddr, ty26, ty30]
  rw [if_pos ⟨trivial, Int.natCast_nonneg _, by simpa using hk⟩]
  simp
theorem ixCh {h : Nat → Option AObj} {id N k : Nat} {i : Int} (hi : i = (k : Int)) (hk : k < N) : (aindexAddr Tryd.prog h 23 (.rsl id 0 N 4) (.int .i64 i)).map (fun v => (⟨v, []⟩ : Out)) = some ⟨.vptr id (k * 4), []⟩ := by
  subst hi
  simp only [aindexAddr, ty23, ty69]
  rw [if_pos ⟨trivial, Int.natCast_nonneg _, by simpa using hk⟩]
  simp
/-- A number of a structure is read. -/
theorem ldFl {α : Type} {enc : α → List AV} {n : Nat} (hn : ∀ a, (enc a).length = n) {h : Nat → Option AObj} {id : Nat} {l : List α} {k j o : Nat} {a : α} {x : Int} (h0 : h id = some (.cells (fl enc l))) (hk : l[k]? = some a) (hj : (enc a)[j]? = some (.int .i64 x)) (ho : o = k * n + j) : aLoad Tryd.prog h 3 (.vptr id o) = some ⟨.int .i64 x, []⟩ := by
  have hjn : j < n := by
    rcases Nat.lt_or_ge j n with h' | h'
    · exact h'
    · rw [List.getElem?_eq_none (by rw [hn]; exact h')] at hj; cases hj
  have e := drop_cons (show (fl enc l)[o]? = some (.int .i64 x) by rw [ho, fl_get hn hk hjn]; exact hj)
  simp only [aLoad, ty3, h0, e, aread]
  rfl
/-- A number of a structure is written. -/
theorem stFl {α : Type} {enc : α → List AV} {n : Nat} (hn : ∀ a, (enc a).length = n) {h : Nat → Option AObj} {id : Nat} {l : List α} {k j o : Nat} {a a' : α} {x : Int} (h0 : h id = some (.cells (fl enc l))) (hk : l[k]? = some a) (hj : j < n) (ha : enc a' = (enc a).take j ++ [.int .i64 x] ++ (enc a).drop (j + 1)) (ho : o = k * n + j) :
    aStore Tryd.prog h 3 (.vptr id o) (.int .i64 x) = some ⟨.undef, [(id, some (.cells (fl enc (l.set k a'))))]⟩ := by
  obtain ⟨h1, h2⟩ := fl_splice hn (ys := [.int .i64 x]) hk hj ha
  subst ho
  simp only [aStore, ty3, acells, h0]
  rw [if_pos ⟨rfl, h1, rfl⟩, h2]
/-- A span of a structure is written. -/
theorem stFlS {α : Type} {enc : α → List AV} {n : Nat} (hn : ∀ a, (enc a).length = n) {h : Nat → Option AObj} {id : Nat} {l : List α} {k j o : Nat} {a a' : α} {x y : Int} (h0 : h id = some (.cells (fl enc l))) (hk : l[k]? = some a) (hj : j + 1 < n) (ha : enc a' = (enc a).take j ++ [.int .i64 x, .int .i64 y] ++ (enc a).drop (j + 2)) (ho : o = k * n + j) :
    aStore Tryd.prog h 28 (.vptr id o) (.agg [.int .i64 x, .int .i64 y]) = some ⟨.undef, [(id, some (.cells (fl enc (l.set k a'))))]⟩ := by
  obtain ⟨h1, h2⟩ := fl_splice hn (ys := [.int .i64 x, .int .i64 y]) hk hj ha
  subst ho
  simp only [aStore, ty28, acells, h0]
  rw [if_pos ⟨rfl, h1, rfl⟩, h2]
end Go.Proofs.YtiggnliiigcjaaaDoor
/-
  A BUILDING AND PEOPLE OF WHICH ALL IS KNOWN: fixed.
-/
namespace Go.Proofs.YtiggnliiigcjaaaDoor
open Go Go.Am
set_option maxRecDepth 100000
set_option maxHeartbeats 4000000
def mapTo {α : Type} (f : α → α) (l : List α) (k : Nat) : List α := (l.take k).map f ++ l.drop k
theorem mapTo_zero {α : Type} (f : α → α) (l : List α) : mapTo f l 0 = l := by simp [mapTo]
theorem mapTo_all {α : Type} (f : α → α) (l : List α) : mapTo f l l.length = l.map f := by simp [mapTo]
theorem mapTo_len {α : Type} (f : α → α) (l : List α) (k : Nat) : (mapTo f l k).length = l.length := by simp [mapTo]; omega
theorem mapTo_get {α : Type} {f : α → α} {l : List α} {k : Nat} {a : α} (h : l[k]? = some a) : (mapTo f l k)[k]? = some a := by
  have hl : k < l.length := by
    rcases Nat.lt_or_ge k l.length with h' | h'
    · exact h'
    · rw [List.getElem?_eq_none h'] at h; cases h
  unfold mapTo
  rw [List.getElem?_append_right (by simp; omega)]
  simp [Nat.min_eq_left (Nat.le_of_lt hl), h]
theorem mapTo_set {α : Type} {f : α → α} {l : List α} {k : Nat} {a : α} (h : l[k]? = some a) : (mapTo f l k).set k (f a) = mapTo f l (k + 1) := by
  have hl : k < l.length := by
    rcases Nat.lt_or_ge k l.length with h' | h'
    · exact h'
    · rw [List.getElem?_eq_none h'] at h; cases h
  unfold mapTo
  rw [List.set_append_right _ _ (by simp; omega), List.length_map, List.length_take, Nat.min_eq_left (Nat.le_of_lt hl), Nat.sub_self, drop_cons h, List.set_cons_zero, List.take_add_one, h]
  simp
/-- A span of a structure is read. -/
theorem ldFlS {α : Type} {enc : α → List AV} {n : Nat} (hn : ∀ a, (enc a).length = n) {h : Nat → Option AObj} {id : Nat} {l : List α} {k j o : Nat} {a : α} {x y : Int} (h0 : h id = some (.cells (fl enc l))) (hk : l[k]? = some a) (hj : (enc a)[j]? = some (.int .i64 x)) (hj2 : (enc a)[j + 1]? = some (.int .i64 y)) (ho : o = k * n + j) : aLoad Tryd.prog h 28 (.vptr id o) = some ⟨.agg [.int .i64 x, .int .i64 y], []⟩ := by
  have hjn : j + 1 < n := by
    rcases Nat.lt_or_ge (j + 1) n with h' | h'
    · exact h'
    · rw [List.getElem?_eq_none (by rw [hn]; exact h')] at hj2; cases hj2
  have e := drop_cons (show (fl enc l)[o]? = some (.int .i64 x) by rw [ho, fl_get hn hk (by omega)]; exact hj)
  have e2 := drop_cons (show (fl enc l)[o + 1]? = some (.int .i64 y) by rw [ho, Nat.add_assoc, fl_get hn hk hjn]; exact hj2)
  rw [e2] at e
  simp only [aLoad, ty28, h0, e, aread]
  have hA : (TD.struct [(0, 3, false), (1, 3, false)]).agg = true := rfl
  rw [if_pos hA, if_pos (by simp)]
  rfl
theorem spanE_spec (a b : Int) : APure Tryd.prog 24 [.int .i64 a, .int .i64 b] (.agg [.int .i64 a, .int .i64 b]) :=
  APure.vcM Tryd.func24 .nil rfl rfl ⟨[], by kernel_rfl⟩
theorem late1_spec (e : Bool) (lo hi : Int) : APure Tryd.prog 64 [.agg [.int .i64 lo, .int .i64 hi], .cptr [.bool e]] (.agg [.int .i64 (tk e lo hi), .int .i64 (tk e lo hi)]) := by
  cases e
  · exact APure.vcM Tryd.func64 (.call (.agg [.int .i64 lo, .int .i64 lo]) .nil) rfl rfl ⟨spanE_spec lo lo, [], by kernel_rfl⟩
  · exact APure.vcM Tryd.func64 (.call (.agg [.int .i64 hi, .int .i64 hi]) .nil) rfl rfl ⟨spanE_spec hi hi, [], by kernel_rfl⟩
theorem early1_spec (e : Bool) (lo hi : Int) : APure Tryd.prog 65 [.agg [.int .i64 lo, .int .i64 hi], .cptr [.bool e]] (.agg [.int .i64 (gv e lo hi), .int .i64 (gv e lo hi)]) := by
  cases e
  · exact APure.vcM Tryd.func65 (.call (.agg [.int .i64 hi, .int .i64 hi]) .nil) rfl rfl ⟨spanE_spec hi hi, [], by kernel_rfl⟩
  · exact APure.vcM Tryd.func65 (.call (.agg [.int .i64 lo, .int .i64 lo]) .nil) rfl rfl ⟨spanE_spec lo lo, [], by kernel_rfl⟩
def lateF (_e : Bool) : AV := .fn (.func 64) [] [.vptr 1 0]
def earlyF (_e : Bool) : AV := .fn (.func 65) [] [.vptr 1 0]
def fxH (N M : Nat) (e : Bool) (ss : List Sta) (cs : List Cha) (ws : List Wal) : AHeap :=
  [(1, .cells [.bool e]), (2, .cells [.nil, .nil]), (8, .cells (fl cSt ss)), (15, .cells (fl cCh cs)), (18, .cells (fl cWa ws)), (19, .cells [.rsl 8 0 N 6, .rsl 15 0 M 4])]
theorem okSt (N : Nat) (l : List Sta) : okL N (fl cSt l) = true := fl_ok (fun _ => rfl) l
theorem okCh (N : Nat) (l : List Cha) : okL N (fl cCh l) = true := fl_ok (fun _ => rfl) l
theorem okWa (N : Nat) (l : List Wal) : okL N (fl cWa l) = true := fl_ok (fun _ => rfl) l
theorem thawBdgW {h : Nat → Option AObj} {i j k : Nat} {N M Q : Nat} {ss : List Sta} {cs : List Cha} {ws : List Wal} (e1 : N = ss.length) (e2 : M = cs.length) (e3 : Q = ws.length) (h1 : h i = some (.cells (fl cSt ss))) (h2 : h j = some (.cells (fl cCh cs))) (h3 : h k = some (.cells (fl cWa ws))) :
    thaw 8 h (.tup [.agg [.rsl i 0 N 6, .rsl j 0 M 4], .rsl k 0 Q 5]) = some (.tup [encB ⟨ss, cs⟩, encW ws], [i, j, k]) := by
  subst e1; subst e2; subst e3
  have t1 := thaw_fl (enc := cSt) (n := 6) 4 (id := i) (l := ss) (fun _ => rfl) (fun _ => rfl) h1
  have t2 := thaw_fl (enc := cCh) (n := 4) 4 (id := j) (l := cs) (fun _ => rfl) (fun _ => rfl) h2
  have t3 := thaw_fl (enc := cWa) (n := 5) 5 (id := k) (l := ws) (fun _ => rfl) (fun _ => rfl) h3
  have u1 : thaw 7 h (.agg [.rsl i 0 ss.length 6, .rsl j 0 cs.length 4]) = some (encB ⟨ss, cs⟩, [i, j]) := by
    have e : thaw 7 h (.agg [.rsl i 0 ss.length 6, .rsl j 0 cs.length 4]) = (mapO (thaw 6 h) [.rsl i 0 ss.length 6, .rsl j 0 cs.length 4]).map fun p => (.agg p.1, p.2) := rfl
    rw [e]
    simp only [mapO]
    rw [t1, t2]
    rfl
  have e : thaw 8 h (.tup [.agg [.rsl i 0 ss.length 6, .rsl j 0 cs.length 4], .rsl k 0 ws.length 5]) = (mapO (thaw 7 h) [.agg [.rsl i 0 ss.length 6, .rsl j 0 cs.length 4], .rsl k 0 ws.length 5]).map fun p => (.tup p.1, p.2) := rfl
  rw [e]
  simp only [mapO]
  rw [u1, t3]
  rfl
theorem fixed_spec (e : Bool) (b : Bdg) (ws : List Wal) (h1 : b.ss.length ≤ 1000) (h2 : b.cs.length ≤ 1000) (h3 : ws.length ≤ 1000) : APure Tryd.prog 33 [encB b, encW ws, .bool e] (.tup [encB (fixB e b), encW (fixW e ws)]) := by
  have a1 := appS0 (h := hget [(5, .cells [])]) (i := 5) (nid := 8) (l := b.ss) rfl h1
  have a2 := appC0 (h := hget [(9, .cells [])]) (i := 9) (nid := 15) (l := b.cs) rfl h2
  have a3 := appW0 (h := hget [(17, .cells [])]) (i := 17) (nid := 18) (l := ws) rfl h3
  refine APure.vcM Tryd.func33 (.inl Tryd.f15 <| .draw 7 <| .val 6 (.rsl 8 0 b.ss.length 6) [(5, none), (8, some (.cells (fl cSt b.ss)))] <| .val 10 (.rsl 15 0 b.cs.length 4) [(9, none), (15, some (.cells (fl cCh b.cs)))] <| .val 19 (.rsl 18 0 ws.length 5) [(17, none), (18, some (.cells (fl cWa ws)))] .loop) rfl rfl ⟨Tryd.func15, by kernel_rfl, mixed, by kernel_rfl, Eq.trans (by kernel_rfl) a1, by kernel_rfl, Eq.trans (by kernel_rfl) a2, Eq.trans (by kernel_rfl) a3, ?_⟩
  intro g hn hlo
  replace hn : g.n = 105 := hn
  replace hlo : g.low 0 := hlo.mono (Nat.zero_le _)
  have z1 := mapTo_zero (fixS e) b.ss
  have o8 : some (AObj.cells (fl cSt b.ss)) = some (.cells (fl cSt (mapTo (fixS e) b.ss 0))) := by rw [z1]
  refine acode_whileW (fun k : Nat => ⟨[(6, .vptr 2 0), (8, .vptr 19 0), (9, .rsl 18 0 ws.length 5), (10, lateF e), (11, earlyF e), (24, .int .i64 b.ss.length), (25, .int .i64 k)], fxH b.ss.length b.cs.length e (mapTo (fixS e) b.ss k) b.cs ws, 21⟩) (fun k => k ≤ b.ss.length) (fun k => b.ss.length - k) 0 (Nat.zero_le _) ?_ ?_
  · exact Wk.le (St.le.of ⟨by kernel_rfl, rfl, by kernel_rfl, rfl, by kernel_rfl, rfl, by kernel_rfl, rfl, by kernel_rfl, rfl, by kernel_rfl, rfl, by kernel_rfl, rfl, trivial⟩ ⟨by kernel_rfl, (by decide : (1 : Nat) < 21), rfl, by kernel_rfl, (by decide : (2 : Nat) < 21), rfl, Eq.trans (by kernel_rfl) o8, (by decide : (8 : Nat) < 21), okSt _ _, by kernel_rfl, (by decide : (15 : Nat) < 21), okCh _ _, by kernel_rfl, (by decide : (18 : Nat) < 21), okWa _ _, by kernel_rfl, (by decide : (19 : Nat) < 21), rfl, trivial⟩) (hlo.mono (Nat.zero_le _))
  intro k hk
  by_cases hlt : k < b.ss.length
  · refine Exists.elim (getE hlt) fun s hs => ?_
    have hL := mapTo_get (f := fixS e) hs
    have hN := mapTo_len (fixS e) b.ss k
    have hd : decide ((k : Int) < (b.ss.length : Int)) = true := decide_eq_true (Int.ofNat_lt.2 hlt)
    have ek := congrArg (AV.int .i64) (succ64 (k := k) (by omega))
    have hmu : b.ss.length - (k + 1) < b.ss.length - k := by omega
    have ix := ixSt (h := hget []) (id := 8) (N := b.ss.length) (i := (k : Int)) rfl hlt
    have l1 := ldFlS (enc := cSt) (n := 6) (j := 2) (o := k * 6 + 2) (fun _ => rfl) (h := hget [(8, .cells (fl cSt (mapTo (fixS e) b.ss k)))]) (id := 8) rfl hL rfl rfl rfl
    have l2 := ldFlS (enc := cSt) (n := 6) (j := 4) (o := k * 6 + 4) (fun _ => rfl) (h := hget [(8, .cells (fl cSt (mapTo (fixS e) b.ss k)))]) (id := 8) rfl hL rfl rfl rfl
    have c1 := late1_spec e s.wLo s.wHi
    have c2 := early1_spec e s.sLo s.sHi
    have s1 := stFlS (enc := cSt) (n := 6) (j := 2) (o := k * 6 + 2) (a' := ⟨s.nx, s.gap, tk e s.wLo s.wHi, tk e s.wLo s.wHi, s.sLo, s.sHi⟩) (fun _ => rfl) (h := hget [(8, .cells (fl cSt (mapTo (fixS e) b.ss k)))]) (id := 8) rfl hL (by decide) rfl rfl
    have hL1 : ((mapTo (fixS e) b.ss k).set k ⟨s.nx, s.gap, tk e s.wLo s.wHi, tk e s.wLo s.wHi, s.sLo, s.sHi⟩)[k]? = some ⟨s.nx, s.gap, tk e s.wLo s.wHi, tk e s.wLo s.wHi, s.sLo, s.sHi⟩ := List.getElem?_set_self (by omega)
    have s2 := stFlS (enc := cSt) (n := 6) (j := 4) (o := k * 6 + 4) (a' := fixS e s) (fun _ => rfl) (h := hget [(8, .cells (fl cSt ((mapTo (fixS e) b.ss k).set k ⟨s.nx, s.gap, tk e s.wLo s.wHi, tk e s.wLo s.wHi, s.sLo, s.sHi⟩)))]) (id := 8) rfl hL1 (by decide) rfl rfl
    rw [List.set_set, mapTo_set hs] at s2
    generalize (mapTo (fixS e) b.ss k).set k ⟨s.nx, s.gap, tk e s.wLo s.wHi, tk e s.wLo s.wHi, s.sLo, s.sHi⟩ = L1 at *
    generalize mapTo (fixS e) b.ss k = L0 at *
    generalize tk e s.wLo s.wHi = T at *
    generalize gv e s.sLo s.sHi = G at *
    exact ACode.vcM (.br 26 true <| .draw 25 <| .val 38 (.vptr 8 (k * 6)) [] <| .val 40 (.agg [.int .i64 s.wLo, .int .i64 s.wHi]) [] <| .lent (.agg [.int .i64 T, .int .i64 T]) [1] <| .val 46 (.vptr 8 (k * 6)) [] <| .val 48 (.agg [.int .i64 s.sLo, .int .i64 s.sHi]) [] <| .lent (.agg [.int .i64 G, .int .i64 G]) [1] <| .val 50 (.vptr 8 (k * 6)) [] <| .val 1 .undef [(8, some (.cells (fl cSt L1)))] <| .val 52 (.vptr 8 (k * 6)) [] <| .val 1 .undef [(8, some (.cells (fl cSt (mapTo (fixS e) b.ss (k + 1)))))] .nil) hn hlo (.roundW .cl)
      ⟨hd, by kernel_rfl, mixed, by kernel_rfl, Eq.trans (by kernel_rfl) ix, Eq.trans (by kernel_rfl) l1, ⟨_, by kernel_rfl, .inl ⟨c1, .inr rfl⟩⟩, Eq.trans (by kernel_rfl) ix, Eq.trans (by kernel_rfl) l2, ⟨_, by kernel_rfl, .inl ⟨c2, .inr rfl⟩⟩, Eq.trans (by kernel_rfl) ix, Eq.trans (by kernel_rfl) s1, by kernel_rfl, Eq.trans (by kernel_rfl) ix, Eq.trans (by kernel_rfl) s2, k + 1, hlt, hmu,
        Wk.le (St.le.of ⟨by kernel_rfl, rfl, by kernel_rfl, rfl, by kernel_rfl, rfl, by kernel_rfl, rfl, by kernel_rfl, rfl, by kernel_rfl, rfl, Eq.trans (by kernel_rfl) ek, rfl, trivial⟩ ⟨by kernel_rfl, (by decide : (1 : Nat) < 21), rfl, by kernel_rfl, (by decide : (2 : Nat) < 21), rfl, by kernel_rfl, (by decide : (8 : Nat) < 21), okSt _ _, by kernel_rfl, (by decide : (15 : Nat) < 21), okCh _ _, by kernel_rfl, (by decide : (18 : Nat) < 21), okWa _ _, by kernel_rfl, (by decide : (19 : Nat) < 21), rfl, trivial⟩) (hlo.mono (Nat.zero_le _))⟩
  have hkn : k = b.ss.length := Nat.le_antisymm hk (Nat.not_lt.1 hlt)
  subst hkn
  have hd : decide ((b.ss.length : Int) < (b.ss.length : Int)) = false := decide_eq_false (Int.lt_irrefl _)
  have z2 := mapTo_zero (fixC e) b.cs
  have o15 : some (AObj.cells (fl cCh b.cs)) = some (.cells (fl cCh (mapTo (fixC e) b.cs 0))) := by rw [z2]
  have o8' : some (AObj.cells (fl cSt (mapTo (fixS e) b.ss b.ss.length))) = some (.cells (fl cSt (b.ss.map (fixS e)))) := by rw [mapTo_all]
  refine ACode.vcM (.br 26 false .loop) hn hlo (.roundW .cl) ⟨hd, _, .refl _, .loop, ?_⟩
  intro g2 hn2 hlo2
  replace hn2 : g2.n = 105 := hn2
  replace hlo2 : g2.low 0 := hlo2.mono (Nat.zero_le _)
  refine acode_whileW (fun k : Nat => ⟨[(6, .vptr 2 0), (8, .vptr 19 0), (9, .rsl 18 0 ws.length 5), (10, lateF e), (11, earlyF e), (57, .int .i64 b.cs.length), (58, .int .i64 k)], fxH b.ss.length b.cs.length e (b.ss.map (fixS e)) (mapTo (fixC e) b.cs k) ws, 21⟩) (fun k => k ≤ b.cs.length) (fun k => b.cs.length - k) 0 (Nat.zero_le _) ?_ ?_
  · exact Wk.le (St.le.of ⟨by kernel_rfl, rfl, by kernel_rfl, rfl, by kernel_rfl, rfl, by kernel_rfl, rfl, by kernel_rfl, rfl, by kernel_rfl, rfl, by kernel_rfl, rfl, trivial⟩ ⟨by kernel_rfl, (by decide : (1 : Nat) < 21), rfl, by kernel_rfl, (by decide : (2 : Nat) < 21), rfl, Eq.trans (by kernel_rfl) o8', (by decide : (8 : Nat) < 21), okSt _ _, Eq.trans (by kernel_rfl) o15, (by decide : (15 : Nat) < 21), okCh _ _, by kernel_rfl, (by decide : (18 : Nat) < 21), okWa _ _, by kernel_rfl, (by decide : (19 : Nat) < 21), rfl, trivial⟩) (hlo2.mono (Nat.zero_le _))
  intro k hk
  by_cases hlt : k < b.cs.length
  · refine Exists.elim (getE hlt) fun s hs => ?_
    have hL := mapTo_get (f := fixC e) hs
    have hN := mapTo_len (fixC e) b.cs k
    have hd : decide ((k : Int) < (b.cs.length : Int)) = true := decide_eq_true (Int.ofNat_lt.2 hlt)
    have ek := congrArg (AV.int .i64) (succ64 (k := k) (by omega))
    have hmu : b.cs.length - (k + 1) < b.cs.length - k := by omega
    have ix := ixCh (h := hget []) (id := 15) (N := b.cs.length) (i := (k : Int)) rfl hlt
    have l1 := ldFlS (enc := cCh) (n := 4) (j := 2) (o := k * 4 + 2) (fun _ => rfl) (h := hget [(15, .cells (fl cCh (mapTo (fixC e) b.cs k)))]) (id := 15) rfl hL rfl rfl rfl
    have c1 := early1_spec e s.sLo s.sHi
    have s1 := stFlS (enc := cCh) (n := 4) (j := 2) (o := k * 4 + 2) (a' := fixC e s) (fun _ => rfl) (h := hget [(15, .cells (fl cCh (mapTo (fixC e) b.cs k)))]) (id := 15) rfl hL (by decide) rfl rfl
    rw [mapTo_set hs] at s1
    generalize mapTo (fixC e) b.cs k = L0 at *
    generalize gv e s.sLo s.sHi = G at *
    exact ACode.vcM (.br 59 true <| .draw 11 <| .val 68 (.vptr 15 (k * 4)) [] <| .val 70 (.agg [.int .i64 s.sLo, .int .i64 s.sHi]) [] <| .lent (.agg [.int .i64 G, .int .i64 G]) [1] <| .val 72 (.vptr 15 (k * 4)) [] <| .val 1 .undef [(15, some (.cells (fl cCh (mapTo (fixC e) b.cs (k + 1)))))] .nil) hn2 hlo2 (.roundW .cl)
      ⟨hd, by kernel_rfl, mixed, by kernel_rfl, Eq.trans (by kernel_rfl) ix, Eq.trans (by kernel_rfl) l1, ⟨_, by kernel_rfl, .inl ⟨c1, .inr rfl⟩⟩, by kernel_rfl, Eq.trans (by kernel_rfl) ix, Eq.trans (by kernel_rfl) s1, k + 1, hlt, hmu,
        Wk.le (St.le.of ⟨by kernel_rfl, rfl, by kernel_rfl, rfl, by kernel_rfl, rfl, by kernel_rfl, rfl, by kernel_rfl, rfl, by kernel_rfl, rfl, Eq.trans (by kernel_rfl) ek, rfl, trivial⟩ ⟨by kernel_rfl, (by decide : (1 : Nat) < 21), rfl, by kernel_rfl, (by decide : (2 : Nat) < 21), rfl, by kernel_rfl, (by decide : (8 : Nat) < 21), okSt _ _, by kernel_rfl, (by decide : (15 : Nat) < 21), okCh _ _, by kernel_rfl, (by decide : (18 : Nat) < 21), okWa _ _, by kernel_rfl, (by decide : (19 : Nat) < 21), rfl, trivial⟩) (hlo2.mono (Nat.zero_le _))⟩
  have hkn : k = b.cs.length := Nat.le_antisymm hk (Nat.not_lt.1 hlt)
  subst hkn
  have hd : decide ((b.cs.length : Int) < (b.cs.length : Int)) = false := decide_eq_false (Int.lt_irrefl _)
  have z3 := mapTo_zero (fixP e) ws
  have o18 : some (AObj.cells (fl cWa ws)) = some (.cells (fl cWa (mapTo (fixP e) ws 0))) := by rw [z3]
  have o15' : some (AObj.cells (fl cCh (mapTo (fixC e) b.cs b.cs.length))) = some (.cells (fl cCh (b.cs.map (fixC e)))) := by rw [mapTo_all]
  refine ACode.vcM (.br 59 false .loop) hn2 hlo2 (.roundW .cl) ⟨hd, _, .refl _, .loop, ?_⟩
  intro g3 hn3 hlo3
  replace hn3 : g3.n = 105 := hn3
  replace hlo3 : g3.low 0 := hlo3.mono (Nat.zero_le _)
  refine acode_whileW (fun k : Nat => ⟨[(6, .vptr 2 0), (8, .vptr 19 0), (9, .rsl 18 0 ws.length 5), (10, lateF e), (11, earlyF e), (76, .int .i64 ws.length), (77, .int .i64 k)], fxH b.ss.length b.cs.length e (b.ss.map (fixS e)) (b.cs.map (fixC e)) (mapTo (fixP e) ws k), 21⟩) (fun k => k ≤ ws.length) (fun k => ws.length - k) 0 (Nat.zero_le _) ?_ ?_
  · exact Wk.le (St.le.of ⟨by kernel_rfl, rfl, by kernel_rfl, rfl, by kernel_rfl, rfl, by kernel_rfl, rfl, by kernel_rfl, rfl, by kernel_rfl, rfl, by kernel_rfl, rfl, trivial⟩ ⟨by kernel_rfl, (by decide : (1 : Nat) < 21), rfl, by kernel_rfl, (by decide : (2 : Nat) < 21), rfl, by kernel_rfl, (by decide : (8 : Nat) < 21), okSt _ _, Eq.trans (by kernel_rfl) o15', (by decide : (15 : Nat) < 21), okCh _ _, Eq.trans (by kernel_rfl) o18, (by decide : (18 : Nat) < 21), okWa _ _, by kernel_rfl, (by decide : (19 : Nat) < 21), rfl, trivial⟩) (hlo3.mono (Nat.zero_le _))
  intro k hk
  by_cases hlt : k < ws.length
  · refine Exists.elim (getE hlt) fun w hw => ?_
    have hL := mapTo_get (f := fixP e) hw
    have hN := mapTo_len (fixP e) ws k
    have hd : decide ((k : Int) < (ws.length : Int)) = true := decide_eq_true (Int.ofNat_lt.2 hlt)
    have ek := congrArg (AV.int .i64) (succ64 (k := k) (by omega))
    have hmu : ws.length - (k + 1) < ws.length - k := by omega
    have ix := ixWa (h := hget []) (id := 18) (N := ws.length) (i := (k : Int)) rfl hlt
    have l1 := ldFlS (enc := cWa) (n := 5) (j := 1) (o := k * 5 + 1) (fun _ => rfl) (h := hget [(18, .cells (fl cWa (mapTo (fixP e) ws k)))]) (id := 18) rfl hL rfl rfl rfl
    have l2 := ldFlS (enc := cWa) (n := 5) (j := 3) (o := k * 5 + 3) (fun _ => rfl) (h := hget [(18, .cells (fl cWa (mapTo (fixP e) ws k)))]) (id := 18) rfl hL rfl rfl rfl
    have c1 := early1_spec e w.pLo w.pHi
    have c2 := late1_spec e w.tLo w.tHi
    have s1 := stFlS (enc := cWa) (n := 5) (j := 1) (o := k * 5 + 1) (a' := ⟨w.ch, gv e w.pLo w.pHi, gv e w.pLo w.pHi, w.tLo, w.tHi⟩) (fun _ => rfl) (h := hget [(18, .cells (fl cWa (mapTo (fixP e) ws k)))]) (id := 18) rfl hL (by decide) rfl rfl
    have hL1 : ((mapTo (fixP e) ws k).set k ⟨w.ch, gv e w.pLo w.pHi, gv e w.pLo w.pHi, w.tLo, w.tHi⟩)[k]? = some ⟨w.ch, gv e w.pLo w.pHi, gv e w.pLo w.pHi, w.tLo, w.tHi⟩ := List.getElem?_set_self (by omega)
    have s2 := stFlS (enc := cWa) (n := 5) (j := 3) (o := k * 5 + 3) (a' := fixP e w) (fun _ => rfl) (h := hget [(18, .cells (fl cWa ((mapTo (fixP e) ws k).set k ⟨w.ch, gv e w.pLo w.pHi, gv e w.pLo w.pHi, w.tLo, w.tHi⟩)))]) (id := 18) rfl hL1 (by decide) rfl rfl
    rw [List.set_set, mapTo_set hw] at s2
    generalize (mapTo (fixP e) ws k).set k ⟨w.ch, gv e w.pLo w.pHi, gv e w.pLo w.pHi, w.tLo, w.tHi⟩ = L1 at *
    generalize mapTo (fixP e) ws k = L0 at *
    generalize tk e w.tLo w.tHi = T at *
    generalize gv e w.pLo w.pHi = G at *
    exact ACode.vcM (.br 78 true <| .draw 21 <| .val 87 (.vptr 18 (k * 5)) [] <| .val 89 (.agg [.int .i64 w.pLo, .int .i64 w.pHi]) [] <| .lent (.agg [.int .i64 G, .int .i64 G]) [1] <| .val 94 (.vptr 18 (k * 5)) [] <| .val 96 (.agg [.int .i64 w.tLo, .int .i64 w.tHi]) [] <| .lent (.agg [.int .i64 T, .int .i64 T]) [1] <| .val 98 (.vptr 18 (k * 5)) [] <| .val 1 .undef [(18, some (.cells (fl cWa L1)))] <| .val 100 (.vptr 18 (k * 5)) [] <| .val 1 .undef [(18, some (.cells (fl cWa (mapTo (fixP e) ws (k + 1)))))] .nil) hn3 hlo3 (.roundW .cl)
      ⟨hd, by kernel_rfl, mixed, by kernel_rfl, Eq.trans (by kernel_rfl) ix, Eq.trans (by kernel_rfl) l1, ⟨_, by kernel_rfl, .inl ⟨c1, .inr rfl⟩⟩, Eq.trans (by kernel_rfl) ix, Eq.trans (by kernel_rfl) l2, ⟨_, by kernel_rfl, .inl ⟨c2, .inr rfl⟩⟩, Eq.trans (by kernel_rfl) ix, Eq.trans (by kernel_rfl) s1, by kernel_rfl, Eq.trans (by kernel_rfl) ix, Eq.trans (by kernel_rfl) s2, k + 1, hlt, hmu,
        Wk.le (St.le.of ⟨by kernel_rfl, rfl, by kernel_rfl, rfl, by kernel_rfl, rfl, by kernel_rfl, rfl, by kernel_rfl, rfl, by kernel_rfl, rfl, Eq.trans (by kernel_rfl) ek, rfl, trivial⟩ ⟨by kernel_rfl, (by decide : (1 : Nat) < 21), rfl, by kernel_rfl, (by decide : (2 : Nat) < 21), rfl, by kernel_rfl, (by decide : (8 : Nat) < 21), okSt _ _, by kernel_rfl, (by decide : (15 : Nat) < 21), okCh _ _, by kernel_rfl, (by decide : (18 : Nat) < 21), okWa _ _, by kernel_rfl, (by decide : (19 : Nat) < 21), rfl, trivial⟩) (hlo3.mono (Nat.zero_le _))⟩
  have hkn : k = ws.length := Nat.le_antisymm hk (Nat.not_lt.1 hlt)
  subst hkn
  have hd : decide ((ws.length : Int) < (ws.length : Int)) = false := decide_eq_false (Int.lt_irrefl _)
  have ea := mapTo_all (fixP e) ws
  have ht : thaw 8 (hget [(1, .cells [.bool e]), (2, .cells [.rsl 8 0 b.ss.length 6, .rsl 15 0 b.cs.length 4]), (8, .cells (fl cSt (b.ss.map (fixS e)))), (15, .cells (fl cCh (b.cs.map (fixC e)))), (18, .cells (fl cWa (mapTo (fixP e) ws ws.length))), (19, .cells [.rsl 8 0 b.ss.length 6, .rsl 15 0 b.cs.length 4])]) (.tup [.agg [.rsl 8 0 b.ss.length 6, .rsl 15 0 b.cs.length 4], .rsl 18 0 ws.length 5]) = some (.tup [encB (fixB e b), encW (fixW e ws)], [8, 15, 18]) := by
    rw [ea]
    exact thawBdgW (List.length_map ..).symm (List.length_map ..).symm (List.length_map ..).symm rfl rfl rfl
  exact ACode.vcM (.br 78 false .nil) hn3 hlo3 (.roundW .cl) ⟨hd, _, .refl _, .nil, _, Eq.trans (by kernel_rfl) ht⟩
end Go.Proofs.YtiggnliiigcjaaaDoor

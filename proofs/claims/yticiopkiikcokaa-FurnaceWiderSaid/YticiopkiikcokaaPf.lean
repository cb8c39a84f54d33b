import Derived.Test.YticiopkiikcokaaPb
import Derived.Test.YticiopkiikcokaaPd
import Derived.Test.YticiopkiikcokaaN19
namespace Go.Proofs.Yticiopkiikcokaa
open Go Go.Am
theorem eqSpan (a b : Int) (d : Nat) : aeqT Try.prog (d + 2) 26 (.agg [.int .i64 a, .int .i64 b]) (.agg [.int .i64 a, .int .i64 b]) = some true := by
  simp [aeqT, aeqF, ty26, ty3, apart, TD.agg, andO]
theorem eqPt (p : Pt) : aeqT Try.prog 6 93 (.agg (encPt p)) (.agg (encPt p)) = some true := by
  simp [aeqT, aeqF, ty93, ty3, encPt, apart, TD.agg, andO]
theorem eqCp (c : Cp) : aeqT Try.prog 6 76 (.agg (encCp c)) (.agg (encCp c)) = some true := by
  simp [aeqT, aeqF, ty76, ty26, ty3, encCp, apart, TD.agg, andO]
set_option maxHeartbeats 8000000 in
set_option maxRecDepth 100000 in
theorem SameInts_spec (l : List Int) (hl1 : l.length ≤ 1000) : APure Try.prog 58 [.lst 1 (l.map encD), .lst 1 (l.map encD)] (.bool true) := by
  have hne : (((l.map encD).length : Int) != ((l.map encD).length : Int)) = false := by simp
  refine APure.vc Try.func58 rfl (.br 10 false .loop) rfl rfl ⟨hne, ?_⟩
  intro g hn hl
  replace hn : g.n = 26 := hn
  replace hl : g.low 0 := hl
  refine acode_while (fun k : Nat => ⟨[(0, .lst 1 (l.map encD)), (1, .lst 1 (l.map encD)), (5, .int .i64 k)], [], 0⟩) (fun k => k ≤ l.length) (fun k => l.length - k) 0 (Nat.zero_le _) ?_ (fun _ _ => hl) ?_
  · exact St.le.of ⟨rfl, rfl, rfl, rfl, rfl, rfl, trivial⟩ trivial
  · intro k hk
    by_cases hlt : k < l.length
    · refine Exists.elim (getE hlt) fun d hd => ?_
      have hd' : (d != d) = false := by simp
      exact ACode.vc (.br 14 true <| .draw 8 <| .cells (encD d) <| .cells (encD d) <| .br 25 false .nil) hn hl (.round .cl) ⟨ltLen hlt, by kernel_rfl, mixed, by kernel_rfl, idx hd, idx hd, by kernel_rfl, hd', k + 1, hlt, mu1 hlt, St.le.of ⟨rfl, rfl, rfl, rfl, congrArg _ (succ64 (by omega)), rfl, trivial⟩ trivial⟩
    · exact ACode.vc (.br 14 false .nil) hn hl (.round .cl) ⟨geLen hlt, _, .refl _, .nil, rB rfl⟩
set_option maxHeartbeats 8000000 in
set_option maxRecDepth 100000 in
theorem SamePoints_spec (l : List Pt) (hl1 : l.length ≤ 1000) : APure Try.prog 23 [.lst 2 (l.map encPt), .lst 2 (l.map encPt)] (.bool true) := by
  have hne : (((l.map encPt).length : Int) != ((l.map encPt).length : Int)) = false := by simp
  refine APure.vc Try.func23 rfl (.br 10 false .loop) rfl rfl ⟨hne, ?_⟩
  intro g hn hl
  replace hn : g.n = 26 := hn
  replace hl : g.low 0 := hl
  refine acode_while (fun k : Nat => ⟨[(0, .lst 2 (l.map encPt)), (1, .lst 2 (l.map encPt)), (5, .int .i64 k)], [], 0⟩) (fun k => k ≤ l.length) (fun k => l.length - k) 0 (Nat.zero_le _) ?_ (fun _ _ => hl) ?_
  · exact St.le.of ⟨rfl, rfl, rfl, rfl, rfl, rfl, trivial⟩ trivial
  · intro k hk
    by_cases hlt : k < l.length
    · refine Exists.elim (getE hlt) fun p hp => ?_
      have he : ((aeqT Try.prog 6 93 (.agg (encPt p)) (.agg (encPt p))).map fun b => AV.bool !b).map (fun v => (⟨v, []⟩ : Out)) = some ⟨.bool false, []⟩ := by rw [eqPt]; rfl
      exact ACode.vc (.br 14 true <| .draw 8 <| .cells (encPt p) <| .cells (encPt p) <| .val 25 (.bool false) [] .nil) hn hl (.round .cl) ⟨ltLen hlt, by kernel_rfl, mixed, by kernel_rfl, idx hp, idx hp, by kernel_rfl, Eq.trans (by kernel_rfl) he, k + 1, hlt, mu1 hlt, St.le.of ⟨rfl, rfl, rfl, rfl, congrArg _ (succ64 (by omega)), rfl, trivial⟩ trivial⟩
    · exact ACode.vc (.br 14 false .nil) hn hl (.round .cl) ⟨geLen hlt, _, .refl _, .nil, rB rfl⟩
end Go.Proofs.Yticiopkiikcokaa
namespace Go.Proofs.Yticiopkiikcokaa
open Go Go.Am
set_option maxHeartbeats 16000000 in
set_option maxRecDepth 100000 in
theorem Same_spec (r : Rn) (h1 : r.curve.length ≤ 1000) (h2 : r.cps.length ≤ 1000) (h3 : r.rows.length ≤ 1000) (h4 : ∀ q ∈ r.rows, q.deg.length ≤ 1000) : APure Try.prog 22 [encRn r, encRn r] (.bool true) := by
  have e1 : (r.id != r.id) = false := by simp
  have s1 := SamePoints_spec r.curve h1
  have e2 : ((aeqT Try.prog 6 26 (.agg [.int .i64 r.gLo, .int .i64 r.gHi]) (.agg [.int .i64 r.gLo, .int .i64 r.gHi])).map fun b => AV.bool !b).map (fun v => (⟨v, []⟩ : Out)) = some ⟨.bool false, []⟩ := by rw [eqSpan]; rfl
  have e3 : (((r.cps.map encCp).length : Int) != ((r.cps.map encCp).length : Int)) = false := by simp
  have e4 : (((r.rows.map encRw).length : Int) != ((r.rows.map encRw).length : Int)) = false := by simp
  refine APure.vc Try.func22 rfl (.br 12 false <| .call (.bool true) <| .val 25 (.bool false) [] <| .br 36 false <| .br 44 false .loop) rfl rfl ⟨e1, s1, Eq.trans (by kernel_rfl) e2, e3, e4, ?_⟩
  intro g hn hl
  replace hn : g.n = 99 := hn
  replace hl : g.low 0 := hl
  refine acode_while (fun k : Nat => ⟨[(2, .vptr 0 0), (3, .vptr 1 0), (5, .int .i64 k)], [(0, .cells (runL r)), (1, .cells (runL r))], 2⟩) (fun k => k ≤ r.cps.length) (fun k => r.cps.length - k) 0 (Nat.zero_le _) ?_ (fun _ _ => hl.mono (Nat.zero_le _)) ?_
  · exact St.le.of ⟨rfl, rfl, rfl, rfl, rfl, rfl, trivial⟩ ⟨rfl, (by decide : (0 : Nat) < 2), rfl, rfl, (by decide : (1 : Nat) < 2), rfl, trivial⟩
  · intro k hk
    by_cases hlt : k < r.cps.length
    · refine Exists.elim (getE hlt) fun c hc => ?_
      have ec : ((aeqT Try.prog 6 76 (.agg (encCp c)) (.agg (encCp c))).map fun b => AV.bool !b).map (fun v => (⟨v, []⟩ : Out)) = some ⟨.bool false, []⟩ := by rw [eqCp]; rfl
      exact ACode.vc (.br 49 true <| .draw 10 <| .cells (encCp c) <| .cells (encCp c) <| .val 62 (.bool false) [] .nil) hn hl (.round .cl) ⟨ltLen hlt, by kernel_rfl, mixed, by kernel_rfl, idx hc, idx hc, by kernel_rfl, Eq.trans (by kernel_rfl) ec, k + 1, hlt, mu1 hlt,
        St.le.of ⟨rfl, rfl, rfl, rfl, congrArg _ (succ64 (by omega)), rfl, trivial⟩ ⟨rfl, (by decide : (0 : Nat) < 2), rfl, rfl, (by decide : (1 : Nat) < 2), rfl, trivial⟩⟩
    · refine ACode.vc (.br 49 false .nil) hn hl (.round .cl) ⟨geLen hlt, _, .refl _, .loop, ?_⟩
      intro g hn hl
      replace hn : g.n = 99 := hn
      replace hl : g.low 0 := hl
      refine acode_while (fun k : Nat => ⟨[(2, .vptr 0 0), (3, .vptr 1 0), (6, .int .i64 k)], [(0, .cells (runL r)), (1, .cells (runL r))], 2⟩) (fun k => k ≤ r.rows.length) (fun k => r.rows.length - k) 0 (Nat.zero_le _) ?_ (fun _ _ => hl.mono (Nat.zero_le _)) ?_
      · exact St.le.of ⟨rfl, rfl, rfl, rfl, rfl, rfl, trivial⟩ ⟨rfl, (by decide : (0 : Nat) < 2), rfl, rfl, (by decide : (1 : Nat) < 2), rfl, trivial⟩
      · intro k hk
        by_cases hlt : k < r.rows.length
        · refine Exists.elim (getE hlt) fun q hq => ?_
          have s2 := SameInts_spec q.deg (h4 q (List.mem_of_getElem? hq))
          have e5 : (q.press != q.press) = false := by simp
          exact ACode.vc (.br 67 true <| .draw 26 <| .cells (encRw q) <| .cells (encRw q) <| .br 83 false <| .cells (encRw q) <| .cells (encRw q) <| .call (.bool true) .nil) hn hl (.round .cl) ⟨ltLen hlt, by kernel_rfl, mixed, by kernel_rfl, idx hq, idx hq, e5, idx hq, idx hq, by kernel_rfl, s2, k + 1, hlt, mu1 hlt,
            St.le.of ⟨rfl, rfl, rfl, rfl, congrArg _ (succ64 (by omega)), rfl, trivial⟩ ⟨rfl, (by decide : (0 : Nat) < 2), rfl, rfl, (by decide : (1 : Nat) < 2), rfl, trivial⟩⟩
        · exact ACode.vc (.br 67 false .nil) hn hl (.round .cl) ⟨geLen hlt, _, .refl _, .nil, rB rfl⟩
end Go.Proofs.Yticiopkiikcokaa
namespace Go.Proofs.Yticiopkiikcokaa
open Go Go.Am
/-! Lists of things, laid cell by cell. -/
def fl {α : Type} (enc : α → List AV) (l : List α) : List AV := l.flatMap enc
theorem fl_cons {α : Type} (enc : α → List AV) (a : α) (l : List α) : fl enc (a :: l) = enc a ++ fl enc l := rfl
theorem fl_len {α : Type} {enc : α → List AV} {n : Nat} (h : ∀ a, (enc a).length = n) : ∀ l : List α, (fl enc l).length = l.length * n := by
  intro l
  induction l with
  | nil => simp [fl]
  | cons a l ih => rw [fl_cons, List.length_append, ih, h, List.length_cons, Nat.succ_mul]; omega
theorem okL_app (n : Nat) : ∀ a b : List AV, okL n a = true → okL n b = true → okL n (a ++ b) = true := by
  intro a b ha hb
  induction a with
  | nil => exact hb
  | cons x a ih =>
    simp only [okL, Bool.and_eq_true] at ha
    show (x.ok n && okL n (a ++ b)) = true
    rw [ha.1, ih ha.2]; rfl
theorem fl_ok {α : Type} {enc : α → List AV} {n : Nat} (h : ∀ a, okL n (enc a) = true) : ∀ l : List α, okL n (fl enc l) = true := by
  intro l
  induction l with
  | nil => rfl
  | cons a l ih => rw [fl_cons]; exact okL_app n _ _ (h a) ih
theorem fl_cellB {α : Type} {enc : α → List AV} (h : ∀ a, (enc a).all cellB = true) : ∀ l : List α, (fl enc l).all cellB = true := by
  intro l
  induction l with
  | nil => rfl
  | cons a l ih => rw [fl_cons, List.all_append, h, ih]; rfl
theorem fl_chunks {α : Type} {enc : α → List AV} {n : Nat} (h : ∀ a, (enc a).length = n) : ∀ l : List α, chunks n (fl enc l) l.length = l.map enc := by
  intro l
  induction l with
  | nil => rfl
  | cons a l ih =>
    have e1 : (enc a ++ fl enc l).take n = enc a := by rw [← h a, List.take_left]
    have e2 : (enc a ++ fl enc l).drop n = fl enc l := by rw [← h a, List.drop_left]
    show ((enc a ++ fl enc l).take n) :: chunks n ((enc a ++ fl enc l).drop n) l.length = _
    rw [e1, e2, ih]; rfl
theorem fl_flatten {α : Type} (enc : α → List AV) (l : List α) : (l.map enc).flatten = fl enc l := by
  unfold fl; rw [List.flatMap_def]
theorem map_all {α : Type} {enc : α → List AV} {n : Nat} (h : ∀ a, (enc a).length = n) (l : List α) : ((l.map enc).all fun y => y.length == n) = true := by
  rw [List.all_eq_true]
  intro y hy
  obtain ⟨a, _, rfl⟩ := List.mem_map.1 hy
  simp [h a]
/-- A slice of one's own, let go of as the whole answer's part. -/
theorem thaw_fl {α : Type} {enc : α → List AV} {n : Nat} (d : Nat) {h : Nat → Option AObj} {id : Nat} {l : List α} (hn : ∀ a, (enc a).length = n) (hok : ∀ a, okL 0 (enc a) = true) (h0 : h id = some (.cells (fl enc l))) :
    thaw (d + 2) h (.rsl id 0 l.length n) = some (.lst n (l.map enc), [id]) := by
  have e : thaw (d + 2) h (.rsl id 0 l.length n) = (match h id with
      | some (.cells cs) => if 0 + l.length * n ≤ cs.length then (match mapO (thaw (d + 1) h) cs with | some (cs', is) => some (.lst n (chunks n (cs'.drop 0) l.length), id :: is) | none => none) else none
      | _ => none) := rfl
  rw [e, h0]
  simp only []
  rw [if_pos (by rw [fl_len hn]; omega), thaw_all d h _ (fl_ok hok l)]
  simp only [List.drop_zero, fl_chunks hn]
end Go.Proofs.Yticiopkiikcokaa
namespace Go.Proofs.Yticiopkiikcokaa
open Go Go.Am
def frzH (H : AHeap) (c id esz : Nat) (cs : List AV) : AHeap → Prop
  | [] => True
  | p :: l => (p.1 < c ∧ ((hget H p.1 = some p.2 ∧ okO c p.2 = true) ∨ ∃ xs ys : List AV, p.2 = .cells xs ∧ hget H p.1 = some (.cells ys) ∧ xs.length = ys.length ∧
    ∀ (i : Nat) (x : AV), xs[i]? = some x → (ys[i]? = some x ∧ x.ok c = true) ∨ ∃ n, ys[i]? = some (.rsl id 0 n esz) ∧ x = .lst esz (chunks esz cs n) ∧ n * esz ≤ cs.length)) ∧ frzH H c id esz cs l
theorem St.frz.of {S' S : St} {c id esz : Nat} {cs : List AV} (hnx : S'.nx = c) (hci : c ≤ id) (ho : hget S.H id = some (.cells cs)) (hok : okL 0 cs = true) (h1 : leE S.env c S'.env) (h2 : frzH S.H c id esz cs S'.H) : St.frz c id esz cs S' S := by
  refine ⟨hnx, hci, ho, hok, fun t => ?_, fun j o hj => ?_⟩
  · generalize S'.env = l at h1 ⊢
    induction l with
    | nil => exact .inl rfl
    | cons p l ih =>
      obtain ⟨k, v⟩ := p
      by_cases e : k = t
      · subst e
        have : elook ((k, v) :: l) k = v := by simp [elook]
        rw [this]; exact .inr ⟨h1.1.symm, h1.2.1⟩
      · have : elook ((k, v) :: l) t = elook l t := by simp [elook, e]
        rw [this]; exact ih h1.2.2
  · generalize S'.H = l at h2 hj
    induction l with
    | nil => simp [hget] at hj
    | cons p l ih =>
      obtain ⟨k, v⟩ := p
      by_cases e : k = j
      · subst e; simp [hget] at hj; subst hj; exact h2.1
      · simp only [hget, if_neg e] at hj; exact ih h2.2 hj
theorem all_cellB_ints : ∀ c : Cp, (encCp c).all cellB = true := fun _ => rfl
theorem app22 {h : Nat → Option AObj} {i nid : Nat} {l : List Pt} (h0 : h i = some (.cells [])) (hl : l.length ≤ 1000) : aAppend Try.prog h nid 22 22 (.rsl i 0 0 2) (.lst 2 (l.map encPt)) = some ⟨.rsl nid 0 l.length 2, [(i, none), (nid, some (.cells (fl encPt l)))]⟩ := by
  have hb := fl_cellB (enc := encPt) (fun _ => rfl) l
  simp only [aAppend, ty22, ty93, srcCells, map_all (enc := encPt) (n := 2) (fun _ => rfl) l, fl_flatten, h0]
  simp [hb]; omega
theorem app23 {h : Nat → Option AObj} {i nid : Nat} {l : List Cp} (h0 : h i = some (.cells [])) (hl : l.length ≤ 1000) : aAppend Try.prog h nid 23 23 (.rsl i 0 0 6) (.lst 6 (l.map encCp)) = some ⟨.rsl nid 0 l.length 6, [(i, none), (nid, some (.cells (fl encCp l)))]⟩ := by
  have hb := fl_cellB (enc := encCp) (fun _ => rfl) l
  simp only [aAppend, ty23, ty76, srcCells, map_all (enc := encCp) (n := 6) (fun _ => rfl) l, fl_flatten, h0]
  simp [hb]; omega
theorem app24 {h : Nat → Option AObj} {i nid : Nat} {l : List Rw} (h0 : h i = some (.cells [])) (hl : l.length ≤ 1000) : aAppend Try.prog h nid 24 24 (.rsl i 0 0 2) (.lst 2 (l.map encRw)) = some ⟨.rsl nid 0 l.length 2, [(i, none), (nid, some (.cells (fl encRw l)))]⟩ := by
  have hb := fl_cellB (enc := encRw) (fun _ => rfl) l
  simp only [aAppend, ty24, ty89, srcCells, map_all (enc := encRw) (n := 2) (fun _ => rfl) l, fl_flatten, h0]
  simp [hb]; omega
theorem app87 {h : Nat → Option AObj} {i nid : Nat} {l : List Int} (h0 : h i = some (.cells [])) (hl : l.length ≤ 1000) : aAppend Try.prog h nid 87 87 (.rsl i 0 0 1) (.lst 1 (l.map encD)) = some ⟨.rsl nid 0 l.length 1, [(i, none), (nid, some (.cells (fl encD l)))]⟩ := by
  have hb := fl_cellB (enc := encD) (fun _ => rfl) l
  simp only [aAppend, ty87, ty3, srcCells, map_all (enc := encD) (n := 1) (fun _ => rfl) l, fl_flatten, h0]
  simp [hb]; omega
end Go.Proofs.Yticiopkiikcokaa
namespace Go.Proofs.Yticiopkiikcokaa
open Go Go.Am
theorem flR_get {q : Rw} : ∀ (l : List Rw) (k : Nat), l[k]? = some q → (fl encRw l)[k * 2]? = some (.lst 1 (q.deg.map encD)) := by
  intro l
  induction l with
  | nil => intro k h; simp at h
  | cons a l ih =>
    intro k h
    have ea : fl encRw (a :: l) = AV.lst 1 (a.deg.map encD) :: AV.int .i64 a.press :: fl encRw l := rfl
    cases k with
    | zero => simp at h; subst h; rw [ea]; rfl
    | succ k =>
      have e : (k + 1) * 2 = k * 2 + 1 + 1 := by omega
      rw [ea, e, List.getElem?_cons_succ, List.getElem?_cons_succ]
      exact ih k (by simpa using h)
theorem ixR {h : Nat → Option AObj} {n k : Nat} (hk : k < n) : aindexAddr Try.prog h 24 (.rsl 9 0 n 2) (.int .i64 (k : Int)) = some (.vptr 9 (0 + k * 2)) := by
  simp only [aindexAddr, ty24, ty89]
  rw [if_pos ⟨trivial, Int.natCast_nonneg _, by simpa using hk⟩]; rfl
theorem ldR {h : Nat → Option AObj} {l : List Rw} {q : Rw} {k : Nat} (h0 : h 9 = some (.cells (fl encRw l))) (hq : l[k]? = some q) : aLoad Try.prog h 87 (.vptr 9 (0 + k * 2)) = some ⟨.lst 1 (q.deg.map encD), []⟩ := by
  have e : ((fl encRw l).drop (0 + k * 2))[0]? = some (.lst 1 (q.deg.map encD)) := by
    rw [List.getElem?_drop]
    have : 0 + k * 2 + 0 = k * 2 := by omega
    rw [this]; exact flR_get l k hq
  have ha : (TD.slice 3).agg = false := rfl
  simp only [aLoad, ty87, h0, aread, ha, Bool.false_eq_true, if_false, e, Option.map_some]
theorem stR {h : Nat → Option AObj} {cs : List AV} {off n id : Nat} (h0 : h 9 = some (.cells cs)) (hl : off + 1 ≤ cs.length) : aStore Try.prog h 87 (.vptr 9 off) (.rsl id 0 n 1) = some ⟨.undef, [(9, some (.cells (cs.set off (.rsl id 0 n 1))))]⟩ := by
  simp only [aStore, ty87, acells, h0]
  rw [if_pos ⟨rfl, hl, rfl⟩]; rfl
def Z28 : List AV := [.int .i64 0, .nil, .nil, .nil, .int .i64 0, .int .i64 0]
def twL (r : Rn) : List AV := [.int .i64 r.id, .rsl 3 0 r.curve.length 2, .rsl 6 0 r.cps.length 6, .rsl 9 0 r.rows.length 2, .int .i64 r.gLo, .int .i64 r.gHi]
theorem thaw_tw {h : Nat → Option AObj} {r : Rn} (h3 : h 3 = some (.cells (fl encPt r.curve))) (h6 : h 6 = some (.cells (fl encCp r.cps))) (h9 : h 9 = some (.cells (fl encRw r.rows))) : thaw 8 h (.agg (twL r)) = some (encRn r, [3, 6, 9]) := by
  have e : thaw 8 h (.agg (twL r)) = (mapO (thaw 7 h) (twL r)).map fun p => (.agg p.1, p.2) := rfl
  have i1 : ∀ n : Int, thaw 7 h (.int .i64 n) = some (.int .i64 n, []) := fun _ => rfl
  have t3 := thaw_fl (n := 2) (d := 5) (fun _ => rfl) (fun _ => rfl) h3
  have t6 := thaw_fl (n := 6) (d := 5) (fun _ => rfl) (fun _ => rfl) h6
  have t9 := thaw_fl (n := 2) (d := 5) (fun _ => rfl) (fun _ => rfl) h9
  rw [e]
  simp only [twL, mapO, i1, t3, t6, t9, Option.map_some, List.nil_append, List.append_nil, List.cons_append]
  rfl
set_option maxHeartbeats 16000000 in
set_option maxRecDepth 100000 in
theorem Twin_spec (r : Rn) (h1 : r.curve.length ≤ 1000) (h2 : r.cps.length ≤ 1000) (h3 : r.rows.length ≤ 1000) (h4 : ∀ q ∈ r.rows, q.deg.length ≤ 1000) : APure Try.prog 15 [encRn r] (encRn r) := by
  have a1 := app22 (h := hget [(0, .cells (runL r)), (1, .cells Z28), (2, .cells [])]) (i := 2) (nid := 3) (l := r.curve) rfl h1
  have a2 := app23 (h := hget [(5, .cells [])]) (i := 5) (nid := 6) (l := r.cps) rfl h2
  have a3 := app24 (h := hget [(8, .cells [])]) (i := 8) (nid := 9) (l := r.rows) rfl h3
  obtain ⟨R, hR⟩ : ∃ R, R = fl encRw r.rows := ⟨_, rfl⟩
  have hRl : R.length = r.rows.length * 2 := by rw [hR]; exact fl_len (enc := encRw) (n := 2) (fun _ => rfl) _
  have hRok : okL 11 R = true := by rw [hR]; exact fl_ok (fun _ => rfl) _
  have hth : thaw 8 (hget [(0, .cells (twL r)), (1, .cells (twL r)), (3, .cells (fl encPt r.curve)), (6, .cells (fl encCp r.cps)), (9, .cells R)]) (.agg (twL r)) = some (encRn r, [3, 6, 9]) := thaw_tw rfl rfl (by rw [hR]; rfl)
  have o3 : okL 11 (fl encPt r.curve) = true := fl_ok (fun _ => rfl) _
  have o6 : okL 11 (fl encCp r.cps) = true := fl_ok (fun _ => rfl) _
  rw [← hR] at a3
  refine APure.vcT Try.func15 (.val 7 (.rsl 3 0 r.curve.length 2) [(2, none), (3, some (.cells (fl encPt r.curve)))] <| .val 12 (.rsl 6 0 r.cps.length 6) [(5, none), (6, some (.cells (fl encCp r.cps)))] <| .val 17 (.rsl 9 0 r.rows.length 2) [(8, none), (9, some (.cells R))] .loop) rfl rfl
    ⟨Eq.trans (by kernel_rfl) a1, Eq.trans (by kernel_rfl) a2, Eq.trans (by kernel_rfl) a3, ?_⟩
  intro g hn hl
  replace hn : g.n = 40 := hn
  replace hl : g.low 0 := hl
  refine acode_whileW (fun k : Nat => ⟨[(1, .vptr 0 0), (2, .vptr 1 0), (3, .int .i64 k)], [(0, .cells (twL r)), (1, .cells Z28), (3, .cells (fl encPt r.curve)), (6, .cells (fl encCp r.cps)), (9, .cells R)], 11⟩) (fun k => k ≤ r.rows.length) (fun k => r.rows.length - k) 0 (Nat.zero_le _) (Wk.le ?_ (hl.mono (Nat.zero_le _))) ?_
  · exact St.le.of ⟨rfl, rfl, rfl, rfl, rfl, rfl, trivial⟩ ⟨by kernel_rfl, (by decide : (0 : Nat) < 11), rfl, by kernel_rfl, (by decide : (1 : Nat) < 11), rfl, by kernel_rfl, (by decide : (3 : Nat) < 11), o3, by kernel_rfl, (by decide : (6 : Nat) < 11), o6, by kernel_rfl, (by decide : (9 : Nat) < 11), hRok, trivial⟩
  · intro k hk
    by_cases hlt : k < r.rows.length
    · refine Exists.elim (getE hlt) fun q hq => ?_
      have e1 := succ64 (k := k) (by omega)
      have ix := congrArg (Option.map fun v => (⟨v, []⟩ : Out)) (ixR (h := hget []) hlt)
      have ld := ldR (h := hget [(9, .cells R)]) (l := r.rows) (q := q) (k := k) (by rw [hR]; rfl) hq
      have ap := app87 (h := hget [(14, .cells [])]) (i := 14) (nid := 21) (l := q.deg) rfl (h4 q (List.mem_of_getElem? hq))
      have st := stR (h := hget [(9, .cells R)]) (cs := R) (off := 0 + k * 2) (n := q.deg.length) (id := 21) rfl (by omega)
      have hset : ∀ (i : Nat) (x : AV), R[i]? = some x → ((R.set (0 + k * 2) (.rsl 21 0 q.deg.length 1))[i]? = some x ∧ x.ok 11 = true) ∨ ∃ n, (R.set (0 + k * 2) (.rsl 21 0 q.deg.length 1))[i]? = some (.rsl 21 0 n 1) ∧ x = .lst 1 (chunks 1 (fl encD q.deg) n) ∧ n * 1 ≤ (fl encD q.deg).length := fun i x hx => by
        by_cases e : 0 + k * 2 = i
        · right
          have hx' : x = .lst 1 (q.deg.map encD) := by
            have := flR_get r.rows k hq
            rw [← hR] at this
            have e' : k * 2 = i := by omega
            rw [e', hx] at this
            exact Option.some.inj this
          refine ⟨q.deg.length, ?_, by rw [hx', fl_chunks (enc := encD) (fun _ => rfl)], by rw [fl_len (enc := encD) (n := 1) (fun _ => rfl)]; omega⟩
          rw [← e, List.getElem?_set_self (by omega)]
        · left
          exact ⟨by rw [List.getElem?_set_ne e]; exact hx, okL_get hRok hx⟩
      exact ACode.vc (.br 23 true <| .draw 11 <| .val 33 (.vptr 9 (0 + k * 2)) [] <| .val 35 (.lst 1 (q.deg.map encD)) [] <| .val 36 (.rsl 21 0 q.deg.length 1) [(14, none), (21, some (.cells (fl encD q.deg)))] <| .val 37 (.vptr 9 (0 + k * 2)) [] <| .val 1 .undef [(9, some (.cells (R.set (0 + k * 2) (.rsl 21 0 q.deg.length 1))))] .nil) hn hl (.roundW .cl)
        ⟨decide_eq_true (Int.ofNat_lt.2 hlt), by kernel_rfl, mixed, by kernel_rfl, Eq.trans (by kernel_rfl) ix, Eq.trans (by kernel_rfl) ld, Eq.trans (by kernel_rfl) ap, by kernel_rfl, Eq.trans (by kernel_rfl) ix, Eq.trans (by kernel_rfl) st, k + 1, hlt, mu1 hlt,
          Wk.frz (c := 11) (id := 21) (esz := 1) (cs := fl encD q.deg) (St.frz.of rfl (by decide) (by kernel_rfl) (fl_ok (fun _ => rfl) _) ⟨by kernel_rfl, rfl, by kernel_rfl, rfl, Eq.trans (by kernel_rfl) (congrArg (AV.int .i64) e1), rfl, trivial⟩
            ⟨⟨(by decide : (0 : Nat) < 11), .inl ⟨by kernel_rfl, rfl⟩⟩, ⟨(by decide : (1 : Nat) < 11), .inl ⟨by kernel_rfl, rfl⟩⟩, ⟨(by decide : (3 : Nat) < 11), .inl ⟨by kernel_rfl, o3⟩⟩, ⟨(by decide : (6 : Nat) < 11), .inl ⟨by kernel_rfl, o6⟩⟩, ⟨(by decide : (9 : Nat) < 11), .inr ⟨R, R.set (0 + k * 2) (.rsl 21 0 q.deg.length 1), rfl, by kernel_rfl, by simp, hset⟩⟩, trivial⟩) (hl.mono (Nat.zero_le _))⟩
    · have hk' : k = r.rows.length := by omega
      exact ACode.vc (.br 23 false .nil) hn hl (.roundW .cl) ⟨decide_eq_false (fun h => hlt (Int.ofNat_lt.1 h)), _, .refl _, .nil, [3, 6, 9], Eq.trans (by kernel_rfl) hth⟩
end Go.Proofs.Yticiopkiikcokaa

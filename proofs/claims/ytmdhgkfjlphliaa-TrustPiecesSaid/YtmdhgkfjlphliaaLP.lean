/-
  THE LAW OF PIECES: the program answers as the reference does.
-/
import Derived.Test.YtmdhgkfjlphliaaPR
namespace Go.Proofs.Ytmdhgkfjlphliaa
open Go Go.Am
set_option maxRecDepth 100000
set_option maxHeartbeats 8000000
def mL (l : List Mov) : List AV := fl cMv l
theorem mL_ok (n : Nat) (l : List Mov) : okL n (mL l) = true := fl_ok (enc := cMv) (fun _ => rfl) l
theorem mL_len (l : List Mov) : (mL l).length = l.length * 4 := fl_len (enc := cMv) (n := 4) (fun _ => rfl) l
theorem srcM (h : Nat → Option AObj) (l : List Mov) : srcCells h 4 (.lst 4 (l.map cMv)) = some (fl cMv l, l.length) := by
  have h1 : (l.map cMv).all (fun y => y.length == 4) = true := by simp [cMv]
  simp only [srcCells]
  rw [if_pos ⟨trivial, h1⟩, fl_flatten, List.length_map]
theorem appM0 {h : Nat → Option AObj} {i nid : Nat} {l : List Mov} (h0 : h i = some (.cells [])) (hn : l.length ≤ 1000) :
    aAppend Try.prog h nid 40 40 (.rsl i 0 0 4) (encMs l) = some ⟨.rsl nid 0 l.length 4, [(i, none), (nid, some (.cells (mL l)))]⟩ := by
  unfold aAppend encMs mL
  simp only [h0]
  rw [if_neg (by decide)]
  simp only [aAppend0, ty40, ty66, srcM, h0]
  rw [if_pos ⟨by decide, by decide, rfl⟩]
  rw [if_pos ⟨trivial, rfl, fl_cellB (fun _ => rfl) _, by omega⟩, Nat.zero_add, List.nil_append]
theorem thawL_moves {h : Nat → Option AObj} {i n : Nat} {r : List Rcd} {l : List Mov} {d : Int} (hn : n = l.length) (h0 : h i = some (.cells (mL l))) : thawL h [encRs r, .rsl i 0 n 4, .int .i64 d] = some ([encRs r, encMs l, .int .i64 d], [i]) := by
  subst hn
  have t1 : thaw 8 h (encRs r) = some (encRs r, []) := by unfold thaw; exact if_pos rfl
  have t2 := thaw_fl 6 (h := h) (id := i) (enc := cMv) (n := 4) (l := l) (fun _ => rfl) (fun _ => rfl) h0
  have t3 : thaw 8 h (.int .i64 d) = some (.int .i64 d, []) := by unfold thaw; exact if_pos rfl
  simp only [thawL, mapO, t1, t2, t3]
  rfl
/-! ### the same lists -/
theorem Same_nil : APure Try.prog 16 [.nil, .nil] (.bool true) := by
  refine APure.vc Try.func16 rfl .loop rfl rfl ?_
  intro g hn hl
  replace hn : g.n = 26 := hn
  replace hl : g.low 0 := hl
  refine acode_while (fun _ : Unit => ⟨[(0, .nil), (1, .nil), (5, .int .i64 0)], [], 0⟩) (fun _ => True) (fun _ => 0) () trivial ?_ (fun _ _ => hl) ?_
  · exact St.le.of ⟨rfl, rfl, rfl, rfl, rfl, rfl, trivial⟩ trivial
  · intro _ _
    exact ACode.vc .nil hn hl (.round .cl) ⟨_, .refl _, .nil, rB rfl⟩
theorem Same_spec (l : List Int) (hl1 : l.length ≤ 1000) : APure Try.prog 16 [encR l, encR l] (.bool true) := by
  have d : (((l.map encI).length : Int) != ((l.map encI).length : Int)) = false := by simp
  refine APure.vc Try.func16 rfl (.br 10 false .loop) rfl rfl ⟨d, ?_⟩
  intro g hn hl
  replace hn : g.n = 26 := hn
  replace hl : g.low 0 := hl
  refine acode_while (fun k : Nat => ⟨[(0, encR l), (1, encR l), (5, .int .i64 (k : Int))], [], 0⟩) (fun k => k ≤ l.length) (fun k => l.length - k) 0 (Nat.zero_le _) ?_ (fun _ _ => hl) ?_
  · exact St.le.of ⟨rfl, rfl, rfl, rfl, rfl, rfl, trivial⟩ trivial
  · intro k hk
    replace hk : k ≤ l.length := hk
    by_cases hlt : k < l.length
    · refine Exists.elim (getE hlt) fun x hx => ?_
      have ek := congrArg (AV.int .i64) (succ64 (k := k) (by omega))
      have dx : (x != x) = false := by simp
      exact ACode.vc (.br 14 true <| .draw 8 <| .cells (encI x) <| .cells (encI x) <| .br 25 false .nil) hn hl (.round .cl) ⟨ltLen hlt, by kernel_rfl, mixed, by kernel_rfl, idx hx, idx hx, by kernel_rfl, dx, k + 1, hlt, mu1 hlt, St.le.of ⟨by kernel_rfl, rfl, by kernel_rfl, rfl, Eq.trans (by kernel_rfl) ek, rfl, trivial⟩ trivial⟩
    · exact ACode.vc (.br 14 false .nil) hn hl (.round .cl) ⟨geLen hlt, _, .refl _, .nil, rB rfl⟩
theorem neMov (a : Mov) : ((aeqT Try.prog 6 66 (.agg (cMv a)) (.agg (cMv a))).map fun b => AV.bool !b).map (fun v => (⟨v, []⟩ : Out)) = some ⟨.bool false, []⟩ := by
  simp [cMv, kO, aeqT, aeqF, ty66, ty3, ty5, apart, TD.agg, andO]
theorem SameM_spec (l : List Mov) (hl1 : l.length ≤ 1000) : APure Try.prog 27 [encMs l, encMs l] (.bool true) := by
  have d : (((l.map cMv).length : Int) != ((l.map cMv).length : Int)) = false := by simp
  refine APure.vc Try.func27 rfl (.br 10 false .loop) rfl rfl ⟨d, ?_⟩
  intro g hn hl
  replace hn : g.n = 26 := hn
  replace hl : g.low 0 := hl
  refine acode_while (fun k : Nat => ⟨[(0, encMs l), (1, encMs l), (5, .int .i64 (k : Int))], [], 0⟩) (fun k => k ≤ l.length) (fun k => l.length - k) 0 (Nat.zero_le _) ?_ (fun _ _ => hl) ?_
  · exact St.le.of ⟨rfl, rfl, rfl, rfl, rfl, rfl, trivial⟩ trivial
  · intro k hk
    replace hk : k ≤ l.length := hk
    by_cases hlt : k < l.length
    · refine Exists.elim (getE hlt) fun x hx => ?_
      have ek := congrArg (AV.int .i64) (succ64 (k := k) (by omega))
      have dx := neMov x
      exact ACode.vc (.br 14 true <| .draw 8 <| .cells (cMv x) <| .cells (cMv x) <| .val 25 (.bool false) [] .nil) hn hl (.round .cl) ⟨ltLen hlt, by kernel_rfl, mixed, by kernel_rfl, idx hx, idx hx, by kernel_rfl, Eq.trans (by kernel_rfl) dx, k + 1, hlt, mu1 hlt, St.le.of ⟨by kernel_rfl, rfl, by kernel_rfl, rfl, Eq.trans (by kernel_rfl) ek, rfl, trivial⟩ trivial⟩
    · exact ACode.vc (.br 14 false .nil) hn hl (.round .cl) ⟨geLen hlt, _, .refl _, .nil, rB rfl⟩
theorem eqSto_self (a : Sto) : ((aeqT Try.prog 6 42 (.agg (cSt a)) (.agg (cSt a))).map AV.bool).map (fun v => (⟨v, []⟩ : Out)) = some ⟨.bool true, []⟩ := by
  rw [eqSto]; simp
theorem thawL_rec3 {h : Nat → Option AObj} {i n : Nat} {r : List Rcd} {l : List Ltr} {m : List Mov} {d : Int} (hn : n = m.length) (h0 : h i = some (.cells (mL m))) : thawL h [encRs r, encLs l, .rsl i 0 n 4, .int .i64 d] = some ([encRs r, encLs l, encMs m, .int .i64 d], [i]) := by
  subst hn
  have t1 : thaw 8 h (encRs r) = some (encRs r, []) := by unfold thaw; exact if_pos rfl
  have t2 : thaw 8 h (encLs l) = some (encLs l, []) := by unfold thaw; exact if_pos rfl
  have t3 := thaw_fl 6 (h := h) (id := i) (enc := cMv) (n := 4) (l := m) (fun _ => rfl) (fun _ => rfl) h0
  have t4 : thaw 8 h (.int .i64 d) = some (.int .i64 d, []) := by unfold thaw; exact if_pos rfl
  simp only [thawL, mapO, t1, t2, t3, t4]
  rfl
theorem thawL_mm {h : Nat → Option AObj} {i n : Nat} {m : List Mov} (hn : n = m.length) (h0 : h i = some (.cells (mL m))) : thawL h [.rsl i 0 n 4, encMs m] = some ([encMs m, encMs m], [i]) := by
  subst hn
  have t2 : thaw 8 h (encMs m) = some (encMs m, []) := by unfold thaw; exact if_pos rfl
  have t3 := thaw_fl 6 (h := h) (id := i) (enc := cMv) (n := 4) (l := m) (fun _ => rfl) (fun _ => rfl) h0
  simp only [thawL, mapO, t2, t3]
  rfl
theorem law_pieces (r : List Rcd) (l : List Ltr) (m : List Mov) (d id : Int) : APure Try.prog 5 [encRs r, encLs l, encMs m, .int .i64 d, .int .i64 id] (.bool true) := by
  have sG := Great3_spec r l m
  cases h1 : great3 r l.length m.length
  case true =>
    rw [h1] at sG
    exact APure.vc Try.func5 rfl (.call (.bool true) .nil) rfl rfl ⟨sG, trivial, rfl⟩
  rw [h1] at sG
  have hgr : r.length ≤ 13 ∧ m.length ≤ 60 := by
    unfold great3 at h1
    simp only [Bool.or_eq_false_iff, decide_eq_false_iff_not] at h1
    omega
  have hrl : recL r l m d = recL r l m d := rfl
  have hXl : (recL r l m d).length ≤ 1000 := by
    have := List.length_filter_le (calB (heldW r l d) (outV m)) (idsR r)
    have hil : (idsR r).length = r.length := by unfold idsR; rw [List.length_map]
    unfold recL calL
    omega
  have sP := Pieces_spec r m id
  have sPr := rPieces_spec r m id
  have sR := Recall_ok r l m d
  have sRr := rRecall_spec r l m d
  unfold encPc at sP sPr
  unfold encRe at sR sRr
  have sXs := Same_spec (recL r l m d) hXl
  have sXn := Same_nil
  have sM := SameM_spec m (by omega)
  generalize recL r l m d = XL at *
  generalize recN r l m d = N at *
  generalize recallE r l m d = E2 at *
  generalize (if piecesE r m id = 0 then storeV m (batV r id) else sto0) = S at *
  generalize piecesE r m id = E at *
  have eS := eqSto_self S
  have eE : (E == E) = true := by simp
  refine APure.intro Try.func5 rfl rfl rfl fun g hn hlo => ?_
  replace hn : g.n = 89 := hn
  replace hlo : g.low 0 := hlo
  have ap0 := appM0 (h := hget [(0, .cells [])]) (i := 0) (nid := 1) (l := m) rfl (by omega)
  have t1 := thawL_moves (h := hget [(1, .cells (mL m))]) (i := 1) (n := m.length) (r := r) (l := m) (d := id) rfl rfl
  have t3 := thawL_rec3 (h := hget [(1, .cells (mL m)), (2, .cells (cSt S)), (4, .cells (cSt S))]) (i := 1) (n := m.length) (r := r) (l := l) (m := m) (d := d) rfl rfl
  have tm := thawL_mm (h := hget [(1, .cells (mL m)), (2, .cells (cSt S)), (4, .cells (cSt S))]) (i := 1) (n := m.length) (m := m) rfl rfl
  refine ACode.cut 4 (fun _ : Unit => ⟨[(0, encRs r), (1, encLs l), (3, .int .i64 d), (2, encMs m), (11, .rsl 1 0 m.length 4), (12, .vptr 2 0), (13, .int .i64 E), (14, .vptr 4 0), (15, .int .i64 E)], [(1, .cells (mL m)), (2, .cells (cSt S)), (4, .cells (cSt S))], 5⟩) (fun _ => True) (.call (.bool false) <| .val 28 (.rsl 1 0 m.length 4) [(0, none), (1, some (.cells (mL m)))] <| .lent (.tup [encSt S, .int .i64 E]) [1] <| .call (.tup [encSt S, .int .i64 E]) .nil) hn hlo .ret rfl ⟨sG, Eq.trans (by kernel_rfl) ap0, ⟨_, Eq.trans (by kernel_rfl) t1, .inl ⟨sP, .inr rfl⟩⟩, sPr, (), trivial, Wk.le (St.le.of ⟨by kernel_rfl, rfl, by kernel_rfl, rfl, by kernel_rfl, rfl, by kernel_rfl, rfl, by kernel_rfl, rfl, by kernel_rfl, rfl, by kernel_rfl, rfl, by kernel_rfl, rfl, by kernel_rfl, rfl, trivial⟩ ⟨by kernel_rfl, (by decide : (1 : Nat) < 5), mL_ok _ _, by kernel_rfl, (by decide : (2 : Nat) < 5), rfl, by kernel_rfl, (by decide : (4 : Nat) < 5), rfl, trivial⟩) (hlo.mono (Nat.zero_le _))⟩ fun _ _ => ?_
  by_cases h2 : E2 = 0
  · rw [if_pos h2] at sR sRr
    have sX := sXs
    have eN : (N == N) = true := by simp
    refine ACode.cut 1 (fun _ : Unit => ⟨[(2, encMs m), (11, .rsl 1 0 m.length 4), (12, .vptr 2 0), (13, .int .i64 E), (14, .vptr 4 0), (15, .int .i64 E), (16, encR XL), (17, .int .i64 N), (18, .int .i64 0), (19, encR XL), (20, .int .i64 N), (21, .int .i64 0)], [(1, .cells (mL m)), (2, .cells (cSt S)), (4, .cells (cSt S))], 5⟩) (fun _ => True) (.lent (.tup [encR XL, .int .i64 N, .int .i64 0]) [1] <| .call (.tup [encR XL, .int .i64 N, .int .i64 0]) .nil) hn hlo .ret rfl ⟨⟨_, Eq.trans (by kernel_rfl) t3, .inr sR⟩, sRr, (), trivial, Wk.le (St.le.of ⟨by kernel_rfl, rfl, by kernel_rfl, rfl, by kernel_rfl, rfl, by kernel_rfl, rfl, by kernel_rfl, rfl, by kernel_rfl, rfl, by kernel_rfl, rfl, by kernel_rfl, rfl, by kernel_rfl, rfl, by kernel_rfl, rfl, by kernel_rfl, rfl, by kernel_rfl, rfl, trivial⟩ ⟨by kernel_rfl, (by decide : (1 : Nat) < 5), mL_ok _ _, by kernel_rfl, (by decide : (2 : Nat) < 5), rfl, by kernel_rfl, (by decide : (4 : Nat) < 5), rfl, trivial⟩) (hlo.mono (Nat.zero_le _))⟩ fun _ _ => ?_
    exact ACode.vcM (.val 63 (.bool true) [] <| .br 69 true <| .call (.bool true) <| .br 79 true <| .lent (.bool true) [1] .nil) hn hlo .ret ⟨Eq.trans (by kernel_rfl) eS, eE, sX, eN, ⟨_, Eq.trans (by kernel_rfl) tm, .inl ⟨sM, .inr rfl⟩⟩, trivial, rfl⟩
  · rw [if_neg h2] at sR sRr
    have sX := sXn
    have e2 : (E2 == E2) = true := by simp
    refine ACode.cut 1 (fun _ : Unit => ⟨[(2, encMs m), (11, .rsl 1 0 m.length 4), (12, .vptr 2 0), (13, .int .i64 E), (14, .vptr 4 0), (15, .int .i64 E), (16, .nil), (17, .int .i64 0), (18, .int .i64 E2), (19, .nil), (20, .int .i64 0), (21, .int .i64 E2)], [(1, .cells (mL m)), (2, .cells (cSt S)), (4, .cells (cSt S))], 5⟩) (fun _ => True) (.lent (.tup [.nil, .int .i64 0, .int .i64 E2]) [1] <| .call (.tup [.nil, .int .i64 0, .int .i64 E2]) .nil) hn hlo .ret rfl ⟨⟨_, Eq.trans (by kernel_rfl) t3, .inr sR⟩, sRr, (), trivial, Wk.le (St.le.of ⟨by kernel_rfl, rfl, by kernel_rfl, rfl, by kernel_rfl, rfl, by kernel_rfl, rfl, by kernel_rfl, rfl, by kernel_rfl, rfl, by kernel_rfl, rfl, by kernel_rfl, rfl, by kernel_rfl, rfl, by kernel_rfl, rfl, by kernel_rfl, rfl, by kernel_rfl, rfl, trivial⟩ ⟨by kernel_rfl, (by decide : (1 : Nat) < 5), mL_ok _ _, by kernel_rfl, (by decide : (2 : Nat) < 5), rfl, by kernel_rfl, (by decide : (4 : Nat) < 5), rfl, trivial⟩) (hlo.mono (Nat.zero_le _))⟩ fun _ _ => ?_
    exact ACode.vcM (.val 63 (.bool true) [] <| .br 69 true <| .call (.bool true) <| .br 84 true <| .lent (.bool true) [1] .nil) hn hlo .ret ⟨Eq.trans (by kernel_rfl) eS, eE, sX, e2, ⟨_, Eq.trans (by kernel_rfl) tm, .inl ⟨sM, .inr rfl⟩⟩, trivial, rfl⟩
end Go.Proofs.Ytmdhgkfjlphliaa

import Derived.Test.YtmllgnnhblhfeaaDoorRows
import Derived.Test.YtmllgnnhblhfeaaDoorCards
import Derived.Test.YtmllgnnhblhfeaaDoorTie
import Derived.Test.YtmllgnnhblhfeaaDoorAm16
import Derived.Test.YtmllgnnhblhfeaaDoorW1
import Derived.ChangeVars
import Derived.LaidLaws
import Derived.LaidHandle
import Derived.LaidMore
import Derived.SevenTiedAt
import Derived.OpenShut
import Derived.ChangeSame
import Derived.Test.YtmllgnnhblhfeaaDoorR4
import Derived.Test.YtmllgnnhblhfeaaDoorXW
/-
  What stands fast for all cards of this seat: the listed variables, the world that meets them, arguments as abstract values.
-/
namespace Go.Proofs.YtmllgnnhblhfeaaDoor
open Go Go.Am
open Go.ChangeShapes Go.WideShapes Go.ChangeAt Go.RowKit
set_option maxRecDepth 100000
theorem Tryd.own : ownKnob Tryd.prog.godebug = none := by kernel_rfl
theorem Tryd.laidOut : laidOutB Tryd.prog = true := by kernel_rfl
abbrev laidL : List (String × DataW Unit) := [("cottonpad/origin.never", Rows.laid_cottonpad_origin_never), ("cottonpad/origin.always", Rows.laid_cottonpad_origin_always), ("cottonpad/origin.nothing", Rows.laid_cottonpad_origin_nothing)]
/-- A world that meets the condition: the settled one, the variables' cells laid. -/
noncomputable def laidWorld (os : Os) : World :=
  let w0 := World.holding Tryd.prog os ⟨#[], #[], []⟩
  { w0 with heap := ((w0.heap.modify 0 fun
      | .cells _ t frozen => .cells #[.int .i64 0, .int .i64 600] t frozen
      | o => o).modify 1 fun
      | .cells _ t frozen => .cells #[.int .i64 1, .int .i64 0] t frozen
      | o => o).modify 2 fun
      | .cells _ t frozen => .cells #[.int .i64 0, .bool true] t frozen
      | o => o }
theorem laidWorld_met (os : Os) (args : Array Value) : laidMetH Tryd.prog laidL ((laidWorld os).forCall (fun _ _ => 0) ⟨#[], args, []⟩).memory :=
  laidMet_of_run' 8 (by kernel_rfl) (by kernel_rfl)
theorem two_rel {W : World} {i : Nat} {a b : AV} {x y : Value} (h0 : W.cell? ⟨i, 0, none⟩ = some x) (h1 : W.cell? ⟨i, 1, none⟩ = some y) (r0 : VRel nok (fun _ => False) W a x) (r1 : VRel nok (fun _ => False) W b y) :
    VRel nok (fun _ => False) W (.cptr [a, b]) (.pointer (some ⟨i, 0, none⟩)) := by
  refine .cptr _ _ (fun j => match j with | 0 => x | _ => y) (fun j c hj => ⟨id, ?_⟩) (fun j c hj => ?_)
  · rcases j with _ | _ | j
    · exact h0
    · exact h1
    · simp at hj
  · rcases j with _ | _ | j
    · simp at hj; subst hj; exact r0
    · simp at hj; subst hj; exact r1
    · simp at hj
theorem spn_cells {W : World} {n : String} {i : Nat} {cs : Array Value} {fuel : Nat} {p : List MemPlace} {a b : Int} (hg : Tryd.prog.globalNamed n = some i) (hv : W.var? Tryd.prog n = some cs)
    (hd : DataW.trod (fun _ => ()) Tryd.prog W 0 (fun _ => true) false fuel 57 cs.toList = some (.agg [.lit (.int .i64 a), .lit (.int .i64 b)], p)) : VRel nok (fun _ => False) W (.cptr [.int .i64 a, .int .i64 b]) (.pointer (some ⟨i, 0, none⟩)) := by
  obtain ⟨y0, y1, m, e, hl, h0, h1⟩ := trod_struct2 Tryd.underlying57 hd
  obtain ⟨z0, c0, e0, _⟩ := DataW.trod_int Tryd.underlying3 h0
  obtain ⟨z1, c1, e1, _⟩ := DataW.trod_int Tryd.underlying3 h1
  subst e0; subst e1
  have e' := DataW.agg.inj (Prod.mk.inj e).1
  simp only [List.cons.injEq, DataW.lit.injEq, Lit.int.injEq, true_and, and_true] at e'
  obtain ⟨rfl, rfl⟩ := e'
  refine two_rel (x := .int .i64 a) (y := .int .i64 b) ?_ ?_ (.int _ _) (.int _ _)
  · rw [World.var?_cell hg hv 0]
    have : ((cs.toList.drop 0).take 1)[0]? = some (.int .i64 a) := congrArg (fun l => l[0]?) c0
    simpa using this
  · rw [World.var?_cell hg hv 1]
    have : ((cs.toList.drop 1).take 1)[0]? = some (.int .i64 b) := congrArg (fun l => l[0]?) c1
    simpa using this
theorem tim_cells {W : World} {n : String} {i : Nat} {cs : Array Value} {fuel : Nat} {p : List MemPlace} {a : Int} {b : Bool} (hg : Tryd.prog.globalNamed n = some i) (hv : W.var? Tryd.prog n = some cs)
    (hd : DataW.trod (fun _ => ()) Tryd.prog W 0 (fun _ => true) false fuel 67 cs.toList = some (.agg [.lit (.int .i64 a), .lit (.bool b)], p)) : VRel nok (fun _ => False) W (.cptr [.int .i64 a, .bool b]) (.pointer (some ⟨i, 0, none⟩)) := by
  obtain ⟨y0, y1, m, e, hl, h0, h1⟩ := trod_struct2 Tryd.underlying67 hd
  obtain ⟨z0, c0, e0, _⟩ := DataW.trod_int Tryd.underlying3 h0
  obtain ⟨z1, c1, e1⟩ := DataW.trod_bool Tryd.underlying4 h1
  subst e0; subst e1
  have e' := DataW.agg.inj (Prod.mk.inj e).1
  simp only [List.cons.injEq, DataW.lit.injEq, Lit.int.injEq, Lit.bool.injEq, true_and, and_true] at e'
  obtain ⟨rfl, rfl⟩ := e'
  refine two_rel (x := .int .i64 a) (y := .bool b) ?_ ?_ (.int _ _) (.bool _)
  · rw [World.var?_cell hg hv 0]
    have : ((cs.toList.drop 0).take 1)[0]? = some (.int .i64 a) := congrArg (fun l => l[0]?) c0
    simpa using this
  · rw [World.var?_cell hg hv 1]
    have : ((cs.toList.drop 1).take 1)[0]? = some (.bool b) := congrArg (fun l => l[0]?) c1
    simpa using this
theorem globs {W : World} (h : laidMetH Tryd.prog laidL W) : GlobOk (fun _ => False) W := by
  rw [MakeChecks.laidMetH_plain _ _ _ (by kernel_rfl)] at h
  obtain ⟨ps, ⟨g2, t2, cs2, f2, p2, q2, hg2, ht2, hv2, hd2, ⟨g0, t0, cs0, f0, p0, q0, hg0, ht0, hv0, hd0, ⟨g1, t1, cs1, f1, p1, q1, hg1, ht1, hv1, hd1, _, _⟩, _⟩, _⟩, _, _⟩ := h
  obtain rfl := Option.some.inj ((show Tryd.prog.globalNamed "cottonpad/origin.never" = some 2 by kernel_rfl).symm.trans hg2)
  obtain rfl := Option.some.inj ((show (Tryd.prog.globals[2]?).map (·.type) = some 67 by kernel_rfl).symm.trans ht2)
  obtain rfl := Option.some.inj ((show Tryd.prog.globalNamed "cottonpad/origin.always" = some 0 by kernel_rfl).symm.trans hg0)
  obtain rfl := Option.some.inj ((show (Tryd.prog.globals[0]?).map (·.type) = some 57 by kernel_rfl).symm.trans ht0)
  obtain rfl := Option.some.inj ((show Tryd.prog.globalNamed "cottonpad/origin.nothing" = some 1 by kernel_rfl).symm.trans hg1)
  obtain rfl := Option.some.inj ((show (Tryd.prog.globals[1]?).map (·.type) = some 57 by kernel_rfl).symm.trans ht1)
  have r2 := tim_cells hg2 hv2 hd2
  have r0 := spn_cells hg0 hv0 hd0
  have r1 := spn_cells hg1 hv1 hd1
  intro i
  rcases i with _ | _ | _ | i
  · exact r0
  · exact r1
  · exact r2
  · exact .any _
/-! ### arguments -/
abbrev spTy : Ty := .struct [.int .i64, .int .i64]
abbrev gtTy : Ty := .struct [.int .i64, .int .i64, spTy]
abbrev mkTy : Ty := .struct [.int .i64, .int .u8, .int .i64, .int .i64, spTy, .int .i64]
abbrev scTy : Ty := .struct [.int .i64, .slice 4 gtTy, .int .i64, .slice 7 mkTy]
theorem list_of {α : Type} {T : Ty} {enc : α → List AV} (one : ∀ {x}, Vals T x → ∃ p, x = enc p) : ∀ xs : List (List AV), (∀ x ∈ xs, Vals T x) → ∃ l : List α, xs = l.map enc := by
  intro xs
  induction xs with
  | nil => intro _; exact ⟨[], rfl⟩
  | cons x xs ih =>
    intro h
    obtain ⟨p, rfl⟩ := one (h x List.mem_cons_self)
    obtain ⟨l, rfl⟩ := ih fun y hy => h y (List.mem_cons_of_mem _ hy)
    exact ⟨p :: l, rfl⟩
theorem int_of {a : AV} (h : ArgV (.int .i64) a) : ∃ n : Int, a = .int .i64 n := by
  simp only [ArgV, Vals] at h
  obtain ⟨n, h, _⟩ := h
  obtain rfl := List.cons.inj h |>.1
  exact ⟨n, rfl⟩
theorem gt_of {x : List AV} (h : Vals gtTy x) : ∃ p : Gt, x = cGt p := by
  simp only [Vals, ValsL] at h
  obtain ⟨a1, b1, rfl, ⟨m1, rfl, _⟩, a2, b2, rfl, ⟨m2, rfl, _⟩, a3, b3, rfl, ⟨c3, d3, rfl, ⟨m3, rfl, _⟩, c4, d4, rfl, ⟨m4, rfl, _⟩, rfl⟩, rfl⟩ := h
  exact ⟨⟨m1, m2, m3, m4⟩, rfl⟩
theorem mk_of {x : List AV} (h : Vals mkTy x) : ∃ p : Mk, x = cMk p := by
  simp only [Vals, ValsL] at h
  obtain ⟨a1, b1, rfl, ⟨m1, rfl, _⟩, a2, b2, rfl, ⟨m2, rfl, k1, k2⟩, a3, b3, rfl, ⟨m3, rfl, _⟩, a4, b4, rfl, ⟨m4, rfl, _⟩, a5, b5, rfl, ⟨c3, d3, rfl, ⟨m5, rfl, _⟩, c4, d4, rfl, ⟨m6, rfl, _⟩, rfl⟩, a6, b6, rfl, ⟨m7, rfl, _⟩, rfl⟩ := h
  have e1 : IntKind.min .u8 = 0 := by decide
  have e2 : IntKind.max .u8 = 255 := by decide
  obtain ⟨n, rfl⟩ : ∃ n : Nat, m2 = (n : Int) := ⟨m2.toNat, by omega⟩
  exact ⟨⟨m1, ⟨n, by omega⟩, m3, m4, m5, m6, m7⟩, rfl⟩
theorem scn_of {a : AV} (h : ArgV scTy a) : ∃ n : Scn, a = encSc n := by
  simp only [ArgV] at h
  obtain ⟨l, h, rfl⟩ := h
  simp only [ValsL] at h
  obtain ⟨a1, b1, rfl, h1, a2, b2, rfl, h2, a3, b3, rfl, h3, a4, b4, rfl, h4, rfl⟩ := h
  simp only [Vals] at h1 h3
  rw [Vals] at h2 h4
  obtain ⟨m1, rfl, _⟩ := h1
  obtain ⟨x2, rfl, _, k2⟩ := h2
  obtain ⟨m3, rfl, _⟩ := h3
  obtain ⟨x4, rfl, _, k4⟩ := h4
  obtain ⟨l2, rfl⟩ := list_of (T := gtTy) (enc := cGt) gt_of x2 k2
  obtain ⟨l4, rfl⟩ := list_of (T := mkTy) (enc := cMk) mk_of x4 k4
  exact ⟨⟨m1, l2, m3, l4⟩, rfl⟩
end Go.Proofs.YtmllgnnhblhfeaaDoor
/-
  THE REFERENCE: Ids of a set, and which list is before which.
-/
namespace Go.Proofs.YtmllgnnhblhfeaaDoor
open Go Go.Am
set_option maxRecDepth 100000
set_option maxHeartbeats 4000000
theorem members_spec (s : Scn) (hml : s.marks.length ≤ 8) (set : Nat) (hset : set < 4096) : APureF Tryd.prog 19 [encSc s, .int .i64 (set : Int)] (encR (idsP s set)) := by
  refine APureF.vcM Tryd.func19 .loop (by kernel_rfl) rfl ?_
  intro g hn hlo
  replace hn : g.n = 29 := hn
  replace hlo : g.low 0 := hlo
  refine acode_whileW (fun i : Nat => ⟨[(1, .int .i64 (set : Int)), (2, .vptr 0 0), (5, .rsl 1 0 (idsK s set i).length 1), (6, .int .i64 i)], [(0, .cells (cSc s)), (1, .cells (iL (idsK s set i)))], 2⟩) (fun i => i ≤ s.marks.length) (fun i => s.marks.length - i) 0 (Nat.zero_le _) ?_ ?_
  · refine Wk.trans (Wk.le ?_ (hlo.mono (show 0 ≤ 2 by decide))) (Wk.own 5 1 (by kernel_rfl))
    exact St.le.of ⟨by kernel_rfl, rfl, by kernel_rfl, rfl, by kernel_rfl, rfl, by kernel_rfl, rfl, trivial⟩ ⟨by kernel_rfl, (by decide : (0 : Nat) < 2), by kernel_rfl, by kernel_rfl, (by decide : (1 : Nat) < 2), rfl, trivial⟩
  · intro i hi
    replace hi : i ≤ s.marks.length := hi
    by_cases hlt : i < s.marks.length
    · refine Exists.elim (getE hlt) fun m hmi => ?_
      have ek := congrArg (AV.int .i64) (succ64 (k := i) (by omega))
      have sh := bShr (S := set) (i := i) (by omega)
      have bo := bOne (S := set) (i := i) hset
      have hil := idsK_len s set i
      refine (Bool.eq_false_or_eq_true (set.testBit i)).symm.elim (fun hbit => ?_) (fun hbit => ?_)
      · rw [hbit] at bo
        have es := idsK_no hmi hbit
        have e5 : AV.rsl 1 0 (idsK s set i).length 1 = .rsl 1 0 (idsK s set (i + 1)).length 1 := by rw [es]
        have o1 : some (AObj.cells (iL (idsK s set i))) = some (.cells (iL (idsK s set (i + 1)))) := by rw [es]
        exact ACode.vcM (.br 11 true <| .val 16 (.int .i64 ((set >>> i : Nat) : Int)) [] <| .br 18 false .nil) hn hlo (.roundW .cl) ⟨ltLen hlt, Eq.trans (by kernel_rfl) sh, bo, i + 1, hlt, mu1 hlt, Wk.le (St.le.of ⟨by kernel_rfl, rfl, by kernel_rfl, rfl, Eq.trans (by kernel_rfl) e5, rfl, Eq.trans (by kernel_rfl) ek, rfl, trivial⟩ ⟨by kernel_rfl, (by decide : (0 : Nat) < 2), by kernel_rfl, Eq.trans (by kernel_rfl) o1, (by decide : (1 : Nat) < 2), iL_ok _ _, trivial⟩) (hlo.mono (show 0 ≤ 2 by decide))⟩
      · rw [hbit] at bo
        have es := idsK_yes hmi hbit
        have el : (idsK s set (i + 1)).length = (idsK s set i).length + 1 := by rw [es]; simp
        have ap := app_one (h := hget [(1, .cells (iL (idsK s set i))), (2, .cells [.int .i64 m.id])]) (i := 1) (j := 2) (nid := 3) (l := idsK s set i) (x := m.id) rfl rfl (by omega)
        rw [← es, ← el] at ap
        exact ACode.vcM (.br 11 true <| .val 16 (.int .i64 ((set >>> i : Nat) : Int)) [] <| .br 18 true <| .cells (cMk m) <| .val 27 (.rsl 3 0 (idsK s set (i + 1)).length 1) [(1, none), (3, some (.cells (iL (idsK s set (i + 1)))))] .nil) hn hlo (.roundW .cl) ⟨ltLen hlt, Eq.trans (by kernel_rfl) sh, bo, idx hmi, Eq.trans (by kernel_rfl) ap, i + 1, hlt, mu1 hlt,
          Wk.ren (c := 1) (b := 3) (St.ren.of rfl (by decide) ⟨.inl ⟨by kernel_rfl, rfl⟩, .inl ⟨by kernel_rfl, rfl⟩, .inr ⟨_, _, _, rfl, by kernel_rfl⟩, .inl ⟨Eq.trans (by kernel_rfl) ek, rfl⟩, trivial⟩ ⟨.inl ⟨(by decide : (0 : Nat) < 1), by kernel_rfl, by kernel_rfl⟩, .inr ⟨rfl, by kernel_rfl, _, rfl, iL_ok _ _⟩, trivial⟩) (hlo.mono (show 0 ≤ 1 by decide))⟩
    · have hall : idsK s set i = idsP s set := by unfold idsK idsP; rw [List.take_of_length_le (by omega)]
      have th := fun (h : Nat → Option AObj) (hh : h 1 = some (.cells (iL (idsK s set i)))) => (show thawF 8 h (.rsl 1 0 (idsK s set i).length 1) = some (encR (idsP s set), [1]) by
        rw [hall] at hh ⊢; exact thawF_ints 6 hh)
      exact ACode.vcM (.br 11 false .nil) hn hlo (.roundW .cl) ⟨geLen hlt, _, .refl _, .nil, [1], th _ (by kernel_rfl)⟩
theorem shorter_spec (a b : List Int) (ha : a.length ≤ 100000) : APure Tryd.prog 20 [encR a, encR b] (.bool (ahdD a b)) := by
  by_cases hab : a.length = b.length
  · have c : (((a.map encI).length : Int) != ((b.map encI).length : Int)) = false := by rw [List.length_map, List.length_map, hab]; exact bne_self_eq_false _
    have e : ahdD a b = lexD a b := by unfold ahdD; rw [if_pos hab]
    rw [e]
    refine APure.vc Tryd.func20 rfl (.br 10 false .loop) rfl rfl ⟨c, ?_⟩
    intro g hn hlo
    replace hn : g.n = 40 := hn
    replace hlo : g.low 0 := hlo
    refine acode_while (fun k : Nat => ⟨[(0, encR a), (1, encR b), (5, .int .i64 k)], [], 0⟩) (fun k => k ≤ a.length ∧ lexD a b = lexD (a.drop k) (b.drop k)) (fun k => a.length - k) 0 ⟨Nat.zero_le _, rfl⟩ ?_ (fun _ _ => hlo) ?_
    · exact St.le.of ⟨by kernel_rfl, rfl, by kernel_rfl, rfl, by kernel_rfl, rfl, trivial⟩ trivial
    · rintro k ⟨hk, hI⟩
      by_cases hlt : k < a.length
      · refine Exists.elim (getE hlt) fun x hx => ?_
        refine Exists.elim (getE (show k < b.length by omega)) fun y hy => ?_
        have ek := congrArg (AV.int .i64) (succ64 (k := k) (by omega))
        rw [drop_cons hx, drop_cons hy] at hI
        cases q : (x != y)
        · have exy : x = y := by simpa using q
          replace hI : lexD a b = lexD (a.drop (k + 1)) (b.drop (k + 1)) := by rw [hI]; unfold lexD; rw [if_pos exy]; cases a.drop (k + 1) <;> cases b.drop (k + 1) <;> rfl
          exact ACode.vc (.br 19 true <| .draw 8 <| .cells (encI x) <| .cells (encI y) <| .br 30 false .nil) hn hlo (.round .cl) ⟨ltLen hlt, by kernel_rfl, mixed, by kernel_rfl, idx hx, idx hy, by kernel_rfl, q, k + 1, ⟨hlt, hI⟩, mu1 hlt,
            St.le.of ⟨by kernel_rfl, rfl, by kernel_rfl, rfl, Eq.trans (by kernel_rfl) ek, rfl, trivial⟩ trivial⟩
        · have exy : ¬ x = y := by simpa using q
          have hv : decide (x < y) = lexD a b := by rw [hI]; unfold lexD; rw [if_neg exy]
          exact ACode.vc (.br 19 true <| .draw 8 <| .cells (encI x) <| .cells (encI y) <| .br 30 true <| .draw 8 <| .cells (encI x) <| .cells (encI y) .nil) hn hlo (.round .cl) ⟨ltLen hlt, by kernel_rfl, mixed, by kernel_rfl, idx hx, idx hy, by kernel_rfl, q, by kernel_rfl, mixed, by kernel_rfl, idx hx, idx hy, by kernel_rfl, _, .refl _, .nil, rB hv⟩
      · have hk' : k = a.length := by omega
        have hv : false = lexD a b := by rw [hI, hk', List.drop_length]; unfold lexD; rfl
        exact ACode.vc (.br 19 false .nil) hn hlo (.round .cl) ⟨geLen hlt, _, .refl _, .nil, rB hv⟩
  · have c : (((a.map encI).length : Int) != ((b.map encI).length : Int)) = true := by rw [List.length_map, List.length_map, bne_iff_ne]; omega
    have e : decide (((a.map encI).length : Int) < ((b.map encI).length : Int)) = ahdD a b := by
      unfold ahdD; rw [if_neg hab, List.length_map, List.length_map]
      exact decide_eq_decide.2 (by omega)
    exact APure.vc Tryd.func20 rfl (.br 10 true .nil) rfl rfl ⟨c, rB e⟩
end Go.Proofs.YtmllgnnhblhfeaaDoor
/-
  THE REFERENCE: why a room is excluded, and which marks allow no truth.
-/
namespace Go.Proofs.YtmllgnnhblhfeaaDoor
open Go Go.Am
set_option maxRecDepth 100000
set_option maxHeartbeats 4000000
theorem bst_le (lt : Nat → Nat → Bool) (p : Nat → Bool) (n : Nat) : ∀ k, k ≤ n → bestN lt p n k ≤ n := by
  intro k
  induction k with
  | zero => intro _; exact Nat.le_refl _
  | succ k ih =>
    intro h
    unfold bestN
    cases c : (lt k (bestN lt p n k) && p k)
    · rw [if_neg Bool.false_ne_true]; exact ih (by omega)
    · rw [if_pos rfl]; omega
theorem bst_yes {lt : Nat → Nat → Bool} {p : Nat → Bool} {n k : Nat} (h1 : lt k (bestN lt p n k) = true) (h2 : p k = true) : bestN lt p n (k + 1) = k := by
  show (if (lt k (bestN lt p n k) && p k) = true then k else bestN lt p n k) = k
  rw [h1, h2]; rfl
theorem bst_no1 {lt : Nat → Nat → Bool} {p : Nat → Bool} {n k : Nat} (h1 : lt k (bestN lt p n k) = false) : bestN lt p n (k + 1) = bestN lt p n k := by
  show (if (lt k (bestN lt p n k) && p k) = true then k else bestN lt p n k) = _
  rw [h1]; rfl
theorem bst_no2 {lt : Nat → Nat → Bool} {p : Nat → Bool} {n k : Nat} (h2 : p k = false) : bestN lt p n (k + 1) = bestN lt p n k := by
  show (if (lt k (bestN lt p n k) && p k) = true then k else bestN lt p n k) = _
  rw [h2, Bool.and_false]; rfl
theorem ids_len (s : Scn) (set : Nat) : (idsP s set).length ≤ s.marks.length := by
  have := idsK_len s set s.marks.length
  have e : idsK s set s.marks.length = idsP s set := by unfold idsK idsP; rw [List.take_of_length_le (Nat.le_refl _)]
  rw [e] at this; exact this
theorem all_pow (s : Scn) : allN s + 1 = 2 ^ s.marks.length := by
  have := Nat.two_pow_pos s.marks.length
  unfold allN; omega
theorem sh_ord {s : Scn} (hs : ScOk s) {k b : Nat} (hk : k ≤ allN s) (hb : b ≤ allN s) : APure Tryd.prog 20 [encR (idsP s k), encR (idsP s b)] (.bool (ordD k b)) := by
  have h := all_pow s
  have := ids_len s k
  have := hs.ml
  rw [ord_ids hs (by omega) (by omega)]
  exact shorter_spec _ _ (by omega)
theorem exAll_rm {s : Scn} (hs : ScOk s) (set : Nat) : exAll s set = ((((rmK s set (nR s)).map encI).length : Int) == 0) := by
  rw [Bool.eq_iff_iff]
  unfold exAll rmK
  rw [List.length_map, List.length_map, List.all_eq_true, beq_iff_eq]
  constructor
  · intro h
    have : (List.range (nR s)).filter (someR s set) = [] := by
      rw [List.filter_eq_nil_iff]
      intro r hr
      rw [some_ex hs set (List.mem_range.1 hr), h r hr]; simp
    rw [this]; rfl
  · intro h r hr
    have h' : (List.range (nR s)).filter (someR s set) = [] := List.eq_nil_of_length_eq_zero (by omega)
    have := List.filter_eq_nil_iff.1 h' r hr
    rw [some_ex hs set (List.mem_range.1 hr)] at this
    simpa using this
theorem RWhy_ok (s : Scn) (room : Int) : APure Tryd.prog 7 [encSc s, .int .i64 room] (encLe (wyV s room) (wyE s room)) := by
  have sc := RScene_spec s
  unfold wyV wyE
  cases h1 : scB s
  · rw [h1] at sc
    have e : rmE s room = 90 := by unfold rmE; rw [h1]; rfl
    rw [e]
    exact APure.weak (r := .tup [.nil, .int .i64 90]) (APure.vc Tryd.func7 rfl (.call (.bool false) .nil) rfl rfl ⟨sc, trivial, by kernel_rfl⟩) VRel.tupNil
  rw [h1] at sc
  have hs := scB_iff.1 h1
  have hr := hs.rooms
  have wr := wr_spec s room ⟨by omega, by omega⟩
  cases h2 : isR s.rooms room
  · rw [h2] at wr
    have e : rmE s room = 2 := by unfold rmE; rw [h1, h2]; rfl
    rw [e]
    exact APure.weak (r := .tup [.nil, .int .i64 2]) (APure.vc Tryd.func7 rfl (.call (.bool true) <| .call (.bool false) .nil) rfl rfl ⟨sc, wr, trivial, by kernel_rfl⟩) VRel.tupNil
  rw [h2] at wr
  have e : rmE s room = 0 := by unfold rmE; rw [h1, h2]; rfl
  rw [e, if_pos rfl, if_pos rfl]
  obtain ⟨e1, e2⟩ := rm_nat hs h2
  have hml := hs.ml
  have ev := every_spec s (by omega)
  have hall := set_lt hs
  have so := some_spec s hs (allN s) hall room.toNat e2
  rw [← e1, some_ex hs (allN s) e2] at so
  cases h3 : exB s room.toNat (allN s)
  · rw [h3] at so
    have hw : whyP s room.toNat = none := few_none.2 h3
    rw [hw]
    exact APure.weak (r := .tup [.nil, .int .i64 8]) (APure.vc Tryd.func7 rfl (.call (.bool true) <| .call (.bool true) <| .draw 4 <| .call (.int .i64 ((allN s : Nat) : Int)) <| .call (.bool true) .nil) rfl rfl ⟨sc, wr, by kernel_rfl, mixed, by kernel_rfl, ev, by kernel_rfl, so, trivial, by kernel_rfl⟩) VRel.tupNil
  rw [h3] at so
  have hw : whyP s room.toNat = some (idsP s (bestN ordD (exB s room.toNat) (allN s) (allN s))) := by
    show (if exB s room.toNat (allN s) = true then _ else none) = _
    rw [if_pos h3]
  rw [hw]
  have me := members_spec s hml (allN s) hall
  refine APure.vcM Tryd.func7 (.call (.bool true) <| .call (.bool true) <| .draw 4 <| .call (.int .i64 ((allN s : Nat) : Int)) <| .call (.bool false) <| .draw 3 <| .call (.int .i64 ((allN s : Nat) : Int)) <| .lent (encR (idsP s (allN s))) [] .loop) rfl (by kernel_rfl) ⟨sc, wr, by kernel_rfl, mixed, by kernel_rfl, ev, by kernel_rfl, so, by kernel_rfl, mixed, by kernel_rfl, ev, by kernel_rfl, ⟨_, by kernel_rfl, .inr me⟩, ?_⟩
  intro g hn hlo
  replace hn : g.n = 48 := hn
  replace hlo : g.low 0 := hlo
  refine acode_while (fun k : Nat => ⟨[(1, .int .i64 room), (2, .vptr 0 0), (6, encR (idsP s (bestN ordD (exB s room.toNat) (allN s) k))), (7, .int .i64 k)], [(0, .cells (cSc s))], 1⟩) (fun k => k ≤ allN s) (fun k => allN s - k) 0 (Nat.zero_le _) ?_ (fun _ _ => hlo.mono (Nat.zero_le _)) ?_
  · exact St.le.of ⟨by kernel_rfl, rfl, by kernel_rfl, rfl, by kernel_rfl, rfl, by kernel_rfl, rfl, trivial⟩ ⟨by kernel_rfl, (by decide : (0 : Nat) < 1), by kernel_rfl, trivial⟩
  · intro k hk
    replace hk : k ≤ allN s := hk
    by_cases hlt : k < allN s
    · have ek := congrArg (AV.int .i64) (succ64 (k := k) (by omega))
      have c : decide ((k : Int) < ((allN s : Nat) : Int)) = true := decide_eq_true (by omega)
      have mk := members_spec s hml k (by omega)
      have sh := sh_ord hs hk (bst_le ordD (exB s room.toNat) (allN s) k hk)
      have sk := some_spec s hs k (by omega) room.toNat e2
      rw [← e1, some_ex hs k e2] at sk
      cases q1 : ordD k (bestN ordD (exB s room.toNat) (allN s) k)
      · rw [q1] at sh
        have eb := congrArg (fun b => encR (idsP s b)) (bst_no1 (p := exB s room.toNat) q1).symm
        exact ACode.vcM (.call (.int .i64 ((allN s : Nat) : Int)) <| .br 30 true <| .lent (encR (idsP s k)) [] <| .call (.bool false) .nil) hn hlo (.round .cl) ⟨ev, c, ⟨_, by kernel_rfl, .inr mk⟩, sh, k + 1, hlt, mu1 hlt,
          St.le.of ⟨by kernel_rfl, rfl, by kernel_rfl, rfl, Eq.trans (by kernel_rfl) eb, rfl, Eq.trans (by kernel_rfl) ek, rfl, trivial⟩ ⟨by kernel_rfl, (by decide : (0 : Nat) < 1), by kernel_rfl, trivial⟩⟩
      · rw [q1] at sh
        cases q2 : exB s room.toNat k
        · rw [q2] at sk
          have eb := congrArg (fun b => encR (idsP s b)) (bst_no2 (lt := ordD) (n := allN s) q2).symm
          exact ACode.vcM (.call (.int .i64 ((allN s : Nat) : Int)) <| .br 30 true <| .lent (encR (idsP s k)) [] <| .call (.bool true) <| .call (.bool true) .nil) hn hlo (.round .cl) ⟨ev, c, ⟨_, by kernel_rfl, .inr mk⟩, sh, sk, k + 1, hlt, mu1 hlt,
            St.le.of ⟨by kernel_rfl, rfl, by kernel_rfl, rfl, Eq.trans (by kernel_rfl) eb, rfl, Eq.trans (by kernel_rfl) ek, rfl, trivial⟩ ⟨by kernel_rfl, (by decide : (0 : Nat) < 1), by kernel_rfl, trivial⟩⟩
        · rw [q2] at sk
          have eb := congrArg (fun b => encR (idsP s b)) (bst_yes q1 q2).symm
          exact ACode.vcM (.call (.int .i64 ((allN s : Nat) : Int)) <| .br 30 true <| .lent (encR (idsP s k)) [] <| .call (.bool true) <| .call (.bool false) .nil) hn hlo (.round .cl) ⟨ev, c, ⟨_, by kernel_rfl, .inr mk⟩, sh, sk, k + 1, hlt, mu1 hlt,
            St.le.of ⟨by kernel_rfl, rfl, by kernel_rfl, rfl, Eq.trans (by kernel_rfl) eb, rfl, Eq.trans (by kernel_rfl) ek, rfl, trivial⟩ ⟨by kernel_rfl, (by decide : (0 : Nat) < 1), by kernel_rfl, trivial⟩⟩
    · have hk' : k = allN s := by omega
      have c : decide ((k : Int) < ((allN s : Nat) : Int)) = false := decide_eq_false (by omega)
      have eV := congrArg (fun b => some (AV.tup [encR (idsP s (bestN ordD (exB s room.toNat) (allN s) b)), .int .i64 0], ([] : List Nat))) hk'
      exact ACode.vcM (.call (.int .i64 ((allN s : Nat) : Int)) <| .br 30 false .nil) hn hlo (.round .cl) ⟨ev, c, _, .refl _, .nil, [], Eq.trans (by kernel_rfl) eV⟩
theorem RAgainst_ok (s : Scn) : APure Tryd.prog 9 [encSc s] (encLe (agV s) (ckE s)) := by
  have sc := RScene_spec s
  unfold agV ckE
  cases h1 : scB s
  · rw [h1] at sc
    exact APure.weak (r := .tup [.nil, .int .i64 90]) (APure.vc Tryd.func9 rfl (.call (.bool false) .nil) rfl rfl ⟨sc, trivial, by kernel_rfl⟩) VRel.tupNil
  rw [h1] at sc
  have hs := scB_iff.1 h1
  have hml := hs.ml
  have ev := every_spec s (by omega)
  have hall := set_lt hs
  have ro := rooms_spec s hs (allN s) hall
  have hx := exAll_rm hs (allN s)
  rw [if_pos rfl, if_pos rfl]
  cases h3 : exAll s (allN s)
  · rw [h3] at hx
    have hw : agP s = none := few_none.2 h3
    rw [hw]
    have c : decide ((((rmK s (allN s) (nR s)).map encI).length : Int) > 0) = true := decide_eq_true (by
      have := beq_eq_false_iff_ne.1 hx.symm; omega)
    exact APure.weak (r := .tup [.nil, .int .i64 0]) (APure.vcM Tryd.func9 (.call (.bool true) <| .draw 3 <| .call (.int .i64 ((allN s : Nat) : Int)) <| .lent (encR (rmK s (allN s) (nR s))) [] <| .br 15 true .nil) rfl (by kernel_rfl) ⟨sc, by kernel_rfl, mixed, by kernel_rfl, ev, by kernel_rfl, ⟨_, by kernel_rfl, .inr ro⟩, c, [], by kernel_rfl⟩) VRel.tupNil
  rw [h3] at hx
  have c : decide ((((rmK s (allN s) (nR s)).map encI).length : Int) > 0) = false := decide_eq_false (by
      have := beq_iff_eq.1 hx.symm; omega)
  have hw : agP s = some (idsP s (bestN ordD (exAll s) (allN s) (allN s))) := by
    show (if exAll s (allN s) = true then _ else none) = _
    rw [if_pos h3]
  rw [hw]
  have me := members_spec s hml (allN s) hall
  refine APure.vcM Tryd.func9 (.call (.bool true) <| .draw 3 <| .call (.int .i64 ((allN s : Nat) : Int)) <| .lent (encR (rmK s (allN s) (nR s))) [] <| .br 15 false <| .draw 3 <| .call (.int .i64 ((allN s : Nat) : Int)) <| .lent (encR (idsP s (allN s))) [] .loop) rfl (by kernel_rfl) ⟨sc, by kernel_rfl, mixed, by kernel_rfl, ev, by kernel_rfl, ⟨_, by kernel_rfl, .inr ro⟩, c, by kernel_rfl, mixed, by kernel_rfl, ev, by kernel_rfl, ⟨_, by kernel_rfl, .inr me⟩, ?_⟩
  intro g hn hlo
  replace hn : g.n = 41 := hn
  replace hlo : g.low 0 := hlo
  refine acode_while (fun k : Nat => ⟨[(1, .vptr 0 0), (4, encR (idsP s (bestN ordD (exAll s) (allN s) k))), (5, .int .i64 k)], [(0, .cells (cSc s))], 1⟩) (fun k => k ≤ allN s) (fun k => allN s - k) 0 (Nat.zero_le _) ?_ (fun _ _ => hlo.mono (Nat.zero_le _)) ?_
  · exact St.le.of ⟨by kernel_rfl, rfl, by kernel_rfl, rfl, by kernel_rfl, rfl, trivial⟩ ⟨by kernel_rfl, (by decide : (0 : Nat) < 1), by kernel_rfl, trivial⟩
  · intro k hk
    replace hk : k ≤ allN s := hk
    by_cases hlt : k < allN s
    · have ek := congrArg (AV.int .i64) (succ64 (k := k) (by omega))
      have c : decide ((k : Int) < ((allN s : Nat) : Int)) = true := decide_eq_true (by omega)
      have mk := members_spec s hml k (by omega)
      have sh := sh_ord hs hk (bst_le ordD (exAll s) (allN s) k hk)
      have rk := rooms_spec s hs k (by omega)
      have xk := exAll_rm hs k
      cases q1 : ordD k (bestN ordD (exAll s) (allN s) k)
      · rw [q1] at sh
        have eb := congrArg (fun b => encR (idsP s b)) (bst_no1 (p := exAll s) q1).symm
        exact ACode.vcM (.call (.int .i64 ((allN s : Nat) : Int)) <| .br 23 true <| .lent (encR (idsP s k)) [] <| .call (.bool false) .nil) hn hlo (.round .cl) ⟨ev, c, ⟨_, by kernel_rfl, .inr mk⟩, sh, k + 1, hlt, mu1 hlt,
          St.le.of ⟨by kernel_rfl, rfl, Eq.trans (by kernel_rfl) eb, rfl, Eq.trans (by kernel_rfl) ek, rfl, trivial⟩ ⟨by kernel_rfl, (by decide : (0 : Nat) < 1), by kernel_rfl, trivial⟩⟩
      · rw [q1] at sh
        cases q2 : exAll s k
        · rw [q2] at xk
          have eb := congrArg (fun b => encR (idsP s b)) (bst_no2 (lt := ordD) (n := allN s) q2).symm
          exact ACode.vcM (.call (.int .i64 ((allN s : Nat) : Int)) <| .br 23 true <| .lent (encR (idsP s k)) [] <| .call (.bool true) <| .lent (encR (rmK s k (nR s))) [] <| .br 38 false .nil) hn hlo (.round .cl) ⟨ev, c, ⟨_, by kernel_rfl, .inr mk⟩, sh, ⟨_, by kernel_rfl, .inr rk⟩, xk.symm, k + 1, hlt, mu1 hlt,
            St.le.of ⟨by kernel_rfl, rfl, Eq.trans (by kernel_rfl) eb, rfl, Eq.trans (by kernel_rfl) ek, rfl, trivial⟩ ⟨by kernel_rfl, (by decide : (0 : Nat) < 1), by kernel_rfl, trivial⟩⟩
        · rw [q2] at xk
          have eb := congrArg (fun b => encR (idsP s b)) (bst_yes q1 q2).symm
          exact ACode.vcM (.call (.int .i64 ((allN s : Nat) : Int)) <| .br 23 true <| .lent (encR (idsP s k)) [] <| .call (.bool true) <| .lent (encR (rmK s k (nR s))) [] <| .br 38 true .nil) hn hlo (.round .cl) ⟨ev, c, ⟨_, by kernel_rfl, .inr mk⟩, sh, ⟨_, by kernel_rfl, .inr rk⟩, xk.symm, k + 1, hlt, mu1 hlt,
            St.le.of ⟨by kernel_rfl, rfl, Eq.trans (by kernel_rfl) eb, rfl, Eq.trans (by kernel_rfl) ek, rfl, trivial⟩ ⟨by kernel_rfl, (by decide : (0 : Nat) < 1), by kernel_rfl, trivial⟩⟩
    · have hk' : k = allN s := by omega
      have c : decide ((k : Int) < ((allN s : Nat) : Int)) = false := decide_eq_false (by omega)
      have eV := congrArg (fun b => some (AV.tup [encR (idsP s (bestN ordD (exAll s) (allN s) b)), .int .i64 0], ([] : List Nat))) hk'
      exact ACode.vcM (.call (.int .i64 ((allN s : Nat) : Int)) <| .br 23 false .nil) hn hlo (.round .cl) ⟨ev, c, _, .refl _, .nil, [], Eq.trans (by kernel_rfl) eV⟩
end Go.Proofs.YtmllgnnhblhfeaaDoor
/-
  THE LAW OF WHAT IS EXCLUDED.
-/
namespace Go.Proofs.YtmllgnnhblhfeaaDoor
open Go Go.Am
set_option maxRecDepth 100000
set_option maxHeartbeats 4000000
theorem few_len (s : Scn) (p : Nat → Bool) : ((fewP s p).getD []).length ≤ s.marks.length := by
  unfold fewP
  by_cases h : p (allN s) = true
  · rw [if_pos h]; exact ids_len s _
  · rw [if_neg h]; exact Nat.zero_le _
theorem wy_len (s : Scn) (room : Int) : (wyV s room).length ≤ s.marks.length := by
  unfold wyV
  by_cases h : rmE s room = 0
  · rw [if_pos h]; exact few_len s _
  · rw [if_neg h]; exact Nat.zero_le _
theorem ag_len (s : Scn) : (agV s).length ≤ s.marks.length := by
  unfold agV
  by_cases h : scB s = true
  · rw [if_pos h]; exact few_len s _
  · rw [if_neg h]; exact Nat.zero_le _
theorem law_excludes (s : Scn) (room : Int) : APure Tryd.prog 3 [encSc s, .int .i64 room] (.bool true) := by
  have gr := RGreat_spec s
  cases h : (decide (((s.gates.map cGt).length : Int) > 10) || decide (((s.marks.map cMk).length : Int) > 12))
  · rw [h] at gr
    obtain ⟨g1, g2⟩ := Bool.or_eq_false_iff.1 h
    have g1 := of_decide_eq_false g1
    have g2 := of_decide_eq_false g2
    rw [List.length_map] at g1 g2
    have tw := Twin_spec s (by omega) (by omega)
    have sm := Same_self s (by omega) (by omega)
    have w1 := Why_ok s room
    have w2 := RWhy_ok s room
    have a1 := Against_ok s
    have a2 := RAgainst_ok s
    have s1 := SameInts_self (wyV s room) (by have := wy_len s room; omega)
    have s2 := SameInts_self (agV s) (by have := ag_len s; omega)
    generalize wyV s room = A at *
    generalize wyE s room = E at *
    generalize agV s = B at *
    generalize ckE s = F at *
    have eE : (E == E) = true := beq_self_eq_true E
    have eF : (F == F) = true := beq_self_eq_true F
    exact APure.vcM Tryd.func3 (.call (.bool false) <| .lent (encSc s) [] <| .call (encLe A E) <| .call (encLe A E) <| .call (encLe B F) <| .call (encLe B F) <| .call (.bool true) <| .br 48 true <| .call (.bool true) <| .br 58 true <| .call (.bool true) .nil) rfl rfl
      ⟨gr, ⟨_, by kernel_rfl, .inr tw⟩, w1, w2, a1, a2, s1, eE, s2, eF, sm, [], by kernel_rfl⟩
  · rw [h] at gr
    exact APure.vc Tryd.func3 rfl (.call (.bool true) .nil) rfl rfl ⟨gr, rB rfl⟩
end Go.Proofs.YtmllgnnhblhfeaaDoor
/-
  THE LAW 'OriginExcludes': for every scene and room the call returns true (which marks exclude a room, and which allow no truth, are the reference's); the arguments read as before. No condition beyond the listed variables, which the card ties to the program's text.
-/
namespace Go.Proofs.YtmllgnnhblhfeaaDoor
open Go Go.Am
open Go.ChangeShapes Go.WideShapes Go.ChangeAt Go.RowKit
set_option maxRecDepth 100000
theorem originExcludes_pure : ∀ l, ArgsV [scTy, .int .i64] l → APure Tryd.prog 3 l (.bool true) := by
  intro l h
  obtain ⟨a0, r0, rfl, h0, a1, r1, rfl, h1, hr⟩ := h
  obtain ⟨x0, rfl⟩ := scn_of h0
  obtain ⟨x1, rfl⟩ := int_of h1
  simp only [ArgsV] at hr
  subst hr
  exact law_excludes x0 x1
theorem originExcludes_row_holds : Rows.OriginExcludesSaid :=
  OpenClaim.holds_of_wide 3 Tryd.f3 rfl rfl rfl rfl rfl rfl rfl ⟨rfl, rfl, rfl, rfl, rfl⟩ rfl rfl rfl rfl rfl (by kernel_rfl) Tryd.func3 (by kernel_rfl)
    (of_decide_eq_true (by kernel_rfl)) (by unfold Func.isWrapper; first | (rw [if_pos (by decide +kernel)]; kernel_rfl) | (rw [if_neg (by decide +kernel)]; exact ⟨rfl, rfl⟩))
    (fun os started H enc _ => handed_of_pure_and (C := Tryd.checked) (s := Rows.originExcludesSpec) (tb := 4) (Ts := [scTy, .int .i64]) (X := fun w _ => laidMetH Tryd.prog Rows.originExcludesRow.laid w) (fun _ _ _ hh h => h.of_heap hh) Tryd.own started (by kernel_rfl) Tryd.func3
      (ChangeSpec.witness_at (enc := enc) (C := Tryd.checked) (os := os) (X := fun w _ => laidMetH Tryd.prog Rows.originExcludesRow.laid w) false (laidWorld os) #[.agg #[.int .i64 0, .slice none 0 0, .int .i64 0, .slice none 0 0], .int .i64 0] 9 rfl (by kernel_rfl) (by kernel_rfl) (by kernel_rfl) (by kernel_rfl) (by kernel_rfl) (laidWorld_met os _))
      rfl (fun ds hd => by
        rcases ds with _ | ⟨d1, _ | ⟨d2, _ | ⟨d3, ds⟩⟩⟩ <;> first | rfl | (simp at hd; done)) Tryd.laidOut (by kernel_rfl) rfl (by kernel_rfl) (by kernel_rfl) originExcludes_pure (fun _ _ h => globs h))
theorem originExcludes_card_holds : Rows.OriginExcludesCardSaid :=
  Claim7.holds_tied_plain_at .later [] [.data, .data, .data] true (true, "dac32906bcbdadf016964b71f43f23bfe78bfd4c2d3834d7230648ddb0c0aadd") false
    originExcludes_row_holds (fun _ h => by cases h) (by kernel_rfl) (fun _ h => by cases h) originExcludes_row_tie rfl ⟨rfl, rfl⟩ (by kernel_rfl) rfl
    (fun f fn hf hfn => by
      obtain rfl : f = 3 := Option.some.inj ((show Tryd.prog.funcNamed "cottonpad/cottonpadlaw09.OriginExcludes" = some 3 by kernel_rfl).symm.trans hf) |>.symm
      obtain rfl : fn = Tryd.f3 := (Option.some.inj (Tryd.func3.symm.trans hfn)).symm
      exact ⟨by kernel_rfl, fun j t ht => by
        have hm : t ∈ Tryd.f3.params.toList := by simpa using Array.mem_of_getElem? ht
        have hall : (Tryd.f3.params.toList.all fun u => !Tryd.prog.wantsStandIn u) = true := by kernel_rfl
        exact (show Tryd.prog.wantsStandIn t = false by simpa using List.all_eq_true.1 hall t hm)⟩)
    (by kernel_rfl)
end Go.Proofs.YtmllgnnhblhfeaaDoor

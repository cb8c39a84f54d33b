import Derived.Test.YtjoagmjijbfjkaaGreatDoorRows
import Derived.Test.YtjoagmjijbfjkaaGreatDoorCards
import Derived.Test.YtjoagmjijbfjkaaGreatDoorTie
import Derived.Test.YtjoagmjijbfjkaaGreatDoorAm16
import Derived.Test.YtjoagmjijbfjkaaGreatDoorW4
import Derived.ChangeVars
import Derived.LaidLaws
import Derived.LaidHandle
import Derived.LaidMore
import Derived.SevenTiedAt
import Derived.OpenShut
import Derived.ChangeSame
/-
  What stands fast for all cards of this seat: the listed variables, the world that meets them, arguments as abstract values.
-/
namespace Go.Proofs.YtjoagmjijbfjkaaGreatDoor
open Go Go.Am
open Go.ChangeShapes Go.WideShapes Go.ChangeAt Go.RowKit
set_option maxRecDepth 100000
theorem Tryz.own : ownKnob Tryz.prog.godebug = none := by kernel_rfl
theorem Tryz.laidOut : laidOutB Tryz.prog = true := by kernel_rfl
abbrev laidL : List (String × DataW Unit) := [("cottonpad/origin.never", Rows.laid_cottonpad_origin_never), ("cottonpad/origin.always", Rows.laid_cottonpad_origin_always), ("cottonpad/origin.nothing", Rows.laid_cottonpad_origin_nothing)]
/-- A world that meets the condition: the settled one, the variables' cells laid. -/
noncomputable def laidWorld (os : Os) : World :=
  let w0 := World.holding Tryz.prog os ⟨#[], #[], []⟩
  { w0 with heap := ((w0.heap.modify 0 fun
      | .cells _ t frozen => .cells #[.int .i64 0, .int .i64 600] t frozen
      | o => o).modify 1 fun
      | .cells _ t frozen => .cells #[.int .i64 1, .int .i64 0] t frozen
      | o => o).modify 2 fun
      | .cells _ t frozen => .cells #[.int .i64 0, .bool true] t frozen
      | o => o }
theorem laidWorld_met (os : Os) (args : Array Value) : laidMetH Tryz.prog laidL ((laidWorld os).forCall (fun _ _ => 0) ⟨#[], args, []⟩).memory :=
  laidMet_of_run' 8 (by kernel_rfl) (by kernel_rfl)
theorem two_rel {W : World} {i : Nat} {a b : AV} {x y : Value} (h0 : W.cell? ⟨i, 0, none⟩ = some x) (h1 : W.cell? ⟨i, 1, none⟩ = some y) (r0 : VRel nok (fun _ => False) W a x) (r1 : VRel nok (fun _ => False) W b y) :
    VRel nok (fun _ => False) W (.cptr [a, b]) (.pointer (some ⟨i, 0, none⟩)) := by
  refine .cptr _ _ (fun j => match j with | 0 => x | _ => y) (fun j c hj => ⟨id, ?_⟩) (fun j c hj => ?_)
  · rcases j with _ | _ | j
    · exact h0
    · exact h1
    · simp at hj
  · rcases j with _ | _ | j
    · simp at hj; subst hj; exact r0
    · simp at hj; subst hj; exact r1
    · simp at hj
theorem spn_cells {W : World} {n : String} {i : Nat} {cs : Array Value} {fuel : Nat} {p : List MemPlace} {a b : Int} (hg : Tryz.prog.globalNamed n = some i) (hv : W.var? Tryz.prog n = some cs)
    (hd : DataW.trod (fun _ => ()) Tryz.prog W 0 (fun _ => true) false fuel 36 cs.toList = some (.agg [.lit (.int .i64 a), .lit (.int .i64 b)], p)) : VRel nok (fun _ => False) W (.cptr [.int .i64 a, .int .i64 b]) (.pointer (some ⟨i, 0, none⟩)) := by
  obtain ⟨y0, y1, m, e, hl, h0, h1⟩ := trod_struct2 Tryz.underlying36 hd
  obtain ⟨z0, c0, e0, _⟩ := DataW.trod_int Tryz.underlying3 h0
  obtain ⟨z1, c1, e1, _⟩ := DataW.trod_int Tryz.underlying3 h1
  subst e0; subst e1
  have e' := DataW.agg.inj (Prod.mk.inj e).1
  simp only [List.cons.injEq, DataW.lit.injEq, Lit.int.injEq, true_and, and_true] at e'
  obtain ⟨rfl, rfl⟩ := e'
  refine two_rel (x := .int .i64 a) (y := .int .i64 b) ?_ ?_ (.int _ _) (.int _ _)
  · rw [World.var?_cell hg hv 0]
    have : ((cs.toList.drop 0).take 1)[0]? = some (.int .i64 a) := congrArg (fun l => l[0]?) c0
    simpa using this
  · rw [World.var?_cell hg hv 1]
    have : ((cs.toList.drop 1).take 1)[0]? = some (.int .i64 b) := congrArg (fun l => l[0]?) c1
    simpa using this
theorem tim_cells {W : World} {n : String} {i : Nat} {cs : Array Value} {fuel : Nat} {p : List MemPlace} {a : Int} {b : Bool} (hg : Tryz.prog.globalNamed n = some i) (hv : W.var? Tryz.prog n = some cs)
    (hd : DataW.trod (fun _ => ()) Tryz.prog W 0 (fun _ => true) false fuel 113 cs.toList = some (.agg [.lit (.int .i64 a), .lit (.bool b)], p)) : VRel nok (fun _ => False) W (.cptr [.int .i64 a, .bool b]) (.pointer (some ⟨i, 0, none⟩)) := by
  obtain ⟨y0, y1, m, e, hl, h0, h1⟩ := trod_struct2 Tryz.underlying113 hd
  obtain ⟨z0, c0, e0, _⟩ := DataW.trod_int Tryz.underlying3 h0
  obtain ⟨z1, c1, e1⟩ := DataW.trod_bool Tryz.underlying4 h1
  subst e0; subst e1
  have e' := DataW.agg.inj (Prod.mk.inj e).1
  simp only [List.cons.injEq, DataW.lit.injEq, Lit.int.injEq, Lit.bool.injEq, true_and, and_true] at e'
  obtain ⟨rfl, rfl⟩ := e'
  refine two_rel (x := .int .i64 a) (y := .bool b) ?_ ?_ (.int _ _) (.bool _)
  · rw [World.var?_cell hg hv 0]
    have : ((cs.toList.drop 0).take 1)[0]? = some (.int .i64 a) := congrArg (fun l => l[0]?) c0
    simpa using this
  · rw [World.var?_cell hg hv 1]
    have : ((cs.toList.drop 1).take 1)[0]? = some (.bool b) := congrArg (fun l => l[0]?) c1
    simpa using this
theorem globs {W : World} (h : laidMetH Tryz.prog laidL W) : GlobOk (fun _ => False) W := by
  rw [MakeChecks.laidMetH_plain _ _ _ (by kernel_rfl)] at h
  obtain ⟨ps, ⟨g2, t2, cs2, f2, p2, q2, hg2, ht2, hv2, hd2, ⟨g0, t0, cs0, f0, p0, q0, hg0, ht0, hv0, hd0, ⟨g1, t1, cs1, f1, p1, q1, hg1, ht1, hv1, hd1, _, _⟩, _⟩, _⟩, _, _⟩ := h
  obtain rfl := Option.some.inj ((show Tryz.prog.globalNamed "cottonpad/origin.never" = some 2 by kernel_rfl).symm.trans hg2)
  obtain rfl := Option.some.inj ((show (Tryz.prog.globals[2]?).map (·.type) = some 113 by kernel_rfl).symm.trans ht2)
  obtain rfl := Option.some.inj ((show Tryz.prog.globalNamed "cottonpad/origin.always" = some 0 by kernel_rfl).symm.trans hg0)
  obtain rfl := Option.some.inj ((show (Tryz.prog.globals[0]?).map (·.type) = some 36 by kernel_rfl).symm.trans ht0)
  obtain rfl := Option.some.inj ((show Tryz.prog.globalNamed "cottonpad/origin.nothing" = some 1 by kernel_rfl).symm.trans hg1)
  obtain rfl := Option.some.inj ((show (Tryz.prog.globals[1]?).map (·.type) = some 36 by kernel_rfl).symm.trans ht1)
  have r2 := tim_cells hg2 hv2 hd2
  have r0 := spn_cells hg0 hv0 hd0
  have r1 := spn_cells hg1 hv1 hd1
  intro i
  rcases i with _ | _ | _ | i
  · exact r0
  · exact r1
  · exact r2
  · exact .any _
/-! ### arguments -/
abbrev spTy : Ty := .struct [.int .i64, .int .i64]
abbrev gtTy : Ty := .struct [.int .i64, .int .i64, spTy]
abbrev mkTy : Ty := .struct [.int .i64, .int .u8, .int .i64, .int .i64, spTy, .int .i64]
abbrev scTy : Ty := .struct [.int .i64, .slice 4 gtTy, .int .i64, .slice 7 mkTy]
theorem list_of {α : Type} {T : Ty} {enc : α → List AV} (one : ∀ {x}, Vals T x → ∃ p, x = enc p) : ∀ xs : List (List AV), (∀ x ∈ xs, Vals T x) → ∃ l : List α, xs = l.map enc := by
  intro xs
  induction xs with
  | nil => intro _; exact ⟨[], rfl⟩
  | cons x xs ih =>
    intro h
    obtain ⟨p, rfl⟩ := one (h x List.mem_cons_self)
    obtain ⟨l, rfl⟩ := ih fun y hy => h y (List.mem_cons_of_mem _ hy)
    exact ⟨p :: l, rfl⟩
theorem int_of {a : AV} (h : ArgV (.int .i64) a) : ∃ n : Int, a = .int .i64 n := by
  simp only [ArgV, Vals] at h
  obtain ⟨n, h, _⟩ := h
  obtain rfl := List.cons.inj h |>.1
  exact ⟨n, rfl⟩
theorem gt_of {x : List AV} (h : Vals gtTy x) : ∃ p : Gt, x = cGt p := by
  simp only [Vals, ValsL] at h
  obtain ⟨a1, b1, rfl, ⟨m1, rfl, _⟩, a2, b2, rfl, ⟨m2, rfl, _⟩, a3, b3, rfl, ⟨c3, d3, rfl, ⟨m3, rfl, _⟩, c4, d4, rfl, ⟨m4, rfl, _⟩, rfl⟩, rfl⟩ := h
  exact ⟨⟨m1, m2, m3, m4⟩, rfl⟩
theorem mk_of {x : List AV} (h : Vals mkTy x) : ∃ p : Mk, x = cMk p := by
  simp only [Vals, ValsL] at h
  obtain ⟨a1, b1, rfl, ⟨m1, rfl, _⟩, a2, b2, rfl, ⟨m2, rfl, k1, k2⟩, a3, b3, rfl, ⟨m3, rfl, _⟩, a4, b4, rfl, ⟨m4, rfl, _⟩, a5, b5, rfl, ⟨c3, d3, rfl, ⟨m5, rfl, _⟩, c4, d4, rfl, ⟨m6, rfl, _⟩, rfl⟩, a6, b6, rfl, ⟨m7, rfl, _⟩, rfl⟩ := h
  have e1 : IntKind.min .u8 = 0 := by decide
  have e2 : IntKind.max .u8 = 255 := by decide
  obtain ⟨n, rfl⟩ : ∃ n : Nat, m2 = (n : Int) := ⟨m2.toNat, by omega⟩
  exact ⟨⟨m1, ⟨n, by omega⟩, m3, m4, m5, m6, m7⟩, rfl⟩
theorem scn_of {a : AV} (h : ArgV scTy a) : ∃ n : Scn, a = encSc n := by
  simp only [ArgV] at h
  obtain ⟨l, h, rfl⟩ := h
  simp only [ValsL] at h
  obtain ⟨a1, b1, rfl, h1, a2, b2, rfl, h2, a3, b3, rfl, h3, a4, b4, rfl, h4, rfl⟩ := h
  simp only [Vals] at h1 h3
  rw [Vals] at h2 h4
  obtain ⟨m1, rfl, _⟩ := h1
  obtain ⟨x2, rfl, _, k2⟩ := h2
  obtain ⟨m3, rfl, _⟩ := h3
  obtain ⟨x4, rfl, _, k4⟩ := h4
  obtain ⟨l2, rfl⟩ := list_of (T := gtTy) (enc := cGt) gt_of x2 k2
  obtain ⟨l4, rfl⟩ := list_of (T := mkTy) (enc := cMk) mk_of x4 k4
  exact ⟨⟨m1, l2, m3, l4⟩, rfl⟩
theorem u8_of {a : AV} (h : ArgV (.int .u8) a) : ∃ n : Nat, n < 256 ∧ a = .int .u8 (n : Int) := by
  simp only [ArgV, Vals] at h
  obtain ⟨n, h, h1, h2⟩ := h
  have e1 : IntKind.min .u8 = 0 := by decide
  have e2 : IntKind.max .u8 = 255 := by decide
  obtain rfl := List.cons.inj h |>.1
  exact ⟨n.toNat, by omega, by rw [show ((n.toNat : Nat) : Int) = n by omega]⟩
theorem u16_of {a : AV} (h : ArgV (.int .u16) a) : ∃ n : Nat, n < 65536 ∧ a = .int .u16 (n : Int) := by
  simp only [ArgV, Vals] at h
  obtain ⟨n, h, h1, h2⟩ := h
  have e1 : IntKind.min .u16 = 0 := by decide
  have e2 : IntKind.max .u16 = 65535 := by decide
  obtain rfl := List.cons.inj h |>.1
  exact ⟨n.toNat, by omega, by rw [show ((n.toNat : Nat) : Int) = n by omega]⟩
end Go.Proofs.YtjoagmjijbfjkaaGreatDoor

import Derived.Test.YtcbdggmojnnbdaaDoorRows
import Derived.Test.YtcbdggmojnnbdaaDoorCards
import Derived.Test.YtcbdggmojnnbdaaDoorTie
import Derived.Test.YtcbdggmojnnbdaaDoorAm16
import Derived.Test.YtcbdggmojnnbdaaDoorSp1
import Derived.Test.YtcbdggmojnnbdaaDoorTy
import Derived.ChangeVars
import Derived.LaidLaws
import Derived.LaidHandle
import Derived.LaidMore
import Derived.SevenTiedAt
import Derived.OpenShut
import Derived.ChangeSame
/-
  What stands fast for all cards of this seat: the listed variable, the world that meets it, arguments as abstract values.
-/
namespace Go.Proofs.YtcbdggmojnnbdaaDoor
open Go Go.Am
open Go.ChangeShapes Go.WideShapes Go.ChangeAt Go.RowKit
set_option maxRecDepth 100000
theorem Tryd.own : ownKnob Tryd.prog.godebug = none := by kernel_rfl
theorem Tryd.laidOut : laidOutB Tryd.prog = true := by kernel_rfl
abbrev laidL : List (String × DataW Unit) := [("cottonpad/spray.enough", Rows.laid_cottonpad_spray_enough)]
/-- A world that meets the condition: the settled one, the variable's cells laid. -/
noncomputable def laidWorld (os : Os) : World :=
  let w0 := World.holding Tryd.prog os ⟨#[], #[], []⟩
  { w0 with heap := w0.heap.modify 0 fun
      | .cells _ t frozen => .cells #[.bool false, .int .i64 0] t frozen
      | o => o }
theorem laidWorld_met (os : Os) (args : Array Value) : laidMetH Tryd.prog laidL ((laidWorld os).forCall (fun _ _ => 0) ⟨#[], args, []⟩).memory :=
  laidMet_of_run' 8 (by kernel_rfl) (by kernel_rfl)
theorem globs {W : World} (h : laidMetH Tryd.prog laidL W) : GlobOk (fun _ => False) W := by
  rw [MakeChecks.laidMetH_plain _ _ _ (by kernel_rfl)] at h
  obtain ⟨ps, ⟨g, t, cs, fuel, p, q, hg, ht, hv, hd, _, _⟩, _, _⟩ := h
  obtain rfl := Option.some.inj ((show Tryd.prog.globalNamed "cottonpad/spray.enough" = some 0 by kernel_rfl).symm.trans hg)
  obtain rfl := Option.some.inj ((show (Tryd.prog.globals[0]?).map (·.type) = some 125 by kernel_rfl).symm.trans ht)
  obtain ⟨y0, y1, n, e, hl, h0, h1⟩ := trod_struct2 Tryd.underlying125 hd
  obtain ⟨z0, c0, e0⟩ := DataW.trod_bool Tryd.underlying4 h0
  obtain ⟨z1, c1, e1, _⟩ := DataW.trod_int Tryd.underlying3 h1
  subst e0; subst e1
  have e' := DataW.agg.inj (Prod.mk.inj e).1
  simp only [List.cons.injEq, DataW.lit.injEq, Lit.int.injEq, Lit.bool.injEq, true_and, and_true] at e'
  obtain ⟨rfl, rfl⟩ := e'
  have g0 : W.cell? ⟨0, 0, none⟩ = some (.bool false) := by
    rw [World.var?_cell hg hv 0]
    have : ((cs.toList.drop 0).take 1)[0]? = some (.bool false) := by rw [show cs.toList.drop 0 = cs.toList.drop 0 from rfl]; exact congrArg (fun l => l[0]?) c0
    simpa using this
  have g1 : W.cell? ⟨0, 1, none⟩ = some (.int .i64 0) := by
    rw [World.var?_cell hg hv 1]
    have : ((cs.toList.drop 1).take 1)[0]? = some (.int .i64 0) := congrArg (fun l => l[0]?) c1
    simpa using this
  intro i
  cases i with
  | zero =>
    refine .cptr _ _ (fun j => match j with | 0 => .bool false | _ => .int .i64 0) (fun j c hj => ⟨id, ?_⟩) (fun j c hj => ?_)
    · rcases j with _ | _ | j
      · exact g0
      · exact g1
      · simp at hj
    · rcases j with _ | _ | j
      · simp at hj; subst hj; exact .bool _
      · simp at hj; subst hj; exact .int _ _
      · simp at hj
  | succ i => exact .any _
end Go.Proofs.YtcbdggmojnnbdaaDoor
/-
  What arguments of the laws are, as abstract values.
-/
namespace Go.Proofs.YtcbdggmojnnbdaaDoor
open Go Go.Am
open Go.ChangeShapes Go.WideShapes Go.ChangeAt Go.RowKit
abbrev spTy : Ty := .struct [.int .i64, .int .i64]
abbrev pipeTy : Ty := .struct [.int .i64, .int .i64, spTy]
abbrev headTy : Ty := .struct [.int .i64, .int .i64, .int .i64, .int .i64, spTy, spTy]
abbrev pumpTy : Ty := .struct [spTy, .int .i64]
abbrev netTy : Ty := .struct [.slice 4 pipeTy, .slice 8 headTy, .slice 3 pumpTy, .int .i64, spTy, .int .i64]
abbrev u16sTy : Ty := .slice 1 (.int .u16)
abbrev intsTy : Ty := .slice 1 (.int .i64)
abbrev heatsTy : Ty := .slice 1 intsTy
abbrev u32sTy : Ty := .slice 1 (.int .u32)
def encU (x : Int) : List AV := [.int .u32 x]
theorem i_of {x : List AV} (h : Vals (.int .i64) x) : ∃ d : Int, x = encI d := by
  simp only [Vals] at h
  obtain ⟨m, rfl, _⟩ := h
  exact ⟨m, rfl⟩
theorem list_of {α : Type} {T : Ty} {enc : α → List AV} (one : ∀ {x}, Vals T x → ∃ p, x = enc p) : ∀ xs : List (List AV), (∀ x ∈ xs, Vals T x) → ∃ l : List α, xs = l.map enc := by
  intro xs
  induction xs with
  | nil => intro _; exact ⟨[], rfl⟩
  | cons x xs ih =>
    intro h
    obtain ⟨p, rfl⟩ := one (h x List.mem_cons_self)
    obtain ⟨l, rfl⟩ := ih fun y hy => h y (List.mem_cons_of_mem _ hy)
    exact ⟨p :: l, rfl⟩
theorem u32s_list : ∀ xs : List (List AV), (∀ x ∈ xs, Vals (.int .u32) x) → ∃ l : List Int, xs = l.map encU ∧ ∀ x ∈ l, 0 ≤ x ∧ x < 4294967296 := by
  intro xs
  induction xs with
  | nil => intro _; exact ⟨[], rfl, fun x hx => by cases hx⟩
  | cons x xs ih =>
    intro h
    have h1 := h x List.mem_cons_self
    simp only [Vals] at h1
    obtain ⟨m, rfl, m1, m2⟩ := h1
    obtain ⟨l, rfl, hl⟩ := ih fun y hy => h y (List.mem_cons_of_mem _ hy)
    have e1 : IntKind.min .u32 = 0 := by decide
    have e2 : IntKind.max .u32 = 4294967295 := by decide
    refine ⟨m :: l, rfl, fun x hx => ?_⟩
    rcases List.mem_cons.1 hx with rfl | hx
    · omega
    · exact hl x hx
theorem int_of {a : AV} (h : ArgV (.int .i64) a) : ∃ n : Int, a = .int .i64 n := by
  simp only [ArgV, Vals] at h
  obtain ⟨n, h, _⟩ := h
  obtain rfl := List.cons.inj h |>.1
  exact ⟨n, rfl⟩
theorem byte_of {a : AV} (h : ArgV (.int .u8) a) : ∃ n : Int, a = .int .u8 n ∧ 0 ≤ n ∧ n ≤ 255 := by
  simp only [ArgV, Vals] at h
  obtain ⟨n, h, h1, h2⟩ := h
  obtain rfl := List.cons.inj h |>.1
  have e1 : IntKind.min .u8 = 0 := by decide
  have e2 : IntKind.max .u8 = 255 := by decide
  exact ⟨n, rfl, by omega, by omega⟩
theorem ints_of {a : AV} (h : ArgV intsTy a) : ∃ r : List Int, a = encR r := by
  simp only [ArgV, Vals] at h
  obtain ⟨xs, h, _, hx⟩ := h
  obtain rfl := List.cons.inj h |>.1
  obtain ⟨l, rfl⟩ := list_of (T := .int .i64) (enc := encI) i_of xs hx
  exact ⟨l, rfl⟩
theorem u32s_of {a : AV} (h : ArgV u32sTy a) : ∃ r : List Int, a = .lst 1 (r.map encU) ∧ ∀ x ∈ r, 0 ≤ x ∧ x < 4294967296 := by
  simp only [ArgV, Vals] at h
  obtain ⟨xs, h, _, hx⟩ := h
  obtain rfl := List.cons.inj h |>.1
  obtain ⟨l, rfl, hl⟩ := u32s_list xs hx
  exact ⟨l, rfl, hl⟩
theorem sp_of {x : List AV} (h : Vals spTy x) : ∃ a b : Int, x = [.int .i64 a, .int .i64 b] := by
  simp only [Vals, ValsL] at h
  obtain ⟨a, b, rfl, ⟨m, rfl, _⟩, c, d, rfl, ⟨n, rfl, _⟩, rfl⟩ := h
  exact ⟨m, n, rfl⟩
theorem pipe_of {x : List AV} (h : Vals pipeTy x) : ∃ p : Pp, x = cP p := by
  simp only [Vals, ValsL] at h
  obtain ⟨a1, b1, rfl, ⟨m1, rfl, _⟩, a2, b2, rfl, ⟨m2, rfl, _⟩, a3, b3, rfl, ⟨c3, d3, rfl, ⟨m3, rfl, _⟩, c4, d4, rfl, ⟨m4, rfl, _⟩, rfl⟩, rfl⟩ := h
  exact ⟨⟨m1, m2, m3, m4⟩, rfl⟩
theorem head_of {x : List AV} (h : Vals headTy x) : ∃ p : Hh, x = cH p := by
  simp only [Vals, ValsL] at h
  obtain ⟨a1, b1, rfl, ⟨m1, rfl, _⟩, a2, b2, rfl, ⟨m2, rfl, _⟩, a3, b3, rfl, ⟨m3, rfl, _⟩, a4, b4, rfl, ⟨m4, rfl, _⟩, a5, b5, rfl, ⟨c5, d5, rfl, ⟨m5, rfl, _⟩, c6, d6, rfl, ⟨m6, rfl, _⟩, rfl⟩,
    a6, b6, rfl, ⟨c7, d7, rfl, ⟨m7, rfl, _⟩, c8, d8, rfl, ⟨m8, rfl, _⟩, rfl⟩, rfl⟩ := h
  exact ⟨⟨m1, m2, m3, m4, m5, m6, m7, m8⟩, rfl⟩
theorem pump_of {x : List AV} (h : Vals pumpTy x) : ∃ p : Pm, x = cM p := by
  simp only [Vals, ValsL] at h
  obtain ⟨a3, b3, rfl, ⟨c3, d3, rfl, ⟨m3, rfl, _⟩, c4, d4, rfl, ⟨m4, rfl, _⟩, rfl⟩, a1, b1, rfl, ⟨m1, rfl, _⟩, rfl⟩ := h
  exact ⟨⟨m3, m4, m1⟩, rfl⟩
theorem headA_of {a : AV} (h : ArgV headTy a) : ∃ p : Hh, a = encHh p := by
  simp only [ArgV] at h
  obtain ⟨l, h, rfl⟩ := h
  have h' : Vals headTy l := by simp only [Vals]; exact h
  obtain ⟨p, rfl⟩ := head_of h'
  exact ⟨p, rfl⟩
theorem net_of {a : AV} (h : ArgV netTy a) : ∃ n : Nt, a = encN n := by
  simp only [ArgV] at h
  obtain ⟨l, h, rfl⟩ := h
  simp only [ValsL] at h
  obtain ⟨a1, b1, rfl, h1, a2, b2, rfl, h2, a3, b3, rfl, h3, a4, b4, rfl, h4, a5, b5, rfl, h5, a6, b6, rfl, h6, rfl⟩ := h
  rw [Vals] at h1 h2 h3
  obtain ⟨x1, rfl, _, k1⟩ := h1
  obtain ⟨x2, rfl, _, k2⟩ := h2
  obtain ⟨x3, rfl, _, k3⟩ := h3
  obtain ⟨l1, rfl⟩ := list_of (T := pipeTy) (enc := cP) pipe_of x1 k1
  obtain ⟨l2, rfl⟩ := list_of (T := headTy) (enc := cH) head_of x2 k2
  obtain ⟨l3, rfl⟩ := list_of (T := pumpTy) (enc := cM) pump_of x3 k3
  obtain ⟨y4, rfl⟩ := i_of h4
  obtain ⟨y5, y6, rfl⟩ := sp_of h5
  obtain ⟨y7, rfl⟩ := i_of h6
  exact ⟨⟨l1, l2, l3, y4, y5, y6, y7⟩, rfl⟩
def encU16 (x : Int) : List AV := [.int .u16 x]
theorem u16s_list : ∀ xs : List (List AV), (∀ x ∈ xs, Vals (.int .u16) x) → ∃ l : List Int, xs = l.map encU16 ∧ ∀ x ∈ l, 0 ≤ x ∧ x < 65536 := by
  intro xs
  induction xs with
  | nil => intro _; exact ⟨[], rfl, fun x hx => by cases hx⟩
  | cons x xs ih =>
    intro h
    have h1 := h x List.mem_cons_self
    simp only [Vals] at h1
    obtain ⟨m, rfl, m1, m2⟩ := h1
    obtain ⟨l, rfl, hl⟩ := ih fun y hy => h y (List.mem_cons_of_mem _ hy)
    have e1 : IntKind.min .u16 = 0 := by decide
    have e2 : IntKind.max .u16 = 65535 := by decide
    refine ⟨m :: l, rfl, fun x hx => ?_⟩
    rcases List.mem_cons.1 hx with rfl | hx
    · omega
    · exact hl x hx
theorem u16s_of {a : AV} (h : ArgV u16sTy a) : ∃ r : List Int, a = .lst 1 (r.map encU16) ∧ ∀ x ∈ r, 0 ≤ x ∧ x < 65536 := by
  simp only [ArgV, Vals] at h
  obtain ⟨xs, h, _, hx⟩ := h
  obtain rfl := List.cons.inj h |>.1
  obtain ⟨l, rfl, hl⟩ := u16s_list xs hx
  exact ⟨l, rfl, hl⟩
theorem u16_of {a : AV} (h : ArgV (.int .u16) a) : ∃ n : Int, a = .int .u16 n ∧ 0 ≤ n ∧ n ≤ 65535 := by
  simp only [ArgV, Vals] at h
  obtain ⟨n, h, h1, h2⟩ := h
  obtain rfl := List.cons.inj h |>.1
  have e1 : IntKind.min .u16 = 0 := by decide
  have e2 : IntKind.max .u16 = 65535 := by decide
  exact ⟨n, rfl, by omega, by omega⟩
def encRs (l : List (List Int)) : AV := .lst 1 (l.map fun r => [encR r])
theorem heats_of {a : AV} (h : ArgV heatsTy a) : ∃ r : List (List Int), a = encRs r := by
  simp only [ArgV] at h
  rw [Vals] at h
  obtain ⟨xs, h, _, hx⟩ := h
  obtain rfl := List.cons.inj h |>.1
  have one : ∀ {x : List AV}, Vals intsTy x → ∃ p : List Int, x = [encR p] := fun {x} h => by
    rw [Vals] at h
    obtain ⟨ys, rfl, _, hy⟩ := h
    obtain ⟨l, rfl⟩ := list_of (T := .int .i64) (enc := encI) i_of ys hy
    exact ⟨l, rfl⟩
  obtain ⟨l, rfl⟩ := list_of (T := intsTy) (enc := fun r => [encR r]) one xs hx
  exact ⟨l, rfl⟩
end Go.Proofs.YtcbdggmojnnbdaaDoor

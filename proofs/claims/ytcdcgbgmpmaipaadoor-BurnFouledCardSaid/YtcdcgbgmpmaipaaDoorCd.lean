import Derived.Test.YtcdcgbgmpmaipaaDoorRows
import Derived.Test.YtcdcgbgmpmaipaaDoorCards
import Derived.Test.YtcdcgbgmpmaipaaDoorTie
import Derived.Test.YtcdcgbgmpmaipaaDoorAm16
import Derived.Test.YtcdcgbgmpmaipaaDoorBp1
import Derived.Test.YtcdcgbgmpmaipaaDoorTy
import Derived.ChangeVars
import Derived.LaidLaws
import Derived.LaidHandle
import Derived.LaidMore
import Derived.SevenTiedAt
import Derived.OpenShut
import Derived.ChangeSame
/-
  What stands fast for all cards of this seat: the listed variable, the world that meets it, arguments as abstract values.
-/
namespace Go.Proofs.YtcdcgbgmpmaipaaDoor
open Go Go.Am
open Go.ChangeShapes Go.WideShapes Go.ChangeAt Go.RowKit
set_option maxRecDepth 100000
theorem Tryd.own : ownKnob Tryd.prog.godebug = none := by kernel_rfl
theorem Tryd.laidOut : laidOutB Tryd.prog = true := by kernel_rfl
abbrev laidL : List (String × DataW Unit) := [("cottonpad/burn.none", Rows.laid_cottonpad_burn_none)]
/-- A world that meets the condition: the settled one, the variable's cells laid. -/
noncomputable def laidWorld (os : Os) : World :=
  let w0 := World.holding Tryd.prog os ⟨#[], #[], []⟩
  { w0 with heap := w0.heap.modify 0 fun
      | .cells _ t frozen => .cells #[.int .i64 (-1), .int .i64 (-1)] t frozen
      | o => o }
theorem laidWorld_met (os : Os) (args : Array Value) : laidMetH Tryd.prog laidL ((laidWorld os).forCall (fun _ _ => 0) ⟨#[], args, []⟩).memory :=
  laidMet_of_run' 8 (by kernel_rfl) (by kernel_rfl)
theorem globs {W : World} (h : laidMetH Tryd.prog laidL W) : GlobOk (fun _ => False) W := by
  rw [MakeChecks.laidMetH_plain _ _ _ (by kernel_rfl)] at h
  obtain ⟨ps, ⟨g, t, cs, fuel, p, q, hg, ht, hv, hd, _, _⟩, _, _⟩ := h
  obtain rfl := Option.some.inj ((show Tryd.prog.globalNamed "cottonpad/burn.none" = some 0 by kernel_rfl).symm.trans hg)
  obtain rfl := Option.some.inj ((show (Tryd.prog.globals[0]?).map (·.type) = some 23 by kernel_rfl).symm.trans ht)
  obtain ⟨y0, y1, n, e, hl, h0, h1⟩ := trod_struct2 Tryd.underlying23 hd
  obtain ⟨z0, c0, e0, _⟩ := DataW.trod_int Tryd.underlying3 h0
  obtain ⟨z1, c1, e1, _⟩ := DataW.trod_int Tryd.underlying3 h1
  subst e0; subst e1
  have e' := DataW.agg.inj (Prod.mk.inj e).1
  simp only [List.cons.injEq, DataW.lit.injEq, Lit.int.injEq, true_and, and_true] at e'
  obtain ⟨rfl, rfl⟩ := e'
  have g0 : W.cell? ⟨0, 0, none⟩ = some (.int .i64 (-1)) := by
    rw [World.var?_cell hg hv 0]
    have : ((cs.toList.drop 0).take 1)[0]? = some (.int .i64 (-1)) := by rw [show cs.toList.drop 0 = cs.toList.drop 0 from rfl]; exact congrArg (fun l => l[0]?) c0
    simpa using this
  have g1 : W.cell? ⟨0, 1, none⟩ = some (.int .i64 (-1)) := by
    rw [World.var?_cell hg hv 1]
    have : ((cs.toList.drop 1).take 1)[0]? = some (.int .i64 (-1)) := congrArg (fun l => l[0]?) c1
    simpa using this
  intro i
  cases i with
  | zero =>
    refine .cptr _ _ (fun _ => .int .i64 (-1)) (fun j c hj => ⟨id, ?_⟩) (fun j c hj => ?_)
    · rcases j with _ | _ | j
      · exact g0
      · exact g1
      · simp at hj
    · rcases j with _ | _ | j
      · simp at hj; subst hj; exact .int _ _
      · simp at hj; subst hj; exact .int _ _
      · simp at hj
  | succ i => exact .any _
end Go.Proofs.YtcdcgbgmpmaipaaDoor
/-
  What arguments of the laws are, as abstract values.
-/
namespace Go.Proofs.YtcdcgbgmpmaipaaDoor
open Go Go.Am
open Go.ChangeShapes Go.WideShapes Go.ChangeAt Go.RowKit
abbrev spTy : Ty := .struct [.int .i64, .int .i64]
abbrev hoodTy : Ty := .struct [spTy, spTy, spTy, spTy, .int .i64]
abbrev lampTy : Ty := .struct [.int .i64, .int .i64]
abbrev intsTy : Ty := .slice 1 (.int .i64)
abbrev u32sTy : Ty := .slice 1 (.int .u32)
def encU (x : Int) : List AV := [.int .u32 x]
theorem i_of {x : List AV} (h : Vals (.int .i64) x) : ∃ d : Int, x = encI d := by
  simp only [Vals] at h
  obtain ⟨m, rfl, _⟩ := h
  exact ⟨m, rfl⟩
theorem list_of {α : Type} {T : Ty} {enc : α → List AV} (one : ∀ {x}, Vals T x → ∃ p, x = enc p) : ∀ xs : List (List AV), (∀ x ∈ xs, Vals T x) → ∃ l : List α, xs = l.map enc := by
  intro xs
  induction xs with
  | nil => intro _; exact ⟨[], rfl⟩
  | cons x xs ih =>
    intro h
    obtain ⟨p, rfl⟩ := one (h x List.mem_cons_self)
    obtain ⟨l, rfl⟩ := ih fun y hy => h y (List.mem_cons_of_mem _ hy)
    exact ⟨p :: l, rfl⟩
theorem u32s_list : ∀ xs : List (List AV), (∀ x ∈ xs, Vals (.int .u32) x) → ∃ l : List Int, xs = l.map encU ∧ ∀ x ∈ l, 0 ≤ x ∧ x < 4294967296 := by
  intro xs
  induction xs with
  | nil => intro _; exact ⟨[], rfl, fun x hx => by cases hx⟩
  | cons x xs ih =>
    intro h
    have h1 := h x List.mem_cons_self
    simp only [Vals] at h1
    obtain ⟨m, rfl, m1, m2⟩ := h1
    obtain ⟨l, rfl, hl⟩ := ih fun y hy => h y (List.mem_cons_of_mem _ hy)
    have e1 : IntKind.min .u32 = 0 := by decide
    have e2 : IntKind.max .u32 = 4294967295 := by decide
    refine ⟨m :: l, rfl, fun x hx => ?_⟩
    rcases List.mem_cons.1 hx with rfl | hx
    · omega
    · exact hl x hx
theorem int_of {a : AV} (h : ArgV (.int .i64) a) : ∃ n : Int, a = .int .i64 n := by
  simp only [ArgV, Vals] at h
  obtain ⟨n, h, _⟩ := h
  obtain rfl := List.cons.inj h |>.1
  exact ⟨n, rfl⟩
theorem byte_of {a : AV} (h : ArgV (.int .u8) a) : ∃ n : Int, a = .int .u8 n ∧ 0 ≤ n ∧ n ≤ 255 := by
  simp only [ArgV, Vals] at h
  obtain ⟨n, h, h1, h2⟩ := h
  obtain rfl := List.cons.inj h |>.1
  have e1 : IntKind.min .u8 = 0 := by decide
  have e2 : IntKind.max .u8 = 255 := by decide
  exact ⟨n, rfl, by omega, by omega⟩
theorem ints_of {a : AV} (h : ArgV intsTy a) : ∃ r : List Int, a = encR r := by
  simp only [ArgV, Vals] at h
  obtain ⟨xs, h, _, hx⟩ := h
  obtain rfl := List.cons.inj h |>.1
  obtain ⟨l, rfl⟩ := list_of (T := .int .i64) (enc := encI) i_of xs hx
  exact ⟨l, rfl⟩
theorem u32s_of {a : AV} (h : ArgV u32sTy a) : ∃ r : List Int, a = .lst 1 (r.map encU) ∧ ∀ x ∈ r, 0 ≤ x ∧ x < 4294967296 := by
  simp only [ArgV, Vals] at h
  obtain ⟨xs, h, _, hx⟩ := h
  obtain rfl := List.cons.inj h |>.1
  obtain ⟨l, rfl, hl⟩ := u32s_list xs hx
  exact ⟨l, rfl, hl⟩
theorem lamp_of {a : AV} (h : ArgV lampTy a) : ∃ l : Lp, a = encLp l := by
  simp only [ArgV] at h
  obtain ⟨l, h, rfl⟩ := h
  simp only [ValsL] at h
  obtain ⟨a1, b1, rfl, h1, a2, b2, rfl, h2, rfl⟩ := h
  obtain ⟨x1, rfl⟩ := i_of h1
  obtain ⟨x2, rfl⟩ := i_of h2
  exact ⟨⟨x1, x2⟩, rfl⟩
theorem sp_of {x : List AV} (h : Vals spTy x) : ∃ a b : Int, x = [.int .i64 a, .int .i64 b] := by
  simp only [Vals, ValsL] at h
  obtain ⟨a, b, rfl, ⟨m, rfl, _⟩, c, d, rfl, ⟨n, rfl, _⟩, rfl⟩ := h
  exact ⟨m, n, rfl⟩
theorem hood_of {a : AV} (h : ArgV hoodTy a) : ∃ r : Hd, a = encHd r := by
  simp only [ArgV] at h
  obtain ⟨l, h, rfl⟩ := h
  simp only [ValsL] at h
  obtain ⟨a1, b1, rfl, h1, a2, b2, rfl, h2, a3, b3, rfl, h3, a4, b4, rfl, h4, a5, b5, rfl, h5, rfl⟩ := h
  obtain ⟨x1, x2, rfl⟩ := sp_of h1
  obtain ⟨x3, x4, rfl⟩ := sp_of h2
  obtain ⟨x5, x6, rfl⟩ := sp_of h3
  obtain ⟨x7, x8, rfl⟩ := sp_of h4
  obtain ⟨x9, rfl⟩ := i_of h5
  exact ⟨⟨x1, x2, x3, x4, x5, x6, x7, x8, x9⟩, rfl⟩
end Go.Proofs.YtcdcgbgmpmaipaaDoor

import Derived.Test.YticiopkiikcokaaRows
import Derived.Test.YticiopkiikcokaaN16
import Derived.Test.YticiopkiikcokaaPc
import Derived.Test.YticiopkiikcokaaPb
/-
  What arguments of runs and rules are, as abstract values.
-/
namespace Go.Proofs.Yticiopkiikcokaa
open Go Go.Am
open Go.ChangeShapes Go.WideShapes Go.ChangeAt Go.RowKit
theorem Try.own : ownKnob Try.prog.godebug = none := by kernel_rfl
theorem Try.laidOut : laidOutB Try.prog = true := by kernel_rfl
abbrev ptTy : Ty := .struct [.int .i64, .int .i64]
abbrev spTy : Ty := .struct [.int .i64, .int .i64]
abbrev cpTy : Ty := .struct [.int .i64, spTy, spTy, .int .i64]
abbrev rwTy : Ty := .struct [.slice 1 (.int .i64), .int .i64]
abbrev runTy : Ty := .struct [.int .i64, .slice 2 ptTy, .slice 6 cpTy, .slice 2 rwTy, spTy]
theorem pt_of {x : List AV} (h : Vals ptTy x) : ∃ p : Pt, x = encPt p := by
  simp only [Vals, ValsL] at h
  obtain ⟨a, b, rfl, ⟨m, rfl, _⟩, c, d, rfl, ⟨n, rfl, _⟩, rfl⟩ := h
  exact ⟨⟨m, n⟩, rfl⟩
theorem d_of {x : List AV} (h : Vals (.int .i64) x) : ∃ d : Int, x = encD d := by
  simp only [Vals] at h
  obtain ⟨m, rfl, _⟩ := h
  exact ⟨m, rfl⟩
theorem list_of {α : Type} {T : Ty} {enc : α → List AV} (one : ∀ {x}, Vals T x → ∃ p, x = enc p) : ∀ xs : List (List AV), (∀ x ∈ xs, Vals T x) → ∃ l : List α, xs = l.map enc := by
  intro xs
  induction xs with
  | nil => intro _; exact ⟨[], rfl⟩
  | cons x xs ih =>
    intro h
    obtain ⟨p, rfl⟩ := one (h x List.mem_cons_self)
    obtain ⟨l, rfl⟩ := ih fun y hy => h y (List.mem_cons_of_mem _ hy)
    exact ⟨p :: l, rfl⟩
theorem slice_of {α : Type} {T : Ty} {enc : α → List AV} {n : Nat} (one : ∀ {x}, Vals T x → ∃ p, x = enc p) {x : List AV} (h : Vals (.slice n T) x) : ∃ l : List α, x = [.lst n (l.map enc)] := by
  simp only [Vals] at h
  obtain ⟨xs, rfl, _, hx⟩ := h
  obtain ⟨l, rfl⟩ := list_of one xs hx
  exact ⟨l, rfl⟩
theorem sp_of {x : List AV} (h : Vals spTy x) : ∃ a b : Int, x = [.int .i64 a, .int .i64 b] := by
  obtain ⟨p, rfl⟩ := pt_of h
  exact ⟨p.m, p.d, rfl⟩
theorem i_of {x : List AV} (h : Vals (.int .i64) x) : ∃ a : Int, x = [.int .i64 a] := d_of h
theorem cp_of {x : List AV} (h : Vals cpTy x) : ∃ c : Cp, x = encCp c := by
  rw [Vals] at h
  simp only [ValsL] at h
  obtain ⟨a, b, rfl, ha, c, d, rfl, hc, e, f, rfl, he, g, i, rfl, hg, rfl⟩ := h
  obtain ⟨x1, rfl⟩ := i_of ha
  obtain ⟨x2, x3, rfl⟩ := sp_of hc
  obtain ⟨x4, x5, rfl⟩ := sp_of he
  obtain ⟨x6, rfl⟩ := i_of hg
  exact ⟨⟨x1, x2, x3, x4, x5, x6⟩, rfl⟩
theorem rw_of {x : List AV} (h : Vals rwTy x) : ∃ q : Rw, x = encRw q := by
  rw [Vals] at h
  simp only [ValsL] at h
  obtain ⟨a, b, rfl, ha, c, d, rfl, hc, rfl⟩ := h
  obtain ⟨l, rfl⟩ := slice_of (enc := encD) d_of ha
  obtain ⟨x2, rfl⟩ := i_of hc
  exact ⟨⟨l, x2⟩, rfl⟩
theorem run_of {a : AV} (h : ArgV runTy a) : ∃ r : Rn, a = encRn r := by
  simp only [ArgV] at h
  obtain ⟨l, h, rfl⟩ := h
  simp only [ValsL] at h
  obtain ⟨a1, b1, rfl, h1, a2, b2, rfl, h2, a3, b3, rfl, h3, a4, b4, rfl, h4, a5, b5, rfl, h5, rfl⟩ := h
  obtain ⟨x1, rfl⟩ := i_of h1
  obtain ⟨l2, rfl⟩ := slice_of (enc := encPt) pt_of h2
  obtain ⟨l3, rfl⟩ := slice_of (enc := encCp) cp_of h3
  obtain ⟨l4, rfl⟩ := slice_of (enc := encRw) rw_of h4
  obtain ⟨x5, x6, rfl⟩ := sp_of h5
  exact ⟨⟨x1, l2, l3, l4, x5, x6⟩, rfl⟩
abbrev stTy : Ty := .struct [.int .i64, .int .i64]
abbrev rulesTy : Ty := .struct [.slice 2 stTy, .int .i64, .int .i64, spTy, .int .i64]
abbrev curveTy : Ty := .slice 2 ptTy
theorem st_of {x : List AV} (h : Vals stTy x) : ∃ s : Sp, x = encSp s := by
  obtain ⟨p, rfl⟩ := pt_of h
  exact ⟨⟨p.m, p.d⟩, rfl⟩
theorem rules_of {a : AV} (h : ArgV rulesTy a) : ∃ u : Ru, a = encRu u := by
  simp only [ArgV] at h
  obtain ⟨l, h, rfl⟩ := h
  simp only [ValsL] at h
  obtain ⟨a1, b1, rfl, h1, a2, b2, rfl, h2, a3, b3, rfl, h3, a4, b4, rfl, h4, a5, b5, rfl, h5, rfl⟩ := h
  obtain ⟨l1, rfl⟩ := slice_of (enc := encSp) st_of h1
  obtain ⟨x2, rfl⟩ := i_of h2
  obtain ⟨x3, rfl⟩ := i_of h3
  obtain ⟨x4, x5, rfl⟩ := sp_of h4
  obtain ⟨x6, rfl⟩ := i_of h5
  exact ⟨⟨l1, x2, x3, x4, x5, x6⟩, rfl⟩
end Go.Proofs.Yticiopkiikcokaa

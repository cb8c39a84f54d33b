/-
  THE LAW 'FurnaceCurve': for every curve and every minute number the call returns true (a valid curve never falls, is as hot at its points as they tell, and between two points off the straight line by less than a degree below); the argument reads as before. No condition beyond the statement's own.
-/
import Derived.Test.YticiopkiikcokaaRows
import Derived.Test.YticiopkiikcokaaAm16
import Derived.Test.YticiopkiikcokaaT25
namespace Go.Proofs.Yticiopkiikcokaa
open Go Go.Am
open Go.ChangeShapes Go.WideShapes Go.ChangeAt Go.RowKit
theorem Try.own : ownKnob Try.prog.godebug = none := by kernel_rfl
theorem Try.laidOut : laidOutB Try.prog = true := by kernel_rfl
abbrev ptTy : Ty := .struct [.int .i64, .int .i64]
abbrev curveTy : Ty := .slice 2 ptTy
theorem pt_of {x : List AV} (h : Vals ptTy x) : ∃ p : Pt, x = encPt p := by
  simp only [Vals, ValsL] at h
  obtain ⟨a, b, rfl, ⟨m, rfl, _⟩, c, d, rfl, ⟨n, rfl, _⟩, rfl⟩ := h
  exact ⟨⟨m, n⟩, rfl⟩
theorem list_of {α : Type} {T : Ty} {enc : α → List AV} (one : ∀ {x}, Vals T x → ∃ p, x = enc p) : ∀ xs : List (List AV), (∀ x ∈ xs, Vals T x) → ∃ l : List α, xs = l.map enc := by
  intro xs
  induction xs with
  | nil => intro _; exact ⟨[], rfl⟩
  | cons x xs ih =>
    intro h
    obtain ⟨p, rfl⟩ := one (h x List.mem_cons_self)
    obtain ⟨l, rfl⟩ := ih fun y hy => h y (List.mem_cons_of_mem _ hy)
    exact ⟨p :: l, rfl⟩
theorem furnaceCurve_pure : ∀ l, ArgsV [curveTy, .int .u16] l → APure Try.prog 13 l (.bool true) := by
  intro l h
  simp only [ArgsV, ArgV, Vals] at h
  obtain ⟨a, r, rfl, ⟨xs, ha, hlen, hx⟩, b, r', rfl, ⟨n, hb, h1, h2⟩, rfl⟩ := h
  obtain ⟨pts, rfl⟩ := list_of (T := ptTy) pt_of xs hx
  obtain rfl := List.cons.inj ha |>.1
  obtain rfl := List.cons.inj hb |>.1
  have e1 : IntKind.min .u16 = 0 := by decide
  have e2 : IntKind.max .u16 = 65535 := by decide
  exact law13 pts n (by omega) (by omega)
set_option maxRecDepth 100000 in
theorem furnaceCurve_holds : Rows.FurnaceCurveSaid :=
  OpenClaim.holds_of_wide 13 Try.f13 rfl rfl rfl rfl rfl rfl rfl ⟨rfl, rfl, rfl, rfl, rfl⟩ rfl rfl rfl rfl rfl (by kernel_rfl) Try.func13 (by kernel_rfl)
    (of_decide_eq_true (by kernel_rfl)) (by unfold Func.isWrapper; first | (rw [if_pos (by decide +kernel)]; kernel_rfl) | (rw [if_neg (by decide +kernel)]; exact ⟨rfl, rfl⟩))
    (fun os started H enc _ => handed_of_pure (C := Try.checked) (s := Rows.furnaceCurveSpec) (tb := 4) (Ts := [curveTy, .int .u16]) Try.own started (by kernel_rfl) Try.func13
      (ChangeSpec.witness6 (enc := enc) (C := Try.checked) false ⟨#[], #[.slice none 0 0, .int .u16 0], []⟩ 8 (by kernel_rfl) (by kernel_rfl) (by kernel_rfl) (by kernel_rfl))
      rfl (fun ds hd => by
        rcases ds with _ | ⟨d1, _ | ⟨d2, _ | ⟨d3, ds⟩⟩⟩ <;> first | rfl | (simp at hd; done)) Try.laidOut (by kernel_rfl) rfl (by kernel_rfl) (by kernel_rfl) furnaceCurve_pure)
end Go.Proofs.Yticiopkiikcokaa

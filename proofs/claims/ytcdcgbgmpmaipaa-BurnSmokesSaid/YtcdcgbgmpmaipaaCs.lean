/-
  THE LAW 'BurnSmokes': for every lamp, lights and seconds the call returns true (how clean, how dark and how smoky it was are told as the document says, or the errors); the arguments read as before. No condition beyond the statement's own.
-/
import Derived.Test.YtcdcgbgmpmaipaaRows
import Derived.Test.YtcdcgbgmpmaipaaAm16
import Derived.Test.YtcdcgbgmpmaipaaBs6
namespace Go.Proofs.Ytcdcgbgmpmaipaa
open Go Go.Am
open Go.ChangeShapes Go.WideShapes Go.ChangeAt Go.RowKit
theorem Try.own : ownKnob Try.prog.godebug = none := by kernel_rfl
theorem Try.laidOut : laidOutB Try.prog = true := by kernel_rfl
abbrev lampTy : Ty := .struct [.int .i64, .int .i64]
abbrev intsTy : Ty := .slice 1 (.int .i64)
theorem i_of {x : List AV} (h : Vals (.int .i64) x) : ∃ d : Int, x = encI d := by
  simp only [Vals] at h
  obtain ⟨m, rfl, _⟩ := h
  exact ⟨m, rfl⟩
theorem list_of {α : Type} {T : Ty} {enc : α → List AV} (one : ∀ {x}, Vals T x → ∃ p, x = enc p) : ∀ xs : List (List AV), (∀ x ∈ xs, Vals T x) → ∃ l : List α, xs = l.map enc := by
  intro xs
  induction xs with
  | nil => intro _; exact ⟨[], rfl⟩
  | cons x xs ih =>
    intro h
    obtain ⟨p, rfl⟩ := one (h x List.mem_cons_self)
    obtain ⟨l, rfl⟩ := ih fun y hy => h y (List.mem_cons_of_mem _ hy)
    exact ⟨p :: l, rfl⟩
theorem int_of {a : AV} (h : ArgV (.int .i64) a) : ∃ n : Int, a = .int .i64 n := by
  simp only [ArgV, Vals] at h
  obtain ⟨n, h, _⟩ := h
  obtain rfl := List.cons.inj h |>.1
  exact ⟨n, rfl⟩
theorem ints_of {a : AV} (h : ArgV intsTy a) : ∃ r : List Int, a = encR r := by
  simp only [ArgV, Vals] at h
  obtain ⟨xs, h, _, hx⟩ := h
  obtain rfl := List.cons.inj h |>.1
  obtain ⟨l, rfl⟩ := list_of (T := .int .i64) (enc := encI) i_of xs hx
  exact ⟨l, rfl⟩
theorem lamp_of {a : AV} (h : ArgV lampTy a) : ∃ l : Lp, a = encLp l := by
  simp only [ArgV] at h
  obtain ⟨l, h, rfl⟩ := h
  simp only [ValsL] at h
  obtain ⟨a1, b1, rfl, h1, a2, b2, rfl, h2, rfl⟩ := h
  obtain ⟨x1, rfl⟩ := i_of h1
  obtain ⟨x2, rfl⟩ := i_of h2
  exact ⟨⟨x1, x2⟩, rfl⟩
theorem burnSmokes_pure : ∀ l, ArgsV [lampTy, intsTy, .int .i64, .int .i64, .int .i64] l → APure Try.prog 3 l (.bool true) := by
  intro l h
  obtain ⟨a, r1, rfl, ha, b, r2, rfl, hb, c, r3, rfl, hc, d, r4, rfl, hd, e, r5, rfl, he, hr⟩ := h
  obtain ⟨l0, rfl⟩ := lamp_of ha
  obtain ⟨r0, rfl⟩ := ints_of hb
  obtain ⟨i, rfl⟩ := int_of hc
  obtain ⟨m, rfl⟩ := int_of hd
  obtain ⟨n, rfl⟩ := int_of he
  simp only [ArgsV] at hr
  subst hr
  exact law_smokes l0 r0 i m n
set_option maxRecDepth 100000 in
theorem burnSmokes_holds : Rows.BurnSmokesSaid :=
  OpenClaim.holds_of_wide 3 Try.f3 rfl rfl rfl rfl rfl rfl rfl ⟨rfl, rfl, rfl, rfl, rfl⟩ rfl rfl rfl rfl rfl (by kernel_rfl) Try.func3 (by kernel_rfl)
    (of_decide_eq_true (by kernel_rfl)) (by unfold Func.isWrapper; first | (rw [if_pos (by decide +kernel)]; kernel_rfl) | (rw [if_neg (by decide +kernel)]; exact ⟨rfl, rfl⟩))
    (fun os started H enc _ => handed_of_pure (C := Try.checked) (s := Rows.burnSmokesSpec) (tb := 4) (Ts := [lampTy, intsTy, .int .i64, .int .i64, .int .i64]) Try.own started (by kernel_rfl) Try.func3
      (ChangeSpec.witness6 (enc := enc) (C := Try.checked) false ⟨#[], #[.agg #[.int .i64 0, .int .i64 0], .slice none 0 0, .int .i64 0, .int .i64 0, .int .i64 0], []⟩ 9 (by kernel_rfl) (by kernel_rfl) (by kernel_rfl) (by kernel_rfl))
      rfl (fun ds hd => by
        rcases ds with _ | ⟨d1, _ | ⟨d2, _ | ⟨d3, _ | ⟨d4, _ | ⟨d5, _ | ⟨d6, ds⟩⟩⟩⟩⟩⟩ <;> first | rfl | (simp at hd; done)) Try.laidOut (by kernel_rfl) rfl (by kernel_rfl) (by kernel_rfl) burnSmokes_pure)
end Go.Proofs.Ytcdcgbgmpmaipaa

/-
  MOVES AS ABSTRACT VALUES.
-/
import Derived.Test.YtmdhgkfjlphliaaCa
namespace Go.Proofs.Ytmdhgkfjlphliaa
open Go Go.Am
open Go.ChangeShapes Go.WideShapes Go.ChangeAt Go.RowKit
abbrev movTy : Ty := .struct [.int .i64, .int .i64, .int .u8, .int .i64]
abbrev movsTy : Ty := .slice 4 movTy
theorem mov_of {x : List AV} (h : Vals movTy x) : ∃ l : Mov, x = cMv l := by
  rw [Vals] at h
  simp only [ValsL] at h
  obtain ⟨a, b, rfl, ha, c, d, rfl, hc, e, f, rfl, he, g, i, rfl, hg, rfl⟩ := h
  obtain ⟨x1, rfl⟩ := i_of ha
  obtain ⟨x2, rfl⟩ := i_of hc
  obtain ⟨x3, rfl⟩ := k_of he
  obtain ⟨x4, rfl⟩ := i_of hg
  exact ⟨⟨x1, x2, x3, x4⟩, rfl⟩
theorem movs_of {a : AV} (h : ArgV movsTy a) : ∃ l : List Mov, a = encMs l := by
  simp only [ArgV] at h
  obtain ⟨l, e⟩ := slice_of (enc := cMv) mov_of h
  exact ⟨l, List.cons.inj e |>.1⟩
end Go.Proofs.Ytmdhgkfjlphliaa

/-
  WHAT ARGUMENTS ARE: records, letters, numbers, as abstract values.
-/
import Derived.Test.YtmdhgkfjlphliaaRows
import Derived.Test.YtmdhgkfjlphliaaAm16
import Derived.Test.YtmdhgkfjlphliaaT4
namespace Go.Proofs.Ytmdhgkfjlphliaa
open Go Go.Am
open Go.ChangeShapes Go.WideShapes Go.ChangeAt Go.RowKit
theorem Try.own : ownKnob Try.prog.godebug = none := by kernel_rfl
theorem Try.laidOut : laidOutB Try.prog = true := by kernel_rfl
abbrev wayTy : Ty := .slice 1 (.int .i64)
abbrev recTy : Ty := .struct [.int .i64, .int .u8, .slice 1 wayTy]
abbrev letTy : Ty := .struct [.int .i64, .int .i64, .int .i64, .int .u8]
abbrev recsTy : Ty := .slice 3 recTy
abbrev letsTy : Ty := .slice 4 letTy
theorem i_of {x : List AV} (h : Vals (.int .i64) x) : ∃ d : Int, x = encI d := by
  simp only [Vals] at h
  obtain ⟨m, rfl, _⟩ := h
  exact ⟨m, rfl⟩
theorem k_of {x : List AV} (h : Vals (.int .u8) x) : ∃ k : Fin 256, x = [kO k] := by
  simp only [Vals] at h
  obtain ⟨m, rfl, h1, h2⟩ := h
  have e1 : IntKind.min .u8 = 0 := by decide
  have e2 : IntKind.max .u8 = 255 := by decide
  obtain ⟨n, rfl⟩ : ∃ n : Nat, m = (n : Int) := ⟨m.toNat, by omega⟩
  exact ⟨⟨n, by omega⟩, rfl⟩
theorem list_of {α : Type} {T : Ty} {enc : α → List AV} (one : ∀ {x}, Vals T x → ∃ p, x = enc p) : ∀ xs : List (List AV), (∀ x ∈ xs, Vals T x) → ∃ l : List α, xs = l.map enc := by
  intro xs
  induction xs with
  | nil => intro _; exact ⟨[], rfl⟩
  | cons x xs ih =>
    intro h
    obtain ⟨p, rfl⟩ := one (h x List.mem_cons_self)
    obtain ⟨l, rfl⟩ := ih fun y hy => h y (List.mem_cons_of_mem _ hy)
    exact ⟨p :: l, rfl⟩
theorem slice_of {α : Type} {T : Ty} {enc : α → List AV} {n : Nat} (one : ∀ {x}, Vals T x → ∃ p, x = enc p) {x : List AV} (h : Vals (.slice n T) x) : ∃ l : List α, x = [.lst n (l.map enc)] := by
  simp only [Vals] at h
  obtain ⟨xs, rfl, _, hx⟩ := h
  obtain ⟨l, rfl⟩ := list_of one xs hx
  exact ⟨l, rfl⟩
theorem way_of {x : List AV} (h : Vals wayTy x) : ∃ w : List Int, x = cW w := slice_of (enc := encI) i_of h
theorem rec_of {x : List AV} (h : Vals recTy x) : ∃ r : Rcd, x = cRc r := by
  rw [Vals] at h
  simp only [ValsL] at h
  obtain ⟨a, b, rfl, ha, c, d, rfl, hc, e, f, rfl, he, rfl⟩ := h
  obtain ⟨x1, rfl⟩ := i_of ha
  obtain ⟨x2, rfl⟩ := k_of hc
  obtain ⟨x3, rfl⟩ := slice_of (enc := cW) way_of he
  exact ⟨⟨x1, x2, x3⟩, rfl⟩
theorem let_of {x : List AV} (h : Vals letTy x) : ∃ l : Ltr, x = cLt l := by
  rw [Vals] at h
  simp only [ValsL] at h
  obtain ⟨a, b, rfl, ha, c, d, rfl, hc, e, f, rfl, he, g, i, rfl, hg, rfl⟩ := h
  obtain ⟨x1, rfl⟩ := i_of ha
  obtain ⟨x2, rfl⟩ := i_of hc
  obtain ⟨x3, rfl⟩ := i_of he
  obtain ⟨x4, rfl⟩ := k_of hg
  exact ⟨⟨x1, x2, x3, x4⟩, rfl⟩
theorem recs_of {a : AV} (h : ArgV recsTy a) : ∃ r : List Rcd, a = encRs r := by
  simp only [ArgV] at h
  obtain ⟨l, e⟩ := slice_of (enc := cRc) rec_of h
  exact ⟨l, List.cons.inj e |>.1⟩
theorem vals_len {n : Nat} {T : Ty} {x : List AV} (h : Vals (.slice n T) x) : ∃ xs : List (List AV), x = [.lst n xs] ∧ xs.length ≤ maxLen := by
  simp only [Vals] at h
  obtain ⟨xs, rfl, hl, _⟩ := h
  exact ⟨xs, rfl, hl⟩
theorem lets_of {a : AV} (h : ArgV letsTy a) : ∃ l : List Ltr, a = encLs l ∧ l.length ≤ maxLen := by
  simp only [ArgV] at h
  obtain ⟨l, e⟩ := slice_of (enc := cLt) let_of h
  have e := List.cons.inj e |>.1
  subst e
  obtain ⟨xs, e2, hl⟩ := vals_len h
  have e2 := List.cons.inj e2 |>.1
  unfold encLs at *
  injection e2 with _ e3
  exact ⟨l, rfl, by rw [← e3, List.length_map] at hl; exact hl⟩
theorem u32_of {a : AV} (h : ArgV (.int .u32) a) : ∃ n : Nat, n < 4294967296 ∧ a = .int .u32 (n : Int) := by
  simp only [ArgV, Vals] at h
  obtain ⟨n, h, h1, h2⟩ := h
  have e1 : IntKind.min .u32 = 0 := by decide
  have e2 : IntKind.max .u32 = 4294967295 := by decide
  obtain rfl := List.cons.inj h |>.1
  exact ⟨n.toNat, by omega, by rw [show ((n.toNat : Nat) : Int) = n by omega]⟩
theorem u8_of {a : AV} (h : ArgV (.int .u8) a) : ∃ n : Nat, n < 256 ∧ a = .int .u8 (n : Int) := by
  simp only [ArgV, Vals] at h
  obtain ⟨n, h, h1, h2⟩ := h
  have e1 : IntKind.min .u8 = 0 := by decide
  have e2 : IntKind.max .u8 = 255 := by decide
  obtain rfl := List.cons.inj h |>.1
  exact ⟨n.toNat, by omega, by rw [show ((n.toNat : Nat) : Int) = n by omega]⟩
end Go.Proofs.Ytmdhgkfjlphliaa

/-
  What arguments of the laws are, as abstract values.
-/
import Derived.Test.YtiggnliiigcjaaaDoorCd
import Derived.Test.YtiggnliiigcjaaaDoorE1
namespace Go.Proofs.YtiggnliiigcjaaaDoor
open Go Go.Am
open Go.ChangeShapes Go.WideShapes Go.ChangeAt Go.RowKit
abbrev spTy : Ty := .struct [.int .i64, .int .i64]
abbrev staTy : Ty := .struct [.int .i64, .int .i64, spTy, spTy]
abbrev chaTy : Ty := .struct [.int .i64, .int .i64, spTy]
abbrev walTy : Ty := .struct [.int .i64, spTy, spTy]
abbrev bdgTy : Ty := .struct [.slice 6 staTy, .slice 4 chaTy]
abbrev walsTy : Ty := .slice 5 walTy
abbrev u32sTy : Ty := .slice 1 (.int .u32)
def encU (x : Int) : List AV := [.int .u32 x]
theorem i_of {x : List AV} (h : Vals (.int .i64) x) : ∃ d : Int, x = encI d := by
  simp only [Vals] at h
  obtain ⟨m, rfl, _⟩ := h
  exact ⟨m, rfl⟩
theorem list_of {α : Type} {T : Ty} {enc : α → List AV} (one : ∀ {x}, Vals T x → ∃ p, x = enc p) : ∀ xs : List (List AV), (∀ x ∈ xs, Vals T x) → ∃ l : List α, xs = l.map enc := by
  intro xs
  induction xs with
  | nil => intro _; exact ⟨[], rfl⟩
  | cons x xs ih =>
    intro h
    obtain ⟨p, rfl⟩ := one (h x List.mem_cons_self)
    obtain ⟨l, rfl⟩ := ih fun y hy => h y (List.mem_cons_of_mem _ hy)
    exact ⟨p :: l, rfl⟩
theorem u32s_list : ∀ xs : List (List AV), (∀ x ∈ xs, Vals (.int .u32) x) → ∃ l : List Int, xs = l.map encU ∧ ∀ x ∈ l, 0 ≤ x ∧ x < 4294967296 := by
  intro xs
  induction xs with
  | nil => intro _; exact ⟨[], rfl, fun x hx => by cases hx⟩
  | cons x xs ih =>
    intro h
    have h1 := h x List.mem_cons_self
    simp only [Vals] at h1
    obtain ⟨m, rfl, m1, m2⟩ := h1
    obtain ⟨l, rfl, hl⟩ := ih fun y hy => h y (List.mem_cons_of_mem _ hy)
    have e1 : IntKind.min .u32 = 0 := by decide
    have e2 : IntKind.max .u32 = 4294967295 := by decide
    refine ⟨m :: l, rfl, fun x hx => ?_⟩
    rcases List.mem_cons.1 hx with rfl | hx
    · omega
    · exact hl x hx
theorem int_of {a : AV} (h : ArgV (.int .i64) a) : ∃ n : Int, a = .int .i64 n := by
  simp only [ArgV, Vals] at h
  obtain ⟨n, h, _⟩ := h
  obtain rfl := List.cons.inj h |>.1
  exact ⟨n, rfl⟩
theorem byte_of {a : AV} (h : ArgV (.int .u8) a) : ∃ n : Int, a = .int .u8 n ∧ 0 ≤ n ∧ n ≤ 255 := by
  simp only [ArgV, Vals] at h
  obtain ⟨n, h, h1, h2⟩ := h
  obtain rfl := List.cons.inj h |>.1
  have e1 : IntKind.min .u8 = 0 := by decide
  have e2 : IntKind.max .u8 = 255 := by decide
  exact ⟨n, rfl, by omega, by omega⟩
theorem u32s_of {a : AV} (h : ArgV u32sTy a) : ∃ r : List Int, a = .lst 1 (r.map encU) ∧ ∀ x ∈ r, 0 ≤ x ∧ x < 4294967296 := by
  simp only [ArgV, Vals] at h
  obtain ⟨xs, h, _, hx⟩ := h
  obtain rfl := List.cons.inj h |>.1
  obtain ⟨l, rfl, hl⟩ := u32s_list xs hx
  exact ⟨l, rfl, hl⟩
theorem u16_of {a : AV} (h : ArgV (.int .u16) a) : ∃ n : Int, a = .int .u16 n ∧ 0 ≤ n ∧ n ≤ 65535 := by
  simp only [ArgV, Vals] at h
  obtain ⟨n, h, h1, h2⟩ := h
  obtain rfl := List.cons.inj h |>.1
  have e1 : IntKind.min .u16 = 0 := by decide
  have e2 : IntKind.max .u16 = 65535 := by decide
  exact ⟨n, rfl, by omega, by omega⟩
theorem sta_of {x : List AV} (h : Vals staTy x) : ∃ p : Sta, x = cSt p := by
  simp only [Vals, ValsL] at h
  obtain ⟨a1, b1, rfl, ⟨m1, rfl, _⟩, a2, b2, rfl, ⟨m2, rfl, _⟩, a3, b3, rfl, ⟨c3, d3, rfl, ⟨m3, rfl, _⟩, c4, d4, rfl, ⟨m4, rfl, _⟩, rfl⟩, a5, b5, rfl, ⟨c5, d5, rfl, ⟨m5, rfl, _⟩, c6, d6, rfl, ⟨m6, rfl, _⟩, rfl⟩, rfl⟩ := h
  exact ⟨⟨m1, m2, m3, m4, m5, m6⟩, rfl⟩
theorem cha_of {x : List AV} (h : Vals chaTy x) : ∃ p : Cha, x = cCh p := by
  simp only [Vals, ValsL] at h
  obtain ⟨a1, b1, rfl, ⟨m1, rfl, _⟩, a2, b2, rfl, ⟨m2, rfl, _⟩, a3, b3, rfl, ⟨c3, d3, rfl, ⟨m3, rfl, _⟩, c4, d4, rfl, ⟨m4, rfl, _⟩, rfl⟩, rfl⟩ := h
  exact ⟨⟨m1, m2, m3, m4⟩, rfl⟩
theorem wal_of {x : List AV} (h : Vals walTy x) : ∃ p : Wal, x = cWa p := by
  simp only [Vals, ValsL] at h
  obtain ⟨a1, b1, rfl, ⟨m1, rfl, _⟩, a3, b3, rfl, ⟨c3, d3, rfl, ⟨m3, rfl, _⟩, c4, d4, rfl, ⟨m4, rfl, _⟩, rfl⟩, a5, b5, rfl, ⟨c5, d5, rfl, ⟨m5, rfl, _⟩, c6, d6, rfl, ⟨m6, rfl, _⟩, rfl⟩, rfl⟩ := h
  exact ⟨⟨m1, m3, m4, m5, m6⟩, rfl⟩
theorem walA_of {a : AV} (h : ArgV walTy a) : ∃ p : Wal, a = .agg (cWa p) := by
  simp only [ArgV] at h
  obtain ⟨l, h, rfl⟩ := h
  have h' : Vals walTy l := by simp only [Vals]; exact h
  obtain ⟨p, rfl⟩ := wal_of h'
  exact ⟨p, rfl⟩
theorem wals_of {a : AV} (h : ArgV walsTy a) : ∃ r : List Wal, a = encW r := by
  simp only [ArgV] at h
  rw [Vals] at h
  obtain ⟨xs, h, _, hx⟩ := h
  obtain rfl := List.cons.inj h |>.1
  obtain ⟨l, rfl⟩ := list_of (T := walTy) (enc := cWa) wal_of xs hx
  exact ⟨l, rfl⟩
theorem bdg_of {a : AV} (h : ArgV bdgTy a) : ∃ n : Bdg, a = encB n := by
  simp only [ArgV] at h
  obtain ⟨l, h, rfl⟩ := h
  simp only [ValsL] at h
  obtain ⟨a1, b1, rfl, h1, a2, b2, rfl, h2, rfl⟩ := h
  rw [Vals] at h1 h2
  obtain ⟨x1, rfl, _, k1⟩ := h1
  obtain ⟨x2, rfl, _, k2⟩ := h2
  obtain ⟨l1, rfl⟩ := list_of (T := staTy) (enc := cSt) sta_of x1 k1
  obtain ⟨l2, rfl⟩ := list_of (T := chaTy) (enc := cCh) cha_of x2 k2
  exact ⟨⟨l1, l2⟩, rfl⟩
end Go.Proofs.YtiggnliiigcjaaaDoor

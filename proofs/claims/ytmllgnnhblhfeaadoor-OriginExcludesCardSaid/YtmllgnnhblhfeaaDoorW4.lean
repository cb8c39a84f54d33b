import Derived.Test.YtmllgnnhblhfeaaDoorW1
/-
  WHAT MARKS SAY, by their kinds; tables of times.
-/
namespace Go.Proofs.YtmllgnnhblhfeaaDoor
open Go Go.Am
set_option maxRecDepth 100000
set_option maxHeartbeats 4000000
/-- Marks whose numbers are not great. -/
structure smM (m : Mk) : Prop where
  lo : -1000000 ≤ m.lo ∧ m.lo ≤ 100000
  hi : -1000000 ≤ m.hi ∧ m.hi ≤ 100000
  long : -100000 ≤ m.long ∧ m.long ≤ 100000
theorem say1 {m : Mk} (hm : smM m) (fin : Int) {r : Tm} (o : Tm) (hr : smT r) : APure Tryd.prog 40 [.agg (cMk m), .int .i64 fin, encTm r, encTm o] (encSp (inT r m.lo m.hi)) := by
  have c := in_spec r m.lo m.hi hr ⟨hm.lo.1, by have := hm.lo.2; omega⟩ ⟨hm.hi.1, by have := hm.hi.2; omega⟩
  generalize inT r m.lo m.hi = R at *
  exact APure.vc Tryd.func40 rfl (.call (encSp R) .nil) rfl rfl ⟨c, trivial, by kernel_rfl⟩
theorem say2 {m : Mk} (hm : smM m) (fin : Int) {r : Tm} (o : Tm) (hr : smT r) : APure Tryd.prog 42 [.agg (cMk m), .int .i64 fin, encTm r, encTm o] (encSp (afterT r m.lo)) := by
  have c := after_spec r m.lo hr ⟨hm.lo.1, by have := hm.lo.2; omega⟩
  generalize afterT r m.lo = R at *
  exact APure.vc Tryd.func42 rfl (.call (encSp R) .nil) rfl rfl ⟨c, trivial, by kernel_rfl⟩
theorem say3 {m : Mk} (hm : smM m) (fin : Int) {r : Tm} (o : Tm) (hr : smT r) : APure Tryd.prog 44 [.agg (cMk m), .int .i64 fin, encTm r, encTm o] (encSp (untilT r m.hi)) := by
  have c := until_spec r m.hi hr ⟨hm.hi.1, by have := hm.hi.2; omega⟩
  generalize untilT r m.hi = R at *
  exact APure.vc Tryd.func44 rfl (.call (encSp R) .nil) rfl rfl ⟨c, trivial, by kernel_rfl⟩
theorem say4 {m : Mk} (hm : smM m) {fin : Int} (hf : 0 ≤ fin ∧ fin ≤ 100000) {r : Tm} (o : Tm) (hr : smT r) : APure Tryd.prog 46 [.agg (cMk m), .int .i64 fin, encTm r, encTm o] (encSp (untilT r (fin - m.long))) := by
  have hl := hm.long
  have ew : IntKind.i64.wrap (fin - m.long) = fin - m.long := wrap64 (by omega) (by omega)
  have c := until_spec r (IntKind.i64.wrap (fin - m.long)) hr (by rw [ew]; omega)
  rw [← ew]
  generalize untilT r (IntKind.i64.wrap (fin - m.long)) = R at *
  exact APure.vc Tryd.func46 rfl (.call (encSp R) .nil) rfl rfl ⟨c, trivial, by kernel_rfl⟩
theorem say5 {m : Mk} (hm : smM m) {fin : Int} (hf : 0 ≤ fin ∧ fin ≤ 100000) {r : Tm} (o : Tm) (hr : smT r) : APure Tryd.prog 47 [.agg (cMk m), .int .i64 fin, encTm r, encTm o] (encSp (afterT r (fin - m.long))) := by
  have hl := hm.long
  have ew : IntKind.i64.wrap (fin - m.long) = fin - m.long := wrap64 (by omega) (by omega)
  have c := after_spec r (IntKind.i64.wrap (fin - m.long)) hr (by rw [ew]; omega)
  rw [← ew]
  generalize afterT r (IntKind.i64.wrap (fin - m.long)) = R at *
  exact APure.vc Tryd.func47 rfl (.call (encSp R) .nil) rfl rfl ⟨c, trivial, by kernel_rfl⟩
theorem say6 (m : Mk) (fin : Int) (r o : Tm) : APure Tryd.prog 48 [.agg (cMk m), .int .i64 fin, encTm r, encTm o] (encSp (if befT r o then (0, 600) else (1, 0))) := by
  have c := isBefore_spec r o
  cases h : befT r o
  · rw [h] at c
    exact APure.vc Tryd.func48 rfl (.call (.bool false) .nil) rfl rfl ⟨c, trivial, by kernel_rfl⟩
  · rw [h] at c
    exact APure.vc Tryd.func48 rfl (.call (.bool true) .nil) rfl rfl ⟨c, trivial, by kernel_rfl⟩
/-! ### tables -/
def cRow (f : Nat → Tm) : List AV := [.int .i64 ((f 0).getD 0), .bool (f 0).isNone, .int .i64 ((f 1).getD 0), .bool (f 1).isNone, .int .i64 ((f 2).getD 0), .bool (f 2).isNone, .int .i64 ((f 3).getD 0), .bool (f 3).isNone, .int .i64 ((f 4).getD 0), .bool (f 4).isNone, .int .i64 ((f 5).getD 0), .bool (f 5).isNone]
def cTab (F : Tab) : List AV := cRow (F 0) ++ (cRow (F 1) ++ (cRow (F 2) ++ (cRow (F 3) ++ (cRow (F 4) ++ cRow (F 5)))))
theorem six {a : Nat} (h : a < 6) : a = 0 ∨ a = 1 ∨ a = 2 ∨ a = 3 ∨ a = 4 ∨ a = 5 := by omega
theorem row_at {f : Nat → Tm} {x : Nat} (h : x < 6) : ((cRow f).drop (2 * x)).take 2 = cTm (f x) := by
  rcases six h with rfl | rfl | rfl | rfl | rfl | rfl <;> rfl
theorem tab_row {F : Tab} {a : Nat} (h : a < 6) : ((cTab F).drop (12 * a)).take 12 = cRow (F a) := by
  rcases six h with rfl | rfl | rfl | rfl | rfl | rfl <;> rfl
theorem tab_at {F : Tab} {a b : Nat} (ha : a < 6) (hb : b < 6) : ((cTab F).drop (12 * a + 2 * b)).take 2 = cTm (F a b) := by
  rcases six ha with rfl | rfl | rfl | rfl | rfl | rfl <;> rcases six hb with rfl | rfl | rfl | rfl | rfl | rfl <;> rfl
theorem tab_set {F : Tab} {a b : Nat} (ha : a < 6) (hb : b < 6) (t : Tm) : splice (cTab F) (12 * a + 2 * b) (cTm t) = cTab (setT F a b t) := by
  rcases six ha with rfl | rfl | rfl | rfl | rfl | rfl <;> rcases six hb with rfl | rfl | rfl | rfl | rfl | rfl <;> kernel_rfl
theorem tab_len (F : Tab) : (cTab F).length = 72 := rfl
theorem tab_flat (F : Tab) : (cTab F).all AV.flat = true := by kernel_rfl
theorem tab_ok (n : Nat) (F : Tab) : okL n (cTab F) = true := by kernel_rfl
end Go.Proofs.YtmllgnnhblhfeaaDoor

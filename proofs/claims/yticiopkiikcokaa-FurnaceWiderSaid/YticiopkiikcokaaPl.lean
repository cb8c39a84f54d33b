import Derived.Test.YticiopkiikcokaaN14
import Derived.Test.YticiopkiikcokaaChecked
/-
  THE EXAMPLES' DATA, as abstract values.
-/
namespace Go.Proofs.Yticiopkiikcokaa
open Go Go.Am
def rn : AV := .agg [.int .i64 7, .lst 2 [[.int .i64 0, .int .i64 20], [.int .i64 5, .int .i64 520], [.int .i64 10, .int .i64 680]],
  .lst 6 [[.int .i64 1, .int .i64 (-5), .int .i64 5, .int .i64 0, .int .i64 0, .int .i64 0], [.int .i64 4, .int .i64 0, .int .i64 0, .int .i64 0, .int .i64 1, .int .i64 3]],
  .lst 2 [[.lst 1 [[.int .i64 120], [.int .i64 130]], .int .i64 10], [.lst 1 [[.int .i64 220], [.int .i64 210]], .int .i64 10], [.lst 1 [[.int .i64 330], [.int .i64 400]], .int .i64 25]],
  .int .i64 (-2), .int .i64 2]
def ru : AV := .agg [.lst 2 [[.int .i64 2, .int .i64 100]], .int .i64 60, .int .i64 1, .int .i64 0, .int .i64 20, .int .i64 3]
def told : AV := .lst 4 [[.int .i64 1, .int .u8 3, .int .i64 4, .int .u8 1], [.int .i64 2, .int .u8 2, .int .i64 (-1), .int .u8 1], [.int .i64 3, .int .u8 4, .int .i64 (-1), .int .u8 2]]
def wk : AV := .agg ([.int .i64 7, .lst 2 [[.int .i64 0, .int .i64 20], [.int .i64 5, .int .i64 520], [.int .i64 10, .int .i64 680]], .lst 6 [[.int .i64 1, .int .i64 (-5), .int .i64 5, .int .i64 0, .int .i64 0, .int .i64 0], [.int .i64 4, .int .i64 0, .int .i64 0, .int .i64 0, .int .i64 1, .int .i64 3]], .lst 2 [[.lst 1 [[.int .i64 120], [.int .i64 130]], .int .i64 10], [.lst 1 [[.int .i64 220], [.int .i64 210]], .int .i64 10], [.lst 1 [[.int .i64 330], [.int .i64 400]], .int .i64 25]], .int .i64 (-2), .int .i64 2, .int .i64 0, .int .i64 0, .int .i64 102900, .int .i64 140700, .int .i64 178500, .int .i64 182700, .int .i64 273000, .int .i64 281400] ++ rep 116 [.int .i64 0] ++ [.int .i64 100800, .int .i64 100800, .int .i64 184800, .int .i64 184800, .int .i64 268800, .int .i64 268800] ++ rep 114 [.int .i64 0])
end Go.Proofs.Yticiopkiikcokaa
/-
  THE EXAMPLES OF THE STATEMENTS ('alive'), run.
-/
namespace Go.Proofs.Yticiopkiikcokaa
open Go Go.Am
theorem isRun_rn : APureF Try.prog 50 [rn] (.bool true) := .runK .nil 100 30 (by kernel_rfl)
theorem work_rn : APure Try.prog 51 [rn] wk := .run 100 30 (by kernel_rfl)
theorem left_rn : APureF Try.prog 25 [rn, ru] (.tup [told, .int .i64 0]) := .runK (.cons work_rn (.consF isRun_rn .nil)) 100 30 (by kernel_rfl)
theorem mean1_rn : APureF Try.prog 18 [rn, .int .i64 1] (.tup [.agg [.int .i64 102900, .int .i64 140700], .int .i64 0]) := .runK (.cons work_rn (.consF isRun_rn .nil)) 100 30 (by kernel_rfl)
theorem mean3_rn : APureF Try.prog 18 [rn, .int .i64 3] (.tup [.agg [.int .i64 273000, .int .i64 281400], .int .i64 0]) := .runK (.cons work_rn (.consF isRun_rn .nil)) 100 30 (by kernel_rfl)
theorem alive_spec : APure Try.prog 33 [] (.bool true) := .runK (.consF left_rn (.consF mean1_rn (.consF mean3_rn (.consF isRun_rn .nil)))) 100 30 (by kernel_rfl)
end Go.Proofs.Yticiopkiikcokaa

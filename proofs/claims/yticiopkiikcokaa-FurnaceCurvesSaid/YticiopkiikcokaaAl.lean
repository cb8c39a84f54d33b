/-
  THE EXAMPLES OF THE STATEMENTS ('alive'), run.
-/
import Derived.Test.YticiopkiikcokaaChecked
import Derived.Test.YticiopkiikcokaaAlD
namespace Go.Proofs.Yticiopkiikcokaa
open Go Go.Am
theorem isRun_rn : APureF Try.prog 50 [rn] (.bool true) := .runK .nil 100 30 (by kernel_rfl)
theorem work_rn : APure Try.prog 51 [rn] wk := .run 100 30 (by kernel_rfl)
theorem left_rn : APureF Try.prog 25 [rn, ru] (.tup [told, .int .i64 0]) := .runK (.cons work_rn (.consF isRun_rn .nil)) 100 30 (by kernel_rfl)
theorem mean1_rn : APureF Try.prog 18 [rn, .int .i64 1] (.tup [.agg [.int .i64 102900, .int .i64 140700], .int .i64 0]) := .runK (.cons work_rn (.consF isRun_rn .nil)) 100 30 (by kernel_rfl)
theorem mean3_rn : APureF Try.prog 18 [rn, .int .i64 3] (.tup [.agg [.int .i64 273000, .int .i64 281400], .int .i64 0]) := .runK (.cons work_rn (.consF isRun_rn .nil)) 100 30 (by kernel_rfl)
theorem alive_spec : APure Try.prog 33 [] (.bool true) := .runK (.consF left_rn (.consF mean1_rn (.consF mean3_rn (.consF isRun_rn .nil)))) 100 30 (by kernel_rfl)
end Go.Proofs.Yticiopkiikcokaa

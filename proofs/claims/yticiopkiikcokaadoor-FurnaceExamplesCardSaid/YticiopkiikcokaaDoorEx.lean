/-
  THE LAW 'FurnaceExamples' ANSWERS TRUE: its road is run by an interpreter that is proved sound; it takes no argument and no condition.
-/
import Derived.Test.YticiopkiikcokaaDoorChecked
import Derived.Test.YticiopkiikcokaaDoorExD
namespace Go.Proofs.YticiopkiikcokaaDoor
open Go Go.Am
theorem isRun_rn : APureF Tryd.prog 25 [rn] (.bool true) := .runK .nil 100 30 (by kernel_rfl)
theorem work_rn : APure Tryd.prog 26 [rn] wk := .run 100 30 (by kernel_rfl)
theorem left_rn : APureF Tryd.prog 12 [rn, ru] (.tup [told, .int .i64 0]) := .runK (.cons work_rn (.consF isRun_rn .nil)) 100 30 (by kernel_rfl)
theorem mean1_rn : APureF Tryd.prog 11 [rn, .int .i64 1] (.tup [.agg [.int .i64 102900, .int .i64 140700], .int .i64 0]) := .runK (.cons work_rn (.consF isRun_rn .nil)) 100 30 (by kernel_rfl)
theorem mean2_rn : APureF Tryd.prog 11 [rn, .int .i64 2] (.tup [.agg [.int .i64 178500, .int .i64 182700], .int .i64 0]) := .runK (.cons work_rn (.consF isRun_rn .nil)) 100 30 (by kernel_rfl)
theorem mean3_rn : APureF Tryd.prog 11 [rn, .int .i64 3] (.tup [.agg [.int .i64 273000, .int .i64 281400], .int .i64 0]) := .runK (.cons work_rn (.consF isRun_rn .nil)) 100 30 (by kernel_rfl)
theorem alive_spec : APureF Tryd.prog 4 [] (.bool true) := .runK (.consF left_rn (.consF mean1_rn (.consF mean3_rn (.consF isRun_rn .nil)))) 100 30 (by kernel_rfl)
theorem examples_spec : APure Tryd.prog 3 [] (.bool true) := .runK (.consF alive_spec (.consF left_rn (.consF mean2_rn (.consF isRun_rn .nil)))) 100 30 (by kernel_rfl)
end Go.Proofs.YticiopkiikcokaaDoor

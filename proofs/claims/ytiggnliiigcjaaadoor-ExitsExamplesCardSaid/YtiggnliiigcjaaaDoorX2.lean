/-
  THE CHAPTER's EXAMPLES, RUN: how many more there may be.
-/
import Derived.Test.YtiggnliiigcjaaaDoorX1
namespace Go.Proofs.YtiggnliiigcjaaaDoor
open Go Go.Am
set_option maxRecDepth 100000
set_option maxHeartbeats 4000000
theorem kL1 : APure Tryd.prog 77 [encX exB (moreW 1), eW] (encL (-1, -1)) := .runK .nil 100 30 (by kernel_rfl)
theorem kS1 : APure Tryd.prog 54 [encX exB (moreW 1)] (.bool true) := kSf _ _ _ _ kL1 (by kernel_rfl)
theorem kL2 : APure Tryd.prog 77 [encX exB (moreW 2), eW] (encL (-1, -1)) := .runK .nil 100 30 (by kernel_rfl)
theorem kS2 : APure Tryd.prog 54 [encX exB (moreW 2)] (.bool true) := kSf _ _ _ _ kL2 (by kernel_rfl)
theorem kL3 : APure Tryd.prog 77 [encX exB (moreW 3), eW] (encL (-1, -1)) := .runK .nil 100 30 (by kernel_rfl)
theorem kS3 : APure Tryd.prog 54 [encX exB (moreW 3)] (.bool true) := kSf _ _ _ _ kL3 (by kernel_rfl)
theorem kL4 : APure Tryd.prog 77 [encX exB (moreW 4), eW] (encL (-1, -1)) := .runK .nil 100 30 (by kernel_rfl)
theorem kS4 : APure Tryd.prog 54 [encX exB (moreW 4)] (.bool true) := kSf _ _ _ _ kL4 (by kernel_rfl)
theorem kL5 : APure Tryd.prog 77 [encX exB (moreW 5), eW] (encL (-1, -1)) := .runK .nil 100 30 (by kernel_rfl)
theorem kS5 : APure Tryd.prog 54 [encX exB (moreW 5)] (.bool true) := kSf _ _ _ _ kL5 (by kernel_rfl)
theorem kL6 : APure Tryd.prog 77 [encX exB (moreW 6), eW] (encL (-1, -1)) := .runK .nil 100 30 (by kernel_rfl)
theorem kS6 : APure Tryd.prog 54 [encX exB (moreW 6)] (.bool true) := kSf _ _ _ _ kL6 (by kernel_rfl)
theorem kL7 : APure Tryd.prog 77 [encX exB (moreW 7), eW] (encL (-1, -1)) := .runK .nil 100 30 (by kernel_rfl)
theorem kS7 : APure Tryd.prog 54 [encX exB (moreW 7)] (.bool true) := kSf _ _ _ _ kL7 (by kernel_rfl)
theorem kL8 : APure Tryd.prog 77 [encX exB (moreW 8), eW] (encL (-1, 1)) := .runK .nil 100 30 (by kernel_rfl)
theorem kS8 : APure Tryd.prog 54 [encX exB (moreW 8)] (.bool false) := kSf _ _ _ _ kL8 (by kernel_rfl)
end Go.Proofs.YtiggnliiigcjaaaDoor

/-
  THE TYPES OF THE LOADED PROGRAM, in short: closed facts.
-/
import Derived.Test.YtcdcgbgmpmaipaaChecked
import Derived.Test.YtcdcgbgmpmaipaaAmS
import Derived.KernelRfl
namespace Go.Proofs.Ytcdcgbgmpmaipaa
open Go.Am
theorem ty1 : tinfo Try.prog 1 = some { td := .func, size := 1, bytes := 8, zero := [.nilFunc], cmp := true, std := false } := by kernel_rfl
theorem ty2 : tinfo Try.prog 2 = some { td := .int .i64, size := 1, bytes := 8, zero := [.int .i64 0], cmp := true, std := false } := by kernel_rfl
theorem ty3 : tinfo Try.prog 3 = some { td := .int .i64, size := 1, bytes := 8, zero := [.int .i64 0], cmp := true, std := false } := by kernel_rfl
theorem ty4 : tinfo Try.prog 4 = some { td := .bool, size := 1, bytes := 1, zero := [.bool false], cmp := true, std := false } := by kernel_rfl
theorem ty5 : tinfo Try.prog 5 = some { td := .int .u8, size := 1, bytes := 1, zero := [.int .u8 0], cmp := true, std := false } := by kernel_rfl
theorem ty6 : tinfo Try.prog 6 = some { td := .int .u8, size := 1, bytes := 1, zero := [.int .u8 0], cmp := true, std := false } := by kernel_rfl
theorem ty9 : tinfo Try.prog 9 = some { td := .str, size := 1, bytes := 16, zero := [.str ⟨#[]⟩], cmp := true, std := false } := by kernel_rfl
theorem ty10 : tinfo Try.prog 10 = some { td := .str, size := 1, bytes := 16, zero := [.str ⟨#[]⟩], cmp := true, std := false } := by kernel_rfl
theorem ty11 : tinfo Try.prog 11 = some { td := .str, size := 1, bytes := 16, zero := [.str ⟨#[]⟩], cmp := true, std := false } := by kernel_rfl
theorem ty12 : tinfo Try.prog 12 = some { td := .int .u64, size := 1, bytes := 8, zero := [.int .u64 0], cmp := true, std := false } := by kernel_rfl
theorem ty15 : tinfo Try.prog 15 = some { td := .ptr, size := 1, bytes := 8, zero := [.nptr], cmp := true, std := false } := by kernel_rfl
theorem ty16 : tinfo Try.prog 16 = some { td := .ptr, size := 1, bytes := 8, zero := [.nptr], cmp := true, std := false } := by kernel_rfl
theorem ty17 : tinfo Try.prog 17 = some { td := .ptr, size := 1, bytes := 8, zero := [.nptr], cmp := true, std := false } := by kernel_rfl
theorem ty20 : tinfo Try.prog 20 = some { td := .iface, size := 1, bytes := 16, zero := [.nilIface], cmp := true, std := false } := by kernel_rfl
theorem ty21 : tinfo Try.prog 21 = some { td := .int .i32, size := 1, bytes := 4, zero := [.int .i32 0], cmp := true, std := false } := by kernel_rfl
theorem ty22 : tinfo Try.prog 22 = some { td := .struct [(0, 3, false), (1, 3, false)], size := 2, bytes := 16, zero := [.int .i64 0, .int .i64 0], cmp := true, std := false } := by kernel_rfl
theorem ty23 : tinfo Try.prog 23 = some { td := .struct [(0, 3, false), (1, 3, false)], size := 2, bytes := 16, zero := [.int .i64 0, .int .i64 0], cmp := true, std := false } := by kernel_rfl
theorem ty24 : tinfo Try.prog 24 = some { td := .slice 3, size := 1, bytes := 24, zero := [.nil], cmp := true, std := false } := by kernel_rfl
theorem ty25 : tinfo Try.prog 25 = some { td := .func, size := 1, bytes := 8, zero := [.nilFunc], cmp := true, std := false } := by kernel_rfl
theorem ty26 : tinfo Try.prog 26 = some { td := .struct [(0, 3, false), (1, 3, false)], size := 2, bytes := 16, zero := [.int .i64 0, .int .i64 0], cmp := true, std := false } := by kernel_rfl
theorem ty27 : tinfo Try.prog 27 = some { td := .struct [(0, 3, false), (1, 3, false)], size := 2, bytes := 16, zero := [.int .i64 0, .int .i64 0], cmp := true, std := false } := by kernel_rfl
theorem ty28 : tinfo Try.prog 28 = some { td := .int .i64, size := 1, bytes := 8, zero := [.int .i64 0], cmp := true, std := false } := by kernel_rfl
theorem ty30 : tinfo Try.prog 30 = some { td := .func, size := 1, bytes := 8, zero := [.nilFunc], cmp := true, std := false } := by kernel_rfl
theorem ty32 : tinfo Try.prog 32 = some { td := .func, size := 1, bytes := 8, zero := [.nilFunc], cmp := true, std := false } := by kernel_rfl
theorem ty33 : tinfo Try.prog 33 = some { td := .func, size := 1, bytes := 8, zero := [.nilFunc], cmp := true, std := false } := by kernel_rfl
theorem ty34 : tinfo Try.prog 34 = some { td := .func, size := 1, bytes := 8, zero := [.nilFunc], cmp := true, std := false } := by kernel_rfl
theorem ty35 : tinfo Try.prog 35 = some { td := .func, size := 1, bytes := 8, zero := [.nilFunc], cmp := true, std := false } := by kernel_rfl
theorem ty36 : tinfo Try.prog 36 = some { td := .func, size := 1, bytes := 8, zero := [.nilFunc], cmp := true, std := false } := by kernel_rfl
theorem ty37 : tinfo Try.prog 37 = some { td := .func, size := 1, bytes := 8, zero := [.nilFunc], cmp := true, std := false } := by kernel_rfl
theorem ty38 : tinfo Try.prog 38 = some { td := .func, size := 1, bytes := 8, zero := [.nilFunc], cmp := true, std := false } := by kernel_rfl
theorem ty39 : tinfo Try.prog 39 = some { td := .func, size := 1, bytes := 8, zero := [.nilFunc], cmp := true, std := false } := by kernel_rfl
theorem ty40 : tinfo Try.prog 40 = some { td := .struct [(0, 23, false), (2, 24, false)], size := 3, bytes := 40, zero := [.int .i64 0, .int .i64 0, .nil], cmp := true, std := false } := by kernel_rfl
theorem ty41 : tinfo Try.prog 41 = some { td := .struct [(0, 23, false), (2, 24, false)], size := 3, bytes := 40, zero := [.int .i64 0, .int .i64 0, .nil], cmp := true, std := false } := by kernel_rfl
theorem ty42 : tinfo Try.prog 42 = some { td := .func, size := 1, bytes := 8, zero := [.nilFunc], cmp := true, std := false } := by kernel_rfl
theorem ty43 : tinfo Try.prog 43 = some { td := .func, size := 1, bytes := 8, zero := [.nilFunc], cmp := true, std := false } := by kernel_rfl
theorem ty44 : tinfo Try.prog 44 = some { td := .func, size := 1, bytes := 8, zero := [.nilFunc], cmp := true, std := false } := by kernel_rfl
theorem ty45 : tinfo Try.prog 45 = some { td := .func, size := 1, bytes := 8, zero := [.nilFunc], cmp := true, std := false } := by kernel_rfl
theorem ty46 : tinfo Try.prog 46 = some { td := .func, size := 1, bytes := 8, zero := [.nilFunc], cmp := true, std := false } := by kernel_rfl
theorem ty47 : tinfo Try.prog 47 = some { td := .func, size := 1, bytes := 8, zero := [.nilFunc], cmp := true, std := false } := by kernel_rfl
theorem ty48 : tinfo Try.prog 48 = some { td := .func, size := 1, bytes := 8, zero := [.nilFunc], cmp := true, std := false } := by kernel_rfl
theorem ty49 : tinfo Try.prog 49 = some { td := .func, size := 1, bytes := 8, zero := [.nilFunc], cmp := true, std := false } := by kernel_rfl
theorem ty50 : tinfo Try.prog 50 = some { td := .func, size := 1, bytes := 8, zero := [.nilFunc], cmp := true, std := false } := by kernel_rfl
theorem ty51 : tinfo Try.prog 51 = some { td := .func, size := 1, bytes := 8, zero := [.nilFunc], cmp := true, std := false } := by kernel_rfl
theorem ty52 : tinfo Try.prog 52 = some { td := .func, size := 1, bytes := 8, zero := [.nilFunc], cmp := true, std := false } := by kernel_rfl
theorem ty53 : tinfo Try.prog 53 = some { td := .func, size := 1, bytes := 8, zero := [.nilFunc], cmp := true, std := false } := by kernel_rfl
theorem ty54 : tinfo Try.prog 54 = some { td := .func, size := 1, bytes := 8, zero := [.nilFunc], cmp := true, std := false } := by kernel_rfl
theorem ty57 : tinfo Try.prog 57 = some { td := .arr 0 16, size := 0, bytes := 0, zero := [], cmp := true, std := false } := by kernel_rfl
theorem ty60 : tinfo Try.prog 60 = some { td := .func, size := 1, bytes := 8, zero := [.nilFunc], cmp := true, std := false } := by kernel_rfl
theorem ty61 : tinfo Try.prog 61 = some { td := .int .u32, size := 1, bytes := 4, zero := [.int .u32 0], cmp := true, std := false } := by kernel_rfl
theorem ty62 : tinfo Try.prog 62 = some { td := .int .u8, size := 1, bytes := 1, zero := [.int .u8 0], cmp := true, std := false } := by kernel_rfl
theorem ty63 : tinfo Try.prog 63 = some { td := .int .u8, size := 1, bytes := 1, zero := [.int .u8 0], cmp := true, std := false } := by kernel_rfl
theorem ty64 : tinfo Try.prog 64 = some { td := .func, size := 1, bytes := 8, zero := [.nilFunc], cmp := true, std := false } := by kernel_rfl
theorem ty65 : tinfo Try.prog 65 = some { td := .ptr, size := 1, bytes := 8, zero := [.nptr], cmp := true, std := false } := by kernel_rfl
theorem ty66 : tinfo Try.prog 66 = some { td := .int .i32, size := 1, bytes := 4, zero := [.int .i32 0], cmp := true, std := false } := by kernel_rfl
theorem ty67 : tinfo Try.prog 67 = some { td := .int .i32, size := 1, bytes := 4, zero := [.int .i32 0], cmp := true, std := false } := by kernel_rfl
attribute [go_sem] ty1 ty2 ty3 ty4 ty5 ty6 ty9 ty10 ty11 ty12 ty15 ty16 ty17 ty20 ty21 ty22 ty23 ty24 ty25 ty26 ty27 ty28 ty30 ty32 ty33 ty34 ty35 ty36 ty37 ty38 ty39 ty40 ty41 ty42 ty43 ty44 ty45 ty46 ty47 ty48 ty49 ty50 ty51 ty52 ty53 ty54 ty57 ty60 ty61 ty62 ty63 ty64 ty65 ty66 ty67
theorem fn3 : isFn Try.prog 3 = true := by kernel_rfl
theorem fn4 : isFn Try.prog 4 = true := by kernel_rfl
theorem fn5 : isFn Try.prog 5 = true := by kernel_rfl
theorem fn6 : isFn Try.prog 6 = true := by kernel_rfl
theorem fn7 : isFn Try.prog 7 = true := by kernel_rfl
theorem fn8 : isFn Try.prog 8 = true := by kernel_rfl
theorem fn9 : isFn Try.prog 9 = true := by kernel_rfl
theorem fn10 : isFn Try.prog 10 = true := by kernel_rfl
theorem fn11 : isFn Try.prog 11 = true := by kernel_rfl
theorem fn12 : isFn Try.prog 12 = true := by kernel_rfl
theorem fn13 : isFn Try.prog 13 = true := by kernel_rfl
theorem fn14 : isFn Try.prog 14 = true := by kernel_rfl
theorem fn15 : isFn Try.prog 15 = true := by kernel_rfl
theorem fn16 : isFn Try.prog 16 = true := by kernel_rfl
theorem fn17 : isFn Try.prog 17 = true := by kernel_rfl
theorem fn18 : isFn Try.prog 18 = true := by kernel_rfl
theorem fn19 : isFn Try.prog 19 = true := by kernel_rfl
theorem fn20 : isFn Try.prog 20 = true := by kernel_rfl
theorem fn21 : isFn Try.prog 21 = true := by kernel_rfl
theorem fn22 : isFn Try.prog 22 = true := by kernel_rfl
theorem fn23 : isFn Try.prog 23 = true := by kernel_rfl
theorem fn24 : isFn Try.prog 24 = true := by kernel_rfl
theorem fn25 : isFn Try.prog 25 = true := by kernel_rfl
theorem fn26 : isFn Try.prog 26 = true := by kernel_rfl
theorem fn27 : isFn Try.prog 27 = true := by kernel_rfl
theorem fn28 : isFn Try.prog 28 = true := by kernel_rfl
theorem fn29 : isFn Try.prog 29 = true := by kernel_rfl
theorem fn30 : isFn Try.prog 30 = true := by kernel_rfl
theorem fn31 : isFn Try.prog 31 = true := by kernel_rfl
attribute [go_sem] fn3 fn4 fn5 fn6 fn7 fn8 fn9 fn10 fn11 fn12 fn13 fn14 fn15 fn16 fn17 fn18 fn19 fn20 fn21 fn22 fn23 fn24 fn25 fn26 fn27 fn28 fn29 fn30 fn31
theorem mixed : Try.prog.follows .mixedOrders = true := by kernel_rfl
end Go.Proofs.Ytcdcgbgmpmaipaa

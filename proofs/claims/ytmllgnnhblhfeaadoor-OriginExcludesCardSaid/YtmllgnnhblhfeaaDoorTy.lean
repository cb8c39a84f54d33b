/-
  THE TYPES OF THE LOADED PROGRAM, in short: closed facts.
-/
import Derived.Test.YtmllgnnhblhfeaaDoorChecked
import Derived.Test.YtmllgnnhblhfeaaDoorAm3
import Derived.KernelRfl
namespace Go.Proofs.YtmllgnnhblhfeaaDoor
open Go.Am
theorem ty1 : tinfo Tryd.prog 1 = some { td := .func, size := 1, bytes := 8, zero := [.nilFunc], cmp := true, std := false } := by kernel_rfl
theorem ty2 : tinfo Tryd.prog 2 = some { td := .int .i64, size := 1, bytes := 8, zero := [.int .i64 0], cmp := true, std := false } := by kernel_rfl
theorem ty3 : tinfo Tryd.prog 3 = some { td := .int .i64, size := 1, bytes := 8, zero := [.int .i64 0], cmp := true, std := false } := by kernel_rfl
theorem ty4 : tinfo Tryd.prog 4 = some { td := .bool, size := 1, bytes := 1, zero := [.bool false], cmp := true, std := false } := by kernel_rfl
theorem ty5 : tinfo Tryd.prog 5 = some { td := .int .u8, size := 1, bytes := 1, zero := [.int .u8 0], cmp := true, std := false } := by kernel_rfl
theorem ty6 : tinfo Tryd.prog 6 = some { td := .int .u8, size := 1, bytes := 1, zero := [.int .u8 0], cmp := true, std := false } := by kernel_rfl
theorem ty9 : tinfo Tryd.prog 9 = some { td := .str, size := 1, bytes := 16, zero := [.str ⟨#[]⟩], cmp := true, std := false } := by kernel_rfl
theorem ty10 : tinfo Tryd.prog 10 = some { td := .str, size := 1, bytes := 16, zero := [.str ⟨#[]⟩], cmp := true, std := false } := by kernel_rfl
theorem ty11 : tinfo Tryd.prog 11 = some { td := .str, size := 1, bytes := 16, zero := [.str ⟨#[]⟩], cmp := true, std := false } := by kernel_rfl
theorem ty12 : tinfo Tryd.prog 12 = some { td := .int .u64, size := 1, bytes := 8, zero := [.int .u64 0], cmp := true, std := false } := by kernel_rfl
theorem ty15 : tinfo Tryd.prog 15 = some { td := .ptr, size := 1, bytes := 8, zero := [.nptr], cmp := true, std := false } := by kernel_rfl
theorem ty16 : tinfo Tryd.prog 16 = some { td := .ptr, size := 1, bytes := 8, zero := [.nptr], cmp := true, std := false } := by kernel_rfl
theorem ty17 : tinfo Tryd.prog 17 = some { td := .ptr, size := 1, bytes := 8, zero := [.nptr], cmp := true, std := false } := by kernel_rfl
theorem ty20 : tinfo Tryd.prog 20 = some { td := .iface, size := 1, bytes := 16, zero := [.nilIface], cmp := true, std := false } := by kernel_rfl
theorem ty21 : tinfo Tryd.prog 21 = some { td := .int .i32, size := 1, bytes := 4, zero := [.int .i32 0], cmp := true, std := false } := by kernel_rfl
theorem ty22 : tinfo Tryd.prog 22 = some { td := .slice 59, size := 1, bytes := 24, zero := [.nil], cmp := true, std := false } := by kernel_rfl
theorem ty23 : tinfo Tryd.prog 23 = some { td := .slice 61, size := 1, bytes := 24, zero := [.nil], cmp := true, std := false } := by kernel_rfl
theorem ty24 : tinfo Tryd.prog 24 = some { td := .struct [(0, 3, false), (1, 22, false), (2, 3, false), (3, 23, false)], size := 4, bytes := 64, zero := [.int .i64 0, .nil, .int .i64 0, .nil], cmp := true, std := false } := by kernel_rfl
theorem ty25 : tinfo Tryd.prog 25 = some { td := .struct [(0, 3, false), (1, 22, false), (2, 3, false), (3, 23, false)], size := 4, bytes := 64, zero := [.int .i64 0, .nil, .int .i64 0, .nil], cmp := true, std := false } := by kernel_rfl
theorem ty26 : tinfo Tryd.prog 26 = some { td := .func, size := 1, bytes := 8, zero := [.nilFunc], cmp := true, std := false } := by kernel_rfl
theorem ty27 : tinfo Tryd.prog 27 = some { td := .func, size := 1, bytes := 8, zero := [.nilFunc], cmp := true, std := false } := by kernel_rfl
theorem ty28 : tinfo Tryd.prog 28 = some { td := .slice 3, size := 1, bytes := 24, zero := [.nil], cmp := true, std := false } := by kernel_rfl
theorem ty29 : tinfo Tryd.prog 29 = some { td := .int .i64, size := 1, bytes := 8, zero := [.int .i64 0], cmp := true, std := false } := by kernel_rfl
theorem ty31 : tinfo Tryd.prog 31 = some { td := .func, size := 1, bytes := 8, zero := [.nilFunc], cmp := true, std := false } := by kernel_rfl
theorem ty33 : tinfo Tryd.prog 33 = some { td := .func, size := 1, bytes := 8, zero := [.nilFunc], cmp := true, std := false } := by kernel_rfl
theorem ty34 : tinfo Tryd.prog 34 = some { td := .func, size := 1, bytes := 8, zero := [.nilFunc], cmp := true, std := false } := by kernel_rfl
theorem ty35 : tinfo Tryd.prog 35 = some { td := .func, size := 1, bytes := 8, zero := [.nilFunc], cmp := true, std := false } := by kernel_rfl
theorem ty36 : tinfo Tryd.prog 36 = some { td := .func, size := 1, bytes := 8, zero := [.nilFunc], cmp := true, std := false } := by kernel_rfl
theorem ty37 : tinfo Tryd.prog 37 = some { td := .func, size := 1, bytes := 8, zero := [.nilFunc], cmp := true, std := false } := by kernel_rfl
theorem ty38 : tinfo Tryd.prog 38 = some { td := .func, size := 1, bytes := 8, zero := [.nilFunc], cmp := true, std := false } := by kernel_rfl
theorem ty39 : tinfo Tryd.prog 39 = some { td := .func, size := 1, bytes := 8, zero := [.nilFunc], cmp := true, std := false } := by kernel_rfl
theorem ty41 : tinfo Tryd.prog 41 = some { td := .func, size := 1, bytes := 8, zero := [.nilFunc], cmp := true, std := false } := by kernel_rfl
theorem ty42 : tinfo Tryd.prog 42 = some { td := .struct [(0, 4, false), (1, 4, false), (2, 4, false), (3, 41, false)], size := 4, bytes := 16, zero := [.bool false, .bool false, .bool false, .nilFunc], cmp := true, std := false } := by kernel_rfl
theorem ty43 : tinfo Tryd.prog 43 = some { td := .struct [(0, 4, false), (1, 4, false), (2, 4, false), (3, 41, false)], size := 4, bytes := 16, zero := [.bool false, .bool false, .bool false, .nilFunc], cmp := true, std := false } := by kernel_rfl
theorem ty44 : tinfo Tryd.prog 44 = some { td := .arr 7 43, size := 28, bytes := 112, zero := [.bool false, .bool false, .bool false, .nilFunc, .bool false, .bool false, .bool false, .nilFunc, .bool false, .bool false, .bool false, .nilFunc, .bool false, .bool false, .bool false, .nilFunc, .bool false, .bool false, .bool false, .nilFunc, .bool false, .bool false, .bool false, .nilFunc, .bool false, .bool false, .bool false, .nilFunc], cmp := true, std := false } := by kernel_rfl
theorem ty45 : tinfo Tryd.prog 45 = some { td := .slice 73, size := 1, bytes := 24, zero := [.nil], cmp := true, std := false } := by kernel_rfl
theorem ty46 : tinfo Tryd.prog 46 = some { td := .struct [(0, 25, false), (4, 44, false), (32, 45, false)], size := 33, bytes := 200, zero := [.int .i64 0, .nil, .int .i64 0, .nil, .bool false, .bool false, .bool false, .nilFunc, .bool false, .bool false, .bool false, .nilFunc, .bool false, .bool false, .bool false, .nilFunc, .bool false, .bool false, .bool false, .nilFunc, .bool false, .bool false, .bool false, .nilFunc, .bool false, .bool false, .bool false, .nilFunc, .bool false, .bool false, .bool false, .nilFunc, .nil], cmp := true, std := false } := by kernel_rfl
theorem ty47 : tinfo Tryd.prog 47 = some { td := .struct [(0, 25, false), (4, 44, false), (32, 45, false)], size := 33, bytes := 200, zero := [.int .i64 0, .nil, .int .i64 0, .nil, .bool false, .bool false, .bool false, .nilFunc, .bool false, .bool false, .bool false, .nilFunc, .bool false, .bool false, .bool false, .nilFunc, .bool false, .bool false, .bool false, .nilFunc, .bool false, .bool false, .bool false, .nilFunc, .bool false, .bool false, .bool false, .nilFunc, .bool false, .bool false, .bool false, .nilFunc, .nil], cmp := true, std := false } := by kernel_rfl
theorem ty48 : tinfo Tryd.prog 48 = some { td := .func, size := 1, bytes := 8, zero := [.nilFunc], cmp := true, std := false } := by kernel_rfl
theorem ty49 : tinfo Tryd.prog 49 = some { td := .func, size := 1, bytes := 8, zero := [.nilFunc], cmp := true, std := false } := by kernel_rfl
theorem ty50 : tinfo Tryd.prog 50 = some { td := .func, size := 1, bytes := 8, zero := [.nilFunc], cmp := true, std := false } := by kernel_rfl
theorem ty51 : tinfo Tryd.prog 51 = some { td := .func, size := 1, bytes := 8, zero := [.nilFunc], cmp := true, std := false } := by kernel_rfl
theorem ty52 : tinfo Tryd.prog 52 = some { td := .func, size := 1, bytes := 8, zero := [.nilFunc], cmp := true, std := false } := by kernel_rfl
theorem ty53 : tinfo Tryd.prog 53 = some { td := .func, size := 1, bytes := 8, zero := [.nilFunc], cmp := true, std := false } := by kernel_rfl
theorem ty54 : tinfo Tryd.prog 54 = some { td := .func, size := 1, bytes := 8, zero := [.nilFunc], cmp := true, std := false } := by kernel_rfl
theorem ty55 : tinfo Tryd.prog 55 = some { td := .func, size := 1, bytes := 8, zero := [.nilFunc], cmp := true, std := false } := by kernel_rfl
theorem ty56 : tinfo Tryd.prog 56 = some { td := .struct [(0, 3, false), (1, 3, false)], size := 2, bytes := 16, zero := [.int .i64 0, .int .i64 0], cmp := true, std := false } := by kernel_rfl
theorem ty57 : tinfo Tryd.prog 57 = some { td := .struct [(0, 3, false), (1, 3, false)], size := 2, bytes := 16, zero := [.int .i64 0, .int .i64 0], cmp := true, std := false } := by kernel_rfl
theorem ty58 : tinfo Tryd.prog 58 = some { td := .struct [(0, 3, false), (1, 3, false), (2, 57, false)], size := 4, bytes := 32, zero := [.int .i64 0, .int .i64 0, .int .i64 0, .int .i64 0], cmp := true, std := false } := by kernel_rfl
theorem ty59 : tinfo Tryd.prog 59 = some { td := .struct [(0, 3, false), (1, 3, false), (2, 57, false)], size := 4, bytes := 32, zero := [.int .i64 0, .int .i64 0, .int .i64 0, .int .i64 0], cmp := true, std := false } := by kernel_rfl
theorem ty60 : tinfo Tryd.prog 60 = some { td := .struct [(0, 3, false), (1, 5, false), (2, 3, false), (3, 3, false), (4, 57, false), (6, 3, false)], size := 7, bytes := 56, zero := [.int .i64 0, .int .u8 0, .int .i64 0, .int .i64 0, .int .i64 0, .int .i64 0, .int .i64 0], cmp := true, std := false } := by kernel_rfl
theorem ty61 : tinfo Tryd.prog 61 = some { td := .struct [(0, 3, false), (1, 5, false), (2, 3, false), (3, 3, false), (4, 57, false), (6, 3, false)], size := 7, bytes := 56, zero := [.int .i64 0, .int .u8 0, .int .i64 0, .int .i64 0, .int .i64 0, .int .i64 0, .int .i64 0], cmp := true, std := false } := by kernel_rfl
theorem ty62 : tinfo Tryd.prog 62 = some { td := .func, size := 1, bytes := 8, zero := [.nilFunc], cmp := true, std := false } := by kernel_rfl
theorem ty63 : tinfo Tryd.prog 63 = some { td := .func, size := 1, bytes := 8, zero := [.nilFunc], cmp := true, std := false } := by kernel_rfl
theorem ty64 : tinfo Tryd.prog 64 = some { td := .func, size := 1, bytes := 8, zero := [.nilFunc], cmp := true, std := false } := by kernel_rfl
theorem ty65 : tinfo Tryd.prog 65 = some { td := .func, size := 1, bytes := 8, zero := [.nilFunc], cmp := true, std := false } := by kernel_rfl
theorem ty66 : tinfo Tryd.prog 66 = some { td := .struct [(0, 3, false), (1, 4, false)], size := 2, bytes := 16, zero := [.int .i64 0, .bool false], cmp := true, std := false } := by kernel_rfl
theorem ty67 : tinfo Tryd.prog 67 = some { td := .struct [(0, 3, false), (1, 4, false)], size := 2, bytes := 16, zero := [.int .i64 0, .bool false], cmp := true, std := false } := by kernel_rfl
theorem ty68 : tinfo Tryd.prog 68 = some { td := .arr 6 67, size := 12, bytes := 96, zero := [.int .i64 0, .bool false, .int .i64 0, .bool false, .int .i64 0, .bool false, .int .i64 0, .bool false, .int .i64 0, .bool false, .int .i64 0, .bool false], cmp := true, std := false } := by kernel_rfl
theorem ty69 : tinfo Tryd.prog 69 = some { td := .arr 6 68, size := 72, bytes := 576, zero := [.int .i64 0, .bool false, .int .i64 0, .bool false, .int .i64 0, .bool false, .int .i64 0, .bool false, .int .i64 0, .bool false, .int .i64 0, .bool false, .int .i64 0, .bool false, .int .i64 0, .bool false, .int .i64 0, .bool false, .int .i64 0, .bool false, .int .i64 0, .bool false, .int .i64 0, .bool false, .int .i64 0, .bool false, .int .i64 0, .bool false, .int .i64 0, .bool false, .int .i64 0, .bool false, .int .i64 0, .bool false, .int .i64 0, .bool false, .int .i64 0, .bool false, .int .i64 0, .bool false, .int .i64 0, .bool false, .int .i64 0, .bool false, .int .i64 0, .bool false, .int .i64 0, .bool false, .int .i64 0, .bool false, .int .i64 0, .bool false, .int .i64 0, .bool false, .int .i64 0, .bool false, .int .i64 0, .bool false, .int .i64 0, .bool false, .int .i64 0, .bool false, .int .i64 0, .bool false, .int .i64 0, .bool false, .int .i64 0, .bool false, .int .i64 0, .bool false, .int .i64 0, .bool false], cmp := true, std := false } := by kernel_rfl
theorem ty70 : tinfo Tryd.prog 70 = some { td := .arr 6 68, size := 72, bytes := 576, zero := [.int .i64 0, .bool false, .int .i64 0, .bool false, .int .i64 0, .bool false, .int .i64 0, .bool false, .int .i64 0, .bool false, .int .i64 0, .bool false, .int .i64 0, .bool false, .int .i64 0, .bool false, .int .i64 0, .bool false, .int .i64 0, .bool false, .int .i64 0, .bool false, .int .i64 0, .bool false, .int .i64 0, .bool false, .int .i64 0, .bool false, .int .i64 0, .bool false, .int .i64 0, .bool false, .int .i64 0, .bool false, .int .i64 0, .bool false, .int .i64 0, .bool false, .int .i64 0, .bool false, .int .i64 0, .bool false, .int .i64 0, .bool false, .int .i64 0, .bool false, .int .i64 0, .bool false, .int .i64 0, .bool false, .int .i64 0, .bool false, .int .i64 0, .bool false, .int .i64 0, .bool false, .int .i64 0, .bool false, .int .i64 0, .bool false, .int .i64 0, .bool false, .int .i64 0, .bool false, .int .i64 0, .bool false, .int .i64 0, .bool false, .int .i64 0, .bool false, .int .i64 0, .bool false], cmp := true, std := false } := by kernel_rfl
theorem ty71 : tinfo Tryd.prog 71 = some { td := .func, size := 1, bytes := 8, zero := [.nilFunc], cmp := true, std := false } := by kernel_rfl
theorem ty72 : tinfo Tryd.prog 72 = some { td := .struct [(0, 28, false), (1, 70, false)], size := 73, bytes := 600, zero := [.nil, .int .i64 0, .bool false, .int .i64 0, .bool false, .int .i64 0, .bool false, .int .i64 0, .bool false, .int .i64 0, .bool false, .int .i64 0, .bool false, .int .i64 0, .bool false, .int .i64 0, .bool false, .int .i64 0, .bool false, .int .i64 0, .bool false, .int .i64 0, .bool false, .int .i64 0, .bool false, .int .i64 0, .bool false, .int .i64 0, .bool false, .int .i64 0, .bool false, .int .i64 0, .bool false, .int .i64 0, .bool false, .int .i64 0, .bool false, .int .i64 0, .bool false, .int .i64 0, .bool false, .int .i64 0, .bool false, .int .i64 0, .bool false, .int .i64 0, .bool false, .int .i64 0, .bool false, .int .i64 0, .bool false, .int .i64 0, .bool false, .int .i64 0, .bool false, .int .i64 0, .bool false, .int .i64 0, .bool false, .int .i64 0, .bool false, .int .i64 0, .bool false, .int .i64 0, .bool false, .int .i64 0, .bool false, .int .i64 0, .bool false, .int .i64 0, .bool false, .int .i64 0, .bool false], cmp := true, std := false } := by kernel_rfl
theorem ty73 : tinfo Tryd.prog 73 = some { td := .struct [(0, 28, false), (1, 70, false)], size := 73, bytes := 600, zero := [.nil, .int .i64 0, .bool false, .int .i64 0, .bool false, .int .i64 0, .bool false, .int .i64 0, .bool false, .int .i64 0, .bool false, .int .i64 0, .bool false, .int .i64 0, .bool false, .int .i64 0, .bool false, .int .i64 0, .bool false, .int .i64 0, .bool false, .int .i64 0, .bool false, .int .i64 0, .bool false, .int .i64 0, .bool false, .int .i64 0, .bool false, .int .i64 0, .bool false, .int .i64 0, .bool false, .int .i64 0, .bool false, .int .i64 0, .bool false, .int .i64 0, .bool false, .int .i64 0, .bool false, .int .i64 0, .bool false, .int .i64 0, .bool false, .int .i64 0, .bool false, .int .i64 0, .bool false, .int .i64 0, .bool false, .int .i64 0, .bool false, .int .i64 0, .bool false, .int .i64 0, .bool false, .int .i64 0, .bool false, .int .i64 0, .bool false, .int .i64 0, .bool false, .int .i64 0, .bool false, .int .i64 0, .bool false, .int .i64 0, .bool false, .int .i64 0, .bool false, .int .i64 0, .bool false], cmp := true, std := false } := by kernel_rfl
theorem ty74 : tinfo Tryd.prog 74 = some { td := .func, size := 1, bytes := 8, zero := [.nilFunc], cmp := true, std := false } := by kernel_rfl
theorem ty75 : tinfo Tryd.prog 75 = some { td := .func, size := 1, bytes := 8, zero := [.nilFunc], cmp := true, std := false } := by kernel_rfl
theorem ty76 : tinfo Tryd.prog 76 = some { td := .func, size := 1, bytes := 8, zero := [.nilFunc], cmp := true, std := false } := by kernel_rfl
theorem ty77 : tinfo Tryd.prog 77 = some { td := .func, size := 1, bytes := 8, zero := [.nilFunc], cmp := true, std := false } := by kernel_rfl
theorem ty78 : tinfo Tryd.prog 78 = some { td := .func, size := 1, bytes := 8, zero := [.nilFunc], cmp := true, std := false } := by kernel_rfl
theorem ty79 : tinfo Tryd.prog 79 = some { td := .func, size := 1, bytes := 8, zero := [.nilFunc], cmp := true, std := false } := by kernel_rfl
theorem ty80 : tinfo Tryd.prog 80 = some { td := .func, size := 1, bytes := 8, zero := [.nilFunc], cmp := true, std := false } := by kernel_rfl
theorem ty81 : tinfo Tryd.prog 81 = some { td := .func, size := 1, bytes := 8, zero := [.nilFunc], cmp := true, std := false } := by kernel_rfl
theorem ty82 : tinfo Tryd.prog 82 = some { td := .func, size := 1, bytes := 8, zero := [.nilFunc], cmp := true, std := false } := by kernel_rfl
theorem ty83 : tinfo Tryd.prog 83 = some { td := .func, size := 1, bytes := 8, zero := [.nilFunc], cmp := true, std := false } := by kernel_rfl
theorem ty84 : tinfo Tryd.prog 84 = some { td := .func, size := 1, bytes := 8, zero := [.nilFunc], cmp := true, std := false } := by kernel_rfl
theorem ty85 : tinfo Tryd.prog 85 = some { td := .func, size := 1, bytes := 8, zero := [.nilFunc], cmp := true, std := false } := by kernel_rfl
theorem ty86 : tinfo Tryd.prog 86 = some { td := .func, size := 1, bytes := 8, zero := [.nilFunc], cmp := true, std := false } := by kernel_rfl
theorem ty87 : tinfo Tryd.prog 87 = some { td := .func, size := 1, bytes := 8, zero := [.nilFunc], cmp := true, std := false } := by kernel_rfl
theorem ty88 : tinfo Tryd.prog 88 = some { td := .func, size := 1, bytes := 8, zero := [.nilFunc], cmp := true, std := false } := by kernel_rfl
theorem ty89 : tinfo Tryd.prog 89 = some { td := .func, size := 1, bytes := 8, zero := [.nilFunc], cmp := true, std := false } := by kernel_rfl
theorem ty90 : tinfo Tryd.prog 90 = some { td := .func, size := 1, bytes := 8, zero := [.nilFunc], cmp := true, std := false } := by kernel_rfl
theorem ty91 : tinfo Tryd.prog 91 = some { td := .func, size := 1, bytes := 8, zero := [.nilFunc], cmp := true, std := false } := by kernel_rfl
theorem ty93 : tinfo Tryd.prog 93 = some { td := .func, size := 1, bytes := 8, zero := [.nilFunc], cmp := true, std := false } := by kernel_rfl
theorem ty94 : tinfo Tryd.prog 94 = some { td := .func, size := 1, bytes := 8, zero := [.nilFunc], cmp := true, std := false } := by kernel_rfl
theorem ty95 : tinfo Tryd.prog 95 = some { td := .func, size := 1, bytes := 8, zero := [.nilFunc], cmp := true, std := false } := by kernel_rfl
theorem ty96 : tinfo Tryd.prog 96 = some { td := .func, size := 1, bytes := 8, zero := [.nilFunc], cmp := true, std := false } := by kernel_rfl
theorem ty97 : tinfo Tryd.prog 97 = some { td := .func, size := 1, bytes := 8, zero := [.nilFunc], cmp := true, std := false } := by kernel_rfl
theorem ty98 : tinfo Tryd.prog 98 = some { td := .func, size := 1, bytes := 8, zero := [.nilFunc], cmp := true, std := false } := by kernel_rfl
theorem ty99 : tinfo Tryd.prog 99 = some { td := .func, size := 1, bytes := 8, zero := [.nilFunc], cmp := true, std := false } := by kernel_rfl
theorem ty100 : tinfo Tryd.prog 100 = some { td := .func, size := 1, bytes := 8, zero := [.nilFunc], cmp := true, std := false } := by kernel_rfl
theorem ty101 : tinfo Tryd.prog 101 = some { td := .func, size := 1, bytes := 8, zero := [.nilFunc], cmp := true, std := false } := by kernel_rfl
theorem ty102 : tinfo Tryd.prog 102 = some { td := .func, size := 1, bytes := 8, zero := [.nilFunc], cmp := true, std := false } := by kernel_rfl
theorem ty103 : tinfo Tryd.prog 103 = some { td := .func, size := 1, bytes := 8, zero := [.nilFunc], cmp := true, std := false } := by kernel_rfl
theorem ty104 : tinfo Tryd.prog 104 = some { td := .func, size := 1, bytes := 8, zero := [.nilFunc], cmp := true, std := false } := by kernel_rfl
theorem ty105 : tinfo Tryd.prog 105 = some { td := .func, size := 1, bytes := 8, zero := [.nilFunc], cmp := true, std := false } := by kernel_rfl
theorem ty106 : tinfo Tryd.prog 106 = some { td := .struct [(0, 28, false), (1, 57, false)], size := 3, bytes := 40, zero := [.nil, .int .i64 0, .int .i64 0], cmp := true, std := false } := by kernel_rfl
theorem ty107 : tinfo Tryd.prog 107 = some { td := .struct [(0, 28, false), (1, 57, false)], size := 3, bytes := 40, zero := [.nil, .int .i64 0, .int .i64 0], cmp := true, std := false } := by kernel_rfl
theorem ty108 : tinfo Tryd.prog 108 = some { td := .func, size := 1, bytes := 8, zero := [.nilFunc], cmp := true, std := false } := by kernel_rfl
theorem ty109 : tinfo Tryd.prog 109 = some { td := .func, size := 1, bytes := 8, zero := [.nilFunc], cmp := true, std := false } := by kernel_rfl
theorem ty110 : tinfo Tryd.prog 110 = some { td := .int .u64, size := 1, bytes := 8, zero := [.int .u64 0], cmp := true, std := false } := by kernel_rfl
theorem ty111 : tinfo Tryd.prog 111 = some { td := .func, size := 1, bytes := 8, zero := [.nilFunc], cmp := true, std := false } := by kernel_rfl
theorem ty112 : tinfo Tryd.prog 112 = some { td := .func, size := 1, bytes := 8, zero := [.nilFunc], cmp := true, std := false } := by kernel_rfl
theorem ty113 : tinfo Tryd.prog 113 = some { td := .int .i64, size := 1, bytes := 8, zero := [.int .i64 0], cmp := true, std := false } := by kernel_rfl
theorem ty115 : tinfo Tryd.prog 115 = some { td := .func, size := 1, bytes := 8, zero := [.nilFunc], cmp := true, std := false } := by kernel_rfl
theorem ty116 : tinfo Tryd.prog 116 = some { td := .func, size := 1, bytes := 8, zero := [.nilFunc], cmp := true, std := false } := by kernel_rfl
theorem ty117 : tinfo Tryd.prog 117 = some { td := .func, size := 1, bytes := 8, zero := [.nilFunc], cmp := true, std := false } := by kernel_rfl
theorem ty118 : tinfo Tryd.prog 118 = some { td := .func, size := 1, bytes := 8, zero := [.nilFunc], cmp := true, std := false } := by kernel_rfl
theorem ty119 : tinfo Tryd.prog 119 = some { td := .func, size := 1, bytes := 8, zero := [.nilFunc], cmp := true, std := false } := by kernel_rfl
theorem ty120 : tinfo Tryd.prog 120 = some { td := .int .u32, size := 1, bytes := 4, zero := [.int .u32 0], cmp := true, std := false } := by kernel_rfl
theorem ty121 : tinfo Tryd.prog 121 = some { td := .func, size := 1, bytes := 8, zero := [.nilFunc], cmp := true, std := false } := by kernel_rfl
theorem ty122 : tinfo Tryd.prog 122 = some { td := .int .u64, size := 1, bytes := 8, zero := [.int .u64 0], cmp := true, std := false } := by kernel_rfl
theorem ty123 : tinfo Tryd.prog 123 = some { td := .int .u64, size := 1, bytes := 8, zero := [.int .u64 0], cmp := true, std := false } := by kernel_rfl
theorem ty124 : tinfo Tryd.prog 124 = some { td := .func, size := 1, bytes := 8, zero := [.nilFunc], cmp := true, std := false } := by kernel_rfl
theorem ty125 : tinfo Tryd.prog 125 = some { td := .func, size := 1, bytes := 8, zero := [.nilFunc], cmp := true, std := false } := by kernel_rfl
theorem ty126 : tinfo Tryd.prog 126 = some { td := .func, size := 1, bytes := 8, zero := [.nilFunc], cmp := true, std := false } := by kernel_rfl
theorem ty127 : tinfo Tryd.prog 127 = some { td := .ptr, size := 1, bytes := 8, zero := [.nptr], cmp := true, std := false } := by kernel_rfl
theorem ty128 : tinfo Tryd.prog 128 = some { td := .func, size := 1, bytes := 8, zero := [.nilFunc], cmp := true, std := false } := by kernel_rfl
theorem ty129 : tinfo Tryd.prog 129 = some { td := .ptr, size := 1, bytes := 8, zero := [.nptr], cmp := true, std := false } := by kernel_rfl
theorem ty131 : tinfo Tryd.prog 131 = some { td := .func, size := 1, bytes := 8, zero := [.nilFunc], cmp := true, std := false } := by kernel_rfl
theorem ty132 : tinfo Tryd.prog 132 = some { td := .func, size := 1, bytes := 8, zero := [.nilFunc], cmp := true, std := false } := by kernel_rfl
theorem ty135 : tinfo Tryd.prog 135 = some { td := .arr 0 16, size := 0, bytes := 0, zero := [], cmp := true, std := false } := by kernel_rfl
theorem ty138 : tinfo Tryd.prog 138 = some { td := .int .u8, size := 1, bytes := 1, zero := [.int .u8 0], cmp := true, std := false } := by kernel_rfl
theorem ty139 : tinfo Tryd.prog 139 = some { td := .int .u8, size := 1, bytes := 1, zero := [.int .u8 0], cmp := true, std := false } := by kernel_rfl
theorem ty140 : tinfo Tryd.prog 140 = some { td := .func, size := 1, bytes := 8, zero := [.nilFunc], cmp := true, std := false } := by kernel_rfl
theorem ty141 : tinfo Tryd.prog 141 = some { td := .ptr, size := 1, bytes := 8, zero := [.nptr], cmp := true, std := false } := by kernel_rfl
theorem ty142 : tinfo Tryd.prog 142 = some { td := .int .i32, size := 1, bytes := 4, zero := [.int .i32 0], cmp := true, std := false } := by kernel_rfl
theorem ty143 : tinfo Tryd.prog 143 = some { td := .int .i32, size := 1, bytes := 4, zero := [.int .i32 0], cmp := true, std := false } := by kernel_rfl
theorem mixed : Tryd.prog.follows .mixedOrders = true := by kernel_rfl
end Go.Proofs.YtmllgnnhblhfeaaDoor

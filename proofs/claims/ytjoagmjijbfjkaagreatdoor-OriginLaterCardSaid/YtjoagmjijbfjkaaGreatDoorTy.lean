/-
  THE TYPES OF THE LOADED PROGRAM, in short: closed facts.
-/
import Derived.Test.YtjoagmjijbfjkaaGreatDoorChecked
import Derived.Test.YtjoagmjijbfjkaaGreatDoorAm3
import Derived.KernelRfl
namespace Go.Proofs.YtjoagmjijbfjkaaGreatDoor
open Go.Am
theorem ty1 : tinfo Tryz.prog 1 = some { td := .func, size := 1, bytes := 8, zero := [.nilFunc], cmp := true, std := false } := by kernel_rfl
theorem ty2 : tinfo Tryz.prog 2 = some { td := .int .i64, size := 1, bytes := 8, zero := [.int .i64 0], cmp := true, std := false } := by kernel_rfl
theorem ty3 : tinfo Tryz.prog 3 = some { td := .int .i64, size := 1, bytes := 8, zero := [.int .i64 0], cmp := true, std := false } := by kernel_rfl
theorem ty4 : tinfo Tryz.prog 4 = some { td := .bool, size := 1, bytes := 1, zero := [.bool false], cmp := true, std := false } := by kernel_rfl
theorem ty5 : tinfo Tryz.prog 5 = some { td := .int .u8, size := 1, bytes := 1, zero := [.int .u8 0], cmp := true, std := false } := by kernel_rfl
theorem ty6 : tinfo Tryz.prog 6 = some { td := .int .u8, size := 1, bytes := 1, zero := [.int .u8 0], cmp := true, std := false } := by kernel_rfl
theorem ty9 : tinfo Tryz.prog 9 = some { td := .str, size := 1, bytes := 16, zero := [.str ⟨#[]⟩], cmp := true, std := false } := by kernel_rfl
theorem ty10 : tinfo Tryz.prog 10 = some { td := .str, size := 1, bytes := 16, zero := [.str ⟨#[]⟩], cmp := true, std := false } := by kernel_rfl
theorem ty11 : tinfo Tryz.prog 11 = some { td := .str, size := 1, bytes := 16, zero := [.str ⟨#[]⟩], cmp := true, std := false } := by kernel_rfl
theorem ty12 : tinfo Tryz.prog 12 = some { td := .int .u64, size := 1, bytes := 8, zero := [.int .u64 0], cmp := true, std := false } := by kernel_rfl
theorem ty15 : tinfo Tryz.prog 15 = some { td := .ptr, size := 1, bytes := 8, zero := [.nptr], cmp := true, std := false } := by kernel_rfl
theorem ty16 : tinfo Tryz.prog 16 = some { td := .ptr, size := 1, bytes := 8, zero := [.nptr], cmp := true, std := false } := by kernel_rfl
theorem ty17 : tinfo Tryz.prog 17 = some { td := .ptr, size := 1, bytes := 8, zero := [.nptr], cmp := true, std := false } := by kernel_rfl
theorem ty20 : tinfo Tryz.prog 20 = some { td := .iface, size := 1, bytes := 16, zero := [.nilIface], cmp := true, std := false } := by kernel_rfl
theorem ty21 : tinfo Tryz.prog 21 = some { td := .int .i32, size := 1, bytes := 4, zero := [.int .i32 0], cmp := true, std := false } := by kernel_rfl
theorem ty22 : tinfo Tryz.prog 22 = some { td := .func, size := 1, bytes := 8, zero := [.nilFunc], cmp := true, std := false } := by kernel_rfl
theorem ty23 : tinfo Tryz.prog 23 = some { td := .func, size := 1, bytes := 8, zero := [.nilFunc], cmp := true, std := false } := by kernel_rfl
theorem ty24 : tinfo Tryz.prog 24 = some { td := .slice 3, size := 1, bytes := 24, zero := [.nil], cmp := true, std := false } := by kernel_rfl
theorem ty25 : tinfo Tryz.prog 25 = some { td := .int .i64, size := 1, bytes := 8, zero := [.int .i64 0], cmp := true, std := false } := by kernel_rfl
theorem ty27 : tinfo Tryz.prog 27 = some { td := .func, size := 1, bytes := 8, zero := [.nilFunc], cmp := true, std := false } := by kernel_rfl
theorem ty28 : tinfo Tryz.prog 28 = some { td := .slice 38, size := 1, bytes := 24, zero := [.nil], cmp := true, std := false } := by kernel_rfl
theorem ty29 : tinfo Tryz.prog 29 = some { td := .slice 46, size := 1, bytes := 24, zero := [.nil], cmp := true, std := false } := by kernel_rfl
theorem ty30 : tinfo Tryz.prog 30 = some { td := .struct [(0, 3, false), (1, 28, false), (2, 3, false), (3, 29, false)], size := 4, bytes := 64, zero := [.int .i64 0, .nil, .int .i64 0, .nil], cmp := true, std := false } := by kernel_rfl
theorem ty31 : tinfo Tryz.prog 31 = some { td := .struct [(0, 3, false), (1, 28, false), (2, 3, false), (3, 29, false)], size := 4, bytes := 64, zero := [.int .i64 0, .nil, .int .i64 0, .nil], cmp := true, std := false } := by kernel_rfl
theorem ty32 : tinfo Tryz.prog 32 = some { td := .func, size := 1, bytes := 8, zero := [.nilFunc], cmp := true, std := false } := by kernel_rfl
theorem ty33 : tinfo Tryz.prog 33 = some { td := .func, size := 1, bytes := 8, zero := [.nilFunc], cmp := true, std := false } := by kernel_rfl
theorem ty34 : tinfo Tryz.prog 34 = some { td := .func, size := 1, bytes := 8, zero := [.nilFunc], cmp := true, std := false } := by kernel_rfl
theorem ty35 : tinfo Tryz.prog 35 = some { td := .struct [(0, 3, false), (1, 3, false)], size := 2, bytes := 16, zero := [.int .i64 0, .int .i64 0], cmp := true, std := false } := by kernel_rfl
theorem ty36 : tinfo Tryz.prog 36 = some { td := .struct [(0, 3, false), (1, 3, false)], size := 2, bytes := 16, zero := [.int .i64 0, .int .i64 0], cmp := true, std := false } := by kernel_rfl
theorem ty37 : tinfo Tryz.prog 37 = some { td := .struct [(0, 3, false), (1, 3, false), (2, 36, false)], size := 4, bytes := 32, zero := [.int .i64 0, .int .i64 0, .int .i64 0, .int .i64 0], cmp := true, std := false } := by kernel_rfl
theorem ty38 : tinfo Tryz.prog 38 = some { td := .struct [(0, 3, false), (1, 3, false), (2, 36, false)], size := 4, bytes := 32, zero := [.int .i64 0, .int .i64 0, .int .i64 0, .int .i64 0], cmp := true, std := false } := by kernel_rfl
theorem ty39 : tinfo Tryz.prog 39 = some { td := .slice 36, size := 1, bytes := 24, zero := [.nil], cmp := true, std := false } := by kernel_rfl
theorem ty41 : tinfo Tryz.prog 41 = some { td := .func, size := 1, bytes := 8, zero := [.nilFunc], cmp := true, std := false } := by kernel_rfl
theorem ty42 : tinfo Tryz.prog 42 = some { td := .func, size := 1, bytes := 8, zero := [.nilFunc], cmp := true, std := false } := by kernel_rfl
theorem ty44 : tinfo Tryz.prog 44 = some { td := .func, size := 1, bytes := 8, zero := [.nilFunc], cmp := true, std := false } := by kernel_rfl
theorem ty45 : tinfo Tryz.prog 45 = some { td := .struct [(0, 3, false), (1, 5, false), (2, 3, false), (3, 3, false), (4, 36, false), (6, 3, false)], size := 7, bytes := 56, zero := [.int .i64 0, .int .u8 0, .int .i64 0, .int .i64 0, .int .i64 0, .int .i64 0, .int .i64 0], cmp := true, std := false } := by kernel_rfl
theorem ty46 : tinfo Tryz.prog 46 = some { td := .struct [(0, 3, false), (1, 5, false), (2, 3, false), (3, 3, false), (4, 36, false), (6, 3, false)], size := 7, bytes := 56, zero := [.int .i64 0, .int .u8 0, .int .i64 0, .int .i64 0, .int .i64 0, .int .i64 0, .int .i64 0], cmp := true, std := false } := by kernel_rfl
theorem ty47 : tinfo Tryz.prog 47 = some { td := .func, size := 1, bytes := 8, zero := [.nilFunc], cmp := true, std := false } := by kernel_rfl
theorem ty48 : tinfo Tryz.prog 48 = some { td := .func, size := 1, bytes := 8, zero := [.nilFunc], cmp := true, std := false } := by kernel_rfl
theorem ty49 : tinfo Tryz.prog 49 = some { td := .func, size := 1, bytes := 8, zero := [.nilFunc], cmp := true, std := false } := by kernel_rfl
theorem ty50 : tinfo Tryz.prog 50 = some { td := .func, size := 1, bytes := 8, zero := [.nilFunc], cmp := true, std := false } := by kernel_rfl
theorem ty52 : tinfo Tryz.prog 52 = some { td := .func, size := 1, bytes := 8, zero := [.nilFunc], cmp := true, std := false } := by kernel_rfl
theorem ty54 : tinfo Tryz.prog 54 = some { td := .func, size := 1, bytes := 8, zero := [.nilFunc], cmp := true, std := false } := by kernel_rfl
theorem ty56 : tinfo Tryz.prog 56 = some { td := .func, size := 1, bytes := 8, zero := [.nilFunc], cmp := true, std := false } := by kernel_rfl
theorem ty57 : tinfo Tryz.prog 57 = some { td := .func, size := 1, bytes := 8, zero := [.nilFunc], cmp := true, std := false } := by kernel_rfl
theorem ty58 : tinfo Tryz.prog 58 = some { td := .func, size := 1, bytes := 8, zero := [.nilFunc], cmp := true, std := false } := by kernel_rfl
theorem ty59 : tinfo Tryz.prog 59 = some { td := .func, size := 1, bytes := 8, zero := [.nilFunc], cmp := true, std := false } := by kernel_rfl
theorem ty60 : tinfo Tryz.prog 60 = some { td := .func, size := 1, bytes := 8, zero := [.nilFunc], cmp := true, std := false } := by kernel_rfl
theorem ty61 : tinfo Tryz.prog 61 = some { td := .func, size := 1, bytes := 8, zero := [.nilFunc], cmp := true, std := false } := by kernel_rfl
theorem ty62 : tinfo Tryz.prog 62 = some { td := .func, size := 1, bytes := 8, zero := [.nilFunc], cmp := true, std := false } := by kernel_rfl
theorem ty63 : tinfo Tryz.prog 63 = some { td := .func, size := 1, bytes := 8, zero := [.nilFunc], cmp := true, std := false } := by kernel_rfl
theorem ty64 : tinfo Tryz.prog 64 = some { td := .func, size := 1, bytes := 8, zero := [.nilFunc], cmp := true, std := false } := by kernel_rfl
theorem ty65 : tinfo Tryz.prog 65 = some { td := .int .u16, size := 1, bytes := 2, zero := [.int .u16 0], cmp := true, std := false } := by kernel_rfl
theorem ty66 : tinfo Tryz.prog 66 = some { td := .slice 106, size := 1, bytes := 24, zero := [.nil], cmp := true, std := false } := by kernel_rfl
theorem ty67 : tinfo Tryz.prog 67 = some { td := .func, size := 1, bytes := 8, zero := [.nilFunc], cmp := true, std := false } := by kernel_rfl
theorem ty68 : tinfo Tryz.prog 68 = some { td := .func, size := 1, bytes := 8, zero := [.nilFunc], cmp := true, std := false } := by kernel_rfl
theorem ty69 : tinfo Tryz.prog 69 = some { td := .func, size := 1, bytes := 8, zero := [.nilFunc], cmp := true, std := false } := by kernel_rfl
theorem ty70 : tinfo Tryz.prog 70 = some { td := .func, size := 1, bytes := 8, zero := [.nilFunc], cmp := true, std := false } := by kernel_rfl
theorem ty71 : tinfo Tryz.prog 71 = some { td := .func, size := 1, bytes := 8, zero := [.nilFunc], cmp := true, std := false } := by kernel_rfl
theorem ty73 : tinfo Tryz.prog 73 = some { td := .func, size := 1, bytes := 8, zero := [.nilFunc], cmp := true, std := false } := by kernel_rfl
theorem ty74 : tinfo Tryz.prog 74 = some { td := .func, size := 1, bytes := 8, zero := [.nilFunc], cmp := true, std := false } := by kernel_rfl
theorem ty76 : tinfo Tryz.prog 76 = some { td := .func, size := 1, bytes := 8, zero := [.nilFunc], cmp := true, std := false } := by kernel_rfl
theorem ty77 : tinfo Tryz.prog 77 = some { td := .func, size := 1, bytes := 8, zero := [.nilFunc], cmp := true, std := false } := by kernel_rfl
theorem ty78 : tinfo Tryz.prog 78 = some { td := .func, size := 1, bytes := 8, zero := [.nilFunc], cmp := true, std := false } := by kernel_rfl
theorem ty79 : tinfo Tryz.prog 79 = some { td := .ptr, size := 1, bytes := 8, zero := [.nptr], cmp := true, std := false } := by kernel_rfl
theorem ty80 : tinfo Tryz.prog 80 = some { td := .ptr, size := 1, bytes := 8, zero := [.nptr], cmp := true, std := false } := by kernel_rfl
theorem ty81 : tinfo Tryz.prog 81 = some { td := .func, size := 1, bytes := 8, zero := [.nilFunc], cmp := true, std := false } := by kernel_rfl
theorem ty82 : tinfo Tryz.prog 82 = some { td := .func, size := 1, bytes := 8, zero := [.nilFunc], cmp := true, std := false } := by kernel_rfl
theorem ty83 : tinfo Tryz.prog 83 = some { td := .func, size := 1, bytes := 8, zero := [.nilFunc], cmp := true, std := false } := by kernel_rfl
theorem ty84 : tinfo Tryz.prog 84 = some { td := .func, size := 1, bytes := 8, zero := [.nilFunc], cmp := true, std := false } := by kernel_rfl
theorem ty86 : tinfo Tryz.prog 86 = some { td := .func, size := 1, bytes := 8, zero := [.nilFunc], cmp := true, std := false } := by kernel_rfl
theorem ty87 : tinfo Tryz.prog 87 = some { td := .struct [(0, 4, false), (1, 4, false), (2, 4, false), (3, 86, false)], size := 4, bytes := 16, zero := [.bool false, .bool false, .bool false, .nilFunc], cmp := true, std := false } := by kernel_rfl
theorem ty88 : tinfo Tryz.prog 88 = some { td := .struct [(0, 4, false), (1, 4, false), (2, 4, false), (3, 86, false)], size := 4, bytes := 16, zero := [.bool false, .bool false, .bool false, .nilFunc], cmp := true, std := false } := by kernel_rfl
theorem ty89 : tinfo Tryz.prog 89 = some { td := .arr 7 88, size := 28, bytes := 112, zero := [.bool false, .bool false, .bool false, .nilFunc, .bool false, .bool false, .bool false, .nilFunc, .bool false, .bool false, .bool false, .nilFunc, .bool false, .bool false, .bool false, .nilFunc, .bool false, .bool false, .bool false, .nilFunc, .bool false, .bool false, .bool false, .nilFunc, .bool false, .bool false, .bool false, .nilFunc], cmp := true, std := false } := by kernel_rfl
theorem ty90 : tinfo Tryz.prog 90 = some { td := .slice 119, size := 1, bytes := 24, zero := [.nil], cmp := true, std := false } := by kernel_rfl
theorem ty91 : tinfo Tryz.prog 91 = some { td := .struct [(0, 31, false), (4, 89, false), (32, 90, false)], size := 33, bytes := 200, zero := [.int .i64 0, .nil, .int .i64 0, .nil, .bool false, .bool false, .bool false, .nilFunc, .bool false, .bool false, .bool false, .nilFunc, .bool false, .bool false, .bool false, .nilFunc, .bool false, .bool false, .bool false, .nilFunc, .bool false, .bool false, .bool false, .nilFunc, .bool false, .bool false, .bool false, .nilFunc, .bool false, .bool false, .bool false, .nilFunc, .nil], cmp := true, std := false } := by kernel_rfl
theorem ty92 : tinfo Tryz.prog 92 = some { td := .struct [(0, 31, false), (4, 89, false), (32, 90, false)], size := 33, bytes := 200, zero := [.int .i64 0, .nil, .int .i64 0, .nil, .bool false, .bool false, .bool false, .nilFunc, .bool false, .bool false, .bool false, .nilFunc, .bool false, .bool false, .bool false, .nilFunc, .bool false, .bool false, .bool false, .nilFunc, .bool false, .bool false, .bool false, .nilFunc, .bool false, .bool false, .bool false, .nilFunc, .bool false, .bool false, .bool false, .nilFunc, .nil], cmp := true, std := false } := by kernel_rfl
theorem ty93 : tinfo Tryz.prog 93 = some { td := .func, size := 1, bytes := 8, zero := [.nilFunc], cmp := true, std := false } := by kernel_rfl
theorem ty94 : tinfo Tryz.prog 94 = some { td := .func, size := 1, bytes := 8, zero := [.nilFunc], cmp := true, std := false } := by kernel_rfl
theorem ty95 : tinfo Tryz.prog 95 = some { td := .func, size := 1, bytes := 8, zero := [.nilFunc], cmp := true, std := false } := by kernel_rfl
theorem ty96 : tinfo Tryz.prog 96 = some { td := .map 3 39, size := 1, bytes := 8, zero := [.nmap], cmp := true, std := false } := by kernel_rfl
theorem ty97 : tinfo Tryz.prog 97 = some { td := .func, size := 1, bytes := 8, zero := [.nilFunc], cmp := true, std := false } := by kernel_rfl
theorem ty98 : tinfo Tryz.prog 98 = some { td := .func, size := 1, bytes := 8, zero := [.nilFunc], cmp := true, std := false } := by kernel_rfl
theorem ty99 : tinfo Tryz.prog 99 = some { td := .slice 4, size := 1, bytes := 24, zero := [.nil], cmp := true, std := false } := by kernel_rfl
theorem ty100 : tinfo Tryz.prog 100 = some { td := .func, size := 1, bytes := 8, zero := [.nilFunc], cmp := true, std := false } := by kernel_rfl
theorem ty101 : tinfo Tryz.prog 101 = some { td := .func, size := 1, bytes := 8, zero := [.nilFunc], cmp := true, std := false } := by kernel_rfl
theorem ty102 : tinfo Tryz.prog 102 = some { td := .func, size := 1, bytes := 8, zero := [.nilFunc], cmp := true, std := false } := by kernel_rfl
theorem ty103 : tinfo Tryz.prog 103 = some { td := .func, size := 1, bytes := 8, zero := [.nilFunc], cmp := true, std := false } := by kernel_rfl
theorem ty104 : tinfo Tryz.prog 104 = some { td := .func, size := 1, bytes := 8, zero := [.nilFunc], cmp := true, std := false } := by kernel_rfl
theorem ty105 : tinfo Tryz.prog 105 = some { td := .func, size := 1, bytes := 8, zero := [.nilFunc], cmp := true, std := false } := by kernel_rfl
theorem ty106 : tinfo Tryz.prog 106 = some { td := .int .u32, size := 1, bytes := 4, zero := [.int .u32 0], cmp := true, std := false } := by kernel_rfl
theorem ty107 : tinfo Tryz.prog 107 = some { td := .func, size := 1, bytes := 8, zero := [.nilFunc], cmp := true, std := false } := by kernel_rfl
theorem ty108 : tinfo Tryz.prog 108 = some { td := .func, size := 1, bytes := 8, zero := [.nilFunc], cmp := true, std := false } := by kernel_rfl
theorem ty109 : tinfo Tryz.prog 109 = some { td := .func, size := 1, bytes := 8, zero := [.nilFunc], cmp := true, std := false } := by kernel_rfl
theorem ty110 : tinfo Tryz.prog 110 = some { td := .func, size := 1, bytes := 8, zero := [.nilFunc], cmp := true, std := false } := by kernel_rfl
theorem ty111 : tinfo Tryz.prog 111 = some { td := .func, size := 1, bytes := 8, zero := [.nilFunc], cmp := true, std := false } := by kernel_rfl
theorem ty112 : tinfo Tryz.prog 112 = some { td := .struct [(0, 3, false), (1, 4, false)], size := 2, bytes := 16, zero := [.int .i64 0, .bool false], cmp := true, std := false } := by kernel_rfl
theorem ty113 : tinfo Tryz.prog 113 = some { td := .struct [(0, 3, false), (1, 4, false)], size := 2, bytes := 16, zero := [.int .i64 0, .bool false], cmp := true, std := false } := by kernel_rfl
theorem ty114 : tinfo Tryz.prog 114 = some { td := .arr 6 113, size := 12, bytes := 96, zero := [.int .i64 0, .bool false, .int .i64 0, .bool false, .int .i64 0, .bool false, .int .i64 0, .bool false, .int .i64 0, .bool false, .int .i64 0, .bool false], cmp := true, std := false } := by kernel_rfl
theorem ty115 : tinfo Tryz.prog 115 = some { td := .arr 6 114, size := 72, bytes := 576, zero := [.int .i64 0, .bool false, .int .i64 0, .bool false, .int .i64 0, .bool false, .int .i64 0, .bool false, .int .i64 0, .bool false, .int .i64 0, .bool false, .int .i64 0, .bool false, .int .i64 0, .bool false, .int .i64 0, .bool false, .int .i64 0, .bool false, .int .i64 0, .bool false, .int .i64 0, .bool false, .int .i64 0, .bool false, .int .i64 0, .bool false, .int .i64 0, .bool false, .int .i64 0, .bool false, .int .i64 0, .bool false, .int .i64 0, .bool false, .int .i64 0, .bool false, .int .i64 0, .bool false, .int .i64 0, .bool false, .int .i64 0, .bool false, .int .i64 0, .bool false, .int .i64 0, .bool false, .int .i64 0, .bool false, .int .i64 0, .bool false, .int .i64 0, .bool false, .int .i64 0, .bool false, .int .i64 0, .bool false, .int .i64 0, .bool false, .int .i64 0, .bool false, .int .i64 0, .bool false, .int .i64 0, .bool false, .int .i64 0, .bool false, .int .i64 0, .bool false, .int .i64 0, .bool false], cmp := true, std := false } := by kernel_rfl
theorem ty116 : tinfo Tryz.prog 116 = some { td := .arr 6 114, size := 72, bytes := 576, zero := [.int .i64 0, .bool false, .int .i64 0, .bool false, .int .i64 0, .bool false, .int .i64 0, .bool false, .int .i64 0, .bool false, .int .i64 0, .bool false, .int .i64 0, .bool false, .int .i64 0, .bool false, .int .i64 0, .bool false, .int .i64 0, .bool false, .int .i64 0, .bool false, .int .i64 0, .bool false, .int .i64 0, .bool false, .int .i64 0, .bool false, .int .i64 0, .bool false, .int .i64 0, .bool false, .int .i64 0, .bool false, .int .i64 0, .bool false, .int .i64 0, .bool false, .int .i64 0, .bool false, .int .i64 0, .bool false, .int .i64 0, .bool false, .int .i64 0, .bool false, .int .i64 0, .bool false, .int .i64 0, .bool false, .int .i64 0, .bool false, .int .i64 0, .bool false, .int .i64 0, .bool false, .int .i64 0, .bool false, .int .i64 0, .bool false, .int .i64 0, .bool false, .int .i64 0, .bool false, .int .i64 0, .bool false, .int .i64 0, .bool false, .int .i64 0, .bool false, .int .i64 0, .bool false], cmp := true, std := false } := by kernel_rfl
theorem ty117 : tinfo Tryz.prog 117 = some { td := .func, size := 1, bytes := 8, zero := [.nilFunc], cmp := true, std := false } := by kernel_rfl
theorem ty118 : tinfo Tryz.prog 118 = some { td := .struct [(0, 24, false), (1, 116, false)], size := 73, bytes := 600, zero := [.nil, .int .i64 0, .bool false, .int .i64 0, .bool false, .int .i64 0, .bool false, .int .i64 0, .bool false, .int .i64 0, .bool false, .int .i64 0, .bool false, .int .i64 0, .bool false, .int .i64 0, .bool false, .int .i64 0, .bool false, .int .i64 0, .bool false, .int .i64 0, .bool false, .int .i64 0, .bool false, .int .i64 0, .bool false, .int .i64 0, .bool false, .int .i64 0, .bool false, .int .i64 0, .bool false, .int .i64 0, .bool false, .int .i64 0, .bool false, .int .i64 0, .bool false, .int .i64 0, .bool false, .int .i64 0, .bool false, .int .i64 0, .bool false, .int .i64 0, .bool false, .int .i64 0, .bool false, .int .i64 0, .bool false, .int .i64 0, .bool false, .int .i64 0, .bool false, .int .i64 0, .bool false, .int .i64 0, .bool false, .int .i64 0, .bool false, .int .i64 0, .bool false, .int .i64 0, .bool false, .int .i64 0, .bool false, .int .i64 0, .bool false, .int .i64 0, .bool false, .int .i64 0, .bool false], cmp := true, std := false } := by kernel_rfl
theorem ty119 : tinfo Tryz.prog 119 = some { td := .struct [(0, 24, false), (1, 116, false)], size := 73, bytes := 600, zero := [.nil, .int .i64 0, .bool false, .int .i64 0, .bool false, .int .i64 0, .bool false, .int .i64 0, .bool false, .int .i64 0, .bool false, .int .i64 0, .bool false, .int .i64 0, .bool false, .int .i64 0, .bool false, .int .i64 0, .bool false, .int .i64 0, .bool false, .int .i64 0, .bool false, .int .i64 0, .bool false, .int .i64 0, .bool false, .int .i64 0, .bool false, .int .i64 0, .bool false, .int .i64 0, .bool false, .int .i64 0, .bool false, .int .i64 0, .bool false, .int .i64 0, .bool false, .int .i64 0, .bool false, .int .i64 0, .bool false, .int .i64 0, .bool false, .int .i64 0, .bool false, .int .i64 0, .bool false, .int .i64 0, .bool false, .int .i64 0, .bool false, .int .i64 0, .bool false, .int .i64 0, .bool false, .int .i64 0, .bool false, .int .i64 0, .bool false, .int .i64 0, .bool false, .int .i64 0, .bool false, .int .i64 0, .bool false, .int .i64 0, .bool false, .int .i64 0, .bool false, .int .i64 0, .bool false], cmp := true, std := false } := by kernel_rfl
theorem ty120 : tinfo Tryz.prog 120 = some { td := .struct [(0, 24, false), (1, 36, false)], size := 3, bytes := 40, zero := [.nil, .int .i64 0, .int .i64 0], cmp := true, std := false } := by kernel_rfl
theorem ty121 : tinfo Tryz.prog 121 = some { td := .struct [(0, 24, false), (1, 36, false)], size := 3, bytes := 40, zero := [.nil, .int .i64 0, .int .i64 0], cmp := true, std := false } := by kernel_rfl
theorem ty123 : tinfo Tryz.prog 123 = some { td := .func, size := 1, bytes := 8, zero := [.nilFunc], cmp := true, std := false } := by kernel_rfl
theorem ty124 : tinfo Tryz.prog 124 = some { td := .func, size := 1, bytes := 8, zero := [.nilFunc], cmp := true, std := false } := by kernel_rfl
theorem ty125 : tinfo Tryz.prog 125 = some { td := .func, size := 1, bytes := 8, zero := [.nilFunc], cmp := true, std := false } := by kernel_rfl
theorem ty126 : tinfo Tryz.prog 126 = some { td := .func, size := 1, bytes := 8, zero := [.nilFunc], cmp := true, std := false } := by kernel_rfl
theorem ty127 : tinfo Tryz.prog 127 = some { td := .func, size := 1, bytes := 8, zero := [.nilFunc], cmp := true, std := false } := by kernel_rfl
theorem ty128 : tinfo Tryz.prog 128 = some { td := .func, size := 1, bytes := 8, zero := [.nilFunc], cmp := true, std := false } := by kernel_rfl
theorem ty129 : tinfo Tryz.prog 129 = some { td := .func, size := 1, bytes := 8, zero := [.nilFunc], cmp := true, std := false } := by kernel_rfl
theorem ty130 : tinfo Tryz.prog 130 = some { td := .func, size := 1, bytes := 8, zero := [.nilFunc], cmp := true, std := false } := by kernel_rfl
theorem ty131 : tinfo Tryz.prog 131 = some { td := .func, size := 1, bytes := 8, zero := [.nilFunc], cmp := true, std := false } := by kernel_rfl
theorem ty132 : tinfo Tryz.prog 132 = some { td := .func, size := 1, bytes := 8, zero := [.nilFunc], cmp := true, std := false } := by kernel_rfl
theorem ty133 : tinfo Tryz.prog 133 = some { td := .func, size := 1, bytes := 8, zero := [.nilFunc], cmp := true, std := false } := by kernel_rfl
theorem ty134 : tinfo Tryz.prog 134 = some { td := .func, size := 1, bytes := 8, zero := [.nilFunc], cmp := true, std := false } := by kernel_rfl
theorem ty135 : tinfo Tryz.prog 135 = some { td := .func, size := 1, bytes := 8, zero := [.nilFunc], cmp := true, std := false } := by kernel_rfl
theorem ty136 : tinfo Tryz.prog 136 = some { td := .func, size := 1, bytes := 8, zero := [.nilFunc], cmp := true, std := false } := by kernel_rfl
theorem ty137 : tinfo Tryz.prog 137 = some { td := .func, size := 1, bytes := 8, zero := [.nilFunc], cmp := true, std := false } := by kernel_rfl
theorem ty138 : tinfo Tryz.prog 138 = some { td := .func, size := 1, bytes := 8, zero := [.nilFunc], cmp := true, std := false } := by kernel_rfl
theorem ty139 : tinfo Tryz.prog 139 = some { td := .func, size := 1, bytes := 8, zero := [.nilFunc], cmp := true, std := false } := by kernel_rfl
theorem ty140 : tinfo Tryz.prog 140 = some { td := .func, size := 1, bytes := 8, zero := [.nilFunc], cmp := true, std := false } := by kernel_rfl
theorem ty141 : tinfo Tryz.prog 141 = some { td := .func, size := 1, bytes := 8, zero := [.nilFunc], cmp := true, std := false } := by kernel_rfl
theorem ty142 : tinfo Tryz.prog 142 = some { td := .func, size := 1, bytes := 8, zero := [.nilFunc], cmp := true, std := false } := by kernel_rfl
theorem ty143 : tinfo Tryz.prog 143 = some { td := .func, size := 1, bytes := 8, zero := [.nilFunc], cmp := true, std := false } := by kernel_rfl
theorem ty144 : tinfo Tryz.prog 144 = some { td := .func, size := 1, bytes := 8, zero := [.nilFunc], cmp := true, std := false } := by kernel_rfl
theorem ty145 : tinfo Tryz.prog 145 = some { td := .func, size := 1, bytes := 8, zero := [.nilFunc], cmp := true, std := false } := by kernel_rfl
theorem ty146 : tinfo Tryz.prog 146 = some { td := .func, size := 1, bytes := 8, zero := [.nilFunc], cmp := true, std := false } := by kernel_rfl
theorem ty147 : tinfo Tryz.prog 147 = some { td := .func, size := 1, bytes := 8, zero := [.nilFunc], cmp := true, std := false } := by kernel_rfl
theorem ty148 : tinfo Tryz.prog 148 = some { td := .func, size := 1, bytes := 8, zero := [.nilFunc], cmp := true, std := false } := by kernel_rfl
theorem ty149 : tinfo Tryz.prog 149 = some { td := .func, size := 1, bytes := 8, zero := [.nilFunc], cmp := true, std := false } := by kernel_rfl
theorem ty150 : tinfo Tryz.prog 150 = some { td := .func, size := 1, bytes := 8, zero := [.nilFunc], cmp := true, std := false } := by kernel_rfl
theorem ty151 : tinfo Tryz.prog 151 = some { td := .func, size := 1, bytes := 8, zero := [.nilFunc], cmp := true, std := false } := by kernel_rfl
theorem ty152 : tinfo Tryz.prog 152 = some { td := .func, size := 1, bytes := 8, zero := [.nilFunc], cmp := true, std := false } := by kernel_rfl
theorem ty153 : tinfo Tryz.prog 153 = some { td := .func, size := 1, bytes := 8, zero := [.nilFunc], cmp := true, std := false } := by kernel_rfl
theorem ty154 : tinfo Tryz.prog 154 = some { td := .func, size := 1, bytes := 8, zero := [.nilFunc], cmp := true, std := false } := by kernel_rfl
theorem ty156 : tinfo Tryz.prog 156 = some { td := .func, size := 1, bytes := 8, zero := [.nilFunc], cmp := true, std := false } := by kernel_rfl
theorem ty157 : tinfo Tryz.prog 157 = some { td := .func, size := 1, bytes := 8, zero := [.nilFunc], cmp := true, std := false } := by kernel_rfl
theorem ty158 : tinfo Tryz.prog 158 = some { td := .func, size := 1, bytes := 8, zero := [.nilFunc], cmp := true, std := false } := by kernel_rfl
theorem ty159 : tinfo Tryz.prog 159 = some { td := .func, size := 1, bytes := 8, zero := [.nilFunc], cmp := true, std := false } := by kernel_rfl
theorem ty160 : tinfo Tryz.prog 160 = some { td := .func, size := 1, bytes := 8, zero := [.nilFunc], cmp := true, std := false } := by kernel_rfl
theorem ty161 : tinfo Tryz.prog 161 = some { td := .func, size := 1, bytes := 8, zero := [.nilFunc], cmp := true, std := false } := by kernel_rfl
theorem ty162 : tinfo Tryz.prog 162 = some { td := .int .u64, size := 1, bytes := 8, zero := [.int .u64 0], cmp := true, std := false } := by kernel_rfl
theorem ty163 : tinfo Tryz.prog 163 = some { td := .func, size := 1, bytes := 8, zero := [.nilFunc], cmp := true, std := false } := by kernel_rfl
theorem ty164 : tinfo Tryz.prog 164 = some { td := .func, size := 1, bytes := 8, zero := [.nilFunc], cmp := true, std := false } := by kernel_rfl
theorem ty165 : tinfo Tryz.prog 165 = some { td := .func, size := 1, bytes := 8, zero := [.nilFunc], cmp := true, std := false } := by kernel_rfl
theorem ty166 : tinfo Tryz.prog 166 = some { td := .func, size := 1, bytes := 8, zero := [.nilFunc], cmp := true, std := false } := by kernel_rfl
theorem ty167 : tinfo Tryz.prog 167 = some { td := .func, size := 1, bytes := 8, zero := [.nilFunc], cmp := true, std := false } := by kernel_rfl
theorem ty168 : tinfo Tryz.prog 168 = some { td := .int .i64, size := 1, bytes := 8, zero := [.int .i64 0], cmp := true, std := false } := by kernel_rfl
theorem ty170 : tinfo Tryz.prog 170 = some { td := .func, size := 1, bytes := 8, zero := [.nilFunc], cmp := true, std := false } := by kernel_rfl
theorem ty171 : tinfo Tryz.prog 171 = some { td := .func, size := 1, bytes := 8, zero := [.nilFunc], cmp := true, std := false } := by kernel_rfl
theorem ty172 : tinfo Tryz.prog 172 = some { td := .func, size := 1, bytes := 8, zero := [.nilFunc], cmp := true, std := false } := by kernel_rfl
theorem ty173 : tinfo Tryz.prog 173 = some { td := .func, size := 1, bytes := 8, zero := [.nilFunc], cmp := true, std := false } := by kernel_rfl
theorem ty174 : tinfo Tryz.prog 174 = some { td := .func, size := 1, bytes := 8, zero := [.nilFunc], cmp := true, std := false } := by kernel_rfl
theorem ty175 : tinfo Tryz.prog 175 = some { td := .func, size := 1, bytes := 8, zero := [.nilFunc], cmp := true, std := false } := by kernel_rfl
theorem ty176 : tinfo Tryz.prog 176 = some { td := .int .u64, size := 1, bytes := 8, zero := [.int .u64 0], cmp := true, std := false } := by kernel_rfl
theorem ty177 : tinfo Tryz.prog 177 = some { td := .func, size := 1, bytes := 8, zero := [.nilFunc], cmp := true, std := false } := by kernel_rfl
theorem ty178 : tinfo Tryz.prog 178 = some { td := .func, size := 1, bytes := 8, zero := [.nilFunc], cmp := true, std := false } := by kernel_rfl
theorem ty179 : tinfo Tryz.prog 179 = some { td := .func, size := 1, bytes := 8, zero := [.nilFunc], cmp := true, std := false } := by kernel_rfl
theorem ty180 : tinfo Tryz.prog 180 = some { td := .func, size := 1, bytes := 8, zero := [.nilFunc], cmp := true, std := false } := by kernel_rfl
theorem ty181 : tinfo Tryz.prog 181 = some { td := .int .u64, size := 1, bytes := 8, zero := [.int .u64 0], cmp := true, std := false } := by kernel_rfl
theorem ty182 : tinfo Tryz.prog 182 = some { td := .func, size := 1, bytes := 8, zero := [.nilFunc], cmp := true, std := false } := by kernel_rfl
theorem ty183 : tinfo Tryz.prog 183 = some { td := .func, size := 1, bytes := 8, zero := [.nilFunc], cmp := true, std := false } := by kernel_rfl
theorem ty184 : tinfo Tryz.prog 184 = some { td := .func, size := 1, bytes := 8, zero := [.nilFunc], cmp := true, std := false } := by kernel_rfl
theorem ty185 : tinfo Tryz.prog 185 = some { td := .ptr, size := 1, bytes := 8, zero := [.nptr], cmp := true, std := false } := by kernel_rfl
theorem ty186 : tinfo Tryz.prog 186 = some { td := .func, size := 1, bytes := 8, zero := [.nilFunc], cmp := true, std := false } := by kernel_rfl
theorem ty187 : tinfo Tryz.prog 187 = some { td := .func, size := 1, bytes := 8, zero := [.nilFunc], cmp := true, std := false } := by kernel_rfl
theorem ty188 : tinfo Tryz.prog 188 = some { td := .func, size := 1, bytes := 8, zero := [.nilFunc], cmp := true, std := false } := by kernel_rfl
theorem ty189 : tinfo Tryz.prog 189 = some { td := .func, size := 1, bytes := 8, zero := [.nilFunc], cmp := true, std := false } := by kernel_rfl
theorem ty190 : tinfo Tryz.prog 190 = some { td := .func, size := 1, bytes := 8, zero := [.nilFunc], cmp := true, std := false } := by kernel_rfl
theorem ty191 : tinfo Tryz.prog 191 = some { td := .func, size := 1, bytes := 8, zero := [.nilFunc], cmp := true, std := false } := by kernel_rfl
theorem ty192 : tinfo Tryz.prog 192 = some { td := .func, size := 1, bytes := 8, zero := [.nilFunc], cmp := true, std := false } := by kernel_rfl
theorem ty193 : tinfo Tryz.prog 193 = some { td := .func, size := 1, bytes := 8, zero := [.nilFunc], cmp := true, std := false } := by kernel_rfl
theorem ty194 : tinfo Tryz.prog 194 = some { td := .func, size := 1, bytes := 8, zero := [.nilFunc], cmp := true, std := false } := by kernel_rfl
theorem ty195 : tinfo Tryz.prog 195 = some { td := .func, size := 1, bytes := 8, zero := [.nilFunc], cmp := true, std := false } := by kernel_rfl
theorem ty196 : tinfo Tryz.prog 196 = some { td := .func, size := 1, bytes := 8, zero := [.nilFunc], cmp := true, std := false } := by kernel_rfl
theorem ty197 : tinfo Tryz.prog 197 = some { td := .ptr, size := 1, bytes := 8, zero := [.nptr], cmp := true, std := false } := by kernel_rfl
theorem ty198 : tinfo Tryz.prog 198 = some { td := .func, size := 1, bytes := 8, zero := [.nilFunc], cmp := true, std := false } := by kernel_rfl
theorem ty199 : tinfo Tryz.prog 199 = some { td := .func, size := 1, bytes := 8, zero := [.nilFunc], cmp := true, std := false } := by kernel_rfl
theorem ty200 : tinfo Tryz.prog 200 = some { td := .func, size := 1, bytes := 8, zero := [.nilFunc], cmp := true, std := false } := by kernel_rfl
theorem ty201 : tinfo Tryz.prog 201 = some { td := .func, size := 1, bytes := 8, zero := [.nilFunc], cmp := true, std := false } := by kernel_rfl
theorem ty202 : tinfo Tryz.prog 202 = some { td := .func, size := 1, bytes := 8, zero := [.nilFunc], cmp := true, std := false } := by kernel_rfl
theorem ty203 : tinfo Tryz.prog 203 = some { td := .func, size := 1, bytes := 8, zero := [.nilFunc], cmp := true, std := false } := by kernel_rfl
theorem ty204 : tinfo Tryz.prog 204 = some { td := .func, size := 1, bytes := 8, zero := [.nilFunc], cmp := true, std := false } := by kernel_rfl
theorem ty205 : tinfo Tryz.prog 205 = some { td := .func, size := 1, bytes := 8, zero := [.nilFunc], cmp := true, std := false } := by kernel_rfl
theorem ty208 : tinfo Tryz.prog 208 = some { td := .arr 0 16, size := 0, bytes := 0, zero := [], cmp := true, std := false } := by kernel_rfl
theorem ty211 : tinfo Tryz.prog 211 = some { td := .int .u8, size := 1, bytes := 1, zero := [.int .u8 0], cmp := true, std := false } := by kernel_rfl
theorem ty212 : tinfo Tryz.prog 212 = some { td := .int .u8, size := 1, bytes := 1, zero := [.int .u8 0], cmp := true, std := false } := by kernel_rfl
theorem ty213 : tinfo Tryz.prog 213 = some { td := .func, size := 1, bytes := 8, zero := [.nilFunc], cmp := true, std := false } := by kernel_rfl
theorem ty214 : tinfo Tryz.prog 214 = some { td := .ptr, size := 1, bytes := 8, zero := [.nptr], cmp := true, std := false } := by kernel_rfl
theorem ty215 : tinfo Tryz.prog 215 = some { td := .int .i32, size := 1, bytes := 4, zero := [.int .i32 0], cmp := true, std := false } := by kernel_rfl
theorem ty216 : tinfo Tryz.prog 216 = some { td := .int .i32, size := 1, bytes := 4, zero := [.int .i32 0], cmp := true, std := false } := by kernel_rfl
theorem mixed : Tryz.prog.follows .mixedOrders = true := by kernel_rfl
end Go.Proofs.YtjoagmjijbfjkaaGreatDoor

/-
  THE TYPES OF THE LOADED PROGRAM, in short: closed facts.
-/
import Derived.Test.YtmdhgkfjlphliaaGreatChecked
import Derived.Test.YtmdhgkfjlphliaaGreatAm3
import Derived.KernelRfl
namespace Go.Proofs.YtmdhgkfjlphliaaGreat
open Go.Am
theorem ty1 : tinfo Tryz.prog 1 = some { td := .func, size := 1, bytes := 8, zero := [.nilFunc], cmp := true, std := false } := by kernel_rfl
theorem ty2 : tinfo Tryz.prog 2 = some { td := .int .i64, size := 1, bytes := 8, zero := [.int .i64 0], cmp := true, std := false } := by kernel_rfl
theorem ty3 : tinfo Tryz.prog 3 = some { td := .int .i64, size := 1, bytes := 8, zero := [.int .i64 0], cmp := true, std := false } := by kernel_rfl
theorem ty4 : tinfo Tryz.prog 4 = some { td := .bool, size := 1, bytes := 1, zero := [.bool false], cmp := true, std := false } := by kernel_rfl
theorem ty5 : tinfo Tryz.prog 5 = some { td := .int .u8, size := 1, bytes := 1, zero := [.int .u8 0], cmp := true, std := false } := by kernel_rfl
theorem ty6 : tinfo Tryz.prog 6 = some { td := .int .u8, size := 1, bytes := 1, zero := [.int .u8 0], cmp := true, std := false } := by kernel_rfl
theorem ty9 : tinfo Tryz.prog 9 = some { td := .str, size := 1, bytes := 16, zero := [.str ⟨#[]⟩], cmp := true, std := false } := by kernel_rfl
theorem ty10 : tinfo Tryz.prog 10 = some { td := .str, size := 1, bytes := 16, zero := [.str ⟨#[]⟩], cmp := true, std := false } := by kernel_rfl
theorem ty11 : tinfo Tryz.prog 11 = some { td := .str, size := 1, bytes := 16, zero := [.str ⟨#[]⟩], cmp := true, std := false } := by kernel_rfl
theorem ty12 : tinfo Tryz.prog 12 = some { td := .int .u64, size := 1, bytes := 8, zero := [.int .u64 0], cmp := true, std := false } := by kernel_rfl
theorem ty15 : tinfo Tryz.prog 15 = some { td := .ptr, size := 1, bytes := 8, zero := [.nptr], cmp := true, std := false } := by kernel_rfl
theorem ty16 : tinfo Tryz.prog 16 = some { td := .ptr, size := 1, bytes := 8, zero := [.nptr], cmp := true, std := false } := by kernel_rfl
theorem ty17 : tinfo Tryz.prog 17 = some { td := .ptr, size := 1, bytes := 8, zero := [.nptr], cmp := true, std := false } := by kernel_rfl
theorem ty20 : tinfo Tryz.prog 20 = some { td := .iface, size := 1, bytes := 16, zero := [.nilIface], cmp := true, std := false } := by kernel_rfl
theorem ty21 : tinfo Tryz.prog 21 = some { td := .int .i32, size := 1, bytes := 4, zero := [.int .i32 0], cmp := true, std := false } := by kernel_rfl
theorem ty22 : tinfo Tryz.prog 22 = some { td := .slice 30, size := 1, bytes := 24, zero := [.nil], cmp := true, std := false } := by kernel_rfl
theorem ty23 : tinfo Tryz.prog 23 = some { td := .slice 42, size := 1, bytes := 24, zero := [.nil], cmp := true, std := false } := by kernel_rfl
theorem ty24 : tinfo Tryz.prog 24 = some { td := .int .u32, size := 1, bytes := 4, zero := [.int .u32 0], cmp := true, std := false } := by kernel_rfl
theorem ty25 : tinfo Tryz.prog 25 = some { td := .func, size := 1, bytes := 8, zero := [.nilFunc], cmp := true, std := false } := by kernel_rfl
theorem ty26 : tinfo Tryz.prog 26 = some { td := .func, size := 1, bytes := 8, zero := [.nilFunc], cmp := true, std := false } := by kernel_rfl
theorem ty27 : tinfo Tryz.prog 27 = some { td := .func, size := 1, bytes := 8, zero := [.nilFunc], cmp := true, std := false } := by kernel_rfl
theorem ty28 : tinfo Tryz.prog 28 = some { td := .slice 31, size := 1, bytes := 24, zero := [.nil], cmp := true, std := false } := by kernel_rfl
theorem ty29 : tinfo Tryz.prog 29 = some { td := .struct [(0, 3, false), (1, 5, false), (2, 28, false)], size := 3, bytes := 40, zero := [.int .i64 0, .int .u8 0, .nil], cmp := true, std := false } := by kernel_rfl
theorem ty30 : tinfo Tryz.prog 30 = some { td := .struct [(0, 3, false), (1, 5, false), (2, 28, false)], size := 3, bytes := 40, zero := [.int .i64 0, .int .u8 0, .nil], cmp := true, std := false } := by kernel_rfl
theorem ty31 : tinfo Tryz.prog 31 = some { td := .slice 3, size := 1, bytes := 24, zero := [.nil], cmp := true, std := false } := by kernel_rfl
theorem ty32 : tinfo Tryz.prog 32 = some { td := .int .i64, size := 1, bytes := 8, zero := [.int .i64 0], cmp := true, std := false } := by kernel_rfl
theorem ty34 : tinfo Tryz.prog 34 = some { td := .func, size := 1, bytes := 8, zero := [.nilFunc], cmp := true, std := false } := by kernel_rfl
theorem ty35 : tinfo Tryz.prog 35 = some { td := .func, size := 1, bytes := 8, zero := [.nilFunc], cmp := true, std := false } := by kernel_rfl
theorem ty36 : tinfo Tryz.prog 36 = some { td := .map 3 4, size := 1, bytes := 8, zero := [.nmap], cmp := true, std := false } := by kernel_rfl
theorem ty38 : tinfo Tryz.prog 38 = some { td := .func, size := 1, bytes := 8, zero := [.nilFunc], cmp := true, std := false } := by kernel_rfl
theorem ty40 : tinfo Tryz.prog 40 = some { td := .func, size := 1, bytes := 8, zero := [.nilFunc], cmp := true, std := false } := by kernel_rfl
theorem ty41 : tinfo Tryz.prog 41 = some { td := .struct [(0, 3, false), (1, 3, false), (2, 3, false), (3, 5, false)], size := 4, bytes := 32, zero := [.int .i64 0, .int .i64 0, .int .i64 0, .int .u8 0], cmp := true, std := false } := by kernel_rfl
theorem ty42 : tinfo Tryz.prog 42 = some { td := .struct [(0, 3, false), (1, 3, false), (2, 3, false), (3, 5, false)], size := 4, bytes := 32, zero := [.int .i64 0, .int .i64 0, .int .i64 0, .int .u8 0], cmp := true, std := false } := by kernel_rfl
theorem ty43 : tinfo Tryz.prog 43 = some { td := .func, size := 1, bytes := 8, zero := [.nilFunc], cmp := true, std := false } := by kernel_rfl
theorem ty44 : tinfo Tryz.prog 44 = some { td := .slice 4, size := 1, bytes := 24, zero := [.nil], cmp := true, std := false } := by kernel_rfl
theorem ty45 : tinfo Tryz.prog 45 = some { td := .func, size := 1, bytes := 8, zero := [.nilFunc], cmp := true, std := false } := by kernel_rfl
theorem ty46 : tinfo Tryz.prog 46 = some { td := .int .u16, size := 1, bytes := 2, zero := [.int .u16 0], cmp := true, std := false } := by kernel_rfl
theorem ty47 : tinfo Tryz.prog 47 = some { td := .func, size := 1, bytes := 8, zero := [.nilFunc], cmp := true, std := false } := by kernel_rfl
theorem ty48 : tinfo Tryz.prog 48 = some { td := .func, size := 1, bytes := 8, zero := [.nilFunc], cmp := true, std := false } := by kernel_rfl
theorem ty49 : tinfo Tryz.prog 49 = some { td := .slice 52, size := 1, bytes := 24, zero := [.nil], cmp := true, std := false } := by kernel_rfl
theorem ty50 : tinfo Tryz.prog 50 = some { td := .func, size := 1, bytes := 8, zero := [.nilFunc], cmp := true, std := false } := by kernel_rfl
theorem ty51 : tinfo Tryz.prog 51 = some { td := .struct [(0, 3, false), (1, 3, false), (2, 5, false), (3, 3, false)], size := 4, bytes := 32, zero := [.int .i64 0, .int .i64 0, .int .u8 0, .int .i64 0], cmp := true, std := false } := by kernel_rfl
theorem ty52 : tinfo Tryz.prog 52 = some { td := .struct [(0, 3, false), (1, 3, false), (2, 5, false), (3, 3, false)], size := 4, bytes := 32, zero := [.int .i64 0, .int .i64 0, .int .u8 0, .int .i64 0], cmp := true, std := false } := by kernel_rfl
theorem ty53 : tinfo Tryz.prog 53 = some { td := .struct [(0, 3, false), (1, 3, false), (2, 3, false), (3, 3, false), (4, 3, false), (5, 3, false)], size := 6, bytes := 48, zero := [.int .i64 0, .int .i64 0, .int .i64 0, .int .i64 0, .int .i64 0, .int .i64 0], cmp := true, std := false } := by kernel_rfl
theorem ty54 : tinfo Tryz.prog 54 = some { td := .struct [(0, 3, false), (1, 3, false), (2, 3, false), (3, 3, false), (4, 3, false), (5, 3, false)], size := 6, bytes := 48, zero := [.int .i64 0, .int .i64 0, .int .i64 0, .int .i64 0, .int .i64 0, .int .i64 0], cmp := true, std := false } := by kernel_rfl
theorem ty56 : tinfo Tryz.prog 56 = some { td := .func, size := 1, bytes := 8, zero := [.nilFunc], cmp := true, std := false } := by kernel_rfl
theorem ty57 : tinfo Tryz.prog 57 = some { td := .func, size := 1, bytes := 8, zero := [.nilFunc], cmp := true, std := false } := by kernel_rfl
theorem ty58 : tinfo Tryz.prog 58 = some { td := .func, size := 1, bytes := 8, zero := [.nilFunc], cmp := true, std := false } := by kernel_rfl
theorem ty60 : tinfo Tryz.prog 60 = some { td := .func, size := 1, bytes := 8, zero := [.nilFunc], cmp := true, std := false } := by kernel_rfl
theorem ty61 : tinfo Tryz.prog 61 = some { td := .map 3 3, size := 1, bytes := 8, zero := [.nmap], cmp := true, std := false } := by kernel_rfl
theorem ty62 : tinfo Tryz.prog 62 = some { td := .func, size := 1, bytes := 8, zero := [.nilFunc], cmp := true, std := false } := by kernel_rfl
theorem ty63 : tinfo Tryz.prog 63 = some { td := .func, size := 1, bytes := 8, zero := [.nilFunc], cmp := true, std := false } := by kernel_rfl
theorem ty64 : tinfo Tryz.prog 64 = some { td := .func, size := 1, bytes := 8, zero := [.nilFunc], cmp := true, std := false } := by kernel_rfl
theorem ty65 : tinfo Tryz.prog 65 = some { td := .func, size := 1, bytes := 8, zero := [.nilFunc], cmp := true, std := false } := by kernel_rfl
theorem ty66 : tinfo Tryz.prog 66 = some { td := .func, size := 1, bytes := 8, zero := [.nilFunc], cmp := true, std := false } := by kernel_rfl
theorem ty67 : tinfo Tryz.prog 67 = some { td := .func, size := 1, bytes := 8, zero := [.nilFunc], cmp := true, std := false } := by kernel_rfl
theorem ty68 : tinfo Tryz.prog 68 = some { td := .func, size := 1, bytes := 8, zero := [.nilFunc], cmp := true, std := false } := by kernel_rfl
theorem ty69 : tinfo Tryz.prog 69 = some { td := .func, size := 1, bytes := 8, zero := [.nilFunc], cmp := true, std := false } := by kernel_rfl
theorem ty70 : tinfo Tryz.prog 70 = some { td := .func, size := 1, bytes := 8, zero := [.nilFunc], cmp := true, std := false } := by kernel_rfl
theorem ty71 : tinfo Tryz.prog 71 = some { td := .slice 99, size := 1, bytes := 24, zero := [.nil], cmp := true, std := false } := by kernel_rfl
theorem ty72 : tinfo Tryz.prog 72 = some { td := .struct [(0, 71, false), (1, 36, false)], size := 2, bytes := 32, zero := [.nil, .nmap], cmp := true, std := false } := by kernel_rfl
theorem ty73 : tinfo Tryz.prog 73 = some { td := .struct [(0, 71, false), (1, 36, false)], size := 2, bytes := 32, zero := [.nil, .nmap], cmp := true, std := false } := by kernel_rfl
theorem ty75 : tinfo Tryz.prog 75 = some { td := .func, size := 1, bytes := 8, zero := [.nilFunc], cmp := true, std := false } := by kernel_rfl
theorem ty76 : tinfo Tryz.prog 76 = some { td := .func, size := 1, bytes := 8, zero := [.nilFunc], cmp := true, std := false } := by kernel_rfl
theorem ty77 : tinfo Tryz.prog 77 = some { td := .func, size := 1, bytes := 8, zero := [.nilFunc], cmp := true, std := false } := by kernel_rfl
theorem ty78 : tinfo Tryz.prog 78 = some { td := .func, size := 1, bytes := 8, zero := [.nilFunc], cmp := true, std := false } := by kernel_rfl
theorem ty79 : tinfo Tryz.prog 79 = some { td := .func, size := 1, bytes := 8, zero := [.nilFunc], cmp := true, std := false } := by kernel_rfl
theorem ty80 : tinfo Tryz.prog 80 = some { td := .func, size := 1, bytes := 8, zero := [.nilFunc], cmp := true, std := false } := by kernel_rfl
theorem ty81 : tinfo Tryz.prog 81 = some { td := .func, size := 1, bytes := 8, zero := [.nilFunc], cmp := true, std := false } := by kernel_rfl
theorem ty82 : tinfo Tryz.prog 82 = some { td := .func, size := 1, bytes := 8, zero := [.nilFunc], cmp := true, std := false } := by kernel_rfl
theorem ty83 : tinfo Tryz.prog 83 = some { td := .func, size := 1, bytes := 8, zero := [.nilFunc], cmp := true, std := false } := by kernel_rfl
theorem ty84 : tinfo Tryz.prog 84 = some { td := .func, size := 1, bytes := 8, zero := [.nilFunc], cmp := true, std := false } := by kernel_rfl
theorem ty85 : tinfo Tryz.prog 85 = some { td := .func, size := 1, bytes := 8, zero := [.nilFunc], cmp := true, std := false } := by kernel_rfl
theorem ty86 : tinfo Tryz.prog 86 = some { td := .func, size := 1, bytes := 8, zero := [.nilFunc], cmp := true, std := false } := by kernel_rfl
theorem ty87 : tinfo Tryz.prog 87 = some { td := .func, size := 1, bytes := 8, zero := [.nilFunc], cmp := true, std := false } := by kernel_rfl
theorem ty89 : tinfo Tryz.prog 89 = some { td := .func, size := 1, bytes := 8, zero := [.nilFunc], cmp := true, std := false } := by kernel_rfl
theorem ty90 : tinfo Tryz.prog 90 = some { td := .func, size := 1, bytes := 8, zero := [.nilFunc], cmp := true, std := false } := by kernel_rfl
theorem ty91 : tinfo Tryz.prog 91 = some { td := .func, size := 1, bytes := 8, zero := [.nilFunc], cmp := true, std := false } := by kernel_rfl
theorem ty92 : tinfo Tryz.prog 92 = some { td := .func, size := 1, bytes := 8, zero := [.nilFunc], cmp := true, std := false } := by kernel_rfl
theorem ty93 : tinfo Tryz.prog 93 = some { td := .struct [(0, 3, false), (1, 3, false)], size := 2, bytes := 16, zero := [.int .i64 0, .int .i64 0], cmp := true, std := false } := by kernel_rfl
theorem ty94 : tinfo Tryz.prog 94 = some { td := .struct [(0, 3, false), (1, 3, false)], size := 2, bytes := 16, zero := [.int .i64 0, .int .i64 0], cmp := true, std := false } := by kernel_rfl
theorem ty95 : tinfo Tryz.prog 95 = some { td := .func, size := 1, bytes := 8, zero := [.nilFunc], cmp := true, std := false } := by kernel_rfl
theorem ty96 : tinfo Tryz.prog 96 = some { td := .func, size := 1, bytes := 8, zero := [.nilFunc], cmp := true, std := false } := by kernel_rfl
theorem ty97 : tinfo Tryz.prog 97 = some { td := .func, size := 1, bytes := 8, zero := [.nilFunc], cmp := true, std := false } := by kernel_rfl
theorem ty98 : tinfo Tryz.prog 98 = some { td := .struct [(0, 30, false), (3, 3, false)], size := 4, bytes := 48, zero := [.int .i64 0, .int .u8 0, .nil, .int .i64 0], cmp := true, std := false } := by kernel_rfl
theorem ty99 : tinfo Tryz.prog 99 = some { td := .struct [(0, 30, false), (3, 3, false)], size := 4, bytes := 48, zero := [.int .i64 0, .int .u8 0, .nil, .int .i64 0], cmp := true, std := false } := by kernel_rfl
theorem ty100 : tinfo Tryz.prog 100 = some { td := .func, size := 1, bytes := 8, zero := [.nilFunc], cmp := true, std := false } := by kernel_rfl
theorem ty101 : tinfo Tryz.prog 101 = some { td := .func, size := 1, bytes := 8, zero := [.nilFunc], cmp := true, std := false } := by kernel_rfl
theorem ty102 : tinfo Tryz.prog 102 = some { td := .func, size := 1, bytes := 8, zero := [.nilFunc], cmp := true, std := false } := by kernel_rfl
theorem ty103 : tinfo Tryz.prog 103 = some { td := .func, size := 1, bytes := 8, zero := [.nilFunc], cmp := true, std := false } := by kernel_rfl
theorem ty104 : tinfo Tryz.prog 104 = some { td := .func, size := 1, bytes := 8, zero := [.nilFunc], cmp := true, std := false } := by kernel_rfl
theorem ty105 : tinfo Tryz.prog 105 = some { td := .func, size := 1, bytes := 8, zero := [.nilFunc], cmp := true, std := false } := by kernel_rfl
theorem ty106 : tinfo Tryz.prog 106 = some { td := .func, size := 1, bytes := 8, zero := [.nilFunc], cmp := true, std := false } := by kernel_rfl
theorem ty107 : tinfo Tryz.prog 107 = some { td := .func, size := 1, bytes := 8, zero := [.nilFunc], cmp := true, std := false } := by kernel_rfl
theorem ty108 : tinfo Tryz.prog 108 = some { td := .func, size := 1, bytes := 8, zero := [.nilFunc], cmp := true, std := false } := by kernel_rfl
theorem ty109 : tinfo Tryz.prog 109 = some { td := .func, size := 1, bytes := 8, zero := [.nilFunc], cmp := true, std := false } := by kernel_rfl
theorem ty110 : tinfo Tryz.prog 110 = some { td := .func, size := 1, bytes := 8, zero := [.nilFunc], cmp := true, std := false } := by kernel_rfl
theorem ty111 : tinfo Tryz.prog 111 = some { td := .func, size := 1, bytes := 8, zero := [.nilFunc], cmp := true, std := false } := by kernel_rfl
theorem ty112 : tinfo Tryz.prog 112 = some { td := .func, size := 1, bytes := 8, zero := [.nilFunc], cmp := true, std := false } := by kernel_rfl
theorem ty113 : tinfo Tryz.prog 113 = some { td := .func, size := 1, bytes := 8, zero := [.nilFunc], cmp := true, std := false } := by kernel_rfl
theorem ty114 : tinfo Tryz.prog 114 = some { td := .func, size := 1, bytes := 8, zero := [.nilFunc], cmp := true, std := false } := by kernel_rfl
theorem ty115 : tinfo Tryz.prog 115 = some { td := .func, size := 1, bytes := 8, zero := [.nilFunc], cmp := true, std := false } := by kernel_rfl
theorem ty116 : tinfo Tryz.prog 116 = some { td := .struct [(0, 79, false), (1, 115, false)], size := 2, bytes := 16, zero := [.nilFunc, .nilFunc], cmp := true, std := false } := by kernel_rfl
theorem ty117 : tinfo Tryz.prog 117 = some { td := .struct [(0, 79, false), (1, 115, false)], size := 2, bytes := 16, zero := [.nilFunc, .nilFunc], cmp := true, std := false } := by kernel_rfl
theorem ty118 : tinfo Tryz.prog 118 = some { td := .arr 6 117, size := 12, bytes := 96, zero := [.nilFunc, .nilFunc, .nilFunc, .nilFunc, .nilFunc, .nilFunc, .nilFunc, .nilFunc, .nilFunc, .nilFunc, .nilFunc, .nilFunc], cmp := true, std := false } := by kernel_rfl
theorem ty119 : tinfo Tryz.prog 119 = some { td := .func, size := 1, bytes := 8, zero := [.nilFunc], cmp := true, std := false } := by kernel_rfl
theorem ty120 : tinfo Tryz.prog 120 = some { td := .func, size := 1, bytes := 8, zero := [.nilFunc], cmp := true, std := false } := by kernel_rfl
theorem ty121 : tinfo Tryz.prog 121 = some { td := .ptr, size := 1, bytes := 8, zero := [.nptr], cmp := true, std := false } := by kernel_rfl
theorem ty122 : tinfo Tryz.prog 122 = some { td := .ptr, size := 1, bytes := 8, zero := [.nptr], cmp := true, std := false } := by kernel_rfl
theorem ty123 : tinfo Tryz.prog 123 = some { td := .func, size := 1, bytes := 8, zero := [.nilFunc], cmp := true, std := false } := by kernel_rfl
theorem ty124 : tinfo Tryz.prog 124 = some { td := .func, size := 1, bytes := 8, zero := [.nilFunc], cmp := true, std := false } := by kernel_rfl
theorem ty125 : tinfo Tryz.prog 125 = some { td := .func, size := 1, bytes := 8, zero := [.nilFunc], cmp := true, std := false } := by kernel_rfl
theorem ty126 : tinfo Tryz.prog 126 = some { td := .func, size := 1, bytes := 8, zero := [.nilFunc], cmp := true, std := false } := by kernel_rfl
theorem ty127 : tinfo Tryz.prog 127 = some { td := .func, size := 1, bytes := 8, zero := [.nilFunc], cmp := true, std := false } := by kernel_rfl
theorem ty129 : tinfo Tryz.prog 129 = some { td := .func, size := 1, bytes := 8, zero := [.nilFunc], cmp := true, std := false } := by kernel_rfl
theorem ty130 : tinfo Tryz.prog 130 = some { td := .func, size := 1, bytes := 8, zero := [.nilFunc], cmp := true, std := false } := by kernel_rfl
theorem ty131 : tinfo Tryz.prog 131 = some { td := .func, size := 1, bytes := 8, zero := [.nilFunc], cmp := true, std := false } := by kernel_rfl
theorem ty132 : tinfo Tryz.prog 132 = some { td := .func, size := 1, bytes := 8, zero := [.nilFunc], cmp := true, std := false } := by kernel_rfl
theorem ty133 : tinfo Tryz.prog 133 = some { td := .func, size := 1, bytes := 8, zero := [.nilFunc], cmp := true, std := false } := by kernel_rfl
theorem ty134 : tinfo Tryz.prog 134 = some { td := .func, size := 1, bytes := 8, zero := [.nilFunc], cmp := true, std := false } := by kernel_rfl
theorem ty135 : tinfo Tryz.prog 135 = some { td := .func, size := 1, bytes := 8, zero := [.nilFunc], cmp := true, std := false } := by kernel_rfl
theorem ty136 : tinfo Tryz.prog 136 = some { td := .func, size := 1, bytes := 8, zero := [.nilFunc], cmp := true, std := false } := by kernel_rfl
theorem ty137 : tinfo Tryz.prog 137 = some { td := .func, size := 1, bytes := 8, zero := [.nilFunc], cmp := true, std := false } := by kernel_rfl
theorem ty138 : tinfo Tryz.prog 138 = some { td := .func, size := 1, bytes := 8, zero := [.nilFunc], cmp := true, std := false } := by kernel_rfl
theorem ty139 : tinfo Tryz.prog 139 = some { td := .func, size := 1, bytes := 8, zero := [.nilFunc], cmp := true, std := false } := by kernel_rfl
theorem ty140 : tinfo Tryz.prog 140 = some { td := .func, size := 1, bytes := 8, zero := [.nilFunc], cmp := true, std := false } := by kernel_rfl
theorem ty141 : tinfo Tryz.prog 141 = some { td := .func, size := 1, bytes := 8, zero := [.nilFunc], cmp := true, std := false } := by kernel_rfl
theorem ty142 : tinfo Tryz.prog 142 = some { td := .func, size := 1, bytes := 8, zero := [.nilFunc], cmp := true, std := false } := by kernel_rfl
theorem ty143 : tinfo Tryz.prog 143 = some { td := .int .u64, size := 1, bytes := 8, zero := [.int .u64 0], cmp := true, std := false } := by kernel_rfl
theorem ty144 : tinfo Tryz.prog 144 = some { td := .func, size := 1, bytes := 8, zero := [.nilFunc], cmp := true, std := false } := by kernel_rfl
theorem ty145 : tinfo Tryz.prog 145 = some { td := .func, size := 1, bytes := 8, zero := [.nilFunc], cmp := true, std := false } := by kernel_rfl
theorem ty146 : tinfo Tryz.prog 146 = some { td := .func, size := 1, bytes := 8, zero := [.nilFunc], cmp := true, std := false } := by kernel_rfl
theorem ty147 : tinfo Tryz.prog 147 = some { td := .int .u64, size := 1, bytes := 8, zero := [.int .u64 0], cmp := true, std := false } := by kernel_rfl
theorem ty148 : tinfo Tryz.prog 148 = some { td := .func, size := 1, bytes := 8, zero := [.nilFunc], cmp := true, std := false } := by kernel_rfl
theorem ty151 : tinfo Tryz.prog 151 = some { td := .arr 0 16, size := 0, bytes := 0, zero := [], cmp := true, std := false } := by kernel_rfl
theorem ty154 : tinfo Tryz.prog 154 = some { td := .int .u8, size := 1, bytes := 1, zero := [.int .u8 0], cmp := true, std := false } := by kernel_rfl
theorem ty155 : tinfo Tryz.prog 155 = some { td := .int .u8, size := 1, bytes := 1, zero := [.int .u8 0], cmp := true, std := false } := by kernel_rfl
theorem ty156 : tinfo Tryz.prog 156 = some { td := .func, size := 1, bytes := 8, zero := [.nilFunc], cmp := true, std := false } := by kernel_rfl
theorem ty157 : tinfo Tryz.prog 157 = some { td := .ptr, size := 1, bytes := 8, zero := [.nptr], cmp := true, std := false } := by kernel_rfl
theorem ty158 : tinfo Tryz.prog 158 = some { td := .int .i32, size := 1, bytes := 4, zero := [.int .i32 0], cmp := true, std := false } := by kernel_rfl
theorem ty159 : tinfo Tryz.prog 159 = some { td := .int .i32, size := 1, bytes := 4, zero := [.int .i32 0], cmp := true, std := false } := by kernel_rfl
theorem mixed : Tryz.prog.follows .mixedOrders = true := by kernel_rfl
end Go.Proofs.YtmdhgkfjlphliaaGreat

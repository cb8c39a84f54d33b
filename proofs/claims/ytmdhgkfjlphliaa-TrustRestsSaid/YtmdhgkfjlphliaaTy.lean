/-
  THE TYPES OF THE LOADED PROGRAM, in short: closed facts.
-/
import Derived.Test.YtmdhgkfjlphliaaChecked
import Derived.Test.YtmdhgkfjlphliaaAm3
import Derived.KernelRfl
namespace Go.Proofs.Ytmdhgkfjlphliaa
open Go.Am
theorem ty1 : tinfo Try.prog 1 = some { td := .func, size := 1, bytes := 8, zero := [.nilFunc], cmp := true, std := false } := by kernel_rfl
theorem ty2 : tinfo Try.prog 2 = some { td := .int .i64, size := 1, bytes := 8, zero := [.int .i64 0], cmp := true, std := false } := by kernel_rfl
theorem ty3 : tinfo Try.prog 3 = some { td := .int .i64, size := 1, bytes := 8, zero := [.int .i64 0], cmp := true, std := false } := by kernel_rfl
theorem ty4 : tinfo Try.prog 4 = some { td := .bool, size := 1, bytes := 1, zero := [.bool false], cmp := true, std := false } := by kernel_rfl
theorem ty5 : tinfo Try.prog 5 = some { td := .int .u8, size := 1, bytes := 1, zero := [.int .u8 0], cmp := true, std := false } := by kernel_rfl
theorem ty6 : tinfo Try.prog 6 = some { td := .int .u8, size := 1, bytes := 1, zero := [.int .u8 0], cmp := true, std := false } := by kernel_rfl
theorem ty9 : tinfo Try.prog 9 = some { td := .str, size := 1, bytes := 16, zero := [.str ⟨#[]⟩], cmp := true, std := false } := by kernel_rfl
theorem ty10 : tinfo Try.prog 10 = some { td := .str, size := 1, bytes := 16, zero := [.str ⟨#[]⟩], cmp := true, std := false } := by kernel_rfl
theorem ty11 : tinfo Try.prog 11 = some { td := .str, size := 1, bytes := 16, zero := [.str ⟨#[]⟩], cmp := true, std := false } := by kernel_rfl
theorem ty12 : tinfo Try.prog 12 = some { td := .int .u64, size := 1, bytes := 8, zero := [.int .u64 0], cmp := true, std := false } := by kernel_rfl
theorem ty15 : tinfo Try.prog 15 = some { td := .ptr, size := 1, bytes := 8, zero := [.nptr], cmp := true, std := false } := by kernel_rfl
theorem ty16 : tinfo Try.prog 16 = some { td := .ptr, size := 1, bytes := 8, zero := [.nptr], cmp := true, std := false } := by kernel_rfl
theorem ty17 : tinfo Try.prog 17 = some { td := .ptr, size := 1, bytes := 8, zero := [.nptr], cmp := true, std := false } := by kernel_rfl
theorem ty20 : tinfo Try.prog 20 = some { td := .iface, size := 1, bytes := 16, zero := [.nilIface], cmp := true, std := false } := by kernel_rfl
theorem ty21 : tinfo Try.prog 21 = some { td := .int .i32, size := 1, bytes := 4, zero := [.int .i32 0], cmp := true, std := false } := by kernel_rfl
theorem ty22 : tinfo Try.prog 22 = some { td := .slice 62, size := 1, bytes := 24, zero := [.nil], cmp := true, std := false } := by kernel_rfl
theorem ty23 : tinfo Try.prog 23 = some { td := .slice 64, size := 1, bytes := 24, zero := [.nil], cmp := true, std := false } := by kernel_rfl
theorem ty24 : tinfo Try.prog 24 = some { td := .func, size := 1, bytes := 8, zero := [.nilFunc], cmp := true, std := false } := by kernel_rfl
theorem ty25 : tinfo Try.prog 25 = some { td := .func, size := 1, bytes := 8, zero := [.nilFunc], cmp := true, std := false } := by kernel_rfl
theorem ty26 : tinfo Try.prog 26 = some { td := .slice 3, size := 1, bytes := 24, zero := [.nil], cmp := true, std := false } := by kernel_rfl
theorem ty27 : tinfo Try.prog 27 = some { td := .int .i64, size := 1, bytes := 8, zero := [.int .i64 0], cmp := true, std := false } := by kernel_rfl
theorem ty29 : tinfo Try.prog 29 = some { td := .func, size := 1, bytes := 8, zero := [.nilFunc], cmp := true, std := false } := by kernel_rfl
theorem ty31 : tinfo Try.prog 31 = some { td := .func, size := 1, bytes := 8, zero := [.nilFunc], cmp := true, std := false } := by kernel_rfl
theorem ty32 : tinfo Try.prog 32 = some { td := .func, size := 1, bytes := 8, zero := [.nilFunc], cmp := true, std := false } := by kernel_rfl
theorem ty33 : tinfo Try.prog 33 = some { td := .func, size := 1, bytes := 8, zero := [.nilFunc], cmp := true, std := false } := by kernel_rfl
theorem ty34 : tinfo Try.prog 34 = some { td := .func, size := 1, bytes := 8, zero := [.nilFunc], cmp := true, std := false } := by kernel_rfl
theorem ty35 : tinfo Try.prog 35 = some { td := .func, size := 1, bytes := 8, zero := [.nilFunc], cmp := true, std := false } := by kernel_rfl
theorem ty36 : tinfo Try.prog 36 = some { td := .func, size := 1, bytes := 8, zero := [.nilFunc], cmp := true, std := false } := by kernel_rfl
theorem ty37 : tinfo Try.prog 37 = some { td := .func, size := 1, bytes := 8, zero := [.nilFunc], cmp := true, std := false } := by kernel_rfl
theorem ty38 : tinfo Try.prog 38 = some { td := .func, size := 1, bytes := 8, zero := [.nilFunc], cmp := true, std := false } := by kernel_rfl
theorem ty39 : tinfo Try.prog 39 = some { td := .func, size := 1, bytes := 8, zero := [.nilFunc], cmp := true, std := false } := by kernel_rfl
theorem ty40 : tinfo Try.prog 40 = some { td := .slice 66, size := 1, bytes := 24, zero := [.nil], cmp := true, std := false } := by kernel_rfl
theorem ty41 : tinfo Try.prog 41 = some { td := .struct [(0, 3, false), (1, 3, false), (2, 3, false), (3, 3, false), (4, 3, false), (5, 3, false)], size := 6, bytes := 48, zero := [.int .i64 0, .int .i64 0, .int .i64 0, .int .i64 0, .int .i64 0, .int .i64 0], cmp := true, std := false } := by kernel_rfl
theorem ty42 : tinfo Try.prog 42 = some { td := .struct [(0, 3, false), (1, 3, false), (2, 3, false), (3, 3, false), (4, 3, false), (5, 3, false)], size := 6, bytes := 48, zero := [.int .i64 0, .int .i64 0, .int .i64 0, .int .i64 0, .int .i64 0, .int .i64 0], cmp := true, std := false } := by kernel_rfl
theorem ty44 : tinfo Try.prog 44 = some { td := .func, size := 1, bytes := 8, zero := [.nilFunc], cmp := true, std := false } := by kernel_rfl
theorem ty46 : tinfo Try.prog 46 = some { td := .func, size := 1, bytes := 8, zero := [.nilFunc], cmp := true, std := false } := by kernel_rfl
theorem ty48 : tinfo Try.prog 48 = some { td := .func, size := 1, bytes := 8, zero := [.nilFunc], cmp := true, std := false } := by kernel_rfl
theorem ty50 : tinfo Try.prog 50 = some { td := .func, size := 1, bytes := 8, zero := [.nilFunc], cmp := true, std := false } := by kernel_rfl
theorem ty51 : tinfo Try.prog 51 = some { td := .func, size := 1, bytes := 8, zero := [.nilFunc], cmp := true, std := false } := by kernel_rfl
theorem ty52 : tinfo Try.prog 52 = some { td := .func, size := 1, bytes := 8, zero := [.nilFunc], cmp := true, std := false } := by kernel_rfl
theorem ty53 : tinfo Try.prog 53 = some { td := .func, size := 1, bytes := 8, zero := [.nilFunc], cmp := true, std := false } := by kernel_rfl
theorem ty54 : tinfo Try.prog 54 = some { td := .func, size := 1, bytes := 8, zero := [.nilFunc], cmp := true, std := false } := by kernel_rfl
theorem ty55 : tinfo Try.prog 55 = some { td := .func, size := 1, bytes := 8, zero := [.nilFunc], cmp := true, std := false } := by kernel_rfl
theorem ty56 : tinfo Try.prog 56 = some { td := .func, size := 1, bytes := 8, zero := [.nilFunc], cmp := true, std := false } := by kernel_rfl
theorem ty57 : tinfo Try.prog 57 = some { td := .func, size := 1, bytes := 8, zero := [.nilFunc], cmp := true, std := false } := by kernel_rfl
theorem ty58 : tinfo Try.prog 58 = some { td := .func, size := 1, bytes := 8, zero := [.nilFunc], cmp := true, std := false } := by kernel_rfl
theorem ty59 : tinfo Try.prog 59 = some { td := .func, size := 1, bytes := 8, zero := [.nilFunc], cmp := true, std := false } := by kernel_rfl
theorem ty60 : tinfo Try.prog 60 = some { td := .slice 26, size := 1, bytes := 24, zero := [.nil], cmp := true, std := false } := by kernel_rfl
theorem ty61 : tinfo Try.prog 61 = some { td := .struct [(0, 3, false), (1, 5, false), (2, 60, false)], size := 3, bytes := 40, zero := [.int .i64 0, .int .u8 0, .nil], cmp := true, std := false } := by kernel_rfl
theorem ty62 : tinfo Try.prog 62 = some { td := .struct [(0, 3, false), (1, 5, false), (2, 60, false)], size := 3, bytes := 40, zero := [.int .i64 0, .int .u8 0, .nil], cmp := true, std := false } := by kernel_rfl
theorem ty63 : tinfo Try.prog 63 = some { td := .struct [(0, 3, false), (1, 3, false), (2, 3, false), (3, 5, false)], size := 4, bytes := 32, zero := [.int .i64 0, .int .i64 0, .int .i64 0, .int .u8 0], cmp := true, std := false } := by kernel_rfl
theorem ty64 : tinfo Try.prog 64 = some { td := .struct [(0, 3, false), (1, 3, false), (2, 3, false), (3, 5, false)], size := 4, bytes := 32, zero := [.int .i64 0, .int .i64 0, .int .i64 0, .int .u8 0], cmp := true, std := false } := by kernel_rfl
theorem ty65 : tinfo Try.prog 65 = some { td := .struct [(0, 3, false), (1, 3, false), (2, 5, false), (3, 3, false)], size := 4, bytes := 32, zero := [.int .i64 0, .int .i64 0, .int .u8 0, .int .i64 0], cmp := true, std := false } := by kernel_rfl
theorem ty66 : tinfo Try.prog 66 = some { td := .struct [(0, 3, false), (1, 3, false), (2, 5, false), (3, 3, false)], size := 4, bytes := 32, zero := [.int .i64 0, .int .i64 0, .int .u8 0, .int .i64 0], cmp := true, std := false } := by kernel_rfl
theorem ty67 : tinfo Try.prog 67 = some { td := .int .u32, size := 1, bytes := 4, zero := [.int .u32 0], cmp := true, std := false } := by kernel_rfl
theorem ty68 : tinfo Try.prog 68 = some { td := .func, size := 1, bytes := 8, zero := [.nilFunc], cmp := true, std := false } := by kernel_rfl
theorem ty69 : tinfo Try.prog 69 = some { td := .func, size := 1, bytes := 8, zero := [.nilFunc], cmp := true, std := false } := by kernel_rfl
theorem ty70 : tinfo Try.prog 70 = some { td := .func, size := 1, bytes := 8, zero := [.nilFunc], cmp := true, std := false } := by kernel_rfl
theorem ty71 : tinfo Try.prog 71 = some { td := .slice 108, size := 1, bytes := 24, zero := [.nil], cmp := true, std := false } := by kernel_rfl
theorem ty72 : tinfo Try.prog 72 = some { td := .map 3 4, size := 1, bytes := 8, zero := [.nmap], cmp := true, std := false } := by kernel_rfl
theorem ty73 : tinfo Try.prog 73 = some { td := .struct [(0, 71, false), (1, 72, false)], size := 2, bytes := 32, zero := [.nil, .nmap], cmp := true, std := false } := by kernel_rfl
theorem ty74 : tinfo Try.prog 74 = some { td := .struct [(0, 71, false), (1, 72, false)], size := 2, bytes := 32, zero := [.nil, .nmap], cmp := true, std := false } := by kernel_rfl
theorem ty76 : tinfo Try.prog 76 = some { td := .func, size := 1, bytes := 8, zero := [.nilFunc], cmp := true, std := false } := by kernel_rfl
theorem ty77 : tinfo Try.prog 77 = some { td := .func, size := 1, bytes := 8, zero := [.nilFunc], cmp := true, std := false } := by kernel_rfl
theorem ty78 : tinfo Try.prog 78 = some { td := .func, size := 1, bytes := 8, zero := [.nilFunc], cmp := true, std := false } := by kernel_rfl
theorem ty79 : tinfo Try.prog 79 = some { td := .func, size := 1, bytes := 8, zero := [.nilFunc], cmp := true, std := false } := by kernel_rfl
theorem ty80 : tinfo Try.prog 80 = some { td := .func, size := 1, bytes := 8, zero := [.nilFunc], cmp := true, std := false } := by kernel_rfl
theorem ty81 : tinfo Try.prog 81 = some { td := .slice 4, size := 1, bytes := 24, zero := [.nil], cmp := true, std := false } := by kernel_rfl
theorem ty82 : tinfo Try.prog 82 = some { td := .func, size := 1, bytes := 8, zero := [.nilFunc], cmp := true, std := false } := by kernel_rfl
theorem ty83 : tinfo Try.prog 83 = some { td := .func, size := 1, bytes := 8, zero := [.nilFunc], cmp := true, std := false } := by kernel_rfl
theorem ty84 : tinfo Try.prog 84 = some { td := .func, size := 1, bytes := 8, zero := [.nilFunc], cmp := true, std := false } := by kernel_rfl
theorem ty85 : tinfo Try.prog 85 = some { td := .func, size := 1, bytes := 8, zero := [.nilFunc], cmp := true, std := false } := by kernel_rfl
theorem ty87 : tinfo Try.prog 87 = some { td := .func, size := 1, bytes := 8, zero := [.nilFunc], cmp := true, std := false } := by kernel_rfl
theorem ty88 : tinfo Try.prog 88 = some { td := .func, size := 1, bytes := 8, zero := [.nilFunc], cmp := true, std := false } := by kernel_rfl
theorem ty89 : tinfo Try.prog 89 = some { td := .func, size := 1, bytes := 8, zero := [.nilFunc], cmp := true, std := false } := by kernel_rfl
theorem ty90 : tinfo Try.prog 90 = some { td := .func, size := 1, bytes := 8, zero := [.nilFunc], cmp := true, std := false } := by kernel_rfl
theorem ty91 : tinfo Try.prog 91 = some { td := .func, size := 1, bytes := 8, zero := [.nilFunc], cmp := true, std := false } := by kernel_rfl
theorem ty92 : tinfo Try.prog 92 = some { td := .func, size := 1, bytes := 8, zero := [.nilFunc], cmp := true, std := false } := by kernel_rfl
theorem ty93 : tinfo Try.prog 93 = some { td := .func, size := 1, bytes := 8, zero := [.nilFunc], cmp := true, std := false } := by kernel_rfl
theorem ty94 : tinfo Try.prog 94 = some { td := .func, size := 1, bytes := 8, zero := [.nilFunc], cmp := true, std := false } := by kernel_rfl
theorem ty95 : tinfo Try.prog 95 = some { td := .func, size := 1, bytes := 8, zero := [.nilFunc], cmp := true, std := false } := by kernel_rfl
theorem ty96 : tinfo Try.prog 96 = some { td := .func, size := 1, bytes := 8, zero := [.nilFunc], cmp := true, std := false } := by kernel_rfl
theorem ty97 : tinfo Try.prog 97 = some { td := .func, size := 1, bytes := 8, zero := [.nilFunc], cmp := true, std := false } := by kernel_rfl
theorem ty98 : tinfo Try.prog 98 = some { td := .func, size := 1, bytes := 8, zero := [.nilFunc], cmp := true, std := false } := by kernel_rfl
theorem ty99 : tinfo Try.prog 99 = some { td := .func, size := 1, bytes := 8, zero := [.nilFunc], cmp := true, std := false } := by kernel_rfl
theorem ty100 : tinfo Try.prog 100 = some { td := .func, size := 1, bytes := 8, zero := [.nilFunc], cmp := true, std := false } := by kernel_rfl
theorem ty101 : tinfo Try.prog 101 = some { td := .func, size := 1, bytes := 8, zero := [.nilFunc], cmp := true, std := false } := by kernel_rfl
theorem ty102 : tinfo Try.prog 102 = some { td := .struct [(0, 3, false), (1, 3, false)], size := 2, bytes := 16, zero := [.int .i64 0, .int .i64 0], cmp := true, std := false } := by kernel_rfl
theorem ty103 : tinfo Try.prog 103 = some { td := .struct [(0, 3, false), (1, 3, false)], size := 2, bytes := 16, zero := [.int .i64 0, .int .i64 0], cmp := true, std := false } := by kernel_rfl
theorem ty104 : tinfo Try.prog 104 = some { td := .func, size := 1, bytes := 8, zero := [.nilFunc], cmp := true, std := false } := by kernel_rfl
theorem ty105 : tinfo Try.prog 105 = some { td := .func, size := 1, bytes := 8, zero := [.nilFunc], cmp := true, std := false } := by kernel_rfl
theorem ty106 : tinfo Try.prog 106 = some { td := .func, size := 1, bytes := 8, zero := [.nilFunc], cmp := true, std := false } := by kernel_rfl
theorem ty107 : tinfo Try.prog 107 = some { td := .struct [(0, 62, false), (3, 3, false)], size := 4, bytes := 48, zero := [.int .i64 0, .int .u8 0, .nil, .int .i64 0], cmp := true, std := false } := by kernel_rfl
theorem ty108 : tinfo Try.prog 108 = some { td := .struct [(0, 62, false), (3, 3, false)], size := 4, bytes := 48, zero := [.int .i64 0, .int .u8 0, .nil, .int .i64 0], cmp := true, std := false } := by kernel_rfl
theorem ty109 : tinfo Try.prog 109 = some { td := .func, size := 1, bytes := 8, zero := [.nilFunc], cmp := true, std := false } := by kernel_rfl
theorem ty110 : tinfo Try.prog 110 = some { td := .func, size := 1, bytes := 8, zero := [.nilFunc], cmp := true, std := false } := by kernel_rfl
theorem ty111 : tinfo Try.prog 111 = some { td := .func, size := 1, bytes := 8, zero := [.nilFunc], cmp := true, std := false } := by kernel_rfl
theorem ty112 : tinfo Try.prog 112 = some { td := .func, size := 1, bytes := 8, zero := [.nilFunc], cmp := true, std := false } := by kernel_rfl
theorem ty113 : tinfo Try.prog 113 = some { td := .func, size := 1, bytes := 8, zero := [.nilFunc], cmp := true, std := false } := by kernel_rfl
theorem ty114 : tinfo Try.prog 114 = some { td := .func, size := 1, bytes := 8, zero := [.nilFunc], cmp := true, std := false } := by kernel_rfl
theorem ty115 : tinfo Try.prog 115 = some { td := .func, size := 1, bytes := 8, zero := [.nilFunc], cmp := true, std := false } := by kernel_rfl
theorem ty116 : tinfo Try.prog 116 = some { td := .func, size := 1, bytes := 8, zero := [.nilFunc], cmp := true, std := false } := by kernel_rfl
theorem ty117 : tinfo Try.prog 117 = some { td := .func, size := 1, bytes := 8, zero := [.nilFunc], cmp := true, std := false } := by kernel_rfl
theorem ty118 : tinfo Try.prog 118 = some { td := .func, size := 1, bytes := 8, zero := [.nilFunc], cmp := true, std := false } := by kernel_rfl
theorem ty119 : tinfo Try.prog 119 = some { td := .func, size := 1, bytes := 8, zero := [.nilFunc], cmp := true, std := false } := by kernel_rfl
theorem ty120 : tinfo Try.prog 120 = some { td := .func, size := 1, bytes := 8, zero := [.nilFunc], cmp := true, std := false } := by kernel_rfl
theorem ty121 : tinfo Try.prog 121 = some { td := .func, size := 1, bytes := 8, zero := [.nilFunc], cmp := true, std := false } := by kernel_rfl
theorem ty122 : tinfo Try.prog 122 = some { td := .func, size := 1, bytes := 8, zero := [.nilFunc], cmp := true, std := false } := by kernel_rfl
theorem ty123 : tinfo Try.prog 123 = some { td := .func, size := 1, bytes := 8, zero := [.nilFunc], cmp := true, std := false } := by kernel_rfl
theorem ty124 : tinfo Try.prog 124 = some { td := .func, size := 1, bytes := 8, zero := [.nilFunc], cmp := true, std := false } := by kernel_rfl
theorem ty125 : tinfo Try.prog 125 = some { td := .func, size := 1, bytes := 8, zero := [.nilFunc], cmp := true, std := false } := by kernel_rfl
theorem ty126 : tinfo Try.prog 126 = some { td := .struct [(0, 85, false), (1, 125, false)], size := 2, bytes := 16, zero := [.nilFunc, .nilFunc], cmp := true, std := false } := by kernel_rfl
theorem ty127 : tinfo Try.prog 127 = some { td := .struct [(0, 85, false), (1, 125, false)], size := 2, bytes := 16, zero := [.nilFunc, .nilFunc], cmp := true, std := false } := by kernel_rfl
theorem ty128 : tinfo Try.prog 128 = some { td := .arr 6 127, size := 12, bytes := 96, zero := [.nilFunc, .nilFunc, .nilFunc, .nilFunc, .nilFunc, .nilFunc, .nilFunc, .nilFunc, .nilFunc, .nilFunc, .nilFunc, .nilFunc], cmp := true, std := false } := by kernel_rfl
theorem ty129 : tinfo Try.prog 129 = some { td := .func, size := 1, bytes := 8, zero := [.nilFunc], cmp := true, std := false } := by kernel_rfl
theorem ty130 : tinfo Try.prog 130 = some { td := .func, size := 1, bytes := 8, zero := [.nilFunc], cmp := true, std := false } := by kernel_rfl
theorem ty131 : tinfo Try.prog 131 = some { td := .ptr, size := 1, bytes := 8, zero := [.nptr], cmp := true, std := false } := by kernel_rfl
theorem ty132 : tinfo Try.prog 132 = some { td := .ptr, size := 1, bytes := 8, zero := [.nptr], cmp := true, std := false } := by kernel_rfl
theorem ty133 : tinfo Try.prog 133 = some { td := .func, size := 1, bytes := 8, zero := [.nilFunc], cmp := true, std := false } := by kernel_rfl
theorem ty134 : tinfo Try.prog 134 = some { td := .func, size := 1, bytes := 8, zero := [.nilFunc], cmp := true, std := false } := by kernel_rfl
theorem ty135 : tinfo Try.prog 135 = some { td := .func, size := 1, bytes := 8, zero := [.nilFunc], cmp := true, std := false } := by kernel_rfl
theorem ty136 : tinfo Try.prog 136 = some { td := .func, size := 1, bytes := 8, zero := [.nilFunc], cmp := true, std := false } := by kernel_rfl
theorem ty138 : tinfo Try.prog 138 = some { td := .func, size := 1, bytes := 8, zero := [.nilFunc], cmp := true, std := false } := by kernel_rfl
theorem ty139 : tinfo Try.prog 139 = some { td := .func, size := 1, bytes := 8, zero := [.nilFunc], cmp := true, std := false } := by kernel_rfl
theorem ty140 : tinfo Try.prog 140 = some { td := .func, size := 1, bytes := 8, zero := [.nilFunc], cmp := true, std := false } := by kernel_rfl
theorem ty141 : tinfo Try.prog 141 = some { td := .func, size := 1, bytes := 8, zero := [.nilFunc], cmp := true, std := false } := by kernel_rfl
theorem ty142 : tinfo Try.prog 142 = some { td := .func, size := 1, bytes := 8, zero := [.nilFunc], cmp := true, std := false } := by kernel_rfl
theorem ty143 : tinfo Try.prog 143 = some { td := .func, size := 1, bytes := 8, zero := [.nilFunc], cmp := true, std := false } := by kernel_rfl
theorem ty144 : tinfo Try.prog 144 = some { td := .func, size := 1, bytes := 8, zero := [.nilFunc], cmp := true, std := false } := by kernel_rfl
theorem ty145 : tinfo Try.prog 145 = some { td := .func, size := 1, bytes := 8, zero := [.nilFunc], cmp := true, std := false } := by kernel_rfl
theorem ty146 : tinfo Try.prog 146 = some { td := .func, size := 1, bytes := 8, zero := [.nilFunc], cmp := true, std := false } := by kernel_rfl
theorem ty147 : tinfo Try.prog 147 = some { td := .func, size := 1, bytes := 8, zero := [.nilFunc], cmp := true, std := false } := by kernel_rfl
theorem ty148 : tinfo Try.prog 148 = some { td := .func, size := 1, bytes := 8, zero := [.nilFunc], cmp := true, std := false } := by kernel_rfl
theorem ty149 : tinfo Try.prog 149 = some { td := .func, size := 1, bytes := 8, zero := [.nilFunc], cmp := true, std := false } := by kernel_rfl
theorem ty150 : tinfo Try.prog 150 = some { td := .func, size := 1, bytes := 8, zero := [.nilFunc], cmp := true, std := false } := by kernel_rfl
theorem ty151 : tinfo Try.prog 151 = some { td := .int .u64, size := 1, bytes := 8, zero := [.int .u64 0], cmp := true, std := false } := by kernel_rfl
theorem ty152 : tinfo Try.prog 152 = some { td := .func, size := 1, bytes := 8, zero := [.nilFunc], cmp := true, std := false } := by kernel_rfl
theorem ty153 : tinfo Try.prog 153 = some { td := .func, size := 1, bytes := 8, zero := [.nilFunc], cmp := true, std := false } := by kernel_rfl
theorem ty154 : tinfo Try.prog 154 = some { td := .int .u64, size := 1, bytes := 8, zero := [.int .u64 0], cmp := true, std := false } := by kernel_rfl
theorem ty155 : tinfo Try.prog 155 = some { td := .func, size := 1, bytes := 8, zero := [.nilFunc], cmp := true, std := false } := by kernel_rfl
theorem ty158 : tinfo Try.prog 158 = some { td := .arr 0 16, size := 0, bytes := 0, zero := [], cmp := true, std := false } := by kernel_rfl
theorem ty161 : tinfo Try.prog 161 = some { td := .int .u8, size := 1, bytes := 1, zero := [.int .u8 0], cmp := true, std := false } := by kernel_rfl
theorem ty162 : tinfo Try.prog 162 = some { td := .int .u8, size := 1, bytes := 1, zero := [.int .u8 0], cmp := true, std := false } := by kernel_rfl
theorem ty163 : tinfo Try.prog 163 = some { td := .func, size := 1, bytes := 8, zero := [.nilFunc], cmp := true, std := false } := by kernel_rfl
theorem ty164 : tinfo Try.prog 164 = some { td := .ptr, size := 1, bytes := 8, zero := [.nptr], cmp := true, std := false } := by kernel_rfl
theorem ty165 : tinfo Try.prog 165 = some { td := .int .i32, size := 1, bytes := 4, zero := [.int .i32 0], cmp := true, std := false } := by kernel_rfl
theorem ty166 : tinfo Try.prog 166 = some { td := .int .i32, size := 1, bytes := 4, zero := [.int .i32 0], cmp := true, std := false } := by kernel_rfl
theorem mixed : Try.prog.follows .mixedOrders = true := by kernel_rfl
end Go.Proofs.Ytmdhgkfjlphliaa

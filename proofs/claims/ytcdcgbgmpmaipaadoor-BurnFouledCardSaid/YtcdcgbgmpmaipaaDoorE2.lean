import Derived.Test.YtcdcgbgmpmaipaaDoorD15
import Derived.Test.YtcdcgbgmpmaipaaDoorCd
namespace Go.Proofs.YtcdcgbgmpmaipaaDoor
open Go Go.Am
set_option maxRecDepth 100000
set_option maxHeartbeats 16000000
/-- A choice by its place. -/
def chs (l : List Int) (i : Nat) : Int := match l[i % l.length]? with
  | some c => c
  | none => 0
theorem chs_rng {l : List Int} (h : ∀ x ∈ l, 0 ≤ x ∧ x < 4294967296) (i : Nat) : 0 ≤ chs l i ∧ chs l i < 4294967296 := by
  unfold chs
  split
  · rename_i c hc; exact h c (List.mem_of_getElem? hc)
  · omega
theorem choose_spec (l : List Int) (hl : ∀ x ∈ l, 0 ≤ x ∧ x < 4294967296) (i : Nat) : APure Tryd.prog 36 [.lst 1 (l.map encU), .int .i64 i] (.int .i64 (chs l i)) := by
  by_cases h0 : l = []
  · subst h0
    exact APure.vc Tryd.func36 rfl .nil rfl rfl ⟨trivial, by kernel_rfl⟩
  · have hpos : 0 < l.length := List.length_pos_iff.2 h0
    have d7 : ((((l.map encU).length : Nat) : Int) == 0) = false := by rw [List.length_map, beq_eq_false_iff_ne]; omega
    have hlt : i % l.length < l.length := Nat.mod_lt _ hpos
    obtain ⟨c, hc⟩ := getE hlt
    have e : chs l i = c := by unfold chs; rw [hc]
    have hr := hl c (List.mem_of_getElem? hc)
    have n1 : (((l.map encU).length : Nat) : Int) ≠ 0 := by rw [List.length_map]; omega
    have ix : 0 ≤ (i : Int).tmod (((l.map encU).length : Nat) : Int) ∧ (l.map encU)[((i : Int).tmod (((l.map encU).length : Nat) : Int)).toNat]? = some (encU c) := by
      have e1 : (i : Int).tmod (((l.map encU).length : Nat) : Int) = ((i % l.length : Nat) : Int) := by
        rw [List.length_map, Int.tmod_eq_emod_of_nonneg (Int.natCast_nonneg _)]; rfl
      exact idxW e1 hc
    have w : IntKind.i64.wrap c = c := wrap64 (by omega) (by omega)
    rw [e]
    exact APure.vc Tryd.func36 rfl (.br 7 false <| .nz <| .cells (encU c) .nil) rfl rfl ⟨d7, n1, ix, rI w⟩
theorem subE {a c : Int} (h0 : 0 ≤ c) (_h1 : c < 4294967296) (ha : 0 ≤ a) (ha' : a ≤ 1000000) : IntKind.i64.wrap (a + 1) ≠ 0 ∧ some (⟨.int .i64 (IntKind.i64.wrap (a - c.tmod (IntKind.i64.wrap (a + 1)))), []⟩ : Out) = some ⟨.int .i64 (a - c.tmod (a + 1)), []⟩ ∧ 0 ≤ a - c.tmod (a + 1) ∧ a - c.tmod (a + 1) ≤ a := by
  have e1 : IntKind.i64.wrap (a + 1) = a + 1 := wrap64 (by omega) (by omega)
  have := tm_rng h0 (show 0 < a + 1 by omega)
  rw [e1, wrap64 (by omega) (by omega)]
  exact ⟨by omega, rfl, by omega, by omega⟩
theorem addE {a c M : Int} (h0 : 0 ≤ c) (_h1 : c < 4294967296) (ha : 0 ≤ a) (hM : a ≤ M) (hM' : M ≤ 1000000) : IntKind.i64.wrap (IntKind.i64.wrap (M - a) + 1) ≠ 0 ∧
    some (⟨.int .i64 (IntKind.i64.wrap (a + c.tmod (IntKind.i64.wrap (IntKind.i64.wrap (M - a) + 1)))), []⟩ : Out) = some ⟨.int .i64 (a + c.tmod (M - a + 1)), []⟩ ∧ a ≤ a + c.tmod (M - a + 1) ∧ a + c.tmod (M - a + 1) ≤ M := by
  have e1 : IntKind.i64.wrap (IntKind.i64.wrap (M - a) + 1) = M - a + 1 := by rw [wrap64 (n := M - a) (by omega) (by omega)]; exact wrap64 (by omega) (by omega)
  have := tm_rng h0 (show 0 < M - a + 1 by omega)
  rw [e1, wrap64 (by omega) (by omega)]
  exact ⟨by omega, rfl, by omega, by omega⟩
end Go.Proofs.YtcdcgbgmpmaipaaDoor

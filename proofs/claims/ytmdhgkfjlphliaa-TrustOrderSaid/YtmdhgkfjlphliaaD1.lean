/-
  A DAY BY A NUMBER.
-/
import Derived.Test.YtmdhgkfjlphliaaV1
import Derived.Test.YtmdhgkfjlphliaaT5
namespace Go.Proofs.Ytmdhgkfjlphliaa
open Go Go.Am
set_option maxRecDepth 100000
set_option maxHeartbeats 4000000
def dayV (l : List Ltr) (n : Nat) : Int :=
  if l.length = 0 ∨ n % 7 = 0 then ((n % 100001 : Nat) : Int)
  else max 0 (min 100000 ((l.getD (n % l.length) default).day + ((n / 64 % 3 : Nat) : Int) - 1))
theorem dayV_rng (l : List Ltr) (n : Nat) : 0 ≤ dayV l n ∧ dayV l n ≤ 100000 := by
  unfold dayV
  split
  · have : n % 100001 < 100001 := Nat.mod_lt _ (by omega)
    omega
  · omega
theorem wrap32 {n : Nat} (h : n < 4294967296) : IntKind.u32.wrap (n : Int) = (n : Int) := by
  unfold IntKind.wrap
  have e1 : (2 : Int) ^ IntKind.u32.bits = 4294967296 := by decide
  simp only [e1, IntKind.signed, Bool.false_and, Bool.false_eq_true, if_false]
  omega
theorem day_spec (l : List Ltr) (n : Nat) (hn : n < 4294967296) (hl : l.length ≤ 1000) (hd : ∀ x ∈ l, 0 ≤ x.day ∧ x.day ≤ 100000) : APure Try.prog 38 [encLs l, .int .u32 (n : Int)] (.int .i64 (dayV l n)) := by
  have hlen : ((l.map cLt).length : Int) = l.length := by rw [List.length_map]
  have wn : IntKind.i64.wrap (n : Int) = (n : Int) := wrap64 (by omega) (by omega)
  have v15 : some (⟨.int .i64 (IntKind.i64.wrap (n : Int)), []⟩ : Out) = some ⟨.int .i64 (n : Int), []⟩ := by rw [wn]
  by_cases h0 : l.length = 0
  · have d9 : (((l.map cLt).length : Int) == 0) = true := by rw [hlen, h0]; rfl
    have e : dayV l n = (n : Int).tmod 100001 := by unfold dayV; rw [if_pos (.inl h0)]; rfl
    rw [e]
    exact APure.vcM Try.func38 (.br 9 true <| .val 15 (.int .i64 (n : Int)) [] <| .nz .nil) rfl rfl ⟨d9, Eq.trans (by kernel_rfl) v15, by decide, [], by kernel_rfl⟩
  · have d9 : (((l.map cLt).length : Int) == 0) = false := by rw [hlen]; exact beq_eq_false_iff_ne.2 (by omega)
    by_cases h7 : n % 7 = 0
    · have d13 : ((n : Int).tmod 7 == 0) = true := by rw [show (n : Int).tmod 7 = ((n % 7 : Nat) : Int) from rfl, h7]; rfl
      have e : dayV l n = (n : Int).tmod 100001 := by unfold dayV; rw [if_pos (.inr h7)]; rfl
      rw [e]
      exact APure.vcM Try.func38 (.br 9 false <| .nz <| .br 13 true <| .val 15 (.int .i64 (n : Int)) [] <| .nz .nil) rfl rfl ⟨d9, by decide, d13, Eq.trans (by kernel_rfl) v15, by decide, [], by kernel_rfl⟩
    · have d13 : ((n : Int).tmod 7 == 0) = false := by rw [show (n : Int).tmod 7 = ((n % 7 : Nat) : Int) from rfl]; exact beq_eq_false_iff_ne.2 (by omega)
      have hml : n % l.length < l.length := Nat.mod_lt _ (by omega)
      refine Exists.elim (getE hml) fun x hx => ?_
      have hxd := hd x (List.mem_of_getElem? hx)
      have v22 : (n : Int).tmod ((l.map cLt).length : Int) = ((n % l.length : Nat) : Int) := by rw [hlen]; rfl
      have ix : 0 ≤ (n : Int).tmod ((l.map cLt).length : Int) ∧ (l.map cLt)[((n : Int).tmod ((l.map cLt).length : Int)).toNat]? = some (cLt x) := by rw [v22]; exact idx hx
      have v28 : some (⟨.int .i64 (IntKind.i64.wrap (IntKind.u32.wrap ((n : Int).tdiv 64))), []⟩ : Out) = some ⟨.int .i64 ((n / 64 : Nat) : Int), []⟩ := by
        rw [show (n : Int).tdiv 64 = ((n / 64 : Nat) : Int) from rfl, wrap32 (by omega), wrap64 (by omega) (by omega)]
      have hm3 : n / 64 % 3 < 3 := Nat.mod_lt _ (by omega)
      have v31 : some (⟨.int .i64 (IntKind.i64.wrap (IntKind.i64.wrap (x.day + ((n / 64 : Nat) : Int).tmod 3) - 1)), []⟩ : Out) = some ⟨.int .i64 (x.day + ((n / 64 % 3 : Nat) : Int) - 1), []⟩ := by
        rw [show ((n / 64 : Nat) : Int).tmod 3 = ((n / 64 % 3 : Nat) : Int) from rfl, wrap64 (n := x.day + _) (by omega) (by omega), wrap64 (by omega) (by omega)]
      have e : dayV l n = max 0 (min 100000 (x.day + ((n / 64 % 3 : Nat) : Int) - 1)) := by
        unfold dayV
        rw [if_neg (fun h => h.elim h0 h7), List.getD_eq_getElem?_getD, hx]; rfl
      rw [e]
      generalize x.day + ((n / 64 % 3 : Nat) : Int) - 1 = z at *
      have v33 : some (⟨.int .i64 (if z < 100000 then z else 100000), []⟩ : Out) = some ⟨.int .i64 (min 100000 z), []⟩ := by rw [ifmin]
      have v34 : some (⟨.int .i64 (if min 100000 z > 0 then min 100000 z else 0), []⟩ : Out) = some ⟨.int .i64 (max 0 (min 100000 z)), []⟩ := by rw [ifmax]
      generalize max 0 (min 100000 z) = y at *
      generalize min 100000 z = u at *
      have hne : ((l.map cLt).length : Int) ≠ 0 := by rw [hlen]; omega
      exact APure.vcM Try.func38 (.br 9 false <| .nz <| .br 13 false <| .val 19 (.int .i64 (n : Int)) [] <| .nz <| .cells (cLt x) <| .nz <| .val 28 (.int .i64 ((n / 64 : Nat) : Int)) [] <| .nz <| .val 31 (.int .i64 z) [] <| .val 33 (.int .i64 u) [] <| .val 34 (.int .i64 y) [] .nil) rfl rfl
        ⟨d9, by decide, d13, Eq.trans (by kernel_rfl) v15, hne, ix, by decide, Eq.trans (by kernel_rfl) v28, by decide, Eq.trans (by kernel_rfl) v31, Eq.trans (by kernel_rfl) v33, Eq.trans (by kernel_rfl) v34, [], by kernel_rfl⟩
end Go.Proofs.Ytmdhgkfjlphliaa

/-
  BITS OF NUMBERS, as the walk meets them.
-/
import Derived.Test.YtmdhgkfjlphliaaV1
import Derived.Test.YtmdhgkfjlphliaaT4
namespace Go.Proofs.Ytmdhgkfjlphliaa
open Go Go.Am
set_option maxRecDepth 100000
theorem and64 {a b : Nat} (ha : a < 4096) (hb : b < 4096) : (BitVec.ofInt 64 (a : Int) &&& BitVec.ofInt 64 (b : Int)).toNat = a &&& b := by
  rw [BitVec.ofInt_natCast, BitVec.ofInt_natCast, BitVec.toNat_and, BitVec.toNat_ofNat, BitVec.toNat_ofNat, Nat.mod_eq_of_lt (by omega), Nat.mod_eq_of_lt (by omega)]
theorem or64 {a b : Nat} (ha : a < 4096) (hb : b < 4096) : (BitVec.ofInt 64 (a : Int) ||| BitVec.ofInt 64 (b : Int)).toNat = a ||| b := by
  rw [BitVec.ofInt_natCast, BitVec.ofInt_natCast, BitVec.toNat_or, BitVec.toNat_ofNat, BitVec.toNat_ofNat, Nat.mod_eq_of_lt (by omega), Nat.mod_eq_of_lt (by omega)]
theorem bit_high {a i : Nat} (ha : a < 4096) (hi : 12 ≤ i) : a.testBit i = false := Nat.testBit_lt_two_pow (Nat.lt_of_lt_of_le (show a < 2 ^ 12 from ha) (Nat.pow_le_pow_right (by omega) hi))
theorem less64 {a b : Nat} (ha : a < 4096) : (BitVec.ofInt 64 (a : Int) &&& ~~~BitVec.ofInt 64 (b : Int)).toNat = lessN a b := by
  rw [BitVec.ofInt_natCast, BitVec.ofInt_natCast]
  refine Nat.eq_of_testBit_eq fun i => ?_
  rw [lessN_bit, ← BitVec.getLsbD, BitVec.getLsbD_and, BitVec.getLsbD_not, BitVec.getLsbD_ofNat, BitVec.getLsbD_ofNat]
  by_cases hi : i < 64
  · simp [hi]
  · simp [hi, bit_high ha (show 12 ≤ i by omega)]
theorem bAnd {a b : Nat} (ha : a < 4096) (hb : b < 4096) : IntKind.i64.wrap (BitVec.ofInt IntKind.i64.bits (a : Int) &&& BitVec.ofInt IntKind.i64.bits (b : Int)).toNat = ((a &&& b : Nat) : Int) := by
  have e : (BitVec.ofInt IntKind.i64.bits (a : Int) &&& BitVec.ofInt IntKind.i64.bits (b : Int)).toNat = a &&& b := and64 ha hb
  rw [e]
  have : a &&& b ≤ a := Nat.and_le_left
  exact wrap64 (by omega) (by omega)
theorem or_lt {a b : Nat} (ha : a < 4096) (hb : b < 4096) : a ||| b < 4096 := Nat.or_lt_two_pow (n := 12) ha hb
theorem bOr {a b : Nat} (ha : a < 4096) (hb : b < 4096) : IntKind.i64.wrap (BitVec.ofInt IntKind.i64.bits (a : Int) ||| BitVec.ofInt IntKind.i64.bits (b : Int)).toNat = ((a ||| b : Nat) : Int) := by
  have e : (BitVec.ofInt IntKind.i64.bits (a : Int) ||| BitVec.ofInt IntKind.i64.bits (b : Int)).toNat = a ||| b := or64 ha hb
  rw [e]
  have := or_lt ha hb
  exact wrap64 (by omega) (by omega)
theorem lessN_lt {a b : Nat} (ha : a < 4096) : lessN a b < 4096 := by
  refine Nat.lt_pow_two_of_testBit (n := 12) _ fun i hi => ?_
  rw [lessN_bit, bit_high ha hi]; rfl
theorem bLess {a b : Nat} (ha : a < 4096) : IntKind.i64.wrap (BitVec.ofInt IntKind.i64.bits (a : Int) &&& ~~~BitVec.ofInt IntKind.i64.bits (b : Int)).toNat = ((lessN a b : Nat) : Int) := by
  have e : (BitVec.ofInt IntKind.i64.bits (a : Int) &&& ~~~BitVec.ofInt IntKind.i64.bits (b : Int)).toNat = lessN a b := less64 ha
  rw [e]
  have := @lessN_lt a b ha
  exact wrap64 (by omega) (by omega)
theorem two_lt {i : Nat} (h : i < 12) : 2 ^ i < 4096 := Nat.pow_lt_pow_right (by omega) (show i < 12 from h)
theorem and_two (S i : Nat) : S &&& 2 ^ i = if S.testBit i then 2 ^ i else 0 := by
  refine Nat.eq_of_testBit_eq fun j => ?_
  rw [Nat.testBit_and, Nat.testBit_two_pow]
  by_cases h : i = j
  · subst h
    cases hS : S.testBit i <;> simp
  · rw [decide_eq_false h, Bool.and_false]
    split
    · rw [Nat.testBit_two_pow, decide_eq_false h]
    · rw [Nat.zero_testBit]
theorem bHas {S i : Nat} (hS : S < 4096) (hi : i < 12) : (IntKind.i64.wrap (BitVec.ofInt IntKind.i64.bits (S : Int) &&& BitVec.ofInt IntKind.i64.bits ((2 ^ i : Nat) : Int)).toNat != 0) = S.testBit i := by
  rw [bAnd hS (two_lt hi), and_two]
  cases S.testBit i
  · rfl
  · have := Nat.two_pow_pos i
    rw [if_pos rfl, bne_iff_ne]
    omega
theorem bShl {k : Nat} (h : k < 12) : (if ((k : Int) < 0) then (none : Option AV) else some (.int .i64 (IntKind.i64.wrap (1 * 2 ^ (min (k : Int).toNat IntKind.i64.bits))))) = some (.int .i64 ((2 ^ k : Nat) : Int)) := by
  have hm : min (k : Int).toNat IntKind.i64.bits = k := by
    rw [Int.toNat_natCast]
    exact Nat.min_eq_left (show k ≤ 64 by omega)
  rw [if_neg (by omega), hm, Int.one_mul]
  have := two_lt h
  rw [show ((2 : Int) ^ k) = ((2 ^ k : Nat) : Int) from by simp]
  generalize 2 ^ k = z at this ⊢
  rw [wrap64 (by omega) (by omega)]
theorem setK_4096 {g : Int → Bool} {r : List Rcd} {k : Nat} (h : k ≤ 12) : setK g r k < 4096 := Nat.lt_of_lt_of_le (setK_lt g r k) (Nat.pow_le_pow_right (by omega) h)
end Go.Proofs.Ytmdhgkfjlphliaa

import Derived.Test.YtmdhgkfjlphliaaR2
/-
  HOW MANY BITS; WHICH SET COMES BEFORE; THE FEWEST.
-/
namespace Go.Proofs.Ytmdhgkfjlphliaa
open Go Go.Am
set_option maxRecDepth 100000
set_option maxHeartbeats 4000000
def shU (x n : Int) : Int := x.fdiv (2 ^ (min n.toNat IntKind.u64.bits))
def anU (a b : Int) : Int := IntKind.u64.wrap (BitVec.ofInt IntKind.u64.bits a &&& BitVec.ofInt IntKind.u64.bits b).toNat
def adU (a b : Int) : Int := IntKind.u64.wrap (a + b)
def c1 (x : Int) : Int := adU (anU (shU x 1) 6148914691236517205) (anU x 6148914691236517205)
def c2 (x : Int) : Int := adU (anU (shU x 2) 3689348814741910323) (anU x 3689348814741910323)
def c3 (x : Int) : Int := anU (adU (shU x 4) x) 1085102592571150095
def c4 (n x : Int) : Int := adU x (shU x n)
def c5 (x : Int) : Int := IntKind.i64.wrap (BitVec.ofInt IntKind.i64.bits (IntKind.i64.wrap x) &&& BitVec.ofInt IntKind.i64.bits 127).toNat
def cntI (x : Int) : Int := c5 (c4 32 (c4 16 (c4 8 (c3 (c2 (c1 x))))))
/-- How many records a set has. -/
def popN (S : Nat) : Nat := (List.range 12).countP fun i => S.testBit i
theorem cnt_all : ((List.range 4096).all fun S => cntI (S : Int) == (popN S : Int)) = true := by kernel_rfl
theorem cnt_pop {S : Nat} (h : S < 4096) : cntI (S : Int) = (popN S : Int) := by
  have := List.all_eq_true.1 cnt_all S (List.mem_range.2 h)
  exact beq_iff_eq.1 this
theorem Ones64_spec (x : Int) : APure Try.prog 126 [.int .u64 x] (.int .i64 (cntI x)) :=
  APure.vcM Try.func126 (.val 8 (.int .u64 (c1 x)) [] <| .val 14 (.int .u64 (c2 (c1 x))) [] <| .val 19 (.int .u64 (c3 (c2 (c1 x)))) [] <| .val 23 (.int .u64 (c4 8 (c3 (c2 (c1 x))))) [] <| .val 27 (.int .u64 (c4 16 (c4 8 (c3 (c2 (c1 x)))))) [] <| .val 31 (.int .u64 (c4 32 (c4 16 (c4 8 (c3 (c2 (c1 x))))))) [] <| .val 34 (.int .i64 (cntI x)) [] .nil) rfl rfl
    ⟨by kernel_rfl, by kernel_rfl, by kernel_rfl, by kernel_rfl, by kernel_rfl, by kernel_rfl, by kernel_rfl, [], by kernel_rfl⟩
theorem Ones_spec {S : Nat} (h : S < 4096) : APure Try.prog 124 [.int .u64 (S : Int)] (.int .i64 (popN S : Int)) := by
  have s := Ones64_spec (S : Int)
  rw [cnt_pop h] at s
  exact APure.vcM Try.func124 (.call (.int .i64 (popN S : Int)) .nil) rfl rfl ⟨s, [], by kernel_rfl⟩
theorem wrapU {n : Int} (h1 : 0 ≤ n) (h2 : n ≤ 9223372036854775807) : IntKind.u64.wrap n = n := by
  unfold IntKind.wrap
  have e1 : (2 : Int) ^ IntKind.u64.bits = 18446744073709551616 := by decide
  simp only [e1, IntKind.signed, Bool.false_and, Bool.false_eq_true, if_false]
  omega
theorem xorN_lt {a b : Nat} (ha : a < 4096) (hb : b < 4096) : a ^^^ b < 4096 := Nat.xor_lt_two_pow (n := 12) ha hb
theorem xor64 {a b : Nat} (ha : a < 4096) (hb : b < 4096) : (BitVec.ofInt 64 (a : Int) ^^^ BitVec.ofInt 64 (b : Int)).toNat = a ^^^ b := by
  rw [BitVec.ofInt_natCast, BitVec.ofInt_natCast, BitVec.toNat_xor, BitVec.toNat_ofNat, BitVec.toNat_ofNat, Nat.mod_eq_of_lt (by omega), Nat.mod_eq_of_lt (by omega)]
theorem bXor {a b : Nat} (ha : a < 4096) (hb : b < 4096) : IntKind.i64.wrap (BitVec.ofInt IntKind.i64.bits (a : Int) ^^^ BitVec.ofInt IntKind.i64.bits (b : Int)).toNat = ((a ^^^ b : Nat) : Int) := by
  have e : (BitVec.ofInt IntKind.i64.bits (a : Int) ^^^ BitVec.ofInt IntKind.i64.bits (b : Int)).toNat = a ^^^ b := xor64 ha hb
  rw [e]
  have := xorN_lt ha hb
  exact wrap64 (by omega) (by omega)
/-- Where two sets differ first, the one has it. -/
def firB (a b : Nat) : Bool := (IntKind.i64.wrap (BitVec.ofInt IntKind.i64.bits ((a &&& (a ^^^ b) : Nat) : Int) &&& BitVec.ofInt IntKind.i64.bits (IntKind.i64.wrap (0 - ((a ^^^ b : Nat) : Int)))).toNat != 0)
def befB (a b : Nat) : Bool := if popN a ≠ popN b then decide (popN a < popN b) else firB a b
end Go.Proofs.Ytmdhgkfjlphliaa
/-
  WHICH SET COMES BEFORE.
-/
namespace Go.Proofs.Ytmdhgkfjlphliaa
open Go Go.Am
set_option maxRecDepth 100000
set_option maxHeartbeats 4000000
theorem isBefore_spec {a b : Nat} (ha : a < 4096) (hb : b < 4096) : APure Try.prog 108 [.int .i64 (a : Int), .int .i64 (b : Int)] (.bool (befB a b)) := by
  have s1 := Ones_spec ha
  have s2 := Ones_spec hb
  have w1 : IntKind.u64.wrap (a : Int) = (a : Int) := wrapU (by omega) (by omega)
  have w2 : IntKind.u64.wrap (b : Int) = (b : Int) := wrapU (by omega) (by omega)
  have v9 : some (⟨.int .u64 (IntKind.u64.wrap (a : Int)), []⟩ : Out) = some ⟨.int .u64 (a : Int), []⟩ := by rw [w1]
  have v12 : some (⟨.int .u64 (IntKind.u64.wrap (b : Int)), []⟩ : Out) = some ⟨.int .u64 (b : Int), []⟩ := by rw [w2]
  have hx := xorN_lt ha hb
  have v22 : some (⟨.int .i64 (IntKind.i64.wrap (BitVec.ofInt IntKind.i64.bits (a : Int) ^^^ BitVec.ofInt IntKind.i64.bits (b : Int)).toNat), []⟩ : Out) = some ⟨.int .i64 ((a ^^^ b : Nat) : Int), []⟩ := by rw [bXor ha hb]
  have v25 : some (⟨.int .i64 (IntKind.i64.wrap (BitVec.ofInt IntKind.i64.bits (a : Int) &&& BitVec.ofInt IntKind.i64.bits ((a ^^^ b : Nat) : Int)).toNat), []⟩ : Out) = some ⟨.int .i64 ((a &&& (a ^^^ b) : Nat) : Int), []⟩ := by rw [bAnd ha hx]
  have ef : firB a b = (IntKind.i64.wrap (BitVec.ofInt IntKind.i64.bits ((a &&& (a ^^^ b) : Nat) : Int) &&& BitVec.ofInt IntKind.i64.bits (IntKind.i64.wrap (0 - ((a ^^^ b : Nat) : Int)))).toNat != 0) := rfl
  by_cases h : popN a = popN b
  · have d16 : ((popN a : Int) != (popN b : Int)) = false := by rw [h]; simp
    have e : befB a b = firB a b := if_neg fun h2 => h2 h
    rw [e]
    have ev : thaw 8 (hget []) (.bool (IntKind.i64.wrap (BitVec.ofInt IntKind.i64.bits ((a &&& (a ^^^ b) : Nat) : Int) &&& BitVec.ofInt IntKind.i64.bits (IntKind.i64.wrap (0 - ((a ^^^ b : Nat) : Int)))).toNat != 0)) = some (.bool (firB a b), []) := by rw [ef]; unfold thaw; exact if_pos rfl
    generalize popN a = A at *
    generalize popN b = B at *
    generalize a &&& (a ^^^ b) = D at *
    generalize a ^^^ b = X at *
    exact APure.vcM Try.func108 (.val 9 (.int .u64 (a : Int)) [] <| .call (.int .i64 (A : Int)) <| .val 12 (.int .u64 (b : Int)) [] <| .call (.int .i64 (B : Int)) <| .br 16 false <| .val 22 (.int .i64 (X : Int)) [] <| .val 25 (.int .i64 (D : Int)) [] .nil) rfl rfl
      ⟨Eq.trans (by kernel_rfl) v9, s1, Eq.trans (by kernel_rfl) v12, s2, d16, Eq.trans (by kernel_rfl) v22, Eq.trans (by kernel_rfl) v25, [], Eq.trans (by kernel_rfl) ev⟩
  · have d16 : ((popN a : Int) != (popN b : Int)) = true := bne_iff_ne.2 (by omega)
    have e : befB a b = decide (popN a < popN b) := if_pos h
    have e2 : decide ((popN a : Int) < (popN b : Int)) = befB a b := by rw [e]; exact decide_eq_decide.2 (by omega)
    have ev : thaw 8 (hget []) (.bool (decide ((popN a : Int) < (popN b : Int)))) = some (.bool (befB a b), []) := by rw [e2]; unfold thaw; exact if_pos rfl
    generalize befB a b = R at *
    generalize popN a = A at *
    generalize popN b = B at *
    exact APure.vcM Try.func108 (.val 9 (.int .u64 (a : Int)) [] <| .call (.int .i64 (A : Int)) <| .val 12 (.int .u64 (b : Int)) [] <| .call (.int .i64 (B : Int)) <| .br 16 true .nil) rfl rfl
      ⟨Eq.trans (by kernel_rfl) v9, s1, Eq.trans (by kernel_rfl) v12, s2, d16, [], Eq.trans (by kernel_rfl) ev⟩
end Go.Proofs.Ytmdhgkfjlphliaa
/-
  THE FEWEST; WHAT A RECORD RESTS ON.
-/
namespace Go.Proofs.Ytmdhgkfjlphliaa
open Go Go.Am
set_option maxRecDepth 100000
set_option maxHeartbeats 4000000
/-! ### the fewest -/
def fewB (of : Nat) (p : Nat → Bool) (b k : Nat) : Bool := (((lessN k of : Nat) : Int) == 0) && (befB k b && p k)
def fewK (of : Nat) (p : Nat → Bool) : Nat → Nat
  | 0 => of
  | k + 1 => if fewB of p (fewK of p k) k then k else fewK of p k
def fewV (of : Nat) (p : Nat → Bool) : Nat := fewK of p of
theorem fewK_lt {of : Nat} (p : Nat → Bool) (h : of < 4096) : ∀ k, k ≤ of → fewK of p k < 4096 := by
  intro k
  induction k with
  | zero => intro _; exact h
  | succ k ih =>
    intro hk
    unfold fewK
    split
    · omega
    · exact ih (by omega)
/-! ### what a record rests on -/
def restP (r : List Rcd) (of S : Nat) : Bool := (((S &&& of : Nat) : Int) != 0) && wholeV r S
theorem restP_spec (r : List Rcd) (G : List Int) (of S : Nat) (ha : Ar r) (ho : of < 4096) (hS : S < 4096) : APure Try.prog 80 [.int .i64 (S : Int), .cptr [.int .i64 (of : Int)], .cptr (cAr r G)] (.bool (restP r of S)) := by
  have s := isWhole_spec r G S ha hS
  have v : some (⟨.int .i64 (IntKind.i64.wrap (BitVec.ofInt IntKind.i64.bits (S : Int) &&& BitVec.ofInt IntKind.i64.bits (of : Int)).toNat), []⟩ : Out) = some ⟨.int .i64 ((S &&& of : Nat) : Int), []⟩ := by rw [bAnd hS ho]
  unfold restP
  generalize wholeV r S = W at *
  generalize S &&& of = D at *
  cases c : ((D : Int) != 0)
  · exact APure.vcM Try.func80 (.val 7 (.int .i64 (D : Int)) [] <| .br 9 false .nil) rfl rfl ⟨Eq.trans (by kernel_rfl) v, c, [], by kernel_rfl⟩
  · exact APure.vcM Try.func80 (.val 7 (.int .i64 (D : Int)) [] <| .br 9 true <| .call (.bool W) .nil) rfl rfl ⟨Eq.trans (by kernel_rfl) v, c, s, [], by kernel_rfl⟩
theorem rest_fewest (of : Nat) (ho : of < 4096) (q : Nat) (hq : q < 4096) (r : List Rcd) (G : List Int) (ha : Ar r) : APure Try.prog 79 [.int .i64 (of : Int), .fn (.func 80) [] [.cptr [.int .i64 (q : Int)], .cptr (cAr r G)]] (.int .i64 (fewV of (restP r q) : Int)) := by
  unfold fewV
  refine APure.vcM Try.func79 .loop rfl rfl ?_
  intro g hn hlo
  replace hn : g.n = 29 := hn
  replace hlo : g.low 0 := hlo
  refine acode_whileW (fun k : Nat => ⟨[(0, .int .i64 (of : Int)), (1, .fn (.func 80) [] [.cptr [.int .i64 (q : Int)], .cptr (cAr r G)]), (5, .int .i64 (fewK of (restP r q) k : Int)), (8, .int .i64 (of : Int)), (9, .int .i64 k)], [], 0⟩) (fun k => k ≤ of) (fun k => of - k) 0 (Nat.zero_le _) ?_ ?_
  · exact Wk.le (St.le.of ⟨by kernel_rfl, rfl, by kernel_rfl, rfl, by kernel_rfl, rfl, by kernel_rfl, rfl, by kernel_rfl, rfl, trivial⟩ trivial) hlo
  · intro k hk
    replace hk : k ≤ of := hk
    by_cases hlt : k < of
    · have ek := congrArg (AV.int .i64) (succ64 (k := k) (by omega))
      have d10 : decide ((k : Int) < (of : Int)) = true := decide_eq_true (by omega)
      have hbl := fewK_lt (restP r q) ho k (by omega)
      have es : fewK of (restP r q) (k + 1) = if fewB of (restP r q) (fewK of (restP r q) k) k then k else fewK of (restP r q) k := rfl
      have v14 : some (⟨.int .i64 (IntKind.i64.wrap (BitVec.ofInt IntKind.i64.bits (k : Int) &&& ~~~BitVec.ofInt IntKind.i64.bits (of : Int)).toNat), []⟩ : Out) = some ⟨.int .i64 ((lessN k of : Nat) : Int), []⟩ := by rw [bLess (by omega)]
      have sB := isBefore_spec (a := k) (b := fewK of (restP r q) k) (by omega) hbl
      have hk4 : k < 4096 := by omega
      have sP := restP_spec r G q k ha hq hk4
      unfold fewB at es
      cases c1 : (((lessN k of : Nat) : Int) == 0)
      · rw [c1] at es
        have es : AV.int .i64 (fewK of (restP r q) k : Int) = .int .i64 (fewK of (restP r q) (k + 1) : Int) := by rw [es]; rfl
        generalize lessN k of = D at *
        exact ACode.vcM (.br 10 true <| .val 14 (.int .i64 (D : Int)) [] <| .br 16 false .nil) hn hlo (.roundW .cl) ⟨d10, Eq.trans (by kernel_rfl) v14, c1, k + 1, hlt, mu1 hlt, Wk.le (St.le.of ⟨by kernel_rfl, rfl, by kernel_rfl, rfl, Eq.trans (by kernel_rfl) es, rfl, by kernel_rfl, rfl, Eq.trans (by kernel_rfl) ek, rfl, trivial⟩ trivial) hlo⟩
      · rw [c1] at es
        generalize lessN k of = D at *
        cases c2 : befB k (fewK of (restP r q) k)
        · rw [c2] at es sB
          have es : AV.int .i64 (fewK of (restP r q) k : Int) = .int .i64 (fewK of (restP r q) (k + 1) : Int) := by rw [es]; rfl
          exact ACode.vcM (.br 10 true <| .val 14 (.int .i64 (D : Int)) [] <| .br 16 true <| .call (.bool false) .nil) hn hlo (.roundW .cl) ⟨d10, Eq.trans (by kernel_rfl) v14, c1, sB, k + 1, hlt, mu1 hlt, Wk.le (St.le.of ⟨by kernel_rfl, rfl, by kernel_rfl, rfl, Eq.trans (by kernel_rfl) es, rfl, by kernel_rfl, rfl, Eq.trans (by kernel_rfl) ek, rfl, trivial⟩ trivial) hlo⟩
        · rw [c2] at es sB
          cases c3 : (restP r q) k
          · rw [c3] at es sP
            have es : AV.int .i64 (fewK of (restP r q) k : Int) = .int .i64 (fewK of (restP r q) (k + 1) : Int) := by rw [es]; rfl
            exact ACode.vcM (.br 10 true <| .val 14 (.int .i64 (D : Int)) [] <| .br 16 true <| .call (.bool true) <| .call (.bool false) .nil) hn hlo (.roundW .cl) ⟨d10, Eq.trans (by kernel_rfl) v14, c1, sB, sP, k + 1, hlt, mu1 hlt, Wk.le (St.le.of ⟨by kernel_rfl, rfl, by kernel_rfl, rfl, Eq.trans (by kernel_rfl) es, rfl, by kernel_rfl, rfl, Eq.trans (by kernel_rfl) ek, rfl, trivial⟩ trivial) hlo⟩
          · rw [c3] at es sP
            have es : AV.int .i64 (k : Int) = .int .i64 (fewK of (restP r q) (k + 1) : Int) := by rw [es]; rfl
            exact ACode.vcM (.br 10 true <| .val 14 (.int .i64 (D : Int)) [] <| .br 16 true <| .call (.bool true) <| .call (.bool true) .nil) hn hlo (.roundW .cl) ⟨d10, Eq.trans (by kernel_rfl) v14, c1, sB, sP, k + 1, hlt, mu1 hlt, Wk.le (St.le.of ⟨by kernel_rfl, rfl, by kernel_rfl, rfl, Eq.trans (by kernel_rfl) es, rfl, by kernel_rfl, rfl, Eq.trans (by kernel_rfl) ek, rfl, trivial⟩ trivial) hlo⟩
    · have hk' : k = of := by omega
      have d10 : decide ((k : Int) < (of : Int)) = false := decide_eq_false (by omega)
      have ev : thaw 8 (hget []) (.int .i64 (fewK of (restP r q) k : Int)) = some (.int .i64 (fewK of (restP r q) of : Int), []) := by rw [hk']; unfold thaw; exact if_pos rfl
      exact ACode.vcM (.br 10 false .nil) hn hlo (.roundW .cl) ⟨d10, _, .refl _, .nil, [], Eq.trans (by kernel_rfl) ev⟩
def restS (r : List Rcd) (G : List Int) (id : Int) : Nat := fewV (setK (gF G) r r.length) (restP r (sV r id r.length))
theorem rests_spec (r : List Rcd) (G : List Int) (id : Int) (ha : Ar r) : APure Try.prog 54 [encAr r G, .int .i64 id] (.int .i64 (restS r G id : Int)) := by
  have s1 := setOf_spec r G id ha.len
  have s2 := standing_spec r G ha
  have hq := sV_lt (r := r) (id := id) ha.len
  have s3 := rest_fewest (setK (gF G) r r.length) (setK_4096 ha.len) (sV r id r.length) hq r G ha
  unfold restS
  generalize fewV (setK (gF G) r r.length) (restP r (sV r id r.length)) = F at *
  generalize setK (gF G) r r.length = A at *
  generalize sV r id r.length = Q at *
  exact APure.vcM Try.func54 (.lent (.int .i64 (Q : Int)) [1] <| .call (.int .i64 (A : Int)) <| .lent (.int .i64 (F : Int)) [2, 0] .nil) rfl rfl ⟨⟨_, by kernel_rfl, .inl ⟨s1, .inr rfl⟩⟩, s2, ⟨_, by kernel_rfl, .inl ⟨s3, .inr rfl⟩⟩, [], by kernel_rfl⟩
end Go.Proofs.Ytmdhgkfjlphliaa

import Derived.Test.YtjoagmjijbfjkaaGreatDoorSX
import Derived.LoopN
/-
  THE ORDER OF SETS, as the library's sort asks it.
-/
namespace Go.Proofs.YtjoagmjijbfjkaaGreatDoor
open Go Go.Am Go.Shelf Go.RowKit Go.Lib Go.Sort
set_option maxRecDepth 100000
set_option maxHeartbeats 4000000
theorem ones64 (x : Fin 256) (W : World) : Calls Tryz.prog 162 #[.int .u64 (x.val : Int)] W fun e w' => e = .returned (.int .i64 (popD x.val : Int)) ∧ w' = W := by
  go_enter Tryz.func162, Tryz.ntmps162
  go_wp2
  go_ret
  refine ⟨?_, rfl⟩
  change Ending.returned (.int .i64 _) = _
  refine congrArg (fun n => Ending.returned (.int .i64 n)) ?_
  revert x
  decide +kernel
theorem ones (x : Fin 256) (W : World) : Calls Tryz.prog 139 #[.int .u64 (x.val : Int)] W fun e w' => e = .returned (.int .i64 (popD x.val : Int)) ∧ w' = W := by
  have h := ones64 x W
  change Calls Tryz.prog 162 _ _ _ at h
  generalize (popD x.val : Int) = r at h ⊢
  go_enter Tryz.func139, Tryz.ntmps139
  go_wp2_with (go_at_call 162; refine h.mono ?_; rintro e w' ⟨rfl, rfl⟩)
  go_ret
  exact ⟨rfl, rfl⟩
theorem or2 (x y r : Int) (b o : Nat) (W : World) (hx : W.cell? ⟨b, o, none⟩ = some (.int .i64 x)) (hy : W.cell? ⟨b, o + 1, none⟩ = some (.int .i64 y)) (h1 : x ≠ 0 → r = x) (h2 : x = 0 → r = y) : Calls Tryz.prog 138 #[.slice (some ⟨b, o, none⟩) 2 2] W fun e w' => e = .returned (.int .i64 r) ∧ w' = W := by
  go_enter Tryz.func138, Tryz.ntmps138
  go_wp2
  refine wp_loop_rounds 3 ?_
  unfold Code.rounds
  go_wp2
  · rename_i hc
    have e := h1 (by simpa using hc)
    go_ret
    exact ⟨by rw [e]; rfl, rfl⟩
  · rename_i hc
    have e0 : x = 0 := by simpa using hc
    unfold Code.rounds
    go_wp2
    · go_ret
      first | exact ⟨rfl, rfl⟩ | exact ⟨by rw [h2 e0]; rfl, rfl⟩
    · rename_i hd
      have e1 : y = 0 := by simpa using hd
      unfold Code.rounds
      go_wp2
      go_ret
      first | exact ⟨rfl, rfl⟩ | exact ⟨by rw [e1]; rfl, rfl⟩ | exact ⟨by rw [h2 e0, e1]; rfl, rfl⟩
/-- What the program's order answers. -/
def cfO (a b : Fin 256) : Int :=
  if popD a.val ≠ popD b.val then Lib.compareInt (popD a.val) (popD b.val)
  else let x := a.val ^^^ b.val; let m := x &&& ((256 - x) &&& 255); Lib.compareInt (b.val &&& m : Nat) (a.val &&& m : Nat)
theorem cmp_nat (p q : Nat) : decide (Lib.compareInt (p : Int) (q : Int) < 0) = decide (p < q) := by
  unfold Lib.compareInt
  by_cases h1 : p < q
  · rw [if_pos (by omega), decide_eq_true h1]; rfl
  · rw [if_neg (by omega), decide_eq_false h1]
    split <;> rfl
theorem cfO_lt (a b : Fin 256) : ltOf cfO a b = ordD a.val b.val := by
  unfold ltOf cfO ordD
  by_cases h : popD a.val ≠ popD b.val
  · rw [if_pos h, if_pos h]
    unfold Lib.compareInt
    by_cases h1 : popD a.val < popD b.val
    · rw [if_pos (by omega), decide_eq_true h1]; rfl
    · rw [if_neg (by omega), decide_eq_false h1]
      split <;> rfl
  · rw [if_neg h, if_neg h]
    exact cmp_nat _ _
theorem swoO : SWO (ltOf cfO) where
  irrefl x := by rw [cfO_lt]; exact ordD_ord.self x.val x.isLt
  trans x y z h1 h2 := by rw [cfO_lt] at *; exact ordD_ord.trans _ _ _ x.isLt y.isLt z.isLt h1 h2
  ntrans x y z h1 h2 := by
    rw [cfO_lt] at *
    cases h : ordD x.val z.val
    · rfl
    · exfalso
      cases h3 : ordD y.val x.val
      · have := ordD_ord.tot _ _ x.isLt y.isLt h1 h3
        rw [this, h2] at h; cases h
      · have := ordD_ord.trans _ _ _ y.isLt x.isLt z.isLt h3 h
        rw [this] at h2; cases h2
theorem bitsAnd {a b : Nat} (ha : a < 4096) (hb : b < 4096) : bits BinOp.and IntKind.i64 (a : Int) (b : Int) = ((a &&& b : Nat) : Int) := bAnd ha hb
theorem xor64 {a b : Nat} (ha : a < 4096) (hb : b < 4096) : (BitVec.ofInt 64 (a : Int) ^^^ BitVec.ofInt 64 (b : Int)).toNat = a ^^^ b := by
  rw [BitVec.ofInt_natCast, BitVec.ofInt_natCast, BitVec.toNat_xor, BitVec.toNat_ofNat, BitVec.toNat_ofNat, Nat.mod_eq_of_lt (by omega), Nat.mod_eq_of_lt (by omega)]
theorem bitsXor {a b : Nat} (ha : a < 4096) (hb : b < 4096) : bits BinOp.xor IntKind.i64 (a : Int) (b : Int) = ((a ^^^ b : Nat) : Int) := by
  have e : (BitVec.ofInt IntKind.i64.bits (a : Int) ^^^ BitVec.ofInt IntKind.i64.bits (b : Int)).toNat = a ^^^ b := xor64 ha hb
  have h : a ^^^ b < 4096 := Nat.xor_lt_two_pow (n := 12) ha hb
  show IntKind.i64.wrap (BitVec.ofInt IntKind.i64.bits (a : Int) ^^^ BitVec.ofInt IntKind.i64.bits (b : Int)).toNat = _
  rw [e]
  exact Am.wrap64 (by omega) (by omega)
theorem lowBit : ∀ x : Fin 256, bits BinOp.and IntKind.i64 (x.val : Int) (RowKit.wrap64 (-(x.val : Int))) = ((x.val &&& ((256 - x.val) &&& 255) : Nat) : Int) := by decide +kernel
theorem cmp_zero (p q : Nat) : Lib.compareInt (p : Int) (q : Int) = 0 ↔ p = q := by
  unfold Lib.compareInt
  by_cases h1 : p < q
  · rw [if_pos (by omega)]; constructor <;> intro h <;> omega
  · by_cases h2 : q < p
    · rw [if_neg (by omega), if_pos (by omega)]; constructor <;> intro h <;> omega
    · rw [if_neg (by omega), if_neg (by omega)]; constructor <;> intro h <;> omega
theorem cfO_or (a b : Fin 256) : (Lib.compareInt (popD a.val : Int) (popD b.val : Int) ≠ 0 → cfO a b = Lib.compareInt (popD a.val : Int) (popD b.val : Int)) ∧
    (Lib.compareInt (popD a.val : Int) (popD b.val : Int) = 0 → cfO a b = Lib.compareInt (bits BinOp.and IntKind.i64 (b.val : Int) (bits BinOp.and IntKind.i64 (bits BinOp.xor IntKind.i64 (a.val : Int) (b.val : Int)) (RowKit.wrap64 (-bits BinOp.xor IntKind.i64 (a.val : Int) (b.val : Int)))))
      (bits BinOp.and IntKind.i64 (a.val : Int) (bits BinOp.and IntKind.i64 (bits BinOp.xor IntKind.i64 (a.val : Int) (b.val : Int)) (RowKit.wrap64 (-bits BinOp.xor IntKind.i64 (a.val : Int) (b.val : Int)))))) := by
  have ha := a.isLt
  have hb := b.isLt
  have hx : a.val ^^^ b.val < 256 := Nat.xor_lt_two_pow (n := 8) ha hb
  have hm : (a.val ^^^ b.val) &&& ((256 - (a.val ^^^ b.val)) &&& 255) < 256 := Nat.lt_of_le_of_lt Nat.and_le_left hx
  have lb := lowBit ⟨a.val ^^^ b.val, hx⟩
  refine ⟨fun h => ?_, fun h => ?_⟩
  · unfold cfO
    rw [if_pos (fun q => h ((cmp_zero _ _).2 q))]
  · have hp := (cmp_zero _ _).1 h
    unfold cfO
    rw [if_neg (fun q => q hp), bitsXor (by omega) (by omega)]
    have lb2 : bits BinOp.and IntKind.i64 ((a.val ^^^ b.val : Nat) : Int) (RowKit.wrap64 (-((a.val ^^^ b.val : Nat) : Int))) = (((a.val ^^^ b.val) &&& ((256 - (a.val ^^^ b.val)) &&& 255) : Nat) : Int) := lb
    rw [lb2, bitsAnd (by omega) (by omega), bitsAnd (by omega) (by omega)]
theorem inOrder_calls (a b : Fin 256) (W : World) : Calls Tryz.prog 123 #[.int .i64 (a.val : Int), .int .i64 (b.val : Int)] W fun e w' => e = .returned (.int .i64 (cfO a b)) ∧ ∃ q os', w' = grow (W.drewN q) os' := by
  have o1 := fun W' => ones a W'
  have o2 := fun W' => ones b W'
  have c1 := fun W' => AnyG.cmp_Compare_int XcmpL (popD a.val : Int) (popD b.val : Int) W'
  have c2 := fun p q W' => AnyG.cmp_Compare_int XcmpL p q W'
  change ∀ W', Calls Tryz.prog 139 _ _ _ at o1
  change ∀ W', Calls Tryz.prog 139 _ _ _ at o2
  change ∀ W', Calls Tryz.prog 105 _ _ _ at c1
  change ∀ p q W', Calls Tryz.prog 105 _ _ _ at c2
  go_enter Tryz.func123, Tryz.ntmps123
  go_wp2_with (first | (go_at_call 139; refine (o1 _).mono ?_; rintro e w' ⟨rfl, rfl⟩) | (go_at_call 139; refine (o2 _).mono ?_; rintro e w' ⟨rfl, rfl⟩) | (go_at_call 105; refine (c2 _ _ _).mono ?_; rintro e w' ⟨rfl, rfl⟩))
  refine (or2 _ _ (cfO a b) _ 0 _ ((World.cell?_alloc_at _ _ _ 0 rfl).trans rfl) ((World.cell?_alloc_at _ _ _ 1 rfl).trans rfl) (fun h => ?_) (fun h => ?_)).mono ?_
  · exact (cfO_or a b).1 h
  · exact (cfO_or a b).2 h
  · rintro e w' ⟨rfl, rfl⟩
    go_wp2
    go_ret
    exact ⟨rfl, 0, _, by rw [alloc_eq_grow]; rfl⟩
end Go.Proofs.YtjoagmjijbfjkaaGreatDoor
/-
  SETS OF MARKS, sorted; the Ids of a set.
-/
namespace Go.Proofs.YtjoagmjijbfjkaaGreatDoor
open Go Go.Am Go.Shelf Go.RowKit Go.Lib Go.Sort
set_option maxRecDepth 100000
set_option maxHeartbeats 4000000
def toF (i : Nat) : Fin 256 := ⟨i % 256, Nat.mod_lt _ (by decide)⟩
def setsF (n : Nat) : List (Fin 256) := (List.range (2 ^ n)).map toF
def setsR (n : Nat) : List Int := (List.range (2 ^ n)).map fun (i : Nat) => (i : Int)
theorem setsF_val {n : Nat} (hn : n ≤ 8) : (setsF n).map (fun x => (x.val : Int)) = setsR n := by
  unfold setsF setsR
  rw [List.map_map]
  refine List.map_congr_left fun i hi => ?_
  have h1 := List.mem_range.1 hi
  have h2 : 2 ^ n ≤ 2 ^ 8 := Nat.pow_le_pow_right (by decide) hn
  have h3 : (2 : Nat) ^ 8 = 256 := by decide
  show ((i % 256 : Nat) : Int) = i
  rw [Nat.mod_eq_of_lt (by omega)]
theorem setsF_len (n : Nat) : (setsF n).length = 2 ^ n := by unfold setsF; rw [List.length_map, List.length_range]
theorem setsR_len (n : Nat) : (setsR n).length = 2 ^ n := by unfold setsR; rw [List.length_map, List.length_range]
/-- What the library's sort makes of the sets. -/
def setsP (n : Nat) : List (Fin 256) := (pdq (ltOf cfO) (setsF n).toArray 0 (setsF n).length (Lib.bitLen (setsF n).length) true true).toList
def setsN (n : Nat) : List Nat := (setsP n).map (·.val)
def setsI (n : Nat) : List Int := (setsN n).map fun (i : Nat) => (i : Int)
theorem setsP_facts (n : Nat) : (setsP n).Perm (setsF n) ∧ (setsP n).Pairwise (fun a b => ltOf cfO b a = false) := by
  have h := pdq_sorts (ltOf cfO) swoO (setsF n).toArray 0 (setsF n).length (Lib.bitLen (setsF n).length) true true (Nat.zero_le _) (by simp) (Or.inl rfl)
  have hp2 := perm_of_in h.1
  refine ⟨hp2, ?_⟩
  have hl2 := hp2.length_eq
  have hd : (pdq (ltOf cfO) (setsF n).toArray 0 (setsF n).length (Lib.bitLen (setsF n).length) true true).size = (setsF n).length := by simpa using hl2
  have hso2 : SortedIn (ltOf cfO) 0 (pdq (ltOf cfO) (setsF n).toArray 0 (setsF n).length (Lib.bitLen (setsF n).length) true true).size (pdq (ltOf cfO) (setsF n).toArray 0 (setsF n).length (Lib.bitLen (setsF n).length) true true) := by rw [hd]; exact h.2
  exact sorted_pw hso2
theorem setsN_facts {n : Nat} (hn : n ≤ 8) : (∀ a, a ∈ setsN n ↔ a < 2 ^ n) ∧ (setsN n).Pairwise (fun a b => ordD b a = false) := by
  obtain ⟨h1, h2⟩ := setsP_facts n
  have h8 : 2 ^ n ≤ 2 ^ 8 := Nat.pow_le_pow_right (by decide) hn
  have h9 : (2 : Nat) ^ 8 = 256 := by decide
  refine ⟨fun a => ?_, ?_⟩
  · unfold setsN
    rw [(h1.map _).mem_iff]
    unfold setsF
    rw [List.map_map, List.mem_map]
    constructor
    · rintro ⟨i, hi, rfl⟩
      have := List.mem_range.1 hi
      show i % 256 < 2 ^ n
      rw [Nat.mod_eq_of_lt (by omega)]; exact this
    · intro h
      exact ⟨a, List.mem_range.2 h, by show a % 256 = a; exact Nat.mod_eq_of_lt (by omega)⟩
  · unfold setsN
    rw [List.pairwise_map]
    exact h2.imp fun {a b} q => by rw [← cfO_lt]; exact q
theorem put_fin (w : World) (blk : Nat) (S : List (Fin 256)) : putRow (fun x : Fin 256 => Value.int .i64 (x.val : Int)) w blk 0 S.toArray = putRow (Value.int .i64) w blk 0 (S.map fun x => (x.val : Int)).toArray := by
  unfold putRow
  congr 1
  funext c
  unfold putCells
  refine Array.ext (by simp) fun k h1 h2 => ?_
  have hs2 : ((S.map fun x => (x.val : Int)).toArray).size = S.toArray.size := by simp
  simp only [Array.getElem_mapIdx, hs2]
  by_cases hk : 0 ≤ k ∧ k < 0 + S.toArray.size
  · rw [if_pos hk, if_pos hk]
    have hk2 : k < S.length := by have := hk.2; simpa using this
    simp [hk2]
  · rw [if_neg hk, if_neg hk]
theorem uniq_int : ∀ f, Tryz.prog.funcs[f]? = some Tryz.f122 → f = 122 := by
  intro f hf
  have hu : ((List.range Tryz.prog.funcs.size).all fun i => i == 122 || !((Tryz.prog.funcs[i]?).map (·.name) == some Tryz.f122.name)) = true := by kernel_rfl
  have hlt : f < Tryz.prog.funcs.size := by
    rcases Nat.lt_or_ge f Tryz.prog.funcs.size with h | h
    · exact h
    · rw [Array.getElem?_eq_none h] at hf; cases hf
  have := List.all_eq_true.1 hu f (List.mem_range.2 hlt)
  rw [hf] at this
  simpa using this
def SetQ (n : Nat) (cs : List AV) : Prop := cs = iL (setsI n)
theorem SortSet_mut {n N : Nat} (hn : n ≤ 8) (hN : N = 2 ^ n) : AMut Tryz.prog Tryz.f122 N 1 [.fn (.func 123) [] []] (iL (setsR n)) .undef (SetQ n) := by
  have hp0 : 0 < 2 ^ n := Nat.pow_pos (by decide)
  refine sorted_mut uniq_int (by rw [setsR_len, hN, Nat.mul_one]) (by rw [setsR_len]; exact hp0) fun w blk cap hH hblk => ?_
  have eg : ∀ args w, (callFunc 123 args).run Tryz.prog w = .ok (.enter 123 args) w := enters_of Tryz.func123 (by kernel_rfl) rfl
  have hHK : Holds (fun x : Fin 256 => Value.int .i64 (x.val : Int)) w blk 0 (setsF n).toArray := fun j hj => by
    have hj2 : j < (setsF n).length := by simpa using hj
    have := hH j (by rw [List.size_toArray, setsR_len, ← setsF_len]; exact hj2)
    refine ⟨?_, this.2⟩
    rw [this.1, ← setsF_val hn]
    simp [hj2]
  have hsz : (setsF n).toArray.size = 2 ^ n := by simp [setsF_len]
  have h8 : 2 ^ n ≤ 2 ^ 8 := Nat.pow_le_pow_right (by decide) hn
  have h9 : (2 : Nat) ^ 8 = 256 := by decide
  have hcon := Any.slices_SortFunc_eq XintsL (fun x : Fin 256 => Value.int .i64 (x.val : Int)) (fun _ => rfl) cfO swoO 123 #[] blk 0 cap (setsF n).toArray w eg (fun _ _ _ _ x y => inOrder_calls x y _) hHK hblk (by rw [hsz]; omega)
  rw [hsz] at hcon
  rw [hN]
  refine hcon.mono ?_
  rintro e w' ⟨rfl, m, os, rfl⟩
  have hl2 : (setsP n).length = 2 ^ n := by rw [(setsP_facts n).1.length_eq, setsF_len]
  refine ⟨rfl, setsI n, m, os, by unfold setsI setsN; rw [List.length_map, List.length_map, hl2, setsR_len], rfl, ?_⟩
  unfold sortWorld
  have := put_fin (Sort.ahead w m) blk (setsP n)
  unfold setsP at this
  rw [Array.toArray_toList, setsF_len] at this
  rw [this]
  unfold setsI setsN setsP
  rw [List.map_map, setsF_len]; rfl
end Go.Proofs.YtjoagmjijbfjkaaGreatDoor

import Derived.Test.YtiggnliiigcjaaaDoorE22
/-
  A slice of one repeated: the length of it.
-/
namespace Go.Proofs.YtiggnliiigcjaaaDoor
open Go Go.Am
set_option maxRecDepth 100000
set_option maxHeartbeats 1000000
theorem mul_1 : APure Tryd.prog 104 [.int .u64 1, .int .u64 1] (.tup [.int .u64 0, .int .u64 1]) := APure.vcM Tryd.func104 (.inl Tryd.f117 .nil) rfl rfl ⟨Tryd.func117, [], by kernel_rfl⟩
theorem mul_2 : APure Tryd.prog 104 [.int .u64 1, .int .u64 2] (.tup [.int .u64 0, .int .u64 2]) := APure.vcM Tryd.func104 (.inl Tryd.f117 .nil) rfl rfl ⟨Tryd.func117, [], by kernel_rfl⟩
theorem mul_3 : APure Tryd.prog 104 [.int .u64 1, .int .u64 3] (.tup [.int .u64 0, .int .u64 3]) := APure.vcM Tryd.func104 (.inl Tryd.f117 .nil) rfl rfl ⟨Tryd.func117, [], by kernel_rfl⟩
theorem mul_4 : APure Tryd.prog 104 [.int .u64 1, .int .u64 4] (.tup [.int .u64 0, .int .u64 4]) := APure.vcM Tryd.func104 (.inl Tryd.f117 .nil) rfl rfl ⟨Tryd.func117, [], by kernel_rfl⟩
theorem mul_5 : APure Tryd.prog 104 [.int .u64 1, .int .u64 5] (.tup [.int .u64 0, .int .u64 5]) := APure.vcM Tryd.func104 (.inl Tryd.f117 .nil) rfl rfl ⟨Tryd.func117, [], by kernel_rfl⟩
theorem mul_6 : APure Tryd.prog 104 [.int .u64 1, .int .u64 6] (.tup [.int .u64 0, .int .u64 6]) := APure.vcM Tryd.func104 (.inl Tryd.f117 .nil) rfl rfl ⟨Tryd.func117, [], by kernel_rfl⟩
theorem mul_7 : APure Tryd.prog 104 [.int .u64 1, .int .u64 7] (.tup [.int .u64 0, .int .u64 7]) := APure.vcM Tryd.func104 (.inl Tryd.f117 .nil) rfl rfl ⟨Tryd.func117, [], by kernel_rfl⟩
theorem mul_8 : APure Tryd.prog 104 [.int .u64 1, .int .u64 8] (.tup [.int .u64 0, .int .u64 8]) := APure.vcM Tryd.func104 (.inl Tryd.f117 .nil) rfl rfl ⟨Tryd.func117, [], by kernel_rfl⟩
theorem mul_9 : APure Tryd.prog 104 [.int .u64 1, .int .u64 9] (.tup [.int .u64 0, .int .u64 9]) := APure.vcM Tryd.func104 (.inl Tryd.f117 .nil) rfl rfl ⟨Tryd.func117, [], by kernel_rfl⟩
theorem mul_10 : APure Tryd.prog 104 [.int .u64 1, .int .u64 10] (.tup [.int .u64 0, .int .u64 10]) := APure.vcM Tryd.func104 (.inl Tryd.f117 .nil) rfl rfl ⟨Tryd.func117, [], by kernel_rfl⟩
theorem mul_11 : APure Tryd.prog 104 [.int .u64 1, .int .u64 11] (.tup [.int .u64 0, .int .u64 11]) := APure.vcM Tryd.func104 (.inl Tryd.f117 .nil) rfl rfl ⟨Tryd.func117, [], by kernel_rfl⟩
theorem mul_12 : APure Tryd.prog 104 [.int .u64 1, .int .u64 12] (.tup [.int .u64 0, .int .u64 12]) := APure.vcM Tryd.func104 (.inl Tryd.f117 .nil) rfl rfl ⟨Tryd.func117, [], by kernel_rfl⟩
theorem mul_13 : APure Tryd.prog 104 [.int .u64 1, .int .u64 13] (.tup [.int .u64 0, .int .u64 13]) := APure.vcM Tryd.func104 (.inl Tryd.f117 .nil) rfl rfl ⟨Tryd.func117, [], by kernel_rfl⟩
theorem mul_14 : APure Tryd.prog 104 [.int .u64 1, .int .u64 14] (.tup [.int .u64 0, .int .u64 14]) := APure.vcM Tryd.func104 (.inl Tryd.f117 .nil) rfl rfl ⟨Tryd.func117, [], by kernel_rfl⟩
theorem mul_15 : APure Tryd.prog 104 [.int .u64 1, .int .u64 15] (.tup [.int .u64 0, .int .u64 15]) := APure.vcM Tryd.func104 (.inl Tryd.f117 .nil) rfl rfl ⟨Tryd.func117, [], by kernel_rfl⟩
theorem mul_16 : APure Tryd.prog 104 [.int .u64 1, .int .u64 16] (.tup [.int .u64 0, .int .u64 16]) := APure.vcM Tryd.func104 (.inl Tryd.f117 .nil) rfl rfl ⟨Tryd.func117, [], by kernel_rfl⟩
theorem mul_17 : APure Tryd.prog 104 [.int .u64 1, .int .u64 17] (.tup [.int .u64 0, .int .u64 17]) := APure.vcM Tryd.func104 (.inl Tryd.f117 .nil) rfl rfl ⟨Tryd.func117, [], by kernel_rfl⟩
theorem mul_18 : APure Tryd.prog 104 [.int .u64 1, .int .u64 18] (.tup [.int .u64 0, .int .u64 18]) := APure.vcM Tryd.func104 (.inl Tryd.f117 .nil) rfl rfl ⟨Tryd.func117, [], by kernel_rfl⟩
theorem mul_19 : APure Tryd.prog 104 [.int .u64 1, .int .u64 19] (.tup [.int .u64 0, .int .u64 19]) := APure.vcM Tryd.func104 (.inl Tryd.f117 .nil) rfl rfl ⟨Tryd.func117, [], by kernel_rfl⟩
theorem mul_20 : APure Tryd.prog 104 [.int .u64 1, .int .u64 20] (.tup [.int .u64 0, .int .u64 20]) := APure.vcM Tryd.func104 (.inl Tryd.f117 .nil) rfl rfl ⟨Tryd.func117, [], by kernel_rfl⟩
theorem mul_21 : APure Tryd.prog 104 [.int .u64 1, .int .u64 21] (.tup [.int .u64 0, .int .u64 21]) := APure.vcM Tryd.func104 (.inl Tryd.f117 .nil) rfl rfl ⟨Tryd.func117, [], by kernel_rfl⟩
theorem mul_22 : APure Tryd.prog 104 [.int .u64 1, .int .u64 22] (.tup [.int .u64 0, .int .u64 22]) := APure.vcM Tryd.func104 (.inl Tryd.f117 .nil) rfl rfl ⟨Tryd.func117, [], by kernel_rfl⟩
theorem mul_23 : APure Tryd.prog 104 [.int .u64 1, .int .u64 23] (.tup [.int .u64 0, .int .u64 23]) := APure.vcM Tryd.func104 (.inl Tryd.f117 .nil) rfl rfl ⟨Tryd.func117, [], by kernel_rfl⟩
theorem mul_24 : APure Tryd.prog 104 [.int .u64 1, .int .u64 24] (.tup [.int .u64 0, .int .u64 24]) := APure.vcM Tryd.func104 (.inl Tryd.f117 .nil) rfl rfl ⟨Tryd.func117, [], by kernel_rfl⟩
theorem mul_spec : ∀ n : Nat, 1 ≤ n → n ≤ 24 → APure Tryd.prog 104 [.int .u64 (IntKind.u64.wrap 1), .int .u64 (IntKind.u64.wrap n)] (.tup [.int .u64 0, .int .u64 n])
  | 0, h, _ => absurd h (by decide)
  | 1, _, _ => mul_1
  | 2, _, _ => mul_2
  | 3, _, _ => mul_3
  | 4, _, _ => mul_4
  | 5, _, _ => mul_5
  | 6, _, _ => mul_6
  | 7, _, _ => mul_7
  | 8, _, _ => mul_8
  | 9, _, _ => mul_9
  | 10, _, _ => mul_10
  | 11, _, _ => mul_11
  | 12, _, _ => mul_12
  | 13, _, _ => mul_13
  | 14, _, _ => mul_14
  | 15, _, _ => mul_15
  | 16, _, _ => mul_16
  | 17, _, _ => mul_17
  | 18, _, _ => mul_18
  | 19, _, _ => mul_19
  | 20, _, _ => mul_20
  | 21, _, _ => mul_21
  | 22, _, _ => mul_22
  | 23, _, _ => mul_23
  | 24, _, _ => mul_24
  | n + 25, _, h => absurd h (by omega)
end Go.Proofs.YtiggnliiigcjaaaDoor
/-
  A slice of one repeated: what is copied.
-/
namespace Go.Proofs.YtiggnliiigcjaaaDoor
open Go Go.Am
set_option maxRecDepth 100000
set_option maxHeartbeats 1000000
theorem splice_is : ∀ (new cs : List AV) (off : Nat), off + new.length ≤ cs.length → splice cs off new = cs.take off ++ new ++ cs.drop (off + new.length)
  | [], cs, off, _ => by simp [splice]
  | x :: r, cs, off, h => by
    have h1 : off < cs.length := by simp at h; omega
    have ih := splice_is r (cs.set off x) (off + 1) (by simp at h ⊢; omega)
    show splice (cs.set off x) (off + 1) r = _
    rw [ih]
    have e1 : (cs.set off x).take (off + 1) = cs.take off ++ [x] := by
      rw [List.take_add_one, List.getElem?_set_self h1, List.take_set_of_le (Nat.le_refl _)]; rfl
    have e2 : (cs.set off x).drop (off + 1 + r.length) = cs.drop (off + (x :: r).length) := by
      rw [List.drop_set_of_lt (by omega)]
      congr 1; simp; omega
    rw [e1, e2]
    simp
def zW : Wal := ⟨0, 0, 0, 0, 0⟩
/-- n walkers, k of which are there. -/
def stW (w : Wal) (n k : Nat) : List Wal := List.replicate k w ++ List.replicate (n - k) zW
theorem stW_len (w : Wal) {n k : Nat} (h : k ≤ n) : (stW w n k).length = n := by simp [stW]; omega
theorem stW_end (w : Wal) (n : Nat) : stW w n n = List.replicate n w := by simp [stW]
theorem rep_wal : ∀ n, rep n (cWa zW) = fl cWa (List.replicate n zW)
  | 0 => rfl
  | n + 1 => by show cWa zW ++ rep n (cWa zW) = _; rw [rep_wal n]; simp [fl, List.replicate_succ]
theorem flW_len (l : List Wal) : (fl cWa l).length = l.length * 5 := fl_len (enc := cWa) (n := 5) (fun _ => rfl) l
theorem flW_app (a b : List Wal) : fl cWa (a ++ b) = fl cWa a ++ fl cWa b := by simp [fl]
theorem wrapN {n : Nat} (h : n ≤ 100) : IntKind.i64.wrap n = n := wrap64 (by omega) (by omega)
theorem mkW {id n : Nat} (hn : n ≤ 24) : aMakeSlice Tryd.prog id 26 (.int .i64 n) (.int .i64 n) = some ⟨.rsl id 0 n 5, [(id, some (.cells (fl cWa (List.replicate n zW))))]⟩ := by
  rw [← rep_wal]
  simp only [aMakeSlice, ty26, ty30]
  rw [if_pos ⟨trivial, by omega, by omega, by simp; omega, by omega, rfl⟩]
  simp; rfl
/-- The first k are copied behind themselves. -/
theorem splW (w : Wal) {n k m : Nat} (h : k + m ≤ n) : splice (fl cWa (stW w n k)) (k * 5) (fl cWa (List.replicate m w)) = fl cWa (stW w n (k + m)) := by
  have hl : (fl cWa (stW w n k)).length = n * 5 := by rw [flW_len, stW_len w (by omega)]
  have hl2 : (fl cWa (List.replicate m w)).length = m * 5 := by rw [flW_len, List.length_replicate]
  have hl3 : (fl cWa (List.replicate k w)).length = k * 5 := by rw [flW_len, List.length_replicate]
  rw [splice_is _ _ _ (by rw [hl, hl2]; omega), hl2]
  have e0 : stW w n k = List.replicate k w ++ (List.replicate m zW ++ List.replicate (n - (k + m)) zW) := by
    unfold stW; rw [List.replicate_append_replicate]; congr 2; omega
  have hl4 : (fl cWa (List.replicate m zW)).length = m * 5 := by rw [flW_len, List.length_replicate]
  have e1 : fl cWa (stW w n k) = fl cWa (List.replicate k w) ++ (fl cWa (List.replicate m zW) ++ fl cWa (List.replicate (n - (k + m)) zW)) := by rw [e0, flW_app, flW_app]
  have e2 : (fl cWa (stW w n k)).take (k * 5) = fl cWa (List.replicate k w) := by rw [e1, ← hl3, List.take_left]
  have e3 : (fl cWa (stW w n k)).drop (k * 5 + m * 5) = fl cWa (List.replicate (n - (k + m)) zW) := by
    rw [e1, ← List.append_assoc, List.drop_left' (by rw [List.length_append, hl3, hl4])]
  rw [e2, e3]
  have e4 : stW w n (k + m) = List.replicate k w ++ List.replicate m w ++ List.replicate (n - (k + m)) zW := by
    unfold stW; rw [List.replicate_append_replicate]
  rw [e4, flW_app, flW_app]
/-- The cells of the first m. -/
theorem takeW (w : Wal) {n k m : Nat} (_h : k ≤ n) (hm : m ≤ k) : ((fl cWa (stW w n k)).drop 0).take (m * 5) = fl cWa (List.replicate m w) := by
  have e0 : stW w n k = List.replicate m w ++ (List.replicate (k - m) w ++ List.replicate (n - k) zW) := by
    unfold stW; rw [← List.append_assoc, List.replicate_append_replicate]; congr 2; omega
  have hl : (fl cWa (List.replicate m w)).length = m * 5 := by rw [flW_len, List.length_replicate]
  rw [List.drop_zero, e0, flW_app, ← hl, List.take_left]
theorem cellW (l : List Wal) : (fl cWa l).all cellB = true := fl_cellB (fun _ => rfl) l
/-- What is there is copied behind it. -/
theorem cpW {h : Nat → Option AObj} {id n k m : Nat} {w : Wal} (h0 : h id = some (.cells (fl cWa (stW w n k)))) (hk : k ≤ n) (hm : m = Nat.min k (n - k)) (_hn : n ≤ 24) :
    aCopy Tryd.prog h 26 (.rsl id (k * 5) (n - k) 5) (.rsl id 0 k 5) = some ⟨.int .i64 m, [(id, some (.cells (fl cWa (stW w n (k + m)))))]⟩ := by
  have hl : (fl cWa (stW w n k)).length = n * 5 := by rw [flW_len, stW_len w hk]
  have hmk : m ≤ k := by rw [hm]; exact Nat.min_le_left _ _
  have hmn : m ≤ n - k := by rw [hm]; exact Nat.min_le_right _ _
  have a1 : srcCells h 5 (.rsl id 0 k 5) = some (fl cWa (List.replicate k w), k) := by
    simp only [srcCells, h0]
    rw [if_pos ⟨trivial, by rw [hl]; omega⟩, takeW w hk (Nat.le_refl _)]
  have a2 : srcCells h 5 (cutS (.rsl id 0 k 5) m) = some (fl cWa (List.replicate m w), m) := by
    simp only [cutS, srcCells, h0]
    rw [if_pos ⟨trivial, by rw [hl]; omega⟩, takeW w hk hmk]
  simp only [aCopy, ty26, ty30, h0]
  have hsz : (5 : Nat) = 5 := rfl
  rw [a1]
  simp only [← hm]
  rw [a2]
  simp only []
  have hl2 : (fl cWa (List.replicate m w)).length = m * 5 := by rw [flW_len, List.length_replicate]
  rw [if_pos ⟨trivial, trivial, by rw [hl, hl2]; omega, cellW _⟩, splW w (by omega)]
/-- The first one is copied to where none is. -/
theorem cp0W {h : Nat → Option AObj} {id n : Nat} {w : Wal} (h0 : h id = some (.cells (fl cWa (List.replicate n zW)))) (h1 : 1 ≤ n) :
    aCopy Tryd.prog h 26 (.rsl id 0 n 5) (encW [w]) = some ⟨.int .i64 1, [(id, some (.cells (fl cWa (stW w n 1))))]⟩ := by
  have hl : (fl cWa (List.replicate n zW)).length = n * 5 := by rw [flW_len, List.length_replicate]
  have hm : Nat.min 1 n = 1 := Nat.min_eq_left h1
  simp only [aCopy, ty26, ty30, h0]
  have a1 : srcCells h 5 (encW [w]) = some (cWa w, 1) := rfl
  have a2 : srcCells h 5 (cutS (encW [w]) 1) = some (cWa w, 1) := rfl
  rw [a1]
  simp only [hm]
  rw [a2]
  simp only []
  have hs := splW w (n := n) (k := 0) (m := 1) (by omega)
  have e0 : stW w n 0 = List.replicate n zW := by simp [stW]
  rw [e0, Nat.zero_mul, Nat.zero_add] at hs
  have e1 : fl cWa (List.replicate 1 w) = cWa w := rfl
  rw [e1] at hs
  rw [if_pos ⟨trivial, trivial, by rw [hl]; show 0 + 5 ≤ n * 5; omega, rfl⟩, hs]; rfl
theorem slA {h : Nat → Option AObj} {id n k : Nat} (hk : k ≤ n) : aSlice Tryd.prog h 26 (.rsl id 0 n 5) (some (.int .i64 k)) none = some (.rsl id (k * 5) (n - k) 5) := by
  simp only [aSlice, ty26, ty30, abound]
  simp [hk]
theorem slB {h : Nat → Option AObj} {id n k : Nat} (hk : k ≤ n) : aSlice Tryd.prog h 26 (.rsl id 0 n 5) none (some (.int .i64 k)) = some (.rsl id 0 k 5) := by
  simp only [aSlice, ty26, ty30, abound]
  simp [hk]
end Go.Proofs.YtiggnliiigcjaaaDoor
/-
  A slice of one repeated.
-/
namespace Go.Proofs.YtiggnliiigcjaaaDoor
open Go Go.Am
set_option maxRecDepth 100000
set_option maxHeartbeats 1000000
theorem repeat_spec (w : Wal) (n : Nat) (h1 : 1 ≤ n) (h2 : n ≤ 24) : APure Tryd.prog 80 [encW [w], .int .i64 n] (encW (List.replicate n w)) := by
  have hn0 : decide ((n : Int) < 0) = false := decide_eq_false (by omega)
  have sM := mul_spec n h1 h2
  have hbig : decide ((n : Int) > 9223372036854775807) = false := decide_eq_false (by omega)
  have hmk : aMakeSlice Tryd.prog 0 26 (.int .i64 (IntKind.i64.wrap n)) (.int .i64 (IntKind.i64.wrap n)) = some ⟨.rsl 0 0 n 5, [(0, some (.cells (fl cWa (List.replicate n zW))))]⟩ := by rw [wrapN (by omega)]; exact mkW h2
  have okW : ∀ (N : Nat) (l : List Wal), okL N (fl cWa l) = true := fun N l => fl_ok (fun _ => rfl) l
  refine APure.vcM Tryd.func80 (.br 10 false <| .call (.tup [.int .u64 0, .int .u64 n]) <| .br 26 false <| .val 30 (.rsl 0 0 n 5) [(0, some (.cells (fl cWa (List.replicate n zW))))] <| .val 33 (.int .i64 1) [(0, some (.cells (fl cWa (stW w n 1))))] <| .loop) rfl rfl ⟨hn0, sM, hbig, Eq.trans (by kernel_rfl) hmk, Eq.trans (by kernel_rfl) (cp0W (h := hget [(0, .cells (fl cWa (List.replicate n zW)))]) (id := 0) rfl h1), ?_⟩
  intro g hn hlo
  replace hn : g.n = 48 := hn
  replace hlo : g.low 0 := hlo.mono (Nat.zero_le _)
  refine acode_whileW (fun k : Nat => ⟨[(7, .rsl 0 0 n 5), (8, .int .i64 k)], [(0, .cells (fl cWa (stW w n k)))], 2⟩) (fun k => 1 ≤ k ∧ k ≤ n) (fun k => n - k) 1 ⟨Nat.le_refl _, h1⟩ (Wk.le (St.le.of ⟨by kernel_rfl, rfl, by kernel_rfl, rfl, trivial⟩ ⟨by kernel_rfl, (by decide : (0 : Nat) < 2), okW _ _, trivial⟩) (hlo.mono (Nat.zero_le _))) ?_
  intro k hk
  by_cases hlt : k < n
  · refine Exists.elim (⟨_, rfl⟩ : ∃ m, m = Nat.min k (n - k)) fun m hm => ?_
    have hmk : m ≤ k := by rw [hm]; exact Nat.min_le_left _ _
    have hmn : m ≤ n - k := by rw [hm]; exact Nat.min_le_right _ _
    have hm1 : 1 ≤ m := by rw [hm]; exact Nat.le_min.2 ⟨hk.1, by omega⟩
    have ek : AV.int .i64 (IntKind.i64.wrap ((k : Int) + m)) = .int .i64 ((k + m : Nat) : Int) := by rw [wrap64 (by omega) (by omega)]; rfl
    have hI : 1 ≤ k + m ∧ k + m ≤ n := ⟨by omega, by omega⟩
    have hmu : n - (k + m) < n - k := by omega
    have hc := cpW (h := hget [(0, .cells (fl cWa (stW w n k)))]) (id := 0) (w := w) rfl (Nat.le_of_lt hlt) hm h2
    exact ACode.vcM (.br 37 true <| .draw 8 <| .val 41 (.rsl 0 (k * 5) (n - k) 5) [] <| .val 44 (.rsl 0 0 k 5) [] <| .val 45 (.int .i64 m) [(0, some (.cells (fl cWa (stW w n (k + m)))))] .nil) hn hlo (.roundW .cl) ⟨decide_eq_true (Int.ofNat_lt.2 hlt), by kernel_rfl, mixed, by kernel_rfl, Eq.trans (by kernel_rfl) (congrArg (Option.map fun v => (⟨v, []⟩ : Out)) (slA (h := hget []) (id := 0) (Nat.le_of_lt hlt))), Eq.trans (by kernel_rfl) (congrArg (Option.map fun v => (⟨v, []⟩ : Out)) (slB (h := hget []) (id := 0) (Nat.le_of_lt hlt))), Eq.trans (by kernel_rfl) hc, by kernel_rfl, k + m, hI, hmu, Wk.le (St.le.of ⟨by kernel_rfl, rfl, Eq.trans (by kernel_rfl) ek, rfl, trivial⟩ ⟨by kernel_rfl, (by decide : (0 : Nat) < 2), okW _ _, trivial⟩) (hlo.mono (Nat.zero_le _))⟩
  · have hkn : k = n := by omega
    have ht : thaw 8 (hget [(0, .cells (fl cWa (stW w n k)))]) (.rsl 0 0 n 5) = some (encW (List.replicate n w), [0]) := by
      rw [hkn, stW_end]
      have := thaw_fl (enc := cWa) (n := 5) 6 (h := hget [(0, .cells (fl cWa (List.replicate n w)))]) (id := 0) (l := List.replicate n w) (fun _ => rfl) (fun _ => rfl) rfl
      rw [List.length_replicate] at this
      rw [this]; rfl
    exact ACode.vcM (.br 37 false .nil) hn hlo (.roundW .cl) ⟨decide_eq_false (fun h => hlt (Int.ofNat_lt.1 h)), _, .refl _, .nil, [0], Eq.trans (by kernel_rfl) ht⟩
end Go.Proofs.YtiggnliiigcjaaaDoor
/-
  Two slices joined.
-/
namespace Go.Proofs.YtiggnliiigcjaaaDoor
open Go Go.Am
set_option maxRecDepth 100000
set_option maxHeartbeats 1000000
theorem srcW (h : Nat → Option AObj) (l : List Wal) : srcCells h 5 (encW l) = some (fl cWa l, l.length) := by
  have h1 : (l.map cWa).all (fun y => y.length == 5) = true := by simp [cWa]
  simp only [srcCells, encW]
  rw [if_pos ⟨trivial, h1⟩, fl_flatten, List.length_map]
theorem app0W {h : Nat → Option AObj} {i nid : Nat} {d l : List Wal} (h0 : h i = some (.cells (fl cWa d))) (hn : d.length + l.length ≤ 1000) :
    aAppend0 Tryd.prog h nid 26 26 (.rsl i 0 d.length 5) (encW l) = some ⟨.rsl nid 0 (d.length + l.length) 5, [(i, none), (nid, some (.cells (fl cWa (d ++ l))))]⟩ := by
  simp only [aAppend0, ty26, ty30, srcW, h0]
  rw [if_pos ⟨by decide, by decide, rfl⟩]
  rw [if_pos ⟨trivial, flW_len d, cellW _, by omega⟩, flW_app]
theorem appW {h : Nat → Option AObj} {i nid : Nat} {d r l : List Wal} (h0 : h i = some (.cells (fl cWa (d ++ r)))) (hn : d.length + l.length ≤ 1000) :
    aAppend Tryd.prog h nid 26 26 (.rsl i 0 d.length 5) (encW l) = some ⟨.rsl nid 0 (d.length + l.length) 5, [(i, none), (nid, some (.cells (fl cWa (d ++ l))))]⟩ := by
  unfold aAppend
  simp only [h0]
  by_cases hr : d.length * 5 < (fl cWa (d ++ r)).length
  · rw [if_pos hr]
    exact app0W (by simp only [if_pos]; rw [flW_app, ← flW_len d, List.take_left]) hn
  · have hr0 : r = [] := by
      rw [flW_len, List.length_append] at hr
      exact List.length_eq_zero_iff.1 (by omega)
    rw [if_neg hr]
    rw [hr0, List.append_nil] at h0
    exact app0W h0 hn
theorem appI {id n : Nat} {t : TypeId} (ht : t = 3) (h1 : 1 ≤ n) (hn : n ≤ 1000) : aAppendI Tryd.prog id 26 t (.int .i64 n) = some ⟨.rsl id 0 n 5, [(id, some (.cells (fl cWa (List.replicate n zW))))]⟩ := by
  subst ht
  rw [← rep_wal]
  simp only [aAppendI, ty26, ty30, ty3]
  rw [if_pos ⟨by decide, by decide, by decide, rfl, by omega, by simp; omega⟩]
  simp; rfl
theorem concat_spec (a b : List Wal) (h1 : 1 ≤ a.length + b.length) (h2 : a.length + b.length ≤ 100) : APure Tryd.prog 79 [.lst 1 [[encW a], [encW b]]] (encW (a ++ b)) := by
  have la : (a.map cWa).length = a.length := List.length_map ..
  have lb : (b.map cWa).length = b.length := List.length_map ..
  have e1 : AV.int .i64 (IntKind.i64.wrap (0 + ((a.map cWa).length : Int))) = .int .i64 (a.length : Int) := by rw [la, wrap64 (by omega) (by omega)]; simp
  have e2 : AV.int .i64 (IntKind.i64.wrap ((a.length : Int) + ((b.map cWa).length : Int))) = .int .i64 ((a.length + b.length : Nat) : Int) := by rw [lb, wrap64 (by omega) (by omega)]; rfl
  have d1 : decide (IntKind.i64.wrap (0 + ((a.map cWa).length : Int)) < 0) = false := by rw [la, wrap64 (by omega) (by omega)]; exact decide_eq_false (by omega)
  have d2 : decide (IntKind.i64.wrap ((a.length : Int) + ((b.map cWa).length : Int)) < 0) = false := by rw [lb, wrap64 (by omega) (by omega)]; exact decide_eq_false (by omega)
  have okW : ∀ (N : Nat) (l : List Wal), okL N (fl cWa l) = true := fun N l => fl_ok (fun _ => rfl) l
  have hN : ∃ N, N = a.length + b.length := ⟨_, rfl⟩
  refine Exists.elim hN fun N hN => ?_
  rw [← hN] at e2
  have d3 : decide ((N : Int) < 0) = false := decide_eq_false (by omega)
  have d4 : decide (IntKind.i64.wrap ((N : Int) - IntKind.i64.wrap (0 - 0)) > 0) = true := by rw [show IntKind.i64.wrap (0 - 0) = 0 from rfl, wrap64 (by omega) (by omega)]; exact decide_eq_true (by omega)
  have hap : aAppendI Tryd.prog 0 26 3 (.int .i64 (IntKind.i64.wrap ((N : Int) - IntKind.i64.wrap (0 - 0)))) = some ⟨.rsl 0 0 N 5, [(0, some (.cells (fl cWa (List.replicate N zW))))]⟩ := by
    rw [show IntKind.i64.wrap (0 - 0) = 0 from rfl, wrap64 (by omega) (by omega), Int.sub_zero]
    exact appI rfl (by omega) (by omega)
  have m1 := appW (h := hget [(0, .cells (fl cWa (List.replicate N zW)))]) (i := 0) (nid := 1) (d := []) (r := List.replicate N zW) (l := a) rfl (by simp; omega)
  have m2 := appW (h := hget [(1, .cells (fl cWa a))]) (i := 1) (nid := 2) (d := a) (r := []) (l := b) (by rw [List.append_nil]; rfl) (by omega)
  have m1' : aAppend Tryd.prog (hget [(0, .cells (fl cWa (List.replicate N zW)))]) 1 26 26 (.rsl 0 0 0 5) (encW a) = some ⟨.rsl 1 0 a.length 5, [(0, none), (1, some (.cells (fl cWa a)))]⟩ := by
    have := m1
    simp only [List.length_nil, Nat.zero_add, List.nil_append] at this
    exact this
  refine APure.vcM Tryd.func79 .loop rfl rfl ?_
  intro g hn hlo
  replace hn : g.n = 36 := hn
  replace hlo : g.low 0 := hlo
  refine acode_whileW (fun i : Nat => ⟨[(0, .lst 1 [[encW a], [encW b]]), (3, .int .i64 (match i with | 0 => 0 | 1 => (a.length : Int) | _ => (N : Int))), (9, .lst 1 [[encW a], [encW b]]), (10, .int .i64 2), (11, .int .i64 i)], [], 0⟩) (fun i => i ≤ 2) (fun i => 2 - i) 0 (Nat.zero_le _) (Wk.le (St.le.of ⟨by kernel_rfl, rfl, by kernel_rfl, rfl, by kernel_rfl, rfl, by kernel_rfl, rfl, by kernel_rfl, rfl, trivial⟩ trivial) hlo) ?_
  intro i hi
  match i, hi with
  | 0, _ =>
    exact ACode.vcM (.cells [encW a] <| .br 20 false .nil) hn hlo (.roundW .cl) ⟨⟨by decide, rfl⟩, d1, 1, (by decide : 1 ≤ 2), (by decide : 2 - 1 < 2 - 0), Wk.le (St.le.of ⟨by kernel_rfl, rfl, Eq.trans (by kernel_rfl) e1, rfl, by kernel_rfl, rfl, by kernel_rfl, rfl, by kernel_rfl, rfl, trivial⟩ trivial) hlo⟩
  | 1, _ =>
    exact ACode.vcM (.cells [encW b] <| .br 20 false .nil) hn hlo (.roundW .cl) ⟨⟨by decide, rfl⟩, d2, 2, (by decide : 2 ≤ 2), (by decide : 2 - 2 < 2 - 1), Wk.le (St.le.of ⟨by kernel_rfl, rfl, Eq.trans (by kernel_rfl) e2, rfl, by kernel_rfl, rfl, by kernel_rfl, rfl, by kernel_rfl, rfl, trivial⟩ trivial) hlo⟩
  | 2, _ =>
    refine ACode.vcM .nil hn hlo (.roundW .cl) ⟨_, .refl _, .inl Tryd.f103 <| .br 6 false <| .br 16 true <| .val 22 (.rsl 0 0 N 5) [(0, some (.cells (fl cWa (List.replicate N zW))))] <| .val 25 (.rsl 0 0 0 5) [] <| .loop, Tryd.func103, d3, d4, Eq.trans (by kernel_rfl) hap, by kernel_rfl, ?_⟩
    intro g2 hn2 hlo2
    replace hn2 : g2.n = 36 := hn2
    replace hlo2 : g2.low 0 := hlo2.mono (Nat.zero_le _)
    refine acode_whileW (fun i : Nat => ⟨[(6, match i with | 0 => .rsl 0 0 0 5 | 1 => .rsl 1 0 a.length 5 | _ => .rsl 2 0 (a.length + b.length) 5), (25, .lst 1 [[encW a], [encW b]]), (26, .int .i64 2), (27, .int .i64 i)], (match i with | 0 => [(0, .cells (fl cWa (List.replicate N zW)))] | 1 => [(1, .cells (fl cWa a))] | _ => [(2, .cells (fl cWa (a ++ b)))]), i + 1⟩) (fun i => i ≤ 2) (fun i => 2 - i) 0 (Nat.zero_le _) (Wk.le (St.le.of ⟨by kernel_rfl, rfl, by kernel_rfl, rfl, by kernel_rfl, rfl, by kernel_rfl, rfl, trivial⟩ ⟨by kernel_rfl, (by decide : (0 : Nat) < 1), okW _ _, trivial⟩) (hlo2.mono (Nat.zero_le _))) ?_
    intro i hi
    match i, hi with
    | 0, _ =>
      exact ACode.vcM (.cells [encW a] <| .val 33 (.rsl 1 0 a.length 5) [(0, none), (1, some (.cells (fl cWa a)))] .nil) hn2 hlo2 (.roundW .cl) ⟨⟨by decide, rfl⟩, Eq.trans (by kernel_rfl) m1', 1, (by decide : 1 ≤ 2), (by decide : 2 - 1 < 2 - 0), Wk.le (St.le.of ⟨by kernel_rfl, rfl, by kernel_rfl, rfl, by kernel_rfl, rfl, by kernel_rfl, rfl, trivial⟩ ⟨by kernel_rfl, (by decide : (1 : Nat) < 2), okW _ _, trivial⟩) (hlo2.mono (Nat.zero_le _))⟩
    | 1, _ =>
      exact ACode.vcM (.cells [encW b] <| .val 33 (.rsl 2 0 (a.length + b.length) 5) [(1, none), (2, some (.cells (fl cWa (a ++ b))))] .nil) hn2 hlo2 (.roundW .cl) ⟨⟨by decide, rfl⟩, Eq.trans (by kernel_rfl) m2, 2, (by decide : 2 ≤ 2), (by decide : 2 - 2 < 2 - 1), Wk.le (St.le.of ⟨by kernel_rfl, rfl, by kernel_rfl, rfl, by kernel_rfl, rfl, by kernel_rfl, rfl, trivial⟩ ⟨by kernel_rfl, (by decide : (2 : Nat) < 3), okW _ _, trivial⟩) (hlo2.mono (Nat.zero_le _))⟩
    | 2, _ =>
      have ht : thaw 8 (hget [(2, .cells (fl cWa (a ++ b)))]) (.rsl 2 0 (a.length + b.length) 5) = some (encW (a ++ b), [2]) := by
        have := thaw_fl (enc := cWa) (n := 5) 6 (h := hget [(2, .cells (fl cWa (a ++ b)))]) (id := 2) (l := a ++ b) (fun _ => rfl) (fun _ => rfl) rfl
        rw [List.length_append] at this
        rw [this]; rfl
      exact ACode.vcM .nil hn2 hlo2 (.roundW .cl) ⟨_, .refl _, .nil, [2], Eq.trans (by kernel_rfl) ht⟩
    | n + 3, h => exact absurd h (by omega)
  | n + 3, h => exact absurd h (by omega)
end Go.Proofs.YtiggnliiigcjaaaDoor
/-
  A slice of one repeated, two joined: lent.
-/
namespace Go.Proofs.YtiggnliiigcjaaaDoor
open Go Go.Am
set_option maxRecDepth 100000
set_option maxHeartbeats 1000000
theorem flW_flat (l : List Wal) : ∀ c ∈ fl cWa l, c.flat = true := fun c hc => by
  unfold fl at hc
  obtain ⟨w, _, hw⟩ := List.mem_flatMap.1 hc
  unfold cWa at hw
  simp only [List.mem_cons, List.not_mem_nil, or_false] at hw
  rcases hw with h | h | h | h | h <;> rw [h] <;> rfl
theorem thawF_wals (d : Nat) {h : Nat → Option AObj} {id : Nat} {l : List Wal} (h0 : h id = some (.cells (fl cWa l))) : thawF (d + 2) h (.rsl id 0 l.length 5) = some (encW l, [id]) := by
  have e : thawF (d + 2) h (.rsl id 0 l.length 5) = (match h id with
      | some (.cells cs) => if 0 + l.length * 5 ≤ cs.length then (match mapO (thawF (d + 1) h) cs with | some (cs', is) => some (.lst 5 (chunks 5 (cs'.drop 0) l.length), id :: is) | none => none) else none
      | _ => none) := rfl
  rw [e, h0]
  simp only []
  rw [if_pos (by rw [flW_len]; omega), thawF_all d h _ (flW_flat l)]
  simp only [List.drop_zero]
  unfold encW
  rw [fl_chunks (enc := cWa) (n := 5) (fun _ => rfl)]
theorem repeat_specF (w : Wal) (n : Nat) (h1 : 1 ≤ n) (h2 : n ≤ 24) : APureF Tryd.prog 80 [encW [w], .int .i64 n] (encW (List.replicate n w)) := by
  have hn0 : decide ((n : Int) < 0) = false := decide_eq_false (by omega)
  have sM := mul_spec n h1 h2
  have hbig : decide ((n : Int) > 9223372036854775807) = false := decide_eq_false (by omega)
  have hmk : aMakeSlice Tryd.prog 0 26 (.int .i64 (IntKind.i64.wrap n)) (.int .i64 (IntKind.i64.wrap n)) = some ⟨.rsl 0 0 n 5, [(0, some (.cells (fl cWa (List.replicate n zW))))]⟩ := by rw [wrapN (by omega)]; exact mkW h2
  have okW : ∀ (N : Nat) (l : List Wal), okL N (fl cWa l) = true := fun N l => fl_ok (fun _ => rfl) l
  refine APureF.vcM Tryd.func80 (.br 10 false <| .call (.tup [.int .u64 0, .int .u64 n]) <| .br 26 false <| .val 30 (.rsl 0 0 n 5) [(0, some (.cells (fl cWa (List.replicate n zW))))] <| .val 33 (.int .i64 1) [(0, some (.cells (fl cWa (stW w n 1))))] <| .loop) rfl rfl ⟨hn0, sM, hbig, Eq.trans (by kernel_rfl) hmk, Eq.trans (by kernel_rfl) (cp0W (h := hget [(0, .cells (fl cWa (List.replicate n zW)))]) (id := 0) rfl h1), ?_⟩
  intro g hn hlo
  replace hn : g.n = 48 := hn
  replace hlo : g.low 0 := hlo.mono (Nat.zero_le _)
  refine acode_whileW (fun k : Nat => ⟨[(7, .rsl 0 0 n 5), (8, .int .i64 k)], [(0, .cells (fl cWa (stW w n k)))], 2⟩) (fun k => 1 ≤ k ∧ k ≤ n) (fun k => n - k) 1 ⟨Nat.le_refl _, h1⟩ (Wk.le (St.le.of ⟨by kernel_rfl, rfl, by kernel_rfl, rfl, trivial⟩ ⟨by kernel_rfl, (by decide : (0 : Nat) < 2), okW _ _, trivial⟩) (hlo.mono (Nat.zero_le _))) ?_
  intro k hk
  by_cases hlt : k < n
  · refine Exists.elim (⟨_, rfl⟩ : ∃ m, m = Nat.min k (n - k)) fun m hm => ?_
    have hmk : m ≤ k := by rw [hm]; exact Nat.min_le_left _ _
    have hmn : m ≤ n - k := by rw [hm]; exact Nat.min_le_right _ _
    have hm1 : 1 ≤ m := by rw [hm]; exact Nat.le_min.2 ⟨hk.1, by omega⟩
    have ek : AV.int .i64 (IntKind.i64.wrap ((k : Int) + m)) = .int .i64 ((k + m : Nat) : Int) := by rw [wrap64 (by omega) (by omega)]; rfl
    have hI : 1 ≤ k + m ∧ k + m ≤ n := ⟨by omega, by omega⟩
    have hmu : n - (k + m) < n - k := by omega
    have hc := cpW (h := hget [(0, .cells (fl cWa (stW w n k)))]) (id := 0) (w := w) rfl (Nat.le_of_lt hlt) hm h2
    exact ACode.vcM (.br 37 true <| .draw 8 <| .val 41 (.rsl 0 (k * 5) (n - k) 5) [] <| .val 44 (.rsl 0 0 k 5) [] <| .val 45 (.int .i64 m) [(0, some (.cells (fl cWa (stW w n (k + m)))))] .nil) hn hlo (.roundW .cl) ⟨decide_eq_true (Int.ofNat_lt.2 hlt), by kernel_rfl, mixed, by kernel_rfl, Eq.trans (by kernel_rfl) (congrArg (Option.map fun v => (⟨v, []⟩ : Out)) (slA (h := hget []) (id := 0) (Nat.le_of_lt hlt))), Eq.trans (by kernel_rfl) (congrArg (Option.map fun v => (⟨v, []⟩ : Out)) (slB (h := hget []) (id := 0) (Nat.le_of_lt hlt))), Eq.trans (by kernel_rfl) hc, by kernel_rfl, k + m, hI, hmu, Wk.le (St.le.of ⟨by kernel_rfl, rfl, Eq.trans (by kernel_rfl) ek, rfl, trivial⟩ ⟨by kernel_rfl, (by decide : (0 : Nat) < 2), okW _ _, trivial⟩) (hlo.mono (Nat.zero_le _))⟩
  · have hkn : k = n := by omega
    have ht : thawF 8 (hget [(0, .cells (fl cWa (stW w n k)))]) (.rsl 0 0 n 5) = some (encW (List.replicate n w), [0]) := by
      rw [hkn, stW_end]
      have := thawF_wals 6 (h := hget [(0, .cells (fl cWa (List.replicate n w)))]) (id := 0) (l := List.replicate n w) rfl
      rw [List.length_replicate] at this
      exact this
    exact ACode.vcM (.br 37 false .nil) hn hlo (.roundW .cl) ⟨decide_eq_false (fun h => hlt (Int.ofNat_lt.1 h)), _, .refl _, .nil, [0], Eq.trans (by kernel_rfl) ht⟩
theorem concat_specF (a b : List Wal) (h1 : 1 ≤ a.length + b.length) (h2 : a.length + b.length ≤ 100) : APureF Tryd.prog 79 [.lst 1 [[encW a], [encW b]]] (encW (a ++ b)) := by
  have la : (a.map cWa).length = a.length := List.length_map ..
  have lb : (b.map cWa).length = b.length := List.length_map ..
  have e1 : AV.int .i64 (IntKind.i64.wrap (0 + ((a.map cWa).length : Int))) = .int .i64 (a.length : Int) := by rw [la, wrap64 (by omega) (by omega)]; simp
  have e2 : AV.int .i64 (IntKind.i64.wrap ((a.length : Int) + ((b.map cWa).length : Int))) = .int .i64 ((a.length + b.length : Nat) : Int) := by rw [lb, wrap64 (by omega) (by omega)]; rfl
  have d1 : decide (IntKind.i64.wrap (0 + ((a.map cWa).length : Int)) < 0) = false := by rw [la, wrap64 (by omega) (by omega)]; exact decide_eq_false (by omega)
  have d2 : decide (IntKind.i64.wrap ((a.length : Int) + ((b.map cWa).length : Int)) < 0) = false := by rw [lb, wrap64 (by omega) (by omega)]; exact decide_eq_false (by omega)
  have okW : ∀ (N : Nat) (l : List Wal), okL N (fl cWa l) = true := fun N l => fl_ok (fun _ => rfl) l
  have hN : ∃ N, N = a.length + b.length := ⟨_, rfl⟩
  refine Exists.elim hN fun N hN => ?_
  rw [← hN] at e2
  have d3 : decide ((N : Int) < 0) = false := decide_eq_false (by omega)
  have d4 : decide (IntKind.i64.wrap ((N : Int) - IntKind.i64.wrap (0 - 0)) > 0) = true := by rw [show IntKind.i64.wrap (0 - 0) = 0 from rfl, wrap64 (by omega) (by omega)]; exact decide_eq_true (by omega)
  have hap : aAppendI Tryd.prog 0 26 3 (.int .i64 (IntKind.i64.wrap ((N : Int) - IntKind.i64.wrap (0 - 0)))) = some ⟨.rsl 0 0 N 5, [(0, some (.cells (fl cWa (List.replicate N zW))))]⟩ := by
    rw [show IntKind.i64.wrap (0 - 0) = 0 from rfl, wrap64 (by omega) (by omega), Int.sub_zero]
    exact appI rfl (by omega) (by omega)
  have m1 := appW (h := hget [(0, .cells (fl cWa (List.replicate N zW)))]) (i := 0) (nid := 1) (d := []) (r := List.replicate N zW) (l := a) rfl (by simp; omega)
  have m2 := appW (h := hget [(1, .cells (fl cWa a))]) (i := 1) (nid := 2) (d := a) (r := []) (l := b) (by rw [List.append_nil]; rfl) (by omega)
  have m1' : aAppend Tryd.prog (hget [(0, .cells (fl cWa (List.replicate N zW)))]) 1 26 26 (.rsl 0 0 0 5) (encW a) = some ⟨.rsl 1 0 a.length 5, [(0, none), (1, some (.cells (fl cWa a)))]⟩ := by
    have := m1
    simp only [List.length_nil, Nat.zero_add, List.nil_append] at this
    exact this
  refine APureF.vcM Tryd.func79 .loop rfl rfl ?_
  intro g hn hlo
  replace hn : g.n = 36 := hn
  replace hlo : g.low 0 := hlo
  refine acode_whileW (fun i : Nat => ⟨[(0, .lst 1 [[encW a], [encW b]]), (3, .int .i64 (match i with | 0 => 0 | 1 => (a.length : Int) | _ => (N : Int))), (9, .lst 1 [[encW a], [encW b]]), (10, .int .i64 2), (11, .int .i64 i)], [], 0⟩) (fun i => i ≤ 2) (fun i => 2 - i) 0 (Nat.zero_le _) (Wk.le (St.le.of ⟨by kernel_rfl, rfl, by kernel_rfl, rfl, by kernel_rfl, rfl, by kernel_rfl, rfl, by kernel_rfl, rfl, trivial⟩ trivial) hlo) ?_
  intro i hi
  match i, hi with
  | 0, _ =>
    exact ACode.vcM (.cells [encW a] <| .br 20 false .nil) hn hlo (.roundW .cl) ⟨⟨by decide, rfl⟩, d1, 1, (by decide : 1 ≤ 2), (by decide : 2 - 1 < 2 - 0), Wk.le (St.le.of ⟨by kernel_rfl, rfl, Eq.trans (by kernel_rfl) e1, rfl, by kernel_rfl, rfl, by kernel_rfl, rfl, by kernel_rfl, rfl, trivial⟩ trivial) hlo⟩
  | 1, _ =>
    exact ACode.vcM (.cells [encW b] <| .br 20 false .nil) hn hlo (.roundW .cl) ⟨⟨by decide, rfl⟩, d2, 2, (by decide : 2 ≤ 2), (by decide : 2 - 2 < 2 - 1), Wk.le (St.le.of ⟨by kernel_rfl, rfl, Eq.trans (by kernel_rfl) e2, rfl, by kernel_rfl, rfl, by kernel_rfl, rfl, by kernel_rfl, rfl, trivial⟩ trivial) hlo⟩
  | 2, _ =>
    refine ACode.vcM .nil hn hlo (.roundW .cl) ⟨_, .refl _, .inl Tryd.f103 <| .br 6 false <| .br 16 true <| .val 22 (.rsl 0 0 N 5) [(0, some (.cells (fl cWa (List.replicate N zW))))] <| .val 25 (.rsl 0 0 0 5) [] <| .loop, Tryd.func103, d3, d4, Eq.trans (by kernel_rfl) hap, by kernel_rfl, ?_⟩
    intro g2 hn2 hlo2
    replace hn2 : g2.n = 36 := hn2
    replace hlo2 : g2.low 0 := hlo2.mono (Nat.zero_le _)
    refine acode_whileW (fun i : Nat => ⟨[(6, match i with | 0 => .rsl 0 0 0 5 | 1 => .rsl 1 0 a.length 5 | _ => .rsl 2 0 (a.length + b.length) 5), (25, .lst 1 [[encW a], [encW b]]), (26, .int .i64 2), (27, .int .i64 i)], (match i with | 0 => [(0, .cells (fl cWa (List.replicate N zW)))] | 1 => [(1, .cells (fl cWa a))] | _ => [(2, .cells (fl cWa (a ++ b)))]), i + 1⟩) (fun i => i ≤ 2) (fun i => 2 - i) 0 (Nat.zero_le _) (Wk.le (St.le.of ⟨by kernel_rfl, rfl, by kernel_rfl, rfl, by kernel_rfl, rfl, by kernel_rfl, rfl, trivial⟩ ⟨by kernel_rfl, (by decide : (0 : Nat) < 1), okW _ _, trivial⟩) (hlo2.mono (Nat.zero_le _))) ?_
    intro i hi
    match i, hi with
    | 0, _ =>
      exact ACode.vcM (.cells [encW a] <| .val 33 (.rsl 1 0 a.length 5) [(0, none), (1, some (.cells (fl cWa a)))] .nil) hn2 hlo2 (.roundW .cl) ⟨⟨by decide, rfl⟩, Eq.trans (by kernel_rfl) m1', 1, (by decide : 1 ≤ 2), (by decide : 2 - 1 < 2 - 0), Wk.le (St.le.of ⟨by kernel_rfl, rfl, by kernel_rfl, rfl, by kernel_rfl, rfl, by kernel_rfl, rfl, trivial⟩ ⟨by kernel_rfl, (by decide : (1 : Nat) < 2), okW _ _, trivial⟩) (hlo2.mono (Nat.zero_le _))⟩
    | 1, _ =>
      exact ACode.vcM (.cells [encW b] <| .val 33 (.rsl 2 0 (a.length + b.length) 5) [(1, none), (2, some (.cells (fl cWa (a ++ b))))] .nil) hn2 hlo2 (.roundW .cl) ⟨⟨by decide, rfl⟩, Eq.trans (by kernel_rfl) m2, 2, (by decide : 2 ≤ 2), (by decide : 2 - 2 < 2 - 1), Wk.le (St.le.of ⟨by kernel_rfl, rfl, by kernel_rfl, rfl, by kernel_rfl, rfl, by kernel_rfl, rfl, trivial⟩ ⟨by kernel_rfl, (by decide : (2 : Nat) < 3), okW _ _, trivial⟩) (hlo2.mono (Nat.zero_le _))⟩
    | 2, _ =>
      have ht : thawF 8 (hget [(2, .cells (fl cWa (a ++ b)))]) (.rsl 2 0 (a.length + b.length) 5) = some (encW (a ++ b), [2]) := by
        have := thawF_wals 6 (h := hget [(2, .cells (fl cWa (a ++ b)))]) (id := 2) (l := a ++ b) rfl
        rw [List.length_append] at this
        exact this
      exact ACode.vcM .nil hn2 hlo2 (.roundW .cl) ⟨_, .refl _, .nil, [2], Eq.trans (by kernel_rfl) ht⟩
    | n + 3, h => exact absurd h (by omega)
  | n + 3, h => exact absurd h (by omega)
end Go.Proofs.YtiggnliiigcjaaaDoor
/-
  How many more there may be.
-/
namespace Go.Proofs.YtiggnliiigcjaaaDoor
open Go Go.Am
set_option maxRecDepth 100000
set_option maxHeartbeats 1000000
def safeB (b : Bdg) (ws : List Wal) : Bool := noL (lateCV true b ws, lateSV true b ws)
def addW (ws : List Wal) (like : Wal) (k : Nat) : List Wal := ws ++ List.replicate k like
def moreV (b : Bdg) (ws : List Wal) (like : Wal) : Int := match (List.range (24 - ws.length)).find? (fun k => !safeB b (addW ws like (k + 1))) with
  | none => ((24 - ws.length : Nat) : Int)
  | some k => (k : Int)
theorem moreV_all {b : Bdg} {ws : List Wal} {like : Wal} (h : ∀ j, j < 24 - ws.length → safeB b (addW ws like (j + 1)) = true) : moreV b ws like = ((24 - ws.length : Nat) : Int) := by
  unfold moreV
  rw [List.find?_eq_none.2 fun j hj => by rw [h j (List.mem_range.1 hj)]; decide]
theorem moreV_stop {b : Bdg} {ws : List Wal} {like : Wal} {k : Nat} (hk : k < 24 - ws.length) (h : ∀ j, j < k → safeB b (addW ws like (j + 1)) = true) (hs : safeB b (addW ws like (k + 1)) = false) : moreV b ws like = k := by
  have h1 : (List.range (24 - ws.length)).find? (fun k => !safeB b (addW ws like (k + 1))) = some k := by
    rw [List.find?_range_eq_some]
    exact ⟨by rw [hs]; rfl, List.mem_range.2 hk, fun j hj => by rw [h j hj]; rfl⟩
  unfold moreV
  rw [h1]
theorem Vld.add {b : Bdg} {ws : List Wal} {like : Wal} (vd : Vld b ws) (v1 : Vld b [like]) {k : Nat} (hk : k ≤ 24 - ws.length) : Vld b (addW ws like k) :=
  ⟨vd.sl, vd.cl, by unfold addW; rw [List.length_append, List.length_replicate]; have := vd.wl; omega, vd.s, vd.c, fun w hw => by
    rcases List.mem_append.1 hw with h | h
    · exact vd.w w h
    · rw [(List.mem_replicate.1 h).2]; exact v1.w like (List.mem_singleton.2 rfl)⟩
theorem more_spec (b : Bdg) (ws : List Wal) (like : Wal) (vd : Vld b ws) (v1 : Vld b [like]) : APure Tryd.prog 55 [encX b ws, .agg (cWa like)] (.int .i64 (moreV b ws like)) := by
  have hwl := vd.wl
  have er : AV.int .i64 (IntKind.i64.wrap (24 - ((ws.map cWa).length : Int))) = .int .i64 ((24 - ws.length : Nat) : Int) := by rw [List.length_map, wrap64 (by omega) (by omega)]; congr 1; omega
  refine APure.vcM Tryd.func55 .loop rfl rfl ?_
  intro g hn hlo
  replace hn : g.n = 34 := hn
  replace hlo : g.low 0 := hlo.mono (Nat.zero_le _)
  refine acode_whileW (fun k : Nat => ⟨[(2, .vptr 0 0), (3, .vptr 1 0), (5, .int .i64 ((24 - ws.length : Nat) : Int)), (12, .int .i64 ((24 - ws.length : Nat) : Int)), (13, .int .i64 k)], [(0, .cells (xC b ws)), (1, .cells (cWa like))], 2⟩) (fun k => k ≤ 24 - ws.length ∧ ∀ j, j < k → safeB b (addW ws like (j + 1)) = true) (fun k => (24 - ws.length) - k) 0 ⟨Nat.zero_le _, fun j hj => absurd hj (Nat.not_lt_zero j)⟩ (Wk.le (St.le.of ⟨by kernel_rfl, rfl, by kernel_rfl, rfl, Eq.trans (by kernel_rfl) er, rfl, Eq.trans (by kernel_rfl) er, rfl, by kernel_rfl, rfl, trivial⟩ ⟨by kernel_rfl, (by decide : (0 : Nat) < 2), rfl, by kernel_rfl, (by decide : (1 : Nat) < 2), rfl, trivial⟩) (hlo.mono (Nat.zero_le _))) ?_
  intro k hk
  by_cases hlt : k < 24 - ws.length
  · have sR : APureF Tryd.prog 80 [encW [like], .int .i64 (IntKind.i64.wrap ((k : Int) + 1))] (encW (List.replicate (k + 1) like)) := by rw [succ64 (by omega)]; exact repeat_specF like (k + 1) (by omega) (by omega)
    have sC : APureF Tryd.prog 79 [.lst 1 [[encW ws], [encW (List.replicate (k + 1) like)]]] (encW (addW ws like (k + 1))) := concat_specF ws (List.replicate (k + 1) like) (by rw [List.length_replicate]; omega) (by rw [List.length_replicate]; omega)
    have sB := begin_spec b (addW ws like (k + 1))
    have sS : APure Tryd.prog 54 [encX b (addW ws like (k + 1))] (.bool (safeB b (addW ws like (k + 1)))) := isSafe_spec b (addW ws like (k + 1)) (vd.add v1 (by omega))
    have ek := congrArg (AV.int .i64) (succ64 (k := k) (by omega))
    have hd : decide ((k : Int) < ((24 - ws.length : Nat) : Int)) = true := decide_eq_true (Int.ofNat_lt.2 hlt)
    refine (Bool.eq_false_or_eq_true (safeB b (addW ws like (k + 1)))).elim (fun hs => ?_) (fun hs => ?_)
    · rw [hs] at sS
      have hmu : (24 - ws.length) - (k + 1) < (24 - ws.length) - k := by omega
      have hI : k + 1 ≤ 24 - ws.length ∧ ∀ j, j < k + 1 → safeB b (addW ws like (j + 1)) = true := ⟨hlt, fun j hj => by rcases Nat.lt_succ_iff_lt_or_eq.1 hj with h | h; exact hk.2 j h; rw [h]; exact hs⟩
      exact ACode.vcM (.br 14 true <| .draw 7 <| .lent (encW (List.replicate (k + 1) like)) [5] <| .lent (encW (addW ws like (k + 1))) [12] <| .call (encX b (addW ws like (k + 1))) <| .call (.bool true) .nil) hn hlo (.roundW .cl) ⟨hd, by kernel_rfl, mixed, by kernel_rfl, ⟨_, by kernel_rfl, .inr sR⟩, by kernel_rfl, ⟨_, by kernel_rfl, .inr sC⟩, sB, sS, k + 1, hI, hmu, Wk.le (St.le.of ⟨by kernel_rfl, rfl, by kernel_rfl, rfl, by kernel_rfl, rfl, by kernel_rfl, rfl, Eq.trans (by kernel_rfl) ek, rfl, trivial⟩ ⟨by kernel_rfl, (by decide : (0 : Nat) < 2), rfl, by kernel_rfl, (by decide : (1 : Nat) < 2), rfl, trivial⟩) (hlo.mono (Nat.zero_le _))⟩
    · rw [hs] at sS
      have ev := moreV_stop hlt hk.2 hs
      have et : thaw 8 (hget []) (.int .i64 (k : Int)) = some (.int .i64 (moreV b ws like), []) := by rw [ev]; unfold thaw; exact if_pos rfl
      exact ACode.vcM (.br 14 true <| .draw 7 <| .lent (encW (List.replicate (k + 1) like)) [5] <| .lent (encW (addW ws like (k + 1))) [12] <| .call (encX b (addW ws like (k + 1))) <| .call (.bool false) .nil) hn hlo (.roundW .cl) ⟨hd, by kernel_rfl, mixed, by kernel_rfl, ⟨_, by kernel_rfl, .inr sR⟩, by kernel_rfl, ⟨_, by kernel_rfl, .inr sC⟩, sB, sS, _, .refl _, .nil, [], Eq.trans (by kernel_rfl) et⟩
  · have hkn : k = 24 - ws.length := by have := hk.1; omega
    have ev : moreV b ws like = ((24 - ws.length : Nat) : Int) := moreV_all (by rw [← hkn]; exact hk.2)
    have et : thaw 8 (hget []) (.int .i64 ((24 - ws.length : Nat) : Int)) = some (.int .i64 (moreV b ws like), []) := by rw [ev]; unfold thaw; exact if_pos rfl
    exact ACode.vcM (.br 14 false .nil) hn hlo (.roundW .cl) ⟨decide_eq_false (fun h => hlt (Int.ofNat_lt.1 h)), _, .refl _, .nil, [], Eq.trans (by kernel_rfl) et⟩
end Go.Proofs.YtiggnliiigcjaaaDoor
/-
  How many more there may be: More.
-/
namespace Go.Proofs.YtiggnliiigcjaaaDoor
open Go Go.Am
set_option maxRecDepth 100000
set_option maxHeartbeats 1000000
def moreA (b : Bdg) (ws : List Wal) (like : Wal) : AV := if safeB b ws then .tup [.int .i64 (moreV b ws like), .int .i64 0] else .tup [.int .i64 0, .int .i64 8]
theorem More_ok (b : Bdg) (w : List Wal) (like : Wal) (h1 : bdgB b = true) (h2 : walsB b w = true) (h3 : walsB b [like] = true) : APure Tryd.prog 18 [encB b, encW w, .agg (cWa like)] (moreA b w like) := by
  have vd := vld_of h1 h2
  have v1 := vld_of h1 h3
  have sC := Check_spec b w
  have hc : checkV b w = 0 := by unfold checkV; rw [if_pos h1, if_pos h2]
  rw [hc] at sC
  have sW := arePeople_spec b [like] (bdg_len h1).2.2.2
  rw [h3] at sW
  have sB := begin_spec b w
  have sS : APure Tryd.prog 54 [encX b w] (.bool (safeB b w)) := isSafe_spec b w vd
  have sM := more_spec b w like vd v1
  unfold moreA
  generalize moreV b w like = M at *
  cases hs : safeB b w
  · rw [hs] at sS
    exact APure.vcM Tryd.func18 (.call (.int .i64 0) <| .lent (.bool true) [2] <| .call (encX b w) <| .call (.bool false) .nil) rfl rfl ⟨sC, ⟨_, by kernel_rfl, .inl ⟨sW, .inr rfl⟩⟩, sB, sS, [], by unfold thaw; exact if_pos rfl⟩
  · rw [hs] at sS
    exact APure.vcM Tryd.func18 (.call (.int .i64 0) <| .lent (.bool true) [2] <| .call (encX b w) <| .call (.bool true) <| .draw 4 <| .call (encX b w) <| .call (.int .i64 M) .nil) rfl rfl ⟨sC, ⟨_, by kernel_rfl, .inl ⟨sW, .inr rfl⟩⟩, sB, sS, by kernel_rfl, mixed, by kernel_rfl, sB, by kernel_rfl, sM, [], by unfold thaw; exact if_pos rfl⟩
end Go.Proofs.YtiggnliiigcjaaaDoor

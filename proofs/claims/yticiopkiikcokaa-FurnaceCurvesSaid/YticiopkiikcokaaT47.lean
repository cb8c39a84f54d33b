import Derived.Test.YticiopkiikcokaaT46
import Derived.Test.YticiopkiikcokaaT42
import Derived.Test.YticiopkiikcokaaT39a
namespace Go.Proofs.Yticiopkiikcokaa
open Go Go.Am
theorem works_wk {c : Cp} (h : 0 ≤ c.brk) (m : Int) : worksB c m = wks c m := by
  unfold worksB wks
  by_cases e : c.brk = 0
  · simp [e]
  · have h1 : (c.brk == 0) = false := beq_eq_false_iff_ne.2 e
    have h2 : decide (c.brk > 0) = true := decide_eq_true (by omega)
    rw [h1, h2, Bool.false_or, Bool.true_and]
    by_cases h3 : m < c.brk
    · have : ¬ m ≥ c.brk := by omega
      simp [h3, this]
    · have : m ≥ c.brk := by omega
      simp [h3, this]
theorem boolC2 (b : Bool) : b = false ∨ b = true := by cases b <;> simp
/-! The reference's list of couples that work. -/
def encN (i : Nat) : List AV := [.int .i64 (i : Int)]
def flI (l : List Nat) : List AV := l.map fun (i : Nat) => AV.int .i64 (i : Int)
theorem flI_append (l : List Nat) (i : Nat) : flI l ++ [.int .i64 (i : Int)] = flI (l ++ [i]) := by simp [flI]
theorem flI_length (l : List Nat) : (flI l).length = l.length := by simp [flI]
theorem flI_ok (n : Nat) : ∀ l : List Nat, okL n (flI l) = true := by
  intro l
  induction l with
  | nil => rfl
  | cons s l ih => show (true && okL n (flI l)) = true; rw [ih]; rfl
theorem flI_chunks : ∀ l : List Nat, chunks 1 (flI l) l.length = l.map encN := by
  intro l
  induction l with
  | nil => rfl
  | cons s l ih => show encN s :: chunks 1 (flI l) l.length = _; rw [ih]; rfl
theorem mapO_fi (f : AV → Option (AV × List Nat)) (h : ∀ i : Int, f (.int .i64 i) = some (.int .i64 i, [])) : ∀ l : List Nat, mapO f (flI l) = some (flI l, []) := by
  intro l
  induction l with
  | nil => rfl
  | cons s l ih =>
    have : mapO f (.int .i64 (s : Int) :: flI l) = some (flI (s :: l), []) := by
      simp only [mapO, h, ih]; rfl
    exact this
theorem thaw_I {h : Nat → Option AObj} {i : Nat} {l : List Nat} (h0 : h i = some (.cells (flI l))) : thaw 8 h (.rsl i 0 l.length 1) = some (.lst 1 (l.map encN), [i]) := by
  have e : thaw 8 h (.rsl i 0 l.length 1) = (match h i with
      | some (.cells cs) => if 0 + l.length * 1 ≤ cs.length then (match mapO (thaw 7 h) cs with | some (cs', is) => some (.lst 1 (chunks 1 (cs'.drop 0) l.length), i :: is) | none => none) else none
      | _ => none) := rfl
  rw [e, h0]
  simp only []
  rw [if_pos (by rw [flI_length]; omega), mapO_fi (thaw 7 h) (fun i => rfl)]
  simp only [List.drop_zero, flI_chunks]
theorem app_I {h : Nat → Option AObj} {i j id : Nat} {l : List Nat} {s : Nat} (h0 : h i = some (.cells (flI l))) (h1 : h j = some (.cells [.int .i64 (s : Int)])) (hl : l.length ≤ 1000) :
    aAppend Try.prog h id 87 87 (.rsl i 0 l.length 1) (.rsl j 0 1 1) = some ⟨.rsl id 0 (l.length + 1) 1, [(i, none), (id, some (.cells (flI l ++ [.int .i64 (s : Int)])))]⟩ := by
  simp only [aAppend, ty87, ty3, srcCells, h0, h1]
  rw [if_pos (by decide)]
  simp [flI_length, cellB]
  omega
def nlK (r : Rn) (m : Int) (k : Nat) : List Nat := (List.range k).filter (wkAt r m)
theorem nlK_succ (r : Rn) (m : Int) (k : Nat) : nlK r m (k + 1) = if wkAt r m k = true then nlK r m k ++ [k] else nlK r m k := by
  unfold nlK
  rw [List.range_succ, List.filter_append]
  by_cases h : wkAt r m k = true
  · simp [h]
  · simp [h]
theorem nlK_len (r : Rn) (m : Int) (k : Nat) : (nlK r m k).length ≤ k := by
  have := List.length_filter_le (wkAt r m) (List.range k)
  rw [List.length_range] at this; exact this
def wlV : List Nat → AV
  | [] => .nil
  | a :: t => .lst 1 ((a :: t).map encN)
def wkSt (r : Rn) (m : Int) (k : Nat) : List Nat → St
  | [] => ⟨[(1, .int .i64 m), (2, .vptr 0 0), (5, .nil), (6, .int .i64 k)], [(0, .cells (runL r))], 1⟩
  | s :: t => ⟨[(1, .int .i64 m), (2, .vptr 0 0), (5, .rsl 1 0 (s :: t).length 1), (6, .int .i64 k)], [(0, .cells (runL r)), (1, .cells (flI (s :: t)))], 2⟩
set_option maxHeartbeats 16000000 in
set_option maxRecDepth 100000 in
theorem Working_spec {r : Rn} (hr : RunOk r) (m : Int) : APure Try.prog 54 [encRn r, .int .i64 m] (wlV (wl r m)) := by
  have hcl := hr.cl
  have hrok : (wlV (wl r m)).ok 0 = true := by unfold wlV; split <;> rfl
  refine APure.vcT Try.func54 .loop rfl hrok ?_
  intro g hn hl
  replace hn : g.n = 26 := hn
  replace hl : g.low 0 := hl
  refine acode_whileW (fun i : Nat × List Nat => wkSt r m i.1 i.2) (fun i => i.1 ≤ r.cps.length ∧ i.2 = nlK r m i.1) (fun i => r.cps.length - i.1) (0, []) ⟨Nat.zero_le _, rfl⟩ (Wk.le ?_ (hl.mono (Nat.zero_le _))) ?_
  · exact St.le.of ⟨rfl, rfl, rfl, rfl, rfl, rfl, rfl, rfl, trivial⟩ ⟨rfl, Nat.zero_lt_one, rfl, trivial⟩
  · rintro ⟨k, xs⟩ ⟨hk, hxs⟩
    simp only at hk hxs
    have hlen : xs.length ≤ k := hxs ▸ nlK_len r m k
    by_cases hlt : k < r.cps.length
    · refine Exists.elim (getE hlt) fun c hc => ?_
      have hcp := hr.cp k c hc
      have sW := works_spec c m
      rw [works_wk hcp.2.2.2.1, ← wkAt_some (r := r) (m := m) hc] at sW
      have hnext := nlK_succ r m k
      refine Or.elim (boolC2 (wkAt r m k)) (fun hw => ?_) (fun hw => ?_)
      · rw [hw] at sW
        rw [hw, ← hxs] at hnext
        simp only [Bool.false_eq_true, if_false] at hnext
        cases xs with
        | nil =>
          exact ACode.vc (.br 11 true <| .cells (encCp c) <| .call (.bool false) .nil) hn hl (.roundW .cl) ⟨ltLen hlt, idx hc, sW, (k + 1, []), ⟨hlt, hnext.symm⟩, mu1 hlt, Wk.le (St.le.of ⟨rfl, rfl, rfl, rfl, rfl, rfl, congrArg _ (succ64 (by omega)), rfl, trivial⟩ ⟨rfl, Nat.zero_lt_one, rfl, trivial⟩) (hl.mono (Nat.zero_le _))⟩
        | cons s t =>
          exact ACode.vc (.br 11 true <| .cells (encCp c) <| .call (.bool false) .nil) hn hl (.roundW .cl) ⟨ltLen hlt, idx hc, sW, (k + 1, s :: t), ⟨hlt, hnext.symm⟩, mu1 hlt, Wk.le (St.le.of ⟨rfl, rfl, rfl, rfl, rfl, rfl, congrArg _ (succ64 (by omega)), rfl, trivial⟩ ⟨rfl, (by decide : (0 : Nat) < 2), rfl, rfl, (by decide : (1 : Nat) < 2), flI_ok _ _, trivial⟩) (hl.mono (Nat.zero_le _))⟩
      · rw [hw] at sW
        rw [hw, ← hxs] at hnext
        simp only [if_true] at hnext
        cases xs with
        | nil =>
          exact ACode.vc (.br 11 true <| .cells (encCp c) <| .call (.bool true) .nil) hn hl (.roundW .cl)
            ⟨ltLen hlt, idx hc, sW, (k + 1, [k]), ⟨hlt, hnext.symm⟩, mu1 hlt,
              Wk.ren (c := 1) (b := 2) (St.ren.of rfl (by decide) ⟨.inl ⟨rfl, rfl⟩, .inl ⟨rfl, rfl⟩, .inr ⟨0, 1, 1, rfl, rfl⟩, .inl ⟨congrArg _ (succ64 (by omega)), rfl⟩, trivial⟩ ⟨.inl ⟨(by decide : (0 : Nat) < 1), rfl, rfl⟩, .inr ⟨rfl, rfl, _, rfl, flI_ok 1 [k]⟩, trivial⟩) (hl.mono (Nat.zero_le _))⟩
        | cons s t =>
          have hap := app_I (h := hget [(0, .cells (runL r)), (1, .cells (flI (s :: t))), (2, .cells [.int .i64 (k : Int)])]) (i := 1) (j := 2) (id := 3) (l := s :: t) (s := k) rfl rfl (by omega)
          have efl : some (AObj.cells (flI (s :: t) ++ [.int .i64 (k : Int)])) = some (.cells (flI (s :: (t ++ [k])))) := congrArg (fun z => some (AObj.cells z)) (flI_append (s :: t) k)
          have elen : AV.rsl 1 0 (s :: (t ++ [k])).length 1 = AV.rsl 1 0 ((s :: t).length + 1) 1 := by simp
          exact ACode.vc (.br 11 true <| .cells (encCp c) <| .call (.bool true) <| .val 24 (.rsl 3 0 ((s :: t).length + 1) 1) [(1, none), (3, some (.cells (flI (s :: t) ++ [.int .i64 (k : Int)])))] .nil) hn hl (.roundW .cl)
            ⟨ltLen hlt, idx hc, sW, Eq.trans (by kernel_rfl) hap, (k + 1, s :: (t ++ [k])), ⟨hlt, hnext.symm⟩, mu1 hlt,
              Wk.ren (c := 1) (b := 3) (St.ren.of rfl (by decide) ⟨.inl ⟨rfl, rfl⟩, .inl ⟨rfl, rfl⟩, .inr ⟨0, (s :: t).length + 1, 1, elen, rfl⟩, .inl ⟨congrArg _ (succ64 (by omega)), rfl⟩, trivial⟩ ⟨.inl ⟨(by decide : (0 : Nat) < 1), rfl, rfl⟩, .inr ⟨rfl, Eq.trans (by kernel_rfl) efl, _, rfl, flI_ok 1 _⟩, trivial⟩) (hl.mono (Nat.zero_le _))⟩
    · have hk' : k = r.cps.length := by omega
      have hwl : xs = wl r m := by rw [hxs, hk']; rfl
      rw [← hwl]
      cases xs with
      | nil => exact ACode.vc (.br 11 false .nil) hn hl (.roundW .cl) ⟨geLen hlt, _, .refl _, .nil, [], rfl⟩
      | cons s t => exact ACode.vc (.br 11 false .nil) hn hl (.roundW .cl) ⟨geLen hlt, _, .refl _, .nil, [1], thaw_I (h := hget [(0, .cells (runL r)), (1, .cells (flI (s :: t)))]) rfl⟩
end Go.Proofs.Yticiopkiikcokaa

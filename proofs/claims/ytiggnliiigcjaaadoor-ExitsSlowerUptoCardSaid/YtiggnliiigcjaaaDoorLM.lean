/-
  THE LAW OF HOW MANY MORE: as many more as are told, and one more.
-/
import Derived.Test.YtiggnliiigcjaaaDoorW0
import Derived.Test.YtiggnliiigcjaaaDoorX4
namespace Go.Proofs.YtiggnliiigcjaaaDoor
open Go Go.Am
set_option maxRecDepth 100000
set_option maxHeartbeats 4000000
theorem ready_1 {b : Bdg} {w : List Wal} (h : readyB b w = true) : bdgB b = true ∧ walsB b w = true := by
  unfold readyB checkV at h
  rw [Bool.and_eq_true] at h
  have h2 := h.2
  cases h3 : bdgB b
  · rw [h3] at h2; cases h2
  · rw [h3] at h2
    cases h4 : walsB b w
    · rw [h4] at h2; cases h2
    · exact ⟨rfl, rfl⟩
theorem thawB (h : Nat → Option AObj) (b : Bdg) : thaw 8 h (encB b) = some (encB b, []) := by unfold thaw; exact if_pos rfl
theorem thawBW {h : Nat → Option AObj} {id : Nat} (b : Bdg) {l : List Wal} (h0 : h id = some (.cells (fl cWa l))) : thawL h [encB b, .rsl id 0 l.length 5] = some ([encB b, encW l], [id]) := by
  have ht := thaw_fl (enc := cWa) (n := 5) 6 (id := id) (l := l) (fun _ => rfl) (fun _ => rfl) h0
  simp only [thawL, mapO]
  rw [thawB, ht]
  rfl
/-- What is told is kept: with as many more all are in time, with one more they aren't. -/
theorem moreV_is (b : Bdg) (ws : List Wal) (like : Wal) (h0 : safeB b ws = true) : ∃ m : Nat, moreV b ws like = m ∧ m ≤ 24 - ws.length ∧ safeB b (addW ws like m) = true ∧ (m < 24 - ws.length → safeB b (addW ws like (m + 1)) = false) := by
  have ha : addW ws like 0 = ws := by simp [addW]
  have key : ∀ n, n ≤ 24 - ws.length → (∀ j, j < n → safeB b (addW ws like (j + 1)) = true) ∨ ∃ k, k < n ∧ (∀ j, j < k → safeB b (addW ws like (j + 1)) = true) ∧ safeB b (addW ws like (k + 1)) = false := by
    intro n
    induction n with
    | zero => intro _; exact .inl fun j hj => absurd hj (Nat.not_lt_zero j)
    | succ n ih =>
      intro hn
      rcases ih (by omega) with h | ⟨k, h1, h2, h3⟩
      · cases hs : safeB b (addW ws like (n + 1))
        · exact .inr ⟨n, Nat.lt_succ_self n, h, hs⟩
        · exact .inl fun j hj => by
            rcases Nat.lt_succ_iff_lt_or_eq.1 hj with h4 | h4
            · exact h j h4
            · rw [h4]; exact hs
      · exact .inr ⟨k, by omega, h2, h3⟩
  have hlast : ∀ k, (∀ j, j < k → safeB b (addW ws like (j + 1)) = true) → safeB b (addW ws like k) = true := fun k h => by
    cases k with
    | zero => rw [ha]; exact h0
    | succ k => exact h k (Nat.lt_succ_self k)
  rcases key _ (Nat.le_refl _) with h | ⟨k, h1, h2, h3⟩
  · exact ⟨24 - ws.length, moreV_all h, Nat.le_refl _, hlast _ h, fun h4 => absurd h4 (Nat.lt_irrefl _)⟩
  · exact ⟨k, moreV_stop h1 h2 h3, Nat.le_of_lt h1, hlast k h2, fun _ => h3⟩
theorem wals_of_vld {b : Bdg} {ws : List Wal} (vd : Vld b ws) : walsB b ws = true := by
  unfold walsB
  rw [Bool.and_eq_true]
  refine ⟨?_, List.all_eq_true.2 fun w hw => ?_⟩
  · have := vd.wl
    rw [decide_eq_false (by omega)]; rfl
  · have := vd.w w hw
    simp only [walB, Bool.and_eq_true, spB_iff, inB, decide_eq_true_eq]
    exact this
theorem safe_yes {b : Bdg} {ws : List Wal} (h : safeB b ws = true) : safeV b ws = (2, -1, -1) := by
  unfold safeV; exact if_pos h
theorem safe_no {b : Bdg} {ws : List Wal} (h : safeB b ws = false) : (safeV b ws).1 = 0 ∨ (safeV b ws).1 = 1 := by
  unfold safeV
  have h' : ¬ noL (lateV true b ws) = true := fun h2 => by rw [show safeB b ws = noL (lateV true b ws) from rfl, h2] at h; cases h
  rw [if_neg h']
  split
  · exact .inr rfl
  · exact .inl rfl
theorem addW_len (ws : List Wal) (like : Wal) (k : Nat) : (addW ws like k).length = ws.length + k := by unfold addW; rw [List.length_append, List.length_replicate]
theorem addW_snoc (ws : List Wal) (like : Wal) (k : Nat) : addW ws like k ++ [like] = addW ws like (k + 1) := by unfold addW; rw [List.append_assoc, List.replicate_succ']
theorem law_more (b : Bdg) (ws : List Wal) (like : Wal) : APure Tryd.prog 11 [encB b, encW ws, .agg (cWa like)] (.bool true) := by
  have sA := alive_spec
  have sR := ready_spec b ws
  have sL : APure Tryd.prog 31 [encB b, .lst 5 [cWa like]] (.bool (readyB b [like])) := ready_spec b [like]
  cases h1 : readyB b ws
  · rw [h1] at sR
    exact APure.vcM Tryd.func11 (.call (.bool true) <| .call (.bool false) .nil) rfl rfl ⟨sA, sR, [], by kernel_rfl⟩
  rw [h1] at sR
  cases h2 : readyB b [like]
  · rw [h2] at sL
    exact APure.vcM Tryd.func11 (.call (.bool true) <| .call (.bool true) <| .lent (.bool false) [2] .nil) rfl rfl ⟨sA, sR, ⟨_, by kernel_rfl, .inl ⟨sL, .inr rfl⟩⟩, [], by kernel_rfl⟩
  rw [h2] at sL
  obtain ⟨b1, b2⟩ := ready_1 h1
  have b3 := (ready_1 h2).2
  have vd := vld_of b1 b2
  have v1 := vld_of b1 b3
  have hwl := vd.wl
  have sM := More_ok b ws like b1 b2 b3
  have sS := Safe_ok b ws b1 b2
  unfold moreA at sM
  cases h3 : safeB b ws
  · rw [h3] at sM
    have e := safe_no h3
    generalize safeV b ws = v at *
    obtain ⟨a, c, d⟩ := v
    rcases e with e | e <;> (change a = _ at e; subst e)
    · exact APure.vcM Tryd.func11 (.call (.bool true) <| .call (.bool true) <| .lent (.bool true) [2] <| .call (.tup [.int .i64 0, .int .i64 8]) <| .call (.tup [.int .u8 0, .int .i64 c, .int .i64 d, .int .i64 0]) .nil) rfl rfl ⟨sA, sR, ⟨_, by kernel_rfl, .inl ⟨sL, .inr rfl⟩⟩, sM, sS, [], by kernel_rfl⟩
    · exact APure.vcM Tryd.func11 (.call (.bool true) <| .call (.bool true) <| .lent (.bool true) [2] <| .call (.tup [.int .i64 0, .int .i64 8]) <| .call (.tup [.int .u8 1, .int .i64 c, .int .i64 d, .int .i64 0]) .nil) rfl rfl ⟨sA, sR, ⟨_, by kernel_rfl, .inl ⟨sL, .inr rfl⟩⟩, sM, sS, [], by kernel_rfl⟩
  rw [h3] at sM
  obtain ⟨m, em, hm1, hm2, hm3⟩ := moreV_is b ws like h3
  rw [em] at sM
  rw [safe_yes h3] at sS
  have d1 : decide ((m : Int) < 0) = false := decide_eq_false (by omega)
  have d2 : decide ((m : Int) > IntKind.i64.wrap (24 - ((ws.map cWa).length : Int))) = false := by rw [List.length_map, wrap64 (by omega) (by omega)]; exact decide_eq_false (by omega)
  have ap := appW0 (h := hget [(3, .cells [])]) (i := 3) (nid := 4) (l := ws) rfl (by omega)
  have okW : ∀ (N : Nat) (l : List Wal), okL N (fl cWa l) = true := fun N l => fl_ok (fun _ => rfl) l
  have ea0 : ws = addW ws like 0 := by simp [addW]
  have e14 : AV.rsl 4 0 ws.length 5 = .rsl 4 0 (addW ws like 0).length 5 := by rw [← ea0]
  have o14 : some (AObj.cells (fl cWa ws)) = some (.cells (fl cWa (addW ws like 0))) := by rw [← ea0]
  have vm := vd.add v1 hm1
  have wm := addW_len ws like m
  have bm : walsB b (addW ws like m) = true := wals_of_vld vm
  have sm := Safe_ok b (addW ws like m) b1 bm
  rw [safe_yes hm2] at sm
  have hT : ws.length + m = 24 ∨ ((∃ c d : Int, APure Tryd.prog 16 [encB b, encW (addW ws like (m + 1))] (.tup [.int .u8 0, .int .i64 c, .int .i64 d, .int .i64 0])) ∨ (∃ c d : Int, APure Tryd.prog 16 [encB b, encW (addW ws like (m + 1))] (.tup [.int .u8 1, .int .i64 c, .int .i64 d, .int .i64 0]))) := by
    by_cases h : ws.length + m = 24
    · exact .inl h
    · have hlt : m < 24 - ws.length := by omega
      have s1 := Safe_ok b (addW ws like (m + 1)) b1 (wals_of_vld (vd.add v1 (by omega)))
      rcases safe_no (hm3 hlt) with e | e
      · rw [e] at s1; exact .inr (.inl ⟨_, _, s1⟩)
      · rw [e] at s1; exact .inr (.inr ⟨_, _, s1⟩)
  have hTn : ws.length + m ≠ 24 → (((addW ws like m).length : Int) == 24) = false := fun h => beq_eq_false_iff_ne.2 (by omega)
  have hTy : ws.length + m = 24 → (((addW ws like m).length : Int) == 24) = true := fun h => beq_iff_eq.2 (by omega)
  have hB4 : thawL (hget [(0, .cells (cB b)), (1, .cells (cWa like)), (4, .cells (fl cWa (addW ws like m)))]) [encB b, .rsl 4 0 (addW ws like m).length 5] = some ([encB b, encW (addW ws like m)], [4]) := thawBW b rfl
  have hB9 : thawL (hget [(0, .cells (cB b)), (1, .cells (cWa like)), (8, .cells (cWa like)), (9, .cells (fl cWa (addW ws like (m + 1))))]) [encB b, .rsl 9 0 ((addW ws like m).length + 1) 5] = some ([encB b, encW (addW ws like (m + 1))], [9]) := by
    rw [show (addW ws like m).length + 1 = (addW ws like (m + 1)).length by rw [addW_len, addW_len]; omega]; exact thawBW b rfl
  have ap9 := appW1 (h := hget [(4, .cells (fl cWa (addW ws like m))), (8, .cells (cWa like))]) (i := 4) (j := 8) (nid := 9) (d := addW ws like m) (x := like) rfl rfl (by omega)
  rw [addW_snoc] at ap9
  refine APure.vcM Tryd.func11 (.call (.bool true) <| .call (.bool true) <| .lent (.bool true) [2] <| .call (.tup [.int .i64 m, .int .i64 0]) <| .call (.tup [.int .u8 2, .int .i64 (-1), .int .i64 (-1), .int .i64 0]) <| .br 77 false <| .br 83 false <| .val 86 (.rsl 4 0 ws.length 5) [(3, none), (4, some (.cells (fl cWa ws)))] .loop) rfl rfl ⟨sA, sR, ⟨_, by kernel_rfl, .inl ⟨sL, .inr rfl⟩⟩, sM, sS, d1, d2, Eq.trans (by kernel_rfl) ap, ?_⟩
  intro g hn hlo
  replace hn : g.n = 133 := hn
  replace hlo : g.low 0 := hlo.mono (Nat.zero_le _)
  refine acode_whileW (fun k : Nat => ⟨[(3, .vptr 0 0), (5, .vptr 1 0), (7, .bool true), (14, .rsl 4 0 (addW ws like k).length 5), (87, .int .i64 m), (88, .int .i64 k)], [(0, .cells (cB b)), (1, .cells (cWa like)), (4, .cells (fl cWa (addW ws like k)))], 5⟩) (fun k => k ≤ m) (fun k => m - k) 0 (Nat.zero_le _) ?_ ?_
  · exact Wk.le (St.le.of ⟨by kernel_rfl, rfl, by kernel_rfl, rfl, by kernel_rfl, rfl, Eq.trans (by kernel_rfl) e14, rfl, by kernel_rfl, rfl, by kernel_rfl, rfl, trivial⟩ ⟨by kernel_rfl, (by decide : (0 : Nat) < 5), rfl, by kernel_rfl, (by decide : (1 : Nat) < 5), rfl, Eq.trans (by kernel_rfl) o14, (by decide : (4 : Nat) < 5), okW _ _, trivial⟩) (hlo.mono (Nat.zero_le _))
  · intro k hk
    by_cases hlt : k < m
    · have ek := congrArg (AV.int .i64) (succ64 (k := k) (by omega))
      have hd : decide ((k : Int) < (m : Int)) = true := decide_eq_true (Int.ofNat_lt.2 hlt)
      have hl1 := addW_len ws like k
      have hl2 := addW_len ws like (k + 1)
      have ap1 := appW1 (h := hget [(4, .cells (fl cWa (addW ws like k))), (5, .cells (cWa like))]) (i := 4) (j := 5) (nid := 6) (d := addW ws like k) (x := like) rfl rfl (by omega)
      rw [addW_snoc] at ap1
      have e14' : AV.rsl 4 0 (addW ws like (k + 1)).length 5 = .rsl 4 0 ((addW ws like k).length + 1) 5 := by rw [hl1, hl2]; rfl
      have hmu : m - (k + 1) < m - k := by omega
      exact ACode.vcM (.br 89 true <| .val 93 (.rsl 6 0 ((addW ws like k).length + 1) 5) [(4, none), (6, some (.cells (fl cWa (addW ws like (k + 1)))))] .nil) hn hlo (.roundW .cl) ⟨hd, Eq.trans (by kernel_rfl) ap1, k + 1, hlt, hmu,
        Wk.ren (c := 4) (b := 6) (St.ren.of rfl (by decide) ⟨.inl ⟨by kernel_rfl, rfl⟩, .inl ⟨by kernel_rfl, rfl⟩, .inl ⟨by kernel_rfl, rfl⟩, .inr ⟨0, (addW ws like k).length + 1, 5, e14', by kernel_rfl⟩, .inl ⟨by kernel_rfl, rfl⟩, .inl ⟨Eq.trans (by kernel_rfl) ek, rfl⟩, trivial⟩ ⟨.inl ⟨(by decide : (0 : Nat) < 4), by kernel_rfl, rfl⟩, .inl ⟨(by decide : (1 : Nat) < 4), by kernel_rfl, rfl⟩, .inr ⟨rfl, by kernel_rfl, _, rfl, okW _ _⟩, trivial⟩) (hlo.mono (Nat.zero_le _))⟩
    · have hkm : k = m := by have h9 : k ≤ m := hk; omega
      subst hkm
      have hd : decide ((k : Int) < (k : Int)) = false := decide_eq_false (Int.lt_irrefl _)
      refine Or.elim (Classical.em (ws.length + k = 24)) (fun hT1 => ?_) (fun hT1 => ?_)
      · exact ACode.vcM (.br 89 false .nil) hn hlo (.roundW .cl) ⟨hd, _, .refl _, .lent (.tup [.int .u8 2, .int .i64 (-1), .int .i64 (-1), .int .i64 0]) [4] <| .br 111 true .nil, ⟨_, Eq.trans (by kernel_rfl) hB4, .inl ⟨sm, .inr rfl⟩⟩, hTy hT1, [], by kernel_rfl⟩
      · refine Or.elim (Or.resolve_left hT hT1) (fun h => Exists.elim h fun c h => Exists.elim h fun d s1 => ?_) (fun h => Exists.elim h fun c h => Exists.elim h fun d s1 => ?_)
        · exact ACode.vcM (.br 89 false .nil) hn hlo (.roundW .cl) ⟨hd, _, .refl _, .lent (.tup [.int .u8 2, .int .i64 (-1), .int .i64 (-1), .int .i64 0]) [4] <| .br 111 false <| .draw 14 <| .val 118 (.rsl 9 0 ((addW ws like k).length + 1) 5) [(4, none), (9, some (.cells (fl cWa (addW ws like (k + 1)))))] <| .lent (.tup [.int .u8 0, .int .i64 c, .int .i64 d, .int .i64 0]) [9] .nil, ⟨_, Eq.trans (by kernel_rfl) hB4, .inl ⟨sm, .inr rfl⟩⟩, hTn hT1, by kernel_rfl, mixed, by kernel_rfl, Eq.trans (by kernel_rfl) ap9, ⟨_, Eq.trans (by kernel_rfl) hB9, .inl ⟨s1, .inr rfl⟩⟩, by kernel_rfl, [], by kernel_rfl⟩
        · exact ACode.vcM (.br 89 false .nil) hn hlo (.roundW .cl) ⟨hd, _, .refl _, .lent (.tup [.int .u8 2, .int .i64 (-1), .int .i64 (-1), .int .i64 0]) [4] <| .br 111 false <| .draw 14 <| .val 118 (.rsl 9 0 ((addW ws like k).length + 1) 5) [(4, none), (9, some (.cells (fl cWa (addW ws like (k + 1)))))] <| .lent (.tup [.int .u8 1, .int .i64 c, .int .i64 d, .int .i64 0]) [9] .nil, ⟨_, Eq.trans (by kernel_rfl) hB4, .inl ⟨sm, .inr rfl⟩⟩, hTn hT1, by kernel_rfl, mixed, by kernel_rfl, Eq.trans (by kernel_rfl) ap9, ⟨_, Eq.trans (by kernel_rfl) hB9, .inl ⟨s1, .inr rfl⟩⟩, by kernel_rfl, [], by kernel_rfl⟩
end Go.Proofs.YtiggnliiigcjaaaDoor

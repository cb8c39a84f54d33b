import Derived.Test.YtcdcgbgmpmaipaaDoorD9
namespace Go.Proofs.YtcdcgbgmpmaipaaDoor
open Go Go.Am
set_option maxRecDepth 100000
set_option maxHeartbeats 4000000
theorem perm_erase {α : Type} : ∀ {l : List α} {j : Nat} {a : α}, l[j]? = some a → (a :: l.eraseIdx j).Perm l
  | [], j, a, h => by simp at h
  | b :: l, 0, a, h => by simp at h; subst h; exact .refl _
  | b :: l, j + 1, a, h => by
    simp only [List.getElem?_cons_succ] at h
    exact (List.Perm.swap b a _).trans ((perm_erase h).cons b)
theorem map_erase {α β : Type} (f : α → β) : ∀ (l : List α) (j : Nat), (l.map f).eraseIdx j = (l.eraseIdx j).map f
  | [], j => rfl
  | b :: l, 0 => rfl
  | b :: l, j + 1 => by simp only [List.map_cons, List.eraseIdx_cons_succ, map_erase f l j]
theorem nxtE {F : Nat → Sn × Bool} {l : List Nat} {p : Nat → AV × AV → Prop} (h : ∀ j lag, l[j]? = some lag → p j (entA F lag)) : ∀ j e, (entsA F l)[j]? = some e → p j e := fun j e he => by
  unfold entsA at he
  rw [List.getElem?_map] at he
  cases hl : l[j]? with
  | none => rw [hl] at he; cases he
  | some lag => rw [hl] at he; cases he; exact h j lag hl
theorem okIter (n : Nat) (F : Nat → Sn × Bool) (c : Option Nat) (l : List Nat) : okO n (.iter (c.map (entA F)) (entsA F l)) = true := by
  show (okE n (c.map (entA F)).toList && okE n (entsA F l)) = true
  rw [okE_entsA]
  cases c <;> rfl
def keysCl (F : Nat → Sn × Bool) (L : List Nat) : AV := .fn (.func 70) [] [.cptr [.imap (entsA F L)]]
def first1Cl (F : Nat → Sn × Bool) (L : List Nat) : AV := .fn (.func 49) [] [.cptr [.imap (entsA F L)]]
theorem Keys_spec (F : Nat → Sn × Bool) (L : List Nat) : APure Tryd.prog 48 [.imap (entsA F L)] (keysCl F L) :=
  APure.vcT Tryd.func48 .nil rfl rfl ⟨[0], by kernel_rfl⟩
theorem First1_spec (F : Nat → Sn × Bool) (L : List Nat) (lag : Nat) (hm : lag ∈ L) : APure Tryd.prog 49 [.int .i64 lag, .cptr [.imap (entsA F L)]] (encS (F lag).1) := by
  have lk := congrArg (fun o => o.map fun v => (⟨v, []⟩ : Out)) (lookA (h := hget []) (F := F) (l := L) (lag := lag))
  rw [if_pos hm] at lk
  exact APure.vc Tryd.func49 rfl (.val 6 (encAr (F lag)) [] .nil) rfl rfl ⟨Eq.trans (by kernel_rfl) lk, trivial, rfl⟩
def wdF (F : Nat → Sn × Bool) (l : List Nat) : Sn := widL (l.map fun lag => (F lag).1)
theorem widest_keys_spec (F : Nat → Sn × Bool) (L : List Nat) (hF : ∀ lag ∈ L, 0 ≤ (F lag).1.1 ∧ (F lag).1.1 ≤ (F lag).1.2 ∧ (F lag).1.2 ≤ 1000) : APure Tryd.prog 47 [keysCl F L, first1Cl F L] (encS (widZ (L.map fun lag => (F lag).1))) := by
  have sF := First1_spec F L
  have sJ : ∀ l lag, APure Tryd.prog 69 [encS (wdF F l), encS (F lag).1] (encS (wdF F (l ++ [lag]))) := fun l lag => by
    have : wdF F (l ++ [lag]) = joinP (wdF F l) (F lag).1 := by unfold wdF; rw [List.map_append, List.map_singleton, widL_snoc]
    rw [this]; exact join_spec _ _
  have h0 : wdF F [] = (-1, -1) := rfl
  have hP : ∀ l, l.Perm L → wdF F l = wdF F L := fun l hl => widL_perm (hl.map _) fun s hs => by
    obtain ⟨lag, h1, rfl⟩ := List.mem_map.1 hs
    have := hF lag (hl.subset h1)
    omega
  have hR : (L = [] ∧ wdF F L = (-1, -1)) ∨ (L ≠ [] ∧ 0 ≤ (wdF F L).1) := by
    rcases widL_rng (l := L.map fun lag => (F lag).1) (B := 1000) fun s hs => by
        obtain ⟨lag, h1, rfl⟩ := List.mem_map.1 hs
        exact hF lag h1 with ⟨e, h1⟩ | ⟨e, h1, _⟩
    · exact .inl ⟨by simpa using e, h1⟩
    · exact .inr ⟨by simpa using e, h1⟩
  have hZ : widZ (L.map fun lag => (F lag).1) = if wdF F L = (-1, -1) then (0, 0) else wdF F L := rfl
  rw [hZ]
  clear hZ
  generalize wdF F = W at *
  refine APure.vc Tryd.func47 rfl (.inl Tryd.f70 .loop) rfl rfl ⟨Tryd.func70, ?_⟩
  intro g hn hl
  replace hn : g.n = 14 := hn
  replace hl : g.low 5 := hl
  refine acode_whileW (fun o : Option Nat × List Nat × List Nat => ⟨[(0, .yld 4), (5, .vptr 5 0)],
      [(0, .cells [first1Cl F L]), (1, .cells [.int .i64 0, .int .i64 0]), (2, .cells [.int .i64 (W o.2.1).1, .int .i64 (W o.2.1).2]), (4, .loop ⟨.ready, none, 20, [(3, .vptr 0 0), (4, .vptr 1 0), (5, .vptr 2 0)], #[9], asgW, bodW⟩), (5, .iter (o.1.map (entA F)) (entsA F o.2.2))], 6⟩)
    (fun o => (o.2.1 ++ o.2.2).Perm L) (fun o => o.2.2.length) (none, [], L) (List.Perm.refl _) ?_ ?_
  · have o0 : some (AObj.cells [.int .i64 (-1), .int .i64 (-1)]) = some (.cells [.int .i64 (W []).1, .int .i64 (W []).2]) := by rw [h0]
    refine Wk.trans (Wk.le ?_ (hl.mono (show 5 ≤ 6 by decide))) (Wk.loopEnv (id := 4) (n := 5) [(3, .vptr 0 0), (4, .vptr 1 0), (5, .vptr 2 0)] rfl ⟨rfl, rfl, rfl, rfl, rfl, rfl, trivial⟩)
    exact St.le.of ⟨by kernel_rfl, rfl, by kernel_rfl, rfl, trivial⟩ ⟨by kernel_rfl, (by decide : (0 : Nat) < 6), rfl, by kernel_rfl, (by decide : (1 : Nat) < 6), rfl, Eq.trans (by kernel_rfl) o0, (by decide : (2 : Nat) < 6), rfl, by kernel_rfl, (by decide : (4 : Nat) < 6), rfl, by kernel_rfl, (by decide : (5 : Nat) < 6), okIter _ _ none _, trivial⟩
  · rintro ⟨c, done, left⟩ hp
    replace hp : (done ++ left).Perm L := hp
    have qd := eqNone (W done).1 (W done).2
    have hov : entsA F left = [] → (((aeqT Tryd.prog 6 23 (.agg [.int .i64 (W done).1, .int .i64 (W done).2]) (.agg [.int .i64 (-1), .int .i64 (-1)])).map AV.bool).map (fun v => (⟨v, []⟩ : Out)) = some ⟨.bool true, []⟩ ∧ some (encS (0, 0)) = some (encS (if W L = (-1, -1) then (0, 0) else W L))) ∨
        (((aeqT Tryd.prog 6 23 (.agg [.int .i64 (W done).1, .int .i64 (W done).2]) (.agg [.int .i64 (-1), .int .i64 (-1)])).map AV.bool).map (fun v => (⟨v, []⟩ : Out)) = some ⟨.bool false, []⟩ ∧ some (encS (W done)) = some (encS (if W L = (-1, -1) then (0, 0) else W L))) := fun e => by
      have hd := hP done (by rw [show left = [] from List.map_eq_nil_iff.1 e, List.append_nil] at hp; exact hp)
      rw [qd, hd]
      rcases hR with ⟨_, h1⟩ | ⟨_, h1⟩
      · left
        rw [if_pos h1, h1]; exact ⟨rfl, rfl⟩
      · right
        rw [notNone h1, if_neg fun e => by rw [e] at h1; simp at h1]; exact ⟨rfl, rfl⟩
    have hD : ∀ j lag : Nat, left[j]? = some lag → left.getD j 0 = lag := fun j lag hj => by rw [List.getD_eq_getElem?_getD, hj]; rfl
    have hS : ∀ j lag : Nat, left[j]? = some lag → APure Tryd.prog 49 [.int .i64 lag, .cptr [.imap (entsA F L)]] (encS (F (left.getD j 0)).1) := fun j lag hj => by
      rw [hD j lag hj]
      exact sF lag (hp.subset (List.mem_append_right _ (List.mem_of_getElem? hj)))
    have hQ : ∀ j lag : Nat, left[j]? = some lag → ((done ++ [left.getD j 0]) ++ left.eraseIdx j).Perm L ∧ (left.eraseIdx j).length < left.length := fun j lag hj => by
      obtain ⟨hj', e⟩ := List.getElem?_eq_some_iff.1 hj
      rw [hD j lag hj]
      refine ⟨?_, by rw [List.length_eraseIdx, if_pos hj']; omega⟩
      have := perm_erase hj
      rw [List.append_assoc]
      exact ((List.Perm.refl done).append (by simpa using this)).trans hp
    have hO : ∀ j lag : Nat, left[j]? = some lag → some (AObj.iter (some (entA F lag)) ((entsA F left).eraseIdx j)) = some (.iter (Option.map (entA F) (some (left.getD j 0))) (entsA F (left.eraseIdx j))) := fun j lag hj => by
      rw [hD j lag hj]
      unfold entsA
      rw [map_erase]; rfl
    clear hp hR hP hF sF hD
    exact ACode.vc (.nxt .nil fun j => .draw 4 <| .call (encS (F (left.getD j 0)).1) <| .call (encS (W (done ++ [left.getD j 0]))) .nil) hn hl (.roundW .cl)
      ⟨fun e => Or.elim (hov e) (fun hc => ⟨_, .refl _, .val 17 (.bool true) [] .nil, Eq.trans (by kernel_rfl) hc.1, trivial, Eq.trans (by kernel_rfl) hc.2⟩) (fun hc => ⟨_, .refl _, .val 17 (.bool false) [] .nil, Eq.trans (by kernel_rfl) hc.1, trivial, Eq.trans (by kernel_rfl) hc.2⟩),
        nxtE fun j lag hj => ⟨by kernel_rfl, mixed, by kernel_rfl, hS j lag hj, by kernel_rfl, sJ done (left.getD j 0), (some (left.getD j 0), done ++ [left.getD j 0], left.eraseIdx j), (hQ j lag hj).1, (hQ j lag hj).2,
          Wk.le (St.le.of ⟨by kernel_rfl, rfl, by kernel_rfl, rfl, trivial⟩ ⟨by kernel_rfl, (by decide : (0 : Nat) < 6), rfl, by kernel_rfl, (by decide : (1 : Nat) < 6), rfl, by kernel_rfl, (by decide : (2 : Nat) < 6), rfl, by kernel_rfl, (by decide : (4 : Nat) < 6), rfl, Eq.trans (by kernel_rfl) (hO j lag hj), (by decide : (5 : Nat) < 6), okIter _ _ (some _) _, trivial⟩) (hl.mono (show 5 ≤ 6 by decide))⟩⟩
end Go.Proofs.YtcdcgbgmpmaipaaDoor

import Derived.Test.YtjoagmjijbfjkaaGreatDoorR3
/-
  THE REFERENCE: what is the same, and scenes in new memory.
-/
namespace Go.Proofs.YtjoagmjijbfjkaaGreatDoor
open Go Go.Am
set_option maxRecDepth 100000
set_option maxHeartbeats 4000000
theorem CRel.mono1 {κ : Nat → Option Nat} {av : Nat → Prop} {w : World} {pre post : List AV} {a b : AV} {vs : Array Value} (h : CRel κ av w (pre ++ a :: post) vs) (hab : ∀ {v : Value}, VRel κ av w a v → VRel κ av w b v) : CRel κ av w (pre ++ b :: post) vs := by
  refine ⟨by rw [h.1]; simp, fun i c hi => ?_⟩
  by_cases q : i = pre.length
  · subst q
    rw [List.getElem?_append_right (Nat.le_refl _), Nat.sub_self] at hi
    simp at hi
    subst hi
    obtain ⟨u, hu, hr⟩ := h.2 pre.length a (by rw [List.getElem?_append_right (Nat.le_refl _), Nat.sub_self]; rfl)
    exact ⟨u, hu, hab hr⟩
  · refine h.2 i c ?_
    by_cases p : i < pre.length
    · rw [List.getElem?_append_left p] at hi ⊢; exact hi
    · rw [List.getElem?_append_right (by omega)] at hi ⊢
      obtain ⟨j, hj⟩ : ∃ j, i - pre.length = j + 1 := ⟨i - pre.length - 1, by omega⟩
      rw [hj] at hi ⊢
      exact hi
theorem ne_self64 (x : Int) : (x != x) = false := bne_self_eq_false x
theorem SameInts_self (l : List Int) (hl : l.length ≤ 100000) : APure Tryz.prog 18 [encR l, encR l] (.bool true) := by
  refine APure.vc Tryz.func18 rfl (.br 10 false .loop) rfl rfl ⟨ne_self64 _, ?_⟩
  intro g hn hlo
  replace hn : g.n = 26 := hn
  replace hlo : g.low 0 := hlo
  refine acode_while (fun k : Nat => ⟨[(0, encR l), (1, encR l), (5, .int .i64 k)], [], 0⟩) (fun k => k ≤ l.length) (fun k => l.length - k) 0 (Nat.zero_le _) ?_ (fun _ _ => hlo) ?_
  · exact St.le.of ⟨by kernel_rfl, rfl, by kernel_rfl, rfl, by kernel_rfl, rfl, trivial⟩ trivial
  · intro k hk
    replace hk : k ≤ l.length := hk
    by_cases hlt : k < l.length
    · refine Exists.elim (getE hlt) fun x hx => ?_
      have ek := congrArg (AV.int .i64) (succ64 (k := k) (by omega))
      exact ACode.vc (.br 14 true <| .draw 8 <| .cells (encI x) <| .cells (encI x) <| .br 25 false .nil) hn hlo (.round .cl) ⟨ltLen hlt, by kernel_rfl, mixed, by kernel_rfl, idx hx, idx hx, by kernel_rfl, ne_self64 x, k + 1, hlt, mu1 hlt,
        St.le.of ⟨by kernel_rfl, rfl, by kernel_rfl, rfl, Eq.trans (by kernel_rfl) ek, rfl, trivial⟩ trivial⟩
    · exact ACode.vc (.br 14 false .nil) hn hlo (.round .cl) ⟨geLen hlt, _, .refl _, .nil, rB rfl⟩
theorem neGt (x : Gt) : ((aeqT Tryz.prog 6 38 (.agg (cGt x)) (.agg (cGt x))).map fun b => AV.bool !b).map (fun v => (⟨v, []⟩ : Out)) = some ⟨.bool false, []⟩ := by
  simp [cGt, aeqT, aeqF, ty38, ty36, ty3, apart, TD.agg, andO]
theorem neMk (x : Mk) : ((aeqT Tryz.prog 6 46 (.agg (cMk x)) (.agg (cMk x))).map fun b => AV.bool !b).map (fun v => (⟨v, []⟩ : Out)) = some ⟨.bool false, []⟩ := by
  simp [cMk, kO, aeqT, aeqF, ty46, ty36, ty3, ty5, apart, TD.agg, andO]
theorem Same_self (s : Scn) (hg : s.gates.length ≤ 1000) (hm : s.marks.length ≤ 1000) : APure Tryz.prog 34 [encSc s, encSc s] (.bool true) := by
  refine APure.vcM Tryz.func34 (.br 12 false <| .br 19 false <| .br 28 false <| .br 36 false .loop) rfl rfl ⟨ne_self64 _, ne_self64 _, ne_self64 _, ne_self64 _, ?_⟩
  intro g hn hlo
  replace hn : g.n = 73 := hn
  replace hlo : g.low 0 := hlo
  refine acode_while (fun k : Nat => ⟨[(2, .vptr 0 0), (3, .vptr 1 0), (5, .int .i64 k)], [(0, .cells (cSc s)), (1, .cells (cSc s))], 2⟩) (fun k => k ≤ s.gates.length) (fun k => s.gates.length - k) 0 (Nat.zero_le _) ?_ (fun _ _ => hlo.mono (Nat.zero_le _)) ?_
  · exact St.le.of ⟨by kernel_rfl, rfl, by kernel_rfl, rfl, by kernel_rfl, rfl, trivial⟩ ⟨by kernel_rfl, (by decide : (0 : Nat) < 2), by kernel_rfl, by kernel_rfl, (by decide : (1 : Nat) < 2), by kernel_rfl, trivial⟩
  · intro k hk
    replace hk : k ≤ s.gates.length := hk
    by_cases hlt : k < s.gates.length
    · refine Exists.elim (getE hlt) fun x hx => ?_
      have ek := congrArg (AV.int .i64) (succ64 (k := k) (by omega))
      exact ACode.vcM (.br 41 true <| .draw 10 <| .cells (cGt x) <| .cells (cGt x) <| .val 54 (.bool false) [] .nil) hn hlo (.round .cl) ⟨ltLen hlt, by kernel_rfl, mixed, by kernel_rfl, idx hx, idx hx, by kernel_rfl, Eq.trans (by kernel_rfl) (neGt x), k + 1, hlt, mu1 hlt,
        St.le.of ⟨by kernel_rfl, rfl, by kernel_rfl, rfl, Eq.trans (by kernel_rfl) ek, rfl, trivial⟩ ⟨by kernel_rfl, (by decide : (0 : Nat) < 2), by kernel_rfl, by kernel_rfl, (by decide : (1 : Nat) < 2), by kernel_rfl, trivial⟩⟩
    · refine ACode.vcM (.br 41 false .nil) hn hlo (.round .cl) ⟨geLen hlt, _, .refl _, .loop, ?_⟩
      intro g hn hlo
      replace hn : g.n = 73 := hn
      replace hlo : g.low 0 := hlo
      refine acode_while (fun k : Nat => ⟨[(2, .vptr 0 0), (3, .vptr 1 0), (6, .int .i64 k)], [(0, .cells (cSc s)), (1, .cells (cSc s))], 2⟩) (fun k => k ≤ s.marks.length) (fun k => s.marks.length - k) 0 (Nat.zero_le _) ?_ (fun _ _ => hlo.mono (Nat.zero_le _)) ?_
      · exact St.le.of ⟨by kernel_rfl, rfl, by kernel_rfl, rfl, by kernel_rfl, rfl, trivial⟩ ⟨by kernel_rfl, (by decide : (0 : Nat) < 2), by kernel_rfl, by kernel_rfl, (by decide : (1 : Nat) < 2), by kernel_rfl, trivial⟩
      · intro k hk
        replace hk : k ≤ s.marks.length := hk
        by_cases hlt : k < s.marks.length
        · refine Exists.elim (getE hlt) fun x hx => ?_
          have ek := congrArg (AV.int .i64) (succ64 (k := k) (by omega))
          exact ACode.vcM (.br 59 true <| .draw 10 <| .cells (cMk x) <| .cells (cMk x) <| .val 72 (.bool false) [] .nil) hn hlo (.round .cl) ⟨ltLen hlt, by kernel_rfl, mixed, by kernel_rfl, idx hx, idx hx, by kernel_rfl, Eq.trans (by kernel_rfl) (neMk x), k + 1, hlt, mu1 hlt,
            St.le.of ⟨by kernel_rfl, rfl, by kernel_rfl, rfl, Eq.trans (by kernel_rfl) ek, rfl, trivial⟩ ⟨by kernel_rfl, (by decide : (0 : Nat) < 2), by kernel_rfl, by kernel_rfl, (by decide : (1 : Nat) < 2), by kernel_rfl, trivial⟩⟩
        · exact ACode.vcM (.br 59 false .nil) hn hlo (.round .cl) ⟨geLen hlt, _, .refl _, .nil, [], by kernel_rfl⟩
end Go.Proofs.YtjoagmjijbfjkaaGreatDoor
/-
  A SCENE IN NEW MEMORY.
-/
namespace Go.Proofs.YtjoagmjijbfjkaaGreatDoor
open Go Go.Am
set_option maxRecDepth 100000
set_option maxHeartbeats 4000000
theorem app_gts {h : Nat → Option AObj} {i nid : Nat} {l : List Gt} (h0 : h i = some (.cells [])) (hl : l.length ≤ 1000) : aAppend Tryz.prog h nid 28 28 (.rsl i 0 0 4) (.lst 4 (l.map cGt)) = some ⟨.rsl nid 0 l.length 4, [(i, none), (nid, some (.cells (fl cGt l)))]⟩ := by
  have hb := fl_cellB (enc := cGt) (fun _ => rfl) l
  have hln : (fl cGt l).length = l.length * 4 := fl_len (enc := cGt) (n := 4) (fun _ => rfl) l
  simp only [aAppend, aAppend0, ty28, ty38, srcCells, map_all (enc := cGt) (n := 4) (fun _ => rfl) l, fl_flatten, h0]
  simp [hb]; omega
theorem app_mks {h : Nat → Option AObj} {i nid : Nat} {l : List Mk} (h0 : h i = some (.cells [])) (hl : l.length ≤ 1000) : aAppend Tryz.prog h nid 29 29 (.rsl i 0 0 7) (.lst 7 (l.map cMk)) = some ⟨.rsl nid 0 l.length 7, [(i, none), (nid, some (.cells (fl cMk l)))]⟩ := by
  have hb := fl_cellB (enc := cMk) (fun _ => rfl) l
  have hln : (fl cMk l).length = l.length * 7 := fl_len (enc := cMk) (n := 7) (fun _ => rfl) l
  simp only [aAppend, aAppend0, ty29, ty46, srcCells, map_all (enc := cMk) (n := 7) (fun _ => rfl) l, fl_flatten, h0]
  simp [hb]; omega
theorem fl_flatC {α : Type} {enc : α → List AV} (h : ∀ a, ∀ c ∈ enc a, c.flat = true) (l : List α) : ∀ c ∈ fl enc l, c.flat = true := by
  intro c hc
  obtain ⟨x, _, hx⟩ := List.mem_flatMap.1 hc
  exact h x c hx
theorem thawF_fl {α : Type} {enc : α → List AV} {n : Nat} (d : Nat) (hn : ∀ a, (enc a).length = n) (hf : ∀ a, ∀ c ∈ enc a, c.flat = true) {h : Nat → Option AObj} {id : Nat} {l : List α} (h0 : h id = some (.cells (fl enc l))) :
    thawF (d + 2) h (.rsl id 0 l.length n) = some (.lst n (l.map enc), [id]) := by
  have e : thawF (d + 2) h (.rsl id 0 l.length n) = (match h id with
      | some (.cells cs) => if 0 + l.length * n ≤ cs.length then (match mapO (thawF (d + 1) h) cs with | some (cs', is) => some (.lst n (chunks n (cs'.drop 0) l.length), id :: is) | none => none) else none
      | _ => none) := rfl
  rw [e, h0]
  simp only []
  rw [if_pos (by rw [fl_len hn]; omega), thawF_all d h _ (fl_flatC hf l)]
  simp only [List.drop_zero]
  rw [fl_chunks hn]
theorem cGt_flat (g : Gt) : ∀ c ∈ cGt g, c.flat = true := by
  intro c hc
  simp only [cGt, List.mem_cons, List.not_mem_nil, or_false] at hc
  rcases hc with rfl | rfl | rfl | rfl <;> rfl
theorem cMk_flat (g : Mk) : ∀ c ∈ cMk g, c.flat = true := by
  intro c hc
  simp only [cMk, kO, List.mem_cons, List.not_mem_nil, or_false] at hc
  rcases hc with rfl | rfl | rfl | rfl | rfl | rfl | rfl <;> rfl
theorem thawF_Sc {h : Nat → Option AObj} {s : Scn} {i j : Nat} (hi : h i = some (.cells (fl cGt s.gates))) (hj : h j = some (.cells (fl cMk s.marks))) :
    thawF 8 h (.agg [.int .i64 s.rooms, .rsl i 0 s.gates.length 4, .int .i64 s.fin, .rsl j 0 s.marks.length 7]) = some (encSc s, [i, j]) := by
  have e1 : thawF 7 h (.rsl i 0 s.gates.length 4) = some (encGs s.gates, [i]) := thawF_fl (enc := cGt) (n := 4) (l := s.gates) 5 (fun _ => rfl) cGt_flat hi
  have e2 : thawF 7 h (.rsl j 0 s.marks.length 7) = some (encMs s.marks, [j]) := thawF_fl (enc := cMk) (n := 7) (l := s.marks) 5 (fun _ => rfl) cMk_flat hj
  have e3 : ∀ x : Int, thawF 7 h (.int .i64 x) = some (.int .i64 x, []) := fun _ => rfl
  have e : thawF 8 h (.agg [.int .i64 s.rooms, .rsl i 0 s.gates.length 4, .int .i64 s.fin, .rsl j 0 s.marks.length 7]) = (mapO (thawF 7 h) [.int .i64 s.rooms, .rsl i 0 s.gates.length 4, .int .i64 s.fin, .rsl j 0 s.marks.length 7]).map fun p => (.agg p.1, p.2) := rfl
  rw [e]
  simp only [mapO, e1, e2, e3]
  rfl
theorem Twin_spec (s : Scn) (hg : s.gates.length ≤ 1000) (hm : s.marks.length ≤ 1000) : APureF Tryz.prog 27 [encSc s] (encSc s) := by
  have a1 := app_gts (h := hget [(2, .cells [])]) (i := 2) (nid := 3) (l := s.gates) rfl hg
  have a2 := app_mks (h := hget [(5, .cells [])]) (i := 5) (nid := 6) (l := s.marks) rfl hm
  have th := fun (h : Nat → Option AObj) (hi : h 3 = some (.cells (fl cGt s.gates))) (hj : h 6 = some (.cells (fl cMk s.marks))) => thawF_Sc hi hj
  exact APureF.vcM Tryz.func27 (.val 6 (.rsl 3 0 s.gates.length 4) [(2, none), (3, some (.cells (fl cGt s.gates)))] <| .val 11 (.rsl 6 0 s.marks.length 7) [(5, none), (6, some (.cells (fl cMk s.marks)))] .nil) (by kernel_rfl) (by kernel_rfl)
    ⟨Eq.trans (by kernel_rfl) a1, Eq.trans (by kernel_rfl) a2, [3, 6], th _ (by kernel_rfl) (by kernel_rfl)⟩
end Go.Proofs.YtjoagmjijbfjkaaGreatDoor

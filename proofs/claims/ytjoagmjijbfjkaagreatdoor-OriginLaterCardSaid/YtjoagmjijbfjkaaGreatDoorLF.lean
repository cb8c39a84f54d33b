import Derived.Test.YtjoagmjijbfjkaaGreatDoorTR
import Derived.Test.YtjoagmjijbfjkaaGreatDoorXW
import Derived.Test.YtjoagmjijbfjkaaGreatDoorAm16
import Derived.Test.YtjoagmjijbfjkaaGreatDoorNU
import Derived.Test.YtjoagmjijbfjkaaGreatDoorR3
import Derived.Test.YtjoagmjijbfjkaaGreatDoorR11
import Derived.Test.YtjoagmjijbfjkaaGreatDoorAm28
/-
  THE CHAPTER's EXAMPLES: what is alive.
-/
namespace Go.Proofs.YtjoagmjijbfjkaaGreatDoor
open Go Go.Am
set_option maxRecDepth 100000
set_option maxHeartbeats 4000000
def exM1 : Mk := ⟨1, 1, 2, 0, 10, 12, 0⟩
def exM2 : Mk := ⟨2, 2, 0, 0, 4, 5, 0⟩
def exM3 : Mk := ⟨3, 6, 0, 1, 0, 0, 0⟩
def exM4 : Mk := ⟨4, 4, 0, 0, 0, 0, 26⟩
def exS (more : List Mk) : Scn := ⟨3, [⟨0, 1, 2, 3⟩, ⟨1, 2, 4, 4⟩], 30, exM1 :: exM2 :: more⟩
theorem told_srt {s : Scn} {room : Nat} (h : ((trS s room (allN s)).map (·.2)).Pairwise (fun a b => a.1 ≤ b.1)) : toldP s room = joinV [] ((trS s room (allN s)).map (·.2)) :=
  (told_any (fun u hu => by
    obtain ⟨t, ht, rfl⟩ := List.mem_map.1 hu
    exact tr_ok ht) (.refl _) h).symm
theorem toldEx {s : Scn} {room : Nat} {l m : List Spn} (e : (trS s room (allN s)).map (·.2) = l) (h : l.Pairwise (fun a b => a.1 ≤ b.1)) (hj : joinV [] l = m) : toldP s room = m := by
  rw [told_srt (by rw [e]; exact h), e, hj]
theorem mn0 : mnV (exS []) 0 = [(5, 6)] := (if_pos (by decide +kernel)).trans (toldEx (l := [(5, 6), (5, 5)]) (by decide +kernel) (by decide) (by decide))
theorem mn1 : mnV (exS []) 1 = [(6, 8)] := (if_pos (by decide +kernel)).trans (toldEx (l := [(6, 8), (6, 8)]) (by decide +kernel) (by decide) (by decide))
theorem mn2 : mnV (exS []) 2 = [(10, 12)] := (if_pos (by decide +kernel)).trans (toldEx (l := [(10, 12), (10, 12)]) (by decide +kernel) (by decide) (by decide))
theorem kM0 : APure Tryz.prog 19 [encSc (exS []), .int .i64 0] (.tup [encSps [(5, 6)], .int .i64 0]) := by
  have h := Minutes_ok (exS []) 0
  rw [mn0, show rmE (exS []) 0 = 0 by decide +kernel] at h; exact h
theorem kM1 : APure Tryz.prog 19 [encSc (exS []), .int .i64 1] (.tup [encSps [(6, 8)], .int .i64 0]) := by
  have h := Minutes_ok (exS []) 1
  rw [mn1, show rmE (exS []) 1 = 0 by decide +kernel] at h; exact h
theorem kM2 : APure Tryz.prog 19 [encSc (exS []), .int .i64 2] (.tup [encSps [(10, 12)], .int .i64 0]) := by
  have h := Minutes_ok (exS []) 2
  rw [mn2, show rmE (exS []) 2 = 0 by decide +kernel] at h; exact h
theorem kT6 : APure Tryz.prog 15 [encSc (exS []), .int .i64 0, .int .i64 6] (encLe [2, 4] 0) := by
  have h := Truth_ok (exS []) 0 6
  rw [show tvV (exS []) 0 6 = [2, 4] by decide +kernel, show tvE (exS []) 0 6 = 0 by decide +kernel] at h; exact h
theorem kN0 : APure Tryz.prog 21 [encSc (exS [])] (.tup [.int .i64 0, .int .i64 6]) := by
  have h := Named_ok (exS [])
  rw [show nmV (exS []) = (0, 6) by decide +kernel] at h; exact h
theorem kN1 : APure Tryz.prog 21 [encSc (exS [exM3])] (.tup [.int .i64 0, .int .i64 0]) := by
  have h := Named_ok (exS [exM3])
  rw [show nmV (exS [exM3]) = (0, 0) by decide +kernel] at h; exact h
theorem kW1 : APure Tryz.prog 20 [encSc (exS [exM3]), .int .i64 1] (encLe [3] 0) := by
  have h := Why_ok (exS [exM3]) 1
  rw [show wyV (exS [exM3]) 1 = [3] by decide +kernel, show wyE (exS [exM3]) 1 = 0 by decide +kernel] at h; exact h
theorem kA2 : APure Tryz.prog 24 [encSc (exS [exM3, exM4])] (encLe [2, 4] 0) := by
  have h := Against_ok (exS [exM3, exM4])
  rw [show agV (exS [exM3, exM4]) = [2, 4] by decide +kernel, show ckE (exS [exM3, exM4]) = 0 by decide +kernel] at h; exact h
theorem kR2 : APure Tryz.prog 17 [encSc (exS [exM3, exM4])] (encLe [] 0) := by
  have h := Rooms_ok (exS [exM3, exM4])
  rw [show rsV (exS [exM3, exM4]) = [] by decide +kernel, show ckE (exS [exM3, exM4]) = 0 by decide +kernel] at h; exact h
theorem sc0 : APureF Tryz.prog 16 [.nil] (encSc (exS [])) := .runK .nil 100 30 (by kernel_rfl)
theorem sc1 : APureF Tryz.prog 16 [encMs [exM3]] (encSc (exS [exM3])) := .runK .nil 100 30 (by kernel_rfl)
theorem sc2 : APureF Tryz.prog 16 [encMs [exM3, exM4]] (encSc (exS [exM3, exM4])) := .runK .nil 100 30 (by kernel_rfl)
theorem began0 : APure Tryz.prog 44 [.int .i64 0, .int .i64 5, .int .i64 6] (.bool true) := .runK (.consF sc0 <| .cons kM0 .nil) 100 30 (by kernel_rfl)
theorem began1 : APure Tryz.prog 44 [.int .i64 1, .int .i64 6, .int .i64 8] (.bool true) := .runK (.consF sc0 <| .cons kM1 .nil) 100 30 (by kernel_rfl)
theorem began2 : APure Tryz.prog 44 [.int .i64 2, .int .i64 10, .int .i64 12] (.bool true) := .runK (.consF sc0 <| .cons kM2 .nil) 100 30 (by kernel_rfl)
theorem why1 : APure Tryz.prog 14 [.int .i64 1, .int .i64 3] (.bool true) := .runK (.consF sc1 <| .cons kW1 .nil) 100 30 (by kernel_rfl)
theorem alive_spec : APure Tryz.prog 13 [] (.bool true) :=
  .runK (.consF sc0 <| .consF sc1 <| .consF sc2 <| .cons began0 <| .cons began1 <| .cons began2 <| .cons why1 <| .cons kT6 <| .cons kN0 <| .cons kN1 <| .cons kA2 <| .cons kR2 .nil) 200 30 (by kernel_rfl)
end Go.Proofs.YtjoagmjijbfjkaaGreatDoor
/-
  THE LAW OF NAMES.
-/
namespace Go.Proofs.YtjoagmjijbfjkaaGreatDoor
open Go Go.Am
set_option maxRecDepth 100000
set_option maxHeartbeats 4000000
theorem ready_spec (s : Scn) : APure Tryz.prog 35 [encSc s] (.bool (scB s)) := by
  have gr := RGreat_spec s
  have sc := RScene_spec s
  cases h : scB s
  · rw [h] at sc
    refine (Bool.eq_false_or_eq_true (decide (((s.gates.map cGt).length : Int) > 10) || decide (((s.marks.map cMk).length : Int) > 12))).elim (fun hg => ?_) (fun hg => ?_)
    · rw [hg] at gr
      exact APure.vc Tryz.func35 rfl (.call (.bool true) .nil) rfl rfl ⟨gr, trivial, by kernel_rfl⟩
    · rw [hg] at gr
      exact APure.vc Tryz.func35 rfl (.call (.bool false) <| .call (.bool false) .nil) rfl rfl ⟨gr, sc, trivial, by kernel_rfl⟩
  · rw [h] at sc
    have hs := scB_iff.1 h
    have hg : (decide (((s.gates.map cGt).length : Int) > 10) || decide (((s.marks.map cMk).length : Int) > 12)) = false := by
      have := hs.gl; have := hs.ml
      rw [List.length_map, List.length_map, decide_eq_false (by omega), decide_eq_false (by omega)]; rfl
    rw [hg] at gr
    exact APure.vc Tryz.func35 rfl (.call (.bool false) <| .call (.bool true) .nil) rfl rfl ⟨gr, sc, trivial, by kernel_rfl⟩
theorem tmod_rm {s : Scn} (hs : ScOk s) (which : Nat) : ∃ r : Nat, r < nR s ∧ (which : Int).tmod s.rooms = (r : Int) := by
  obtain ⟨h1, h2, _⟩ := nR_eq hs
  refine ⟨which % nR s, Nat.mod_lt _ (by omega), ?_⟩
  rw [← h1]; rfl
theorem w8 {which : Nat} (h : which < 256) : some (⟨.int .i64 (IntKind.i64.wrap (which : Int)), []⟩ : Out) = some ⟨.int .i64 (which : Int), []⟩ := by rw [wrap64 (by omega) (by omega)]
theorem take_con {l : List Int} {k : Nat} {x r : Int} (h : l[k]? = some x) : (l.take (k + 1)).contains r = ((l.take k).contains r || (x == r)) := by
  rw [take_snoc h]
  rw [Bool.eq_iff_iff]
  simp only [List.contains_iff_mem, List.mem_append, List.mem_singleton, Bool.or_eq_true, beq_iff_eq]
  exact ⟨fun q => q.imp id Eq.symm, fun q => q.imp id Eq.symm⟩
def nmM (l : List Int) : Int × Int := match l with | [] => (0, 91) | [r] => (r, 0) | _ => (0, 6)
/-- What is asked behind the loop. -/
structure NmF (l W : List Int) (E RM n1 n2 : Int) : Prop where
  why : (W = [] ∧ E = 8 ∧ l.contains RM = true) ∨ ((∃ a b, W = a :: b) ∧ E = 0 ∧ l.contains RM = false)
  nm : (n1, n2) = nmM l
  len : l.length ≤ 6
noncomputable def bodyN : Code := (Tryz.f7.body).getD .skip
theorem named_end {l W : List Int} {E RM n1 n2 : Int} (h : NmF l W E RM n1 n2) {g : G} (hn : g.n = 111) (hlo0 : g.low 0) :
    ACode Tryz.prog none g (cdrop 10 bodyN) (Ret Tryz.prog Tryz.f7 (.bool true)) ⟨[(5, .bool true), (6, .int .i64 RM), (7, encR l), (9, .int .i64 n1), (10, .int .i64 n2), (11, encR W), (12, .int .i64 E), (13, .bool (l.contains RM))], [], 0⟩ := by
  obtain ⟨hwhy, hnm, _⟩ := h
  rcases hwhy with ⟨rfl, rfl, hc⟩ | ⟨⟨a, b, rfl⟩, rfl, hc⟩
  · rw [hc]
    match l, hc, hnm with
    | [], hc, _ => cases hc
    | [x], hc, hnm =>
      cases hnm
      have ex : RM = n1 := by
        have := List.contains_iff_mem.1 hc
        rwa [List.mem_singleton] at this
      have b1 : some (⟨.bool (n1 == n1), []⟩ : Out) = some ⟨.bool true, []⟩ := by rw [beq_self_eq_true]
      have b2 : some (⟨.bool (RM == n1), []⟩ : Out) = some ⟨.bool true, []⟩ := by rw [ex, beq_self_eq_true]
      exact ACode.vc (.val 97 (.bool true) [] <| .val 102 (.bool true) [] .nil) hn hlo0 .ret ⟨Eq.trans (by kernel_rfl) b1, Eq.trans (by kernel_rfl) b2, trivial, by kernel_rfl⟩
    | x :: y :: l, hc, hnm =>
      cases hnm
      exact ACode.vc .nil hn hlo0 .ret ⟨trivial, by kernel_rfl⟩
  · rw [hc]
    match l, hc, hnm with
    | [], hc, hnm =>
      cases hnm
      exact ACode.vc .nil hn hlo0 .ret ⟨trivial, by kernel_rfl⟩
    | [x], hc, hnm =>
      cases hnm
      have ex : ¬ RM = n1 := fun e => by
        subst e
        rw [List.contains_iff_mem.2 List.mem_cons_self] at hc; cases hc
      have b1 : some (⟨.bool (n1 == n1), []⟩ : Out) = some ⟨.bool true, []⟩ := by rw [beq_self_eq_true]
      have b2 : some (⟨.bool (RM == n1), []⟩ : Out) = some ⟨.bool false, []⟩ := by rw [beq_eq_false_iff_ne.2 ex]
      exact ACode.vc (.val 97 (.bool true) [] <| .val 102 (.bool false) [] .nil) hn hlo0 .ret ⟨Eq.trans (by kernel_rfl) b1, Eq.trans (by kernel_rfl) b2, trivial, by kernel_rfl⟩
    | x :: y :: l, hc, hnm =>
      cases hnm
      exact ACode.vc .nil hn hlo0 .ret ⟨trivial, by kernel_rfl⟩
theorem law_named (s : Scn) (which : Nat) (hw8 : which < 256) : APure Tryz.prog 7 [encSc s, .int .u8 (which : Int)] (.bool true) := by
  have sA := alive_spec
  have sR := ready_spec s
  cases h1 : scB s
  · rw [h1] at sR
    exact APure.vcM Tryz.func7 (.call (.bool true) <| .call (.bool false) .nil) rfl rfl ⟨sA, sR, [], by kernel_rfl⟩
  rw [h1] at sR
  have hs := scB_iff.1 h1
  obtain ⟨room, hroom, erm⟩ := tmod_rm hs which
  obtain ⟨hnr, hn1, hn6⟩ := nR_eq hs
  have hne : s.rooms ≠ 0 := by omega
  have v24 := w8 hw8
  have sO := Rooms_ok s
  have sN := Named_ok s
  have sW := Why_ok s ((which : Int).tmod s.rooms)
  have e0 : rmE s ((which : Int).tmod s.rooms) = 0 := by rw [erm]; exact rm_of hs hroom
  have eE : wyE s ((which : Int).tmod s.rooms) = (match whyP s room with | some _ => 0 | none => 8) := by
    unfold wyE; rw [if_pos e0, erm, Int.toNat_natCast]
    cases whyP s room <;> rfl
  have eV : wyV s ((which : Int).tmod s.rooms) = (whyP s room).getD [] := by
    unfold wyV; rw [if_pos e0, erm, Int.toNat_natCast]
  have eR : rsV s = roomsP s := if_pos h1
  have eC : ckE s = 0 := if_pos h1
  have eN : nmV s = nmM (roomsP s) := if_pos h1
  have his := named_is hs hroom
  have hwn : ∀ w, whyP s room = some w → w ≠ [] := fun w q => why_some hs q
  have hll := roomsP_len s
  rw [eE, eV] at sW
  rw [eR, eC] at sO
  rw [eN] at sN
  rw [← erm] at his
  have hF : NmF (roomsP s) ((whyP s room).getD []) (match whyP s room with | some _ => 0 | none => 8) ((which : Int).tmod s.rooms) (nmM (roomsP s)).1 (nmM (roomsP s)).2 := by
    refine ⟨?_, rfl, by omega⟩
    cases hw : whyP s room with
    | none => rw [hw] at his; exact .inl ⟨rfl, rfl, his⟩
    | some w =>
      rw [hw] at his
      cases w with
      | nil => exact absurd rfl (hwn _ hw)
      | cons a b => exact .inr ⟨⟨a, b, rfl⟩, rfl, his⟩
  generalize (whyP s room).getD [] = W at *
  generalize (match whyP s room with | some _ => (0 : Int) | none => 8) = E at *
  generalize (nmM (roomsP s)) = nv at *
  generalize roomsP s = l at *
  refine APure.intro Tryz.func7 rfl (by kernel_rfl) rfl fun g hn hlo0 => ?_
  replace hn : g.n = 111 := hn
  refine ACode.cut 10 (fun _ : Unit => ⟨[(5, .bool true), (6, .int .i64 ((which : Int).tmod s.rooms)), (7, encR l), (9, .int .i64 nv.1), (10, .int .i64 nv.2), (11, encR W), (12, .int .i64 E), (13, .bool (l.contains ((which : Int).tmod s.rooms)))], [], 0⟩) (fun _ => True) (.call (.bool true) <| .call (.bool true) <| .val 24 (.int .i64 (which : Int)) [] <| .nz <| .call (encLe l 0) <| .call (.tup [.int .i64 nv.1, .int .i64 nv.2]) <| .call (encLe W E) <| .loop) hn hlo0 .ret rfl ⟨sA, sR, Eq.trans (by kernel_rfl) v24, hne, sO, sN, sW, ?_⟩ fun _ _ => named_end hF hn hlo0
  intro g hn hlo
  replace hn : g.n = 111 := hn
  replace hlo : g.low 1 := hlo.mono (show 0 ≤ 1 by decide)
  refine acode_while (fun k : Nat => ⟨[(5, .bool true), (6, .int .i64 ((which : Int).tmod s.rooms)), (7, encR l), (9, .int .i64 nv.1), (10, .int .i64 nv.2), (11, encR W), (12, .int .i64 E), (13, .bool ((l.take k).contains ((which : Int).tmod s.rooms))), (46, encR l), (47, .int .i64 (l.map encI).length), (48, .int .i64 k)], [], 1⟩) (fun k => k ≤ l.length) (fun k => l.length - k) 0 (Nat.zero_le _) ?_ (fun _ _ => hlo) ?_
  · exact St.le.of ⟨by kernel_rfl, rfl, by kernel_rfl, rfl, by kernel_rfl, rfl, by kernel_rfl, rfl, by kernel_rfl, rfl, by kernel_rfl, rfl, by kernel_rfl, rfl, by kernel_rfl, rfl, by kernel_rfl, rfl, by kernel_rfl, rfl, by kernel_rfl, rfl, trivial⟩ trivial
  · intro k hk
    replace hk : k ≤ l.length := hk
    by_cases hlt : k < l.length
    · refine Exists.elim (getE hlt) fun x hx => ?_
      have ek := congrArg (AV.int .i64) (succ64 (k := k) (by omega))
      have et := take_con (r := (which : Int).tmod s.rooms) hx
      refine (Bool.eq_false_or_eq_true ((l.take k).contains ((which : Int).tmod s.rooms))).elim (fun hb => ?_) (fun hb => ?_)
      · rw [hb, Bool.true_or] at et
        have e13 : AV.bool true = .bool ((l.take (k + 1)).contains ((which : Int).tmod s.rooms)) := by rw [et]
        have e13b : AV.bool ((l.take k).contains ((which : Int).tmod s.rooms)) = .bool ((l.take (k + 1)).contains ((which : Int).tmod s.rooms)) := by rw [hb, et]
        exact ACode.vc (.br 49 true <| .cells (encI x) <| .br 53 true .nil) hn hlo (.round .cl) ⟨ltLen hlt, idx hx, hb, k + 1, hlt, mu1 hlt,
          St.le.of ⟨by kernel_rfl, rfl, by kernel_rfl, rfl, by kernel_rfl, rfl, by kernel_rfl, rfl, by kernel_rfl, rfl, by kernel_rfl, rfl, by kernel_rfl, rfl, Eq.trans (by kernel_rfl) e13, rfl, by kernel_rfl, rfl, by kernel_rfl, rfl, Eq.trans (by kernel_rfl) ek, rfl, trivial⟩ trivial⟩
      · rw [hb, Bool.false_or] at et
        have e13 : AV.bool (x == (which : Int).tmod s.rooms) = .bool ((l.take (k + 1)).contains ((which : Int).tmod s.rooms)) := by rw [et]
        exact ACode.vc (.br 49 true <| .cells (encI x) <| .br 53 false .nil) hn hlo (.round .cl) ⟨ltLen hlt, idx hx, hb, k + 1, hlt, mu1 hlt,
          St.le.of ⟨by kernel_rfl, rfl, by kernel_rfl, rfl, by kernel_rfl, rfl, by kernel_rfl, rfl, by kernel_rfl, rfl, by kernel_rfl, rfl, by kernel_rfl, rfl, Eq.trans (by kernel_rfl) e13, rfl, by kernel_rfl, rfl, by kernel_rfl, rfl, Eq.trans (by kernel_rfl) ek, rfl, trivial⟩ trivial⟩
    · have hall : l.take k = l := List.take_of_length_le (by omega)
      have e13 : AV.bool ((l.take k).contains ((which : Int).tmod s.rooms)) = .bool (l.contains ((which : Int).tmod s.rooms)) := by rw [hall]
      exact ACode.vcM (.br 49 false .nil) hn hlo (.round .cl) ⟨geLen hlt, _, .refl _, .nil, (), trivial, Wk.le (St.le.of ⟨by kernel_rfl, rfl, by kernel_rfl, rfl, by kernel_rfl, rfl, by kernel_rfl, rfl, by kernel_rfl, rfl, by kernel_rfl, rfl, by kernel_rfl, rfl, Eq.trans (by kernel_rfl) e13, rfl, trivial⟩ trivial) hlo0⟩
end Go.Proofs.YtjoagmjijbfjkaaGreatDoor
/-
  THE LAW OF THE CHAPTER's EXAMPLES.
-/
namespace Go.Proofs.YtjoagmjijbfjkaaGreatDoor
open Go Go.Am
set_option maxRecDepth 100000
set_option maxHeartbeats 4000000
theorem span_spec (lo hi : Int) : APure Tryz.prog 43 [.int .i64 lo, .int .i64 hi] (encSp (lo, hi)) :=
  APure.vc Tryz.func43 rfl .nil rfl rfl ⟨trivial, by kernel_rfl⟩
end Go.Proofs.YtjoagmjijbfjkaaGreatDoor
/-
  A MARK MORE IN A SLICE OF MARKS.
-/
namespace Go.Proofs.YtjoagmjijbfjkaaGreatDoor
open Go Go.Am
set_option maxRecDepth 100000
set_option maxHeartbeats 4000000
theorem app_mk {h : Nat → Option AObj} {i j nid n : Nat} {l : List Mk} {x : Mk} (h0 : h i = some (.cells (fl cMk l))) (h1 : h j = some (.cells (cMk x))) (hij : i ≠ j) (hn : n ≤ l.length) (hl : l.length ≤ 1000) :
    aAppend Tryz.prog h nid 29 29 (.rsl i 0 n 7) (.rsl j 0 1 7) = some ⟨.rsl nid 0 (n + 1) 7, [(i, none), (nid, some (.cells (fl cMk (l.take n ++ [x]))))]⟩ := by
  have hlen : (fl cMk l).length = l.length * 7 := fl_len (enc := cMk) (n := 7) (fun _ => rfl) l
  have e : fl cMk (l.take n ++ [x]) = fl cMk (l.take n) ++ cMk x := by unfold fl; simp
  have et : (fl cMk l).take (n * 7) = fl cMk (l.take n) := by
    have h2 : fl cMk l = fl cMk (l.take n) ++ fl cMk (l.drop n) := by
      unfold fl; rw [← List.flatMap_append, List.take_append_drop]
    have h3 : (fl cMk (l.take n)).length = n * 7 := by rw [fl_len (enc := cMk) (n := 7) (fun _ => rfl), List.length_take, Nat.min_eq_left hn]
    rw [h2, List.take_append_of_le_length (by omega), List.take_of_length_le (by omega)]
  have lt : (fl cMk (l.take n)).length = n * 7 := by rw [fl_len (enc := cMk) (n := 7) (fun _ => rfl), List.length_take, Nat.min_eq_left hn]
  rw [e]
  unfold aAppend
  simp only [h0]
  by_cases hlt : n * 7 < (fl cMk l).length
  · rw [if_pos hlt, et]
    simp only [aAppend0, ty29, ty46, srcCells, if_neg hij, h1]
    simp [lt, cMk, kO, cellB]
    omega
  · rw [if_neg hlt]
    have hnl : l.take n = l := List.take_of_length_le (by omega)
    rw [hnl] at lt ⊢
    simp only [aAppend0, ty29, ty46, srcCells, h0, h1]
    simp [lt, cMk, kO, cellB]
    omega
end Go.Proofs.YtjoagmjijbfjkaaGreatDoor
/-
  SCENES OF ONE's OWN, WRITTEN NO MORE; and the law of scenes without marks.
-/
namespace Go.Proofs.YtjoagmjijbfjkaaGreatDoor
open Go Go.Am
set_option maxRecDepth 100000
set_option maxHeartbeats 4000000
theorem VRel.agg4Nil {κ : Nat → Option Nat} {av : Nat → Prop} {w : World} {a b c : AV} {n : Nat} {v : Value} (h : VRel κ av w (.agg [a, b, c, .nil]) v) : VRel κ av w (.agg [a, b, c, .lst n []]) v := by
  cases h with
  | agg cells vs u hl h1 h2 =>
    refine .agg _ vs u hl ?_ ?_
    · intro i x hx
      rcases i with _ | _ | _ | _ | i
      · exact h1 0 a rfl
      · exact h1 1 b rfl
      · exact h1 2 c rfl
      · exact h1 3 .nil rfl
      · simp at hx
    · intro i x hx
      rcases i with _ | _ | _ | _ | i
      · cases hx; exact h2 0 _ rfl
      · cases hx; exact h2 1 _ rfl
      · cases hx; exact h2 2 _ rfl
      · cases hx; exact VRel.nilLst (h2 3 .nil rfl)
      · simp at hx
def scNil (s : Scn) : AV := .agg [.int .i64 s.rooms, encGs s.gates, .int .i64 s.fin, .nil]
theorem Minutes_nil (s : Scn) (room : Int) : APure Tryz.prog 19 [scNil s, .int .i64 room] (.tup [encSps (mnV (wM s []) room), .int .i64 (rmE (wM s []) room)]) :=
  fun κ N w cargs hN hg hc => Minutes_ok (wM s []) room κ N w cargs hN hg (CRel.mono1 (pre := []) (post := [.int .i64 room]) hc fun hv => VRel.agg4Nil (n := 7) hv)
theorem Rooms_nil (s : Scn) : APure Tryz.prog 17 [scNil s] (encLe (rsV (wM s [])) (ckE (wM s []))) :=
  fun κ N w cargs hN hg hc => Rooms_ok (wM s []) κ N w cargs hN hg (CRel.mono1 (pre := []) (post := []) hc fun hv => VRel.agg4Nil (n := 7) hv)
theorem SameSpans_self (l : List Spn) (hl : l.length ≤ 100000) : APure Tryz.prog 33 [encSps l, encSps l] (.bool true) := by
  refine APure.vc Tryz.func33 rfl (.br 10 false .loop) rfl rfl ⟨ne_self64 _, ?_⟩
  intro g hn hlo
  replace hn : g.n = 26 := hn
  replace hlo : g.low 0 := hlo
  refine acode_while (fun k : Nat => ⟨[(0, encSps l), (1, encSps l), (5, .int .i64 k)], [], 0⟩) (fun k => k ≤ l.length) (fun k => l.length - k) 0 (Nat.zero_le _) ?_ (fun _ _ => hlo) ?_
  · exact St.le.of ⟨by kernel_rfl, rfl, by kernel_rfl, rfl, by kernel_rfl, rfl, trivial⟩ trivial
  · intro k hk
    replace hk : k ≤ l.length := hk
    by_cases hlt : k < l.length
    · refine Exists.elim (getE hlt) fun x hx => ?_
      have ek := congrArg (AV.int .i64) (succ64 (k := k) (by omega))
      have ne := neS x.1 x.2 x.1 x.2
      rw [beq_self_eq_true, beq_self_eq_true] at ne
      exact ACode.vc (.br 14 true <| .draw 8 <| .cells (cSp x) <| .cells (cSp x) <| .val 25 (.bool false) [] .nil) hn hlo (.round .cl) ⟨ltLen hlt, by kernel_rfl, mixed, by kernel_rfl, idx hx, idx hx, by kernel_rfl, Eq.trans (by kernel_rfl) ne, k + 1, hlt, mu1 hlt,
        St.le.of ⟨by kernel_rfl, rfl, by kernel_rfl, rfl, Eq.trans (by kernel_rfl) ek, rfl, trivial⟩ trivial⟩
    · exact ACode.vc (.br 14 false .nil) hn hlo (.round .cl) ⟨geLen hlt, _, .refl _, .nil, rB rfl⟩
theorem thaw_Sc {h : Nat → Option AObj} {s : Scn} {T i j : Nat} (hT : h T = some (.cells [.int .i64 s.rooms, .rsl i 0 s.gates.length 4, .int .i64 s.fin, .rsl j 0 s.marks.length 7])) (hi : h i = some (.cells (fl cGt s.gates))) (hj : h j = some (.cells (fl cMk s.marks))) :
    thaw 8 h (.vptr T 0) = some (.cptr (cSc s), [T, i, j]) := by
  have e1 : thaw 7 h (.rsl i 0 s.gates.length 4) = some (encGs s.gates, [i]) := thaw_fl (enc := cGt) (n := 4) 5 (fun _ => rfl) (fun _ => rfl) hi
  have e2 : thaw 7 h (.rsl j 0 s.marks.length 7) = some (encMs s.marks, [j]) := thaw_fl (enc := cMk) (n := 7) 5 (fun _ => rfl) (fun _ => rfl) hj
  have e3 : ∀ x : Int, thaw 7 h (.int .i64 x) = some (.int .i64 x, []) := fun x => by unfold thaw; exact if_pos rfl
  have e : thaw 8 h (.vptr T 0) = (match h T with
      | some (.cells cs) => (match mapO (thaw 7 h) cs with | some (cs', is) => some (.cptr (cs'.drop 0), T :: is) | none => none)
      | _ => none) := rfl
  rw [e, hT]
  simp only [mapO, e1, e2, e3]
  rfl
theorem thaw_sm {h : Nat → Option AObj} {v : AV} (hv : v.ok 0 = true) : thaw 8 h v = some (v, []) := by unfold thaw; exact if_pos hv
theorem ldMkId {h : Nat → Option AObj} {id k : Nat} {l : List Mk} {x : Mk} (h0 : h id = some (.cells (fl cMk l))) (hx : l[k]? = some x) : aLoad Tryz.prog h 3 (.vptr id (k * 7)) = some ⟨.int .i64 x.id, []⟩ := by
  have e : ∃ r, (fl cMk l).drop (k * 7) = .int .i64 x.id :: r := by
    have : l = l.take k ++ x :: l.drop (k + 1) := by rw [← drop_cons hx, List.take_append_drop]
    have hk : k ≤ l.length := by
      rcases Nat.lt_or_ge k l.length with q | q
      · omega
      · rw [List.getElem?_eq_none q] at hx; cases hx
    have el : (fl cMk (l.take k)).length = k * 7 := by rw [fl_len (enc := cMk) (n := 7) (fun _ => rfl), List.length_take, Nat.min_eq_left hk]
    have ef : fl cMk l = fl cMk (l.take k) ++ (cMk x ++ fl cMk (l.drop (k + 1))) := by
      conv => lhs; rw [this]
      unfold fl; simp
    rw [ef, List.drop_append, el, Nat.sub_self, List.drop_of_length_le (by omega)]
    exact ⟨_, rfl⟩
  obtain ⟨r, e⟩ := e
  simp only [aLoad, ty3, h0, e, aread]
  rfl
end Go.Proofs.YtjoagmjijbfjkaaGreatDoor

import Derived.Test.YtoeankkhjpijlaaGreatDoorTA
import Derived.Test.YtoeankkhjpijlaaGreatDoorR2
/-
  THE LAW OF NAMES.
-/
namespace Go.Proofs.YtoeankkhjpijlaaGreatDoor
open Go Go.Am
set_option maxRecDepth 100000
set_option maxHeartbeats 4000000
theorem ready_spec (s : Scn) : APure Tryz.prog 35 [encSc s] (.bool (scB s)) := by
  have gr := RGreat_spec s
  have sc := RScene_spec s
  cases h : scB s
  · rw [h] at sc
    refine (Bool.eq_false_or_eq_true (decide (((s.gates.map cGt).length : Int) > 10) || decide (((s.marks.map cMk).length : Int) > 12))).elim (fun hg => ?_) (fun hg => ?_)
    · rw [hg] at gr
      exact APure.vc Tryz.func35 rfl (.call (.bool true) .nil) rfl rfl ⟨gr, trivial, by kernel_rfl⟩
    · rw [hg] at gr
      exact APure.vc Tryz.func35 rfl (.call (.bool false) <| .call (.bool false) .nil) rfl rfl ⟨gr, sc, trivial, by kernel_rfl⟩
  · rw [h] at sc
    have hs := scB_iff.1 h
    have hg : (decide (((s.gates.map cGt).length : Int) > 10) || decide (((s.marks.map cMk).length : Int) > 12)) = false := by
      have := hs.gl; have := hs.ml
      rw [List.length_map, List.length_map, decide_eq_false (by omega), decide_eq_false (by omega)]; rfl
    rw [hg] at gr
    exact APure.vc Tryz.func35 rfl (.call (.bool false) <| .call (.bool true) .nil) rfl rfl ⟨gr, sc, trivial, by kernel_rfl⟩
theorem tmod_rm {s : Scn} (hs : ScOk s) (which : Nat) : ∃ r : Nat, r < nR s ∧ (which : Int).tmod s.rooms = (r : Int) := by
  obtain ⟨h1, h2, _⟩ := nR_eq hs
  refine ⟨which % nR s, Nat.mod_lt _ (by omega), ?_⟩
  rw [← h1]; rfl
theorem w8 {which : Nat} (h : which < 256) : some (⟨.int .i64 (IntKind.i64.wrap (which : Int)), []⟩ : Out) = some ⟨.int .i64 (which : Int), []⟩ := by rw [wrap64 (by omega) (by omega)]
theorem take_con {l : List Int} {k : Nat} {x r : Int} (h : l[k]? = some x) : (l.take (k + 1)).contains r = ((l.take k).contains r || (x == r)) := by
  rw [take_snoc h]
  rw [Bool.eq_iff_iff]
  simp only [List.contains_iff_mem, List.mem_append, List.mem_singleton, Bool.or_eq_true, beq_iff_eq]
  exact ⟨fun q => q.imp id Eq.symm, fun q => q.imp id Eq.symm⟩
def nmM (l : List Int) : Int × Int := match l with | [] => (0, 91) | [r] => (r, 0) | _ => (0, 6)
/-- What is asked behind the loop. -/
structure NmF (l W : List Int) (E RM n1 n2 : Int) : Prop where
  why : (W = [] ∧ E = 8 ∧ l.contains RM = true) ∨ ((∃ a b, W = a :: b) ∧ E = 0 ∧ l.contains RM = false)
  nm : (n1, n2) = nmM l
  len : l.length ≤ 6
noncomputable def bodyN : Code := (Tryz.f7.body).getD .skip
theorem named_end {l W : List Int} {E RM n1 n2 : Int} (h : NmF l W E RM n1 n2) {g : G} (hn : g.n = 111) (hlo0 : g.low 0) :
    ACode Tryz.prog none g (cdrop 10 bodyN) (Ret Tryz.prog Tryz.f7 (.bool true)) ⟨[(5, .bool true), (6, .int .i64 RM), (7, encR l), (9, .int .i64 n1), (10, .int .i64 n2), (11, encR W), (12, .int .i64 E), (13, .bool (l.contains RM))], [], 0⟩ := by
  obtain ⟨hwhy, hnm, _⟩ := h
  rcases hwhy with ⟨rfl, rfl, hc⟩ | ⟨⟨a, b, rfl⟩, rfl, hc⟩
  · rw [hc]
    match l, hc, hnm with
    | [], hc, _ => cases hc
    | [x], hc, hnm =>
      cases hnm
      have ex : RM = n1 := by
        have := List.contains_iff_mem.1 hc
        rwa [List.mem_singleton] at this
      have b1 : some (⟨.bool (n1 == n1), []⟩ : Out) = some ⟨.bool true, []⟩ := by rw [beq_self_eq_true]
      have b2 : some (⟨.bool (RM == n1), []⟩ : Out) = some ⟨.bool true, []⟩ := by rw [ex, beq_self_eq_true]
      exact ACode.vc (.val 97 (.bool true) [] <| .val 102 (.bool true) [] .nil) hn hlo0 .ret ⟨Eq.trans (by kernel_rfl) b1, Eq.trans (by kernel_rfl) b2, trivial, by kernel_rfl⟩
    | x :: y :: l, hc, hnm =>
      cases hnm
      exact ACode.vc .nil hn hlo0 .ret ⟨trivial, by kernel_rfl⟩
  · rw [hc]
    match l, hc, hnm with
    | [], hc, hnm =>
      cases hnm
      exact ACode.vc .nil hn hlo0 .ret ⟨trivial, by kernel_rfl⟩
    | [x], hc, hnm =>
      cases hnm
      have ex : ¬ RM = n1 := fun e => by
        subst e
        rw [List.contains_iff_mem.2 List.mem_cons_self] at hc; cases hc
      have b1 : some (⟨.bool (n1 == n1), []⟩ : Out) = some ⟨.bool true, []⟩ := by rw [beq_self_eq_true]
      have b2 : some (⟨.bool (RM == n1), []⟩ : Out) = some ⟨.bool false, []⟩ := by rw [beq_eq_false_iff_ne.2 ex]
      exact ACode.vc (.val 97 (.bool true) [] <| .val 102 (.bool false) [] .nil) hn hlo0 .ret ⟨Eq.trans (by kernel_rfl) b1, Eq.trans (by kernel_rfl) b2, trivial, by kernel_rfl⟩
    | x :: y :: l, hc, hnm =>
      cases hnm
      exact ACode.vc .nil hn hlo0 .ret ⟨trivial, by kernel_rfl⟩
theorem law_named (s : Scn) (which : Nat) (hw8 : which < 256) : APure Tryz.prog 7 [encSc s, .int .u8 (which : Int)] (.bool true) := by
  have sA := alive_spec
  have sR := ready_spec s
  cases h1 : scB s
  · rw [h1] at sR
    exact APure.vcM Tryz.func7 (.call (.bool true) <| .call (.bool false) .nil) rfl rfl ⟨sA, sR, [], by kernel_rfl⟩
  rw [h1] at sR
  have hs := scB_iff.1 h1
  obtain ⟨room, hroom, erm⟩ := tmod_rm hs which
  obtain ⟨hnr, hn1, hn6⟩ := nR_eq hs
  have hne : s.rooms ≠ 0 := by omega
  have v24 := w8 hw8
  have sO := Rooms_ok s
  have sN := Named_ok s
  have sW := Why_ok s ((which : Int).tmod s.rooms)
  have e0 : rmE s ((which : Int).tmod s.rooms) = 0 := by rw [erm]; exact rm_of hs hroom
  have eE : wyE s ((which : Int).tmod s.rooms) = (match whyP s room with | some _ => 0 | none => 8) := by
    unfold wyE; rw [if_pos e0, erm, Int.toNat_natCast]
    cases whyP s room <;> rfl
  have eV : wyV s ((which : Int).tmod s.rooms) = (whyP s room).getD [] := by
    unfold wyV; rw [if_pos e0, erm, Int.toNat_natCast]
  have eR : rsV s = roomsP s := if_pos h1
  have eC : ckE s = 0 := if_pos h1
  have eN : nmV s = nmM (roomsP s) := if_pos h1
  have his := named_is hs hroom
  have hwn : ∀ w, whyP s room = some w → w ≠ [] := fun w q => why_some hs q
  have hll := roomsP_len s
  rw [eE, eV] at sW
  rw [eR, eC] at sO
  rw [eN] at sN
  rw [← erm] at his
  have hF : NmF (roomsP s) ((whyP s room).getD []) (match whyP s room with | some _ => 0 | none => 8) ((which : Int).tmod s.rooms) (nmM (roomsP s)).1 (nmM (roomsP s)).2 := by
    refine ⟨?_, rfl, by omega⟩
    cases hw : whyP s room with
    | none => rw [hw] at his; exact .inl ⟨rfl, rfl, his⟩
    | some w =>
      rw [hw] at his
      cases w with
      | nil => exact absurd rfl (hwn _ hw)
      | cons a b => exact .inr ⟨⟨a, b, rfl⟩, rfl, his⟩
  generalize (whyP s room).getD [] = W at *
  generalize (match whyP s room with | some _ => (0 : Int) | none => 8) = E at *
  generalize (nmM (roomsP s)) = nv at *
  generalize roomsP s = l at *
  refine APure.intro Tryz.func7 rfl (by kernel_rfl) rfl fun g hn hlo0 => ?_
  replace hn : g.n = 111 := hn
  refine ACode.cut 10 (fun _ : Unit => ⟨[(5, .bool true), (6, .int .i64 ((which : Int).tmod s.rooms)), (7, encR l), (9, .int .i64 nv.1), (10, .int .i64 nv.2), (11, encR W), (12, .int .i64 E), (13, .bool (l.contains ((which : Int).tmod s.rooms)))], [], 0⟩) (fun _ => True) (.call (.bool true) <| .call (.bool true) <| .val 24 (.int .i64 (which : Int)) [] <| .nz <| .call (encLe l 0) <| .call (.tup [.int .i64 nv.1, .int .i64 nv.2]) <| .call (encLe W E) <| .loop) hn hlo0 .ret rfl ⟨sA, sR, Eq.trans (by kernel_rfl) v24, hne, sO, sN, sW, ?_⟩ fun _ _ => named_end hF hn hlo0
  intro g hn hlo
  replace hn : g.n = 111 := hn
  replace hlo : g.low 1 := hlo.mono (show 0 ≤ 1 by decide)
  refine acode_while (fun k : Nat => ⟨[(5, .bool true), (6, .int .i64 ((which : Int).tmod s.rooms)), (7, encR l), (9, .int .i64 nv.1), (10, .int .i64 nv.2), (11, encR W), (12, .int .i64 E), (13, .bool ((l.take k).contains ((which : Int).tmod s.rooms))), (46, encR l), (47, .int .i64 (l.map encI).length), (48, .int .i64 k)], [], 1⟩) (fun k => k ≤ l.length) (fun k => l.length - k) 0 (Nat.zero_le _) ?_ (fun _ _ => hlo) ?_
  · exact St.le.of ⟨by kernel_rfl, rfl, by kernel_rfl, rfl, by kernel_rfl, rfl, by kernel_rfl, rfl, by kernel_rfl, rfl, by kernel_rfl, rfl, by kernel_rfl, rfl, by kernel_rfl, rfl, by kernel_rfl, rfl, by kernel_rfl, rfl, by kernel_rfl, rfl, trivial⟩ trivial
  · intro k hk
    replace hk : k ≤ l.length := hk
    by_cases hlt : k < l.length
    · refine Exists.elim (getE hlt) fun x hx => ?_
      have ek := congrArg (AV.int .i64) (succ64 (k := k) (by omega))
      have et := take_con (r := (which : Int).tmod s.rooms) hx
      refine (Bool.eq_false_or_eq_true ((l.take k).contains ((which : Int).tmod s.rooms))).elim (fun hb => ?_) (fun hb => ?_)
      · rw [hb, Bool.true_or] at et
        have e13 : AV.bool true = .bool ((l.take (k + 1)).contains ((which : Int).tmod s.rooms)) := by rw [et]
        have e13b : AV.bool ((l.take k).contains ((which : Int).tmod s.rooms)) = .bool ((l.take (k + 1)).contains ((which : Int).tmod s.rooms)) := by rw [hb, et]
        exact ACode.vc (.br 49 true <| .cells (encI x) <| .br 53 true .nil) hn hlo (.round .cl) ⟨ltLen hlt, idx hx, hb, k + 1, hlt, mu1 hlt,
          St.le.of ⟨by kernel_rfl, rfl, by kernel_rfl, rfl, by kernel_rfl, rfl, by kernel_rfl, rfl, by kernel_rfl, rfl, by kernel_rfl, rfl, by kernel_rfl, rfl, Eq.trans (by kernel_rfl) e13, rfl, by kernel_rfl, rfl, by kernel_rfl, rfl, Eq.trans (by kernel_rfl) ek, rfl, trivial⟩ trivial⟩
      · rw [hb, Bool.false_or] at et
        have e13 : AV.bool (x == (which : Int).tmod s.rooms) = .bool ((l.take (k + 1)).contains ((which : Int).tmod s.rooms)) := by rw [et]
        exact ACode.vc (.br 49 true <| .cells (encI x) <| .br 53 false .nil) hn hlo (.round .cl) ⟨ltLen hlt, idx hx, hb, k + 1, hlt, mu1 hlt,
          St.le.of ⟨by kernel_rfl, rfl, by kernel_rfl, rfl, by kernel_rfl, rfl, by kernel_rfl, rfl, by kernel_rfl, rfl, by kernel_rfl, rfl, by kernel_rfl, rfl, Eq.trans (by kernel_rfl) e13, rfl, by kernel_rfl, rfl, by kernel_rfl, rfl, Eq.trans (by kernel_rfl) ek, rfl, trivial⟩ trivial⟩
    · have hall : l.take k = l := List.take_of_length_le (by omega)
      have e13 : AV.bool ((l.take k).contains ((which : Int).tmod s.rooms)) = .bool (l.contains ((which : Int).tmod s.rooms)) := by rw [hall]
      exact ACode.vcM (.br 49 false .nil) hn hlo (.round .cl) ⟨geLen hlt, _, .refl _, .nil, (), trivial, Wk.le (St.le.of ⟨by kernel_rfl, rfl, by kernel_rfl, rfl, by kernel_rfl, rfl, by kernel_rfl, rfl, by kernel_rfl, rfl, by kernel_rfl, rfl, by kernel_rfl, rfl, Eq.trans (by kernel_rfl) e13, rfl, trivial⟩ trivial) hlo0⟩
end Go.Proofs.YtoeankkhjpijlaaGreatDoor

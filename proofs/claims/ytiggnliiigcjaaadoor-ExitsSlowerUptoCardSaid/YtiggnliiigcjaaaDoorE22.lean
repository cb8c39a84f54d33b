import Derived.Test.YtiggnliiigcjaaaDoorE19
/-
  WHO IS LATE, AND WHERE: Safe.
-/
namespace Go.Proofs.YtiggnliiigcjaaaDoor
open Go Go.Am
set_option maxRecDepth 100000
set_option maxHeartbeats 1000000
theorem lateStair_spec (e : Bool) (b : Bdg) (ws : List Wal) (vd : Vld b ws) : APure Tryd.prog 102 [encX b ws, endV e] (.int .i64 (lateSV e b ws)) := by
  cases e
  · exact lateStair_false b ws vd
  · exact lateStair_true b ws vd
theorem late_spec (e : Bool) (b : Bdg) (ws : List Wal) (vd : Vld b ws) : APure Tryd.prog 77 [encX b ws, endV e] (encS (lateCV e b ws, lateSV e b ws)) := by
  have s1 := lateChamber_spec e b ws vd
  have s2 := lateStair_spec e b ws vd
  generalize lateCV e b ws = A at *
  generalize lateSV e b ws = B at *
  exact APure.vcM Tryd.func77 (.draw 5 <| .call (.int .i64 A) <| .call (.int .i64 B) .nil) rfl rfl ⟨by kernel_rfl, mixed, by kernel_rfl, s1, by kernel_rfl, s2, [], by unfold thaw; exact if_pos rfl⟩
def noL (p : Int × Int) : Bool := p.1 == -1 && (p.2 == -1 && true)
theorem isSafe_spec (b : Bdg) (ws : List Wal) (vd : Vld b ws) : APure Tryd.prog 54 [encX b ws] (.bool (noL (lateCV true b ws, lateSV true b ws))) := by
  have s2 := late_spec true b ws vd
  generalize lateCV true b ws = A at *
  generalize lateSV true b ws = B at *
  exact APure.vcM Tryd.func54 (.call (.tup [endV false, endV true]) <| .draw 4 <| .call (encS (A, B)) <| .val 13 (.bool (noL (A, B))) [] .nil) rfl rfl ⟨endsV_spec, by kernel_rfl, mixed, by kernel_rfl, s2, by kernel_rfl, by kernel_rfl, [], by unfold thaw; exact if_pos rfl⟩
end Go.Proofs.YtiggnliiigcjaaaDoor
/-
  WHO IS LATE, AND WHERE: Safe.
-/
namespace Go.Proofs.YtiggnliiigcjaaaDoor
open Go Go.Am
set_option maxRecDepth 100000
set_option maxHeartbeats 1000000
def lateV (e : Bool) (b : Bdg) (ws : List Wal) : Int × Int := (lateCV e b ws, lateSV e b ws)
def safeV (b : Bdg) (ws : List Wal) : Int × Int × Int := if noL (lateV true b ws) then (2, -1, -1) else if noL (lateV false b ws) then (1, lateV true b ws) else (0, lateV true b ws)
def encV (v : Int × Int × Int) : AV := .tup [.int .u8 v.1, encS v.2]
theorem safe_spec (b : Bdg) (ws : List Wal) (vd : Vld b ws) : APure Tryd.prog 50 [encX b ws] (encV (safeV b ws)) := by
  have s0 := isSafe_spec b ws vd
  have s1 : APure Tryd.prog _ _ (encS (lateV false b ws)) := late_spec false b ws vd
  have s2 : APure Tryd.prog _ _ (encS (lateV true b ws)) := late_spec true b ws vd
  change APure Tryd.prog _ _ (.bool (noL (lateV true b ws))) at s0
  unfold safeV
  generalize lateV false b ws = p at *
  generalize lateV true b ws = q at *
  cases h0 : noL q
  · rw [h0] at s0
    cases h1 : noL p
    · have hv : (!noL (p.1, p.2)) = true := by rw [show (p.1, p.2) = p from rfl, h1]; rfl
      exact APure.vcM Tryd.func50 (.call (.bool false) <| .call (.tup [endV false, endV true]) <| .draw 4 <| .call (encS p) <| .val 17 (.bool (!noL (p.1, p.2))) [] <| .br 17 true <| .call (encS q) .nil) rfl rfl ⟨s0, endsV_spec, by kernel_rfl, mixed, by kernel_rfl, s1, by kernel_rfl, by kernel_rfl, hv, s2, [], by unfold thaw; exact if_pos rfl⟩
    · have hv : (!noL (p.1, p.2)) = false := by rw [show (p.1, p.2) = p from rfl, h1]; rfl
      exact APure.vcM Tryd.func50 (.call (.bool false) <| .call (.tup [endV false, endV true]) <| .draw 4 <| .call (encS p) <| .val 17 (.bool (!noL (p.1, p.2))) [] <| .br 17 false <| .call (encS q) .nil) rfl rfl ⟨s0, endsV_spec, by kernel_rfl, mixed, by kernel_rfl, s1, by kernel_rfl, by kernel_rfl, hv, s2, [], by unfold thaw; exact if_pos rfl⟩
  · rw [h0] at s0
    exact APure.vcM Tryd.func50 (.call (.bool true) <| .draw 2 .nil) rfl rfl ⟨s0, by kernel_rfl, mixed, by kernel_rfl, by kernel_rfl, [], by unfold thaw; exact if_pos rfl⟩
theorem Safe_ok (b : Bdg) (w : List Wal) (h1 : bdgB b = true) (h2 : walsB b w = true) : APure Tryd.prog 16 [encB b, encW w] (.tup [.int .u8 (safeV b w).1, .int .i64 (safeV b w).2.1, .int .i64 (safeV b w).2.2, .int .i64 0]) := by
  have vd := vld_of h1 h2
  have sC := Check_spec b w
  have hc : checkV b w = 0 := by unfold checkV; rw [if_pos h1, if_pos h2]
  rw [hc] at sC
  have sO := safe_spec b w vd
  generalize safeV b w = v at *
  exact APure.vcM Tryd.func16 (.call (.int .i64 0) <| .call (encX b w) <| .call (encV v) <| .draw 7 .nil) rfl rfl ⟨sC, begin_spec b w, sO, by kernel_rfl, mixed, by kernel_rfl, by kernel_rfl, [], by unfold thaw; exact if_pos rfl⟩
end Go.Proofs.YtiggnliiigcjaaaDoor
/-
  THE FIRST CHAMBER IN WHICH PEOPLE ARE LATE: what it is.
-/
namespace Go.Proofs.YtiggnliiigcjaaaDoor
open Go Go.Am
def LateC (e : Bool) (b : Bdg) (ws : List Wal) (v : Int) : Prop :=
  (v = -1 ∧ ∀ w ∈ ws, isLateC e b w = false) ∨ (∃ w ∈ ws, isLateC e b w = true ∧ v = w.ch ∧ ∀ w' ∈ ws, isLateC e b w' = true → w.ch ≤ w'.ch)
theorem lateC_step {e : Bool} {b : Bdg} {ws : List Wal} {v : Int} (w : Wal) (hp : ∀ x ∈ ws, 0 ≤ x.ch) (h : LateC e b ws v) : LateC e b (ws ++ [w]) (lateStep e b v w) := by
  unfold lateStep
  cases hl : isLateC e b w
  · rw [Bool.false_and, if_neg Bool.false_ne_true]
    rcases h with ⟨h1, h2⟩ | ⟨u, hu, h1, h2, h3⟩
    · exact .inl ⟨h1, fun x hx => by
        rcases List.mem_append.1 hx with hx | hx
        · exact h2 x hx
        · rw [List.mem_singleton.1 hx]; exact hl⟩
    · exact .inr ⟨u, List.mem_append_left _ hu, h1, h2, fun x hx hx2 => by
        rcases List.mem_append.1 hx with hx | hx
        · exact h3 x hx hx2
        · rw [List.mem_singleton.1 hx, hl] at hx2; cases hx2⟩
  · rw [Bool.true_and]
    rcases h with ⟨h1, h2⟩ | ⟨u, hu, h1, h2, h3⟩
    · rw [h1, if_pos (by rfl)]
      exact .inr ⟨w, by simp, hl, rfl, fun x hx hx2 => by
        rcases List.mem_append.1 hx with hx | hx
        · rw [h2 x hx] at hx2; cases hx2
        · rw [List.mem_singleton.1 hx]; exact Int.le_refl _⟩
    · have h0 := hp u hu
      have hv : (v == -1) = false := by rw [h2]; exact beq_eq_false_iff_ne.2 (by omega)
      rw [hv, Bool.false_or, h2]
      by_cases hc : w.ch < u.ch
      · rw [decide_eq_true hc, if_pos rfl]
        exact .inr ⟨w, by simp, hl, rfl, fun x hx hx2 => by
          rcases List.mem_append.1 hx with hx | hx
          · have := h3 x hx hx2; omega
          · rw [List.mem_singleton.1 hx]; exact Int.le_refl _⟩
      · rw [decide_eq_false hc, if_neg Bool.false_ne_true]
        exact .inr ⟨u, List.mem_append_left _ hu, h1, rfl, fun x hx hx2 => by
          rcases List.mem_append.1 hx with hx | hx
          · exact h3 x hx hx2
          · rw [List.mem_singleton.1 hx]; omega⟩
theorem lateC_take (e : Bool) (b : Bdg) (ws : List Wal) (hp : ∀ x ∈ ws, 0 ≤ x.ch) (n : Nat) : LateC e b (ws.take n) ((ws.take n).foldl (lateStep e b) (-1)) := by
  induction n with
  | zero => exact .inl ⟨rfl, fun x hx => by cases hx⟩
  | succ n ih =>
    cases hw : ws[n]? with
    | none => rw [List.take_add_one, hw]; simpa using ih
    | some w =>
      rw [List.take_add_one, hw]
      have := lateC_step w (fun x hx => hp x (List.mem_of_mem_take hx)) ih
      simpa [List.foldl_append] using this
theorem lateCV_is (e : Bool) (b : Bdg) (ws : List Wal) (hp : ∀ x ∈ ws, 0 ≤ x.ch) : LateC e b ws (lateCV e b ws) := by
  have h := lateC_take e b ws hp ws.length
  rw [List.take_length] at h
  exact h
/-- Which stair: it is none, and nobody is late; or somebody is, and nobody before it. -/
theorem lateSV_is (e : Bool) (b : Bdg) (ws : List Wal) : (lateSV e b ws = -1 ∧ ∀ j, j < b.ss.length → lateAt e b ws j = false) ∨ (∃ n : Nat, n < b.ss.length ∧ lateSV e b ws = n ∧ lateAt e b ws n = true ∧ ∀ j, j < n → lateAt e b ws j = false) := by
  by_cases h : ∃ n, n < b.ss.length ∧ lateAt e b ws n = true
  · obtain ⟨n, hn⟩ := h
    induction n using Nat.strongRecOn with
    | _ n ih =>
      by_cases h2 : ∃ m, m < n ∧ lateAt e b ws m = true
      · obtain ⟨m, hm, hl⟩ := h2
        exact ih m hm ⟨Nat.lt_trans hm hn.1, hl⟩
      · have h3 : ∀ j, j < n → lateAt e b ws j = false := fun j hj => by
          cases h4 : lateAt e b ws j
          · rfl
          · exact absurd ⟨j, hj, h4⟩ h2
        exact .inr ⟨n, hn.1, lateSV_some hn.1 h3 hn.2, hn.2, h3⟩
  · have h3 : ∀ j, j < b.ss.length → lateAt e b ws j = false := fun j hj => by
      cases h4 : lateAt e b ws j
      · rfl
      · exact absurd ⟨j, hj, h4⟩ h
    exact .inl ⟨lateSV_none h3, h3⟩
end Go.Proofs.YtiggnliiigcjaaaDoor

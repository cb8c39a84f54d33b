import Derived.Test.YticiopkiikcokaaT31
import Derived.Test.YticiopkiikcokaaT23
namespace Go.Proofs.Yticiopkiikcokaa
open Go Go.Am
def lastM (l : List Pt) : Int := match l[l.length - 1]? with
  | some p => p.m
  | none => 0
theorem lastM_some {l : List Pt} {p : Pt} (h : l[l.length - 1]? = some p) : lastM l = p.m := by unfold lastM; rw [h]
theorem lastM_spec {l : List Pt} (hc : curveB l = true) : APure Try.prog 46 [.lst 2 (l.map encPt)] (.int .i64 (lastM l)) := by
  obtain ⟨hlen, _⟩ := curveB_out hc
  obtain ⟨p, hp⟩ := getE (show l.length - 1 < l.length by omega)
  rw [lastM_some hp]
  exact lastMinute_spec l p hp (by omega) (by omega)
def cap60 (n : Int) : Int := if n < 60 then n else 60
def runB (r : Rn) : Bool := within r.id 0 9999 && (curveB r.curve && (spanB r.gLo r.gHi (-20) 20 && (cpsB r.cps && (within r.rows.length 1 (cap60 (lastM r.curve)) && rowsB r.rows r.cps.length))))
theorem cps_len {l : List Cp} (h : cpsB l = true) : 1 ≤ l.length ∧ l.length ≤ 8 := by
  simp only [cpsB, Bool.and_eq_true] at h
  have := within_iff.1 h.1; omega
theorem cap60_le (n : Int) : cap60 n ≤ 60 := by unfold cap60; split <;> omega
set_option maxHeartbeats 8000000 in
set_option maxRecDepth 100000 in
theorem isRun_spec (r : Rn) : APure Try.prog 50 [encRn r] (.bool (runB r)) := by
  have s1 := within_spec r.id 0 9999
  have s2 := isCurve_spec r.curve
  have s3 := isSpan_spec r.gLo r.gHi (-20) 20
  have s4 := areCouples_spec r.cps
  have s6 : APure Try.prog 45 [.int .i64 ((r.rows.map encRw).length : Int), .int .i64 1, .int .i64 (cap60 (lastM r.curve))] (.bool (within r.rows.length 1 (cap60 (lastM r.curve)))) := by
    rw [List.length_map]; exact within_spec _ _ _
  have s7 : r.rows.length ≤ 1000 → r.cps.length ≤ 1000 → APure Try.prog 72 [.lst 2 (r.rows.map encRw), .int .i64 ((r.cps.map encCp).length : Int)] (.bool (rowsB r.rows r.cps.length)) := fun h1 h2 => by
    rw [List.length_map]; exact areRows_spec _ _ h1 (by omega)
  refine APure.vc Try.func50 rfl (.draw 34 <| .call (.bool (within r.id 0 9999)) <| .both 6 (.call (.bool (curveB r.curve)) <| .both 11 (.call (.bool (spanB r.gLo r.gHi (-20) 20)) <| .both 16 (.call (.bool (cpsB r.cps)) <|
      .both 21 (.call (.int .i64 (lastM r.curve)) <| .call (.bool (within r.rows.length 1 (cap60 (lastM r.curve)))) <| .both 31 (.call (.bool (rowsB r.rows r.cps.length)) .nil) .nil) .nil) .nil) .nil) .nil) rfl rfl
    ⟨by kernel_rfl, mixed, by kernel_rfl, s1, fun h1 => ⟨s2, fun h2 => ⟨s3, fun h3 => ⟨s4, fun h4 => ⟨lastM_spec h2, s6, fun h5 => ⟨by kernel_rfl, s7 ?_ ?_, rB ?_⟩, fun h5 => ⟨by kernel_rfl, rB ?_⟩⟩, fun h4 => ⟨by kernel_rfl, rB ?_⟩⟩, fun h3 => ⟨by kernel_rfl, rB ?_⟩⟩, fun h2 => ⟨by kernel_rfl, rB ?_⟩⟩, fun h1 => ⟨by kernel_rfl, rB ?_⟩⟩
  · have := within_iff.1 h5; have := cap60_le (lastM r.curve); omega
  · have := cps_len h4; omega
  · simp [runB, h1, h2, h3, h4, h5]
  · simp [runB, h1, h2, h3, h4, h5]
  · simp [runB, h1, h2, h3, h4]
  · simp [runB, h1, h2, h3]
  · simp [runB, h1, h2]
  · simp [runB, h1]
end Go.Proofs.Yticiopkiikcokaa

import Derived.Test.YticiopkiikcokaaT25
import Derived.Test.YticiopkiikcokaaT32
namespace Go.Proofs.Yticiopkiikcokaa
open Go Go.Am
set_option maxHeartbeats 16000000 in
set_option maxRecDepth 100000 in
theorem Degree_spec {l : List Pt} (hc : curveB l = true) {p : Pt} (hp : l[l.length - 1]? = some p) {m : Int} (h0 : 0 ≤ m) (h1 : m ≤ p.m) : APure Try.prog 49 [.lst 2 (l.map encPt), .int .i64 m] (.int .i64 (deg l m)) := by
  obtain ⟨hlen, ⟨p0, hp0, hp0m⟩, hpt, hst⟩ := curveB_out hc
  have hpr := hpt _ _ hp
  refine APure.vc Try.func49 rfl .loop rfl rfl ?_
  intro g hn hl
  replace hn : g.n = 53 := hn
  replace hl : g.low 0 := hl
  refine acode_while (fun k : Nat => ⟨[(0, .lst 2 (l.map encPt)), (1, .int .i64 m), (5, .int .i64 ((k + 1 : Nat) : Int))], [], 0⟩) (fun k => k + 1 ≤ l.length ∧ ∀ a, l[k]? = some a → a.m ≤ m) (fun k => l.length - k) 0 ⟨by omega, fun a ha => by rw [hp0] at ha; cases ha; omega⟩ ?_ (fun _ _ => hl) ?_
  · exact St.le.of ⟨rfl, rfl, rfl, rfl, rfl, rfl, trivial⟩ trivial
  · rintro k ⟨hk1, hk2⟩
    refine Exists.elim (getE (show k < l.length by omega)) fun a ha => ?_
    have ham := hk2 a ha
    by_cases hlt : k + 1 < l.length
    · refine Exists.elim (getE hlt) fun b hb => ?_
      have hs := hst _ _ _ ha hb
      have hw := wrapDeg (hpt _ _ ha) (hpt _ _ hb) hs (m := m) ham (by omega)
      refine ACode.vc (.br 11 true <| .draw 12 <| .cells (encPt a) <| .cells (encPt b) <| .both 26 (.draw 18 <| .nz .nil) .nil) hn hl (.round .cl)
        ⟨ltLen hlt, by kernel_rfl, mixed, by kernel_rfl, idxW (pred64 (by omega)) ha, idx hb, by kernel_rfl, fun h => ⟨by kernel_rfl, mixed, by kernel_rfl, (?_ : IntKind.i64.wrap (b.m - a.m) ≠ 0), by kernel_rfl, _, .refl _, .nil, rI ?_⟩,
          fun h => ⟨k + 1, ⟨hlt, ?_⟩, mu1 (by omega), St.le.of ⟨rfl, rfl, rfl, rfl, congrArg _ (succ64 (by omega)), rfl, trivial⟩ trivial⟩⟩
      · rw [hw.1]; omega
      · have hmb := of_decide_eq_true h
        rw [deg_where hc h0 ha hb ham (fun _ => hmb)]
        exact hw.2
      · have hmb := of_decide_eq_false h
        intro a' ha'
        rw [hb] at ha'
        cases ha'
        omega
    · have hk : k = l.length - 1 := by omega
      have hap : a = p := by rw [hk, hp] at ha; exact (Option.some.inj ha).symm
      have hpi : IntKind.i64.wrap (((l.map encPt).length : Int) - 1) = ((l.length - 1 : Nat) : Int) := by
        rw [List.length_map, wrap64 (by omega) (by omega)]; omega
      have he : m = p.m := by rw [hap] at ham; omega
      refine ACode.vc (.br 11 false .nil) hn hl (.round .cl) ⟨geLen hlt, _, .refl _, .cells (encPt p) .nil, idxW hpi hp, rI ?_⟩
      rw [he, deg_at hc hp]
def atV (l : List Pt) (m : Int) : AV :=
  if curveB l = true then (if within m 0 (lastM l) = true then .tup [.int .i64 (deg l m), .int .i64 0] else .tup [.int .i64 0, .int .i64 2]) else .tup [.int .i64 0, .int .i64 10]
theorem At_spec (l : List Pt) (m : Int) : APure Try.prog 16 [.lst 2 (l.map encPt), .int .i64 m] (atV l m) := by
  unfold atV
  split
  · rename_i hc
    obtain ⟨hlen, _⟩ := curveB_out hc
    obtain ⟨p, hp⟩ := getE (show l.length - 1 < l.length by omega)
    rw [lastM_some hp]
    split
    · rename_i hw; have := within_iff.1 hw; exact at_ok hc hp this.1 this.2
    · rename_i hw; exact at_arg hc hp (by simpa using hw)
  · rename_i hc; exact at_curve (by simpa using hc) m
set_option maxHeartbeats 16000000 in
set_option maxRecDepth 100000 in
theorem rAt_spec (l : List Pt) (m : Int) : APure Try.prog 17 [.lst 2 (l.map encPt), .int .i64 m] (atV l m) := by
  have s1 := rCurve_spec l
  unfold atV
  split
  · rename_i hc
    rw [hc] at s1
    obtain ⟨hlen, _⟩ := curveB_out hc
    obtain ⟨p, hp⟩ := getE (show l.length - 1 < l.length by omega)
    have hpi : IntKind.i64.wrap (((l.map encPt).length : Int) - 1) = ((l.length - 1 : Nat) : Int) := by
      rw [List.length_map, wrap64 (by omega) (by omega)]; omega
    have s2 := rwithin_spec m 0 p.m
    rw [lastM_some hp]
    split
    · rename_i hw
      rw [hw] at s2
      have := within_iff.1 hw
      exact APure.vc Try.func17 rfl (.call (.bool true) <| .cells (encPt p) <| .call (.bool true) <| .call (.int .i64 (deg l m)) .nil) rfl rfl ⟨s1, idxW hpi hp, s2, Degree_spec hc hp this.1 this.2, trivial, rfl⟩
    · rename_i hw
      have hw' : within m 0 p.m = false := by simpa using hw
      rw [hw'] at s2
      exact APure.vc Try.func17 rfl (.call (.bool true) <| .cells (encPt p) <| .call (.bool false) .nil) rfl rfl ⟨s1, idxW hpi hp, s2, trivial, rfl⟩
  · rename_i hc
    have hc' : curveB l = false := by simpa using hc
    rw [hc'] at s1
    exact APure.vc Try.func17 rfl (.call (.bool false) .nil) rfl rfl ⟨s1, trivial, rfl⟩
end Go.Proofs.Yticiopkiikcokaa

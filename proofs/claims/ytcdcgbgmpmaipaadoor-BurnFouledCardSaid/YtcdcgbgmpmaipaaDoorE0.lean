import Derived.Test.YtcdcgbgmpmaipaaDoorBp2
namespace Go.Proofs.YtcdcgbgmpmaipaaDoor
open Go Go.Am
theorem thaw_r {h : Nat → Option AObj} {id : Nat} {r : List Int} (h0 : h id = some (.cells (fl encI r))) : thaw 8 h (.rsl id 0 r.length 1) = some (encR r, [id]) :=
  thaw_fl (n := 1) (d := 6) (fun _ => rfl) (fun _ => rfl) h0
theorem thaw_k {h : Nat → Option AObj} {a : AV} (ha : a.ok 0 = true) : thaw 8 h a = some (a, []) := by unfold thaw; rw [if_pos ha]
theorem thaw3 {h : Nat → Option AObj} {id : Nat} {r : List Int} {a c : AV} (ha : a.ok 0 = true) (hc : c.ok 0 = true) (h0 : h id = some (.cells (fl encI r))) : thawL h [a, .rsl id 0 r.length 1, c] = some ([a, encR r, c], [id]) := by
  have e : thawL h [a, .rsl id 0 r.length 1, c] = mapO (thaw 8 h) [a, .rsl id 0 r.length 1, c] := rfl
  rw [e]
  simp only [mapO, thaw_k ha, thaw_k hc, thaw_r h0, List.append_nil, List.nil_append]
theorem thaw4 {h : Nat → Option AObj} {id : Nat} {r : List Int} {a c d : AV} (ha : a.ok 0 = true) (hc : c.ok 0 = true) (hd : d.ok 0 = true) (h0 : h id = some (.cells (fl encI r))) : thawL h [a, .rsl id 0 r.length 1, c, d] = some ([a, encR r, c, d], [id]) := by
  have e : thawL h [a, .rsl id 0 r.length 1, c, d] = mapO (thaw 8 h) [a, .rsl id 0 r.length 1, c, d] := rfl
  rw [e]
  simp only [mapO, thaw_k ha, thaw_k hc, thaw_k hd, thaw_r h0, List.append_nil, List.nil_append]
theorem thaw2 {h : Nat → Option AObj} {id : Nat} {r : List Int} {c : AV} (hc : c.ok 0 = true) (h0 : h id = some (.cells (fl encI r))) : thawL h [.rsl id 0 r.length 1, c] = some ([encR r, c], [id]) := by
  have e : thawL h [.rsl id 0 r.length 1, c] = mapO (thaw 8 h) [.rsl id 0 r.length 1, c] := rfl
  rw [e]
  simp only [mapO, thaw_k hc, thaw_r h0, List.append_nil]
theorem eqS (a b : Int) : ((aeqT Tryd.prog 6 23 (.agg [.int .i64 a, .int .i64 b]) (.agg [.int .i64 a, .int .i64 b])).map AV.bool).map (fun v => (⟨v, []⟩ : Out)) = some ⟨.bool true, []⟩ := by
  rw [eqSpan]; simp
theorem thawR2 {h : Nat → Option AObj} {id : Nat} {r : List Int} {a : AV} (ha : a.ok 0 = true) (h0 : h id = some (.cells (fl encI r))) : thawL h [a, .rsl id 0 r.length 1] = some ([a, encR r], [id]) := by
  have e : thawL h [a, .rsl id 0 r.length 1] = mapO (thaw 8 h) [a, .rsl id 0 r.length 1] := rfl
  rw [e]
  simp only [mapO, thaw_k ha, thaw_r h0, List.nil_append, List.append_nil]
end Go.Proofs.YtcdcgbgmpmaipaaDoor

/-
  LISTS AS SETS; THE NEXT LETTER; LETTERS APPENDED.
-/
import Derived.Test.YtmdhgkfjlphliaaGreatD1
import Derived.Test.YtmdhgkfjlphliaaGreatG2
import Derived.Test.YtmdhgkfjlphliaaGreatXA
namespace Go.Proofs.YtmdhgkfjlphliaaGreat
open Go Go.Am
set_option maxRecDepth 100000
set_option maxHeartbeats 4000000
theorem thaw_tupO {h : Nat → Option AObj} {i : Nat} {l : List Int} {b : Bool} (h0 : h i = some (.map (entsO l))) : thaw 8 h (.tup [.mref i, .bool b]) = some (.tup [.imap (entsO l), .bool b], [i]) := by
  have e0 : (AV.tup [.mref i, .bool b]).ok 0 = false := by simp [AV.ok, okL]
  have e : thaw 8 h (.tup [.mref i, .bool b]) = (if (AV.tup [.mref i, .bool b]).ok 0 = true then some (.tup [.mref i, .bool b], []) else (mapO (thaw 7 h) [.mref i, .bool b]).map fun p => (.tup p.1, p.2)) := rfl
  have e1 : thaw 7 h (.bool b) = some (.bool b, []) := by unfold thaw; exact if_pos rfl
  have e2 : thaw 7 h (.mref i) = (match h i with
      | some (.map es) => (match mapOE (thaw 6 h) es with | some (es', is) => some (.imap es', i :: is) | none => none)
      | _ => none) := rfl
  have e3 : thaw 7 h (.mref i) = some (.imap (entsO l), [i]) := by rw [e2, h0]; simp only []; rw [mapOE_O 5]
  rw [e, e0]
  simp only [mapO, e1, e3]
  rfl
theorem set_spec (l : List Int) (hs : l.Pairwise (· < ·)) (hl : l.length ≤ 1000) : APure Tryz.prog 14 [encR l] (.tup [.imap (entsO l), .bool true]) := by
  refine APure.vcM Tryz.func14 .loop rfl rfl ?_
  intro g hn hlo
  replace hn : g.n = 30 := hn
  replace hlo : g.low 0 := hlo
  refine acode_whileW (fun k : Nat => ⟨[(0, encR l), (4, .mref 0), (8, encR l), (9, .int .i64 (l.map encI).length), (10, .int .i64 k)], [(0, .map (entsO (l.take k)))], 1⟩) (fun k => k ≤ l.length) (fun k => l.length - k) 0 (Nat.zero_le _) ?_ ?_
  · exact Wk.le (St.le.of ⟨by kernel_rfl, rfl, by kernel_rfl, rfl, by kernel_rfl, rfl, by kernel_rfl, rfl, by kernel_rfl, rfl, trivial⟩ ⟨by kernel_rfl, (by decide : (0 : Nat) < 1), rfl, trivial⟩) (hlo.mono (Nat.zero_le _))
  · intro k hk
    replace hk : k ≤ l.length := hk
    by_cases hlt : k < l.length
    · refine Exists.elim (getE hlt) fun x hx => ?_
      have ek := congrArg (AV.int .i64) (succ64 (k := k) (by omega))
      have hnd : l.Nodup := hs.imp (fun h => by omega)
      have hnew := (nodup_at hnd hx).1
      have et : l.take (k + 1) = l.take k ++ [x] := by rw [List.take_add_one, hx]; rfl
      have up := updO (h := hget [(0, .map (entsO (l.take k)))]) (i := 0) (l := l.take k) (x := x) rfl hnew
      rw [← et] at up
      cases k with
      | zero =>
        exact ACode.vcM (.br 11 true <| .cells (encI x) <| .br 17 false <| .val 0 .undef [(0, some (.map (entsO (l.take 1))))] .nil) hn hlo (.roundW .cl) ⟨ltLen hlt, idx hx, rfl, Eq.trans (by kernel_rfl) up, 1, hlt, mu1 hlt, Wk.le (St.le.of ⟨by kernel_rfl, rfl, by kernel_rfl, rfl, by kernel_rfl, rfl, by kernel_rfl, rfl, Eq.trans (by kernel_rfl) ek, rfl, trivial⟩ ⟨by kernel_rfl, (by decide : (0 : Nat) < 1), okE_entsO _ _, trivial⟩) (hlo.mono (show 0 ≤ 1 by decide))⟩
      | succ j =>
        refine Exists.elim (getE (show j < l.length by omega)) fun y hy => ?_
        have ej : IntKind.i64.wrap (((j + 1 : Nat) : Int) - 1) = (j : Int) := pred64 (by omega)
        have dg : decide (((j + 1 : Nat) : Int) > 0) = true := decide_eq_true (by omega)
        have hlt2 : y < x := by
          obtain ⟨h1, e1⟩ := List.getElem?_eq_some_iff.1 hx
          obtain ⟨h2, e2⟩ := List.getElem?_eq_some_iff.1 hy
          have := List.pairwise_iff_getElem.1 hs j (j + 1) h2 h1 (by omega)
          rw [e1, e2] at this; exact this
        have d25 : decide (x ≤ y) = false := decide_eq_false (by omega)
        exact ACode.vcM (.br 11 true <| .cells (encI x) <| .br 17 true <| .cells (encI y) <| .br 25 false <| .val 0 .undef [(0, some (.map (entsO (l.take (j + 1 + 1)))))] .nil) hn hlo (.roundW .cl) ⟨ltLen hlt, idx hx, dg, idxW ej hy, d25, Eq.trans (by kernel_rfl) up, j + 2, hlt, mu1 hlt, Wk.le (St.le.of ⟨by kernel_rfl, rfl, by kernel_rfl, rfl, by kernel_rfl, rfl, by kernel_rfl, rfl, Eq.trans (by kernel_rfl) ek, rfl, trivial⟩ ⟨by kernel_rfl, (by decide : (0 : Nat) < 1), okE_entsO _ _, trivial⟩) (hlo.mono (show 0 ≤ 1 by decide))⟩
    · have hk' : k = l.length := by omega
      have et : l.take k = l := by rw [hk', List.take_length]
      have ht : thaw 8 (hget [(0, .map (entsO (l.take k)))]) (.tup [.mref 0, .bool true]) = some (.tup [.imap (entsO l), .bool true], [0]) := by rw [thaw_tupO (l := l.take k) rfl, et]
      exact ACode.vcM (.br 11 false .nil) hn hlo (.roundW .cl) ⟨geLen hlt, _, .refl _, .nil, [0], Eq.trans (by kernel_rfl) ht⟩
theorem next_spec (l : List Ltr) (hl : l.length ≤ 1000) (hid : ∀ x ∈ l, 0 ≤ x.id ∧ x.id ≤ 9999) : APure Tryz.prog 15 [encLs l] (.tup [.int .i64 (nextV l), .bool (nextB l)]) := by
  have hlen : ((l.map cLt).length : Int) = l.length := by rw [List.length_map]
  by_cases h0 : l.length = 0
  · have e : l = [] := List.eq_nil_of_length_eq_zero h0
    subst e
    exact APure.vcM Tryz.func15 (.br 6 true .nil) rfl rfl ⟨rfl, [], by kernel_rfl⟩
  · have d6 : (((l.map cLt).length : Int) == 0) = false := by rw [hlen]; exact beq_eq_false_iff_ne.2 (by omega)
    refine Exists.elim (getE (show l.length - 1 < l.length by omega)) fun x hx => ?_
    have hg : l.getLast? = some x := by rw [List.getLast?_eq_getElem?]; exact hx
    have e1 : nextV l = x.id + 1 := by unfold nextV; rw [hg]
    have e2 : nextB l = (decide (x.id < 9999) && decide (l.length < 20)) := by unfold nextB; rw [hg]
    have hxi := hid x (List.mem_of_getElem? hx)
    have ej : IntKind.i64.wrap (((l.map cLt).length : Int) - 1) = ((l.length - 1 : Nat) : Int) := by rw [hlen, wrap64 (by omega) (by omega)]; omega
    have v14 : some (⟨.int .i64 (IntKind.i64.wrap (x.id + 1)), []⟩ : Out) = some ⟨.int .i64 (nextV l), []⟩ := by rw [e1, wrap64 (by omega) (by omega)]
    have d26 : decide (((l.map cLt).length : Int) < 20) = decide (l.length < 20) := decide_eq_decide.2 (by omega)
    cases d22 : decide (x.id < 9999)
    · have ev : thaw 8 (hget []) (.tup [.int .i64 (nextV l), .bool false]) = some (.tup [.int .i64 (nextV l), .bool (nextB l)], []) := by rw [e2, d22]; unfold thaw; exact if_pos rfl
      generalize nextV l = N at *
      exact APure.vcM Tryz.func15 (.br 6 false <| .draw 22 <| .cells (cLt x) <| .val 14 (.int .i64 N) [] <| .cells (cLt x) <| .br 23 false .nil) rfl rfl ⟨d6, by kernel_rfl, mixed, by kernel_rfl, idxW ej hx, Eq.trans (by kernel_rfl) v14, idxW ej hx, d22, by kernel_rfl, [], Eq.trans (by kernel_rfl) ev⟩
    · have ev : thaw 8 (hget []) (.tup [.int .i64 (nextV l), .bool (decide (((l.map cLt).length : Int) < 20))]) = some (.tup [.int .i64 (nextV l), .bool (nextB l)], []) := by rw [e2, d22, d26]; unfold thaw; exact if_pos rfl
      generalize nextV l = N at *
      exact APure.vcM Tryz.func15 (.br 6 false <| .draw 22 <| .cells (cLt x) <| .val 14 (.int .i64 N) [] <| .cells (cLt x) <| .br 23 true .nil) rfl rfl ⟨d6, by kernel_rfl, mixed, by kernel_rfl, idxW ej hx, Eq.trans (by kernel_rfl) v14, idxW ej hx, d22, by kernel_rfl, [], Eq.trans (by kernel_rfl) ev⟩
/-! ### letters of one's own -/
def lL (l : List Ltr) : List AV := fl cLt l
theorem lL_ok (n : Nat) (l : List Ltr) : okL n (lL l) = true := fl_ok (enc := cLt) (fun _ => rfl) l
theorem lL_len (l : List Ltr) : (lL l).length = l.length * 4 := fl_len (enc := cLt) (n := 4) (fun _ => rfl) l
theorem srcL (h : Nat → Option AObj) (l : List Ltr) : srcCells h 4 (.lst 4 (l.map cLt)) = some (fl cLt l, l.length) := by
  have h1 : (l.map cLt).all (fun y => y.length == 4) = true := by simp [cLt]
  simp only [srcCells]
  rw [if_pos ⟨trivial, h1⟩, fl_flatten, List.length_map]
theorem appL0 {h : Nat → Option AObj} {i nid : Nat} {l : List Ltr} (h0 : h i = some (.cells [])) (hn : l.length ≤ 1000) :
    aAppend Tryz.prog h nid 23 23 (.rsl i 0 0 4) (encLs l) = some ⟨.rsl nid 0 l.length 4, [(i, none), (nid, some (.cells (lL l)))]⟩ := by
  unfold aAppend encLs lL
  simp only [h0]
  rw [if_neg (by decide)]
  simp only [aAppend0, ty23, ty42, srcL, h0]
  rw [if_pos ⟨by decide, by decide, rfl⟩]
  rw [if_pos ⟨trivial, rfl, fl_cellB (fun _ => rfl) _, by omega⟩, Nat.zero_add, List.nil_append]
theorem appL1 {h : Nat → Option AObj} {i j nid : Nat} {l : List Ltr} {x : Ltr} (h0 : h i = some (.cells (lL l))) (h1 : h j = some (.cells (cLt x))) (hn : l.length ≤ 1000) :
    aAppend Tryz.prog h nid 23 23 (.rsl i 0 l.length 4) (.rsl j 0 1 4) = some ⟨.rsl nid 0 (l.length + 1) 4, [(i, none), (nid, some (.cells (lL (l ++ [x]))))]⟩ := by
  have e : lL (l ++ [x]) = lL l ++ cLt x := by simp [lL, fl]
  have ec : (cLt x).all cellB = true := rfl
  have et : ((cLt x).drop 0).take (1 * 4) = cLt x := rfl
  have e4 : (cLt x).length = 4 := rfl
  rw [app_exact h0 (by rw [lL_len]; omega)]
  simp only [aAppend0, ty23, ty42, srcCells, h0, h1]
  simp only [et, e4, lL_len, e]
  simp
  exact ⟨fun y hy => List.all_eq_true.1 ec y hy, by omega⟩
theorem thawL_letters {h : Nat → Option AObj} {i n : Nat} {r : List Rcd} {l : List Ltr} {d : Int} (hn : n = l.length) (h0 : h i = some (.cells (lL l))) : thawL h [encRs r, .rsl i 0 n 4, .int .i64 d] = some ([encRs r, encLs l, .int .i64 d], [i]) := by
  subst hn
  have t1 : thaw 8 h (encRs r) = some (encRs r, []) := by unfold thaw; exact if_pos rfl
  have t2 := thaw_fl 6 (h := h) (id := i) (enc := cLt) (n := 4) (l := l) (fun _ => rfl) (fun _ => rfl) h0
  have t3 : thaw 8 h (.int .i64 d) = some (.int .i64 d, []) := by unfold thaw; exact if_pos rfl
  simp only [thawL, mapO, t1, t2, t3]
  rfl
theorem holds_sorted {r : List Rcd} (h : recsB r = true) (l : List Ltr) (d : Int) : (holdsV r l d).Pairwise (· < ·) := by
  simp only [recsB, Bool.and_eq_true] at h
  exact (incF_sorted h.1.2).sublist List.filter_sublist
theorem takes_sorted {r : List Rcd} (h : recsB r = true) (l : List Ltr) (d id : Int) : (takesD r l d id).Pairwise (· < ·) := by
  simp only [recsB, Bool.and_eq_true] at h
  exact (incF_sorted h.1.2).sublist List.filter_sublist
theorem filt_len {r : List Rcd} (p : Int → Bool) : ((idsR r).filter p).length ≤ r.length := by
  have := List.length_filter_le p (idsR r)
  unfold idsR at *
  rw [List.length_map] at this
  exact this
end Go.Proofs.YtmdhgkfjlphliaaGreat

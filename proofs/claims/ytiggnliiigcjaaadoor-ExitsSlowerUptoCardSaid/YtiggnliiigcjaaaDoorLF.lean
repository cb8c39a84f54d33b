/-
  WHAT LEAVES ANSWERS IS NEW: so it may be asked with memory of one's own.
-/
import Derived.Test.YtiggnliiigcjaaaDoorFX
namespace Go.Proofs.YtiggnliiigcjaaaDoor
open Go Go.Am
set_option maxRecDepth 100000
set_option maxHeartbeats 8000000
theorem sL_flat (l : List Sn) : ∀ c ∈ sL l, c.flat = true := fun c hc => by
  unfold sL fl at hc
  obtain ⟨x, _, hx⟩ := List.mem_flatMap.1 hc
  simp only [cS, List.mem_cons, List.not_mem_nil, or_false] at hx
  rcases hx with rfl | rfl <;> rfl
theorem thawF_spans (d : Nat) {h : Nat → Option AObj} {id : Nat} {l : List Sn} (h0 : h id = some (.cells (sL l))) : thawF (d + 2) h (.rsl id 0 l.length 2) = some (encSn l, [id]) := by
  have e : thawF (d + 2) h (.rsl id 0 l.length 2) = (match h id with
      | some (.cells cs) => if 0 + l.length * 2 ≤ cs.length then (match mapO (thawF (d + 1) h) cs with | some (cs', is) => some (.lst 2 (chunks 2 (cs'.drop 0) l.length), id :: is) | none => none) else none
      | _ => none) := rfl
  rw [e, h0]
  simp only []
  rw [if_pos (by rw [sL_len]; omega), thawF_all d h _ (sL_flat l)]
  simp only [List.drop_zero]
  unfold sL encSn
  rw [fl_chunks (enc := cS) (n := 2) (fun _ => rfl)]
theorem Leaves_okF (b : Bdg) (w : List Wal) (h1 : bdgB b = true) (h2 : walsB b w = true) (k : Nat) (hk : k < b.ss.length) : APureF Tryd.prog 27 [encB b, encW w, .int .i64 k] (.tup [encSn (spansV b w k), .int .i64 0]) := by
  have vd := vld_of h1 h2
  have hsl := vd.sl
  have sC := Check_spec b w
  have hc : checkV b w = 0 := by unfold checkV; rw [if_pos h1, if_pos h2]
  rw [hc] at sC
  have sW := within1_spec (k : Int) 0 ((b.ss.length : Int) - 1)
  have hin : inB 0 ((b.ss.length : Int) - 1) (k : Int) = true := decide_eq_true ⟨by omega, by omega⟩
  rw [hin] at sW
  have eW : IntKind.i64.wrap (((b.ss.map cSt).length : Int) - 1) = (b.ss.length : Int) - 1 := by rw [List.length_map, wrap64 (by omega) (by omega)]
  have sU : APure Tryd.prog 58 [.int .i64 (IntKind.i64.wrap (((b.ss.map cSt).length : Int) - 1))] (.agg [.int .i64 0, .int .i64 ((b.ss.length : Int) - 1)]) := by rw [eW]; exact upTo_spec _
  have s1 := leavingAll_spec false b w vd k hk
  have s2 := leavingAll_spec true b w vd k hk
  have hlen := leavesV_len b w k
  have hsh := leavesV_short vd hk true
  unfold spansV
  generalize leavesV false b w k = A at *
  generalize leavesV true b w k = B at *
  refine APureF.vcM Tryd.func27 (.call (.int .i64 0) <| .call (.agg [.int .i64 0, .int .i64 ((b.ss.length : Int) - 1)]) <| .lent (.bool true) [1] <| .call (encX b w) <| .inl Tryd.f59 <| .call (.tup [endV false, endV true]) <| .draw 7 <| .call (encR A) <| .call (encR B) .loop) rfl rfl
    ⟨sC, sU, ⟨_, by kernel_rfl, .inl ⟨sW, .inr rfl⟩⟩, begin_spec b w, Tryd.func59, endsV_spec, by kernel_rfl, mixed, by kernel_rfl, s1, by kernel_rfl, s2, ?_⟩
  intro g hn hlo
  replace hn : g.n = 42 := hn
  replace hlo : g.low 2 := hlo
  have hlo18 : g.low 18 := hlo.mono (by decide)
  have hlo17 : g.low 17 := hlo.mono (by decide)
  have hz : ∀ n x y, A[n]? = some x → B[n]? = some y → (A.zip B).take (n + 1) = (A.zip B).take n ++ [(x, y)] := fun n x y h1 h2 => by
    rw [List.take_add_one, List.getElem?_zip_eq_some.2 (show A[n]? = some (x, y).1 ∧ B[n]? = some (x, y).2 from ⟨h1, h2⟩)]; rfl
  have hzl : (A.zip B).length = A.length := by rw [List.length_zip, hlen, Nat.min_self]
  refine acode_whileW (fun n : Nat => ⟨[(7, encR A), (8, encR B), (9, .rsl 17 0 ((A.zip B).take n).length 2), (24, .int .i64 (A.map encI).length), (25, .int .i64 n)], [(17, .cells (sL ((A.zip B).take n)))], 18⟩) (fun n => n ≤ A.length) (fun n => A.length - n) 0 (Nat.zero_le _) ?_ ?_
  · refine Wk.trans (Wk.le ?_ hlo18) (Wk.own 9 2 (by kernel_rfl))
    exact St.le.of ⟨by kernel_rfl, rfl, by kernel_rfl, rfl, by kernel_rfl, rfl, by kernel_rfl, rfl, by kernel_rfl, rfl, trivial⟩ ⟨by kernel_rfl, (by decide : (17 : Nat) < 18), sL_ok _ _, trivial⟩
  · intro n hI
    by_cases hlt : n < A.length
    · refine Exists.elim (getE hlt) fun x hx => Exists.elim (getE (show n < B.length by omega)) fun y hy => ?_
      have ek := congrArg (AV.int .i64) (succ64 (k := n) (by omega))
      have hz := hz n x y hx hy
      have hz2 : ((A.zip B).take (n + 1)).length = ((A.zip B).take n).length + 1 := by rw [hz]; simp
      have ap := app_span (h := hget [(17, .cells (sL ((A.zip B).take n))), (28, .cells (cS (x, y)))]) (i := 17) (j := 28) (nid := 31) (l := (A.zip B).take n) (x := (x, y)) rfl rfl (by rw [List.length_take, hzl]; omega)
      rw [← hz, ← hz2] at ap
      exact ACode.vcM (.br 26 true <| .draw 11 <| .cells (encI x) <| .cells (encI y) <| .val 39 (.rsl 31 0 ((A.zip B).take (n + 1)).length 2) [(17, none), (31, some (.cells (sL ((A.zip B).take (n + 1)))))] .nil) hn hlo (.roundW .cl)
        ⟨ltLen hlt, by kernel_rfl, mixed, by kernel_rfl, idx hx, idx hy, by kernel_rfl, Eq.trans (by kernel_rfl) ap, n + 1, hlt, mu1 hlt,
          Wk.ren (c := 17) (b := 31) (St.ren.of rfl (by decide) ⟨.inl ⟨by kernel_rfl, rfl⟩, .inl ⟨by kernel_rfl, rfl⟩, .inr ⟨_, _, _, rfl, by kernel_rfl⟩, .inl ⟨by kernel_rfl, rfl⟩, .inl ⟨Eq.trans (by kernel_rfl) ek, rfl⟩, trivial⟩ ⟨.inr ⟨rfl, by kernel_rfl, _, rfl, sL_ok _ _⟩, trivial⟩) hlo17⟩
    · have hk' : n = A.length := by have h9 : n ≤ A.length := hI; omega
      have et : (A.zip B).take n = A.zip B := by rw [hk', ← hzl, List.take_length]
      have ht2 : thawF 8 (hget [(17, .cells (sL ((A.zip B).take n)))]) (.tup [.rsl 17 0 ((A.zip B).take n).length 2, .int .i64 0]) = some (.tup [encSn (A.zip B), .int .i64 0], [17]) := by
        rw [et]
        have t1 := thawF_spans 5 (h := hget [(17, .cells (sL (A.zip B)))]) (id := 17) (l := A.zip B) rfl
        have e : thawF 8 (hget [(17, .cells (sL (A.zip B)))]) (.tup [.rsl 17 0 (A.zip B).length 2, .int .i64 0]) = (mapO (thawF 7 (hget [(17, .cells (sL (A.zip B)))])) [.rsl 17 0 (A.zip B).length 2, .int .i64 0]).map fun p => (.tup p.1, p.2) := rfl
        rw [e]
        simp only [mapO]
        rw [t1]
        rfl
      exact ACode.vcM (.br 26 false .nil) hn hlo (.roundW .cl) ⟨geLen hlt, _, .refl _, .nil, [17], Eq.trans (by kernel_rfl) ht2⟩
end Go.Proofs.YtiggnliiigcjaaaDoor

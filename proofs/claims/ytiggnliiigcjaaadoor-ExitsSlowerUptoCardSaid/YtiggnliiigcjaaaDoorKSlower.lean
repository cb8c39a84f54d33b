/-
  THE LAW 'ExitsSlower', second form: for every building, people, how much slower, and one more, of bulk at most 1048576, the call returns true; the arguments read as before. Its condition: that bound, and the listed variable, which the card ties to the program's text.
-/
import Derived.Test.YtiggnliiigcjaaaDoorCe
import Derived.Test.YtiggnliiigcjaaaDoorSL
import Derived.Deep.DeepHandedRow
import Derived.JoinedCond
import Derived.Stop.Joined
namespace Go.Proofs.YtiggnliiigcjaaaDoor
open Go Go.Am
open Go.ChangeShapes Go.WideShapes Go.ChangeAt Go.RowKit
set_option maxRecDepth 100000
theorem bulk_one {H : Type} (d : DataW H) : 1 ≤ Rows.uptoBulk d := by
  cases d with
  | lit l => cases l <;> simp [Rows.uptoBulk]
  | nil => simp [Rows.uptoBulk]
  | ptr d => simp [Rows.uptoBulk]
  | slice elems spare => simp [Rows.uptoBulk]
  | agg parts => simp [Rows.uptoBulk]
  | iface t d => simp [Rows.uptoBulk]
  | map entries => simp [Rows.uptoBulk]
  | held h => simp [Rows.uptoBulk]
theorem bulk_len {H : Type} (l : List (DataW H)) : l.length ≤ Rows.uptoBulkAll l := by
  induction l with
  | nil => simp [Rows.uptoBulkAll]
  | cons x r ih => have := bulk_one x; simp only [Rows.uptoBulkAll, List.length_cons]; omega
theorem slower_contract {H : Type} (enc : TypeId × Value → H) (W : World) (base : Nat) (args : Array Value) (ds gs : List (DataW H)) (before : List MemPlace)
    (hval : ∀ (j : Nat) t v, Tryd.f10.params[j]? = some t → args[j]? = some v → Value.okWide Tryd.prog W .any base t v)
    (hW : DataW.Whole enc Tryd.prog Tryd.f10.params.toList Rows.exitsSlowerSpec.vars false W args.toList ds gs before)
    (hk : Rows.uptoSmall H (ds ++ gs) = true) (hL : laidMetH Tryd.prog Rows.exitsSlowerUptoRow.laid W) :
    Calls Tryd.prog 10 args W fun e W' => ∃ v, e = .returned v ∧ Rows.exitsSlowerSpec.post enc Tryd.prog Tryd.f10 false true false false W args v W' := by
  have hW' := hW
  obtain ⟨p, q, hA, hV, rfl, hfz, hnd⟩ := hW
  have hvars : Rows.exitsSlowerSpec.vars = [] := rfl
  rw [hvars] at hV
  obtain ⟨rfl, rfl⟩ := trodVars_none hV
  have hT : tyOkL Tryd.prog 8 Tryd.f10.params.toList [bdgTy, walsTy, u32sTy, walTy] = true := by kernel_rfl
  obtain ⟨avs, has, hrel, hlen⟩ := read_args hT (fun j t v hj hv => hval j t v (by simpa using hj) (by simpa using hv)) hA
  have hlt : ∀ x ∈ p, x.block < W.heap.size := fun x hx => hW'.lt x (by simpa using hx)
  obtain ⟨a0, r0, rfl, h0, a1, r1, rfl, h1, a2, r2, rfl, h2, a3, r3, rfl, h3, hr⟩ := has
  obtain ⟨x0, rfl⟩ := bdg_of h0
  obtain ⟨x1, rfl⟩ := wals_of h1
  obtain ⟨x2, rfl, y2⟩ := u32s_of h2
  obtain ⟨x3, rfl⟩ := walA_of h3
  simp only [ArgsV] at hr
  subst hr
  have hbig : x1.length ≤ 2000000 := by
    obtain ⟨v0, vs0, d0, ds0, p0, q0, e0, rfl, ep0, t0, hrest⟩ := trodAll_cons hA
    obtain ⟨v1, vs1, d1, ds1, p1, q1, e1, rfl, ep1, t1, _⟩ := trodAll_cons hrest
    obtain ⟨u1, hu1, hv1⟩ := hrel.2 1 (encW x1) rfl
    rw [e0, e1] at hu1
    have hu2 : v1 = u1 := Option.some.inj hu1
    subst hu2
    unfold encW at hv1
    have hb := of_decide_eq_true hk
    simp only [List.append_nil, Rows.uptoBulkAll] at hb
    obtain ⟨fuel, t1⟩ := t1
    cases hv1 with
    | lst _ _ bs cap _ _ _ _ _ =>
      rcases DataW.trod_slice (e := 30) (by kernel_rfl) t1 with ⟨hc, _⟩ | ⟨a, len, cap2, elems, rest, n, _, hc, hx, _, _, _, hel, _⟩
      · have : (x1.map cWa).length = 0 := by
          have := congrArg Array.toList (show #[Value.slice bs (x1.map cWa).length cap] = #[Value.slice none 0 0] from by simpa [Value.cells] using hc)
          simp at this; omega
        rw [List.length_map] at this; omega
      · have h5 : (x1.map cWa).length = len := by
          have := (show [Value.slice bs (x1.map cWa).length cap] = [Value.slice (some a) len cap2] from by simpa [Value.cells] using hc)
          simp at this; rw [List.length_map]; omega
        have h6 := (Prod.mk.inj hx).1
        rw [h6] at hb
        simp only [Rows.uptoBulk] at hb
        have h7 := bulk_len (elems.map (·.1))
        rw [List.length_map] at h5 h7
        omega
  refine (law_slower x0 x1 x2 y2 x3 hbig (fun _ => none) (fun _ => False) W args (fun b hb => hb.elim) (globs hL) ⟨by simpa using hrel.1, fun i c hi => by simpa using hrel.2 i c hi⟩).mono ?_
  rintro e W' ⟨v, rfl, hle, hsame, hv⟩
  cases hv
  have hb := below_of hle hsame
  have hstay : ∀ sp : Nat → Bool, (∀ x ∈ p, sp x.block = true) → DataW.TrodAll enc Tryd.prog W' 0 sp true Tryd.f10.params.toList args.toList ds p := fun sp hsp =>
    trodAll_stays Tryd.laidOut (by kernel_rfl) hA (fun x hx => hb.same (hlt x hx)) hsp
  have htb : Tryd.prog.underlying 4 = some .bool := by kernel_rfl
  have hres : Tryd.f10.resultTypes = #[4] := by kernel_rfl
  have hs : Rows.exitsSlowerSpec.fn H ds = { results := [.lit (.bool true)], args := ds } := by
    have h4 : ds.length = 4 := hlen
    rcases ds with _ | ⟨d1, _ | ⟨d2, _ | ⟨d3, _ | ⟨d4, _ | ⟨d5, ds⟩⟩⟩⟩⟩ <;> first | rfl | (simp at h4; done)
  refine ⟨_, rfl, ds, [], p ++ [], [], p, [], hW', ?_, ?_, ?_, ?_, fun e => by cases e⟩
  · rw [List.append_nil, hs, hres]
    refine ⟨[], [], ⟨1, ?_⟩, rfl, rfl⟩
    simp only [Value.cells, DataW.trod, htb]
  · rw [List.append_nil, hs]
    exact hstay _ (fun x hx => by simpa using hlt x hx)
  · rw [List.append_nil, hs, hvars]
    rfl
  · exact hb.frame _
theorem slower_reads (os : Os) {H : Type} (enc : TypeId × Value → H) : ∃ places, DataW.whole enc Tryd.prog ((laidWorld os).forCall (fun _ _ => 0) ⟨#[], #[.agg #[.slice none 0 0, .slice none 0 0], .slice none 0 0, .slice none 0 0, .agg #[.int .i64 0, .int .i64 0, .int .i64 0, .int .i64 0, .int .i64 0]], []⟩).memory Tryd.f10.params.toList Rows.exitsSlowerSpec.vars false #[.agg #[.slice none 0 0, .slice none 0 0], .slice none 0 0, .slice none 0 0, .agg #[.int .i64 0, .int .i64 0, .int .i64 0, .int .i64 0, .int .i64 0]].toList 9 = some ([.agg [.nil, .nil], .nil, .nil, .agg [.lit (.int .i64 0), .agg [.lit (.int .i64 0), .lit (.int .i64 0)], .agg [.lit (.int .i64 0), .lit (.int .i64 0)]]], [], places) :=
  ⟨[], by kernel_rfl⟩
theorem slower_lifted (os : Os) (started : os.Started) (H : Type) (enc : TypeId × Value → H) (F : Stop.Interp) :
    ReturnsInHanded {} Tryd.checked os 10 .any ((Rows.OpenSpec.upto Rows.exitsSlowerSpec).preRow enc Tryd.prog Tryd.f10 Rows.exitsSlowerUptoRow.domain false Rows.exitsSlowerUptoRow.laid) (((Rows.OpenSpec.upto Rows.exitsSlowerSpec).at F).post enc Tryd.prog Tryd.f10 false true false false) := by
  obtain ⟨places, hx⟩ := slower_reads os enc
  refine returnsInHanded_of_row (C := Tryd.checked) (s := Rows.OpenSpec.upto Rows.exitsSlowerSpec) Tryd.own started (by kernel_rfl) Tryd.func10
    (witness_row_at (enc := enc) (C := Tryd.checked) false (laidWorld os) #[.agg #[.slice none 0 0, .slice none 0 0], .slice none 0 0, .slice none 0 0, .agg #[.int .i64 0, .int .i64 0, .int .i64 0, .int .i64 0, .int .i64 0]] rfl (by kernel_rfl) (by kernel_rfl) (by kernel_rfl)
      (OpenSpec.preRow_of_cond 9 hx (by kernel_rfl) (fun k hk => by cases hk; kernel_rfl) (by kernel_rfl) (laidWorld_met os _))) ?_
  intro W base args ds gs before hval hW _ hcond _ hL _ _
  exact slower_contract enc W base args ds gs before hval hW (hcond _ rfl) hL
theorem exitsSlowerUpto_row_holds : Rows.ExitsSlowerUptoSaid :=
  OpenClaim.holds_of_cond 10 Tryd.f10 rfl rfl rfl rfl rfl rfl rfl ⟨rfl, rfl, rfl, rfl, rfl⟩ rfl rfl rfl rfl rfl (by kernel_rfl) Tryd.func10 (by kernel_rfl)
    (of_decide_eq_true (by kernel_rfl)) (by unfold Func.isWrapper; first | (rw [if_pos (by decide +kernel)]; kernel_rfl) | (rw [if_neg (by decide +kernel)]; exact ⟨rfl, rfl⟩))
    (fun os started H enc _ F => by rw [OpenClaim.pre_eq_preRow]; exact slower_lifted os started H enc F)
theorem exitsSlower_uptocard_holds : Rows.ExitsSlowerUptoCardSaid :=
  Claim7.holds_tied_plain_at .later [] [.data] true (true, "c89e0b7a3e70ad498a61f1506b8e3be7727d2243e562c29b15959cc61a4c8cd8") false
    exitsSlowerUpto_row_holds (fun _ h => by cases h) (by kernel_rfl) (fun _ h => by cases h) exitsSlowerUpto_row_tie rfl ⟨rfl, rfl⟩ (by kernel_rfl) rfl
    (fun f fn hf hfn => by
      obtain rfl : f = 10 := Option.some.inj ((show Tryd.prog.funcNamed "cottonpad/cottonpadlaw06.ExitsSlower" = some 10 by kernel_rfl).symm.trans hf) |>.symm
      obtain rfl : fn = Tryd.f10 := (Option.some.inj (Tryd.func10.symm.trans hfn)).symm
      exact ⟨by kernel_rfl, fun j t ht => by
        have hm : t ∈ Tryd.f10.params.toList := by simpa using Array.mem_of_getElem? ht
        have hall : (Tryd.f10.params.toList.all fun u => !Tryd.prog.wantsStandIn u) = true := by kernel_rfl
        exact (show Tryd.prog.wantsStandIn t = false by simpa using List.all_eq_true.1 hall t hm)⟩)
    (by kernel_rfl)
end Go.Proofs.YtiggnliiigcjaaaDoor

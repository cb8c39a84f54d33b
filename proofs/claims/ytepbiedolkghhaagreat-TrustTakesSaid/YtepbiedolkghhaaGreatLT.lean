/-
  THE LAW OF WHAT A RECORD TAKES WITH IT.
-/
import Derived.Test.YtepbiedolkghhaaGreatL1
namespace Go.Proofs.YtepbiedolkghhaaGreat
open Go Go.Am
set_option maxRecDepth 100000
set_option maxHeartbeats 8000000
/-- What the law asks of the lists that are told. -/
structure TkF (r : List Rcd) (id : Int) (H T N : List Int) (W F X : Int → Bool) : Prop where
  h : ∀ i, H.contains i = W i
  t : ∀ i, T.contains i = F i
  n : ∀ i, N.contains i = X i
  x : ∀ i, X i = (W i && !F i)
  self : F id = W id
  none : W id = false → T = []
  held : ∀ i, F i = true → W i = true
  hung : ∀ x ∈ r, x.id ≠ id → F x.id = true → ∀ w ∈ x.ways, w.all W = true → w.any F = true
theorem lookF {h : Nat → Option AObj} {L : List Int} {W : Int → Bool} (hL : ∀ i, L.contains i = W i) (x : Int) : (aLookup Tryz.prog h 36 (.imap (entsO L)) (.int .i64 x) false).map (fun v => (⟨v, []⟩ : Out)) = some ⟨.bool (W x), []⟩ := by rw [lookD, hL]
theorem takes_core (r : List Rcd) (l : List Ltr) (n which : Nat) (d : Int) (x0 : Rcd) (H T N : List Int) (W F X : Int → Bool) (hf : TkF r x0.id H T N W F X) (hr12 : r.length ≤ 12) (hl20 : l.length ≤ 20) (hWR : WR r)
    (sA : APure Tryz.prog 9 [] (.bool true)) (sR : APure Tryz.prog 10 [encRs r, encLs l] (.bool true)) (d46 : (((r.map cRc).length : Int) == 0) = false)
    (sD : APure Tryz.prog 11 [encLs l, .int .u32 (n : Int)] (.int .i64 d))
    (v56 : some (⟨.int .i64 (IntKind.i64.wrap (which : Int)), []⟩ : Out) = some ⟨.int .i64 (which : Int), []⟩)
    (ix : 0 ≤ (which : Int).tmod ((r.map cRc).length : Int) ∧ (r.map cRc)[((which : Int).tmod ((r.map cRc).length : Int)).toNat]? = some (cRc x0))
    (hne : ((r.map cRc).length : Int) ≠ 0)
    (sH : APureF Tryz.prog 12 [encRs r, encLs l, .int .i64 d] (.tup [encR H, .int .i64 0]))
    (sT : APureF Tryz.prog 13 [encRs r, encLs l, .int .i64 d, .int .i64 x0.id] (.tup [encR T, .int .i64 0]))
    (sSH : APure Tryz.prog 14 [encR H] (.tup [.imap (entsO H), .bool true]))
    (sST : APure Tryz.prog 14 [encR T] (.tup [.imap (entsO T), .bool true]))
    (sSN : APure Tryz.prog 14 [encR N] (.tup [.imap (entsO N), .bool true]))
    (nv : Int) (nb : Bool) (sN : APure Tryz.prog 15 [encLs l] (.tup [.int .i64 nv, .bool nb]))
    (sH2 : nb = true → APureF Tryz.prog 12 [encRs r, encLs (l ++ [wLet nv d x0.id]), .int .i64 d] (.tup [encR N, .int .i64 0])) :
    APure Tryz.prog 3 [encRs r, encLs l, .int .u32 (n : Int), .int .u8 (which : Int)] (.bool true) := by
  refine APure.intro Tryz.func3 rfl rfl rfl fun g hn hlo => ?_
  replace hn : g.n = 241 := hn
  replace hlo : g.low 0 := hlo
  have lk105 := lookF (h := hget []) hf.h x0.id
  have lk108 := lookF (h := hget []) hf.t x0.id
  rw [hf.self] at lk108
  have v109 : some (⟨.bool (W x0.id != W x0.id), []⟩ : Out) = some ⟨.bool false, []⟩ := by simp
  have d121 : (!W x0.id) = true → decide (((T.map encI).length : Int) > 0) = false := fun h => by
    rw [hf.none (by cases hq : W x0.id; rfl; (rw [hq] at h; cases h))]; rfl
  obtain ⟨id, hid⟩ : ∃ id, id = x0.id := ⟨_, rfl⟩
  generalize hB : W x0.id = B at *
  refine ACode.cut 8 (fun _ : Unit => ⟨[(0, encRs r), (1, encLs l), (9, .bool true), (10, .int .i64 d), (11, .int .i64 id), (16, .imap (entsO H)), (18, .imap (entsO T))], [], 0⟩) (fun _ => True)
    (.call (.bool true) <| .call (.bool true) <| .br 46 false <| .draw 13 <| .call (.int .i64 d) <| .val 56 (.int .i64 (which : Int)) [] <| .nz <| .cells (cRc x0) <| .lent (.tup [encR H, .int .i64 0]) [] <| .lent (.tup [encR T, .int .i64 0]) [] <| .call (.tup [.imap (entsO H), .bool true]) <| .call (.tup [.imap (entsO T), .bool true]) <| .val 105 (.bool B) [] <| .val 108 (.bool B) [] <| .val 109 (.bool false) [] <| .val 114 (.bool B) [] <| .both 116 (.br 121 false .nil) .nil) hn hlo .ret rfl
    ⟨sA, sR, d46, by kernel_rfl, mixed, by kernel_rfl, sD, Eq.trans (by kernel_rfl) v56, hne, ix, by kernel_rfl, ⟨_, by kernel_rfl, .inr sH⟩, ⟨_, by kernel_rfl, .inr sT⟩, sSH, sST, Eq.trans (by kernel_rfl) lk105, Eq.trans (by kernel_rfl) lk108, Eq.trans (by kernel_rfl) v109, Eq.trans (by kernel_rfl) lk105,
      fun h => ⟨d121 h, (), trivial, Wk.le (St.le.of ⟨by kernel_rfl, rfl, by kernel_rfl, rfl, by kernel_rfl, rfl, by kernel_rfl, rfl, Eq.trans (by kernel_rfl) (congrArg (AV.int .i64) hid).symm, rfl, by kernel_rfl, rfl, by kernel_rfl, rfl, trivial⟩ trivial) hlo⟩, fun _ => ⟨(), trivial, Wk.le (St.le.of ⟨by kernel_rfl, rfl, by kernel_rfl, rfl, by kernel_rfl, rfl, by kernel_rfl, rfl, Eq.trans (by kernel_rfl) (congrArg (AV.int .i64) hid).symm, rfl, by kernel_rfl, rfl, by kernel_rfl, rfl, trivial⟩ trivial) hlo⟩⟩ fun _ _ => ?_
  clear lk105 lk108 v109 d121 sA sR sD sH sT sSH sST
  -- each record that falls
  refine ACode.cut 0 (fun _ : Unit => ⟨[(0, encRs r), (1, encLs l), (9, .bool true), (10, .int .i64 d), (11, .int .i64 id), (16, .imap (entsO H)), (18, .imap (entsO T))], [], 0⟩) (fun _ => True) .loop hn hlo .ret rfl ?_ fun _ _ => ?_
  · intro g2 hn2 hlo2
    replace hn2 : g2.n = 241 := hn2
    replace hlo2 : g2.low 0 := hlo2
    refine acode_whileW (fun k : Nat => ⟨[(0, encRs r), (1, encLs l), (9, .bool true), (10, .int .i64 d), (11, .int .i64 id), (16, .imap (entsO H)), (18, .imap (entsO T)), (122, encRs r), (123, .int .i64 ((r.map cRc).length : Int)), (124, .int .i64 k)], [], 0⟩) (fun k => k ≤ r.length) (fun k => r.length - k) 0 (Nat.zero_le _) (Wk.le (St.le.of ⟨by kernel_rfl, rfl, by kernel_rfl, rfl, by kernel_rfl, rfl, by kernel_rfl, rfl, by kernel_rfl, rfl, by kernel_rfl, rfl, by kernel_rfl, rfl, by kernel_rfl, rfl, by kernel_rfl, rfl, by kernel_rfl, rfl, trivial⟩ trivial) hlo2) ?_
    intro k hk
    replace hk : k ≤ r.length := hk
    by_cases hlt : k < r.length
    · refine Exists.elim (getE hlt) fun x hx => ?_
      have ek := congrArg (AV.int .i64) (succ64 (k := k) (by omega))
      have hxm := List.mem_of_getElem? hx
      have hxw := hWR x hxm
      have lkT := lookF (h := hget []) hf.t x.id
      have lkH := lookF (h := hget []) hf.h x.id
      refine (Bool.eq_false_or_eq_true (F x.id)).symm.elim (fun ht => ?_) (fun ht => ?_)
      · rw [ht] at lkT
        exact ACode.vcM (.br 125 true <| .cells (cRc x) <| .val 131 (.bool false) [] <| .val 142 (.bool false) [] .nil) hn2 hlo2 (.roundW .cl) ⟨ltLen hlt, idx hx, Eq.trans (by kernel_rfl) lkT, Eq.trans (by kernel_rfl) lkT, k + 1, hlt, mu1 hlt, Wk.le (St.le.of ⟨by kernel_rfl, rfl, by kernel_rfl, rfl, by kernel_rfl, rfl, by kernel_rfl, rfl, by kernel_rfl, rfl, by kernel_rfl, rfl, by kernel_rfl, rfl, by kernel_rfl, rfl, by kernel_rfl, rfl, Eq.trans (by kernel_rfl) ek, rfl, trivial⟩ trivial) hlo2⟩
      · rw [ht] at lkT
        rw [hf.held x.id ht] at lkH
        refine (Bool.eq_false_or_eq_true (x.id == id)).elim (fun hi => ?_) (fun hi => ?_)
        · exact ACode.vcM (.br 125 true <| .cells (cRc x) <| .val 131 (.bool true) [] <| .val 136 (.bool true) [] <| .val 142 (.bool true) [] <| .br 149 true .nil) hn2 hlo2 (.roundW .cl) ⟨ltLen hlt, idx hx, Eq.trans (by kernel_rfl) lkT, Eq.trans (by kernel_rfl) lkH, Eq.trans (by kernel_rfl) lkT, hi, k + 1, hlt, mu1 hlt, Wk.le (St.le.of ⟨by kernel_rfl, rfl, by kernel_rfl, rfl, by kernel_rfl, rfl, by kernel_rfl, rfl, by kernel_rfl, rfl, by kernel_rfl, rfl, by kernel_rfl, rfl, by kernel_rfl, rfl, by kernel_rfl, rfl, Eq.trans (by kernel_rfl) ek, rfl, trivial⟩ trivial) hlo2⟩
        · have hne2 : x.id ≠ x0.id := by rw [← hid]; exact fun h => by rw [h, beq_self_eq_true] at hi; cases hi
          have hung := hf.hung x hxm hne2 ht
          refine ACode.vcM (.br 125 true <| .cells (cRc x) <| .val 131 (.bool true) [] <| .val 136 (.bool true) [] <| .val 142 (.bool true) [] <| .br 149 false .loop) hn2 hlo2 (.roundW .cl) ⟨ltLen hlt, idx hx, Eq.trans (by kernel_rfl) lkT, Eq.trans (by kernel_rfl) lkH, Eq.trans (by kernel_rfl) lkT, hi, ?_⟩
          intro g3 hn3 hlo3
          replace hn3 : g3.n = 241 := hn3
          replace hlo3 : g3.low 0 := hlo3
          refine acode_whileW (fun i : Nat => ⟨[(0, encRs r), (1, encLs l), (9, .bool true), (10, .int .i64 d), (11, .int .i64 id), (16, .imap (entsO H)), (18, .imap (entsO T)), (122, encRs r), (123, .int .i64 ((r.map cRc).length : Int)), (124, .int .i64 k), (151, encWs x.ways), (152, .int .i64 ((x.ways.map cW).length : Int)), (153, .int .i64 i)], [], 0⟩) (fun i => i ≤ x.ways.length) (fun i => x.ways.length - i) 0 (Nat.zero_le _) (Wk.le (St.le.of ⟨by kernel_rfl, rfl, by kernel_rfl, rfl, by kernel_rfl, rfl, by kernel_rfl, rfl, by kernel_rfl, rfl, by kernel_rfl, rfl, by kernel_rfl, rfl, by kernel_rfl, rfl, by kernel_rfl, rfl, by kernel_rfl, rfl, by kernel_rfl, rfl, by kernel_rfl, rfl, by kernel_rfl, rfl, trivial⟩ trivial) hlo3) ?_
          intro i hi1
          replace hi1 : i ≤ x.ways.length := hi1
          by_cases hil : i < x.ways.length
          · refine Exists.elim (getE hil) fun w hw => ?_
            have ei := congrArg (AV.int .i64) (succ64 (k := i) (by omega))
            have hwl := hxw.2 w (List.mem_of_getElem? hw)
            have hwh := hung w (List.mem_of_getElem? hw)
            refine ACode.vcM (.br 154 true <| .cells (cW w) <| .loop) hn3 hlo3 (.roundW .cl) ⟨ltLen hil, idx hw, ?_⟩
            intro g4 hn4 hlo4
            replace hn4 : g4.n = 241 := hn4
            replace hlo4 : g4.low 0 := hlo4
            refine acode_whileW (fun j : Nat => ⟨[(0, encRs r), (1, encLs l), (9, .bool true), (10, .int .i64 d), (11, .int .i64 id), (16, .imap (entsO H)), (18, .imap (entsO T)), (122, encRs r), (123, .int .i64 ((r.map cRc).length : Int)), (124, .int .i64 k), (151, encWs x.ways), (152, .int .i64 ((x.ways.map cW).length : Int)), (153, .int .i64 i), (24, .bool ((w.take j).all W)), (25, .bool ((w.take j).any F)), (157, encR w), (158, .int .i64 ((w.map encI).length : Int)), (159, .int .i64 j)], [], 0⟩) (fun j => j ≤ w.length) (fun j => w.length - j) 0 (Nat.zero_le _) (Wk.le (St.le.of ⟨by kernel_rfl, rfl, by kernel_rfl, rfl, by kernel_rfl, rfl, by kernel_rfl, rfl, by kernel_rfl, rfl, by kernel_rfl, rfl, by kernel_rfl, rfl, by kernel_rfl, rfl, by kernel_rfl, rfl, by kernel_rfl, rfl, by kernel_rfl, rfl, by kernel_rfl, rfl, by kernel_rfl, rfl, by kernel_rfl, rfl, by kernel_rfl, rfl, by kernel_rfl, rfl, by kernel_rfl, rfl, by kernel_rfl, rfl, trivial⟩ trivial) hlo4) ?_
            intro j hj1
            replace hj1 : j ≤ w.length := hj1
            by_cases hjl : j < w.length
            · refine Exists.elim (getE hjl) fun v hv => ?_
              have ej := congrArg (AV.int .i64) (succ64 (k := j) (by omega))
              have lW := lookF (h := hget []) hf.h v
              have lF := lookF (h := hget []) hf.t v
              have eA := take_all (p := W) hv
              have eO := any_take (p := F) hv
              refine (Bool.eq_false_or_eq_true ((w.take j).all W)).elim (fun ha => ?_) (fun ha => ?_) <;> refine (Bool.eq_false_or_eq_true ((w.take j).any F)).elim (fun hb => ?_) (fun hb => ?_)
              · have e24 : AV.bool (W v) = .bool ((w.take (j + 1)).all W) := by rw [eA, ha]; rfl
                have e25 : AV.bool true = .bool ((w.take (j + 1)).any F) := by rw [eO, hb]; rfl
                exact ACode.vcM (.br 160 true <| .cells (encI v) <| .draw 13 <| .br 164 true <| .val 167 (.bool (W v)) [] <| .br 170 true .nil) hn4 hlo4 (.roundW .cl) ⟨ltLen hjl, idx hv, by kernel_rfl, mixed, by kernel_rfl, ha, Eq.trans (by kernel_rfl) lW, hb, by kernel_rfl, j + 1, hjl, mu1 hjl, Wk.le (St.le.of ⟨by kernel_rfl, rfl, by kernel_rfl, rfl, by kernel_rfl, rfl, by kernel_rfl, rfl, by kernel_rfl, rfl, by kernel_rfl, rfl, by kernel_rfl, rfl, by kernel_rfl, rfl, by kernel_rfl, rfl, by kernel_rfl, rfl, by kernel_rfl, rfl, by kernel_rfl, rfl, by kernel_rfl, rfl, Eq.trans (by kernel_rfl) e24, rfl, Eq.trans (by kernel_rfl) e25, rfl, by kernel_rfl, rfl, by kernel_rfl, rfl, Eq.trans (by kernel_rfl) ej, rfl, trivial⟩ trivial) hlo4⟩
              · have e24 : AV.bool (W v) = .bool ((w.take (j + 1)).all W) := by rw [eA, ha]; rfl
                have e25 : AV.bool (F v) = .bool ((w.take (j + 1)).any F) := by rw [eO, hb]; rfl
                exact ACode.vcM (.br 160 true <| .cells (encI v) <| .draw 13 <| .br 164 true <| .val 167 (.bool (W v)) [] <| .br 170 false <| .val 173 (.bool (F v)) [] .nil) hn4 hlo4 (.roundW .cl) ⟨ltLen hjl, idx hv, by kernel_rfl, mixed, by kernel_rfl, ha, Eq.trans (by kernel_rfl) lW, hb, Eq.trans (by kernel_rfl) lF, by kernel_rfl, j + 1, hjl, mu1 hjl, Wk.le (St.le.of ⟨by kernel_rfl, rfl, by kernel_rfl, rfl, by kernel_rfl, rfl, by kernel_rfl, rfl, by kernel_rfl, rfl, by kernel_rfl, rfl, by kernel_rfl, rfl, by kernel_rfl, rfl, by kernel_rfl, rfl, by kernel_rfl, rfl, by kernel_rfl, rfl, by kernel_rfl, rfl, by kernel_rfl, rfl, Eq.trans (by kernel_rfl) e24, rfl, Eq.trans (by kernel_rfl) e25, rfl, by kernel_rfl, rfl, by kernel_rfl, rfl, Eq.trans (by kernel_rfl) ej, rfl, trivial⟩ trivial) hlo4⟩
              · have e24 : AV.bool false = .bool ((w.take (j + 1)).all W) := by rw [eA, ha]; rfl
                have e25 : AV.bool true = .bool ((w.take (j + 1)).any F) := by rw [eO, hb]; rfl
                exact ACode.vcM (.br 160 true <| .cells (encI v) <| .draw 13 <| .br 164 false <| .br 170 true .nil) hn4 hlo4 (.roundW .cl) ⟨ltLen hjl, idx hv, by kernel_rfl, mixed, by kernel_rfl, ha, hb, by kernel_rfl, j + 1, hjl, mu1 hjl, Wk.le (St.le.of ⟨by kernel_rfl, rfl, by kernel_rfl, rfl, by kernel_rfl, rfl, by kernel_rfl, rfl, by kernel_rfl, rfl, by kernel_rfl, rfl, by kernel_rfl, rfl, by kernel_rfl, rfl, by kernel_rfl, rfl, by kernel_rfl, rfl, by kernel_rfl, rfl, by kernel_rfl, rfl, by kernel_rfl, rfl, Eq.trans (by kernel_rfl) e24, rfl, Eq.trans (by kernel_rfl) e25, rfl, by kernel_rfl, rfl, by kernel_rfl, rfl, Eq.trans (by kernel_rfl) ej, rfl, trivial⟩ trivial) hlo4⟩
              · have e24 : AV.bool false = .bool ((w.take (j + 1)).all W) := by rw [eA, ha]; rfl
                have e25 : AV.bool (F v) = .bool ((w.take (j + 1)).any F) := by rw [eO, hb]; rfl
                exact ACode.vcM (.br 160 true <| .cells (encI v) <| .draw 13 <| .br 164 false <| .br 170 false <| .val 173 (.bool (F v)) [] .nil) hn4 hlo4 (.roundW .cl) ⟨ltLen hjl, idx hv, by kernel_rfl, mixed, by kernel_rfl, ha, hb, Eq.trans (by kernel_rfl) lF, by kernel_rfl, j + 1, hjl, mu1 hjl, Wk.le (St.le.of ⟨by kernel_rfl, rfl, by kernel_rfl, rfl, by kernel_rfl, rfl, by kernel_rfl, rfl, by kernel_rfl, rfl, by kernel_rfl, rfl, by kernel_rfl, rfl, by kernel_rfl, rfl, by kernel_rfl, rfl, by kernel_rfl, rfl, by kernel_rfl, rfl, by kernel_rfl, rfl, by kernel_rfl, rfl, Eq.trans (by kernel_rfl) e24, rfl, Eq.trans (by kernel_rfl) e25, rfl, by kernel_rfl, rfl, by kernel_rfl, rfl, Eq.trans (by kernel_rfl) ej, rfl, trivial⟩ trivial) hlo4⟩
            · have hj' : j = w.length := by omega
              have et : w.take j = w := by rw [hj', List.take_length]
              refine (Bool.eq_false_or_eq_true (w.all W)).elim (fun ha => ?_) (fun ha => ?_)
              · have hb := hwh ha
                have d177 : (w.take j).all W = true := by rw [et]; exact ha
                have d180 : (!((w.take j).any F)) = false := by rw [et, hb]; rfl
                exact ACode.vcM (.br 160 false .nil) hn4 hlo4 (.roundW .cl) ⟨geLen hjl, _, .refl _, .br 177 true <| .br 180 false .nil, d177, d180, i + 1, hil, mu1 hil, Wk.le (St.le.of ⟨by kernel_rfl, rfl, by kernel_rfl, rfl, by kernel_rfl, rfl, by kernel_rfl, rfl, by kernel_rfl, rfl, by kernel_rfl, rfl, by kernel_rfl, rfl, by kernel_rfl, rfl, by kernel_rfl, rfl, by kernel_rfl, rfl, by kernel_rfl, rfl, by kernel_rfl, rfl, Eq.trans (by kernel_rfl) ei, rfl, trivial⟩ trivial) hlo3⟩
              · have d177 : (w.take j).all W = false := by rw [et]; exact ha
                exact ACode.vcM (.br 160 false .nil) hn4 hlo4 (.roundW .cl) ⟨geLen hjl, _, .refl _, .br 177 false .nil, d177, i + 1, hil, mu1 hil, Wk.le (St.le.of ⟨by kernel_rfl, rfl, by kernel_rfl, rfl, by kernel_rfl, rfl, by kernel_rfl, rfl, by kernel_rfl, rfl, by kernel_rfl, rfl, by kernel_rfl, rfl, by kernel_rfl, rfl, by kernel_rfl, rfl, by kernel_rfl, rfl, by kernel_rfl, rfl, by kernel_rfl, rfl, Eq.trans (by kernel_rfl) ei, rfl, trivial⟩ trivial) hlo3⟩
          · exact ACode.vcM (.br 154 false .nil) hn3 hlo3 (.roundW .cl) ⟨geLen hil, _, .refl _, .nil, k + 1, hlt, mu1 hlt, Wk.le (St.le.of ⟨by kernel_rfl, rfl, by kernel_rfl, rfl, by kernel_rfl, rfl, by kernel_rfl, rfl, by kernel_rfl, rfl, by kernel_rfl, rfl, by kernel_rfl, rfl, by kernel_rfl, rfl, by kernel_rfl, rfl, Eq.trans (by kernel_rfl) ek, rfl, trivial⟩ trivial) hlo2⟩
    · exact ACode.vcM (.br 125 false .nil) hn2 hlo2 (.roundW .cl) ⟨geLen hlt, _, .refl _, .nil, (), trivial, Wk.le (St.le.of ⟨by kernel_rfl, rfl, by kernel_rfl, rfl, by kernel_rfl, rfl, by kernel_rfl, rfl, by kernel_rfl, rfl, by kernel_rfl, rfl, by kernel_rfl, rfl, trivial⟩ trivial) hlo⟩
  cases nb
  · exact ACode.vcM (.call (.tup [.int .i64 nv, .bool false]) .nil) hn hlo .ret ⟨sN, trivial, rfl⟩
  have sH2 := sH2 rfl
  rw [← hid] at sH2
  have ap0 := appL0 (h := hget [(0, .cells [])]) (i := 0) (nid := 1) (l := l) rfl (by omega)
  have ap1 := appL1 (h := hget [(1, .cells (lL l)), (2, .cells (cLt (wLet nv d id)))]) (i := 1) (j := 2) (nid := 3) (l := l) (x := wLet nv d id) rfl rfl (by omega)
  have hl1 : (l ++ [wLet nv d id]).length = l.length + 1 := by simp
  rw [← hl1] at ap1
  have tl := thawL_letters (h := hget [(2, .cells (cLt (wLet nv d id))), (3, .cells (lL (l ++ [wLet nv d id])))]) (i := 3) (n := (l ++ [wLet nv d id]).length) (r := r) (l := l ++ [wLet nv d id]) (d := d) rfl rfl
  refine ACode.cut 4 (fun _ : Unit => ⟨[(0, encRs r), (1, encLs l), (9, .bool true), (10, .int .i64 d), (11, .int .i64 id), (16, .imap (entsO H)), (18, .imap (entsO T)), (32, .imap (entsO N))], [], 0⟩) (fun _ => True)
    (.call (.tup [.int .i64 nv, .bool true]) <| .val 195 (.rsl 1 0 l.length 4) [(0, none), (1, some (.cells (lL l)))] <| .val 201 (.rsl 3 0 (l ++ [wLet nv d id]).length 4) [(1, none), (3, some (.cells (lL (l ++ [wLet nv d id]))))] <| .lent (.tup [encR N, .int .i64 0]) [3] <| .call (.tup [.imap (entsO N), .bool true]) .nil) hn hlo .ret rfl
    ⟨sN, Eq.trans (by kernel_rfl) ap0, Eq.trans (by kernel_rfl) ap1, ⟨_, Eq.trans (by kernel_rfl) tl, .inr sH2⟩, sSN, (), trivial, Wk.le (St.le.of ⟨by kernel_rfl, rfl, by kernel_rfl, rfl, by kernel_rfl, rfl, by kernel_rfl, rfl, by kernel_rfl, rfl, by kernel_rfl, rfl, by kernel_rfl, rfl, by kernel_rfl, rfl, trivial⟩ trivial) hlo⟩ fun _ _ => ?_
  refine ACode.cut 0 (fun _ : Unit => ⟨[(0, encRs r), (1, encLs l), (9, .bool true), (10, .int .i64 d), (11, .int .i64 id), (16, .imap (entsO H)), (18, .imap (entsO T))], [], 0⟩) (fun _ => True) .loop hn hlo .ret rfl ?_ fun _ _ => ?_
  · intro g2 hn2 hlo2
    replace hn2 : g2.n = 241 := hn2
    replace hlo2 : g2.low 0 := hlo2
    refine acode_whileW (fun k : Nat => ⟨[(0, encRs r), (1, encLs l), (9, .bool true), (10, .int .i64 d), (11, .int .i64 id), (16, .imap (entsO H)), (18, .imap (entsO T)), (32, .imap (entsO N)), (217, encRs r), (218, .int .i64 ((r.map cRc).length : Int)), (219, .int .i64 k)], [], 0⟩) (fun k => k ≤ r.length) (fun k => r.length - k) 0 (Nat.zero_le _) (Wk.le (St.le.of ⟨by kernel_rfl, rfl, by kernel_rfl, rfl, by kernel_rfl, rfl, by kernel_rfl, rfl, by kernel_rfl, rfl, by kernel_rfl, rfl, by kernel_rfl, rfl, by kernel_rfl, rfl, by kernel_rfl, rfl, by kernel_rfl, rfl, by kernel_rfl, rfl, trivial⟩ trivial) hlo2) ?_
    intro k hk
    replace hk : k ≤ r.length := hk
    by_cases hlt : k < r.length
    · refine Exists.elim (getE hlt) fun x hx => ?_
      have ek := congrArg (AV.int .i64) (succ64 (k := k) (by omega))
      have lkT := lookF (h := hget []) hf.t x.id
      have lkH := lookF (h := hget []) hf.h x.id
      have lkN := lookF (h := hget []) hf.n x.id
      rw [hf.x] at lkN
      refine (Bool.eq_false_or_eq_true (W x.id)).elim (fun hw => ?_) (fun hw => ?_)
      · rw [hw] at lkH lkN
        refine (Bool.eq_false_or_eq_true (F x.id)).elim (fun ht => ?_) (fun ht => ?_)
        · rw [ht] at lkT lkN
          exact ACode.vcM (.br 220 true <| .cells (cRc x) <| .val 226 (.bool false) [] <| .val 230 (.bool true) [] <| .val 235 (.bool true) [] .nil) hn2 hlo2 (.roundW .cl) ⟨ltLen hlt, idx hx, Eq.trans (by kernel_rfl) lkN, Eq.trans (by kernel_rfl) lkH, Eq.trans (by kernel_rfl) lkT, k + 1, hlt, mu1 hlt, Wk.le (St.le.of ⟨by kernel_rfl, rfl, by kernel_rfl, rfl, by kernel_rfl, rfl, by kernel_rfl, rfl, by kernel_rfl, rfl, by kernel_rfl, rfl, by kernel_rfl, rfl, by kernel_rfl, rfl, by kernel_rfl, rfl, by kernel_rfl, rfl, Eq.trans (by kernel_rfl) ek, rfl, trivial⟩ trivial) hlo2⟩
        · rw [ht] at lkT lkN
          exact ACode.vcM (.br 220 true <| .cells (cRc x) <| .val 226 (.bool true) [] <| .val 230 (.bool true) [] <| .val 235 (.bool false) [] .nil) hn2 hlo2 (.roundW .cl) ⟨ltLen hlt, idx hx, Eq.trans (by kernel_rfl) lkN, Eq.trans (by kernel_rfl) lkH, Eq.trans (by kernel_rfl) lkT, k + 1, hlt, mu1 hlt, Wk.le (St.le.of ⟨by kernel_rfl, rfl, by kernel_rfl, rfl, by kernel_rfl, rfl, by kernel_rfl, rfl, by kernel_rfl, rfl, by kernel_rfl, rfl, by kernel_rfl, rfl, by kernel_rfl, rfl, by kernel_rfl, rfl, by kernel_rfl, rfl, Eq.trans (by kernel_rfl) ek, rfl, trivial⟩ trivial) hlo2⟩
      · rw [hw] at lkH lkN
        exact ACode.vcM (.br 220 true <| .cells (cRc x) <| .val 226 (.bool false) [] <| .val 230 (.bool false) [] .nil) hn2 hlo2 (.roundW .cl) ⟨ltLen hlt, idx hx, Eq.trans (by kernel_rfl) lkN, Eq.trans (by kernel_rfl) lkH, k + 1, hlt, mu1 hlt, Wk.le (St.le.of ⟨by kernel_rfl, rfl, by kernel_rfl, rfl, by kernel_rfl, rfl, by kernel_rfl, rfl, by kernel_rfl, rfl, by kernel_rfl, rfl, by kernel_rfl, rfl, by kernel_rfl, rfl, by kernel_rfl, rfl, by kernel_rfl, rfl, Eq.trans (by kernel_rfl) ek, rfl, trivial⟩ trivial) hlo2⟩
    · exact ACode.vcM (.br 220 false .nil) hn2 hlo2 (.roundW .cl) ⟨geLen hlt, _, .refl _, .nil, (), trivial, Wk.le (St.le.of ⟨by kernel_rfl, rfl, by kernel_rfl, rfl, by kernel_rfl, rfl, by kernel_rfl, rfl, by kernel_rfl, rfl, by kernel_rfl, rfl, by kernel_rfl, rfl, trivial⟩ trivial) hlo⟩
  · exact ACode.vcM .nil hn hlo .ret ⟨trivial, rfl⟩
theorem law_takes (r : List Rcd) (l : List Ltr) (n : Nat) (which : Nat) (hn32 : n < 4294967296) (hw8 : which < 256) : APure Tryz.prog 3 [encRs r, encLs l, .int .u32 (n : Int), .int .u8 (which : Int)] (.bool true) := by
  have sA := alive_spec
  have sR := ready_spec r l
  cases h1 : readyB r l
  · rw [h1] at sR
    exact APure.vc Tryz.func3 rfl (.call (.bool true) <| .call (.bool false) .nil) rfl rfl ⟨sA, sR, trivial, rfl⟩
  rw [h1] at sR
  have hlen : ((r.map cRc).length : Int) = r.length := by rw [List.length_map]
  by_cases h0 : r.length = 0
  · have d46 : (((r.map cRc).length : Int) == 0) = true := by rw [hlen, h0]; rfl
    exact APure.vc Tryz.func3 rfl (.call (.bool true) <| .call (.bool true) <| .br 46 true .nil) rfl rfl ⟨sA, sR, d46, trivial, rfl⟩
  have d46 : (((r.map cRc).length : Int) == 0) = false := by rw [hlen]; exact beq_eq_false_iff_ne.2 (by omega)
  have hck : checkV r l = 0 := by
    unfold readyB at h1
    rw [Bool.and_eq_true] at h1
    exact of_decide_eq_true h1.2
  obtain ⟨hR, hL⟩ := check_0 hck
  have hr12 := (recs_nodup hR).2.2
  have hl20 := lets_len hL
  have hLd : ∀ x ∈ l, (0 ≤ x.day ∧ x.day ≤ 100000) ∧ (0 ≤ x.id ∧ x.id ≤ 9999) := fun x hx => by
    simp only [letsB, Bool.and_eq_true, List.all_eq_true] at hL
    have h2 := hL.2 x hx
    simp only [letB, Bool.and_eq_true, inB_iff] at h2
    exact ⟨h2.1.1, incF_lt hL.1.2 x.id (List.mem_map.2 ⟨x, hx, rfl⟩)⟩
  have sD := day_spec l n hn32 (by omega) fun x hx => (hLd x hx).1
  have hdr := dayV_rng l n
  generalize dayV l n = d at *
  have hml : which % r.length < r.length := Nat.mod_lt _ (by omega)
  refine Exists.elim (getE hml) fun x0 hx0 => ?_
  have hx0m := List.mem_of_getElem? hx0
  have v56 : some (⟨.int .i64 (IntKind.i64.wrap (which : Int)), []⟩ : Out) = some ⟨.int .i64 (which : Int), []⟩ := by rw [wrap64 (by omega) (by omega)]
  have ix : 0 ≤ (which : Int).tmod ((r.map cRc).length : Int) ∧ (r.map cRc)[((which : Int).tmod ((r.map cRc).length : Int)).toNat]? = some (cRc x0) := by
    rw [show (which : Int).tmod ((r.map cRc).length : Int) = ((which % r.length : Nat) : Int) from by rw [hlen]; rfl]
    exact idx hx0
  have hne : ((r.map cRc).length : Int) ≠ 0 := by rw [hlen]; omega
  have hday : dayE r l d = 0 := by unfold dayE; rw [if_pos hck, if_pos (inB_iff.2 hdr)]
  have hidm : (idsR r).contains x0.id = true := List.contains_iff_mem.2 (List.mem_map.2 ⟨x0, hx0m, rfl⟩)
  have hwith : withE r l d x0.id = 0 := by unfold withE; rw [if_pos hday, if_pos hidm]
  have sH := Holds_ok r l d
  have sT := Takes_ok r l d x0.id
  rw [hday] at sH
  rw [hwith] at sT
  have sSH := set_spec (holdsV r l d) (holds_sorted hR l d) (by have := filt_len (r := r) (fun i => (heldV (goneV l d) [] r).contains i); unfold holdsV; omega)
  have sST := set_spec (takesD r l d x0.id) (takes_sorted hR l d x0.id) (by have := filt_len (r := r) (fun i => (heldV (goneV l d) [] r).contains i && !(heldV (withG (goneV l d) x0.id) [] r).contains i); unfold takesD takesV; omega)
  have sN := next_spec l (by omega) fun x hx => (hLd x hx).2
  -- one letter more
  have hx0r := incF_lt (show incF 0 (idsR r) = true by simp only [recsB, Bool.and_eq_true] at hR; exact hR.1.2) x0.id (List.mem_map.2 ⟨x0, hx0m, rfl⟩)
  have hTk : TkF r x0.id (holdsV r l d) (takesD r l d x0.id) (holdsV r (l ++ [wLet (nextV l) d x0.id]) d) (heldW r l d) (fun i => (takesD0 r l d x0.id).contains i) (heldX r l d x0.id) :=
    ⟨fun i => holds_has r l d i, fun i => rfl, fun i => by rw [holds_has, heldW_w], fun i => by
      rw [tk_has]
      cases hw : heldW r l d i
      · cases hx : heldX r l d x0.id i
        · rfl
        · rw [heldX_le r l d x0.id i hx] at hw; cases hw
      · cases heldX r l d x0.id i <;> rfl, tk_self r l d x0.id, tk_none r l d x0.id, fun i h => tk_held r l d x0.id i h, fun x hx hne h w hw ha => tk_hung hR l d x0.id hx hne h hw ha⟩
  have hnx : nextB l = true → checkV r (l ++ [wLet (nextV l) d x0.id]) = 0 := fun h => by
    have hlt : nextV l ≤ 9999 ∧ l.length < 20 := by
      unfold nextB at h
      unfold nextV
      cases hg : l.getLast? with
      | none =>
        rw [List.getLast?_eq_none_iff] at hg
        subst hg
        exact ⟨by decide, by decide⟩
      | some z =>
        rw [hg] at h
        simp only [Bool.and_eq_true, decide_eq_true_eq] at h
        show z.id + 1 ≤ 9999 ∧ l.length < 20
        omega
    have h2 := lets_snoc hL (wLet (nextV l) d x0.id) rfl hlt.1 hlt.2 (by
      unfold letB
      rw [show (idsR r).contains (wLet (nextV l) d x0.id).about = true from hidm, show inB 0 100000 (wLet (nextV l) d x0.id).day = true from inB_iff.2 hdr]; rfl)
    unfold checkV
    rw [if_neg (by rw [hR]; decide), if_neg (by rw [h2]; decide)]
  have sH2 := Holds_ok r (l ++ [wLet (nextV l) d x0.id]) d
  have sSN := set_spec (holdsV r (l ++ [wLet (nextV l) d x0.id]) d) (holds_sorted hR _ d) (by have := filt_len (r := r) (fun i => (heldV (goneV (l ++ [wLet (nextV l) d x0.id]) d) [] r).contains i); unfold holdsV; omega)
  have hWR := WR_of hR
  clear sA sR
  have sA := alive_spec
  have sR := ready_spec r l
  rw [h1] at sR
  exact takes_core r l n which d x0 _ _ _ _ _ _ hTk hr12 hl20 hWR sA sR d46 sD v56 ix hne sH sT sSH sST sSN (nextV l) (nextB l) sN fun h => by
    have e : dayE r (l ++ [wLet (nextV l) d x0.id]) d = 0 := by unfold dayE; rw [if_pos (hnx h), if_pos (inB_iff.2 hdr)]
    rw [e] at sH2; exact sH2
end Go.Proofs.YtepbiedolkghhaaGreat

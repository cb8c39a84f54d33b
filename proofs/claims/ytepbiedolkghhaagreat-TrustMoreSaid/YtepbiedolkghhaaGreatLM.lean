/-
  THE LAW OF ONE LETTER MORE.
-/
import Derived.Test.YtepbiedolkghhaaGreatL1
import Derived.Test.YtepbiedolkghhaaGreatG3
namespace Go.Proofs.YtepbiedolkghhaaGreat
open Go Go.Am
set_option maxRecDepth 100000
set_option maxHeartbeats 8000000
theorem next_any (l : List Ltr) (hl : l.length ≤ 9223372036854775807) : ∃ (v : Int) (b : Bool), APure Tryz.prog 15 [encLs l] (.tup [.int .i64 v, .bool b]) := by
  have hlen : ((l.map cLt).length : Int) = l.length := by rw [List.length_map]
  by_cases h0 : l.length = 0
  · have e : l = [] := List.eq_nil_of_length_eq_zero h0
    subst e
    exact ⟨0, true, APure.vcM Tryz.func15 (.br 6 true .nil) rfl rfl ⟨rfl, [], by kernel_rfl⟩⟩
  · have d6 : (((l.map cLt).length : Int) == 0) = false := by rw [hlen]; exact beq_eq_false_iff_ne.2 (by omega)
    obtain ⟨x, hx⟩ := getE (show l.length - 1 < l.length by omega)
    have ej : IntKind.i64.wrap (((l.map cLt).length : Int) - 1) = ((l.length - 1 : Nat) : Int) := by rw [hlen, wrap64 (by omega) (by omega)]; omega
    cases d22 : decide (x.id < 9999)
    · exact ⟨IntKind.i64.wrap (x.id + 1), false, APure.vcM Tryz.func15 (.br 6 false <| .draw 22 <| .cells (cLt x) <| .cells (cLt x) <| .br 23 false .nil) rfl rfl ⟨d6, by kernel_rfl, mixed, by kernel_rfl, idxW ej hx, idxW ej hx, d22, by kernel_rfl, [], by kernel_rfl⟩⟩
    · exact ⟨IntKind.i64.wrap (x.id + 1), decide (((l.map cLt).length : Int) < 20), APure.vcM Tryz.func15 (.br 6 false <| .draw 22 <| .cells (cLt x) <| .cells (cLt x) <| .br 23 true .nil) rfl rfl ⟨d6, by kernel_rfl, mixed, by kernel_rfl, idxW ej hx, idxW ej hx, d22, by kernel_rfl, [], by kernel_rfl⟩⟩
/-- Letters of one's own, copied. -/
theorem appL2 {h : Nat → Option AObj} {i j nid : Nat} {l : List Ltr} (h0 : h i = some (.cells [])) (h1 : h j = some (.cells (lL l))) (hn : l.length ≤ 1000) :
    aAppend Tryz.prog h nid 23 23 (.rsl i 0 0 4) (.rsl j 0 l.length 4) = some ⟨.rsl nid 0 l.length 4, [(i, none), (nid, some (.cells (lL l)))]⟩ := by
  have hs : srcCells h 4 (.rsl j 0 l.length 4) = some (lL l, l.length) := by
    simp only [srcCells, h1]
    rw [if_pos ⟨trivial, by rw [lL_len]; omega⟩, List.drop_zero, ← lL_len, List.take_length]
  unfold aAppend
  simp only [h0]
  rw [if_neg (by decide)]
  simp only [aAppend0, ty23, ty42, hs, h0]
  rw [if_pos ⟨by decide, by decide, rfl⟩]
  rw [if_pos ⟨trivial, rfl, fl_cellB (fun _ => rfl) _, by omega⟩, Nat.zero_add, List.nil_append]
/-- What the law asks of the lists that are told. -/
structure MoF (id : Int) (H T N : List Int) (W X Z : Int → Bool) (gk : Bool) : Prop where
  h : ∀ i, H.contains i = W i
  t : ∀ i, T.contains i = X i
  n : ∀ i, N.contains i = Z i
  self : X id = false
  less : ∀ i, X i = true → W i = true
  back : ∀ i, W i = true → Z i = true
  again : gk = false → ∀ i, Z i = W i
theorem lookF2 {h : Nat → Option AObj} {L : List Int} {W : Int → Bool} (hL : ∀ i, L.contains i = W i) (x : Int) : (aLookup Tryz.prog h 36 (.imap (entsO L)) (.int .i64 x) false).map (fun v => (⟨v, []⟩ : Out)) = some ⟨.bool (W x), []⟩ := by rw [lookD, hL]
theorem more_core (r : List Rcd) (l : List Ltr) (n which : Nat) (d : Int) (x0 : Rcd) (H T N : List Int) (W X Z : Int → Bool) (gk : Bool) (gs : List Bool) (hf : MoF x0.id H T N W X Z gk) (hr12 : r.length ≤ 12) (hl20 : l.length ≤ 18)
    (sA : APure Tryz.prog 9 [] (.bool true)) (sR : APure Tryz.prog 10 [encRs r, encLs l] (.bool true)) (d46 : (((r.map cRc).length : Int) == 0) = false)
    (nv : Int) (hnv : 0 ≤ nv ∧ nv ≤ 9998) (sN : APure Tryz.prog 15 [encLs l] (.tup [.int .i64 nv, .bool true]))
    (sD : APure Tryz.prog 11 [encLs l, .int .u32 (n : Int)] (.int .i64 d))
    (v56 : some (⟨.int .i64 (IntKind.i64.wrap (which : Int)), []⟩ : Out) = some ⟨.int .i64 (which : Int), []⟩)
    (m : Nat) (hm : (which : Int).tmod ((r.map cRc).length : Int) = (m : Int)) (hx0 : r[m]? = some x0) (hgk : gs[m]? = some gk)
    (hne : ((r.map cRc).length : Int) ≠ 0)
    (sH : APureF Tryz.prog 12 [encRs r, encLs l, .int .i64 d] (.tup [encR H, .int .i64 0]))
    (sT : APureF Tryz.prog 12 [encRs r, encLs (l ++ [wLet nv d x0.id]), .int .i64 d] (.tup [encR T, .int .i64 0]))
    (sZ : APureF Tryz.prog 12 [encRs r, encLs ((l ++ [wLet nv d x0.id]) ++ [rLet (nv + 1) d x0.id]), .int .i64 d] (.tup [encR N, .int .i64 0]))
    (sSH : APure Tryz.prog 14 [encR H] (.tup [.imap (entsO H), .bool true]))
    (sST : APure Tryz.prog 14 [encR T] (.tup [.imap (entsO T), .bool true]))
    (sSN : APure Tryz.prog 14 [encR N] (.tup [.imap (entsO N), .bool true]))
    (sG : APureF Tryz.prog 16 [encRs r, encLs l, .int .i64 d] (encBs gs)) :
    APure Tryz.prog 4 [encRs r, encLs l, .int .u32 (n : Int), .int .u8 (which : Int)] (.bool true) := by
  refine APure.intro Tryz.func4 rfl rfl rfl fun g hn hlo => ?_
  replace hn : g.n = 215 := hn
  replace hlo : g.low 0 := hlo
  have hll : ((l.map cLt).length : Int) = l.length := by rw [List.length_map]
  have d55 : decide (nv ≥ 9999) = false := decide_eq_false (by omega)
  have d61 : decide (IntKind.i64.wrap (((l.map cLt).length : Int) + 2) > 20) = false := by rw [hll, wrap64 (by omega) (by omega)]; exact decide_eq_false (by omega)
  have v92 : some (⟨.int .i64 (IntKind.i64.wrap (nv + 1)), []⟩ : Out) = some ⟨.int .i64 (nv + 1), []⟩ := by rw [wrap64 (by omega) (by omega)]
  have ix0 : 0 ≤ (which : Int).tmod ((r.map cRc).length : Int) ∧ (r.map cRc)[((which : Int).tmod ((r.map cRc).length : Int)).toNat]? = some (cRc x0) := by rw [hm]; exact idx hx0
  obtain ⟨id, hid⟩ : ∃ id, id = x0.id := ⟨_, rfl⟩
  rw [← hid] at sT sZ
  have hself := hf.self
  rw [← hid] at hself
  have lk159 := lookF2 (h := hget []) hf.t id
  rw [hself] at lk159
  have c0 : AV.int .i64 x0.id = .int .i64 id := by rw [hid]
  have vid : some (⟨.int .i64 x0.id, []⟩ : Out) = some ⟨.int .i64 id, []⟩ := by rw [hid]
  have hl1 : (l ++ [wLet nv d id]).length = l.length + 1 := by simp
  have hl2 : ((l ++ [wLet nv d id]) ++ [rLet (nv + 1) d id]).length = (l ++ [wLet nv d id]).length + 1 := by simp
  have ap0 := appL0 (h := hget [(10, .cells [])]) (i := 10) (nid := 11) (l := l) rfl (by omega)
  have ap1 := appL1 (h := hget [(11, .cells (lL l)), (12, .cells (cLt (wLet nv d id)))]) (i := 11) (j := 12) (nid := 13) (l := l) (x := wLet nv d id) rfl rfl (by omega)
  rw [← hl1] at ap1
  have ap2 := appL2 (h := hget [(13, .cells (lL (l ++ [wLet nv d id]))), (14, .cells [])]) (i := 14) (j := 13) (nid := 15) (l := l ++ [wLet nv d id]) rfl rfl (by omega)
  have ap3 := appL1 (h := hget [(15, .cells (lL (l ++ [wLet nv d id]))), (16, .cells (cLt (rLet (nv + 1) d id)))]) (i := 15) (j := 16) (nid := 17) (l := l ++ [wLet nv d id]) (x := rLet (nv + 1) d id) rfl rfl (by omega)
  rw [← hl2] at ap3
  generalize hL1 : l ++ [wLet nv d id] = l1 at *
  generalize hL2 : l1 ++ [rLet (nv + 1) d id] = l2 at *
  have tl1 := thawL_letters (h := hget [(12, .cells (cLt (wLet nv d id))), (13, .cells (lL l1)), (16, .cells (cLt (rLet (nv + 1) d id))), (17, .cells (lL l2))]) (i := 13) (n := l1.length) (r := r) (l := l1) (d := d) rfl rfl
  have tl2 := thawL_letters (h := hget [(12, .cells (cLt (wLet nv d id))), (13, .cells (lL l1)), (16, .cells (cLt (rLet (nv + 1) d id))), (17, .cells (lL l2))]) (i := 17) (n := l2.length) (r := r) (l := l2) (d := d) rfl rfl
  have ix29 : 0 ≤ (which : Int).tmod ((r.map cRc).length : Int) ∧ (gs.map encBo)[((which : Int).tmod ((r.map cRc).length : Int)).toNat]? = some (encBo gk) := by rw [hm]; exact idx hgk
  refine ACode.cut 15 (fun _ : Unit => ⟨[(0, encRs r), (1, encLs l), (9, .bool true), (23, .imap (entsO H)), (25, .imap (entsO T)), (27, .imap (entsO N)), (29, .bool gk)], [], 0⟩) (fun _ => True)
    (.call (.bool true) <| .call (.tup [.int .i64 nv, .bool true]) <| .call (.bool true) <| .br 47 false <| .br 55 false <| .br 61 false <| .draw 9 <| .call (.int .i64 d) <| .val 70 (.int .i64 (which : Int)) [] <| .nz <| .cells (cRc x0) <| .val 78 (.int .i64 id) [] <| .val 81 (.rsl 11 0 l.length 4) [(10, none), (11, some (.cells (lL l)))] <| .val 87 (.rsl 13 0 l1.length 4) [(11, none), (13, some (.cells (lL l1)))] <| .val 90 (.rsl 15 0 l1.length 4) [(14, none), (15, some (.cells (lL l1)))] <| .val 92 (.int .i64 (nv + 1)) [] <| .val 97 (.rsl 17 0 l2.length 4) [(15, none), (17, some (.cells (lL l2)))] <| .lent (.tup [encR H, .int .i64 0]) [] <| .lent (.tup [encR T, .int .i64 0]) [13] <| .lent (.tup [encR N, .int .i64 0]) [17] <| .call (.tup [.imap (entsO H), .bool true]) <| .call (.tup [.imap (entsO T), .bool true]) <| .call (.tup [.imap (entsO N), .bool true]) <| .val 159 (.bool false) [] <| .lent (encBs gs) [] <| .cells (encBo gk) .nil) hn hlo .ret rfl
    ⟨sA, sN, sR, d46, d55, d61, by kernel_rfl, mixed, by kernel_rfl, sD, Eq.trans (by kernel_rfl) v56, hne, by kernel_rfl, ix0, Eq.trans (by kernel_rfl) vid, Eq.trans (by kernel_rfl) ap0, Eq.trans (by kernel_rfl) ap1, Eq.trans (by kernel_rfl) ap2, Eq.trans (by kernel_rfl) v92, Eq.trans (by kernel_rfl) ap3, ⟨_, by kernel_rfl, .inr sH⟩, ⟨_, Eq.trans (by kernel_rfl) tl1, .inr sT⟩, ⟨_, Eq.trans (by kernel_rfl) tl2, .inr sZ⟩, sSH, sST, sSN, Eq.trans (by kernel_rfl) lk159, ⟨_, by kernel_rfl, .inr sG⟩, ix29, (), trivial, Wk.le (St.le.of ⟨by kernel_rfl, rfl, by kernel_rfl, rfl, by kernel_rfl, rfl, by kernel_rfl, rfl, by kernel_rfl, rfl, by kernel_rfl, rfl, by kernel_rfl, rfl, trivial⟩ trivial) hlo⟩ fun _ _ => ?_
  clear lk159 sA sR sD sH sT sZ sSH sST sSN sG ap0 ap1 ap2 ap3 tl1 tl2
  refine ACode.cut 0 (fun _ : Unit => ⟨[(0, encRs r), (1, encLs l), (9, .bool true), (23, .imap (entsO H)), (25, .imap (entsO T)), (27, .imap (entsO N)), (29, .bool gk)], [], 0⟩) (fun _ => True) .loop hn hlo .ret rfl ?_ fun _ _ => ?_
  · intro g2 hn2 hlo2
    replace hn2 : g2.n = 215 := hn2
    replace hlo2 : g2.low 0 := hlo2
    refine acode_whileW (fun k : Nat => ⟨[(0, encRs r), (1, encLs l), (9, .bool true), (23, .imap (entsO H)), (25, .imap (entsO T)), (27, .imap (entsO N)), (29, .bool gk), (168, encRs r), (169, .int .i64 ((r.map cRc).length : Int)), (170, .int .i64 k)], [], 0⟩) (fun k => k ≤ r.length) (fun k => r.length - k) 0 (Nat.zero_le _) (Wk.le (St.le.of ⟨by kernel_rfl, rfl, by kernel_rfl, rfl, by kernel_rfl, rfl, by kernel_rfl, rfl, by kernel_rfl, rfl, by kernel_rfl, rfl, by kernel_rfl, rfl, by kernel_rfl, rfl, by kernel_rfl, rfl, by kernel_rfl, rfl, trivial⟩ trivial) hlo2) ?_
    intro k hk
    replace hk : k ≤ r.length := hk
    by_cases hlt : k < r.length
    · refine Exists.elim (getE hlt) fun x hx => ?_
      have ek := congrArg (AV.int .i64) (succ64 (k := k) (by omega))
      have lkH := lookF2 (h := hget []) hf.h x.id
      have lkT := lookF2 (h := hget []) hf.t x.id
      have lkN := lookF2 (h := hget []) hf.n x.id
      have hless := hf.less x.id
      have hback := hf.back x.id
      have hagain := fun h => hf.again h x.id
      generalize W x.id = w at *
      generalize X x.id = xx at *
      generalize Z x.id = z at *
      cases xx <;> cases w <;> cases z <;> cases gk
      · exact ACode.vcM (.br 171 true <| .cells (cRc x) <| .val 177 (.bool false) [] <| .val 189 (.bool false) [] <| .val 205 (.bool false) [] <| .val 209 (.bool false) [] .nil) hn2 hlo2 (.roundW .cl) ⟨ltLen hlt, idx hx, Eq.trans (by kernel_rfl) lkT, Eq.trans (by kernel_rfl) lkH, Eq.trans (by kernel_rfl) lkH, Eq.trans (by kernel_rfl) lkN, k + 1, hlt, mu1 hlt, Wk.le (St.le.of ⟨by kernel_rfl, rfl, by kernel_rfl, rfl, by kernel_rfl, rfl, by kernel_rfl, rfl, by kernel_rfl, rfl, by kernel_rfl, rfl, by kernel_rfl, rfl, by kernel_rfl, rfl, by kernel_rfl, rfl, Eq.trans (by kernel_rfl) ek, rfl, trivial⟩ trivial) hlo2⟩
      · exact ACode.vcM (.br 171 true <| .cells (cRc x) <| .val 177 (.bool false) [] <| .val 189 (.bool false) [] .nil) hn2 hlo2 (.roundW .cl) ⟨ltLen hlt, idx hx, Eq.trans (by kernel_rfl) lkT, Eq.trans (by kernel_rfl) lkH, k + 1, hlt, mu1 hlt, Wk.le (St.le.of ⟨by kernel_rfl, rfl, by kernel_rfl, rfl, by kernel_rfl, rfl, by kernel_rfl, rfl, by kernel_rfl, rfl, by kernel_rfl, rfl, by kernel_rfl, rfl, by kernel_rfl, rfl, by kernel_rfl, rfl, Eq.trans (by kernel_rfl) ek, rfl, trivial⟩ trivial) hlo2⟩
      · exact absurd (hagain rfl) (by decide)
      · exact ACode.vcM (.br 171 true <| .cells (cRc x) <| .val 177 (.bool false) [] <| .val 189 (.bool false) [] .nil) hn2 hlo2 (.roundW .cl) ⟨ltLen hlt, idx hx, Eq.trans (by kernel_rfl) lkT, Eq.trans (by kernel_rfl) lkH, k + 1, hlt, mu1 hlt, Wk.le (St.le.of ⟨by kernel_rfl, rfl, by kernel_rfl, rfl, by kernel_rfl, rfl, by kernel_rfl, rfl, by kernel_rfl, rfl, by kernel_rfl, rfl, by kernel_rfl, rfl, by kernel_rfl, rfl, by kernel_rfl, rfl, Eq.trans (by kernel_rfl) ek, rfl, trivial⟩ trivial) hlo2⟩
      · exact absurd (hback rfl) (by decide)
      · exact absurd (hback rfl) (by decide)
      · exact ACode.vcM (.br 171 true <| .cells (cRc x) <| .val 177 (.bool false) [] <| .val 189 (.bool true) [] <| .val 194 (.bool true) [] <| .val 205 (.bool true) [] <| .val 209 (.bool true) [] .nil) hn2 hlo2 (.roundW .cl) ⟨ltLen hlt, idx hx, Eq.trans (by kernel_rfl) lkT, Eq.trans (by kernel_rfl) lkH, Eq.trans (by kernel_rfl) lkN, Eq.trans (by kernel_rfl) lkH, Eq.trans (by kernel_rfl) lkN, k + 1, hlt, mu1 hlt, Wk.le (St.le.of ⟨by kernel_rfl, rfl, by kernel_rfl, rfl, by kernel_rfl, rfl, by kernel_rfl, rfl, by kernel_rfl, rfl, by kernel_rfl, rfl, by kernel_rfl, rfl, by kernel_rfl, rfl, by kernel_rfl, rfl, Eq.trans (by kernel_rfl) ek, rfl, trivial⟩ trivial) hlo2⟩
      · exact ACode.vcM (.br 171 true <| .cells (cRc x) <| .val 177 (.bool false) [] <| .val 189 (.bool true) [] <| .val 194 (.bool true) [] .nil) hn2 hlo2 (.roundW .cl) ⟨ltLen hlt, idx hx, Eq.trans (by kernel_rfl) lkT, Eq.trans (by kernel_rfl) lkH, Eq.trans (by kernel_rfl) lkN, k + 1, hlt, mu1 hlt, Wk.le (St.le.of ⟨by kernel_rfl, rfl, by kernel_rfl, rfl, by kernel_rfl, rfl, by kernel_rfl, rfl, by kernel_rfl, rfl, by kernel_rfl, rfl, by kernel_rfl, rfl, by kernel_rfl, rfl, by kernel_rfl, rfl, Eq.trans (by kernel_rfl) ek, rfl, trivial⟩ trivial) hlo2⟩
      · exact absurd (hless rfl) (by decide)
      · exact absurd (hless rfl) (by decide)
      · exact absurd (hless rfl) (by decide)
      · exact absurd (hless rfl) (by decide)
      · exact absurd (hback rfl) (by decide)
      · exact absurd (hback rfl) (by decide)
      · exact ACode.vcM (.br 171 true <| .cells (cRc x) <| .val 177 (.bool true) [] <| .val 182 (.bool true) [] <| .val 189 (.bool true) [] <| .val 194 (.bool true) [] <| .val 205 (.bool true) [] <| .val 209 (.bool true) [] .nil) hn2 hlo2 (.roundW .cl) ⟨ltLen hlt, idx hx, Eq.trans (by kernel_rfl) lkT, Eq.trans (by kernel_rfl) lkH, Eq.trans (by kernel_rfl) lkH, Eq.trans (by kernel_rfl) lkN, Eq.trans (by kernel_rfl) lkH, Eq.trans (by kernel_rfl) lkN, k + 1, hlt, mu1 hlt, Wk.le (St.le.of ⟨by kernel_rfl, rfl, by kernel_rfl, rfl, by kernel_rfl, rfl, by kernel_rfl, rfl, by kernel_rfl, rfl, by kernel_rfl, rfl, by kernel_rfl, rfl, by kernel_rfl, rfl, by kernel_rfl, rfl, Eq.trans (by kernel_rfl) ek, rfl, trivial⟩ trivial) hlo2⟩
      · exact ACode.vcM (.br 171 true <| .cells (cRc x) <| .val 177 (.bool true) [] <| .val 182 (.bool true) [] <| .val 189 (.bool true) [] <| .val 194 (.bool true) [] .nil) hn2 hlo2 (.roundW .cl) ⟨ltLen hlt, idx hx, Eq.trans (by kernel_rfl) lkT, Eq.trans (by kernel_rfl) lkH, Eq.trans (by kernel_rfl) lkH, Eq.trans (by kernel_rfl) lkN, k + 1, hlt, mu1 hlt, Wk.le (St.le.of ⟨by kernel_rfl, rfl, by kernel_rfl, rfl, by kernel_rfl, rfl, by kernel_rfl, rfl, by kernel_rfl, rfl, by kernel_rfl, rfl, by kernel_rfl, rfl, by kernel_rfl, rfl, by kernel_rfl, rfl, Eq.trans (by kernel_rfl) ek, rfl, trivial⟩ trivial) hlo2⟩
    · exact ACode.vcM (.br 171 false .nil) hn2 hlo2 (.roundW .cl) ⟨geLen hlt, _, .refl _, .nil, (), trivial, Wk.le (St.le.of ⟨by kernel_rfl, rfl, by kernel_rfl, rfl, by kernel_rfl, rfl, by kernel_rfl, rfl, by kernel_rfl, rfl, by kernel_rfl, rfl, by kernel_rfl, rfl, trivial⟩ trivial) hlo⟩
  · exact ACode.vcM .nil hn hlo .ret ⟨trivial, rfl⟩
theorem law_more (r : List Rcd) (l : List Ltr) (n : Nat) (which : Nat) (hn32 : n < 4294967296) (hw8 : which < 256) (hlm : l.length ≤ 9223372036854775807) : APure Tryz.prog 4 [encRs r, encLs l, .int .u32 (n : Int), .int .u8 (which : Int)] (.bool true) := by
  have sA := alive_spec
  have sR := ready_spec r l
  obtain ⟨v, b, sX⟩ := next_any l hlm
  cases h1 : readyB r l
  · rw [h1] at sR
    exact APure.vc Tryz.func4 rfl (.call (.bool true) <| .call (.tup [.int .i64 v, .bool b]) <| .call (.bool false) .nil) rfl rfl ⟨sA, sX, sR, trivial, rfl⟩
  rw [h1] at sR
  have hlen : ((r.map cRc).length : Int) = r.length := by rw [List.length_map]
  by_cases h0 : r.length = 0
  · have d46 : (((r.map cRc).length : Int) == 0) = true := by rw [hlen, h0]; rfl
    exact APure.vc Tryz.func4 rfl (.call (.bool true) <| .call (.tup [.int .i64 v, .bool b]) <| .call (.bool true) <| .br 47 true .nil) rfl rfl ⟨sA, sX, sR, d46, trivial, rfl⟩
  have d46 : (((r.map cRc).length : Int) == 0) = false := by rw [hlen]; exact beq_eq_false_iff_ne.2 (by omega)
  clear sX
  have hck : checkV r l = 0 := by
    unfold readyB at h1
    rw [Bool.and_eq_true] at h1
    exact of_decide_eq_true h1.2
  obtain ⟨hR, hL⟩ := check_0 hck
  have hr12 := (recs_nodup hR).2.2
  have hl20 := lets_len hL
  have hll : ((l.map cLt).length : Int) = l.length := by rw [List.length_map]
  have hLd : ∀ x ∈ l, (0 ≤ x.day ∧ x.day ≤ 100000) ∧ (0 ≤ x.id ∧ x.id ≤ 9999) := fun x hx => by
    simp only [letsB, Bool.and_eq_true, List.all_eq_true] at hL
    have h2 := hL.2 x hx
    simp only [letB, Bool.and_eq_true, inB_iff] at h2
    exact ⟨h2.1.1, incF_lt hL.1.2 x.id (List.mem_map.2 ⟨x, hx, rfl⟩)⟩
  have sN := next_spec l (by omega) fun x hx => (hLd x hx).2
  cases hb : nextB l
  · rw [hb] at sN
    exact APure.vc Tryz.func4 rfl (.call (.bool true) <| .call (.tup [.int .i64 (nextV l), .bool false]) <| .call (.bool true) <| .br 47 false .nil) rfl rfl ⟨sA, sN, sR, d46, trivial, rfl⟩
  rw [hb] at sN
  have hnv0 : 0 ≤ nextV l := by
    unfold nextV
    cases hg : l.getLast? with
    | none => exact Int.le_refl 0
    | some z =>
      have := (hLd z (List.mem_of_getLast? hg)).2
      show 0 ≤ z.id + 1
      omega
  cases hg9 : decide (nextV l ≥ 9999)
  case true => exact APure.vc Tryz.func4 rfl (.call (.bool true) <| .call (.tup [.int .i64 (nextV l), .bool true]) <| .call (.bool true) <| .br 47 false <| .br 55 true .nil) rfl rfl ⟨sA, sN, sR, d46, hg9, trivial, rfl⟩
  have hv9 : nextV l ≤ 9998 := by have := of_decide_eq_false hg9; omega
  by_cases h18 : l.length ≤ 18
  case neg =>
    have d61 : decide (IntKind.i64.wrap (((l.map cLt).length : Int) + 2) > 20) = true := by rw [hll, wrap64 (by omega) (by omega)]; exact decide_eq_true (by omega)
    exact APure.vc Tryz.func4 rfl (.call (.bool true) <| .call (.tup [.int .i64 (nextV l), .bool true]) <| .call (.bool true) <| .br 47 false <| .br 55 false <| .br 61 true .nil) rfl rfl ⟨sA, sN, sR, d46, hg9, d61, trivial, rfl⟩
  have sD := day_spec l n hn32 (by omega) fun x hx => (hLd x hx).1
  have hdr := dayV_rng l n
  generalize dayV l n = d at *
  have hml : which % r.length < r.length := Nat.mod_lt _ (by omega)
  refine Exists.elim (getE hml) fun x0 hx0 => ?_
  have hx0m := List.mem_of_getElem? hx0
  have v56 : some (⟨.int .i64 (IntKind.i64.wrap (which : Int)), []⟩ : Out) = some ⟨.int .i64 (which : Int), []⟩ := by rw [wrap64 (by omega) (by omega)]
  have hm : (which : Int).tmod ((r.map cRc).length : Int) = ((which % r.length : Nat) : Int) := by rw [hlen]; rfl
  have hne : ((r.map cRc).length : Int) ≠ 0 := by rw [hlen]; omega
  have hidm : (idsR r).contains x0.id = true := List.contains_iff_mem.2 (List.mem_map.2 ⟨x0, hx0m, rfl⟩)
  have hday : ∀ l', checkV r l' = 0 → dayE r l' d = 0 := fun l' h => by unfold dayE; rw [if_pos h, if_pos (inB_iff.2 hdr)]
  have hleB : ∀ (i : Int) (k : Fin 256), inB 1 2 k.val = true → letB r ⟨i, d, x0.id, k⟩ = true := fun i k hk => by
    unfold letB
    rw [show inB 0 100000 d = true from inB_iff.2 hdr, hk, hidm]; rfl
  have hL1 := lets_snoc hL (wLet (nextV l) d x0.id) rfl (show nextV l ≤ 9999 by omega) (by omega) (hleB _ 1 rfl)
  have hn1 : nextV (l ++ [wLet (nextV l) d x0.id]) = nextV l + 1 := by
    rw [show nextV (l ++ [wLet (nextV l) d x0.id]) = (match (l ++ [wLet (nextV l) d x0.id]).getLast? with | none => 0 | some x => x.id + 1) from rfl, List.getLast?_concat]; rfl
  have hL2 := lets_snoc hL1 (rLet (nextV l + 1) d x0.id) hn1.symm (show nextV l + 1 ≤ 9999 by omega) (by rw [List.length_append]; simp; omega) (hleB _ 2 rfl)
  have hck' : ∀ l', letsB r l' = true → checkV r l' = 0 := fun l' h => by unfold checkV; rw [if_neg (by rw [hR]; decide), if_neg (by rw [h]; decide)]
  have sH := Holds_ok r l d
  have sT := Holds_ok r (l ++ [wLet (nextV l) d x0.id]) d
  have sZ := Holds_ok r ((l ++ [wLet (nextV l) d x0.id]) ++ [rLet (nextV l + 1) d x0.id]) d
  rw [hday _ hck] at sH
  rw [hday _ (hck' _ hL1)] at sT
  rw [hday _ (hck' _ hL2)] at sZ
  have hHl : ∀ l', (holdsV r l' d).length ≤ 1000 := fun l' => by have := filt_len (r := r) (fun i => (heldV (goneV l' d) [] r).contains i); unfold holdsV; omega
  have sG := rGone_spec r l d (by omega) (by omega)
  have hgk : (goneBs r l d)[which % r.length]? = some (goneV l d x0.id) := by unfold goneBs; rw [List.getElem?_map, hx0]; rfl
  exact more_core r l n which d x0 _ _ _ (heldW r l d) (heldX r l d x0.id) (heldW r ((l ++ [wLet (nextV l) d x0.id]) ++ [rLet (nextV l + 1) d x0.id]) d) (goneV l d x0.id) (goneBs r l d)
    ⟨fun i => holds_has r l d i, fun i => by rw [holds_has, heldW_w], fun i => holds_has r _ d i, heldX_self r l d x0.id, fun i h => heldX_le r l d x0.id i h, fun i h => heldW_back l _ _ d x0.id i h, fun h i => heldW_again l _ _ d x0.id h i⟩
    hr12 h18 sA sR d46 (nextV l) ⟨hnv0, hv9⟩ sN sD v56 (which % r.length) hm hx0 hgk hne sH sT sZ (set_spec _ (holds_sorted hR _ d) (hHl _)) (set_spec _ (holds_sorted hR _ d) (hHl _)) (set_spec _ (holds_sorted hR _ d) (hHl _)) sG
end Go.Proofs.YtepbiedolkghhaaGreat

import Derived.Test.YtoeankkhjpijlaaGreatDoorLZ
import Derived.Test.YtoeankkhjpijlaaGreatDoorAm28
/-
  SCENES OF ONE's OWN, WRITTEN NO MORE; and the law of scenes without marks.
-/
namespace Go.Proofs.YtoeankkhjpijlaaGreatDoor
open Go Go.Am
set_option maxRecDepth 100000
set_option maxHeartbeats 4000000
theorem VRel.agg4Nil {κ : Nat → Option Nat} {av : Nat → Prop} {w : World} {a b c : AV} {n : Nat} {v : Value} (h : VRel κ av w (.agg [a, b, c, .nil]) v) : VRel κ av w (.agg [a, b, c, .lst n []]) v := by
  cases h with
  | agg cells vs u hl h1 h2 =>
    refine .agg _ vs u hl ?_ ?_
    · intro i x hx
      rcases i with _ | _ | _ | _ | i
      · exact h1 0 a rfl
      · exact h1 1 b rfl
      · exact h1 2 c rfl
      · exact h1 3 .nil rfl
      · simp at hx
    · intro i x hx
      rcases i with _ | _ | _ | _ | i
      · cases hx; exact h2 0 _ rfl
      · cases hx; exact h2 1 _ rfl
      · cases hx; exact h2 2 _ rfl
      · cases hx; exact VRel.nilLst (h2 3 .nil rfl)
      · simp at hx
def scNil (s : Scn) : AV := .agg [.int .i64 s.rooms, encGs s.gates, .int .i64 s.fin, .nil]
theorem Minutes_nil (s : Scn) (room : Int) : APure Tryz.prog 19 [scNil s, .int .i64 room] (.tup [encSps (mnV (wM s []) room), .int .i64 (rmE (wM s []) room)]) :=
  fun κ N w cargs hN hg hc => Minutes_ok (wM s []) room κ N w cargs hN hg (CRel.mono1 (pre := []) (post := [.int .i64 room]) hc fun hv => VRel.agg4Nil (n := 7) hv)
theorem Rooms_nil (s : Scn) : APure Tryz.prog 17 [scNil s] (encLe (rsV (wM s [])) (ckE (wM s []))) :=
  fun κ N w cargs hN hg hc => Rooms_ok (wM s []) κ N w cargs hN hg (CRel.mono1 (pre := []) (post := []) hc fun hv => VRel.agg4Nil (n := 7) hv)
theorem SameSpans_self (l : List Spn) (hl : l.length ≤ 100000) : APure Tryz.prog 33 [encSps l, encSps l] (.bool true) := by
  refine APure.vc Tryz.func33 rfl (.br 10 false .loop) rfl rfl ⟨ne_self64 _, ?_⟩
  intro g hn hlo
  replace hn : g.n = 26 := hn
  replace hlo : g.low 0 := hlo
  refine acode_while (fun k : Nat => ⟨[(0, encSps l), (1, encSps l), (5, .int .i64 k)], [], 0⟩) (fun k => k ≤ l.length) (fun k => l.length - k) 0 (Nat.zero_le _) ?_ (fun _ _ => hlo) ?_
  · exact St.le.of ⟨by kernel_rfl, rfl, by kernel_rfl, rfl, by kernel_rfl, rfl, trivial⟩ trivial
  · intro k hk
    replace hk : k ≤ l.length := hk
    by_cases hlt : k < l.length
    · refine Exists.elim (getE hlt) fun x hx => ?_
      have ek := congrArg (AV.int .i64) (succ64 (k := k) (by omega))
      have ne := neS x.1 x.2 x.1 x.2
      rw [beq_self_eq_true, beq_self_eq_true] at ne
      exact ACode.vc (.br 14 true <| .draw 8 <| .cells (cSp x) <| .cells (cSp x) <| .val 25 (.bool false) [] .nil) hn hlo (.round .cl) ⟨ltLen hlt, by kernel_rfl, mixed, by kernel_rfl, idx hx, idx hx, by kernel_rfl, Eq.trans (by kernel_rfl) ne, k + 1, hlt, mu1 hlt,
        St.le.of ⟨by kernel_rfl, rfl, by kernel_rfl, rfl, Eq.trans (by kernel_rfl) ek, rfl, trivial⟩ trivial⟩
    · exact ACode.vc (.br 14 false .nil) hn hlo (.round .cl) ⟨geLen hlt, _, .refl _, .nil, rB rfl⟩
theorem thaw_Sc {h : Nat → Option AObj} {s : Scn} {T i j : Nat} (hT : h T = some (.cells [.int .i64 s.rooms, .rsl i 0 s.gates.length 4, .int .i64 s.fin, .rsl j 0 s.marks.length 7])) (hi : h i = some (.cells (fl cGt s.gates))) (hj : h j = some (.cells (fl cMk s.marks))) :
    thaw 8 h (.vptr T 0) = some (.cptr (cSc s), [T, i, j]) := by
  have e1 : thaw 7 h (.rsl i 0 s.gates.length 4) = some (encGs s.gates, [i]) := thaw_fl (enc := cGt) (n := 4) 5 (fun _ => rfl) (fun _ => rfl) hi
  have e2 : thaw 7 h (.rsl j 0 s.marks.length 7) = some (encMs s.marks, [j]) := thaw_fl (enc := cMk) (n := 7) 5 (fun _ => rfl) (fun _ => rfl) hj
  have e3 : ∀ x : Int, thaw 7 h (.int .i64 x) = some (.int .i64 x, []) := fun x => by unfold thaw; exact if_pos rfl
  have e : thaw 8 h (.vptr T 0) = (match h T with
      | some (.cells cs) => (match mapO (thaw 7 h) cs with | some (cs', is) => some (.cptr (cs'.drop 0), T :: is) | none => none)
      | _ => none) := rfl
  rw [e, hT]
  simp only [mapO, e1, e2, e3]
  rfl
theorem thaw_sm {h : Nat → Option AObj} {v : AV} (hv : v.ok 0 = true) : thaw 8 h v = some (v, []) := by unfold thaw; exact if_pos hv
theorem ldMkId {h : Nat → Option AObj} {id k : Nat} {l : List Mk} {x : Mk} (h0 : h id = some (.cells (fl cMk l))) (hx : l[k]? = some x) : aLoad Tryz.prog h 3 (.vptr id (k * 7)) = some ⟨.int .i64 x.id, []⟩ := by
  have e : ∃ r, (fl cMk l).drop (k * 7) = .int .i64 x.id :: r := by
    have : l = l.take k ++ x :: l.drop (k + 1) := by rw [← drop_cons hx, List.take_append_drop]
    have hk : k ≤ l.length := by
      rcases Nat.lt_or_ge k l.length with q | q
      · omega
      · rw [List.getElem?_eq_none q] at hx; cases hx
    have el : (fl cMk (l.take k)).length = k * 7 := by rw [fl_len (enc := cMk) (n := 7) (fun _ => rfl), List.length_take, Nat.min_eq_left hk]
    have ef : fl cMk l = fl cMk (l.take k) ++ (cMk x ++ fl cMk (l.drop (k + 1))) := by
      conv => lhs; rw [this]
      unfold fl; simp
    rw [ef, List.drop_append, el, Nat.sub_self, List.drop_of_length_le (by omega)]
    exact ⟨_, rfl⟩
  obtain ⟨r, e⟩ := e
  simp only [aLoad, ty3, h0, e, aread]
  rfl
theorem app_mk {h : Nat → Option AObj} {i j nid n : Nat} {l : List Mk} {x : Mk} (h0 : h i = some (.cells (fl cMk l))) (h1 : h j = some (.cells (cMk x))) (hij : i ≠ j) (hn : n ≤ l.length) (hl : l.length ≤ 1000) :
    aAppend Tryz.prog h nid 29 29 (.rsl i 0 n 7) (.rsl j 0 1 7) = some ⟨.rsl nid 0 (n + 1) 7, [(i, none), (nid, some (.cells (fl cMk (l.take n ++ [x]))))]⟩ := by
  have hlen : (fl cMk l).length = l.length * 7 := fl_len (enc := cMk) (n := 7) (fun _ => rfl) l
  have e : fl cMk (l.take n ++ [x]) = fl cMk (l.take n) ++ cMk x := by unfold fl; simp
  have et : (fl cMk l).take (n * 7) = fl cMk (l.take n) := by
    have h2 : fl cMk l = fl cMk (l.take n) ++ fl cMk (l.drop n) := by
      unfold fl; rw [← List.flatMap_append, List.take_append_drop]
    have h3 : (fl cMk (l.take n)).length = n * 7 := by rw [fl_len (enc := cMk) (n := 7) (fun _ => rfl), List.length_take, Nat.min_eq_left hn]
    rw [h2, List.take_append_of_le_length (by omega), List.take_of_length_le (by omega)]
  have lt : (fl cMk (l.take n)).length = n * 7 := by rw [fl_len (enc := cMk) (n := 7) (fun _ => rfl), List.length_take, Nat.min_eq_left hn]
  rw [e]
  unfold aAppend
  simp only [h0]
  by_cases hlt : n * 7 < (fl cMk l).length
  · rw [if_pos hlt, et]
    simp only [aAppend0, ty29, ty46, srcCells, if_neg hij, h1]
    simp [lt, cMk, kO, cellB]
    omega
  · rw [if_neg hlt]
    have hnl : l.take n = l := List.take_of_length_le (by omega)
    rw [hnl] at lt ⊢
    simp only [aAppend0, ty29, ty46, srcCells, h0, h1]
    simp [lt, cMk, kO, cellB]
    omega
end Go.Proofs.YtoeankkhjpijlaaGreatDoor
/-
  THE LAW OF SCENES WITHOUT MARKS.
-/
namespace Go.Proofs.YtoeankkhjpijlaaGreatDoor
open Go Go.Am
set_option maxRecDepth 100000
set_option maxHeartbeats 4000000
noncomputable def bodyFr : Code := (Tryz.f12.body).getD .skip
def mkCl (ID : Int) (room : Int) (at0 : Int) : Mk := ⟨ID, 1, room, 0, at0, at0, 0⟩
theorem ixMk {h : Nat → Option AObj} {id n k : Nat} {i : Int} (hi : i = (k : Int)) (hk : k < n) : (aindexAddr Tryz.prog h 29 (.rsl id 0 n 7) (.int .i64 i)).map (fun v => (⟨v, []⟩ : Out)) = some ⟨.vptr id (k * 7), []⟩ := by
  subst hi
  simp only [aindexAddr, ty29, ty46]
  rw [if_pos ⟨trivial, Int.natCast_nonneg _, by simpa using hk⟩]
  simp
/-- The end: a clock more. -/
theorem free_end {s m : Scn} (hm : m.rooms = s.rooms) {room : Nat} {RM AT : Int} (_hs : ScOk s) (hroom : room < nR s) (erm : RM = (room : Int)) {ID : Int} {ms : List Mk} (em : m = wM s (ms ++ [mkCl ID RM AT])) {g : G} (hn : g.n = 139) (hlo0 : g.low 0) :
    ACode Tryz.prog none g (cdrop 14 bodyFr) (Ret Tryz.prog Tryz.f12 (.bool true)) ⟨[(7, .bool true), (8, .int .i64 RM), (9, .int .i64 AT), (15, .cptr (cSc m))], [], 0⟩ := by
  have sR := ready_spec m
  cases h1 : scB m
  · rw [h1] at sR
    exact ACode.vcM (.call (.bool false) .nil) hn hlo0 .ret ⟨sR, trivial, by kernel_rfl⟩
  rw [h1] at sR
  have hmk := scB_iff.1 h1
  have hroom2 : room < nR m := by unfold nR at hroom ⊢; rw [hm]; exact hroom
  have e0 : rmE m RM = 0 := by rw [erm]; exact rm_of hmk hroom2
  have mi := Minutes_ok m RM
  have ev : mnV m RM = toldP m room := by unfold mnV; rw [if_pos e0, erm, Int.toNat_natCast]
  rw [e0, ev] at mi
  have hcl := clock_told hmk hroom2 (m := mkCl ID RM AT) (t := AT) (by rw [em]; exact List.mem_append_right _ List.mem_cons_self) rfl erm rfl rfl
  refine Or.elim hcl (fun q => ?_) (fun q => ?_)
  · rw [q] at mi
    exact ACode.vcM (.call (.bool true) <| .call (.tup [encSps [], .int .i64 0]) <| .draw 20 .nil) hn hlo0 .ret ⟨sR, mi, by kernel_rfl, mixed, by kernel_rfl, by kernel_rfl, trivial, by kernel_rfl⟩
  · rw [q] at mi
    have eq0 := eqSs AT AT AT AT
    rw [beq_self_eq_true] at eq0
    exact ACode.vcM (.call (.bool true) <| .call (.tup [encSps [(AT, AT)], .int .i64 0]) <| .draw 20 <| .call (encSp (AT, AT)) <| .val 135 (.bool true) [] .nil) hn hlo0 .ret ⟨sR, mi, by kernel_rfl, mixed, by kernel_rfl, span_spec AT AT, by kernel_rfl, Eq.trans (by kernel_rfl) eq0, trivial, by kernel_rfl⟩
theorem free_mid {s : Scn} (hs : ScOk s) {n : Nat} {ID : Int} (hp : n ≤ s.marks.length) (hml : s.marks.length ≤ 1000) {room : Nat} {RM AT : Int} (hroom : room < nR s) (erm : RM = (room : Int)) (_hAT : AT = AT) {g : G} (hn : g.n = 139) (hlo0 : g.low 0) :
    ACode Tryz.prog none g (cdrop 13 bodyFr) (Ret Tryz.prog Tryz.f12 (.bool true)) ⟨[(7, .bool true), (8, .int .i64 RM), (9, .int .i64 AT), (15, .vptr 14 0), (16, .int .i64 ID)], [(8, .cells (fl cGt s.gates)), (11, .cells (fl cMk s.marks)), (14, .cells [.int .i64 s.rooms, .rsl 8 0 s.gates.length 4, .int .i64 s.fin, .rsl 11 0 n 7])], 15⟩ := by
  obtain ⟨m, em⟩ : ∃ m, m = wM s (s.marks.take n ++ [mkCl ID RM AT]) := ⟨_, rfl⟩
  have hr : m.rooms = s.rooms := by rw [em]; rfl
  have hg : m.gates = s.gates := by rw [em]; rfl
  have hf : m.fin = s.fin := by rw [em]; rfl
  have hm : m.marks = s.marks.take n ++ [mkCl ID RM AT] := by rw [em]; rfl
  have hl : m.marks.length = n + 1 := by rw [hm, List.length_append, List.length_take, Nat.min_eq_left hp]; rfl
  have ap := app_mk (h := hget [(11, .cells (fl cMk s.marks)), (23, .cells (cMk (mkCl ID RM AT)))]) (i := 11) (j := 23) (nid := 27) (n := n) (l := s.marks) (x := mkCl ID RM AT) rfl rfl (by decide) hp hml
  have th := fun (h : Nat → Option AObj) (hT : h 14 = some (.cells [.int .i64 s.rooms, .rsl 8 0 s.gates.length 4, .int .i64 s.fin, .rsl 27 0 (n + 1) 7])) (hi : h 8 = some (.cells (fl cGt s.gates))) (hj : h 27 = some (.cells (fl cMk (s.marks.take n ++ [mkCl ID RM AT])))) => (show thaw 8 h (.vptr 14 0) = some (.cptr (cSc m), [14, 8, 27]) from by
    rw [← hr, ← hg, ← hf, ← hl] at hT
    rw [← hg] at hi
    rw [← hm] at hj
    exact thaw_Sc hT hi hj)
  refine ACode.cut 0 (fun _ : Unit => ⟨[(7, .bool true), (8, .int .i64 RM), (9, .int .i64 AT), (15, .cptr (cSc m))], [], 0⟩) (fun _ => True) (.draw 9 <| .call (encSp (AT, AT)) <| .val 103 (.rsl 27 0 (n + 1) 7) [(11, none), (27, some (.cells (fl cMk (s.marks.take n ++ [mkCl ID RM AT]))))] .nil) hn (hlo0.mono (show 0 ≤ 15 by decide)) .ret rfl
    ⟨by kernel_rfl, mixed, by kernel_rfl, span_spec AT AT, by kernel_rfl, Eq.trans (by kernel_rfl) ap, (), trivial, Wk.all ⟨⟨_, thaw_sm rfl⟩, ⟨_, thaw_sm rfl⟩, ⟨_, thaw_sm rfl⟩, ⟨_, th _ (by kernel_rfl) (by kernel_rfl) (by kernel_rfl)⟩, trivial⟩ hlo0⟩ fun _ _ => ?_
  exact free_end hr hs hroom erm em hn hlo0
theorem law_free (s : Scn) (which clock : Nat) (hw8 : which < 256) (hc16 : clock < 65536) : APure Tryz.prog 12 [encSc s, .int .u8 (which : Int), .int .u16 (clock : Int)] (.bool true) := by
  have sA := alive_spec
  have sR := ready_spec s
  cases h1 : scB s
  · rw [h1] at sR
    exact APure.vcM Tryz.func12 (.call (.bool true) <| .call (.bool false) .nil) rfl rfl ⟨sA, sR, [], by kernel_rfl⟩
  rw [h1] at sR
  have hs := scB_iff.1 h1
  obtain ⟨room, hroom, erm⟩ := tmod_rm hs which
  obtain ⟨hnr, hn1, hn6⟩ := nR_eq hs
  have hne : s.rooms ≠ 0 := by omega
  have hgl := hs.gl
  have hml := hs.ml
  have v28 := w8 hw8
  have v33 : some (⟨.int .i64 (IntKind.i64.wrap (clock : Int)), []⟩ : Out) = some ⟨.int .i64 (clock : Int), []⟩ := by rw [wrap64 (by omega) (by omega)]
  have h0 := scOk_marks hs
  have tw := (Twin_spec s (by omega) (by omega)).pure
  have hroom0 : room < nR (wM s []) := hroom
  have er0 : rmE (wM s []) ((which : Int).tmod s.rooms) = 0 := by rw [erm]; exact rm_of h0 hroom0
  have mN := Minutes_nil s ((which : Int).tmod s.rooms)
  have ev : mnV (wM s []) ((which : Int).tmod s.rooms) = [(0, s.fin)] := by unfold mnV; rw [if_pos er0, erm, Int.toNat_natCast]; exact free_told hs
  rw [er0, ev] at mN
  have rN := Rooms_nil s
  have h0b := scB_iff.2 h0
  rw [show rsV (wM s []) = roomsP (wM s []) from if_pos h0b, show ckE (wM s []) = 0 from if_pos h0b] at rN
  have hL := free_rooms hs
  generalize roomsP (wM s []) = L at *
  have b70 : (((L.map encI).length : Int) != s.rooms) = false := by
    rw [List.length_map, hL, hnr]; exact bne_self_eq_false _
  have ss := SameSpans_self [(0, s.fin)] (by show 1 ≤ 100000; decide)
  have a1 := app_gts (h := hget [(7, .cells [])]) (i := 7) (nid := 8) (l := s.gates) rfl (by omega)
  have a2 := app_mks (h := hget [(10, .cells [])]) (i := 10) (nid := 11) (l := s.marks) rfl (by omega)
  have ewAT : ((clock : Int).tmod 601) = ((clock : Int).tmod 601) := rfl
  refine APure.intro Tryz.func12 rfl (by kernel_rfl) rfl fun g hn hlo0 => ?_
  replace hn : g.n = 139 := hn
  by_cases h8 : s.marks.length = 8
  · have b76 : ((s.marks.length : Int) == 8) = true := by rw [h8]; rfl
    refine Exists.elim (getE (show 6 < s.marks.length by omega)) fun x hx => ?_
    have v79 : (aSlice Tryz.prog (hget []) 29 (.rsl 11 0 s.marks.length 7) none (some (.int .i64 7))).map (fun v => (⟨v, []⟩ : Out)) = some ⟨.rsl 11 0 7 7, []⟩ := by rw [h8]; kernel_rfl
    have l92 := ldMkId (h := hget [(11, .cells (fl cMk s.marks))]) (id := 11) rfl hx
    refine ACode.cut 13 (fun p : Nat × Int => ⟨[(7, .bool true), (8, .int .i64 ((which : Int).tmod s.rooms)), (9, .int .i64 ((clock : Int).tmod 601)), (15, .vptr 14 0), (16, .int .i64 p.2)], [(8, .cells (fl cGt s.gates)), (11, .cells (fl cMk s.marks)), (14, .cells [.int .i64 s.rooms, .rsl 8 0 s.gates.length 4, .int .i64 s.fin, .rsl 11 0 p.1 7])], 15⟩) (fun p => p.1 ≤ s.marks.length) (.call (.bool true) <| .call (.bool true) <| .val 28 (.int .i64 (which : Int)) [] <| .nz <| .val 33 (.int .i64 (clock : Int)) [] <| .call (encSc s) <| .call (.tup [encSps [(0, s.fin)], .int .i64 0]) <| .call (encLe L 0) <| .call (encSp (0, s.fin)) <| .lent (.bool true) [4] <| .br 70 false <| .inl Tryz.f27 <| .val 6 (.rsl 8 0 s.gates.length 4) [(7, none), (8, some (.cells (fl cGt s.gates)))] <| .val 11 (.rsl 11 0 s.marks.length 7) [(10, none), (11, some (.cells (fl cMk s.marks)))] <| .br 76 true <| .val 79 (.rsl 11 0 7 7) [] <| .val 92 (.int .i64 x.id) [] .nil) hn hlo0 .ret rfl ⟨sA, sR, Eq.trans (by kernel_rfl) v28, hne, Eq.trans (by kernel_rfl) v33, tw, mN, rN, span_spec 0 s.fin, ⟨_, by kernel_rfl, .inl ⟨ss, .inr rfl⟩⟩, b70, Tryz.func27, Eq.trans (by kernel_rfl) a1, Eq.trans (by kernel_rfl) a2, b76, Eq.trans (by kernel_rfl) v79, Eq.trans (by kernel_rfl) l92, (7, (IntKind.i64.wrap (x.id + 1))), (by show 7 ≤ s.marks.length; omega), Wk.le (St.le.of ⟨by kernel_rfl, rfl, by kernel_rfl, rfl, by kernel_rfl, rfl, by kernel_rfl, rfl, by kernel_rfl, rfl, trivial⟩ ⟨by kernel_rfl, (by decide : (8 : Nat) < 15), fl_ok (fun _ => rfl) _, by kernel_rfl, (by decide : (11 : Nat) < 15), fl_ok (fun _ => rfl) _, by kernel_rfl, (by decide : (14 : Nat) < 15), rfl, trivial⟩) (hlo0.mono (show 0 ≤ 15 by decide))⟩ fun p hp => free_mid hs hp (by omega) hroom erm ewAT hn hlo0
  · have b76 : ((s.marks.length : Int) == 8) = false := beq_eq_false_iff_ne.2 (by omega)
    by_cases hz : 0 < s.marks.length
    · have b85 : decide ((s.marks.length : Int) > 0) = true := decide_eq_true (by omega)
      refine Exists.elim (getE (show s.marks.length - 1 < s.marks.length by omega)) fun x hx => ?_
      have el1 : IntKind.i64.wrap ((s.marks.length : Int) - 1) = ((s.marks.length - 1 : Nat) : Int) := by rw [wrap64 (by omega) (by omega)]; omega
      have x90 := ixMk (h := hget []) (id := 11) (n := s.marks.length) el1 (by omega)
      have l92 := ldMkId (h := hget [(11, .cells (fl cMk s.marks))]) (id := 11) rfl hx
      refine ACode.cut 13 (fun p : Nat × Int => ⟨[(7, .bool true), (8, .int .i64 ((which : Int).tmod s.rooms)), (9, .int .i64 ((clock : Int).tmod 601)), (15, .vptr 14 0), (16, .int .i64 p.2)], [(8, .cells (fl cGt s.gates)), (11, .cells (fl cMk s.marks)), (14, .cells [.int .i64 s.rooms, .rsl 8 0 s.gates.length 4, .int .i64 s.fin, .rsl 11 0 p.1 7])], 15⟩) (fun p => p.1 ≤ s.marks.length) (.call (.bool true) <| .call (.bool true) <| .val 28 (.int .i64 (which : Int)) [] <| .nz <| .val 33 (.int .i64 (clock : Int)) [] <| .call (encSc s) <| .call (.tup [encSps [(0, s.fin)], .int .i64 0]) <| .call (encLe L 0) <| .call (encSp (0, s.fin)) <| .lent (.bool true) [4] <| .br 70 false <| .inl Tryz.f27 <| .val 6 (.rsl 8 0 s.gates.length 4) [(7, none), (8, some (.cells (fl cGt s.gates)))] <| .val 11 (.rsl 11 0 s.marks.length 7) [(10, none), (11, some (.cells (fl cMk s.marks)))] <| .br 76 false <| .br 85 true <| .val 90 (.vptr 11 ((s.marks.length - 1) * 7)) [] <| .val 92 (.int .i64 x.id) [] .nil) hn hlo0 .ret rfl ⟨sA, sR, Eq.trans (by kernel_rfl) v28, hne, Eq.trans (by kernel_rfl) v33, tw, mN, rN, span_spec 0 s.fin, ⟨_, by kernel_rfl, .inl ⟨ss, .inr rfl⟩⟩, b70, Tryz.func27, Eq.trans (by kernel_rfl) a1, Eq.trans (by kernel_rfl) a2, b76, b85, Eq.trans (by kernel_rfl) x90, Eq.trans (by kernel_rfl) l92, (s.marks.length, (IntKind.i64.wrap (x.id + 1))), Nat.le_refl _, Wk.le (St.le.of ⟨by kernel_rfl, rfl, by kernel_rfl, rfl, by kernel_rfl, rfl, by kernel_rfl, rfl, by kernel_rfl, rfl, trivial⟩ ⟨by kernel_rfl, (by decide : (8 : Nat) < 15), fl_ok (fun _ => rfl) _, by kernel_rfl, (by decide : (11 : Nat) < 15), fl_ok (fun _ => rfl) _, by kernel_rfl, (by decide : (14 : Nat) < 15), rfl, trivial⟩) (hlo0.mono (show 0 ≤ 15 by decide))⟩ fun p hp => free_mid hs hp (by omega) hroom erm ewAT hn hlo0
    · have b85 : decide ((s.marks.length : Int) > 0) = false := decide_eq_false (by omega)
      refine ACode.cut 13 (fun p : Nat × Int => ⟨[(7, .bool true), (8, .int .i64 ((which : Int).tmod s.rooms)), (9, .int .i64 ((clock : Int).tmod 601)), (15, .vptr 14 0), (16, .int .i64 p.2)], [(8, .cells (fl cGt s.gates)), (11, .cells (fl cMk s.marks)), (14, .cells [.int .i64 s.rooms, .rsl 8 0 s.gates.length 4, .int .i64 s.fin, .rsl 11 0 p.1 7])], 15⟩) (fun p => p.1 ≤ s.marks.length) (.call (.bool true) <| .call (.bool true) <| .val 28 (.int .i64 (which : Int)) [] <| .nz <| .val 33 (.int .i64 (clock : Int)) [] <| .call (encSc s) <| .call (.tup [encSps [(0, s.fin)], .int .i64 0]) <| .call (encLe L 0) <| .call (encSp (0, s.fin)) <| .lent (.bool true) [4] <| .br 70 false <| .inl Tryz.f27 <| .val 6 (.rsl 8 0 s.gates.length 4) [(7, none), (8, some (.cells (fl cGt s.gates)))] <| .val 11 (.rsl 11 0 s.marks.length 7) [(10, none), (11, some (.cells (fl cMk s.marks)))] <| .br 76 false <| .br 85 false .nil) hn hlo0 .ret rfl ⟨sA, sR, Eq.trans (by kernel_rfl) v28, hne, Eq.trans (by kernel_rfl) v33, tw, mN, rN, span_spec 0 s.fin, ⟨_, by kernel_rfl, .inl ⟨ss, .inr rfl⟩⟩, b70, Tryz.func27, Eq.trans (by kernel_rfl) a1, Eq.trans (by kernel_rfl) a2, b76, b85, (s.marks.length, 0), Nat.le_refl _, Wk.le (St.le.of ⟨by kernel_rfl, rfl, by kernel_rfl, rfl, by kernel_rfl, rfl, by kernel_rfl, rfl, by kernel_rfl, rfl, trivial⟩ ⟨by kernel_rfl, (by decide : (8 : Nat) < 15), fl_ok (fun _ => rfl) _, by kernel_rfl, (by decide : (11 : Nat) < 15), fl_ok (fun _ => rfl) _, by kernel_rfl, (by decide : (14 : Nat) < 15), rfl, trivial⟩) (hlo0.mono (show 0 ≤ 15 by decide))⟩ fun p hp => free_mid hs hp (by omega) hroom erm ewAT hn hlo0
end Go.Proofs.YtoeankkhjpijlaaGreatDoor

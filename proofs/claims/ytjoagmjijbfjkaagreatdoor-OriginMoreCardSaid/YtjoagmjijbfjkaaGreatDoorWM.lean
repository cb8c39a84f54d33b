import Derived.Test.YtjoagmjijbfjkaaGreatDoorWB
/-
  THE LAW OF A MARK MORE.
-/
namespace Go.Proofs.YtjoagmjijbfjkaaGreatDoor
open Go Go.Am
set_option maxRecDepth 100000
set_option maxHeartbeats 4000000
noncomputable def bodyMo : Code := (Tryz.f10.body).getD .skip
/-- Is a span within another one. -/
def anyI (l : List Spn) (x : Spn) : Bool := l.any fun y => decide (x.1 ≥ y.1) && decide (x.2 ≤ y.2)
theorem any_snoc {l : List Spn} {k : Nat} {y x : Spn} (h : l[k]? = some y) : anyI (l.take (k + 1)) x = (anyI (l.take k) x || (decide (x.1 ≥ y.1) && decide (x.2 ≤ y.2))) := by
  unfold anyI; rw [take_snoc h, List.any_append, List.any_cons, List.any_nil, Bool.or_false]
theorem mo6 {s : Scn} (hs : ScOk s) {room : Nat} {RM : Int} (hroom : room < nR s) (erm : RM = (room : Int)) {l : List Spn} (el : l = toldP s room) {m : Mk} (hm : ScOk (wM s (s.marks ++ [m]))) {g : G} (hn : g.n = 217) (hlo0 : g.low 0) :
    ACode Tryz.prog none g (cdrop 22 bodyMo) (Ret Tryz.prog Tryz.f10 (.bool true)) ⟨[(7, .bool true), (8, .int .i64 RM), (9, encSps l), (29, .cptr (cSc (wM s (s.marks ++ [sureM s room m.id]))))], [], 0⟩ := by
  have mi := Min_sub (wM s (s.marks ++ [sureM s room m.id])) (sure_ok hm hroom) hroom erm
  rw [sure_told hs hm hroom, ← el] at mi
  have ss := SameSpans_self l (by have := toldL_len hs hroom; rw [el]; omega)
  exact ACode.vcM (.call (.tup [encSps l, .int .i64 0]) <| .call (.bool true) .nil) hn hlo0 .ret ⟨mi, ss, trivial, by kernel_rfl⟩
theorem mo5 {s : Scn} (hs : ScOk s) {room : Nat} {RM : Int} (hroom : room < nR s) (erm : RM = (room : Int)) {l : List Spn} (el : l = toldP s room) {ID : Int} {m : Mk} (em : m.id = IntKind.i64.wrap (ID + 1)) (hm : ScOk (wM s (s.marks ++ [m]))) {g : G} (hn : g.n = 217) (hlo0 : g.low 0) :
    ACode Tryz.prog none g (cdrop 20 bodyMo) (Ret Tryz.prog Tryz.f10 (.bool true)) ⟨[(3, .cptr (cSc s)), (7, .bool true), (8, .int .i64 RM), (9, encSps l), (19, .int .i64 ID)], [], 0⟩ := by
  have hgl := hs.gl
  have hml := hs.ml
  have a1 := app_gts (h := hget [(2, .cells [])]) (i := 2) (nid := 3) (l := s.gates) rfl (by omega)
  have a2 := app_mks (h := hget [(5, .cells [])]) (i := 5) (nid := 6) (l := s.marks) rfl (by omega)
  obtain ⟨U, eU⟩ : ∃ U, U = wM s (s.marks ++ [sureM s room m.id]) := ⟨_, rfl⟩
  have hr : U.rooms = s.rooms := by rw [eU]; rfl
  have hg : U.gates = s.gates := by rw [eU]; rfl
  have hf : U.fin = s.fin := by rw [eU]; rfl
  have hmk : U.marks = s.marks ++ [sureM s room m.id] := by rw [eU]; rfl
  have hl : U.marks.length = s.marks.length + 1 := by rw [hmk, List.length_append]; rfl
  have ap := app_mk (h := hget [(6, .cells (fl cMk s.marks)), (22, .cells (cMk (sureM s room m.id)))]) (i := 6) (j := 22) (nid := 26) (n := s.marks.length) (l := s.marks) (x := sureM s room m.id) rfl rfl (by decide) (Nat.le_refl _) (by omega)
  rw [List.take_length] at ap
  have esu : cMk (sureM s room m.id) = [.int .i64 (IntKind.i64.wrap (ID + 1)), .int .u8 3, .int .i64 RM, .int .i64 0, .int .i64 s.fin, .int .i64 s.fin, .int .i64 0] := by rw [erm, ← em]; rfl
  rw [esu] at ap
  have th := fun (h : Nat → Option AObj) (hT : h 9 = some (.cells [.int .i64 s.rooms, .rsl 3 0 s.gates.length 4, .int .i64 s.fin, .rsl 26 0 (s.marks.length + 1) 7])) (hi : h 3 = some (.cells (fl cGt s.gates))) (hj : h 26 = some (.cells (fl cMk (s.marks ++ [sureM s room m.id])))) => (show thaw 8 h (.vptr 9 0) = some (.cptr (cSc U), [9, 3, 26]) from by
    rw [← hr, ← hg, ← hf, ← hl] at hT
    rw [← hg] at hi
    rw [← hmk] at hj
    exact thaw_Sc hT hi hj)
  refine ACode.cut 1 (fun _ : Unit => ⟨[(7, .bool true), (8, .int .i64 RM), (9, encSps l), (29, .cptr (cSc U))], [], 0⟩) (fun _ => True) (.inl Tryz.f27 <| .val 6 (.rsl 3 0 s.gates.length 4) [(2, none), (3, some (.cells (fl cGt s.gates)))] <| .val 11 (.rsl 6 0 s.marks.length 7) [(5, none), (6, some (.cells (fl cMk s.marks)))] <| .draw 12 <| .call (encSp (s.fin, s.fin)) <| .val 199 (.rsl 26 0 (s.marks.length + 1) 7) [(6, none), (26, some (.cells (fl cMk (s.marks ++ [sureM s room m.id]))))] .nil) hn hlo0 .ret rfl
    ⟨Tryz.func27, Eq.trans (by kernel_rfl) a1, Eq.trans (by kernel_rfl) a2, by kernel_rfl, mixed, by kernel_rfl, span_spec s.fin s.fin, by kernel_rfl, Eq.trans (by kernel_rfl) ap, (), trivial, Wk.all ⟨⟨_, thaw_sm rfl⟩, ⟨_, thaw_sm rfl⟩, ⟨_, thaw_sm rfl⟩, ⟨_, th _ (by kernel_rfl) (by kernel_rfl) (by kernel_rfl)⟩, trivial⟩ hlo0⟩ fun _ _ => ?_
  rw [eU]
  exact mo6 hs hroom erm el hm hn hlo0
theorem mo4 {s : Scn} (hs : ScOk s) {room : Nat} {RM : Int} (hroom : room < nR s) (erm : RM = (room : Int)) {l : List Spn} (el : l = toldP s room) {ID : Int} {m : Mk} (em : m.id = IntKind.i64.wrap (ID + 1)) {g : G} (hn : g.n = 217) (hlo0 : g.low 0) :
    ACode Tryz.prog none g (cdrop 16 bodyMo) (Ret Tryz.prog Tryz.f10 (.bool true)) ⟨[(3, .cptr (cSc s)), (7, .bool true), (8, .int .i64 RM), (9, encSps l), (19, .int .i64 ID), (21, .cptr (cSc (wM s (s.marks ++ [m]))))], [], 0⟩ := by
  have sR := ready_spec (wM s (s.marks ++ [m]))
  cases h1 : scB (wM s (s.marks ++ [m]))
  · rw [h1] at sR
    exact ACode.vcM (.call (.bool false) .nil) hn hlo0 .ret ⟨sR, trivial, by kernel_rfl⟩
  rw [h1] at sR
  have hm := scB_iff.1 h1
  have mi := Min_sub (wM s (s.marks ++ [m])) hm hroom erm
  have hin : ∀ x ∈ toldP (wM s (s.marks ++ [m])) room, anyI l x = true := fun x hx => by
    obtain ⟨y, hy, q1, q2⟩ := more_in hs hm hroom hx
    rw [el]
    exact List.any_eq_true.2 ⟨y, hy, by rw [decide_eq_true (show x.1 ≥ y.1 from q1), decide_eq_true q2]; rfl⟩
  have hMl : (toldP (wM s (s.marks ++ [m])) room).length ≤ 1000 := toldL_len hm hroom
  have hll : l.length ≤ 1000 := by rw [el]; exact toldL_len hs hroom
  refine ACode.cut 3 (fun _ : Unit => ⟨[(3, .cptr (cSc s)), (7, .bool true), (8, .int .i64 RM), (9, encSps l), (19, .int .i64 ID)], [], 0⟩) (fun _ => True) (.call (.bool true) <| .call (.tup [encSps (toldP (wM s (s.marks ++ [m])) room), .int .i64 0]) .loop) hn hlo0 .ret rfl ⟨sR, mi, ?_⟩ fun _ _ => mo5 hs hroom erm el em hm hn hlo0
  generalize toldP (wM s (s.marks ++ [m])) room = M at *
  intro g hn hlo
  replace hn : g.n = 217 := hn
  replace hlo : g.low 0 := hlo
  refine acode_while (fun j : Nat => ⟨[(3, .cptr (cSc s)), (7, .bool true), (8, .int .i64 RM), (9, encSps l), (19, .int .i64 ID), (154, encSps M), (155, .int .i64 (M.map cSp).length), (156, .int .i64 j)], [], 0⟩) (fun j => j ≤ M.length) (fun j => M.length - j) 0 (Nat.zero_le _) ?_ (fun _ _ => hlo) ?_
  · exact St.le.of ⟨by kernel_rfl, rfl, by kernel_rfl, rfl, by kernel_rfl, rfl, by kernel_rfl, rfl, by kernel_rfl, rfl, by kernel_rfl, rfl, by kernel_rfl, rfl, by kernel_rfl, rfl, trivial⟩ trivial
  · intro j hj
    replace hj : j ≤ M.length := hj
    by_cases hlt : j < M.length
    · refine Exists.elim (getE hlt) fun x hx => ?_
      have ej := congrArg (AV.int .i64) (succ64 (k := j) (by omega))
      have hany := hin x (List.mem_of_getElem? hx)
      refine ACode.vcM (.br 157 true <| .cells (cSp x) <| .loop) hn hlo (.round .cl) ⟨ltLen hlt, idx hx, ?_⟩
      intro g hn hlo
      replace hn : g.n = 217 := hn
      replace hlo : g.low 0 := hlo
      refine acode_while (fun k : Nat => ⟨[(3, .cptr (cSc s)), (7, .bool true), (8, .int .i64 RM), (9, encSps l), (19, .int .i64 ID), (154, encSps M), (155, .int .i64 (M.map cSp).length), (156, .int .i64 j), (25, .vptr 0 0), (26, .bool (anyI (l.take k) x)), (160, encSps l), (161, .int .i64 (l.map cSp).length), (162, .int .i64 k)], [(0, .cells (cSp x))], 2⟩) (fun k => k ≤ l.length) (fun k => l.length - k) 0 (Nat.zero_le _) ?_ (fun _ _ => hlo.mono (Nat.zero_le _)) ?_
      · exact St.le.of ⟨by kernel_rfl, rfl, by kernel_rfl, rfl, by kernel_rfl, rfl, by kernel_rfl, rfl, by kernel_rfl, rfl, by kernel_rfl, rfl, by kernel_rfl, rfl, by kernel_rfl, rfl, by kernel_rfl, rfl, by kernel_rfl, rfl, by kernel_rfl, rfl, by kernel_rfl, rfl, by kernel_rfl, rfl, trivial⟩ ⟨by kernel_rfl, (by decide : (0 : Nat) < 2), by kernel_rfl, trivial⟩
      · intro k hk
        replace hk : k ≤ l.length := hk
        by_cases hlk : k < l.length
        · refine Exists.elim (getE hlk) fun y hy => ?_
          have ek := congrArg (AV.int .i64) (succ64 (k := k) (by omega))
          have es := any_snoc (x := x) hy
          obtain ⟨b, hb⟩ : ∃ b, b = anyI (l.take k) x := ⟨_, rfl⟩
          obtain ⟨b', hb'⟩ : ∃ b', b' = anyI (l.take (k + 1)) x := ⟨_, rfl⟩
          rw [← hb, ← hb'] at es
          refine (Bool.eq_false_or_eq_true b).symm.elim (fun q => ?_) (fun q => ?_)
          · have b167 : anyI (l.take k) x = false := hb.symm.trans q
            refine (Bool.eq_false_or_eq_true (decide (x.1 ≥ y.1))).symm.elim (fun q2 => ?_) (fun q2 => ?_)
            · have e26 : AV.bool false = .bool (anyI (l.take (k + 1)) x) := by rw [← hb', es, q, q2]; rfl
              exact ACode.vcM (.br 163 true <| .cells (cSp y) <| .br 167 false <| .br 173 false .nil) hn hlo (.round .cl) ⟨ltLen hlk, idx hy, b167, q2, k + 1, hlk, mu1 hlk,
                St.le.of ⟨by kernel_rfl, rfl, by kernel_rfl, rfl, by kernel_rfl, rfl, by kernel_rfl, rfl, by kernel_rfl, rfl, by kernel_rfl, rfl, by kernel_rfl, rfl, by kernel_rfl, rfl, by kernel_rfl, rfl, Eq.trans (by kernel_rfl) e26, rfl, by kernel_rfl, rfl, by kernel_rfl, rfl, Eq.trans (by kernel_rfl) ek, rfl, trivial⟩ ⟨by kernel_rfl, (by decide : (0 : Nat) < 2), by kernel_rfl, trivial⟩⟩
            · have e26 : AV.bool (decide (x.2 ≤ y.2)) = .bool (anyI (l.take (k + 1)) x) := by rw [← hb', es, q, q2, Bool.false_or, Bool.true_and]
              exact ACode.vcM (.br 163 true <| .cells (cSp y) <| .br 167 false <| .br 173 true .nil) hn hlo (.round .cl) ⟨ltLen hlk, idx hy, b167, q2, k + 1, hlk, mu1 hlk,
                St.le.of ⟨by kernel_rfl, rfl, by kernel_rfl, rfl, by kernel_rfl, rfl, by kernel_rfl, rfl, by kernel_rfl, rfl, by kernel_rfl, rfl, by kernel_rfl, rfl, by kernel_rfl, rfl, by kernel_rfl, rfl, Eq.trans (by kernel_rfl) e26, rfl, by kernel_rfl, rfl, by kernel_rfl, rfl, Eq.trans (by kernel_rfl) ek, rfl, trivial⟩ ⟨by kernel_rfl, (by decide : (0 : Nat) < 2), by kernel_rfl, trivial⟩⟩
          · have b167 : anyI (l.take k) x = true := hb.symm.trans q
            have e26 : AV.bool true = .bool (anyI (l.take (k + 1)) x) := by rw [← hb', es, q]; rfl
            exact ACode.vcM (.br 163 true <| .cells (cSp y) <| .br 167 true .nil) hn hlo (.round .cl) ⟨ltLen hlk, idx hy, b167, k + 1, hlk, mu1 hlk,
              St.le.of ⟨by kernel_rfl, rfl, by kernel_rfl, rfl, by kernel_rfl, rfl, by kernel_rfl, rfl, by kernel_rfl, rfl, by kernel_rfl, rfl, by kernel_rfl, rfl, by kernel_rfl, rfl, by kernel_rfl, rfl, Eq.trans (by kernel_rfl) e26, rfl, by kernel_rfl, rfl, by kernel_rfl, rfl, Eq.trans (by kernel_rfl) ek, rfl, trivial⟩ ⟨by kernel_rfl, (by decide : (0 : Nat) < 2), by kernel_rfl, trivial⟩⟩
        · have b183 : (!anyI (l.take k) x) = false := by rw [List.take_of_length_le (by omega), hany]; rfl
          exact ACode.vcM (.br 163 false .nil) hn hlo (.round .cl) ⟨geLen hlk, _, .refl _, .br 183 false .nil, b183, j + 1, hlt, mu1 hlt,
            St.le.of ⟨by kernel_rfl, rfl, by kernel_rfl, rfl, by kernel_rfl, rfl, by kernel_rfl, rfl, by kernel_rfl, rfl, by kernel_rfl, rfl, by kernel_rfl, rfl, Eq.trans (by kernel_rfl) ej, rfl, trivial⟩ trivial⟩
    · exact ACode.vcM (.br 157 false .nil) hn hlo (.round .cl) ⟨geLen hlt, _, .refl _, .nil, (), trivial, Wk.le (St.le.of ⟨by kernel_rfl, rfl, by kernel_rfl, rfl, by kernel_rfl, rfl, by kernel_rfl, rfl, by kernel_rfl, rfl, trivial⟩ trivial) hlo0⟩
theorem mo3 {s : Scn} (hs : ScOk s) {room : Nat} {RM : Int} (hroom : room < nR s) (erm : RM = (room : Int)) {l : List Spn} (el : l = toldP s room) {mo : Mk} {g : G} (hn : g.n = 217) (hlo0 : g.low 0) :
    ACode Tryz.prog none g (cdrop 11 bodyMo) (Ret Tryz.prog Tryz.f10 (.bool true)) ⟨[(3, .vptr 0 0), (4, .vptr 1 0), (7, .bool true), (8, .int .i64 RM), (9, encSps l)], [(0, .cells (cSc s)), (1, .cells (cMk mo))], 2⟩ := by
  have hgl := hs.gl
  have hml := hs.ml
  have a1 := app_gts (h := hget [(4, .cells [])]) (i := 4) (nid := 5) (l := s.gates) rfl (by omega)
  have a2 := app_mks (h := hget [(7, .cells [])]) (i := 7) (nid := 8) (l := s.marks) rfl (by omega)
  have ap := fun (X : Int) => app_mk (h := hget [(8, .cells (fl cMk s.marks)), (14, .cells (cMk (reId mo X)))]) (i := 8) (j := 14) (nid := 15) (n := s.marks.length) (l := s.marks) (x := reId mo X) rfl rfl (by decide) (Nat.le_refl _) (by omega)
  simp only [List.take_length] at ap
  have th := fun (X : Int) (h : Nat → Option AObj) (hT : h 11 = some (.cells [.int .i64 s.rooms, .rsl 5 0 s.gates.length 4, .int .i64 s.fin, .rsl 15 0 (s.marks.length + 1) 7])) (hi : h 5 = some (.cells (fl cGt s.gates))) (hj : h 15 = some (.cells (fl cMk (s.marks ++ [reId mo X])))) => (show thaw 8 h (.vptr 11 0) = some (.cptr (cSc (wM s (s.marks ++ [reId mo X]))), [11, 5, 15]) from by
    have hl : (wM s (s.marks ++ [reId mo X])).marks.length = s.marks.length + 1 := by show (s.marks ++ [reId mo X]).length = _; rw [List.length_append]; rfl
    rw [← hl] at hT
    exact thaw_Sc (s := wM s (s.marks ++ [reId mo X])) hT hi hj)
  by_cases hz : 0 < s.marks.length
  · refine Exists.elim (getE (show s.marks.length - 1 < s.marks.length by omega)) fun x hx => ?_
    have b123 : decide (((s.marks.map cMk).length : Int) > 0) = true := decide_eq_true (by rw [List.length_map]; omega)
    have ei : IntKind.i64.wrap (((s.marks.map cMk).length : Int) - 1) = ((s.marks.length - 1 : Nat) : Int) := by rw [List.length_map, wrap64 (by omega) (by omega)]; omega
    have ix := idxW (enc := cMk) ei hx
    refine ACode.cut 4 (fun ID : Int => ⟨[(3, .cptr (cSc s)), (7, .bool true), (8, .int .i64 RM), (9, encSps l), (19, .int .i64 ID), (21, .cptr (cSc (wM s (s.marks ++ [reId mo (IntKind.i64.wrap (ID + 1))]))))], [], 0⟩) (fun _ => True) (.br 123 true <| .cells (cMk x) <| .inl Tryz.f27 <| .val 6 (.rsl 5 0 s.gates.length 4) [(4, none), (5, some (.cells (fl cGt s.gates)))] <| .val 11 (.rsl 8 0 s.marks.length 7) [(7, none), (8, some (.cells (fl cMk s.marks)))] <| .val 140 (.rsl 15 0 (s.marks.length + 1) 7) [(8, none), (15, some (.cells (fl cMk (s.marks ++ [reId mo (IntKind.i64.wrap (x.id + 1))]))))] .nil) hn (hlo0.mono (show 0 ≤ 2 by decide)) .ret rfl
      ⟨b123, ix, Tryz.func27, Eq.trans (by kernel_rfl) a1, Eq.trans (by kernel_rfl) a2, Eq.trans (by kernel_rfl) (ap (IntKind.i64.wrap (x.id + 1))), x.id, trivial, Wk.all ⟨⟨[0], by kernel_rfl⟩, ⟨_, thaw_sm rfl⟩, ⟨_, thaw_sm rfl⟩, ⟨_, thaw_sm rfl⟩, ⟨_, thaw_sm rfl⟩, ⟨_, th (IntKind.i64.wrap (x.id + 1)) _ (by kernel_rfl) (by kernel_rfl) (by kernel_rfl)⟩, trivial⟩ hlo0⟩ fun ID _ => mo4 hs hroom erm el (show (reId mo (IntKind.i64.wrap (ID + 1))).id = _ from rfl) hn hlo0
  · have b123 : decide (((s.marks.map cMk).length : Int) > 0) = false := decide_eq_false (by rw [List.length_map]; omega)
    refine ACode.cut 4 (fun ID : Int => ⟨[(3, .cptr (cSc s)), (7, .bool true), (8, .int .i64 RM), (9, encSps l), (19, .int .i64 ID), (21, .cptr (cSc (wM s (s.marks ++ [reId mo (IntKind.i64.wrap (ID + 1))]))))], [], 0⟩) (fun _ => True) (.br 123 false <| .inl Tryz.f27 <| .val 6 (.rsl 5 0 s.gates.length 4) [(4, none), (5, some (.cells (fl cGt s.gates)))] <| .val 11 (.rsl 8 0 s.marks.length 7) [(7, none), (8, some (.cells (fl cMk s.marks)))] <| .val 140 (.rsl 15 0 (s.marks.length + 1) 7) [(8, none), (15, some (.cells (fl cMk (s.marks ++ [reId mo (IntKind.i64.wrap ((-1 : Int) + 1))]))))] .nil) hn (hlo0.mono (show 0 ≤ 2 by decide)) .ret rfl
      ⟨b123, Tryz.func27, Eq.trans (by kernel_rfl) a1, Eq.trans (by kernel_rfl) a2, Eq.trans (by kernel_rfl) (ap (IntKind.i64.wrap ((-1 : Int) + 1))), (-1 : Int), trivial, Wk.all ⟨⟨[0], by kernel_rfl⟩, ⟨_, thaw_sm rfl⟩, ⟨_, thaw_sm rfl⟩, ⟨_, thaw_sm rfl⟩, ⟨_, thaw_sm rfl⟩, ⟨_, th (IntKind.i64.wrap ((-1 : Int) + 1)) _ (by kernel_rfl) (by kernel_rfl) (by kernel_rfl)⟩, trivial⟩ hlo0⟩ fun ID _ => mo4 hs hroom erm el (show (reId mo (IntKind.i64.wrap (ID + 1))).id = _ from rfl) hn hlo0
theorem mo2 {s : Scn} (hs : ScOk s) {room : Nat} {RM : Int} (hroom : room < nR s) (erm : RM = (room : Int)) {l : List Spn} (el : l = toldP s room) {mo : Mk} {g : G} (hn : g.n = 217) (hlo0 : g.low 0) :
    ACode Tryz.prog none g (cdrop 7 bodyMo) (Ret Tryz.prog Tryz.f10 (.bool true)) ⟨[(3, .vptr 0 0), (4, .vptr 1 0), (7, .bool true), (8, .int .i64 RM), (9, encSps l), (10, .int .i64 0), (11, .cptr (cSc (wM s (turnM s.marks))))], [(0, .cells (cSc s)), (1, .cells (cMk mo))], 2⟩ := by
  have hT := turn_ok hs
  have mi := Min_sub (wM s (turnM s.marks)) hT hroom erm
  rw [turn_told hs hroom, ← el] at mi
  have n1 := Named_ok s
  have n2 := Named_ok (wM s (turnM s.marks))
  rw [turn_nm hs] at n2
  have ss := SameSpans_self l (by have := toldL_len hs hroom; rw [el]; omega)
  generalize nmV s = NM at *
  have e1 : (NM.1 != NM.1) = false := bne_self_eq_false _
  have e2 : (NM.2 != NM.2) = false := bne_self_eq_false _
  exact ACode.cut 3 (fun _ : Unit => ⟨[(3, .vptr 0 0), (4, .vptr 1 0), (7, .bool true), (8, .int .i64 RM), (9, encSps l)], [(0, .cells (cSc s)), (1, .cells (cMk mo))], 2⟩) (fun _ => True) (.call (.tup [encSps l, .int .i64 0]) <| .call (.tup [.int .i64 NM.1, .int .i64 NM.2]) <| .call (.tup [.int .i64 NM.1, .int .i64 NM.2]) <| .call (.bool true) <| .br 114 false <| .br 118 false .nil) hn (hlo0.mono (show 0 ≤ 2 by decide)) .ret rfl ⟨mi, n1, n2, ss, e1, e2, (), trivial,
    Wk.le (St.le.of ⟨by kernel_rfl, rfl, by kernel_rfl, rfl, by kernel_rfl, rfl, by kernel_rfl, rfl, by kernel_rfl, rfl, trivial⟩ ⟨by kernel_rfl, (by decide : (0 : Nat) < 2), by kernel_rfl, by kernel_rfl, (by decide : (1 : Nat) < 2), by kernel_rfl, trivial⟩) (hlo0.mono (show 0 ≤ 2 by decide))⟩ fun _ _ => mo3 hs hroom erm el hn hlo0
theorem mo1 {s : Scn} (hs : ScOk s) {room : Nat} {RM : Int} (hroom : room < nR s) (erm : RM = (room : Int)) {l : List Spn} (el : l = toldP s room) {mo : Mk} {g : G} (hn : g.n = 217) (hlo0 : g.low 0) :
    ACode Tryz.prog none g (cdrop 5 bodyMo) (Ret Tryz.prog Tryz.f10 (.bool true)) ⟨[(3, .vptr 0 0), (4, .vptr 1 0), (7, .bool true), (8, .int .i64 RM), (9, encSps l), (10, .int .i64 0)], [(0, .cells (cSc s)), (1, .cells (cMk mo))], 2⟩ := by
  have hgl := hs.gl
  have hml := hs.ml
  have a1 := app_gts (h := hget [(4, .cells [])]) (i := 4) (nid := 5) (l := s.gates) rfl (by omega)
  have a2 := app_mks (h := hget [(7, .cells [])]) (i := 7) (nid := 8) (l := s.marks) rfl (by omega)
  have th := fun (h : Nat → Option AObj) (hT : h 11 = some (.cells [.int .i64 s.rooms, .rsl 5 0 s.gates.length 4, .int .i64 s.fin, .rsl 8 0 s.marks.length 7])) (hi : h 5 = some (.cells (fl cGt s.gates))) (hj : h 8 = some (.cells (fl cMk (turnM s.marks)))) => (show thaw 8 h (.vptr 11 0) = some (.cptr (cSc (wM s (turnM s.marks))), [11, 5, 8]) from by
    have hl : (wM s (turnM s.marks)).marks.length = s.marks.length := turnM_len s.marks
    rw [← hl] at hT
    exact thaw_Sc (s := wM s (turnM s.marks)) hT hi hj)
  refine ACode.cut 1 (fun _ : Unit => ⟨[(3, .vptr 0 0), (4, .vptr 1 0), (7, .bool true), (8, .int .i64 RM), (9, encSps l), (10, .int .i64 0), (11, .cptr (cSc (wM s (turnM s.marks))))], [(0, .cells (cSc s)), (1, .cells (cMk mo))], 2⟩) (fun _ => True) (.inl Tryz.f27 <| .val 6 (.rsl 5 0 s.gates.length 4) [(4, none), (5, some (.cells (fl cGt s.gates)))] <| .val 11 (.rsl 8 0 s.marks.length 7) [(7, none), (8, some (.cells (fl cMk s.marks)))] <| .loop) hn (hlo0.mono (show 0 ≤ 2 by decide)) .ret rfl
    ⟨Tryz.func27, Eq.trans (by kernel_rfl) a1, Eq.trans (by kernel_rfl) a2, ?_⟩ fun _ _ => mo2 hs hroom erm el hn hlo0
  intro g hn hlo
  replace hn : g.n = 217 := hn
  replace hlo : g.low 2 := hlo
  refine acode_whileW (fun i : Nat => ⟨[(3, .vptr 0 0), (4, .vptr 1 0), (7, .bool true), (8, .int .i64 RM), (9, encSps l), (10, .int .i64 0), (11, .vptr 11 0), (54, .int .i64 (s.marks.length : Nat)), (55, .int .i64 i)], [(0, .cells (cSc s)), (1, .cells (cMk mo)), (5, .cells (fl cGt s.gates)), (8, .cells (fl cMk (turnK s.marks i))), (11, .cells [.int .i64 s.rooms, .rsl 5 0 s.gates.length 4, .int .i64 s.fin, .rsl 8 0 s.marks.length 7])], 13⟩) (fun i => i ≤ s.marks.length) (fun i => s.marks.length - i) 0 (Nat.zero_le _) ?_ ?_
  · exact Wk.le (St.le.of ⟨by kernel_rfl, rfl, by kernel_rfl, rfl, by kernel_rfl, rfl, by kernel_rfl, rfl, by kernel_rfl, rfl, by kernel_rfl, rfl, by kernel_rfl, rfl, by kernel_rfl, rfl, by kernel_rfl, rfl, trivial⟩ ⟨by kernel_rfl, (by decide : (0 : Nat) < 13), by kernel_rfl, by kernel_rfl, (by decide : (1 : Nat) < 13), by kernel_rfl, by kernel_rfl, (by decide : (5 : Nat) < 13), fl_ok (fun _ => rfl) _, by kernel_rfl, (by decide : (8 : Nat) < 13), fl_ok (fun _ => rfl) _, by kernel_rfl, (by decide : (11 : Nat) < 13), rfl, trivial⟩) (hlo.mono (show 2 ≤ 13 by decide))
  · intro i hi
    replace hi : i ≤ s.marks.length := hi
    by_cases hlt : i < s.marks.length
    · refine Exists.elim (getE (show s.marks.length - 1 - i < s.marks.length by omega)) fun x hx => ?_
      have ei := congrArg (AV.int .i64) (succ64 (k := i) (by omega))
      have c56 : decide ((i : Int) < ((s.marks.length : Nat) : Int)) = true := decide_eq_true (by omega)
      have ex : IntKind.i64.wrap (IntKind.i64.wrap (((s.marks.map cMk).length : Int) - 1) - (i : Int)) = ((s.marks.length - 1 - i : Nat) : Int) := by
        rw [List.length_map, wrap64 (n := (s.marks.length : Int) - 1) (by omega) (by omega), wrap64 (by omega) (by omega)]; omega
      have ix := idxW (enc := cMk) ex hx
      have hKl := turnK_len hi
      have ixm := ixM (h := hget []) (id := 8) (n := s.marks.length) (i := (i : Int)) rfl hlt
      have s1 := stM (h := hget [(8, .cells (fl cMk (turnK s.marks i)))]) (id := 8) (x := x) rfl (show i < (turnK s.marks i).length by omega)
      have hget2 : ((turnK s.marks i).set i x)[i]? = some x := by rw [List.getElem?_set_self (by omega)]
      have s2 := stMId (h := hget [(8, .cells (fl cMk ((turnK s.marks i).set i x)))]) (id := 8) (x := 3 * (i : Int) + 1) rfl (show i < ((turnK s.marks i).set i x).length by rw [List.length_set]; omega) hget2
      rw [turnK_set2 hlt hx] at s2
      have ew : IntKind.i64.wrap (IntKind.i64.wrap (3 * (i : Int)) + 1) = 3 * (i : Int) + 1 := by rw [wrap64 (n := 3 * (i : Int)) (by omega) (by omega), wrap64 (by omega) (by omega)]
      rw [← ew] at s2
      exact ACode.vcM (.br 56 true <| .draw 13 <| .cells (cMk x) <| .val 71 (.vptr 8 (i * 7)) [] <| .val 1 .undef [(8, some (.cells (fl cMk ((turnK s.marks i).set i x))))] <| .val 78 (.vptr 8 (i * 7)) [] <| .val 1 .undef [(8, some (.cells (fl cMk (turnK s.marks (i + 1)))))] .nil) hn hlo (.roundW .cl)
        ⟨c56, by kernel_rfl, mixed, by kernel_rfl, ix, by kernel_rfl, Eq.trans (by kernel_rfl) ixm, Eq.trans (by kernel_rfl) s1, Eq.trans (by kernel_rfl) ixm, Eq.trans (by kernel_rfl) s2, i + 1, hlt, mu1 hlt,
          Wk.le (St.le.of ⟨by kernel_rfl, rfl, by kernel_rfl, rfl, by kernel_rfl, rfl, by kernel_rfl, rfl, by kernel_rfl, rfl, by kernel_rfl, rfl, by kernel_rfl, rfl, by kernel_rfl, rfl, Eq.trans (by kernel_rfl) ei, rfl, trivial⟩ ⟨by kernel_rfl, (by decide : (0 : Nat) < 13), by kernel_rfl, by kernel_rfl, (by decide : (1 : Nat) < 13), by kernel_rfl, by kernel_rfl, (by decide : (5 : Nat) < 13), fl_ok (fun _ => rfl) _, by kernel_rfl, (by decide : (8 : Nat) < 13), fl_ok (fun _ => rfl) _, by kernel_rfl, (by decide : (11 : Nat) < 13), rfl, trivial⟩) (hlo.mono (show 2 ≤ 13 by decide))⟩
    · have c56 : decide ((i : Int) < ((s.marks.length : Nat) : Int)) = false := decide_eq_false (by omega)
      have hie : i = s.marks.length := Nat.le_antisymm hi (Nat.le_of_not_lt hlt)
      have o8 : some (AObj.cells (fl cMk (turnK s.marks i))) = some (.cells (fl cMk (turnM s.marks))) := by rw [hie, turnK_all]
      exact ACode.vcM (.br 56 false .nil) hn hlo (.roundW .cl) ⟨c56, _, .refl _, .nil, (), trivial, Wk.frm (St.frm.of (c := 2) rfl ⟨.inl ⟨by kernel_rfl, rfl⟩, .inl ⟨by kernel_rfl, rfl⟩, .inl ⟨by kernel_rfl, rfl⟩, .inl ⟨by kernel_rfl, rfl⟩, .inl ⟨by kernel_rfl, rfl⟩, .inl ⟨by kernel_rfl, rfl⟩, .inr ⟨rfl, _, th _ (by kernel_rfl) (by kernel_rfl) (Eq.trans (by kernel_rfl) o8), by kernel_rfl⟩, trivial⟩ ⟨by kernel_rfl, (by decide : (0 : Nat) < 2), by kernel_rfl, by kernel_rfl, (by decide : (1 : Nat) < 2), by kernel_rfl, trivial⟩) (hlo0.mono (show 0 ≤ 2 by decide))⟩
theorem law_more (s : Scn) (mo : Mk) (which : Nat) (hw8 : which < 256) : APure Tryz.prog 10 [encSc s, .agg (cMk mo), .int .u8 (which : Int)] (.bool true) := by
  have sA := alive_spec
  have sR := ready_spec s
  cases h1 : scB s
  · rw [h1] at sR
    exact APure.vcM Tryz.func10 (.call (.bool true) <| .call (.bool false) .nil) rfl rfl ⟨sA, sR, [], by kernel_rfl⟩
  rw [h1] at sR
  have hs := scB_iff.1 h1
  obtain ⟨room, hroom, erm⟩ := tmod_rm hs which
  obtain ⟨hnr, hn1, hn6⟩ := nR_eq hs
  have hne : s.rooms ≠ 0 := by omega
  have v40 := w8 hw8
  have mi := Min_sub s hs hroom erm
  obtain ⟨l, el⟩ : ∃ l, l = toldP s room := ⟨_, rfl⟩
  rw [← el] at mi
  refine APure.intro Tryz.func10 rfl (by kernel_rfl) rfl fun g hn hlo0 => ?_
  replace hn : g.n = 217 := hn
  exact ACode.cut 5 (fun _ : Unit => ⟨[(3, .vptr 0 0), (4, .vptr 1 0), (7, .bool true), (8, .int .i64 ((which : Int).tmod s.rooms)), (9, encSps l), (10, .int .i64 0)], [(0, .cells (cSc s)), (1, .cells (cMk mo))], 2⟩) (fun _ => True) (.call (.bool true) <| .call (.bool true) <| .val 40 (.int .i64 (which : Int)) [] <| .nz <| .call (.tup [encSps l, .int .i64 0]) .nil) hn hlo0 .ret rfl ⟨sA, sR, Eq.trans (by kernel_rfl) v40, hne, mi, (), trivial,
    Wk.le (St.le.of ⟨by kernel_rfl, rfl, by kernel_rfl, rfl, by kernel_rfl, rfl, by kernel_rfl, rfl, by kernel_rfl, rfl, by kernel_rfl, rfl, trivial⟩ ⟨by kernel_rfl, (by decide : (0 : Nat) < 2), by kernel_rfl, by kernel_rfl, (by decide : (1 : Nat) < 2), by kernel_rfl, trivial⟩) (hlo0.mono (show 0 ≤ 2 by decide))⟩ fun _ _ => mo1 hs hroom erm el hn hlo0
end Go.Proofs.YtjoagmjijbfjkaaGreatDoor

import Derived.Test.YtjoagmjijbfjkaaGreatDoorNU
import Derived.Test.YtjoagmjijbfjkaaGreatDoorLF
import Derived.Test.YtjoagmjijbfjkaaGreatDoorXW
/-
  THE MARKS WITH SOME IDS, as the laws pick them. Plain.
-/
namespace Go.Proofs.YtjoagmjijbfjkaaGreatDoor
open Go Go.Am
def wStep (ids : List Int) (K : List Mk) (m : Mk) : List Mk := if ids[K.length]? = some m.id then K ++ [m] else K
def wK (ms : List Mk) (ids : List Int) : List Mk := ms.foldl (wStep ids) []
theorem wK_take {ms : List Mk} {ids : List Int} {i : Nat} {m : Mk} (h : ms[i]? = some m) : wK (ms.take (i + 1)) ids = wStep ids (wK (ms.take i) ids) m := by
  unfold wK
  rw [take_snoc h, List.foldl_append]; rfl
theorem wStep_len (ids : List Int) (K : List Mk) (m : Mk) : (wStep ids K m).length ≤ K.length + 1 := by
  unfold wStep; split
  · rw [List.length_append]; exact Nat.le_refl _
  · omega
theorem wK_len (ids : List Int) : ∀ (ms : List Mk) (K : List Mk), (ms.foldl (wStep ids) K).length ≤ K.length + ms.length := by
  intro ms
  induction ms with
  | nil => intro K; exact Nat.le_refl _
  | cons m ms ih =>
    intro K
    have := ih (wStep ids K m)
    have := wStep_len ids K m
    rw [List.foldl_cons, List.length_cons]; omega
theorem wK_sub : ∀ {ms sub : List Mk}, List.Sublist sub ms → ms.Pairwise (fun a b => a.id < b.id) → ∀ K : List Mk, ms.foldl (wStep ((K ++ sub).map (·.id))) K = K ++ sub := by
  intro ms sub h
  induction h with
  | slnil => intro _ K; rw [List.append_nil]; rfl
  | @cons l₁ l₂ a hs ih =>
    intro hp K
    obtain ⟨h1, h2⟩ := List.pairwise_cons.1 hp
    have e : wStep ((K ++ l₁).map (·.id)) K a = K := by
      unfold wStep
      rw [if_neg]
      rw [List.map_append, List.getElem?_append_right (by rw [List.length_map]; exact Nat.le_refl _), List.length_map, Nat.sub_self]
      cases l₁ with
      | nil => intro q; cases q
      | cons x l =>
        intro q
        have q : x.id = a.id := by simpa using q
        have := h1 x (hs.subset List.mem_cons_self)
        omega
    rw [List.foldl_cons, e]
    exact ih h2 K
  | @cons_cons l₁ l₂ a _ ih =>
    intro hp K
    obtain ⟨h1, h2⟩ := List.pairwise_cons.1 hp
    have e : wStep ((K ++ a :: l₁).map (·.id)) K a = K ++ [a] := by
      unfold wStep
      rw [if_pos]
      rw [List.map_append, List.getElem?_append_right (by rw [List.length_map]; exact Nat.le_refl _), List.length_map, Nat.sub_self]
      rfl
    rw [List.foldl_cons, e]
    have := ih h2 (K ++ [a])
    rw [List.append_assoc] at this
    exact this
/-- Of a valid scene the marks with some of its Ids are those. -/
theorem wK_is {s : Scn} (h : ScOk s) {sub : List Mk} (hs : List.Sublist sub s.marks) : wK s.marks (sub.map (·.id)) = sub := wK_sub hs (ids_inc h.inc).2 []
def wB (s : Scn) (ids : List Int) : Bool := (((wK s.marks ids).length : Nat) : Int) == ((ids.length : Nat) : Int)
theorem wB_is {s : Scn} (h : ScOk s) {sub : List Mk} (hs : List.Sublist sub s.marks) : wB s (sub.map (·.id)) = true := by
  unfold wB
  rw [wK_is h hs, List.length_map]; exact beq_self_eq_true _
end Go.Proofs.YtjoagmjijbfjkaaGreatDoor
/-
  THE MARKS WITH SOME IDS.
-/
namespace Go.Proofs.YtjoagmjijbfjkaaGreatDoor
open Go Go.Am
set_option maxRecDepth 100000
set_option maxHeartbeats 4000000
theorem mk_ok (n : Nat) (l : List Mk) : okL n (fl cMk l) = true := fl_ok (enc := cMk) (fun _ => rfl) l
theorem thaw_With {h : Nat → Option AObj} {s : Scn} {K : List Mk} {j : Nat} {b : Bool} (hj : h j = some (.cells (fl cMk K))) :
    thaw 8 h (.tup [.agg [.int .i64 s.rooms, encGs s.gates, .int .i64 s.fin, .rsl j 0 K.length 7], .bool b]) = some (.tup [encSc (wM s K), .bool b], [j]) := by
  have e2 : thaw 6 h (.rsl j 0 K.length 7) = some (encMs K, [j]) := thaw_fl (enc := cMk) (n := 7) 4 (fun _ => rfl) (fun _ => rfl) hj
  have e3 : ∀ (v : AV), v.ok 0 = true → thaw 6 h v = some (v, []) := fun v hv => by unfold thaw; exact if_pos hv
  have e4 : thaw 7 h (.agg [.int .i64 s.rooms, encGs s.gates, .int .i64 s.fin, .rsl j 0 K.length 7]) = some (encSc (wM s K), [j]) := by
    have e : thaw 7 h (.agg [.int .i64 s.rooms, encGs s.gates, .int .i64 s.fin, .rsl j 0 K.length 7]) = (mapO (thaw 6 h) [.int .i64 s.rooms, encGs s.gates, .int .i64 s.fin, .rsl j 0 K.length 7]).map fun p => (.agg p.1, p.2) := rfl
    rw [e]
    simp only [mapO, e2, e3 (.int .i64 s.rooms) rfl, e3 (encGs s.gates) rfl, e3 (.int .i64 s.fin) rfl]
    rfl
  have e5 : thaw 7 h (.bool b) = some (.bool b, []) := by unfold thaw; exact if_pos rfl
  have e : thaw 8 h (.tup [.agg [.int .i64 s.rooms, encGs s.gates, .int .i64 s.fin, .rsl j 0 K.length 7], .bool b]) = (mapO (thaw 7 h) [.agg [.int .i64 s.rooms, encGs s.gates, .int .i64 s.fin, .rsl j 0 K.length 7], .bool b]).map fun p => (.tup p.1, p.2) := rfl
  rw [e]
  simp only [mapO, e4, e5]
  rfl
theorem with_spec (s : Scn) (hml : s.marks.length ≤ 100) (ids : List Int) (_hil : ids.length ≤ 100000) : APure Tryz.prog 42 [encSc s, encR ids] (.tup [encSc (wM s (wK s.marks ids)), .bool (wB s ids)]) := by
  refine APure.vcM Tryz.func42 .loop rfl rfl ?_
  intro g hn hlo
  replace hn : g.n = 46 := hn
  replace hlo : g.low 0 := hlo
  refine acode_whileW (fun i : Nat => ⟨[(1, encR ids), (4, .vptr 1 0), (6, .vptr 2 0), (7, .int .i64 (wK (s.marks.take i) ids).length), (13, encMs s.marks), (14, .int .i64 (s.marks.map cMk).length), (15, .int .i64 i)], [(1, .cells [.int .i64 0, .nil, .int .i64 0, .nil]), (2, .cells [.int .i64 s.rooms, encGs s.gates, .int .i64 s.fin, .rsl 3 0 (wK (s.marks.take i) ids).length 7]), (3, .cells (fl cMk (wK (s.marks.take i) ids)))], 4⟩) (fun i => i ≤ s.marks.length) (fun i => s.marks.length - i) 0 (Nat.zero_le _) ?_ ?_
  · refine Wk.trans (Wk.le ?_ (hlo.mono (show 0 ≤ 4 by decide))) (Wk.trans (Wk.ownC (S := ⟨[(1, encR ids), (4, .vptr 1 0), (6, .vptr 2 0), (7, .int .i64 0), (13, encMs s.marks), (14, .int .i64 (s.marks.map cMk).length), (15, .int .i64 0)], [(1, .cells [.int .i64 0, .nil, .int .i64 0, .nil]), (2, .cells [.int .i64 s.rooms, encGs s.gates, .int .i64 s.fin, .nil])], 3⟩) 2 3 7 (cs := [.int .i64 s.rooms, encGs s.gates, .int .i64 s.fin, .nil]) rfl rfl)
      (Wk.le (S' := ⟨[(1, encR ids), (4, .vptr 1 0), (6, .vptr 2 0), (7, .int .i64 0), (13, encMs s.marks), (14, .int .i64 (s.marks.map cMk).length), (15, .int .i64 0)], [(1, .cells [.int .i64 0, .nil, .int .i64 0, .nil]), (2, .cells [.int .i64 s.rooms, encGs s.gates, .int .i64 s.fin, .nil])], 3⟩) ?_ (hlo.mono (show 0 ≤ 3 by decide))))
    · exact St.le.of ⟨by kernel_rfl, rfl, by kernel_rfl, rfl, by kernel_rfl, rfl, by kernel_rfl, rfl, by kernel_rfl, rfl, by kernel_rfl, rfl, by kernel_rfl, rfl, trivial⟩ ⟨by kernel_rfl, (by decide : (1 : Nat) < 4), rfl, by kernel_rfl, (by decide : (2 : Nat) < 4), rfl, by kernel_rfl, (by decide : (3 : Nat) < 4), mk_ok _ _, trivial⟩
    · exact St.le.of ⟨by kernel_rfl, rfl, by kernel_rfl, rfl, by kernel_rfl, rfl, by kernel_rfl, rfl, by kernel_rfl, rfl, by kernel_rfl, rfl, by kernel_rfl, rfl, trivial⟩ ⟨by kernel_rfl, (by decide : (1 : Nat) < 3), rfl, by kernel_rfl, (by decide : (2 : Nat) < 3), rfl, trivial⟩
  · intro i hi
    replace hi : i ≤ s.marks.length := hi
    have hKl : (wK (s.marks.take i) ids).length ≤ 100 := by
      have := wK_len ids (s.marks.take i) []
      rw [List.length_take, List.length_nil] at this
      unfold wK; omega
    by_cases hlt : i < s.marks.length
    · refine Exists.elim (getE hlt) fun m hm => ?_
      have ei := congrArg (AV.int .i64) (succ64 (k := i) (by omega))
      have et := wK_take (ids := ids) hm
      generalize wK (s.marks.take i) ids = K at *
      by_cases hk : K.length < ids.length
      · refine Exists.elim (getE hk) fun x hx => ?_
        have b23 : decide (((K.length : Nat) : Int) < ((ids.map encI).length : Int)) = true := ltLen hk
        have ix : 0 ≤ ((K.length : Nat) : Int) ∧ (ids.map encI)[((K.length : Nat) : Int).toNat]? = some (encI x) := idx hx
        refine (Bool.eq_false_or_eq_true (x == m.id)).elim (fun hb => ?_) (fun hb => ?_)
        · have es : wK (s.marks.take (i + 1)) ids = K ++ [m] := by
            rw [et]; unfold wStep
            rw [if_pos (by rw [hx, eq_of_beq hb])]
          have el : (wK (s.marks.take (i + 1)) ids).length = K.length + 1 := by rw [es]; simp
          have ap := app_mk (h := hget [(3, .cells (fl cMk K)), (19, .cells (cMk m))]) (i := 3) (j := 19) (nid := 20) (n := K.length) (l := K) (x := m) rfl rfl (by decide) (Nat.le_refl _) (by omega)
          rw [List.take_length, ← es, ← el] at ap
          have ek : AV.int .i64 (IntKind.i64.wrap (((K.length : Nat) : Int) + 1)) = .int .i64 ((wK (s.marks.take (i + 1)) ids).length : Nat) := by rw [el, succ64 (by omega)]
          exact ACode.vcM (.br 16 true <| .cells (cMk m) <| .draw 11 <| .br 23 true <| .cells (encI x) <| .br 31 true <| .val 36 (.rsl 20 0 (wK (s.marks.take (i + 1)) ids).length 7) [(3, none), (20, some (.cells (fl cMk (wK (s.marks.take (i + 1)) ids))))] .nil) hn hlo (.roundW .cl) ⟨ltLen hlt, idx hm, by kernel_rfl, mixed, by kernel_rfl, b23, ix, by kernel_rfl, hb, Eq.trans (by kernel_rfl) ap, i + 1, hlt, mu1 hlt,
            Wk.renC (c := 3) (b := 20) (St.renC.of rfl (.inl (by decide)) ⟨RV.eq (by kernel_rfl) rfl, RV.eq (by kernel_rfl) rfl, RV.eq (by kernel_rfl) rfl, RV.eq (Eq.trans (by kernel_rfl) ek) rfl, RV.eq (by kernel_rfl) rfl, RV.eq (by kernel_rfl) rfl, RV.eq (Eq.trans (by kernel_rfl) ei) rfl, trivial⟩
              ⟨rvO.same (by decide : (1 : Nat) < 3) (by kernel_rfl) rfl, rvO.turn (by decide : (2 : Nat) < 3) (by kernel_rfl) (show rvL 3 20 [.int .i64 s.rooms, encGs s.gates, .int .i64 s.fin, .rsl 3 0 (wK (s.marks.take (i + 1)) ids).length 7] [.int .i64 s.rooms, encGs s.gates, .int .i64 s.fin, .rsl 20 0 (wK (s.marks.take (i + 1)) ids).length 7] from ⟨RV.eq rfl rfl, RV.eq rfl rfl, RV.eq rfl rfl, .rsl, trivial⟩), rvO.new (by kernel_rfl) (mk_ok _ _), trivial⟩) (hlo.mono (show 0 ≤ 3 by decide))⟩
        · have es : wK (s.marks.take (i + 1)) ids = K := by
            rw [et]; unfold wStep
            rw [if_neg (by rw [hx]; intro q; cases q; rw [beq_self_eq_true] at hb; cases hb)]
          have e7 : AV.int .i64 ((K.length : Nat) : Int) = .int .i64 ((wK (s.marks.take (i + 1)) ids).length : Nat) := by rw [es]
          have e2 : some (AObj.cells [.int .i64 s.rooms, encGs s.gates, .int .i64 s.fin, .rsl 3 0 K.length 7]) = some (.cells [.int .i64 s.rooms, encGs s.gates, .int .i64 s.fin, .rsl 3 0 (wK (s.marks.take (i + 1)) ids).length 7]) := by rw [es]
          have e3 : some (AObj.cells (fl cMk K)) = some (.cells (fl cMk (wK (s.marks.take (i + 1)) ids))) := by rw [es]
          exact ACode.vcM (.br 16 true <| .cells (cMk m) <| .draw 11 <| .br 23 true <| .cells (encI x) <| .br 31 false .nil) hn hlo (.roundW .cl) ⟨ltLen hlt, idx hm, by kernel_rfl, mixed, by kernel_rfl, b23, ix, by kernel_rfl, hb, i + 1, hlt, mu1 hlt,
            Wk.le (St.le.of ⟨by kernel_rfl, rfl, by kernel_rfl, rfl, by kernel_rfl, rfl, Eq.trans (by kernel_rfl) e7, rfl, by kernel_rfl, rfl, by kernel_rfl, rfl, Eq.trans (by kernel_rfl) ei, rfl, trivial⟩ ⟨by kernel_rfl, (by decide : (1 : Nat) < 4), rfl, Eq.trans (by kernel_rfl) e2, (by decide : (2 : Nat) < 4), rfl, Eq.trans (by kernel_rfl) e3, (by decide : (3 : Nat) < 4), mk_ok _ _, trivial⟩) (hlo.mono (show 0 ≤ 4 by decide))⟩
      · have b23 : decide (((K.length : Nat) : Int) < ((ids.map encI).length : Int)) = false := geLen hk
        have es : wK (s.marks.take (i + 1)) ids = K := by
          rw [et]; unfold wStep
          rw [if_neg (by rw [List.getElem?_eq_none (by omega)]; intro q; cases q)]
        have e7 : AV.int .i64 ((K.length : Nat) : Int) = .int .i64 ((wK (s.marks.take (i + 1)) ids).length : Nat) := by rw [es]
        have e2 : some (AObj.cells [.int .i64 s.rooms, encGs s.gates, .int .i64 s.fin, .rsl 3 0 K.length 7]) = some (.cells [.int .i64 s.rooms, encGs s.gates, .int .i64 s.fin, .rsl 3 0 (wK (s.marks.take (i + 1)) ids).length 7]) := by rw [es]
        have e3 : some (AObj.cells (fl cMk K)) = some (.cells (fl cMk (wK (s.marks.take (i + 1)) ids))) := by rw [es]
        exact ACode.vcM (.br 16 true <| .cells (cMk m) <| .draw 11 <| .br 23 false .nil) hn hlo (.roundW .cl) ⟨ltLen hlt, idx hm, by kernel_rfl, mixed, by kernel_rfl, b23, by kernel_rfl, i + 1, hlt, mu1 hlt,
          Wk.le (St.le.of ⟨by kernel_rfl, rfl, by kernel_rfl, rfl, by kernel_rfl, rfl, Eq.trans (by kernel_rfl) e7, rfl, by kernel_rfl, rfl, by kernel_rfl, rfl, Eq.trans (by kernel_rfl) ei, rfl, trivial⟩ ⟨by kernel_rfl, (by decide : (1 : Nat) < 4), rfl, Eq.trans (by kernel_rfl) e2, (by decide : (2 : Nat) < 4), rfl, Eq.trans (by kernel_rfl) e3, (by decide : (3 : Nat) < 4), mk_ok _ _, trivial⟩) (hlo.mono (show 0 ≤ 4 by decide))⟩
    · have hall : s.marks.take i = s.marks := List.take_of_length_le (by omega)
      have eb : ((((wK (s.marks.take i) ids).length : Nat) : Int) == ((ids.map encI).length : Int)) = wB s ids := by unfold wB; rw [hall, List.length_map]
      have th := fun (h : Nat → Option AObj) (hj : h 3 = some (.cells (fl cMk (wK (s.marks.take i) ids)))) => (show thaw 8 h (.tup [.agg [.int .i64 s.rooms, encGs s.gates, .int .i64 s.fin, .rsl 3 0 (wK (s.marks.take i) ids).length 7], .bool ((((wK (s.marks.take i) ids).length : Nat) : Int) == ((ids.map encI).length : Int))]) = some (.tup [encSc (wM s (wK s.marks ids)), .bool (wB s ids)], [3]) from by
        rw [eb]
        have := thaw_With (s := s) (b := wB s ids) hj
        rw [hall] at this ⊢
        exact this)
      exact ACode.vcM (.br 16 false .nil) hn hlo (.roundW .cl) ⟨geLen hlt, _, .refl _, .nil, [3], th _ (by kernel_rfl)⟩
end Go.Proofs.YtjoagmjijbfjkaaGreatDoor
/-
  THE LAW OF WITNESSES.
-/
namespace Go.Proofs.YtjoagmjijbfjkaaGreatDoor
open Go Go.Am
set_option maxRecDepth 100000
set_option maxHeartbeats 4000000
/-! ### marks that are chosen -/
def othF (c : Nat → Bool) : Nat → List Mk → List Mk
  | _, [] => []
  | i, m :: l => if c i then m :: othF c (i + 1) l else othF c (i + 1) l
theorem othF_snoc (c : Nat → Bool) (m : Mk) : ∀ (l : List Mk) (i : Nat), othF c i (l ++ [m]) = othF c i l ++ (if c (i + l.length) then [m] else []) := by
  intro l
  induction l with
  | nil => intro i; show (if c i then m :: othF c (i + 1) [] else othF c (i + 1) []) = _; cases c i <;> simp [othF]
  | cons a l ih =>
    intro i
    have e : i + (a :: l).length = i + 1 + l.length := by rw [List.length_cons]; omega
    rw [e]
    show (if c i then a :: othF c (i + 1) (l ++ [m]) else othF c (i + 1) (l ++ [m])) = (if c i then a :: othF c (i + 1) l else othF c (i + 1) l) ++ _
    rw [ih]
    cases c i <;> rfl
theorem othF_sub (c : Nat → Bool) : ∀ (l : List Mk) (i : Nat), List.Sublist (othF c i l) l := by
  intro l
  induction l with
  | nil => intro i; exact .slnil
  | cons a l ih =>
    intro i
    show List.Sublist (if c i then a :: othF c (i + 1) l else othF c (i + 1) l) (a :: l)
    cases c i
    · exact (ih _).cons a
    · exact (ih _).cons_cons a
theorem othF_take {c : Nat → Bool} {l : List Mk} {i : Nat} {m : Mk} (h : l[i]? = some m) : othF c 0 (l.take (i + 1)) = othF c 0 (l.take i) ++ (if c i then [m] else []) := by
  have hi := heap_ltL h
  rw [take_snoc h, othF_snoc, List.length_take, Nat.min_eq_left (by omega), Nat.zero_add]
def shV (bits i : Nat) : Int := ((bits : Int)).fdiv (2 ^ (min ((i : Int)).toNat IntKind.u8.bits))
def cnd (bits i : Nat) : Bool := IntKind.u8.wrap ((BitVec.ofInt IntKind.u8.bits (shV bits i) &&& BitVec.ofInt IntKind.u8.bits 1).toNat : Int) == 1
theorem app_intsL {h : Nat → Option AObj} {i nid : Nat} {l m : List Int} (h0 : h i = some (.cells (iL l))) (hl : l.length + m.length ≤ 100000) :
    aAppend Tryz.prog h nid 24 24 (.rsl i 0 l.length 1) (.lst 1 (m.map encI)) = some ⟨.rsl nid 0 (l.length + m.length) 1, [(i, none), (nid, some (.cells (iL (l ++ m))))]⟩ := by
  have e : iL (l ++ m) = iL l ++ iL m := by unfold iL fl; simp
  have hb : (iL m).all cellB = true := fl_cellB (enc := encI) (fun _ => rfl) m
  have hlen := iL_len l
  rw [app_exact h0 (by omega), e]
  simp only [aAppend0, ty24, ty3, srcCells, map_all (enc := encI) (n := 1) (fun _ => rfl) m, fl_flatten, h0]
  have hb2 : (fl encI m).all cellB = true := hb
  have e3 : fl encI m = iL m := rfl
  simp [hlen, e3]
  exact ⟨List.all_eq_true.1 hb, by omega⟩
theorem slTake {h : Nat → Option AObj} {l : List Int} {k : Nat} {i : Int} (hi : i = (k : Int)) (hk : k ≤ l.length) : (aSlice Tryz.prog h 24 (encR l) none (some (.int .i64 i))).map (fun v => (⟨v, []⟩ : Out)) = some ⟨encR (l.take k), []⟩ := by
  subst hi
  simp only [aSlice, ty24, ty3, encR, abound]
  simp [hk, List.map_take]
theorem slDrop {h : Nat → Option AObj} {l : List Int} {k : Nat} {i : Int} (hi : i = (k : Int)) (hk : k ≤ l.length) : (aSlice Tryz.prog h 24 (encR l) (some (.int .i64 i)) none).map (fun v => (⟨v, []⟩ : Out)) = some ⟨encR (l.drop k), []⟩ := by
  subst hi
  simp only [aSlice, ty24, ty3, encR, abound]
  have e : (l.map encI).take l.length = l.map encI := List.take_of_length_le (by simp)
  simp [hk, List.map_drop, e]
/-- The closure of the law. -/
theorem exc_spec (s : Scn) (hs : ScOk s) {room : Nat} (hroom : room < nR s) {RM : Int} (erm : RM = (room : Int)) {sub : List Mk} (hsub : List.Sublist sub s.marks) :
    APure Tryz.prog 41 [encR (sub.map (·.id)), .cptr (cSc s), .cptr [.int .i64 RM]] (.tup [.bool (exM s room sub), .bool true]) := by
  have hml := hs.ml
  have hsl := hsub.length_le
  have w := with_spec s (by omega) (sub.map (·.id)) (by rw [List.length_map]; omega)
  rw [wK_is hs hsub, wB_is hs hsub] at w
  have hs2 := scOk_sub hs hsub
  have hr2 : room < nR (wM s sub) := hroom
  have e0 : rmE (wM s sub) RM = 0 := by rw [erm]; exact rm_of hs2 hr2
  have mi := Minutes_ok (wM s sub) RM
  have ev : mnV (wM s sub) RM = toldP (wM s sub) room := by unfold mnV; rw [if_pos e0, erm, Int.toNat_natCast]
  rw [e0, ev] at mi
  have hx := told_wM (s := s) (room := room) (ms := sub)
  have e24 : some (⟨.bool ((((toldP (wM s sub) room).map cSp).length : Int) == 0), []⟩ : Out) = some ⟨.bool (exM s room sub), []⟩ := by
    congr 3
    rw [Bool.eq_iff_iff, ← hx, List.length_map, beq_iff_eq]
    constructor
    · intro q; exact List.eq_nil_of_length_eq_zero (by omega)
    · intro q; rw [q]; rfl
  exact APure.vc Tryz.func41 rfl (.call (.tup [encSc (wM s sub), .bool true]) <| .call (.tup [encSps (toldP (wM s sub) room), .int .i64 0]) <| .val 24 (.bool (exM s room sub)) [] .nil) rfl rfl ⟨w, mi, Eq.trans (by kernel_rfl) e24, trivial, by kernel_rfl⟩
noncomputable def bodyWt : Code := (Tryz.f8.body).getD .skip
abbrev excF (s : Scn) (RM : Int) : AV := .fn (.func 41) [] [.cptr (cSc s), .cptr [.int .i64 RM]]
theorem thawL_exc {h : Nat → Option AObj} {s : Scn} {RM : Int} {l : List Int} {id : Nat} (h0 : h id = some (.cells (iL l))) : thawL h [.rsl id 0 l.length 1, .cptr (cSc s), .cptr [.int .i64 RM]] = some ([encR l, .cptr (cSc s), .cptr [.int .i64 RM]], [id]) := by
  have e := thaw_fl (enc := encI) (n := 1) 6 (fun _ => rfl) (fun _ => rfl) h0
  have e1 : thaw 8 h (.cptr (cSc s)) = some (.cptr (cSc s), []) := by unfold thaw; exact if_pos rfl
  have e2 : thaw 8 h (.cptr [.int .i64 RM]) = some (.cptr [.int .i64 RM], []) := by unfold thaw; exact if_pos rfl
  simp only [thawL, mapO, e, e1, e2]; rfl
end Go.Proofs.YtjoagmjijbfjkaaGreatDoor
/-
  THE LAW OF MARKS THAT ALLOW NO TRUTH.
-/
namespace Go.Proofs.YtjoagmjijbfjkaaGreatDoor
open Go Go.Am
set_option maxRecDepth 100000
set_option maxHeartbeats 4000000
theorem rs_ok {s : Scn} (hs : ScOk s) : rsV s = roomsP s ∧ ckE s = 0 := by
  unfold rsV ckE
  rw [scB_iff.2 hs]; exact ⟨rfl, rfl⟩
theorem with_sub {s : Scn} (hs : ScOk s) {sub : List Mk} (hsub : List.Sublist sub s.marks) : APure Tryz.prog 42 [encSc s, encR (sub.map (·.id))] (.tup [encSc (wM s sub), .bool true]) := by
  have hml := hs.ml
  have hsl := hsub.length_le
  have w := with_spec s (by omega) (sub.map (·.id)) (by rw [List.length_map]; omega)
  rw [wK_is hs hsub, wB_is hs hsub] at w
  exact w
theorem rooms_sub {s : Scn} (hs : ScOk s) {sub : List Mk} (hsub : List.Sublist sub s.marks) : APure Tryz.prog 17 [encSc (wM s sub)] (encLe (roomsP (wM s sub)) 0) := by
  have r := Rooms_ok (wM s sub)
  obtain ⟨e1, e2⟩ := rs_ok (scOk_sub hs hsub)
  rw [e1, e2] at r
  exact r
theorem law_against (s : Scn) : APure Tryz.prog 9 [encSc s] (.bool true) := by
  have sA := alive_spec
  have sR := ready_spec s
  cases h1 : scB s
  · rw [h1] at sR
    exact APure.vcM Tryz.func9 (.call (.bool true) <| .call (.bool false) .nil) rfl rfl ⟨sA, sR, [], by kernel_rfl⟩
  rw [h1] at sR
  have hs := scB_iff.1 h1
  have aA := Against_ok s
  have rA := Rooms_ok s
  obtain ⟨er, ec⟩ := rs_ok hs
  rw [er, ec] at rA
  rw [ec] at aA
  have ea : agV s = (agP s).getD [] := by unfold agV; rw [h1]; rfl
  rw [ea] at aA
  have hml := hs.ml
  cases hw : agP s with
  | none =>
    rw [hw] at aA
    have hne := ag_none.1 hw
    have v46 : some (⟨.bool (decide ((((roomsP s).map encI).length : Int) > 0)), []⟩ : Out) = some ⟨.bool true, []⟩ := by
      rw [decide_eq_true (by rw [List.length_map]; have := List.length_pos_iff.2 hne; omega)]
    exact APure.vcM Tryz.func9 (.call (.bool true) <| .call (.bool true) <| .call (encLe [] 0) <| .call (encLe (roomsP s) 0) <| .val 46 (.bool true) [] .nil) rfl rfl ⟨sA, sR, aA, rA, Eq.trans (by kernel_rfl) v46, [], by kernel_rfl⟩
  | some w =>
    rw [hw] at aA
    obtain ⟨sub, hF⟩ := ag_some hs hw
    have hrn : roomsP s = [] := by
      by_cases q : roomsP s = []
      · exact q
      · rw [ag_none.2 q] at hw; cases hw
    rw [hrn] at rA
    have hsl := hF.sl.length_le
    have hwl : w.length = sub.length := by rw [hF.ids, List.length_map]
    have hpos : 0 < w.length := List.length_pos_iff.2 hF.ne
    have w0 := with_sub hs hF.sl
    rw [← hF.ids] at w0
    have r0 := rooms_sub hs hF.sl
    rw [hF.nil] at r0
    have v43 : some (⟨.bool (((w.map encI).length : Int) == 0), []⟩ : Out) = some ⟨.bool false, []⟩ := by
      rw [show (((w.map encI).length : Int) == 0) = false from by rw [beq_eq_false_iff_ne, List.length_map]; omega]
    refine APure.vcM Tryz.func9 (.call (.bool true) <| .call (.bool true) <| .call (encLe w 0) <| .call (encLe [] 0) <| .val 43 (.bool false) [] <| .val 51 (.bool false) [] <| .call (.tup [encSc (wM s sub), .bool true]) <| .call (encLe [] 0) .loop) rfl rfl
      ⟨sA, sR, aA, rA, Eq.trans (by kernel_rfl) v43, Eq.trans (by kernel_rfl) v43, w0, r0, ?_⟩
    intro g hn hlo
    replace hn : g.n = 113 := hn
    replace hlo : g.low 0 := hlo
    refine acode_while (fun k : Nat => ⟨[(1, .vptr 0 0), (3, .bool true), (4, encR w), (76, .int .i64 (w.map encI).length), (77, .int .i64 k)], [(0, .cells (cSc s))], 1⟩) (fun k => k ≤ w.length) (fun k => w.length - k) 0 (Nat.zero_le _) ?_ (fun _ _ => hlo.mono (Nat.zero_le _)) ?_
    · exact St.le.of ⟨by kernel_rfl, rfl, by kernel_rfl, rfl, by kernel_rfl, rfl, by kernel_rfl, rfl, by kernel_rfl, rfl, trivial⟩ ⟨by kernel_rfl, (by decide : (0 : Nat) < 1), by kernel_rfl, trivial⟩
    · intro k hk
      replace hk : k ≤ w.length := hk
      by_cases hlt : k < w.length
      · have hsub := (erase_sub sub k).trans hF.sl
        have ew := with_sub hs hsub
        have er := rooms_sub hs hsub
        have eW : (sub.eraseIdx k).map (fun m : Mk => m.id) = w.take k ++ w.drop (k + 1) := by rw [← erase_map, ← hF.ids, List.eraseIdx_eq_take_drop_succ]
        have hless := hF.less k hlt
        have ek := congrArg (AV.int .i64) (succ64 (k := k) (by omega))
        have e85 := slTake (h := hget [(2, .cells [])]) (l := w) (k := k) (i := (k : Int)) rfl hk
        have ap1 := app_intsL (h := hget [(2, .cells [])]) (i := 2) (nid := 6) (l := []) (m := w.take k) rfl (by rw [List.length_take, List.length_nil]; omega)
        rw [List.nil_append, show ([] : List Int).length + (w.take k).length = (w.take k).length from Nat.zero_add _] at ap1
        have e90 := slDrop (h := hget [(6, .cells (iL (w.take k)))]) (l := w) (k := k + 1) (i := IntKind.i64.wrap ((k : Int) + 1)) (succ64 (by omega)) hlt
        have ap2 := app_intsL (h := hget [(6, .cells (iL (w.take k)))]) (i := 6) (nid := 11) (l := w.take k) (m := w.drop (k + 1)) rfl (by rw [List.length_take, List.length_drop]; omega)
        rw [← List.length_append] at ap2
        change APure Tryz.prog 42 [encSc s, encR ((sub.eraseIdx k).map (fun m : Mk => m.id))] _ at ew
        rw [eW] at ew
        generalize w.take k = A at *
        generalize w.drop (k + 1) = B at *
        obtain ⟨W, hW⟩ : ∃ W, W = A ++ B := ⟨_, rfl⟩
        rw [← hW] at ap2 ew
        generalize roomsP (wM s (sub.eraseIdx k)) = R at *
        generalize wM s (sub.eraseIdx k) = S2 at *
        have v109 : some (⟨.bool (((R.map encI).length : Int) == 0), []⟩ : Out) = some ⟨.bool false, []⟩ := by
          rw [show (((R.map encI).length : Int) == 0) = false from by rw [beq_eq_false_iff_ne, List.length_map]; have := List.length_pos_iff.2 hless; omega]
        have tl := fun (h : Nat → Option AObj) (h0 : h 11 = some (.cells (iL W))) => (show thawL h [encSc s, .rsl 11 0 W.length 1] = some ([encSc s, encR W], [11]) by
          have e := thaw_fl (enc := encI) (n := 1) 6 (fun _ => rfl) (fun _ => rfl) h0
          have e1 : thaw 8 h (encSc s) = some (encSc s, []) := by unfold thaw; exact if_pos rfl
          simp only [thawL, mapO, e, e1]; rfl)
        exact ACode.vcM (.br 78 true <| .draw 17 <| .val 85 (encR A) [] <| .val 86 (.rsl 6 0 A.length 1) [(2, none), (6, some (.cells (iL A)))] <| .val 90 (encR B) [] <| .val 91 (.rsl 11 0 W.length 1) [(6, none), (11, some (.cells (iL W)))] <| .letgo (.tup [encSc S2, .bool true]) [11] <| .call (encLe R 0) <| .val 109 (.bool false) [] .nil) hn hlo (.round .cl)
          ⟨ltLen hlt, by kernel_rfl, mixed, by kernel_rfl, Eq.trans (by kernel_rfl) e85, Eq.trans (by kernel_rfl) ap1, Eq.trans (by kernel_rfl) e90, Eq.trans (by kernel_rfl) ap2, ⟨_, tl _ (by kernel_rfl), ew⟩, by kernel_rfl, er, Eq.trans (by kernel_rfl) v109, k + 1, hlt, mu1 hlt,
            St.le.of ⟨by kernel_rfl, rfl, by kernel_rfl, rfl, by kernel_rfl, rfl, by kernel_rfl, rfl, Eq.trans (by kernel_rfl) ek, rfl, trivial⟩ ⟨by kernel_rfl, (by decide : (0 : Nat) < 1), by kernel_rfl, trivial⟩⟩
      · exact ACode.vcM (.br 78 false .nil) hn hlo (.round .cl) ⟨geLen hlt, _, .refl _, .nil, [], by kernel_rfl⟩
end Go.Proofs.YtjoagmjijbfjkaaGreatDoor

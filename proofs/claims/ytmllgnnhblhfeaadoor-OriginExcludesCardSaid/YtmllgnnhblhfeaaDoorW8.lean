import Derived.Test.YtmllgnnhblhfeaaDoorW7
import Derived.Test.YtmllgnnhblhfeaaDoorW3
/-
  TRUTHS, ONE AFTER THE OTHER: what the walk wants.
-/
namespace Go.Proofs.YtmllgnnhblhfeaaDoor
open Go Go.Am
set_option maxRecDepth 100000
set_option maxHeartbeats 4000000
/-! bits -/
theorem and64 {a b : Nat} (ha : a < 4096) (hb : b < 4096) : (BitVec.ofInt 64 (a : Int) &&& BitVec.ofInt 64 (b : Int)).toNat = a &&& b := by
  rw [BitVec.ofInt_natCast, BitVec.ofInt_natCast, BitVec.toNat_and, BitVec.toNat_ofNat, BitVec.toNat_ofNat, Nat.mod_eq_of_lt (by omega), Nat.mod_eq_of_lt (by omega)]
theorem bAnd {a b : Nat} (ha : a < 4096) (hb : b < 4096) : IntKind.i64.wrap (BitVec.ofInt IntKind.i64.bits (a : Int) &&& BitVec.ofInt IntKind.i64.bits (b : Int)).toNat = ((a &&& b : Nat) : Int) := by
  have e : (BitVec.ofInt IntKind.i64.bits (a : Int) &&& BitVec.ofInt IntKind.i64.bits (b : Int)).toNat = a &&& b := and64 ha hb
  rw [e]
  have : a &&& b ≤ a := Nat.and_le_left
  exact wrap64 (by omega) (by omega)
theorem two_lt {i : Nat} (h : i < 12) : 2 ^ i < 4096 := Nat.pow_lt_pow_right (by omega) (show i < 12 from h)
theorem and_two (S i : Nat) : S &&& 2 ^ i = if S.testBit i then 2 ^ i else 0 := by
  refine Nat.eq_of_testBit_eq fun j => ?_
  rw [Nat.testBit_and, Nat.testBit_two_pow]
  by_cases h : i = j
  · subst h
    cases hS : S.testBit i <;> simp
  · rw [decide_eq_false h, Bool.and_false]
    split
    · rw [Nat.testBit_two_pow, decide_eq_false h]
    · rw [Nat.zero_testBit]
theorem bHas {S i : Nat} (hS : S < 4096) (hi : i < 12) : (IntKind.i64.wrap (BitVec.ofInt IntKind.i64.bits (S : Int) &&& BitVec.ofInt IntKind.i64.bits ((2 ^ i : Nat) : Int)).toNat != 0) = S.testBit i := by
  rw [bAnd hS (two_lt hi), and_two]
  cases S.testBit i
  · rfl
  · have := Nat.two_pow_pos i
    rw [if_pos rfl, bne_iff_ne]
    omega
theorem bHas0 {S i : Nat} (hS : S < 4096) (hi : i < 12) : (IntKind.i64.wrap (BitVec.ofInt IntKind.i64.bits (S : Int) &&& BitVec.ofInt IntKind.i64.bits ((2 ^ i : Nat) : Int)).toNat == 0) = !S.testBit i := by
  have := bHas hS hi
  rw [← this]
  simp [bne]
theorem bShl {k : Nat} (h : k < 12) : (if ((k : Int) < 0) then (none : Option AV) else some (.int .i64 (IntKind.i64.wrap (1 * 2 ^ (min (k : Int).toNat IntKind.i64.bits))))) = some (.int .i64 ((2 ^ k : Nat) : Int)) := by
  have hm : min (k : Int).toNat IntKind.i64.bits = k := by
    rw [Int.toNat_natCast]
    exact Nat.min_eq_left (show k ≤ 64 by omega)
  rw [if_neg (by omega), hm, Int.one_mul]
  have := two_lt h
  rw [show ((2 : Int) ^ k) = ((2 ^ k : Nat) : Int) from by simp]
  generalize 2 ^ k = z at this ⊢
  rw [wrap64 (by omega) (by omega)]
theorem bShlO {k : Nat} (h : k < 12) : (if ((k : Int) < 0) then (none : Option AV) else some (.int .i64 (IntKind.i64.wrap (1 * 2 ^ (min (k : Int).toNat IntKind.i64.bits))))).map (fun v => (⟨v, []⟩ : Out)) = some ⟨.int .i64 ((2 ^ k : Nat) : Int), []⟩ := by rw [bShl h]; rfl
/-! rows -/
theorem ixTabO {h : Nat → Option AObj} {id off a : Nat} {i : Int} (hi : i = (a : Int)) (ha : a < 6) : (aindexAddr Tryd.prog h 70 (.vptr id off) (.int .i64 i)).map (fun v => (⟨v, []⟩ : Out)) = some ⟨.vptr id (off + 12 * a), []⟩ := by
  subst hi
  simp only [aindexAddr, ty70, ty68]
  rw [if_pos ⟨Int.natCast_nonneg _, by simpa using ha⟩]
  simp [Nat.mul_comm]
theorem ldRowC {h : Nat → Option AObj} {id a : Nat} {c : Crs} (h0 : h id = some (.cells (cCr c))) (ha : a < 6) : aLoad Tryd.prog h 68 (.vptr id (1 + 12 * a)) = some ⟨.agg (cRow (c.2 a)), []⟩ := by
  have e := tab_row (F := c.2) ha
  have e2 : (cCr c).drop (1 + 12 * a) = (cTab c.2).drop (12 * a) := by rw [Nat.add_comm]; rfl
  have hl : 12 ≤ ((cTab c.2).drop (12 * a)).length := by rw [List.length_drop, tab_len]; omega
  simp only [aLoad, ty68, h0, aread, TD.agg, if_true, e2]
  rw [if_pos hl, e]; rfl
theorem ldRow {h : Nat → Option AObj} {id x : Nat} {f : Nat → Tm} (h0 : h id = some (.cells (cRow f))) (hx : x < 6) : aLoad Tryd.prog h 67 (.vptr id (0 + 2 * x)) = some ⟨encTm (f x), []⟩ := by
  have e := row_at (f := f) hx
  have hl : 2 ≤ ((cRow f).drop (2 * x)).length := by rw [List.length_drop]; show 2 ≤ 12 - 2 * x; omega
  simp only [aLoad, ty67, h0, aread, TD.agg, if_true, Nat.zero_add]
  rw [if_pos hl, e]; rfl
def zC : List AV := .nil :: cTab zF
theorem truths_spec (s : Scn) (crs : List Crs) (room set : Nat) : APure Tryd.prog 60 [encX s crs, .int .i64 (room : Int), .int .i64 (set : Int)] (.fn (.func 67) [] [.cptr (cXa s (encCs crs)), .cptr [.int .i64 (room : Int)], .cptr [.int .i64 (set : Int)]]) := by
  have th : thaw 8 (hget [(0, .cells (cXa s (encCs crs))), (1, .cells [.int .i64 (room : Int)]), (2, .cells [.int .i64 (set : Int)])]) (.fn (.func 67) [] [.vptr 0 0, .vptr 1 0, .vptr 2 0]) = some (.fn (.func 67) [] [.cptr (cXa s (encCs crs)), .cptr [.int .i64 (room : Int)], .cptr [.int .i64 (set : Int)]], [0, 1, 2]) := by
    have e1 : thaw 7 (hget [(0, .cells (cXa s (encCs crs))), (1, .cells [.int .i64 (room : Int)]), (2, .cells [.int .i64 (set : Int)])]) (.vptr 0 0) = some (.cptr (cXa s (encCs crs)), [0]) := by
      have := thaw_all 5 (hget [(0, .cells (cXa s (encCs crs))), (1, .cells [.int .i64 (room : Int)]), (2, .cells [.int .i64 (set : Int)])]) (cXa s (encCs crs)) (cX_ok s crs)
      have e : thaw 7 (hget [(0, .cells (cXa s (encCs crs))), (1, .cells [.int .i64 (room : Int)]), (2, .cells [.int .i64 (set : Int)])]) (.vptr 0 0) = (match mapO (thaw 6 (hget [(0, .cells (cXa s (encCs crs))), (1, .cells [.int .i64 (room : Int)]), (2, .cells [.int .i64 (set : Int)])])) (cXa s (encCs crs)) with | some (cs', is) => some (.cptr (cs'.drop 0), 0 :: is) | none => none) := rfl
      rw [e, this]; rfl
    have e : thaw 8 (hget [(0, .cells (cXa s (encCs crs))), (1, .cells [.int .i64 (room : Int)]), (2, .cells [.int .i64 (set : Int)])]) (.fn (.func 67) [] [.vptr 0 0, .vptr 1 0, .vptr 2 0]) = (match mapO (thaw 7 (hget [(0, .cells (cXa s (encCs crs))), (1, .cells [.int .i64 (room : Int)]), (2, .cells [.int .i64 (set : Int)])])) [], mapO (thaw 7 (hget [(0, .cells (cXa s (encCs crs))), (1, .cells [.int .i64 (room : Int)]), (2, .cells [.int .i64 (set : Int)])])) [.vptr 0 0, .vptr 1 0, .vptr 2 0] with | some (fs', i), some (cs', j) => some (.fn (.func 67) fs' cs', i ++ j) | _, _ => none) := rfl
    rw [e]
    simp only [mapO, e1]
    rfl
  exact APure.vcM Tryd.func60 .nil (by kernel_rfl) (by kernel_rfl) ⟨[0, 1, 2], Eq.trans (by kernel_rfl) th⟩
theorem all_spec (s : Scn) (crs : List Crs) (hl : s.marks.length ≤ 8) : APure Tryd.prog 55 [encX s crs] (.int .i64 ((allN s : Nat) : Int)) := by
  have sh := bShlO (k := s.marks.length) (by omega)
  have hlen : ((s.marks.map cMk).length : Int) = (s.marks.length : Int) := by rw [List.length_map]
  rw [← hlen] at sh
  have p := two_lt (i := s.marks.length) (by omega)
  have p0 := Nat.two_pow_pos s.marks.length
  have e : IntKind.i64.wrap (((2 ^ s.marks.length : Nat) : Int) - 1) = ((allN s : Nat) : Int) := by
    unfold allN
    generalize 2 ^ s.marks.length = z at *
    rw [wrap64 (by omega) (by omega)]; omega
  generalize 2 ^ s.marks.length = z at *
  exact APure.vc Tryd.func55 rfl (.val 7 (.int .i64 (z : Int)) [] .nil) (by kernel_rfl) rfl ⟨Eq.trans (by kernel_rfl) sh, rI e⟩
/-! what is known of a mark of a valid scene -/
theorem mk_sm {s : Scn} (h : ScOk s) {m : Mk} (hm : m ∈ s.marks) : smM m := by
  obtain ⟨_, _, h3, _, _, _, h7⟩ := mk_rooms h hm
  exact ⟨by omega, by omega, by omega⟩
theorem win_bad {fin : Int} {f : Nat → Tm} {ms : List Mk} {set j : Nat} (h : okW (winM fin f (ms.take j) set) = false) : okW (winM fin f ms set) = false := by
  rw [Bool.eq_false_iff] at h ⊢
  intro q
  refine h ?_
  have q1 := of_decide_eq_true q
  obtain ⟨w1, w2⟩ := win_iff.1 (show inS (winM fin f ms set) (winM fin f ms set).1 from ⟨Int.le_refl _, q1⟩)
  have w3 : inS (winM fin f (ms.take j) set) (winM fin f ms set).1 := win_iff.2 ⟨w1, fun m hm => w2 m (by
    obtain ⟨i, h1, h2⟩ := mem_pick.1 hm
    rw [List.getElem?_take] at h1
    split at h1
    · exact mem_pick.2 ⟨i, h1, h2⟩
    · cases h1)⟩
  exact decide_eq_true (Int.le_trans w3.1 w3.2)
/-- What a mark says, by its kind's number. -/
theorem says_k {m : Mk} {fin : Int} {r o : Tm} :
    (m.kd.val = 1 → saysV (mrk m) fin r o = inT r m.lo m.hi) ∧ (m.kd.val = 2 → saysV (mrk m) fin r o = afterT r m.lo) ∧ (m.kd.val = 3 → saysV (mrk m) fin r o = untilT r m.hi) ∧
    (m.kd.val = 4 → saysV (mrk m) fin r o = untilT r (fin - m.long)) ∧ (m.kd.val = 5 → saysV (mrk m) fin r o = afterT r (fin - m.long)) ∧ (m.kd.val = 6 → saysV (mrk m) fin r o = if befT r o then (0, 600) else (1, 0)) := by
  unfold saysV mrk
  dsimp only
  refine ⟨fun h => ?_, fun h => ?_, fun h => ?_, fun h => ?_, fun h => ?_, fun h => ?_⟩
  · rw [if_pos (show ((m.kd.val : Nat) : Int) = 1 by omega)]
  · rw [if_neg (show ¬ ((m.kd.val : Nat) : Int) = 1 by omega), if_pos (show ((m.kd.val : Nat) : Int) = 2 by omega)]
  · rw [if_neg (show ¬ ((m.kd.val : Nat) : Int) = 1 by omega), if_neg (show ¬ ((m.kd.val : Nat) : Int) = 2 by omega), if_pos (show ((m.kd.val : Nat) : Int) = 3 by omega)]
  · rw [if_neg (show ¬ ((m.kd.val : Nat) : Int) = 1 by omega), if_neg (show ¬ ((m.kd.val : Nat) : Int) = 2 by omega), if_neg (show ¬ ((m.kd.val : Nat) : Int) = 3 by omega), if_pos (show ((m.kd.val : Nat) : Int) = 4 by omega)]
  · rw [if_neg (show ¬ ((m.kd.val : Nat) : Int) = 1 by omega), if_neg (show ¬ ((m.kd.val : Nat) : Int) = 2 by omega), if_neg (show ¬ ((m.kd.val : Nat) : Int) = 3 by omega), if_neg (show ¬ ((m.kd.val : Nat) : Int) = 4 by omega), if_pos (show ((m.kd.val : Nat) : Int) = 5 by omega)]
  · rw [if_neg (show ¬ ((m.kd.val : Nat) : Int) = 1 by omega), if_neg (show ¬ ((m.kd.val : Nat) : Int) = 2 by omega), if_neg (show ¬ ((m.kd.val : Nat) : Int) = 3 by omega), if_neg (show ¬ ((m.kd.val : Nat) : Int) = 4 by omega), if_neg (show ¬ ((m.kd.val : Nat) : Int) = 5 by omega)]
/-- The kinds, one by one: what is called, and what it answers. -/
theorem say_fn {s : Scn} (hs : ScOk s) {m : Mk} (hm : m ∈ s.marks) {r o : Tm} (hr : smT r) :
    (m.kd.val = 1 ∧ APure Tryd.prog 40 [.agg (cMj m.id 1 m.room m.other m.lo m.hi m.long), .int .i64 s.fin, encTm r, encTm o] (encSp (saysV (mrk m) s.fin r o))) ∨
    (m.kd.val = 2 ∧ APure Tryd.prog 42 [.agg (cMj m.id 2 m.room m.other m.lo m.hi m.long), .int .i64 s.fin, encTm r, encTm o] (encSp (saysV (mrk m) s.fin r o))) ∨
    (m.kd.val = 3 ∧ APure Tryd.prog 44 [.agg (cMj m.id 3 m.room m.other m.lo m.hi m.long), .int .i64 s.fin, encTm r, encTm o] (encSp (saysV (mrk m) s.fin r o))) ∨
    (m.kd.val = 4 ∧ APure Tryd.prog 46 [.agg (cMj m.id 4 m.room m.other m.lo m.hi m.long), .int .i64 s.fin, encTm r, encTm o] (encSp (saysV (mrk m) s.fin r o))) ∨
    (m.kd.val = 5 ∧ APure Tryd.prog 47 [.agg (cMj m.id 5 m.room m.other m.lo m.hi m.long), .int .i64 s.fin, encTm r, encTm o] (encSp (saysV (mrk m) s.fin r o))) ∨
    (m.kd.val = 6 ∧ APure Tryd.prog 48 [.agg (cMj m.id 6 m.room m.other m.lo m.hi m.long), .int .i64 s.fin, encTm r, encTm o] (encSp (saysV (mrk m) s.fin r o))) := by
  obtain ⟨_, _, _, _, k1, k6, _⟩ := mk_rooms hs hm
  have sm := mk_sm hs hm
  have hf := hs.fin
  obtain ⟨q1, q2, q3, q4, q5, q6⟩ := @says_k m s.fin r o
  have e : ∀ j : Nat, m.kd.val = j → cMk m = cMj m.id (j : Int) m.room m.other m.lo m.hi m.long := fun j h => by rw [cMk_eq, h]
  have six : m.kd.val = 1 ∨ m.kd.val = 2 ∨ m.kd.val = 3 ∨ m.kd.val = 4 ∨ m.kd.val = 5 ∨ m.kd.val = 6 := by omega
  rcases six with h | h | h | h | h | h
  · refine .inl ⟨h, ?_⟩
    have := say1 sm s.fin o hr
    rw [e 1 h] at this; rw [q1 h]; exact this
  · refine .inr (.inl ⟨h, ?_⟩)
    have := say2 sm s.fin o hr
    rw [e 2 h] at this; rw [q2 h]; exact this
  · refine .inr (.inr (.inl ⟨h, ?_⟩))
    have := say3 sm s.fin o hr
    rw [e 3 h] at this; rw [q3 h]; exact this
  · refine .inr (.inr (.inr (.inl ⟨h, ?_⟩)))
    have := say4 sm (fin := s.fin) ⟨hf.1, by omega⟩ o hr
    rw [e 4 h] at this; rw [q4 h]; exact this
  · refine .inr (.inr (.inr (.inr (.inl ⟨h, ?_⟩))))
    have := say5 sm (fin := s.fin) ⟨hf.1, by omega⟩ o hr
    rw [e 5 h] at this; rw [q5 h]; exact this
  · refine .inr (.inr (.inr (.inr (.inr ⟨h, ?_⟩))))
    have := say6 m s.fin r o
    rw [e 6 h] at this; rw [q6 h]; exact this
/-- Courses of a valid scene. -/
structure CrOk (s : Scn) (c : Crs) : Prop where
  are : areD (gSp s.gates) c.1
  far : c.2 = farP s c.1
theorem cr_ok {s : Scn} (hs : ScOk s) {c : Crs} (h : c ∈ crsP s) : CrOk s c := by
  unfold crsP at h
  obtain ⟨ds, hd, rfl⟩ := List.mem_map.1 h
  exact ⟨(mem_all hs).1 hd, rfl⟩
theorem CrOk.sm {s : Scn} (hs : ScOk s) {c : Crs} (h : CrOk s c) {r x : Nat} (hr : r < nR s) (hx : x < nR s) : smT (c.2 r x) := fun d e => by
  rw [h.far] at e
  have := far_le hs h.are hr hx e
  omega
/-- All that the walk over one mark asks. -/
structure MkF (s : Scn) (c : Crs) (room set i : Nat) (m : Mk) (SY : Spn) : Prop where
  ov : APure Tryd.prog 68 [encSp (winM s.fin (c.2 room) (s.marks.take i) set), encSp SY] (encSp (winM s.fin (c.2 room) (s.marks.take (i + 1)) set))
  say : (m.kd.val = 1 ∧ APure Tryd.prog 40 [.agg (cMj m.id 1 m.room m.other m.lo m.hi m.long), .int .i64 s.fin, encTm (c.2 room (mrk m).room), encTm (c.2 room (mrk m).other)] (encSp SY)) ∨
    (m.kd.val = 2 ∧ APure Tryd.prog 42 [.agg (cMj m.id 2 m.room m.other m.lo m.hi m.long), .int .i64 s.fin, encTm (c.2 room (mrk m).room), encTm (c.2 room (mrk m).other)] (encSp SY)) ∨
    (m.kd.val = 3 ∧ APure Tryd.prog 44 [.agg (cMj m.id 3 m.room m.other m.lo m.hi m.long), .int .i64 s.fin, encTm (c.2 room (mrk m).room), encTm (c.2 room (mrk m).other)] (encSp SY)) ∨
    (m.kd.val = 4 ∧ APure Tryd.prog 46 [.agg (cMj m.id 4 m.room m.other m.lo m.hi m.long), .int .i64 s.fin, encTm (c.2 room (mrk m).room), encTm (c.2 room (mrk m).other)] (encSp SY)) ∨
    (m.kd.val = 5 ∧ APure Tryd.prog 47 [.agg (cMj m.id 5 m.room m.other m.lo m.hi m.long), .int .i64 s.fin, encTm (c.2 room (mrk m).room), encTm (c.2 room (mrk m).other)] (encSp SY)) ∨
    (m.kd.val = 6 ∧ APure Tryd.prog 48 [.agg (cMj m.id 6 m.room m.other m.lo m.hi m.long), .int .i64 s.fin, encTm (c.2 room (mrk m).room), encTm (c.2 room (mrk m).other)] (encSp SY))
  room : m.room = (((mrk m).room : Nat) : Int) ∧ (mrk m).room < 6
  other : m.other = (((mrk m).other : Nat) : Int) ∧ (mrk m).other < 6
  cell : ∀ j : Nat, m.kd.val = j → some (cMk m) = some (cMj m.id (j : Int) m.room m.other m.lo m.hi m.long)
theorem mk_facts {s : Scn} (hs : ScOk s) {c : Crs} (hco : CrOk s c) {room set i : Nat} (hroom : room < nR s) {m : Mk} (hmi : s.marks[i]? = some m) (hbit : set.testBit i = true) : ∃ SY, MkF s c room set i m SY := by
  have hmm := List.mem_of_getElem? hmi
  have hn6 := nR_eq hs
  obtain ⟨mr1, mr2, _, ⟨mr3, mr4⟩, _⟩ := mk_rooms hs hmm
  refine ⟨saysV (mrk m) s.fin (c.2 room (mrk m).room) (c.2 room (mrk m).other), ?_, say_fn hs hmm (hco.sm hs hroom mr1), ⟨?_, by omega⟩, ⟨?_, by omega⟩, fun j h => by rw [cMk_eq, h]⟩
  · have ov := overlap_spec (winM s.fin (c.2 room) (s.marks.take i) set) (saysV (mrk m) s.fin (c.2 room (mrk m).room) (c.2 room (mrk m).other))
    rw [win_take hmi, hbit]
    exact ov
  · show m.room = (m.room.toNat : Int); omega
  · show m.other = (m.other.toNat : Int); omega
theorem win_no {s : Scn} {c : Crs} {room set i : Nat} {m : Mk} (hmi : s.marks[i]? = some m) (hbit : set.testBit i = false) : winM s.fin (c.2 room) (s.marks.take (i + 1)) set = winM s.fin (c.2 room) (s.marks.take i) set := by
  rw [win_take hmi, hbit]; rfl
theorem gtr_ok (W : Spn) : decide (W.1 > W.2) = !okW W := by
  unfold okW
  rcases Int.lt_or_le W.2 W.1 with q | q
  · rw [decide_eq_true (show W.1 > W.2 from q), decide_eq_false (by omega)]; rfl
  · rw [decide_eq_false (by omega), decide_eq_true q]; rfl
end Go.Proofs.YtmllgnnhblhfeaaDoor

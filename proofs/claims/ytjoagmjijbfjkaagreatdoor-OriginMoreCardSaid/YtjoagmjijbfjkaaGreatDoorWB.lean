import Derived.Test.YtjoagmjijbfjkaaGreatDoorNU
import Derived.Test.YtjoagmjijbfjkaaGreatDoorLF
import Derived.Test.YtjoagmjijbfjkaaGreatDoorAm29
/-
  A MARK MORE; MARKS IN ANOTHER ORDER, UNDER OTHER IDS: plain.
-/
namespace Go.Proofs.YtjoagmjijbfjkaaGreatDoor
open Go Go.Am
set_option maxRecDepth 100000
theorem told_eq {s s' : Scn} (hs : ScOk s) (hs' : ScOk s') {room : Nat} (hr : room < nR s) (hr' : room < nR s') (h : ∀ t ds, trueB s room t ds ↔ trueB s' room t ds) : toldP s room = toldP s' room := by
  refine canS_ext (told_ok s room).1 (told_ok s' room).1 fun n => ?_
  rw [told_true hs hr, told_true hs' hr']
  exact ⟨fun ⟨ds, q⟩ => ⟨ds, (h n ds).1 q⟩, fun ⟨ds, q⟩ => ⟨ds, (h n ds).2 q⟩⟩
theorem rooms_eq {s s' : Scn} (hn : nR s = nR s') (h : ∀ r, r < nR s → toldP s r = toldP s' r) : roomsP s = roomsP s' := by
  unfold roomsP roomsN
  rw [← hn]
  congr 1
  refine List.filter_congr fun r hr => ?_
  have e := h r (List.mem_range.1 hr)
  have q1 := told_nil (s := s) (room := r)
  have q2 := told_nil (s := s') (room := r)
  rw [e] at q1
  have : exB s r (allN s) = exB s' r (allN s') := by
    rw [Bool.eq_iff_iff, ← q1, ← q2]
  rw [this]
theorem nm_eq {s s' : Scn} (h1 : scB s = scB s') (h2 : roomsP s = roomsP s') : nmV s = nmV s' := by unfold nmV; rw [h1, h2]
/-! ### marks in another order -/
def noId (m : Mk) : Mk := { m with id := 0 }
def reId (m : Mk) (x : Int) : Mk := { m with id := x }
theorem soB_id {m : Mk} {x fin c e : Int} : soB (reId m x) fin c e = soB m fin c e := rfl
theorem mkB_id {m : Mk} {x n : Int} : mkB n (reId m x) = mkB n m := rfl
/-- The marks turned, and numbered anew: the first i of them. -/
def turnM (l : List Mk) : List Mk := l.reverse.zipIdx.map fun p => reId p.1 (3 * (p.2 : Int) + 1)
def turnK (l : List Mk) (i : Nat) : List Mk := (turnM l).take i ++ l.drop i
theorem turnM_len (l : List Mk) : (turnM l).length = l.length := by unfold turnM; rw [List.length_map, List.length_zipIdx, List.length_reverse]
theorem turnK_len {l : List Mk} {i : Nat} (h : i ≤ l.length) : (turnK l i).length = l.length := by
  unfold turnK; rw [List.length_append, List.length_take, List.length_drop, turnM_len]; omega
theorem turnK_zero (l : List Mk) : turnK l 0 = l := rfl
theorem turnK_all (l : List Mk) : turnK l l.length = turnM l := by
  unfold turnK; rw [List.drop_of_length_le (Nat.le_refl _), List.append_nil, List.take_of_length_le (by rw [turnM_len]; exact Nat.le_refl _)]
theorem turnM_get {l : List Mk} {i : Nat} (h : i < l.length) {m : Mk} (hm : l[l.length - 1 - i]? = some m) : (turnM l)[i]? = some (reId m (3 * (i : Int) + 1)) := by
  unfold turnM
  rw [List.getElem?_map, List.getElem?_zipIdx, List.getElem?_reverse (by omega), hm]
  simp
theorem turnK_set {l : List Mk} {i : Nat} (h : i < l.length) {m : Mk} (hm : l[l.length - 1 - i]? = some m) : (turnK l i).set i (reId m (3 * (i : Int) + 1)) = turnK l (i + 1) := by
  have hx := turnM_get h hm
  unfold turnK
  have hl : ((turnM l).take i).length = i := by rw [List.length_take, turnM_len]; omega
  rw [List.set_append_right _ _ (by omega), hl, Nat.sub_self, take_snoc hx]
  obtain ⟨x, hx2⟩ : ∃ x, l[i]? = some x := ⟨_, List.getElem?_eq_getElem h⟩
  have hd : l.drop i = x :: l.drop (i + 1) := by
    rw [List.drop_eq_getElem_cons h]
    rw [List.getElem?_eq_getElem h] at hx2
    cases hx2; rfl
  rw [hd, List.set_cons_zero, List.append_assoc]
  rfl
theorem turnM_mem {l : List Mk} {m : Mk} (h : m ∈ turnM l) : ∃ a ∈ l, ∃ x, m = reId a x := by
  unfold turnM at h
  obtain ⟨p, hp, rfl⟩ := List.mem_map.1 h
  obtain ⟨a, i⟩ := p
  have := List.mem_zipIdx hp
  exact ⟨a, by
    have h2 : a ∈ l.reverse := by
      have := List.fst_mem_of_mem_zipIdx hp
      exact this
    exact List.mem_reverse.1 h2, _, rfl⟩
theorem turnM_mem2 {l : List Mk} {a : Mk} (h : a ∈ l) : ∃ x, reId a x ∈ turnM l := by
  obtain ⟨i, hi, e⟩ := List.mem_iff_getElem.1 (List.mem_reverse.2 h)
  have hi' : i < l.length := by rwa [List.length_reverse] at hi
  refine ⟨3 * (i : Int) + 1, ?_⟩
  have hm : l[l.length - 1 - i]? = some a := by
    rw [← List.getElem?_reverse (by omega), List.getElem?_eq_getElem hi, e]
  exact List.mem_of_getElem? (turnM_get hi' hm)
theorem turn_inc : ∀ (l : List Mk) (k : Nat) (L : Int), L ≤ 3 * (k : Int) + 1 → 3 * ((k : Int) + l.length) ≤ 9999 → incF L ((l.zipIdx k).map fun p => (reId p.1 (3 * (p.2 : Int) + 1)).id) = true := by
  intro l
  induction l with
  | nil => intro k L _ _; rfl
  | cons m l ih =>
    intro k L h1 h2
    rw [List.length_cons] at h2
    rw [List.zipIdx_cons, List.map_cons]
    show (inB L 9999 (3 * (k : Int) + 1) && incF (3 * (k : Int) + 1 + 1) _) = true
    rw [ih (k + 1) _ (by omega) (by omega), inB_iff.2 ⟨by omega, by omega⟩]
    rfl
theorem turn_ok {s : Scn} (h : ScOk s) : ScOk (wM s (turnM s.marks)) := by
  have hl := h.ml
  refine ⟨h.rooms, h.fin, h.gl, h.gs, by show (turnM s.marks).length ≤ 8; rw [turnM_len]; exact hl, ?_, fun m hm => ?_⟩
  · have := turn_inc s.marks.reverse 0 0 (by omega) (by rw [List.length_reverse]; omega)
    show incF 0 ((turnM s.marks).map (·.id)) = true
    unfold turnM
    rw [List.map_map]
    exact this
  · obtain ⟨a, ha, x, rfl⟩ := turnM_mem hm
    exact h.ms a ha
theorem turn_true {s : Scn} {room : Nat} {t : Int} {ds : List Int} : trueB s room t ds ↔ trueB (wM s (turnM s.marks)) room t ds := by
  unfold trueB
  refine and_congr_right fun _ => and_congr_right fun _ => ⟨fun q m hm => ?_, fun q m hm => ?_⟩
  · obtain ⟨a, ha, x, rfl⟩ := turnM_mem hm
    exact q a ha
  · obtain ⟨x, hx⟩ := turnM_mem2 hm
    exact q (reId m x) hx
theorem turn_told {s : Scn} (h : ScOk s) {room : Nat} (hr : room < nR s) : toldP (wM s (turnM s.marks)) room = toldP s room :=
  (told_eq h (turn_ok h) hr hr fun _ _ => turn_true).symm
theorem turn_nm {s : Scn} (h : ScOk s) : nmV (wM s (turnM s.marks)) = nmV s :=
  nm_eq (by rw [scB_iff.2 h, scB_iff.2 (turn_ok h)]) (rooms_eq rfl fun _ hr => turn_told h hr)
/-! ### a mark more -/
def lastId (l : List Mk) : Int := (l.getLast?.map (·.id)).getD (-1)
theorem more_sub {s : Scn} {m : Mk} {room : Nat} {t : Int} {ds : List Int} (h : trueB (wM s (s.marks ++ [m])) room t ds) : trueB s room t ds :=
  ⟨h.1, h.2.1, fun x hx => h.2.2 x (List.mem_append_left _ hx)⟩
theorem can_two : ∀ {l : List Spn}, canS l → ∀ {y z : Spn}, y ∈ l → z ∈ l → y = z ∨ y.2 + 1 < z.1 ∨ z.2 + 1 < y.1 := by
  intro l
  induction l with
  | nil => intro _ y z hy; cases hy
  | cons a l ih =>
    intro h y z hy hz
    obtain ⟨h1, h2, h3⟩ := canS_cons h
    rcases List.mem_cons.1 hy with rfl | hy
    · rcases List.mem_cons.1 hz with rfl | hz
      · exact .inl rfl
      · exact .inr (.inl (h3 z hz))
    · rcases List.mem_cons.1 hz with e | hz
      · rw [e]; exact .inr (.inr (h3 y hy))
      · exact ih h2 hy hz
theorem can_in {l : List Spn} (h : canS l) {a : Int} : ∀ (k : Nat), (∀ n, a ≤ n → n ≤ a + k → inL l n) → ∃ y ∈ l, y.1 ≤ a ∧ a + k ≤ y.2 := by
  intro k
  induction k with
  | zero =>
    intro q
    obtain ⟨y, hy, h1⟩ := q a (Int.le_refl _) (by omega)
    exact ⟨y, hy, h1.1, by have := h1.2; omega⟩
  | succ k ih =>
    intro q
    obtain ⟨y, hy, y1, y2⟩ := ih fun n h1 h2 => q n h1 (by omega)
    obtain ⟨z, hz, z1, z2⟩ := q (a + (k + 1 : Nat)) (by omega) (Int.le_refl _)
    rcases can_two h hy hz with e | e | e
    · subst e; exact ⟨y, hy, y1, z2⟩
    · omega
    · omega
theorem can_le {l : List Spn} : canS l → ∀ {x : Spn}, x ∈ l → x.1 ≤ x.2 := by
  induction l with
  | nil => intro _ x hx; cases hx
  | cons a l ih =>
    intro h x hx
    obtain ⟨h1, h2, _⟩ := canS_cons h
    rcases List.mem_cons.1 hx with rfl | hx
    · exact h1
    · exact ih h2 hx
theorem more_in {s : Scn} (h : ScOk s) {m : Mk} (hm : ScOk (wM s (s.marks ++ [m]))) {room : Nat} (hr : room < nR s) {x : Spn} (hx : x ∈ toldP (wM s (s.marks ++ [m])) room) : ∃ y ∈ toldP s room, y.1 ≤ x.1 ∧ x.2 ≤ y.2 := by
  have c1 := (told_ok (wM s (s.marks ++ [m])) room).1
  have hle := can_le c1 hx
  obtain ⟨y, hy, q1, q2⟩ := can_in (told_ok s room).1 (a := x.1) (x.2 - x.1).toNat fun n h1 h2 => by
    have hin : inL (toldP (wM s (s.marks ++ [m])) room) n := ⟨x, hx, h1, by omega⟩
    obtain ⟨ds, hd⟩ := (told_true hm hr).1 hin
    exact (told_true h hr).2 ⟨ds, more_sub hd⟩
  exact ⟨y, hy, q1, by omega⟩
theorem incF_app : ∀ {l : List Int} {L x : Int}, incF L (l ++ [x]) = true → inB (l.getLast?.elim L (· + 1)) 9999 x = true ∧ incF L l = true := by
  intro l
  induction l with
  | nil =>
    intro L x h
    have h : (inB L 9999 x && true) = true := h
    rw [Bool.and_true] at h
    exact ⟨h, rfl⟩
  | cons a l ih =>
    intro L x h
    have h : (inB L 9999 a && incF (a + 1) (l ++ [x])) = true := h
    obtain ⟨h1, h2⟩ := Bool.and_eq_true_iff.1 h
    obtain ⟨q1, q2⟩ := ih h2
    refine ⟨?_, by show (inB L 9999 a && incF (a + 1) l) = true; rw [h1, q2]; rfl⟩
    cases l with
    | nil => exact q1
    | cons b l => rw [List.getLast?_cons_cons]; exact q1
theorem incF_snoc : ∀ {l : List Int} {L x y : Int}, incF L (l ++ [x]) = true → incF L (l ++ [x]) = incF L (l ++ [y]) ∨ x ≠ y := by
  intro l L x y h
  by_cases e : x = y
  · exact .inl (by rw [e])
  · exact .inr e
/-- A mark that it burns at the end where it began. -/
def sureM (s : Scn) (room : Nat) (x : Int) : Mk := ⟨x, 3, room, 0, s.fin, s.fin, 0⟩
theorem sure_ok {s : Scn} {m : Mk} (hm : ScOk (wM s (s.marks ++ [m]))) {room : Nat} (hr : room < nR s) : ScOk (wM s (s.marks ++ [sureM s room m.id])) := by
  have hn := nR_eq (s := s) ⟨hm.rooms, hm.fin, hm.gl, hm.gs, Nat.le_trans (by show s.marks.length ≤ (s.marks ++ [m]).length; rw [List.length_append]; omega) hm.ml, by
    have := hm.inc
    have e : (wM s (s.marks ++ [m])).marks.map (·.id) = s.marks.map (·.id) ++ [m.id] := by show (s.marks ++ [m]).map _ = _; rw [List.map_append]; rfl
    rw [e] at this
    exact (incF_app this).2, fun x hx => hm.ms x (List.mem_append_left _ hx)⟩
  have hfin : 0 ≤ s.fin ∧ s.fin ≤ 600 := hm.fin
  refine ⟨hm.rooms, hm.fin, hm.gl, hm.gs, ?_, ?_, fun x hx => ?_⟩
  · have := hm.ml
    show (s.marks ++ [sureM s room m.id]).length ≤ 8
    have e : (wM s (s.marks ++ [m])).marks.length = (s.marks ++ [m]).length := rfl
    rw [e] at this
    rw [List.length_append] at this ⊢
    exact this
  · have := hm.inc
    have e : (wM s (s.marks ++ [m])).marks.map (·.id) = (wM s (s.marks ++ [sureM s room m.id])).marks.map (·.id) := by show (s.marks ++ [m]).map _ = (s.marks ++ [sureM s room m.id]).map _; rw [List.map_append, List.map_append]; rfl
    rw [e] at this; exact this
  · rcases List.mem_append.1 hx with hx | hx
    · exact hm.ms x (List.mem_append_left _ hx)
    · obtain rfl := List.mem_singleton.1 hx
      show (isR s.rooms (room : Int) && usB s.rooms (sureM s room m.id)) = true
      have e1 : isR s.rooms (room : Int) = true := inB_iff.2 ⟨by omega, by omega⟩
      rw [e1]
      show ((0 : Int) == 0 && (spanB 600 s.fin s.fin && (0 : Int) == 0)) = true
      have e2 : spanB 600 s.fin s.fin = true := by unfold spanB; rw [inB_iff.2 hfin]; simp
      rw [e2]; rfl
theorem sure_true {s : Scn} (h : ScOk s) {room : Nat} (hr : room < nR s) {x : Int} {t : Int} {ds : List Int} : trueB (wM s (s.marks ++ [sureM s room x])) room t ds ↔ trueB s room t ds := by
  refine ⟨more_sub, fun q => ⟨q.1, q.2.1, fun m hm => ?_⟩⟩
  rcases List.mem_append.1 hm with hm | hm
  · exact q.2.2 m hm
  · obtain rfl := List.mem_singleton.1 hm
    have hf := h.fin
    have e := come_when h q.2.1 hr hr (t := t) (by have := q.1.2; omega)
    rw [far_diag h q.2.1 hr] at e
    show soB (sureM s room x) s.fin (comeP s ds room t ((room : Int).toNat)) _ = true
    rw [Int.toNat_natCast, e]
    show decide (t + 0 ≤ s.fin) = true
    exact decide_eq_true (by have := q.1.2; omega)
theorem sure_told {s : Scn} (h : ScOk s) {m : Mk} (hm : ScOk (wM s (s.marks ++ [m]))) {room : Nat} (hr : room < nR s) : toldP (wM s (s.marks ++ [sureM s room m.id])) room = toldP s room :=
  told_eq (sure_ok hm hr) h hr hr fun _ _ => sure_true h hr
end Go.Proofs.YtjoagmjijbfjkaaGreatDoor
/-
  MARKS OF ONE's OWN: indices, stores; what is told, and how long it is.
-/
namespace Go.Proofs.YtjoagmjijbfjkaaGreatDoor
open Go Go.Am
set_option maxRecDepth 100000
set_option maxHeartbeats 4000000
theorem canL_len : ∀ {l : List Spn} {a : Int}, canS l → (∀ x ∈ l, a ≤ x.1 ∧ x.2 ≤ 600) → a ≤ 601 → (l.length : Int) ≤ 601 - a := by
  intro l
  induction l with
  | nil => intro a _ _ ha; rw [List.length_nil]; omega
  | cons x l ih =>
    intro a hc hb ha
    obtain ⟨h1, h2, h3⟩ := canS_cons hc
    have hx := hb x List.mem_cons_self
    have := ih (a := x.2 + 1) h2 (fun y hy => ⟨by have := h3 y hy; omega, (hb y (List.mem_cons_of_mem _ hy)).2⟩) (by omega)
    rw [List.length_cons]; omega
theorem toldL_len {s : Scn} (hs : ScOk s) {room : Nat} (hr : room < nR s) : (toldP s room).length ≤ 1000 := by
  have hf := hs.fin
  have hcan := (told_ok s room).1
  have := canL_len (a := 0) hcan (fun x hx => by
    have hle := can_le hcan hx
    obtain ⟨_, q1⟩ := (told_true hs hr).1 (⟨x, hx, Int.le_refl _, hle⟩ : inL (toldP s room) x.1)
    obtain ⟨_, q2⟩ := (told_true hs hr).1 (⟨x, hx, hle, Int.le_refl _⟩ : inL (toldP s room) x.2)
    have := q1.1.1; have := q2.1.2
    omega) (by omega)
  omega
/-- What is answered of minutes. -/
theorem Min_sub (s : Scn) (hs : ScOk s) {room : Nat} (hr : room < nR s) {RM : Int} (erm : RM = (room : Int)) : APure Tryz.prog 19 [encSc s, .int .i64 RM] (.tup [encSps (toldP s room), .int .i64 0]) := by
  have m := Minutes_ok s RM
  have e0 : rmE s RM = 0 := by rw [erm]; exact rm_of hs hr
  have ev : mnV s RM = toldP s room := by unfold mnV; rw [if_pos e0, erm, Int.toNat_natCast]
  rw [e0, ev] at m
  exact m
theorem ixM {h : Nat → Option AObj} {id n k : Nat} {i : Int} (hi : i = (k : Int)) (hk : k < n) : (aindexAddr Tryz.prog h 29 (.rsl id 0 n 7) (.int .i64 i)).map (fun v => (⟨v, []⟩ : Out)) = some ⟨.vptr id (k * 7), []⟩ := by
  subst hi
  simp only [aindexAddr, ty29, ty46]
  rw [if_pos ⟨trivial, Int.natCast_nonneg _, by simpa using hk⟩]
  simp
theorem flM_split {l : List Mk} {k : Nat} (hk : k < l.length) {m : Mk} (hm : l[k]? = some m) : fl cMk l = fl cMk (l.take k) ++ (cMk m ++ fl cMk (l.drop (k + 1))) ∧ (fl cMk (l.take k)).length = k * 7 := by
  have e : l = l.take k ++ m :: l.drop (k + 1) := by rw [← drop_cons hm, List.take_append_drop]
  refine ⟨?_, by rw [fl_len (enc := cMk) (n := 7) (fun _ => rfl), List.length_take, Nat.min_eq_left (by omega)]⟩
  conv => lhs; rw [e]
  unfold fl; simp
theorem splice_app (A : List AV) : ∀ (xs C : List AV) (k : Nat), splice (A ++ C) (A.length + k) xs = A ++ splice C k xs := by
  intro xs
  induction xs with
  | nil => intro C k; rfl
  | cons x xs ih =>
    intro C k
    show splice ((A ++ C).set (A.length + k) x) (A.length + k + 1) xs = A ++ splice (C.set k x) (k + 1) xs
    rw [List.set_append_right _ _ (by omega), show A.length + k - A.length = k by omega]
    exact ih (C.set k x) (k + 1)
theorem spM {l : List Mk} {k : Nat} (hk : k < l.length) (x : Mk) : splice (fl cMk l) (k * 7) (cMk x) = fl cMk (l.set k x) := by
  refine Exists.elim (getE hk) fun m hm => ?_
  obtain ⟨e1, e2⟩ := flM_split hk hm
  have hx : (l.set k x)[k]? = some x := by rw [List.getElem?_set_self hk]
  obtain ⟨e3, e4⟩ := flM_split (l := l.set k x) (by rw [List.length_set]; exact hk) hx
  have t1 : (l.set k x).take k = l.take k := by rw [List.take_set_of_le (Nat.le_refl k)]
  have t2 : (l.set k x).drop (k + 1) = l.drop (k + 1) := by rw [List.drop_set_of_lt (Nat.lt_succ_self k)]
  rw [t1, t2] at e3
  rw [e3, e1]
  rw [← e2]
  exact splice_app _ (cMk x) (cMk m ++ fl cMk (l.drop (k + 1))) 0
theorem stM {h : Nat → Option AObj} {id k : Nat} {l : List Mk} {x : Mk} (h0 : h id = some (.cells (fl cMk l))) (hk : k < l.length) :
    aStore Tryz.prog h 46 (.vptr id (k * 7)) (.agg (cMk x)) = some ⟨.undef, [(id, some (.cells (fl cMk (l.set k x))))]⟩ := by
  have hl : k * 7 + 7 ≤ (fl cMk l).length := by rw [fl_len (enc := cMk) (n := 7) (fun _ => rfl)]; omega
  have hcb : (cMk x).all cellB = true := rfl
  simp only [aStore, ty46, acells, h0]
  rw [if_pos ⟨rfl, hl, hcb⟩, spM hk]
theorem spMId {l : List Mk} {k : Nat} {m : Mk} (hk : k < l.length) (hm : l[k]? = some m) (x : Int) : splice (fl cMk l) (k * 7) [.int .i64 x] = fl cMk (l.set k (reId m x)) := by
  obtain ⟨e1, e2⟩ := flM_split hk hm
  have hx : (l.set k (reId m x))[k]? = some (reId m x) := by rw [List.getElem?_set_self hk]
  obtain ⟨e3, e4⟩ := flM_split (l := l.set k (reId m x)) (by rw [List.length_set]; exact hk) hx
  have t1 : (l.set k (reId m x)).take k = l.take k := by rw [List.take_set_of_le (Nat.le_refl k)]
  have t2 : (l.set k (reId m x)).drop (k + 1) = l.drop (k + 1) := by rw [List.drop_set_of_lt (Nat.lt_succ_self k)]
  rw [t1, t2] at e3
  rw [e3, e1]
  show (fl cMk (l.take k) ++ (cMk m ++ fl cMk (l.drop (k + 1)))).set (k * 7) _ = _
  rw [List.set_append_right _ _ (by omega), e2, Nat.sub_self]
  rfl
theorem stMId {h : Nat → Option AObj} {id k : Nat} {l : List Mk} {m : Mk} {x : Int} (h0 : h id = some (.cells (fl cMk l))) (hk : k < l.length) (hm : l[k]? = some m) :
    aStore Tryz.prog h 3 (.vptr id (k * 7)) (.int .i64 x) = some ⟨.undef, [(id, some (.cells (fl cMk (l.set k (reId m x)))))]⟩ := by
  have hl : k * 7 + 1 ≤ (fl cMk l).length := by rw [fl_len (enc := cMk) (n := 7) (fun _ => rfl)]; omega
  simp only [aStore, ty3, acells, h0]
  rw [if_pos ⟨rfl, hl, rfl⟩, spMId hk hm]
theorem turnK_set2 {l : List Mk} {i : Nat} (h : i < l.length) {m : Mk} (hm : l[l.length - 1 - i]? = some m) : (((turnK l i).set i m).set i (reId m (3 * (i : Int) + 1))) = turnK l (i + 1) := by
  rw [List.set_set]; exact turnK_set h hm
end Go.Proofs.YtjoagmjijbfjkaaGreatDoor

import Derived.Test.YtmllgnnhblhfeaaDoorNP
/-
  TRUTHS, AS THE LAWS ASK OF THEM: facts. Plain.
-/
namespace Go.Proofs.YtmllgnnhblhfeaaDoor
open Go Go.Am
theorem mem_edgs : ∀ {gs : List Gt} {ds : List Int} {e : Edg}, areD (gSp gs) ds → e ∈ edgs gs ds → ∃ g ∈ gs, e.1 = g.a.toNat ∧ e.2.1 = g.b.toNat ∧ g.lo ≤ e.2.2 ∧ e.2.2 ≤ g.hi := by
  intro gs
  induction gs with
  | nil => intro ds e _ h; cases h
  | cons g gs ih =>
    intro ds e hd h
    cases ds with
    | nil => cases h
    | cons d ds =>
      obtain ⟨h1, h2⟩ := hd
      rcases List.mem_cons.1 (show e ∈ edgOf g d :: edgs gs ds from h) with rfl | h
      · exact ⟨g, List.mem_cons_self, rfl, rfl, h1.1, h1.2⟩
      · obtain ⟨x, hx, q⟩ := ih h2 h
        exact ⟨x, List.mem_cons_of_mem _ hx, q⟩
theorem sp_le {s : Scn} (h : ScOk s) : ∀ x ∈ gSp s.gates, x.1 ≤ x.2 := fun x hx => by
  obtain ⟨g, hg, rfl⟩ := List.mem_map.1 hx
  exact (gtB_iff.1 (h.gs g hg)).2.2.2.1.2.2
theorem sp_two {s : Scn} (h : ScOk s) : ∀ x ∈ gSp s.gates, x.2 ≤ x.1 + 2 := fun x hx => by
  obtain ⟨g, hg, rfl⟩ := List.mem_map.1 hx
  have := (gtB_iff.1 (h.gs g hg)).2.2.2.2
  show g.hi ≤ g.lo + 2; omega
theorem nR_eq {s : Scn} (h : ScOk s) : (nR s : Int) = s.rooms ∧ 1 ≤ nR s ∧ nR s ≤ 6 := by
  have := h.rooms
  unfold nR; omega
theorem gok_of {s : Scn} (h : ScOk s) {ds : List Int} (hd : areD (gSp s.gates) ds) : GOk (nR s) (edgs s.gates ds) := by
  have hn := nR_eq h
  have key : ∀ a b w, St1 (edgs s.gates ds) a b w → (0 ≤ w ∧ w ≤ 60) ∧ (a < nR s ∧ b < nR s) ∧ a ≠ b := by
    intro a b w q
    rcases q with q | q
    · obtain ⟨g, hg, e1, e2, l1, l2⟩ := mem_edgs hd q
      obtain ⟨g1, g2, g3, g4, g5⟩ := gtB_iff.1 (h.gs g hg)
      have e1 : a = g.a.toNat := e1
      have e2 : b = g.b.toNat := e2
      have l1 : g.lo ≤ w := l1
      have l2 : w ≤ g.hi := l2
      omega
    · obtain ⟨g, hg, e1, e2, l1, l2⟩ := mem_edgs hd q
      obtain ⟨g1, g2, g3, g4, g5⟩ := gtB_iff.1 (h.gs g hg)
      have e1 : b = g.a.toNat := e1
      have e2 : a = g.b.toNat := e2
      have l1 : g.lo ≤ w := l1
      have l2 : w ≤ g.hi := l2
      omega
  exact ⟨fun a b w q => (key a b w q).1.1, fun a b w q => (key a b w q).1.2, fun a b w q => (key a b w q).2.1, fun a b w q => (key a b w q).2.2⟩
theorem mem_all {s : Scn} (h : ScOk s) {ds : List Int} : ds ∈ allD (gSp s.gates) ↔ areD (gSp s.gates) ds := all_mem (sp_le h)
theorem far_le {s : Scn} (h : ScOk s) {ds : List Int} (hd : areD (gSp s.gates) ds) {r x : Nat} (hr : r < nR s) (hx : x < nR s) {c : Int} (e : farP s ds r x = some c) : 0 ≤ c ∧ c ≤ 360 := by
  have := far_lt (gok_of h hd) hr hx e
  have hn := nR_eq h
  omega
/-- What is asked of the rooms of marks. -/
theorem mk_rooms {s : Scn} (h : ScOk s) {m : Mk} (hm : m ∈ s.marks) : (mrk m).room < nR s ∧ (mrk m).other < nR s ∧ (m.lo ≤ 600 ∧ m.hi ≤ 600) ∧ (0 ≤ m.room ∧ 0 ≤ m.other) ∧ 1 ≤ m.kd.val ∧ m.kd.val ≤ 6 ∧ (0 ≤ m.lo ∧ 0 ≤ m.hi ∧ 0 ≤ m.long ∧ m.long ≤ 600) := by
  have hn := nR_eq h
  have q := h.ms m hm
  simp only [mkB, isR, Bool.and_eq_true, inB_iff] at q
  obtain ⟨q1, q2⟩ := q
  unfold mrk
  dsimp only
  unfold usB at q2
  split at q2
  · rename_i k
    simp only [isR, Bool.and_eq_true, inB_iff, Bool.not_eq_true', beq_iff_eq, beq_eq_false_iff_ne] at q2
    omega
  · split at q2
    · rename_i k
      simp only [Bool.and_eq_true, inB_iff, beq_iff_eq] at q2
      omega
    · split at q2
      · rename_i k
        simp only [Bool.and_eq_true, spanB, inB_iff, beq_iff_eq, decide_eq_true_eq] at q2
        omega
      · cases q2
abbrev nvr : Int := 1073741824
def soB (m : Mk) (fin c e : Int) : Bool :=
  if m.kd.val = 1 then decide (c ≥ m.lo) && decide (c ≤ m.hi) else if m.kd.val = 2 then decide (c > m.lo) else if m.kd.val = 3 then decide (c ≤ m.hi)
  else if m.kd.val = 4 then !(c == nvr) && decide (fin - c ≥ m.long) else if m.kd.val = 5 then c == nvr || decide (fin - c < m.long) else decide (c < e)
theorem soB_iff {m : Mk} {fin c e : Int} : soB m fin c e = true ↔ soV nvr (mrk m) fin c e := by
  unfold soB soV mrk
  dsimp only
  by_cases h1 : m.kd.val = 1
  · rw [if_pos h1, if_pos (show ((m.kd.val : Nat) : Int) = 1 by omega)]; simp
  rw [if_neg h1, if_neg (show ¬ ((m.kd.val : Nat) : Int) = 1 by omega)]
  by_cases h2 : m.kd.val = 2
  · rw [if_pos h2, if_pos (show ((m.kd.val : Nat) : Int) = 2 by omega)]; simp
  rw [if_neg h2, if_neg (show ¬ ((m.kd.val : Nat) : Int) = 2 by omega)]
  by_cases h3 : m.kd.val = 3
  · rw [if_pos h3, if_pos (show ((m.kd.val : Nat) : Int) = 3 by omega)]; simp
  rw [if_neg h3, if_neg (show ¬ ((m.kd.val : Nat) : Int) = 3 by omega)]
  by_cases h4 : m.kd.val = 4
  · rw [if_pos h4, if_pos (show ((m.kd.val : Nat) : Int) = 4 by omega)]; simp
  rw [if_neg h4, if_neg (show ¬ ((m.kd.val : Nat) : Int) = 4 by omega)]
  by_cases h5 : m.kd.val = 5
  · rw [if_pos h5, if_pos (show ((m.kd.val : Nat) : Int) = 5 by omega)]; simp
  rw [if_neg h5, if_neg (show ¬ ((m.kd.val : Nat) : Int) = 5 by omega)]; simp
/-- When the fire comes into a room, as the laws work it out. -/
def rowAt (room : Nat) (minute : Int) : Row := fun y => if y = room then minute else nvr
def comeP (s : Scn) (ds : List Int) (room : Nat) (minute : Int) : Row := comeV nvr (edgs s.gates ds) (nR s) (rowAt room minute)
theorem come_when {s : Scn} (h : ScOk s) {ds : List Int} (hd : areD (gSp s.gates) ds) {r x : Nat} (hr : r < nR s) (hx : x < nR s) {t : Int} (ht : t ≤ 600) : comeP s ds r t x = whenV nvr t (farP s ds r x) := by
  have hn := nR_eq h
  exact far_come (gok_of h hd) hr hx (by show t + 60 * (nR s : Int) < 1073741824; omega)
theorem win_so {s : Scn} (h : ScOk s) {ms : List Mk} (hms : ∀ m ∈ ms, m ∈ s.marks) {ds : List Int} (hd : areD (gSp s.gates) ds) {r : Nat} (hr : r < nR s) {t : Int} :
    (∀ m ∈ ms, inS (saysV (mrk m) s.fin (farP s ds r (mrk m).room) (farP s ds r (mrk m).other)) t) ∧ (0 ≤ t ∧ t ≤ s.fin) ↔
    (∀ m ∈ ms, soB m s.fin (comeP s ds r t (mrk m).room) (comeP s ds r t (mrk m).other) = true) ∧ (0 ≤ t ∧ t ≤ s.fin) := by
  have hf := h.fin
  have one : ∀ m ∈ ms, 0 ≤ t → t ≤ s.fin → (inS (saysV (mrk m) s.fin (farP s ds r (mrk m).room) (farP s ds r (mrk m).other)) t ↔ soB m s.fin (comeP s ds r t (mrk m).room) (comeP s ds r t (mrk m).other) = true) := by
    intro m hm h0 h1
    obtain ⟨m1, m2, m3, _⟩ := mk_rooms h (hms m hm)
    rw [soB_iff, come_when h hd hr m1 (by omega), come_when h hd hr m2 (by omega)]
    refine says_so h0 h1 hf.2 (fun c e => ?_) (fun c e => ?_) ⟨?_, ?_⟩
    · have := far_le h hd hr m1 e; show t + c < 1073741824; omega
    · have := far_le h hd hr m2 e; show t + c < 1073741824; omega
    · show m.lo < 1073741824; omega
    · show m.hi < 1073741824; omega
  constructor
  · rintro ⟨q, h0, h1⟩
    exact ⟨fun m hm => (one m hm h0 h1).1 (q m hm), h0, h1⟩
  · rintro ⟨q, h0, h1⟩
    exact ⟨fun m hm => (one m hm h0 h1).2 (q m hm), h0, h1⟩
/-- What the laws ask of a room, a minute and delays. -/
def trueB (s : Scn) (room : Nat) (t : Int) (ds : List Int) : Prop :=
  (0 ≤ t ∧ t ≤ s.fin) ∧ areD (gSp s.gates) ds ∧ ∀ m ∈ s.marks, soB m s.fin (comeP s ds room t (mrk m).room) (comeP s ds room t (mrk m).other) = true
theorem all_bits (s : Scn) : pickS s.marks (allN s) = s.marks := pick_all _ _ (Nat.le_refl _)
theorem true_iff {s : Scn} (h : ScOk s) {room : Nat} (hr : room < nR s) {t : Int} {ds : List Int} : trueB s room t ds ↔ areD (gSp s.gates) ds ∧ inS (winM s.fin (farP s ds room) s.marks (allN s)) t := by
  unfold trueB
  rw [win_iff, all_bits]
  constructor
  · rintro ⟨h1, h2, h3⟩
    have := (win_so h (fun _ q => q) h2 hr).2 ⟨h3, h1⟩
    exact ⟨h2, h1, this.1⟩
  · rintro ⟨h2, h1, h3⟩
    have := (win_so h (fun _ q => q) h2 hr).1 ⟨h3, h1⟩
    exact ⟨h1, h2, this.1⟩
theorem told_true {s : Scn} (h : ScOk s) {room : Nat} (hr : room < nR s) {t : Int} : inL (toldP s room) t ↔ ∃ ds, trueB s room t ds := by
  rw [told_iff]
  exact ⟨fun ⟨ds, h1, h2⟩ => ⟨ds, (true_iff h hr).2 ⟨(mem_all h).1 h1, h2⟩⟩, fun ⟨ds, q⟩ => ⟨ds, (mem_all h).2 ((true_iff h hr).1 q).1, ((true_iff h hr).1 q).2⟩⟩
theorem tru_some {s : Scn} (h : ScOk s) {room : Nat} (hr : room < nR s) {t : Int} {ds : List Int} (e : truP s room t = some ds) : trueB s room t ds ∧ ∀ e, trueB s room t e → e = ds ∨ befD ds e := by
  unfold truP at e
  cases hf : (trS s room (allN s)).find? (fun p => inB p.2.1 p.2.2 t) with
  | none => rw [hf] at e; cases e
  | some p =>
    rw [hf] at e
    cases e
    obtain ⟨hp, l, m, e, hl⟩ := List.find?_eq_some_iff_append.1 hf
    have hin : p ∈ trS s room (allN s) := by rw [e]; exact List.mem_append_right _ List.mem_cons_self
    obtain ⟨p1, p2, _⟩ := mem_tr.1 hin
    refine ⟨(true_iff h hr).2 ⟨(mem_all h).1 p1, p2 ▸ inB_iff.1 hp⟩, fun d hd => ?_⟩
    obtain ⟨d1, d2⟩ := (true_iff h hr).1 hd
    have din : (d, winM s.fin (farP s d room) s.marks (allN s)) ∈ trS s room (allN s) := mem_tr.2 ⟨(mem_all h).2 d1, rfl, Int.le_trans d2.1 d2.2⟩
    have ord : (trS s room (allN s)).Pairwise fun a b => befD a.1 b.1 := by
      unfold trS crsP
      rw [List.filterMap_map]
      refine List.Pairwise.filterMap _ (fun a a' hb b hb1 b' hb2 => ?_) (all_ord (gSp s.gates))
      simp only [Function.comp_apply, trC] at hb1 hb2
      split at hb1
      · split at hb2
        · cases hb1; cases hb2; exact hb
        · cases hb2
      · cases hb1
    rw [e] at din ord
    rcases List.mem_append.1 din with q | q
    · have := hl _ q
      have q2 : inB (winM s.fin (farP s d room) s.marks (allN s)).1 (winM s.fin (farP s d room) s.marks (allN s)).2 t = true := inB_iff.2 d2
      simp [q2] at this
    · rcases List.mem_cons.1 q with q | q
      · exact .inl (by rw [← q])
      · exact .inr ((List.pairwise_cons.1 (List.pairwise_append.1 ord).2.1).1 _ q)
theorem tru_none {s : Scn} (_h : ScOk s) {room : Nat} (_hr : room < nR s) {t : Int} : truP s room t = none ↔ ¬ inL (toldP s room) t := by
  rw [(told_ok s room).2]
  unfold truP
  rw [Option.map_eq_none_iff, List.find?_eq_none]
  constructor
  · rintro q ⟨p, hp, hi⟩
    exact q p hp (inB_iff.2 hi)
  · intro q p hp hi
    exact q ⟨p, hp, inB_iff.1 hi⟩
end Go.Proofs.YtmllgnnhblhfeaaDoor

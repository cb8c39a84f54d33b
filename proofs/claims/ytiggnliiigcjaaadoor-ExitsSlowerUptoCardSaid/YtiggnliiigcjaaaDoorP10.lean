import Derived.Test.YtiggnliiigcjaaaDoorE22
/-
  PLAIN: one list of times that stands above another one, and what a queue makes of both.
-/
namespace Go.Proofs.YtiggnliiigcjaaaDoor
open Go Go.Am
def cnt (T : Int) (l : List Int) : Nat := l.countP fun x => decide (T ≤ x)
/-- From each time on the second list has no fewer. -/
def Dom (x y : List Int) : Prop := ∀ T, cnt T x ≤ cnt T y
theorem Dom.refl (x : List Int) : Dom x x := fun _ => Nat.le_refl _
theorem Dom.nil (x : List Int) : Dom [] x := fun _ => Nat.zero_le _
theorem Dom.trans {x y z : List Int} (h : Dom x y) (k : Dom y z) : Dom x z := fun T => Nat.le_trans (h T) (k T)
theorem cnt_app (T : Int) (a b : List Int) : cnt T (a ++ b) = cnt T a + cnt T b := List.countP_append
theorem cnt_perm (T : Int) {a b : List Int} (h : a.Perm b) : cnt T a = cnt T b := h.countP_eq _
theorem cnt_cons (T : Int) (x : Int) (l : List Int) : cnt T (x :: l) = cnt T l + if T ≤ x then 1 else 0 := by
  unfold cnt; rw [List.countP_cons]; simp
theorem Dom.app {a b c d : List Int} (h : Dom a b) (k : Dom c d) : Dom (a ++ c) (b ++ d) := fun T => by
  rw [cnt_app, cnt_app]; exact Nat.add_le_add (h T) (k T)
theorem Dom.perm {a b c d : List Int} (h : Dom a b) (k : a.Perm c) (m : b.Perm d) : Dom c d := fun T => by
  rw [← cnt_perm T k, ← cnt_perm T m]; exact h T
theorem Dom.left {a b : List Int} : Dom a (a ++ b) := fun T => by rw [cnt_app]; exact Nat.le_add_right _ _
theorem Dom.right {a b : List Int} : Dom b (a ++ b) := fun T => by rw [cnt_app]; exact Nat.le_add_left _ _
/-- One by one. -/
def LeP : List Int → List Int → Prop
  | [], [] => True
  | a :: x, b :: y => a ≤ b ∧ LeP x y
  | _, _ => False
theorem LeP.refl : ∀ x, LeP x x
  | [] => trivial
  | _ :: x => ⟨Int.le_refl _, LeP.refl x⟩
theorem LeP.len : ∀ {x y}, LeP x y → x.length = y.length
  | [], [], _ => rfl
  | _ :: _, _ :: _, h => by simp [LeP.len h.2]
theorem LeP.app : ∀ {a b c d}, LeP a b → LeP c d → LeP (a ++ c) (b ++ d)
  | [], [], _, _, _, k => k
  | _ :: _, _ :: _, _, _, h, k => ⟨h.1, LeP.app h.2 k⟩
theorem LeP.rev : ∀ {a b}, LeP a b → LeP a.reverse b.reverse
  | [], [], _ => trivial
  | _ :: _, _ :: _, h => by rw [List.reverse_cons, List.reverse_cons]; exact LeP.app (LeP.rev h.2) ⟨h.1, trivial⟩
theorem LeP.dom : ∀ {a b}, LeP a b → Dom a b
  | [], [], _ => Dom.refl _
  | a :: x, b :: y, h => fun T => by
    have h1 := h.1
    have h2 := LeP.dom h.2 T
    rw [cnt_cons, cnt_cons]
    split <;> split <;> omega
theorem LeP.get : ∀ {a b : List Int}, LeP a b → ∀ (i : Nat) (x y : Int), a[i]? = some x → b[i]? = some y → x ≤ y
  | [], [], _, _, _, _, h, _ => by simp at h
  | a :: _, b :: _, h, 0, x, y, hx, hy => by simp at hx hy; subst hx; subst hy; exact h.1
  | a :: _, b :: _, h, i + 1, x, y, hx, hy => LeP.get h.2 i x y (by simpa using hx) (by simpa using hy)
theorem cnt_zero {T : Int} {l : List Int} (h : ∀ x ∈ l, x < T) : cnt T l = 0 := by
  unfold cnt
  rw [List.countP_eq_zero]
  intro x hx
  have := h x hx
  simp; omega
theorem cnt_pos {T : Int} {l : List Int} (h : 0 < cnt T l) : ∃ x ∈ l, T ≤ x := by
  unfold cnt at h
  obtain ⟨x, hx, h2⟩ := List.countP_pos_iff.1 h
  exact ⟨x, hx, of_decide_eq_true h2⟩
theorem cnt_one {T x : Int} {l : List Int} (h : x ∈ l) (h2 : T ≤ x) : 0 < cnt T l := by
  unfold cnt
  exact List.countP_pos_iff.2 ⟨x, h, decide_eq_true h2⟩
theorem Dom.above {a b : List Int} (h : Dom a b) {x T : Int} (hx : x ∈ a) (hT : T ≤ x) : ∃ y ∈ b, T ≤ y := cnt_pos (Nat.lt_of_lt_of_le (cnt_one hx hT) (h T))
theorem desc_al : ∀ (x y : List Int), x.Pairwise (fun a b => b ≤ a) → y.Pairwise (fun a b => b ≤ a) → Dom x y → ∃ y2 y1, y = y2 ++ y1 ∧ LeP x y2
  | [], y, _, _, _ => ⟨[], y, rfl, trivial⟩
  | a :: x, [], _, _, h => by
    obtain ⟨z, hz, _⟩ := h.above List.mem_cons_self (Int.le_refl a)
    cases hz
  | a :: x, b :: y, hx, hy, h => by
    have hx := List.pairwise_cons.1 hx
    have hy := List.pairwise_cons.1 hy
    have hab : a ≤ b := by
      obtain ⟨z, hz, h2⟩ := h.above List.mem_cons_self (Int.le_refl a)
      rcases List.mem_cons.1 hz with rfl | hz
      · exact h2
      · exact Int.le_trans h2 (hy.1 z hz)
    have hd : Dom x y := fun T => by
      have h1 := h T
      rw [cnt_cons, cnt_cons] at h1
      by_cases hT : T ≤ a
      · rw [if_pos hT, if_pos (Int.le_trans hT hab)] at h1; omega
      · rw [cnt_zero (l := x) fun z hz => by have := hx.1 z hz; omega]; exact Nat.zero_le _
    obtain ⟨y2, y1, e, hl⟩ := desc_al x y hx.2 hy.2 hd
    exact ⟨b :: y2, y1, by rw [e]; rfl, hab, hl⟩
/-- In increasing order: the last ones of the second list stand above the first list. -/
theorem asc_al {x y : List Int} (hx : x.Pairwise (fun a b => a ≤ b)) (hy : y.Pairwise (fun a b => a ≤ b)) (h : Dom x y) : ∃ y1 y2, y = y1 ++ y2 ∧ LeP x y2 := by
  obtain ⟨y2, y1, e, hl⟩ := desc_al x.reverse y.reverse (List.pairwise_reverse.2 hx) (List.pairwise_reverse.2 hy) (h.perm (List.reverse_perm x).symm (List.reverse_perm y).symm)
  refine ⟨y1.reverse, y2.reverse, ?_, ?_⟩
  · rw [← List.reverse_append, ← e, List.reverse_reverse]
  · have := hl.rev; rwa [List.reverse_reverse] at this
theorem leaveG_le {gap gap' walk walk' : Int} (hg : gap ≤ gap') (hw : walk ≤ walk') : ∀ {x y : List Int} {free free' : Int}, free ≤ free' → LeP x y → LeP (leaveG gap walk free x) (leaveG gap' walk' free' y)
  | [], [], _, _, _, _ => trivial
  | a :: x, b :: y, f, f', hf, h => ⟨by have := h.1; show max a f + walk ≤ max b f' + walk'; omega, leaveG_le hg hw (by have := h.1; omega) h.2⟩
def endG (gap : Int) : Int → List Int → Int
  | f, [] => f
  | f, t :: r => endG gap (max t f + gap) r
theorem leaveG_app (gap walk : Int) : ∀ (a b : List Int) (f : Int), leaveG gap walk f (a ++ b) = leaveG gap walk f a ++ leaveG gap walk (endG gap f a) b
  | [], _, _ => rfl
  | t :: a, b, f => by simp only [List.cons_append, leaveG, endG]; rw [leaveG_app gap walk a b]
theorem endG_ge {gap : Int} (hg : 0 ≤ gap) : ∀ (a : List Int) (f : Int), f ≤ endG gap f a
  | [], f => Int.le_refl f
  | t :: a, f => Int.le_trans (by omega) (endG_ge hg a (max t f + gap))
theorem leaveG_dom {gap gap' walk walk' : Int} (h0 : 0 ≤ gap') (hg : gap ≤ gap') (hw : walk ≤ walk') {x y : List Int} (hx : x.Pairwise (fun a b => a ≤ b)) (hy : y.Pairwise (fun a b => a ≤ b)) (f : Int) (h : Dom x y) : Dom (leaveG gap walk f x) (leaveG gap' walk' f y) := by
  obtain ⟨y1, y2, e, hl⟩ := asc_al hx hy h
  rw [e, leaveG_app]
  exact (leaveG_le hg hw (endG_ge h0 y1 f) hl).dom.trans Dom.right
end Go.Proofs.YtiggnliiigcjaaaDoor
/-
  PLAIN: who goes slower is out no earlier, and nothing is safer.
-/
namespace Go.Proofs.YtiggnliiigcjaaaDoor
open Go Go.Am
/-- A building and people that are slower, at an end. -/
structure Slow (e : Bool) (b : Bdg) (ws : List Wal) (c : Bdg) (vs : List Wal) : Prop where
  len : b.ss.length = c.ss.length
  st : ∀ (i : Nat) (s s' : Sta), b.ss[i]? = some s → c.ss[i]? = some s' → s.nx = s'.nx ∧ -1 ≤ s.nx ∧ s.gap ≤ s'.gap ∧ 0 ≤ s'.gap ∧ tk e s.wLo s.wHi ≤ tk e s'.wLo s'.wHi ∧ gv e s'.sLo s'.sHi ≤ gv e s.sLo s.sHi
  come : ∀ j, Dom (comeF e b ws j) (comeF e c vs j)
  late : ∀ w ∈ ws, isLateC e b w = true → ∃ v ∈ vs, isLateC e c v = true
theorem updF_dom {f g : Nat → List Int} (h : ∀ j, Dom (f j) (g j)) {x y : List Int} (k : Nat) (hx : Dom x y) : ∀ j, Dom (updF f k x j) (updF g k y j) := fun j => by
  by_cases hj : j = k
  · subst hj; rw [updF_same, updF_same]; exact hx
  · rw [updF_ne _ _ hj, updF_ne _ _ hj]; exact h j
theorem Dom.sort {x y : List Int} (h : Dom x y) : Dom (sortV x) (sortV y) := h.perm (perm_sortV x).symm (perm_sortV y).symm
theorem leaveV_dom {e : Bool} {s s' : Sta} (h0 : 0 ≤ s'.gap) (hg : s.gap ≤ s'.gap) (hw : tk e s.wLo s.wHi ≤ tk e s'.wLo s'.wHi) {x y : List Int} (h : Dom x y) : Dom (leaveV e s (sortV x)) (leaveV e s' (sortV y)) :=
  leaveG_dom h0 hg hw (sd_le (sd_sortV x)) (sd_le (sd_sortV y)) 0 h.sort
theorem Slow.sts {e : Bool} {b c : Bdg} {ws vs : List Wal} (h : Slow e b ws c vs) : ∀ i, i ≤ b.ss.length → ∀ j, Dom (stF e b ws i j) (stF e c vs i j) := by
  intro i
  induction i with
  | zero => intro _ j; rw [stF_zero, stF_zero]; exact h.come j
  | succ i ih =>
    intro hi
    have ih := ih (by omega)
    obtain ⟨s, hs⟩ : ∃ s, b.ss[i]? = some s := ⟨_, List.getElem?_eq_getElem (by omega)⟩
    obtain ⟨s', hs'⟩ : ∃ s, c.ss[i]? = some s := ⟨_, List.getElem?_eq_getElem (by have := h.len; omega)⟩
    obtain ⟨h1, h2, h3, h4, h5, _⟩ := h.st i s s' hs hs'
    have hk : s.nx = (((s.nx + 1).toNat : Nat) : Int) - 1 := by omega
    have hk' : s'.nx = (((s.nx + 1).toNat : Nat) : Int) - 1 := by omega
    rw [stF_succ hs hk, stF_succ hs' hk']
    have h6 := updF_dom ih (i + 1) (Dom.refl [])
    exact updF_dom h6 _ ((h6 _).app (leaveV_dom h4 h3 h5 (ih (i + 1))))
theorem Slow.leaves {e : Bool} {b c : Bdg} {ws vs : List Wal} (h : Slow e b ws c vs) {k : Nat} (hk : k < b.ss.length) : Dom (leavesV e b ws k) (leavesV e c vs k) := by
  obtain ⟨s, hs⟩ : ∃ s, b.ss[k]? = some s := ⟨_, List.getElem?_eq_getElem hk⟩
  obtain ⟨s', hs'⟩ : ∃ s, c.ss[k]? = some s := ⟨_, List.getElem?_eq_getElem (by have := h.len; omega)⟩
  obtain ⟨_, _, h3, h4, h5, _⟩ := h.st k s s' hs hs'
  rw [leavesV_eq hs, leavesV_eq hs']
  exact leaveV_dom h4 h3 h5 (h.sts k (Nat.le_of_lt hk) (k + 1))
theorem Slow.lateAt {e : Bool} {b c : Bdg} {ws vs : List Wal} (h : Slow e b ws c vs) {k : Nat} (hk : k < b.ss.length) (hl : lateAt e b ws k = true) : lateAt e c vs k = true := by
  obtain ⟨s, hs⟩ : ∃ s, b.ss[k]? = some s := ⟨_, List.getElem?_eq_getElem hk⟩
  obtain ⟨s', hs'⟩ : ∃ s, c.ss[k]? = some s := ⟨_, List.getElem?_eq_getElem (by have := h.len; omega)⟩
  obtain ⟨_, _, _, _, _, h6⟩ := h.st k s s' hs hs'
  obtain ⟨x, hx, h7⟩ := lateAt_yes hs hl
  obtain ⟨y, hy, h8⟩ := (h.leaves hk).above hx (Int.le_refl x)
  have h9 := of_decide_eq_true h7
  unfold Proofs.YtiggnliiigcjaaaDoor.lateAt
  rw [hs']
  exact List.any_eq_true.2 ⟨y, hy, decide_eq_true (by omega)⟩
/-! ### the last one -/
theorem foldl_max_ge : ∀ (r : List Int) (x : Int), x ≤ r.foldl max x ∧ (∀ y ∈ r, y ≤ r.foldl max x) ∧ (r.foldl max x = x ∨ r.foldl max x ∈ r)
  | [], x => ⟨Int.le_refl _, (fun y hy => absurd hy (by simp)), Or.inl rfl⟩
  | z :: r, x => by
    obtain ⟨h1, h2, h3⟩ := foldl_max_ge r (max x z)
    refine ⟨by simp only [List.foldl_cons]; omega, fun y hy => ?_, ?_⟩
    · simp only [List.foldl_cons]
      rcases List.mem_cons.1 hy with rfl | hy
      · omega
      · exact h2 y hy
    · simp only [List.foldl_cons]
      rcases h3 with h3 | h3
      · rw [h3]
        by_cases hxz : x ≤ z
        · exact .inr (by rw [Int.max_eq_right hxz]; exact List.mem_cons_self)
        · exact .inl (by omega)
      · exact .inr (List.mem_cons_of_mem _ h3)
theorem maxV_is {l : List Int} (h : 0 < l.length) : maxV l ∈ l ∧ ∀ y ∈ l, y ≤ maxV l := by
  cases l with
  | nil => simp at h
  | cons x r =>
    obtain ⟨h1, h2, h3⟩ := foldl_max_ge r x
    refine ⟨?_, fun y hy => ?_⟩
    · rcases h3 with h3 | h3
      · exact List.mem_cons.2 (.inl h3)
      · exact List.mem_cons_of_mem _ h3
    · rcases List.mem_cons.1 hy with rfl | hy
      · exact h1
      · exact h2 y hy
theorem maxV_dom {x y : List Int} (h : Dom x y) (hx : 0 < x.length) : 0 < y.length ∧ maxV x ≤ maxV y := by
  obtain ⟨z, hz, h1⟩ := h.above (maxV_is hx).1 (Int.le_refl _)
  have hy : 0 < y.length := List.length_pos_of_mem hz
  exact ⟨hy, Int.le_trans h1 ((maxV_is hy).2 z hz)⟩
theorem comesV_len (e : Bool) (b : Bdg) (ws : List Wal) (i : Nat) : (leavesV e b ws i).length = (comesV e b ws i).length := by unfold leavesV leaveV; rw [leaveG_len]
theorem Slow.lasts {e : Bool} {b c : Bdg} {ws vs : List Wal} (h : Slow e b ws c vs) : ∀ n, n ≤ b.ss.length → lastS e b ws n ≤ lastS e c vs n := by
  intro n
  induction n with
  | zero => intro _; exact Int.le_refl _
  | succ n ih =>
    intro hn
    have ih := ih (by omega)
    obtain ⟨s, hs⟩ : ∃ s, b.ss[n]? = some s := ⟨_, List.getElem?_eq_getElem (by omega)⟩
    obtain ⟨s', hs'⟩ : ∃ s, c.ss[n]? = some s := ⟨_, List.getElem?_eq_getElem (by have := h.len; omega)⟩
    have h1 := (h.st n s s' hs hs').1
    have hd : b.ss.getD n default = s := by rw [List.getD_eq_getElem?_getD, hs]; rfl
    have hd' : c.ss.getD n default = s' := by rw [List.getD_eq_getElem?_getD, hs']; rfl
    have hL := h.leaves (k := n) (by omega)
    simp only [lastS, hd, hd', ← h1]
    by_cases hc : (s.nx == -1 && decide (0 < (comesV e b ws n).length)) = true
    · rw [if_pos hc]
      simp only [Bool.and_eq_true, decide_eq_true_eq] at hc
      obtain ⟨m1, m2⟩ := maxV_dom hL (by rw [comesV_len]; exact hc.2)
      rw [comesV_len] at m1
      rw [if_pos (by rw [hc.1, Bool.true_and]; exact decide_eq_true m1)]
      omega
    · rw [if_neg hc]
      split <;> omega
theorem Slow.last {e : Bool} {b c : Bdg} {ws vs : List Wal} (h : Slow e b ws c vs) : lastV e b ws ≤ lastV e c vs := by
  unfold lastV
  rw [← h.len]
  exact h.lasts _ (Nat.le_refl _)
/-! ### who is late -/
theorem noL_iff {e : Bool} {b : Bdg} {ws : List Wal} (hp : ∀ x ∈ ws, 0 ≤ x.ch) : noL (lateV e b ws) = true ↔ (∀ w ∈ ws, isLateC e b w = false) ∧ ∀ j, j < b.ss.length → lateAt e b ws j = false := by
  have h1 := lateCV_is e b ws hp
  have h2 := lateSV_is e b ws
  simp only [noL, lateV, Bool.and_true, Bool.and_eq_true, beq_iff_eq]
  constructor
  · rintro ⟨a1, a2⟩
    refine ⟨?_, ?_⟩
    · rcases h1 with h1 | ⟨w, hw, _, h3, _⟩
      · exact h1.2
      · have := hp w hw; omega
    · rcases h2 with h2 | ⟨n, _, h3, _⟩
      · exact h2.2
      · omega
  · rintro ⟨a1, a2⟩
    refine ⟨?_, ?_⟩
    · rcases h1 with h1 | ⟨w, hw, h3, _⟩
      · exact h1.1
      · rw [a1 w hw] at h3; cases h3
    · rcases h2 with h2 | ⟨n, hn, _, h3, _⟩
      · exact h2.1
      · rw [a2 n hn] at h3; cases h3
theorem Slow.noL {e : Bool} {b c : Bdg} {ws vs : List Wal} (h : Slow e b ws c vs) (hp : ∀ x ∈ ws, 0 ≤ x.ch) (hp' : ∀ x ∈ vs, 0 ≤ x.ch) (hn : noL (lateV e c vs) = true) : noL (lateV e b ws) = true := by
  obtain ⟨n1, n2⟩ := (noL_iff hp').1 hn
  refine (noL_iff hp).2 ⟨fun w hw => ?_, fun j hj => ?_⟩
  · refine (Bool.eq_false_or_eq_true (isLateC e b w)).elim (fun hl => ?_) id
    obtain ⟨v, hv, h2⟩ := h.late w hw hl
    rw [n1 v hv] at h2; cases h2
  · refine (Bool.eq_false_or_eq_true (Proofs.YtiggnliiigcjaaaDoor.lateAt e b ws j)).elim (fun hl => ?_) id
    have h2 := h.lateAt hj hl
    rw [n2 j (by have := h.len; omega)] at h2; cases h2
theorem slow_safe {b c : Bdg} {ws vs : List Wal} (h1 : Slow true b ws c vs) (h0 : Slow false b ws c vs) (hp : ∀ x ∈ ws, 0 ≤ x.ch) (hp' : ∀ x ∈ vs, 0 ≤ x.ch) : (safeV c vs).1 ≤ (safeV b ws).1 := by
  unfold safeV
  by_cases c1 : Proofs.YtiggnliiigcjaaaDoor.noL (lateV true c vs) = true
  · rw [if_pos c1, if_pos (h1.noL hp hp' c1)]; exact Int.le_refl _
  · rw [if_neg c1]
    by_cases b1 : Proofs.YtiggnliiigcjaaaDoor.noL (lateV true b ws) = true
    · rw [if_pos b1]; split <;> exact (by omega)
    · rw [if_neg b1]
      by_cases c0 : Proofs.YtiggnliiigcjaaaDoor.noL (lateV false c vs) = true
      · rw [if_pos c0, if_pos (h0.noL hp hp' c0)]; exact Int.le_refl _
      · rw [if_neg c0]; split <;> exact (by omega)
/-! ### one more -/
theorem slow_more (e : Bool) (b : Bdg) (ws ms : List Wal) (hs : ∀ (i : Nat) (s : Sta), b.ss[i]? = some s → -1 ≤ s.nx ∧ 0 ≤ s.gap) : Slow e b ws b (ws ++ ms) where
  len := rfl
  st := fun i s s' h h' => by rw [h] at h'; cases h'; have := hs i s h; exact ⟨rfl, this.1, Int.le_refl _, this.2, Int.le_refl _, Int.le_refl _⟩
  come := fun j => by unfold comeF comeV; rw [List.filter_append, List.map_append]; exact Dom.left
  late := fun w hw hl => ⟨w, List.mem_append_left _ hw, hl⟩
theorem slow_all {b : Bdg} {ws ms : List Wal} (vd : Vld b (ws ++ ms)) : lastV false b ws ≤ lastV false b (ws ++ ms) ∧ lastV true b ws ≤ lastV true b (ws ++ ms) ∧ (safeV b (ws ++ ms)).1 ≤ (safeV b ws).1 := by
  have hs : ∀ (i : Nat) (s : Sta), b.ss[i]? = some s → -1 ≤ s.nx ∧ 0 ≤ s.gap := fun i s h => by have := vd.s i s h; exact ⟨by omega, by omega⟩
  have hp' : ∀ x ∈ ws ++ ms, 0 ≤ x.ch := fun x hx => (vd.w x hx).1.1
  exact ⟨(slow_more false b ws ms hs).last, (slow_more true b ws ms hs).last, slow_safe (slow_more true b ws ms hs) (slow_more false b ws ms hs) (fun x hx => hp' x (List.mem_append_left _ hx)) hp'⟩
end Go.Proofs.YtiggnliiigcjaaaDoor
/-
  PLAIN: slower people one by one.
-/
namespace Go.Proofs.YtiggnliiigcjaaaDoor
open Go Go.Am
theorem cdiv_le_iff {n k m : Int} (hn : 0 ≤ n) (hk : 1 ≤ k) : cdiv n k ≤ m ↔ n ≤ m * k := by
  unfold cdiv
  rw [Int.tdiv_eq_ediv_of_nonneg (by omega)]
  constructor
  · intro h
    have h1 : (n + k - 1) / k < m + 1 := by omega
    have h2 := (Int.ediv_lt_iff_lt_mul (by omega : 0 < k)).1 h1
    rw [Int.add_mul, Int.one_mul] at h2
    omega
  · intro h
    have h1 : (n + k - 1) / k < m + 1 := (Int.ediv_lt_iff_lt_mul (by omega : 0 < k)).2 (by rw [Int.add_mul, Int.one_mul]; omega)
    omega
theorem cdiv_nn {n k : Int} (hn : 0 ≤ n) (hk : 1 ≤ k) : 0 ≤ cdiv n k := by
  unfold cdiv
  rw [Int.tdiv_eq_ediv_of_nonneg (by omega)]
  exact Int.ediv_nonneg (by omega) (by omega)
/-- Who goes faster takes no longer. -/
theorem cdiv_anti {n k k' : Int} (hn : 0 ≤ n) (hk : 1 ≤ k') (h : k' ≤ k) : cdiv n k ≤ cdiv n k' := by
  have h0 := cdiv_nn hn hk
  have h1 := (cdiv_le_iff hn hk (m := cdiv n k')).1 (Int.le_refl _)
  exact (cdiv_le_iff hn (by omega)).2 (Int.le_trans h1 (Int.mul_le_mul_of_nonneg_left h h0))
/-- Two lists, one by one. -/
def AllP {α : Type} (R : α → α → Prop) : List α → List α → Prop
  | [], [] => True
  | a :: x, b :: y => R a b ∧ AllP R x y
  | _, _ => False
theorem AllP.of_get {α : Type} {R : α → α → Prop} : ∀ {x y : List α}, x.length = y.length → (∀ (i : Nat) (a b : α), x[i]? = some a → y[i]? = some b → R a b) → AllP R x y
  | [], [], _, _ => trivial
  | a :: x, b :: y, hl, h => ⟨h 0 a b rfl rfl, AllP.of_get (by simpa using hl) fun i a b ha hb => h (i + 1) a b (by simpa using ha) (by simpa using hb)⟩
theorem AllP.mem {α : Type} {R : α → α → Prop} : ∀ {x y : List α}, AllP R x y → ∀ a ∈ x, ∃ b ∈ y, R a b
  | a :: x, b :: y, h, c, hc => by
    rcases List.mem_cons.1 hc with rfl | hc
    · exact ⟨b, List.mem_cons_self, h.1⟩
    · obtain ⟨d, hd, h2⟩ := AllP.mem h.2 c hc
      exact ⟨d, List.mem_cons_of_mem _ hd, h2⟩
theorem come_dom {e : Bool} {b c : Bdg} (hcs : b.cs = c.cs) : ∀ {ws vs : List Wal}, AllP (fun w v => w.ch = v.ch ∧ takeV e b w ≤ takeV e c v) ws vs → ∀ j, Dom (comeF e b ws j) (comeF e c vs j)
  | [], [], _, _ => Dom.refl _
  | w :: ws, v :: vs, h, j => by
    have ih := come_dom hcs h.2 j
    have e1 : chOf b w = chOf c v := by unfold chOf; rw [hcs, h.1.1]
    unfold comeF comeV at ih ⊢
    rw [List.filter_cons, List.filter_cons, e1]
    cases hb : ((chOf c v).st == (j : Int) - 1)
    · exact ih
    · rw [if_pos rfl, if_pos rfl, List.map_cons, List.map_cons]
      exact Dom.app (a := [takeV e b w]) (b := [takeV e c v]) (LeP.dom ⟨h.1.2, trivial⟩) ih
/-- The same building with greater gaps, and people who go slower. -/
theorem slow_of {b c : Bdg} {ws vs : List Wal} (vd : Vld b ws) (vd' : Vld c vs) (e : Bool) (hcs : b.cs = c.cs) (hl : b.ss.length = c.ss.length)
    (hs : ∀ (i : Nat) (s s' : Sta), b.ss[i]? = some s → c.ss[i]? = some s' → s.nx = s'.nx ∧ s.gap ≤ s'.gap ∧ s.wLo = s'.wLo ∧ s.wHi = s'.wHi ∧ s.sLo = s'.sLo ∧ s.sHi = s'.sHi)
    (hwl : ws.length = vs.length) (hw : ∀ (i : Nat) (w v : Wal), ws[i]? = some w → vs[i]? = some v → w.ch = v.ch ∧ v.pLo ≤ w.pLo ∧ v.pHi ≤ w.pHi ∧ w.tLo = v.tLo ∧ w.tHi = v.tHi) : Slow e b ws c vs := by
  have hA : AllP (fun w v => w.ch = v.ch ∧ takeV e b w ≤ takeV e c v) ws vs := AllP.of_get hwl fun i w v h1 h2 => by
    obtain ⟨a1, a2, a3, a4, a5⟩ := hw i w v h1 h2
    have hm := List.mem_of_getElem? h1
    have hm' := List.mem_of_getElem? h2
    have v1 := (vd.w w hm).2.1
    have v2 := (vd'.w v hm').2.1
    have v3 := (vd.c _ _ (vd.chm hm)).2.1
    refine ⟨a1, ?_⟩
    have e1 : chOf c v = chOf b w := by unfold chOf; rw [hcs, a1]
    unfold takeV
    rw [e1, a4, a5]
    have h3 : cdiv (chOf b w).way (gv e w.pLo w.pHi) ≤ cdiv (chOf b w).way (gv e v.pLo v.pHi) := by
      cases e
      · exact cdiv_anti v3.1 (by show 1 ≤ v.pHi; omega) a3
      · exact cdiv_anti v3.1 (by show 1 ≤ v.pLo; omega) a2
    omega
  refine ⟨hl, fun i s s' h1 h2 => ?_, come_dom hcs hA, fun w h1 h2 => ?_⟩
  · obtain ⟨a1, a2, a3, a4, a5, a6⟩ := hs i s s' h1 h2
    have v1 := vd.s i s h1
    rw [a3, a4, a5, a6]
    exact ⟨a1, by omega, a2, by omega, Int.le_refl _, Int.le_refl _⟩
  · obtain ⟨v, hv, h3, h4⟩ := AllP.mem hA w h1
    refine ⟨v, hv, ?_⟩
    have e1 : chOf c v = chOf b w := by unfold chOf; rw [hcs, h3]
    unfold isLateC at h2 ⊢
    rw [e1]
    have := of_decide_eq_true h2
    exact decide_eq_true (by omega)
end Go.Proofs.YtiggnliiigcjaaaDoor
/-
  PLAIN: a building and people of which all is known, at an end.
-/
namespace Go.Proofs.YtiggnliiigcjaaaDoor
open Go Go.Am
def fixS (e : Bool) (s : Sta) : Sta := ⟨s.nx, s.gap, tk e s.wLo s.wHi, tk e s.wLo s.wHi, gv e s.sLo s.sHi, gv e s.sLo s.sHi⟩
def fixC (e : Bool) (c : Cha) : Cha := ⟨c.st, c.way, gv e c.sLo c.sHi, gv e c.sLo c.sHi⟩
def fixP (e : Bool) (w : Wal) : Wal := ⟨w.ch, gv e w.pLo w.pHi, gv e w.pLo w.pHi, tk e w.tLo w.tHi, tk e w.tLo w.tHi⟩
def fixB (e : Bool) (b : Bdg) : Bdg := ⟨b.ss.map (fixS e), b.cs.map (fixC e)⟩
def fixW (e : Bool) (ws : List Wal) : List Wal := ws.map (fixP e)
theorem tk_same (e : Bool) (x : Int) : tk e x x = x := by cases e <;> rfl
theorem gv_same (e : Bool) (x : Int) : gv e x x = x := by cases e <;> rfl
theorem chOf_fix (e : Bool) (b : Bdg) (w : Wal) : (chOf (fixB e b) (fixP e w)).st = (chOf b w).st ∧ (chOf (fixB e b) (fixP e w)).way = (chOf b w).way ∧ (w.ch.toNat < b.cs.length → chOf (fixB e b) (fixP e w) = fixC e (chOf b w)) := by
  unfold chOf
  show (((b.cs.map (fixC e)).getD w.ch.toNat default).st = _ ∧ ((b.cs.map (fixC e)).getD w.ch.toNat default).way = _ ∧ _)
  rw [List.getD_eq_getElem?_getD, List.getD_eq_getElem?_getD, List.getElem?_map]
  cases h : b.cs[w.ch.toNat]? with
  | none => exact ⟨rfl, rfl, fun h2 => by rw [List.getElem?_eq_none_iff] at h; omega⟩
  | some c =>
    refine ⟨rfl, rfl, fun _ => ?_⟩
    show (List.map (fixC e) b.cs).getD w.ch.toNat default = _
    rw [List.getD_eq_getElem?_getD, List.getElem?_map, h]; rfl
theorem take_fix (d e : Bool) (b : Bdg) (w : Wal) : takeV d (fixB e b) (fixP e w) = takeV e b w := by
  unfold takeV
  rw [(chOf_fix e b w).2.1]
  show tk d (tk e w.tLo w.tHi) (tk e w.tLo w.tHi) + cdiv _ (gv d (gv e w.pLo w.pHi) (gv e w.pLo w.pHi)) = _
  rw [tk_same, gv_same]
theorem come_fix (d e : Bool) (b : Bdg) (ws : List Wal) (j : Int) : comeV d (fixB e b) (fixW e ws) j = comeV e b ws j := by
  unfold comeV fixW
  induction ws with
  | nil => rfl
  | cons w ws ih =>
    rw [List.map_cons, List.filter_cons, List.filter_cons, (chOf_fix e b w).1]
    cases hb : ((chOf b w).st == j)
    · exact ih
    · rw [if_pos rfl, if_pos rfl, List.map_cons, List.map_cons, take_fix]
      exact congrArg _ ih
theorem leave_fix (d e : Bool) (s : Sta) (l : List Int) : leaveV d (fixS e s) l = leaveV e s l := by
  unfold leaveV
  show leaveG s.gap (tk d (tk e s.wLo s.wHi) (tk e s.wLo s.wHi)) 0 l = _
  rw [tk_same]
theorem fixB_get (e : Bool) (b : Bdg) (i : Nat) (h : i < b.ss.length) : (fixB e b).ss.getD i default = fixS e (b.ss.getD i default) := by
  show (b.ss.map (fixS e)).getD i default = _
  rw [List.getD_eq_getElem?_getD, List.getD_eq_getElem?_getD, List.getElem?_map, List.getElem?_eq_getElem h]; rfl
theorem state_fix (d e : Bool) (b : Bdg) (F : Int → List Int) : ∀ i, i ≤ b.ss.length → stateV d (fixB e b) F i = stateV e b F i := by
  intro i
  induction i with
  | zero => intro _; rfl
  | succ i ih =>
    intro hi
    have ih := ih (by omega)
    funext k
    simp only [stateV]
    rw [fixB_get e b i (by omega), ih, leave_fix]
    rfl
theorem stF_fix (d e : Bool) (b : Bdg) (ws : List Wal) (i : Nat) (hi : i ≤ b.ss.length) (j : Nat) : stF d (fixB e b) (fixW e ws) i j = stF e b ws i j := by
  unfold stF
  rw [show comeV d (fixB e b) (fixW e ws) = comeV e b ws from funext (come_fix d e b ws), state_fix d e b _ i hi]
theorem leaves_fix (d e : Bool) (b : Bdg) (ws : List Wal) (k : Nat) (hk : k < b.ss.length) : leavesV d (fixB e b) (fixW e ws) k = leavesV e b ws k := by
  unfold leavesV
  rw [comesV_eq, comesV_eq, stF_fix d e b ws k (by omega), fixB_get e b k hk, leave_fix]
theorem last_fix (d e : Bool) (b : Bdg) (ws : List Wal) : lastV d (fixB e b) (fixW e ws) = lastV e b ws := by
  unfold lastV
  rw [show (fixB e b).ss.length = b.ss.length from List.length_map ..]
  suffices h : ∀ n, n ≤ b.ss.length → lastS d (fixB e b) (fixW e ws) n = lastS e b ws n from h _ (Nat.le_refl _)
  intro n
  induction n with
  | zero => intro _; rfl
  | succ n ih =>
    intro hn
    simp only [lastS]
    rw [ih (by omega), leaves_fix d e b ws n (by omega), fixB_get e b n (by omega), comesV_eq, comesV_eq, stF_fix d e b ws n (by omega)]
    rfl
theorem lateC_fix (d e : Bool) {b : Bdg} {ws : List Wal} (vd : Vld b ws) {w : Wal} (hw : w ∈ ws) : isLateC d (fixB e b) (fixP e w) = isLateC e b w := by
  have h := (vd.w w hw).1
  unfold isLateC
  rw [take_fix, (chOf_fix e b w).2.2 (by omega)]
  show decide (takeV e b w > gv d (gv e (chOf b w).sLo (chOf b w).sHi) (gv e (chOf b w).sLo (chOf b w).sHi)) = _
  rw [gv_same]
theorem lateCV_fix (d e : Bool) {b : Bdg} {ws : List Wal} (vd : Vld b ws) : lateCV d (fixB e b) (fixW e ws) = lateCV e b ws := by
  unfold lateCV fixW
  rw [List.foldl_map]
  have : ∀ (l : List Wal) (v : Int), (∀ w ∈ l, w ∈ ws) → l.foldl (fun x y => lateStep d (fixB e b) x (fixP e y)) v = l.foldl (lateStep e b) v := by
    intro l
    induction l with
    | nil => intro _ _; rfl
    | cons w l ih =>
      intro v h
      have e1 : lateStep d (fixB e b) v (fixP e w) = lateStep e b v w := by unfold lateStep; rw [lateC_fix d e vd (h w List.mem_cons_self)]; rfl
      rw [List.foldl_cons, List.foldl_cons, e1]
      exact ih _ fun x hx => h x (List.mem_cons_of_mem _ hx)
  exact this ws (-1) fun _ h => h
theorem lateAt_fix (d e : Bool) (b : Bdg) (ws : List Wal) (n : Nat) : lateAt d (fixB e b) (fixW e ws) n = lateAt e b ws n := by
  unfold lateAt
  rw [show (fixB e b).ss[n]? = (b.ss[n]?).map (fixS e) from List.getElem?_map ..]
  cases h : b.ss[n]? with
  | none => rfl
  | some s =>
    have hn : n < b.ss.length := by
      rcases Nat.lt_or_ge n b.ss.length with h' | h'
      · exact h'
      · rw [List.getElem?_eq_none h'] at h; cases h
    simp only [Option.map_some, leaves_fix d e b ws n hn, fixS, gv_same]
theorem lateSV_fix (d e : Bool) (b : Bdg) (ws : List Wal) : lateSV d (fixB e b) (fixW e ws) = lateSV e b ws := by
  unfold lateSV
  rw [show (fixB e b).ss.length = b.ss.length from List.length_map .., show lateAt d (fixB e b) (fixW e ws) = lateAt e b ws from funext (lateAt_fix d e b ws)]
theorem lateV_fix (d e : Bool) {b : Bdg} {ws : List Wal} (vd : Vld b ws) : lateV d (fixB e b) (fixW e ws) = lateV e b ws := by
  unfold lateV; rw [lateCV_fix d e vd, lateSV_fix]
theorem safeV_fix (e : Bool) {b : Bdg} {ws : List Wal} (vd : Vld b ws) : safeV (fixB e b) (fixW e ws) = if noL (lateV e b ws) then (2, -1, -1) else (0, lateV e b ws) := by
  unfold safeV
  rw [lateV_fix true e vd, lateV_fix false e vd]
  by_cases h : noL (lateV e b ws) = true
  · rw [if_pos h, if_pos h]
  · rw [if_neg h, if_neg h, if_neg h]
/-- All that is known of a valid building is valid. -/
theorem vld_fix (e : Bool) {b : Bdg} {ws : List Wal} (vd : Vld b ws) : Vld (fixB e b) (fixW e ws) where
  sl := by rw [show (fixB e b).ss.length = b.ss.length from List.length_map ..]; exact vd.sl
  cl := by rw [show (fixB e b).cs.length = b.cs.length from List.length_map ..]; exact vd.cl
  wl := by rw [show (fixW e ws).length = ws.length from List.length_map ..]; exact vd.wl
  s := fun i s h => by
    rw [show (fixB e b).ss.length = b.ss.length from List.length_map ..]
    rw [show (fixB e b).ss[i]? = (b.ss[i]?).map (fixS e) from List.getElem?_map ..] at h
    cases h2 : b.ss[i]? with
    | none => rw [h2] at h; cases h
    | some t =>
      rw [h2] at h
      cases h
      have := vd.s i t h2
      cases e <;> simp only [fixS, tk, gv] <;> (refine ⟨this.1, this.2.1, ?_, ?_⟩ <;> simp <;> omega)
  c := fun i c h => by
    rw [show (fixB e b).ss.length = b.ss.length from List.length_map ..]
    rw [show (fixB e b).cs[i]? = (b.cs[i]?).map (fixC e) from List.getElem?_map ..] at h
    cases h2 : b.cs[i]? with
    | none => rw [h2] at h; cases h
    | some t =>
      rw [h2] at h
      cases h
      have := vd.c i t h2
      cases e <;> simp only [fixC, gv] <;> (refine ⟨this.1, this.2.1, ?_⟩; simp; omega)
  w := fun w h => by
    rw [show (fixB e b).cs.length = b.cs.length from List.length_map ..]
    obtain ⟨t, ht, rfl⟩ := List.mem_map.1 h
    have := vd.w t ht
    cases e <;> simp only [fixP, tk, gv] <;> (refine ⟨this.1, ?_, ?_⟩ <;> simp <;> omega)
theorem fix_slow {b : Bdg} {ws : List Wal} (vd : Vld b ws) : Slow true (fixB false b) (fixW false ws) (fixB true b) (fixW true ws) where
  len := by rw [show (fixB false b).ss.length = b.ss.length from List.length_map .., show (fixB true b).ss.length = b.ss.length from List.length_map ..]
  st := fun i s s' h h' => by
    rw [show (fixB false b).ss[i]? = (b.ss[i]?).map (fixS false) from List.getElem?_map ..] at h
    rw [show (fixB true b).ss[i]? = (b.ss[i]?).map (fixS true) from List.getElem?_map ..] at h'
    cases h2 : b.ss[i]? with
    | none => rw [h2] at h; cases h
    | some t =>
      rw [h2] at h h'
      cases h
      cases h'
      have := vd.s i t h2
      simp only [fixS, tk, gv]
      simp
      omega
  come := fun j => by
    unfold comeF
    rw [come_fix, come_fix]
    unfold comeV
    have : ∀ l : List Wal, (∀ w ∈ l, w ∈ ws) → LeP ((l.filter fun w => (chOf b w).st == (j : Int) - 1).map (takeV false b)) ((l.filter fun w => (chOf b w).st == (j : Int) - 1).map (takeV true b)) := by
      intro l
      induction l with
      | nil => intro _; trivial
      | cons w l ih =>
        intro h
        have ih := ih fun x hx => h x (List.mem_cons_of_mem _ hx)
        rw [List.filter_cons]
        cases hb : ((chOf b w).st == (j : Int) - 1)
        · exact ih
        · rw [if_pos rfl, List.map_cons, List.map_cons]
          refine ⟨?_, ih⟩
          have hm := h w List.mem_cons_self
          have v1 := vd.w w hm
          have v3 := (vd.c _ _ (vd.chm hm)).2.1
          have := cdiv_anti (n := (chOf b w).way) v3.1 (by omega : 1 ≤ w.pLo) v1.2.1.2.1
          show w.tLo + cdiv (chOf b w).way w.pHi ≤ w.tHi + cdiv (chOf b w).way w.pLo
          omega
    exact (this ws fun _ h => h).dom
  late := fun w hw hl => by
    obtain ⟨t, ht, rfl⟩ := List.mem_map.1 hw
    refine ⟨fixP true t, List.mem_map.2 ⟨t, ht, rfl⟩, ?_⟩
    rw [lateC_fix true _ vd ht] at hl ⊢
    have v1 := vd.w t ht
    have v3 := (vd.c _ _ (vd.chm ht)).2
    have := cdiv_anti (n := (chOf b t).way) v3.1.1 (by omega : 1 ≤ t.pLo) v1.2.1.2.1
    unfold isLateC at hl ⊢
    have h1 := of_decide_eq_true hl
    refine decide_eq_true ?_
    have e1 : takeV false b t = t.tLo + cdiv (chOf b t).way t.pHi := rfl
    have e2 : takeV true b t = t.tHi + cdiv (chOf b t).way t.pLo := rfl
    have e3 : gv false (chOf b t).sLo (chOf b t).sHi = (chOf b t).sHi := rfl
    have e4 : gv true (chOf b t).sLo (chOf b t).sHi = (chOf b t).sLo := rfl
    omega
/-- What is in time for sure is in time in some truth. -/
theorem noL_best {b : Bdg} {ws : List Wal} (vd : Vld b ws) (h : noL (lateV true b ws) = true) : noL (lateV false b ws) = true := by
  have h1 := (fix_slow vd).noL (fun x hx => ((vld_fix false vd).w x hx).1.1) (fun x hx => ((vld_fix true vd).w x hx).1.1)
  rw [lateV_fix true true vd, lateV_fix true false vd] at h1
  exact h1 h
theorem leaves_ends {b : Bdg} {ws : List Wal} (vd : Vld b ws) {k : Nat} (hk : k < b.ss.length) : Dom (leavesV false b ws k) (leavesV true b ws k) := by
  have h1 := (fix_slow vd).leaves (k := k) (by rw [show (fixB false b).ss.length = b.ss.length from List.length_map ..]; exact hk)
  rwa [leaves_fix true false b ws k hk, leaves_fix true true b ws k hk] at h1
end Go.Proofs.YtiggnliiigcjaaaDoor
/-
  PLAIN: nobody is lost; the order of people does not matter.
-/
namespace Go.Proofs.YtiggnliiigcjaaaDoor
open Go Go.Am
def tot (f : Nat → List Int) : Nat → Nat
  | 0 => 0
  | n + 1 => tot f n + (f n).length
theorem tot_upd_ge (f : Nat → List Int) (k : Nat) (x : List Int) : ∀ n, n ≤ k → tot (updF f k x) n = tot f n := by
  intro n
  induction n with
  | zero => intro _; rfl
  | succ n ih =>
    intro h
    show tot (updF f k x) n + (updF f k x n).length = tot f n + (f n).length
    rw [ih (by omega), updF_ne _ _ (by omega : n ≠ k)]
theorem tot_upd (f : Nat → List Int) (k : Nat) (x : List Int) : ∀ n, k < n → tot (updF f k x) n + (f k).length = tot f n + x.length := by
  intro n
  induction n with
  | zero => intro h; omega
  | succ n ih =>
    intro h
    show tot (updF f k x) n + (updF f k x n).length + (f k).length = tot f n + (f n).length + x.length
    by_cases hk : k = n
    · subst hk; rw [tot_upd_ge f k x k (Nat.le_refl _), updF_same]; omega
    · have := ih (by omega)
      rw [updF_ne _ _ (by omega : n ≠ k)]; omega
theorem tot_ge (f : Nat → List Int) : ∀ n k, k < n → (f k).length ≤ tot f n := by
  intro n
  induction n with
  | zero => intro k h; omega
  | succ n ih =>
    intro k h
    show (f k).length ≤ tot f n + (f n).length
    by_cases hk : k = n
    · subst hk; omega
    · have := ih k (by omega); omega
theorem tot_zero (f : Nat → List Int) : ∀ n, (∀ j, 1 ≤ j → j ≤ n → f j = []) → tot f (n + 1) = (f 0).length := by
  intro n
  induction n with
  | zero => intro _; exact Nat.zero_add _
  | succ n ih =>
    intro h
    show tot f (n + 1) + (f (n + 1)).length = _
    rw [ih (fun j h1 h2 => h j h1 (by omega)), h (n + 1) (by omega) (Nat.le_refl _)]; rfl
theorem comeF_cons {e : Bool} {b : Bdg} {ws : List Wal} {w : Wal} {k : Nat} (h : (chOf b w).st = (k : Int) - 1) : comeF e b (w :: ws) = updF (comeF e b ws) k (takeV e b w :: comeF e b ws k) := by
  funext j
  unfold comeF comeV
  rw [List.filter_cons]
  by_cases hj : j = k
  · subst hj
    rw [updF_same, h, if_pos (by simp)]; rfl
  · rw [updF_ne _ _ hj]
    have : ((chOf b w).st == (j : Int) - 1) = false := by rw [beq_eq_false_iff_ne]; omega
    rw [this]; rfl
theorem comeF_tot (e : Bool) (b : Bdg) (n : Nat) : ∀ ws : List Wal, (∀ w ∈ ws, 0 ≤ (chOf b w).st ∧ (chOf b w).st + 1 < (n : Int)) → tot (comeF e b ws) n = ws.length := by
  intro ws
  induction ws with
  | nil =>
    intro _
    have : ∀ m, tot (comeF e b []) m = 0 := fun m => by
      induction m with
      | zero => rfl
      | succ m ih => show tot _ m + _ = 0; rw [ih]; rfl
    exact this n
  | cons w ws ih =>
    intro h
    have h1 := h w List.mem_cons_self
    have hk : (chOf b w).st = ((((chOf b w).st + 1).toNat : Nat) : Int) - 1 := by omega
    rw [comeF_cons hk]
    have h2 := tot_upd (comeF e b ws) ((chOf b w).st + 1).toNat (takeV e b w :: comeF e b ws ((chOf b w).st + 1).toNat) n (by omega)
    have h3 := ih fun x hx => h x (List.mem_cons_of_mem _ hx)
    simp only [List.length_cons] at h2 ⊢
    omega
theorem leaveV_len (e : Bool) (s : Sta) (l : List Int) : (leaveV e s (sortV l)).length = l.length := by unfold leaveV; rw [leaveG_len, len_sortV]
theorem stF_tot (e : Bool) {b : Bdg} {ws : List Wal} (vd : Vld b ws) : ∀ i, i ≤ b.ss.length → tot (stF e b ws i) (b.ss.length + 1) = ws.length := by
  intro i
  induction i with
  | zero =>
    intro _
    rw [stF_zero]
    exact comeF_tot e b _ ws fun w hw => by have := (vd.c _ _ (vd.chm hw)).1; omega
  | succ i ih =>
    intro hi
    have ih := ih (by omega)
    obtain ⟨s, hs⟩ : ∃ s, b.ss[i]? = some s := ⟨_, List.getElem?_eq_getElem (by omega)⟩
    have hv := (vd.s i s hs).1
    have hk : s.nx = (((s.nx + 1).toNat : Nat) : Int) - 1 := by omega
    rw [stF_succ hs hk]
    have h1 := tot_upd (stF e b ws i) (i + 1) [] (b.ss.length + 1) (by omega)
    have h2 := tot_upd (updF (stF e b ws i) (i + 1) []) (s.nx + 1).toNat (updF (stF e b ws i) (i + 1) [] (s.nx + 1).toNat ++ leaveV e s (sortV (stF e b ws i (i + 1)))) (b.ss.length + 1) (by omega)
    rw [List.length_append, leaveV_len] at h2
    simp only [List.length_nil] at h1
    omega
theorem stF_gone (e : Bool) {b : Bdg} {ws : List Wal} (vd : Vld b ws) : ∀ i, i ≤ b.ss.length → ∀ j, 1 ≤ j → j ≤ i → stF e b ws i j = [] := by
  intro i
  induction i with
  | zero => intro _ j h1 h2; omega
  | succ i ih =>
    intro hi j h1 h2
    obtain ⟨s, hs⟩ : ∃ s, b.ss[i]? = some s := ⟨_, List.getElem?_eq_getElem (by omega)⟩
    have hv := (vd.s i s hs).1
    have hk : s.nx = (((s.nx + 1).toNat : Nat) : Int) - 1 := by omega
    rw [stF_succ hs hk, updF_ne _ _ (by omega : j ≠ (s.nx + 1).toNat)]
    by_cases hj : j = i + 1
    · subst hj; exact updF_same _ _ _
    · rw [updF_ne _ _ hj]; exact ih (by omega) j h1 (by omega)
theorem stF_out (e : Bool) {b : Bdg} {ws : List Wal} (vd : Vld b ws) : (stF e b ws b.ss.length 0).length = ws.length := by
  rw [← stF_tot e vd _ (Nat.le_refl _)]
  exact (tot_zero _ _ (stF_gone e vd _ (Nat.le_refl _))).symm
theorem stF_short (e : Bool) {b : Bdg} {ws : List Wal} (vd : Vld b ws) {i j : Nat} (hi : i ≤ b.ss.length) (hj : j ≤ b.ss.length) : (stF e b ws i j).length ≤ ws.length := by
  rw [← stF_tot e vd i hi]
  exact tot_ge _ _ _ (by omega)
theorem leavesV_lenF {e : Bool} {b : Bdg} {ws : List Wal} {k : Nat} (hk : k < b.ss.length) : (leavesV e b ws k).length = (stF e b ws k (k + 1)).length := by
  obtain ⟨s, hs⟩ : ∃ s, b.ss[k]? = some s := ⟨_, List.getElem?_eq_getElem hk⟩
  rw [leavesV_eq hs, leaveV_len]
/-- Each one after the one before. -/
theorem leaveG_gap (gap walk : Int) : ∀ (l : List Int) (f : Int) (k : Nat) (x y : Int), (leaveG gap walk f l)[k]? = some x → (leaveG gap walk f l)[k + 1]? = some y → x + gap ≤ y
  | [], _, _, _, _, h, _ => by simp [leaveG] at h
  | t :: [], f, k, x, y, _, h => by simp [leaveG] at h
  | t :: u :: l, f, 0, x, y, h1, h2 => by
    simp [leaveG] at h1 h2
    omega
  | t :: u :: l, f, k + 1, x, y, h1, h2 => by
    simp only [leaveG, List.getElem?_cons_succ] at h1 h2
    exact leaveG_gap gap walk (u :: l) (max t f + gap) k x y h1 h2
/-! ### the order of people -/
theorem sortV_perm {x y : List Int} (h : x.Perm y) : sortV x = sortV y :=
  List.Perm.eq_of_pairwise (le := fun a b : Int => a ≤ b) (fun _a _b _ _ h1 h2 => Int.le_antisymm h1 h2) (sd_le (sd_sortV x)) (sd_le (sd_sortV y)) ((perm_sortV x).trans (h.trans (perm_sortV y).symm))
theorem updF_perm {f g : Nat → List Int} (h : ∀ j, (f j).Perm (g j)) {x y : List Int} (k : Nat) (hx : x.Perm y) : ∀ j, (updF f k x j).Perm (updF g k y j) := fun j => by
  by_cases hj : j = k
  · subst hj; rw [updF_same, updF_same]; exact hx
  · rw [updF_ne _ _ hj, updF_ne _ _ hj]; exact h j
theorem stF_perm (e : Bool) {b : Bdg} {ws vs : List Wal} (vd : Vld b ws) (h : ws.Perm vs) : ∀ i, i ≤ b.ss.length → ∀ j, (stF e b ws i j).Perm (stF e b vs i j) := by
  intro i
  induction i with
  | zero =>
    intro _ j
    rw [stF_zero, stF_zero]
    exact (h.filter _).map _
  | succ i ih =>
    intro hi
    have ih := ih (by omega)
    obtain ⟨s, hs⟩ : ∃ s, b.ss[i]? = some s := ⟨_, List.getElem?_eq_getElem (by omega)⟩
    have hv := (vd.s i s hs).1
    have hk : s.nx = (((s.nx + 1).toNat : Nat) : Int) - 1 := by omega
    rw [stF_succ hs hk, stF_succ hs hk, sortV_perm (ih (i + 1))]
    have h6 := updF_perm ih (i + 1) (List.Perm.refl [])
    exact updF_perm h6 _ ((h6 _).append_right _)
theorem leavesV_perm (e : Bool) {b : Bdg} {ws vs : List Wal} (vd : Vld b ws) (h : ws.Perm vs) {k : Nat} (hk : k < b.ss.length) : leavesV e b ws k = leavesV e b vs k := by
  obtain ⟨s, hs⟩ : ∃ s, b.ss[k]? = some s := ⟨_, List.getElem?_eq_getElem hk⟩
  rw [leavesV_eq hs, leavesV_eq hs, sortV_perm (stF_perm e vd h k (Nat.le_of_lt hk) (k + 1))]
theorem lastV_perm (e : Bool) {b : Bdg} {ws vs : List Wal} (vd : Vld b ws) (h : ws.Perm vs) : lastV e b ws = lastV e b vs := by
  unfold lastV
  suffices h : ∀ n, n ≤ b.ss.length → lastS e b ws n = lastS e b vs n from h _ (Nat.le_refl _)
  intro n
  induction n with
  | zero => intro _; rfl
  | succ n ih =>
    intro hn
    simp only [lastS]
    rw [ih (by omega), leavesV_perm e vd h (by omega : n < b.ss.length), comesV_eq, comesV_eq, sortV_perm (stF_perm e vd h n (by omega) (n + 1))]
theorem lateSV_perm (e : Bool) {b : Bdg} {ws vs : List Wal} (vd : Vld b ws) (h : ws.Perm vs) : lateSV e b ws = lateSV e b vs := by
  unfold lateSV
  rw [show lateAt e b ws = lateAt e b vs from funext fun n => by
    unfold lateAt
    cases hs : b.ss[n]? with
    | none => rfl
    | some s =>
      have hn : n < b.ss.length := by
        rcases Nat.lt_or_ge n b.ss.length with h' | h'
        · exact h'
        · rw [List.getElem?_eq_none h'] at hs; cases hs
      simp only [leavesV_perm e vd h hn]]
theorem lateCV_perm (e : Bool) {b : Bdg} {ws vs : List Wal} (hp : ∀ x ∈ ws, 0 ≤ x.ch) (h : ws.Perm vs) : lateCV e b ws = lateCV e b vs := by
  have h1 := lateCV_is e b ws hp
  have h2 := lateCV_is e b vs fun x hx => hp x (h.mem_iff.2 hx)
  rcases h1 with ⟨a1, a2⟩ | ⟨w, hw, a1, a2, a3⟩
  · rcases h2 with ⟨b1, b2⟩ | ⟨v, hv, b1, b2, b3⟩
    · rw [a1, b1]
    · rw [a2 v (h.mem_iff.2 hv)] at b1; cases b1
  · rcases h2 with ⟨b1, b2⟩ | ⟨v, hv, b1, b2, b3⟩
    · rw [b2 w (h.mem_iff.1 hw)] at a1; cases a1
    · have c1 := a3 v (h.mem_iff.2 hv) b1
      have c2 := b3 w (h.mem_iff.1 hw) a1
      omega
theorem safeV_perm {b : Bdg} {ws vs : List Wal} (vd : Vld b ws) (h : ws.Perm vs) : safeV b ws = safeV b vs := by
  have hp : ∀ x ∈ ws, 0 ≤ x.ch := fun x hx => (vd.w x hx).1.1
  unfold safeV lateV
  rw [lateCV_perm true hp h, lateCV_perm false hp h, lateSV_perm true vd h, lateSV_perm false vd h]
end Go.Proofs.YtiggnliiigcjaaaDoor
/-
  PLAIN: everybody, and smoke, later by as much; how long all of it takes at most.
-/
namespace Go.Proofs.YtiggnliiigcjaaaDoor
open Go Go.Am
def latS (n : Int) (s : Sta) : Sta := ⟨s.nx, s.gap, s.wLo, s.wHi, s.sLo + n, s.sHi + n⟩
def latC (n : Int) (c : Cha) : Cha := ⟨c.st, c.way, c.sLo + n, c.sHi + n⟩
def latP (n : Int) (w : Wal) : Wal := ⟨w.ch, w.pLo, w.pHi, w.tLo + n, w.tHi + n⟩
def latB (n : Int) (b : Bdg) : Bdg := ⟨b.ss.map (latS n), b.cs.map (latC n)⟩
def latW (n : Int) (ws : List Wal) : List Wal := ws.map (latP n)
def sh (n : Int) (l : List Int) : List Int := l.map (· + n)
theorem chOf_lat (n : Int) (b : Bdg) (w : Wal) : (chOf (latB n b) (latP n w)).st = (chOf b w).st ∧ (chOf (latB n b) (latP n w)).way = (chOf b w).way ∧ (w.ch.toNat < b.cs.length → chOf (latB n b) (latP n w) = latC n (chOf b w)) := by
  unfold chOf
  show (((b.cs.map (latC n)).getD w.ch.toNat default).st = _ ∧ ((b.cs.map (latC n)).getD w.ch.toNat default).way = _ ∧ _)
  rw [List.getD_eq_getElem?_getD, List.getD_eq_getElem?_getD, List.getElem?_map]
  cases h : b.cs[w.ch.toNat]? with
  | none => exact ⟨rfl, rfl, fun h2 => by rw [List.getElem?_eq_none_iff] at h; omega⟩
  | some c =>
    refine ⟨rfl, rfl, fun _ => ?_⟩
    show (List.map (latC n) b.cs).getD w.ch.toNat default = _
    rw [List.getD_eq_getElem?_getD, List.getElem?_map, h]; rfl
theorem take_lat (e : Bool) (n : Int) (b : Bdg) (w : Wal) : takeV e (latB n b) (latP n w) = takeV e b w + n := by
  unfold takeV
  rw [(chOf_lat n b w).2.1]
  show tk e (w.tLo + n) (w.tHi + n) + cdiv _ (gv e w.pLo w.pHi) = _
  cases e <;> simp only [tk] <;> simp <;> omega
theorem come_lat (e : Bool) (n : Int) (b : Bdg) (ws : List Wal) (j : Int) : comeV e (latB n b) (latW n ws) j = sh n (comeV e b ws j) := by
  unfold comeV latW
  induction ws with
  | nil => rfl
  | cons w ws ih =>
    rw [List.map_cons, List.filter_cons, List.filter_cons, (chOf_lat n b w).1]
    cases hb : ((chOf b w).st == j)
    · exact ih
    · rw [if_pos rfl, if_pos rfl, List.map_cons, List.map_cons, take_lat]
      exact congrArg _ ih
theorem sort_sh (n : Int) (l : List Int) : sortV (sh n l) = sh n (sortV l) := by
  refine List.Perm.eq_of_pairwise (le := fun a b : Int => a ≤ b) (fun a b _ _ h1 h2 => Int.le_antisymm h1 h2) (sd_le (sd_sortV _)) ?_ ((perm_sortV _).trans ((perm_sortV l).symm.map _))
  unfold sh
  rw [List.pairwise_map]
  exact (sd_le (sd_sortV l)).imp fun h => by omega
theorem leaveG_sh (gap walk n : Int) : ∀ (l : List Int) (f : Int), leaveG gap walk (f + n) (sh n l) = sh n (leaveG gap walk f l)
  | [], _ => rfl
  | t :: l, f => by
    show (max (t + n) (f + n) + walk) :: leaveG gap walk (max (t + n) (f + n) + gap) (sh n l) = (max t f + walk + n) :: sh n (leaveG gap walk (max t f + gap) l)
    rw [show max (t + n) (f + n) + walk = max t f + walk + n by omega, show max (t + n) (f + n) + gap = (max t f + gap) + n by omega, leaveG_sh gap walk n l]
theorem leaveG_free {gap walk f f' : Int} : ∀ {l : List Int}, (∀ x ∈ l, f ≤ x ∧ f' ≤ x) → leaveG gap walk f l = leaveG gap walk f' l
  | [], _ => rfl
  | t :: l, h => by
    have := h t List.mem_cons_self
    show (max t f + walk) :: leaveG gap walk (max t f + gap) l = (max t f' + walk) :: leaveG gap walk (max t f' + gap) l
    rw [show max t f = max t f' by omega]
theorem leave_lat (e : Bool) {n : Int} (hn : 0 ≤ n) (s : Sta) {l : List Int} (h : ∀ x ∈ l, 0 ≤ x) : leaveV e (latS n s) (sortV (sh n l)) = sh n (leaveV e s (sortV l)) := by
  unfold leaveV
  show leaveG s.gap (tk e s.wLo s.wHi) 0 (sortV (sh n l)) = _
  rw [sort_sh, ← leaveG_sh]
  exact leaveG_free fun x hx => by
    obtain ⟨y, hy, rfl⟩ := List.mem_map.1 hx
    have := h y ((perm_sortV l).mem_iff.1 hy)
    omega
theorem stF_lat (e : Bool) {n : Int} (hn : 0 ≤ n) {b : Bdg} {ws : List Wal} (vd : Vld b ws) (h0 : ∀ i, i ≤ b.ss.length → ∀ j, ∀ x ∈ stF e b ws i j, 0 ≤ x) : ∀ i, i ≤ b.ss.length → ∀ j, stF e (latB n b) (latW n ws) i j = sh n (stF e b ws i j) := by
  intro i
  induction i with
  | zero => intro _ j; rw [stF_zero, stF_zero]; exact come_lat e n b ws _
  | succ i ih =>
    intro hi j
    have ih := ih (by omega)
    obtain ⟨s, hs⟩ : ∃ s, b.ss[i]? = some s := ⟨_, List.getElem?_eq_getElem (by omega)⟩
    have hs' : (latB n b).ss[i]? = some (latS n s) := by rw [show (latB n b).ss[i]? = (b.ss[i]?).map (latS n) from List.getElem?_map .., hs]; rfl
    have hv := (vd.s i s hs).1
    have hk : s.nx = (((s.nx + 1).toNat : Nat) : Int) - 1 := by omega
    have hk' : (latS n s).nx = (((s.nx + 1).toNat : Nat) : Int) - 1 := hk
    rw [stF_succ hs hk, stF_succ hs' hk', ih (i + 1), leave_lat e hn s (h0 i (by omega) (i + 1))]
    have e6 : ∀ j, updF (stF e (latB n b) (latW n ws) i) (i + 1) [] j = sh n (updF (stF e b ws i) (i + 1) [] j) := fun j => by
      by_cases hj : j = i + 1
      · subst hj; rw [updF_same, updF_same]; rfl
      · rw [updF_ne _ _ hj, updF_ne _ _ hj]; exact ih j
    by_cases hj : j = (s.nx + 1).toNat
    · subst hj; rw [updF_same, updF_same, e6]; unfold sh; rw [List.map_append]
    · rw [updF_ne _ _ hj, updF_ne _ _ hj]; exact e6 j
theorem leaves_lat (e : Bool) {n : Int} (hn : 0 ≤ n) {b : Bdg} {ws : List Wal} (vd : Vld b ws) (h0 : ∀ i, i ≤ b.ss.length → ∀ j, ∀ x ∈ stF e b ws i j, 0 ≤ x) {k : Nat} (hk : k < b.ss.length) : leavesV e (latB n b) (latW n ws) k = sh n (leavesV e b ws k) := by
  obtain ⟨s, hs⟩ : ∃ s, b.ss[k]? = some s := ⟨_, List.getElem?_eq_getElem hk⟩
  have hs' : (latB n b).ss[k]? = some (latS n s) := by rw [show (latB n b).ss[k]? = (b.ss[k]?).map (latS n) from List.getElem?_map .., hs]; rfl
  rw [leavesV_eq hs, leavesV_eq hs', stF_lat e hn vd h0 k (by omega), leave_lat e hn s (h0 k (by omega) (k + 1))]
theorem lateC_lat (e : Bool) (n : Int) {b : Bdg} {ws : List Wal} (vd : Vld b ws) {w : Wal} (hw : w ∈ ws) : isLateC e (latB n b) (latP n w) = isLateC e b w := by
  have h := (vd.w w hw).1
  unfold isLateC
  rw [take_lat, (chOf_lat n b w).2.2 (by omega)]
  show decide (takeV e b w + n > gv e ((chOf b w).sLo + n) ((chOf b w).sHi + n)) = _
  cases e <;> simp only [gv] <;> simp
theorem lateCV_lat (e : Bool) (n : Int) {b : Bdg} {ws : List Wal} (vd : Vld b ws) : lateCV e (latB n b) (latW n ws) = lateCV e b ws := by
  unfold lateCV latW
  rw [List.foldl_map]
  have : ∀ (l : List Wal) (v : Int), (∀ w ∈ l, w ∈ ws) → l.foldl (fun x y => lateStep e (latB n b) x (latP n y)) v = l.foldl (lateStep e b) v := by
    intro l
    induction l with
    | nil => intro _ _; rfl
    | cons w l ih =>
      intro v h
      have e1 : lateStep e (latB n b) v (latP n w) = lateStep e b v w := by unfold lateStep; rw [lateC_lat e n vd (h w List.mem_cons_self)]; rfl
      rw [List.foldl_cons, List.foldl_cons, e1]
      exact ih _ fun x hx => h x (List.mem_cons_of_mem _ hx)
  exact this ws (-1) fun _ h => h
theorem lateAt_lat (e : Bool) {n : Int} (hn : 0 ≤ n) {b : Bdg} {ws : List Wal} (vd : Vld b ws) (h0 : ∀ i, i ≤ b.ss.length → ∀ j, ∀ x ∈ stF e b ws i j, 0 ≤ x) (k : Nat) : lateAt e (latB n b) (latW n ws) k = lateAt e b ws k := by
  unfold lateAt
  rw [show (latB n b).ss[k]? = (b.ss[k]?).map (latS n) from List.getElem?_map ..]
  cases h : b.ss[k]? with
  | none => rfl
  | some s =>
    have hk : k < b.ss.length := by
      rcases Nat.lt_or_ge k b.ss.length with h' | h'
      · exact h'
      · rw [List.getElem?_eq_none h'] at h; cases h
    simp only [Option.map_some, leaves_lat e hn vd h0 hk, sh, List.any_map]
    refine congrArg (fun f => List.any _ f) (funext fun x => ?_)
    show decide (x + n > gv e (s.sLo + n) (s.sHi + n)) = _
    cases e <;> simp only [gv] <;> simp
theorem safeV_lat {n : Int} (hn : 0 ≤ n) {b : Bdg} {ws : List Wal} (vd : Vld b ws) (h0 : ∀ e i, i ≤ b.ss.length → ∀ j, ∀ x ∈ stF e b ws i j, 0 ≤ x) : safeV (latB n b) (latW n ws) = safeV b ws := by
  have h : ∀ e, lateV e (latB n b) (latW n ws) = lateV e b ws := fun e => by
    unfold lateV
    rw [lateCV_lat e n vd]
    unfold lateSV
    rw [show (latB n b).ss.length = b.ss.length from List.length_map .., show lateAt e (latB n b) (latW n ws) = lateAt e b ws from funext (lateAt_lat e hn vd (h0 e))]
  unfold safeV
  rw [h true, h false]
/-! ### when the last one is out -/
theorem maxV_sh (n : Int) {l : List Int} (h : 0 < l.length) : maxV (sh n l) = maxV l + n := by
  have h1 := maxV_is h
  have h2 := maxV_is (l := sh n l) (by unfold sh; rw [List.length_map]; exact h)
  obtain ⟨y, hy, e1⟩ := List.mem_map.1 h2.1
  have e2 : y + n = maxV (sh n l) := e1
  have a1 := h1.2 y hy
  have a2 := h2.2 (maxV l + n) (List.mem_map.2 ⟨_, h1.1, rfl⟩)
  omega
/-- Up to a stair: somebody is out, and the last one is later by as much; or nobody is. -/
theorem lastS_lat (e : Bool) {n : Int} (hn : 0 ≤ n) {b : Bdg} {ws : List Wal} (vd : Vld b ws) (h0 : ∀ i, i ≤ b.ss.length → ∀ j, ∀ x ∈ stF e b ws i j, 0 ≤ x) : ∀ k, k ≤ b.ss.length →
    ((stF e b ws k 0 = [] ∧ lastS e b ws k = 0 ∧ lastS e (latB n b) (latW n ws) k = 0) ∨ (stF e b ws k 0 ≠ [] ∧ 0 ≤ lastS e b ws k ∧ lastS e (latB n b) (latW n ws) k = lastS e b ws k + n)) := by
  intro k
  induction k with
  | zero =>
    intro _
    refine .inl ⟨?_, rfl, rfl⟩
    rw [stF_zero]
    unfold comeF comeV
    have : (ws.filter fun w => (chOf b w).st == ((0 : Nat) : Int) - 1) = [] := by
      rw [List.filter_eq_nil_iff]
      intro w hw
      have := (vd.c _ _ (vd.chm hw)).1
      simp; omega
    rw [this]; rfl
  | succ k ih =>
    intro hk
    have ih := ih (by omega)
    obtain ⟨s, hs⟩ : ∃ s, b.ss[k]? = some s := ⟨_, List.getElem?_eq_getElem (by omega)⟩
    have hd : b.ss.getD k default = s := by rw [List.getD_eq_getElem?_getD, hs]; rfl
    have hd' : (latB n b).ss.getD k default = latS n s := by rw [List.getD_eq_getElem?_getD, show (latB n b).ss[k]? = (b.ss[k]?).map (latS n) from List.getElem?_map .., hs]; rfl
    have hv := (vd.s k s hs).1
    have hkk : s.nx = (((s.nx + 1).toNat : Nat) : Int) - 1 := by omega
    have hL := leaves_lat e hn vd h0 (k := k) (by omega)
    have hlen : (leavesV e b ws k).length = (stF e b ws k (k + 1)).length := leavesV_lenF (by omega)
    have hc1 : (comesV e b ws k).length = (stF e b ws k (k + 1)).length := by rw [← comesV_len, hlen]
    have hc2 : (comesV e (latB n b) (latW n ws) k).length = (stF e b ws k (k + 1)).length := by rw [← comesV_len, hL]; unfold sh; rw [List.length_map, hlen]
    rw [stF_succ hs hkk]
    have enx : (latS n s).nx = s.nx := rfl
    simp only [lastS, hd, hd', hc1, hc2, hL, enx]
    by_cases h1 : s.nx = -1
    · have e0 : (s.nx + 1).toNat = 0 := by omega
      rw [e0, updF_same, updF_ne _ _ (by omega : (0 : Nat) ≠ k + 1)]
      have eb : (s.nx == -1) = true := by rw [h1]; rfl
      by_cases h2 : 0 < (stF e b ws k (k + 1)).length
      · rw [eb, decide_eq_true h2, Bool.true_and, if_pos rfl, if_pos rfl]
        have hLp : 0 < (leavesV e b ws k).length := by omega
        have hL0 : 0 < (leaveV e s (sortV (stF e b ws k (k + 1)))).length := by rw [leaveV_len]; exact h2
        have hm : maxV (sh n (leavesV e b ws k)) = maxV (leavesV e b ws k) + n := maxV_sh n hLp
        have hge : 0 ≤ maxV (leavesV e b ws k) := by
          have h3 := (maxV_is hLp).1
          have h5 := h0 (k + 1) hk 0 (maxV (leavesV e b ws k)) (by
            rw [stF_succ hs hkk, e0, updF_same]
            refine List.mem_append_right _ ?_
            rw [← leavesV_eq hs]; exact h3)
          exact h5
        refine .inr ⟨fun h => ?_, by omega, ?_⟩
        · have := congrArg List.length h
          rw [List.length_append, List.length_nil] at this; omega
        · rw [hm]
          rcases ih with ⟨_, a2, a3⟩ | ⟨_, a2, a3⟩
          · rw [a2, a3]; omega
          · rw [a3]; omega
      · have e2 : leaveV e s (sortV (stF e b ws k (k + 1))) = [] := List.length_eq_zero_iff.1 (by rw [leaveV_len]; omega)
        rw [decide_eq_false h2, Bool.and_false, if_neg Bool.false_ne_true, if_neg Bool.false_ne_true, e2, List.append_nil]
        exact ih
    · have eb : (s.nx == -1) = false := beq_eq_false_iff_ne.2 h1
      rw [eb, Bool.false_and, if_neg Bool.false_ne_true, if_neg Bool.false_ne_true, updF_ne _ _ (by omega : (0 : Nat) ≠ (s.nx + 1).toNat), updF_ne _ _ (by omega : (0 : Nat) ≠ k + 1)]
      exact ih
theorem lastV_lat (e : Bool) {n : Int} (hn : 0 ≤ n) {b : Bdg} {ws : List Wal} (vd : Vld b ws) (hw : 0 < ws.length) (h0 : ∀ i, i ≤ b.ss.length → ∀ j, ∀ x ∈ stF e b ws i j, 0 ≤ x) : lastV e (latB n b) (latW n ws) = lastV e b ws + n := by
  unfold lastV
  rw [show (latB n b).ss.length = b.ss.length from List.length_map ..]
  rcases lastS_lat e hn vd h0 b.ss.length (Nat.le_refl _) with ⟨h, _⟩ | ⟨_, _, h⟩
  · have := stF_out e vd
    rw [h, List.length_nil] at this; omega
  · exact h
end Go.Proofs.YtiggnliiigcjaaaDoor
/-
  PLAIN: how long all of it takes at most; a building whose smoke is so late that those who were shown are in time.
-/
namespace Go.Proofs.YtiggnliiigcjaaaDoor
open Go Go.Am
theorem Vld.take5 {b : Bdg} {ws : List Wal} (h : Vld b ws) {w : Wal} (hw : w ∈ ws) (e : Bool) : 0 ≤ takeV e b w ∧ takeV e b w ≤ 4600 := by
  have h1 := h.w w hw
  have h2 := h.c _ _ (h.chm hw)
  have hg : 100 ≤ gv e w.pLo w.pHi := by cases e <;> simp [gv] <;> omega
  have hk : 0 ≤ tk e w.tLo w.tHi ∧ tk e w.tLo w.tHi ≤ 3600 := by cases e <;> simp [tk] <;> omega
  have h3 := cdiv_nn (n := (chOf b w).way) (k := gv e w.pLo w.pHi) (by omega) (by omega)
  have h4 := (cdiv_le_iff (n := (chOf b w).way) (k := gv e w.pLo w.pHi) (m := 1000) (by omega) (by omega)).2 (by omega)
  unfold takeV
  omega
theorem Vld.st5 {b : Bdg} {ws : List Wal} (h : Vld b ws) (e : Bool) : ∀ i, i ≤ b.ss.length → ∀ j, ∀ x ∈ stF e b ws i j, 0 ≤ x ∧ x ≤ 4600 + 2040 * (i : Int) := by
  intro i
  induction i with
  | zero =>
    intro _ j x hx
    rw [stF_zero] at hx
    simp only [comeF, comeV, List.mem_map, List.mem_filter] at hx
    obtain ⟨w, ⟨hw, _⟩, rfl⟩ := hx
    have := h.take5 hw e
    omega
  | succ i ih =>
    intro hi j
    have ih := ih (by omega)
    obtain ⟨s, hs⟩ : ∃ s, b.ss[i]? = some s := ⟨_, List.getElem?_eq_getElem (by omega)⟩
    have hv := h.s i s hs
    have hk : s.nx = (((s.nx + 1).toNat : Nat) : Int) - 1 := by omega
    rw [stF_succ hs hk]
    have base : ∀ j, ∀ x ∈ updF (stF e b ws i) (i + 1) [] j, 0 ≤ x ∧ x ≤ 4600 + 2040 * (i : Int) := fun j => by
      by_cases hj : j = i + 1
      · subst hj; rw [updF_same]; exact fun x hx => by cases hx
      · rw [updF_ne _ _ hj]; exact ih j
    by_cases hj : j = (s.nx + 1).toNat
    · subst hj
      rw [updF_same]
      intro x hx
      rcases List.mem_append.1 hx with hx | hx
      · have := base _ x hx; omega
      · have ht : 0 ≤ tk e s.wLo s.wHi ∧ tk e s.wLo s.wHi ≤ 600 := by cases e <;> simp [tk] <;> omega
        have := leaveG_rng (M := 4600 + 2040 * (i : Int)) hv.2.1 ht (sortV (stF e b ws i (i + 1))) 0 (by omega) (fun y hy => ih (i + 1) y ((perm_sortV _).mem_iff.1 hy)) x hx
        rw [len_sortV] at this
        have hl := stF_short e h (i := i) (j := i + 1) (by omega) (by omega)
        have := h.wl
        omega
    · rw [updF_ne _ _ hj]
      exact fun x hx => by have := base j x hx; omega
theorem Vld.st0 {b : Bdg} {ws : List Wal} (h : Vld b ws) : ∀ e i, i ≤ b.ss.length → ∀ j, ∀ x ∈ stF e b ws i j, 0 ≤ x := fun e i hi j x hx => (h.st5 e i hi j x hx).1
theorem Vld.lv5 {b : Bdg} {ws : List Wal} (h : Vld b ws) (e : Bool) {k : Nat} (hk : k < b.ss.length) : ∀ x ∈ leavesV e b ws k, 0 ≤ x ∧ x ≤ 17000 := by
  obtain ⟨s, hs⟩ : ∃ s, b.ss[k]? = some s := ⟨_, List.getElem?_eq_getElem hk⟩
  have hv := h.s k s hs
  have ht : 0 ≤ tk e s.wLo s.wHi ∧ tk e s.wLo s.wHi ≤ 600 := by cases e <;> simp [tk] <;> omega
  rw [leavesV_eq hs]
  intro x hx
  have := leaveG_rng (M := 4600 + 2040 * (k : Int)) hv.2.1 ht (sortV (stF e b ws k (k + 1))) 0 (by omega) (fun y hy => h.st5 e k (by omega) (k + 1) y ((perm_sortV _).mem_iff.1 hy)) x hx
  rw [len_sortV] at this
  have hl := stF_short e h (i := k) (j := k + 1) (by omega) (by omega)
  have := h.wl
  have := h.sl
  omega
/-! ### the smoke of one chamber, and of one stair, at the latest -/
def clrS (s : Sta) : Sta := ⟨s.nx, s.gap, s.wLo, s.wHi, 36000, 36000⟩
def clrC (c : Cha) : Cha := ⟨c.st, c.way, 36000, 36000⟩
def clrC1 (l : List Cha) (c : Int) : List Cha := if c ≥ 0 then l.modify c.toNat clrC else l
def clrS1 (l : List Sta) (s : Int) : List Sta := if s ≥ 0 then l.modify s.toNat clrS else l
def clrB (b : Bdg) (c s : Int) : Bdg := ⟨clrS1 b.ss s, clrC1 b.cs c⟩
theorem clrS1_len (l : List Sta) (s : Int) : (clrS1 l s).length = l.length := by unfold clrS1; split; exact List.length_modify ..; rfl
theorem clrC1_len (l : List Cha) (s : Int) : (clrC1 l s).length = l.length := by unfold clrC1; split; exact List.length_modify ..; rfl
theorem clrS1_get (l : List Sta) (s : Int) (i : Nat) : (clrS1 l s)[i]? = (l[i]?).map fun x => if (i : Int) = s then clrS x else x := by
  unfold clrS1
  split
  · rename_i h
    rw [List.getElem?_modify]
    by_cases hi : s.toNat = i
    · have : (i : Int) = s := by omega
      simp [hi, this]
    · have : ¬ (i : Int) = s := by omega
      simp [hi, this]
  · have : ¬ (i : Int) = s := by omega
    simp [this]
theorem clrC1_get (l : List Cha) (s : Int) (i : Nat) : (clrC1 l s)[i]? = (l[i]?).map fun x => if (i : Int) = s then clrC x else x := by
  unfold clrC1
  split
  · rename_i h
    rw [List.getElem?_modify]
    by_cases hi : s.toNat = i
    · have : (i : Int) = s := by omega
      simp [hi, this]
    · have : ¬ (i : Int) = s := by omega
      simp [hi, this]
  · have : ¬ (i : Int) = s := by omega
    simp [this]
theorem vld_clr {b : Bdg} {ws : List Wal} (vd : Vld b ws) (c s : Int) : Vld (clrB b c s) ws where
  sl := by rw [show (clrB b c s).ss.length = b.ss.length from clrS1_len ..]; exact vd.sl
  cl := by rw [show (clrB b c s).cs.length = b.cs.length from clrC1_len ..]; exact vd.cl
  wl := vd.wl
  s := fun i t h => by
    rw [show (clrB b c s).ss.length = b.ss.length from clrS1_len ..]
    rw [show (clrB b c s).ss[i]? = _ from clrS1_get ..] at h
    cases h2 : b.ss[i]? with
    | none => rw [h2] at h; cases h
    | some u =>
      rw [h2] at h
      have h3 := vd.s i u h2
      simp only [Option.map_some, Option.some.injEq] at h
      subst h
      split
      · exact ⟨h3.1, h3.2.1, h3.2.2.1, ⟨by show (0 : Int) ≤ 36000; decide, Int.le_refl _, Int.le_refl _⟩⟩
      · exact h3
  c := fun i t h => by
    rw [show (clrB b c s).ss.length = b.ss.length from clrS1_len ..]
    rw [show (clrB b c s).cs[i]? = _ from clrC1_get ..] at h
    cases h2 : b.cs[i]? with
    | none => rw [h2] at h; cases h
    | some u =>
      rw [h2] at h
      have h3 := vd.c i u h2
      simp only [Option.map_some, Option.some.injEq] at h
      subst h
      split
      · exact ⟨h3.1, h3.2.1, ⟨by show (0 : Int) ≤ 36000; decide, Int.le_refl _, Int.le_refl _⟩⟩
      · exact h3
  w := fun w h => by rw [show (clrB b c s).cs.length = b.cs.length from clrC1_len ..]; exact vd.w w h
theorem chOf_clr {b : Bdg} {ws : List Wal} (vd : Vld b ws) (c s : Int) {w : Wal} (hw : w ∈ ws) : chOf (clrB b c s) w = if w.ch = c then clrC (chOf b w) else chOf b w := by
  have h1 := (vd.w w hw).1
  have h2 := vd.chm hw
  have h3 := clrC1_get b.cs c w.ch.toNat
  rw [h2] at h3
  unfold chOf at *
  show (clrC1 b.cs c).getD w.ch.toNat default = _
  rw [List.getD_eq_getElem?_getD (l := clrC1 b.cs c), h3, show ((w.ch.toNat : Nat) : Int) = w.ch by omega]
  rfl
theorem take_clr (e : Bool) {b : Bdg} {ws : List Wal} (vd : Vld b ws) (c s : Int) {w : Wal} (hw : w ∈ ws) : takeV e (clrB b c s) w = takeV e b w := by
  unfold takeV
  rw [chOf_clr vd c s hw]
  split <;> rfl
theorem come_clr (e : Bool) {b : Bdg} {ws : List Wal} (vd : Vld b ws) (c s j : Int) : comeV e (clrB b c s) ws j = comeV e b ws j := by
  unfold comeV
  have e1 : (ws.filter fun w => (chOf (clrB b c s) w).st == j) = ws.filter fun w => (chOf b w).st == j := List.filter_congr fun w hw => by
    rw [chOf_clr vd c s hw]; split <;> rfl
  rw [e1]
  exact List.map_congr_left fun w hw => take_clr e vd c s (List.mem_filter.1 hw).1
theorem stF_clr (e : Bool) {b : Bdg} {ws : List Wal} (vd : Vld b ws) (c s : Int) : ∀ i, i ≤ b.ss.length → ∀ j, stF e (clrB b c s) ws i j = stF e b ws i j := by
  intro i
  induction i with
  | zero => intro _ j; rw [stF_zero, stF_zero]; exact come_clr e vd c s _
  | succ i ih =>
    intro hi j
    have ih := ih (by omega)
    obtain ⟨t, ht⟩ : ∃ s, b.ss[i]? = some s := ⟨_, List.getElem?_eq_getElem (by omega)⟩
    have ht' : (clrB b c s).ss[i]? = some (if (i : Int) = s then clrS t else t) := by rw [show (clrB b c s).ss[i]? = _ from clrS1_get .., ht]; rfl
    have hv := (vd.s i t ht).1
    have hk : t.nx = (((t.nx + 1).toNat : Nat) : Int) - 1 := by omega
    have hk' : (if (i : Int) = s then clrS t else t).nx = (((t.nx + 1).toNat : Nat) : Int) - 1 := by split <;> exact hk
    have hl : leaveV e (if (i : Int) = s then clrS t else t) = leaveV e t := by split <;> rfl
    rw [stF_succ ht hk, stF_succ ht' hk', show stF e (clrB b c s) ws i = stF e b ws i from funext ih, hl]
theorem leaves_clr (e : Bool) {b : Bdg} {ws : List Wal} (vd : Vld b ws) (c s : Int) {k : Nat} (hk : k < b.ss.length) : leavesV e (clrB b c s) ws k = leavesV e b ws k := by
  obtain ⟨t, ht⟩ : ∃ s, b.ss[k]? = some s := ⟨_, List.getElem?_eq_getElem hk⟩
  have ht' : (clrB b c s).ss[k]? = some (if (k : Int) = s then clrS t else t) := by rw [show (clrB b c s).ss[k]? = _ from clrS1_get .., ht]; rfl
  have hl : leaveV e (if (k : Int) = s then clrS t else t) = leaveV e t := by split <;> rfl
  rw [leavesV_eq ht, leavesV_eq ht', hl, stF_clr e vd c s k (by omega)]
theorem safeV_2 (b : Bdg) (ws : List Wal) : (safeV b ws).2 = lateV true b ws := by
  unfold safeV
  by_cases h : noL (lateV true b ws) = true
  · rw [if_pos h]
    simp only [noL, Bool.and_true, Bool.and_eq_true, beq_iff_eq] at h
    exact Prod.ext h.1.symm h.2.symm
  · rw [if_neg h]; split <;> rfl
theorem safeV_1 (b : Bdg) (ws : List Wal) : (safeV b ws).1 = 2 ↔ noL (lateV true b ws) = true := by
  unfold safeV
  by_cases h : noL (lateV true b ws) = true
  · rw [if_pos h]; exact ⟨fun _ => h, fun _ => rfl⟩
  · rw [if_neg h]
    refine ⟨fun h2 => ?_, fun h2 => absurd h2 h⟩
    split at h2 <;> simp at h2
/-- What is shown next is later, or none. -/
theorem clr_later {b : Bdg} {ws : List Wal} (vd : Vld b ws) (c s : Int) (hc : c = lateCV true b ws) (hs : s = lateSV true b ws) :
    (lateCV true (clrB b c s) ws < 0 ∨ lateCV true (clrB b c s) ws > c) ∧ (lateSV true (clrB b c s) ws < 0 ∨ lateSV true (clrB b c s) ws > s) := by
  have hp : ∀ x ∈ ws, 0 ≤ x.ch := fun x hx => (vd.w x hx).1.1
  constructor
  · rcases lateCV_is true (clrB b c s) ws hp with ⟨h1, _⟩ | ⟨w, hw, h1, h2, _⟩
    · exact .inl (by omega)
    · refine .inr ?_
      have h3 := vd.take5 hw true
      unfold isLateC at h1
      rw [take_clr true vd c s hw, chOf_clr vd c s hw] at h1
      by_cases hwc : w.ch = c
      · rw [if_pos hwc] at h1
        have h4 := of_decide_eq_true h1
        have h5 : takeV true b w > 36000 := h4
        omega
      · rw [if_neg hwc] at h1
        rw [h2]
        rcases lateCV_is true b ws hp with ⟨h6, h7⟩ | ⟨v, hv, _, h6, h7⟩
        · have := h7 w hw; unfold isLateC at this; rw [h1] at this; cases this
        · have := h7 w hw h1; omega
  · rcases lateSV_is true (clrB b c s) ws with ⟨h1, _⟩ | ⟨n, hn, h1, h2, _⟩
    · exact .inl (by omega)
    · refine .inr ?_
      have hn' : n < b.ss.length := by rw [show (clrB b c s).ss.length = b.ss.length from clrS1_len ..] at hn; exact hn
      obtain ⟨t, ht⟩ : ∃ s, b.ss[n]? = some s := ⟨_, List.getElem?_eq_getElem hn'⟩
      have ht' : (clrB b c s).ss[n]? = some (if (n : Int) = s then clrS t else t) := by rw [show (clrB b c s).ss[n]? = _ from clrS1_get .., ht]; rfl
      obtain ⟨x, hx, h3⟩ := lateAt_yes ht' h2
      rw [leaves_clr true vd c s hn'] at hx
      have h4 := of_decide_eq_true h3
      by_cases hns : (n : Int) = s
      · rw [if_pos hns] at h4
        have h5 : x > 36000 := h4
        have := vd.lv5 true hn' x hx
        omega
      · rw [if_neg hns] at h4
        have h5 : lateAt true b ws n = true := by
          unfold lateAt; rw [ht]; exact List.any_eq_true.2 ⟨x, hx, decide_eq_true h4⟩
        rw [h1]
        rcases lateSV_is true b ws with ⟨_, h7⟩ | ⟨m, _, h6, _, h7⟩
        · rw [h7 n hn'] at h5; cases h5
        · rcases Nat.lt_trichotomy n m with h8 | h8 | h8
          · rw [h7 n h8] at h5; cases h5
          · omega
          · omega
end Go.Proofs.YtiggnliiigcjaaaDoor
/-
  PLAIN: a truth between both ends.
-/
namespace Go.Proofs.YtiggnliiigcjaaaDoor
open Go Go.Am
theorem come_dom2 {e : Bool} {b c : Bdg} : ∀ {ws vs : List Wal}, AllP (fun w v => (chOf b w).st = (chOf c v).st ∧ takeV e b w ≤ takeV e c v) ws vs → ∀ j, Dom (comeF e b ws j) (comeF e c vs j)
  | [], [], _, _ => Dom.refl _
  | w :: ws, v :: vs, h, j => by
    have ih := come_dom2 h.2 j
    unfold comeF comeV at ih ⊢
    rw [List.filter_cons, List.filter_cons, h.1.1]
    cases hb : ((chOf c v).st == (j : Int) - 1)
    · exact ih
    · rw [if_pos rfl, if_pos rfl, List.map_cons, List.map_cons]
      exact Dom.app (a := [takeV e b w]) (b := [takeV e c v]) (LeP.dom ⟨h.1.2, trivial⟩) ih
theorem slow_gen {b c : Bdg} {ws vs : List Wal} (vd : Vld b ws) (vd' : Vld c vs) (hl : b.ss.length = c.ss.length)
    (hs : ∀ (i : Nat) (s s' : Sta), b.ss[i]? = some s → c.ss[i]? = some s' → s.nx = s'.nx ∧ s.gap = s'.gap ∧ s.wHi ≤ s'.wHi ∧ s'.sLo ≤ s.sLo)
    (hc : ∀ (i : Nat) (s s' : Cha), b.cs[i]? = some s → c.cs[i]? = some s' → s.st = s'.st ∧ s.way = s'.way ∧ s'.sLo ≤ s.sLo)
    (hwl : ws.length = vs.length) (hw : ∀ (i : Nat) (w v : Wal), ws[i]? = some w → vs[i]? = some v → w.ch = v.ch ∧ v.pLo ≤ w.pLo ∧ w.tHi ≤ v.tHi) : Slow true b ws c vs := by
  have hA : AllP (fun w v => (chOf b w).st = (chOf c v).st ∧ takeV true b w ≤ takeV true c v ∧ (chOf c v).sLo ≤ (chOf b w).sLo) ws vs := AllP.of_get hwl fun i w v h1 h2 => by
    obtain ⟨a1, a2, a3⟩ := hw i w v h1 h2
    have hm := List.mem_of_getElem? h1
    have hm' := List.mem_of_getElem? h2
    have v2 := (vd'.w v hm').2.1
    have v3 := (vd.c _ _ (vd.chm hm)).2.1
    have k2 := vd'.chm hm'
    rw [← a1] at k2
    obtain ⟨c1, c2, c3⟩ := hc _ _ _ (vd.chm hm) k2
    refine ⟨c1, ?_, c3⟩
    have h3 : cdiv (chOf b w).way w.pLo ≤ cdiv (chOf c v).way v.pLo := by rw [← c2]; exact cdiv_anti v3.1 (by omega) a2
    show w.tHi + cdiv (chOf b w).way w.pLo ≤ v.tHi + cdiv (chOf c v).way v.pLo
    omega
  refine ⟨hl, fun i s s' h1 h2 => ?_, come_dom2 (AllP.of_get hwl fun i w v h1 h2 => ?_), fun w h1 h2 => ?_⟩
  · obtain ⟨a1, a2, a3, a4⟩ := hs i s s' h1 h2
    have v1 := vd.s i s h1
    exact ⟨a1, by omega, by omega, by omega, a3, a4⟩
  · have : ∀ {x y : List Wal}, AllP (fun w v => (chOf b w).st = (chOf c v).st ∧ takeV true b w ≤ takeV true c v ∧ (chOf c v).sLo ≤ (chOf b w).sLo) x y → ∀ (i : Nat) w v, x[i]? = some w → y[i]? = some v → (chOf b w).st = (chOf c v).st ∧ takeV true b w ≤ takeV true c v := by
      intro x
      induction x with
      | nil => intro y _ i w v h _; simp at h
      | cons a x ih =>
        intro y h i w v h1 h2
        cases y with
        | nil => simp at h2
        | cons d y =>
          cases i with
          | zero => simp at h1 h2; subst h1; subst h2; exact ⟨h.1.1, h.1.2.1⟩
          | succ i => exact ih h.2 i w v (by simpa using h1) (by simpa using h2)
    exact this hA i w v h1 h2
  · obtain ⟨v, hv, h3, h4, h5⟩ := AllP.mem hA w h1
    refine ⟨v, hv, ?_⟩
    unfold isLateC at h2 ⊢
    have h6 := of_decide_eq_true h2
    have e1 : gv true (chOf b w).sLo (chOf b w).sHi = (chOf b w).sLo := rfl
    have e2 : gv true (chOf c v).sLo (chOf c v).sHi = (chOf c v).sLo := rfl
    exact decide_eq_true (by omega)
/-- A truth: paces, waits, walks, smoke of chambers, and of stairs. -/
structure Tru where
  pc : Nat → Int
  wt : Nat → Int
  wk : Nat → Int
  cm : Nat → Int
  sm : Nat → Int
def trB (t : Tru) (b : Bdg) : Bdg := ⟨b.ss.mapIdx fun i s => ⟨s.nx, s.gap, t.wk i, t.wk i, t.sm i, t.sm i⟩, b.cs.mapIdx fun i c => ⟨c.st, c.way, t.cm i, t.cm i⟩⟩
def trW (t : Tru) (ws : List Wal) : List Wal := ws.mapIdx fun i w => ⟨w.ch, t.pc i, t.pc i, t.wt i, t.wt i⟩
structure Tru.Ok (t : Tru) (b : Bdg) (ws : List Wal) : Prop where
  s : ∀ (i : Nat) (s : Sta), b.ss[i]? = some s → (s.wLo ≤ t.wk i ∧ t.wk i ≤ s.wHi) ∧ (s.sLo ≤ t.sm i ∧ t.sm i ≤ s.sHi)
  c : ∀ (i : Nat) (c : Cha), b.cs[i]? = some c → c.sLo ≤ t.cm i ∧ t.cm i ≤ c.sHi
  w : ∀ (i : Nat) (w : Wal), ws[i]? = some w → (w.pLo ≤ t.pc i ∧ t.pc i ≤ w.pHi) ∧ (w.tLo ≤ t.wt i ∧ t.wt i ≤ w.tHi)
theorem trB_s (t : Tru) (b : Bdg) (i : Nat) : (trB t b).ss[i]? = (b.ss[i]?).map fun s => ⟨s.nx, s.gap, t.wk i, t.wk i, t.sm i, t.sm i⟩ := List.getElem?_mapIdx ..
theorem trB_c (t : Tru) (b : Bdg) (i : Nat) : (trB t b).cs[i]? = (b.cs[i]?).map fun c => ⟨c.st, c.way, t.cm i, t.cm i⟩ := List.getElem?_mapIdx ..
theorem trW_w (t : Tru) (ws : List Wal) (i : Nat) : (trW t ws)[i]? = (ws[i]?).map fun w => ⟨w.ch, t.pc i, t.pc i, t.wt i, t.wt i⟩ := List.getElem?_mapIdx ..
theorem trB_sl (t : Tru) (b : Bdg) : (trB t b).ss.length = b.ss.length := List.length_mapIdx ..
theorem trB_cl (t : Tru) (b : Bdg) : (trB t b).cs.length = b.cs.length := List.length_mapIdx ..
theorem trW_l (t : Tru) (ws : List Wal) : (trW t ws).length = ws.length := List.length_mapIdx ..
theorem vld_tr {t : Tru} {b : Bdg} {ws : List Wal} (vd : Vld b ws) (ok : t.Ok b ws) : Vld (trB t b) (trW t ws) where
  sl := by rw [trB_sl]; exact vd.sl
  cl := by rw [trB_cl]; exact vd.cl
  wl := by rw [trW_l]; exact vd.wl
  s := fun i s h => by
    rw [trB_sl]
    rw [trB_s] at h
    cases h2 : b.ss[i]? with
    | none => rw [h2] at h; cases h
    | some u =>
      rw [h2] at h
      simp only [Option.map_some, Option.some.injEq] at h
      subst h
      have h3 := vd.s i u h2
      have h4 := ok.s i u h2
      exact ⟨h3.1, h3.2.1, ⟨by show 0 ≤ t.wk i; omega, Int.le_refl _, by show t.wk i ≤ 600; omega⟩, ⟨by show 0 ≤ t.sm i; omega, Int.le_refl _, by show t.sm i ≤ 36000; omega⟩⟩
  c := fun i c h => by
    rw [trB_sl]
    rw [trB_c] at h
    cases h2 : b.cs[i]? with
    | none => rw [h2] at h; cases h
    | some u =>
      rw [h2] at h
      simp only [Option.map_some, Option.some.injEq] at h
      subst h
      have h3 := vd.c i u h2
      have h4 := ok.c i u h2
      exact ⟨h3.1, h3.2.1, ⟨by show 0 ≤ t.cm i; omega, Int.le_refl _, by show t.cm i ≤ 36000; omega⟩⟩
  w := fun w h => by
    rw [trB_cl]
    obtain ⟨i, hi⟩ := List.getElem?_of_mem h
    rw [trW_w] at hi
    cases h2 : ws[i]? with
    | none => rw [h2] at hi; cases hi
    | some u =>
      rw [h2] at hi
      simp only [Option.map_some, Option.some.injEq] at hi
      subst hi
      have h3 := vd.w u (List.mem_of_getElem? h2)
      have h4 := ok.w i u h2
      exact ⟨h3.1, ⟨by show 100 ≤ t.pc i; omega, Int.le_refl _, by show t.pc i ≤ 3000; omega⟩, ⟨by show 0 ≤ t.wt i; omega, Int.le_refl _, by show t.wt i ≤ 3600; omega⟩⟩
theorem fixB_s (e : Bool) (b : Bdg) (i : Nat) : (fixB e b).ss[i]? = (b.ss[i]?).map (fixS e) := List.getElem?_map ..
theorem fixB_c (e : Bool) (b : Bdg) (i : Nat) : (fixB e b).cs[i]? = (b.cs[i]?).map (fixC e) := List.getElem?_map ..
theorem fixW_w (e : Bool) (ws : List Wal) (i : Nat) : (fixW e ws)[i]? = (ws[i]?).map (fixP e) := List.getElem?_map ..
theorem tr_lo {t : Tru} {b : Bdg} {ws : List Wal} (vd : Vld b ws) (ok : t.Ok b ws) : Slow true (fixB false b) (fixW false ws) (trB t b) (trW t ws) := by
  refine slow_gen (vld_fix false vd) (vld_tr vd ok) (by rw [trB_sl]; exact List.length_map ..) (fun i s s' h h' => ?_) (fun i s s' h h' => ?_) (by rw [trW_l]; exact List.length_map ..) (fun i s s' h h' => ?_)
  · rw [fixB_s] at h; rw [trB_s] at h'
    cases h2 : b.ss[i]? with
    | none => rw [h2] at h; cases h
    | some u =>
      rw [h2] at h h'
      cases h; cases h'
      have := ok.s i u h2
      exact ⟨rfl, rfl, this.1.1, this.2.2⟩
  · rw [fixB_c] at h; rw [trB_c] at h'
    cases h2 : b.cs[i]? with
    | none => rw [h2] at h; cases h
    | some u =>
      rw [h2] at h h'
      cases h; cases h'
      exact ⟨rfl, rfl, (ok.c i u h2).2⟩
  · rw [fixW_w] at h; rw [trW_w] at h'
    cases h2 : ws[i]? with
    | none => rw [h2] at h; cases h
    | some u =>
      rw [h2] at h h'
      cases h; cases h'
      have := ok.w i u h2
      exact ⟨rfl, this.1.2, this.2.1⟩
theorem tr_hi {t : Tru} {b : Bdg} {ws : List Wal} (vd : Vld b ws) (ok : t.Ok b ws) : Slow true (trB t b) (trW t ws) (fixB true b) (fixW true ws) := by
  refine slow_gen (vld_tr vd ok) (vld_fix true vd) (by rw [trB_sl]; exact (List.length_map ..).symm) (fun i s s' h' h => ?_) (fun i s s' h' h => ?_) (by rw [trW_l]; exact (List.length_map ..).symm) (fun i s s' h' h => ?_)
  · rw [fixB_s] at h; rw [trB_s] at h'
    cases h2 : b.ss[i]? with
    | none => rw [h2] at h; cases h
    | some u =>
      rw [h2] at h h'
      cases h; cases h'
      have := ok.s i u h2
      exact ⟨rfl, rfl, this.1.2, this.2.1⟩
  · rw [fixB_c] at h; rw [trB_c] at h'
    cases h2 : b.cs[i]? with
    | none => rw [h2] at h; cases h
    | some u =>
      rw [h2] at h h'
      cases h; cases h'
      exact ⟨rfl, rfl, (ok.c i u h2).1⟩
  · rw [fixW_w] at h; rw [trW_w] at h'
    cases h2 : ws[i]? with
    | none => rw [h2] at h; cases h
    | some u =>
      rw [h2] at h h'
      cases h; cases h'
      have := ok.w i u h2
      exact ⟨rfl, this.1.1, this.2.2⟩
theorem leaveG_asc {gap walk : Int} (hg : 0 ≤ gap) : ∀ (l : List Int) (f : Int), (leaveG gap walk f l).Pairwise (fun a b => a ≤ b) ∧ ∀ x ∈ leaveG gap walk f l, f + walk ≤ x
  | [], _ => ⟨List.Pairwise.nil, fun x hx => by cases hx⟩
  | t :: l, f => by
    obtain ⟨h1, h2⟩ := leaveG_asc hg l (max t f + gap) (walk := walk)
    refine ⟨List.pairwise_cons.2 ⟨fun x hx => by have := h2 x hx; omega, h1⟩, fun x hx => ?_⟩
    rcases List.mem_cons.1 hx with rfl | hx
    · omega
    · have := h2 x hx; omega
theorem leavesV_asc (e : Bool) {b : Bdg} {ws : List Wal} (vd : Vld b ws) {k : Nat} (hk : k < b.ss.length) : (leavesV e b ws k).Pairwise (fun a b => a ≤ b) := by
  obtain ⟨s, hs⟩ : ∃ s, b.ss[k]? = some s := ⟨_, List.getElem?_eq_getElem hk⟩
  rw [leavesV_eq hs]
  exact (leaveG_asc (vd.s k s hs).2.1.1 _ _).1
theorem LeP.of_dom {x y : List Int} (hx : x.Pairwise (fun a b => a ≤ b)) (hy : y.Pairwise (fun a b => a ≤ b)) (h : Dom x y) (hl : x.length = y.length) : LeP x y := by
  obtain ⟨y1, y2, e, h2⟩ := asc_al hx hy h
  have h3 := h2.len
  have h4 := congrArg List.length e
  rw [List.length_append] at h4
  have h5 : y1 = [] := List.length_eq_zero_iff.1 (by omega)
  rw [h5, List.nil_append] at e
  rwa [e]
/-- In each truth all leave each stair within what is told, and all are out; who is safe is in time. -/
theorem tr_is {t : Tru} {b : Bdg} {ws : List Wal} (vd : Vld b ws) (ok : t.Ok b ws) :
    (∀ k, k < b.ss.length → LeP (leavesV false b ws k) (leavesV true (trB t b) (trW t ws) k) ∧ LeP (leavesV true (trB t b) (trW t ws) k) (leavesV true b ws k)) ∧
    (lastV false b ws ≤ lastV true (trB t b) (trW t ws) ∧ lastV true (trB t b) (trW t ws) ≤ lastV true b ws) ∧
    (noL (lateV true b ws) = true → noL (lateV true (trB t b) (trW t ws)) = true) ∧ (noL (lateV true (trB t b) (trW t ws)) = true → noL (lateV false b ws) = true) := by
  have s0 := tr_lo vd ok
  have s1 := tr_hi vd ok
  have v0 := vld_fix false vd
  have v1 := vld_fix true vd
  have vt := vld_tr vd ok
  refine ⟨fun k hk => ?_, ⟨?_, ?_⟩, fun h => ?_, fun h => ?_⟩
  · have d0 := s0.leaves (k := k) (by rw [show (fixB false b).ss.length = b.ss.length from List.length_map ..]; exact hk)
    have d1 := s1.leaves (k := k) (by rw [trB_sl]; exact hk)
    rw [leaves_fix true false b ws k hk] at d0
    rw [leaves_fix true true b ws k hk] at d1
    have hlt : (leavesV true (trB t b) (trW t ws) k).length = (leavesV true b ws k).length := by
      have h1 : ∀ T, cnt T (leavesV true (trB t b) (trW t ws) k) ≤ cnt T (leavesV true b ws k) := d1
      have h2 := leavesV_len b ws k
      have c0 : ∀ (l : List Int), (∀ x ∈ l, 0 ≤ x) → cnt 0 l = l.length := fun l h => by
        unfold cnt; rw [List.countP_eq_length]; intro x hx; exact decide_eq_true (h x hx)
      have p1 := c0 _ fun x hx => (vt.lv5 true (by rw [trB_sl]; exact hk) x hx).1
      have p2 := c0 _ fun x hx => (vd.lv5 true hk x hx).1
      have p3 := c0 _ fun x hx => (vd.lv5 false hk x hx).1
      have q1 := d0 0
      have q2 := d1 0
      omega
    have a1 := leavesV_asc true vt (k := k) (by rw [trB_sl]; exact hk)
    exact ⟨LeP.of_dom (leavesV_asc false vd hk) a1 d0 (by rw [leavesV_len, hlt]), LeP.of_dom a1 (leavesV_asc true vd hk) d1 hlt⟩
  · rw [← last_fix true false b ws]; exact s0.last
  · rw [← last_fix true true b ws]; exact s1.last
  · rw [← lateV_fix true true vd] at h
    exact s1.noL (fun x hx => (vt.w x hx).1.1) (fun x hx => (v1.w x hx).1.1) h
  · rw [← lateV_fix true false vd]
    exact s0.noL (fun x hx => (v0.w x hx).1.1) (fun x hx => (vt.w x hx).1.1) h
end Go.Proofs.YtiggnliiigcjaaaDoor
/-
  PLAIN: what is shown is the first one.
-/
namespace Go.Proofs.YtiggnliiigcjaaaDoor
open Go Go.Am
/-- Is somebody of a chamber late? -/
def lateCh (e : Bool) (b : Bdg) (ws : List Wal) (i : Nat) : Bool := ws.any fun p => p.ch == (i : Int) && isLateC e b p
theorem shown_s (b : Bdg) (ws : List Wal) {n : Nat} (hn : n < b.ss.length) :
    ((n : Int) = lateSV true b ws → lateAt true b ws n = true) ∧ (lateAt true b ws n = true → 0 ≤ lateSV true b ws ∧ lateSV true b ws ≤ n) := by
  rcases lateSV_is true b ws with ⟨h1, h2⟩ | ⟨m, hm, h1, h2, h3⟩
  · exact ⟨fun h => by omega, fun h => by rw [h2 n hn] at h; cases h⟩
  · refine ⟨fun h => ?_, fun h => ⟨by omega, ?_⟩⟩
    · have : n = m := by omega
      subst this; exact h2
    · rcases Nat.lt_or_ge n m with h4 | h4
      · rw [h3 n h4] at h; cases h
      · omega
theorem shown_c {b : Bdg} {ws : List Wal} (hp : ∀ x ∈ ws, 0 ≤ x.ch) (n : Nat) :
    ((n : Int) = lateCV true b ws → lateCh true b ws n = true) ∧ (lateCh true b ws n = true → 0 ≤ lateCV true b ws ∧ lateCV true b ws ≤ n) := by
  have key : lateCh true b ws n = true ↔ ∃ p ∈ ws, p.ch = (n : Int) ∧ isLateC true b p = true := by
    unfold lateCh
    rw [List.any_eq_true]
    simp
  rw [key]
  rcases lateCV_is true b ws hp with ⟨h1, h2⟩ | ⟨w, hw, h1, h2, h3⟩
  · refine ⟨fun h => by omega, ?_⟩
    rintro ⟨p, hpw, _, h4⟩
    rw [h2 p hpw] at h4; cases h4
  · refine ⟨fun h => ⟨w, hw, by omega, h1⟩, ?_⟩
    rintro ⟨p, hpw, h4, h5⟩
    have := h3 p hpw h5
    have := hp w hw
    omega
/-- The bounds of what is shown. -/
theorem shown_rng {b : Bdg} {ws : List Wal} (vd : Vld b ws) : (-1 ≤ lateCV true b ws ∧ lateCV true b ws < b.cs.length) ∧ (-1 ≤ lateSV true b ws ∧ lateSV true b ws < b.ss.length) := by
  refine ⟨?_, ?_⟩
  · rcases lateCV_is true b ws (fun x hx => (vd.w x hx).1.1) with ⟨h1, h2⟩ | ⟨w, hw, h1, h2, h3⟩
    · omega
    · have := (vd.w w hw).1; omega
  · rcases lateSV_is true b ws with ⟨h1, h2⟩ | ⟨m, hm, h1, h2, h3⟩
    · omega
    · omega
theorem noL_neg {b : Bdg} {ws : List Wal} (vd : Vld b ws) : noL (lateV true b ws) = (decide (lateCV true b ws < 0) && decide (lateSV true b ws < 0)) := by
  have h := shown_rng vd
  rw [Bool.eq_iff_iff]
  simp only [noL, lateV, Bool.and_true, Bool.and_eq_true, beq_iff_eq, decide_eq_true_eq]
  omega
end Go.Proofs.YtiggnliiigcjaaaDoor
/-
  PLAIN: the same building with greater gaps, and the same people, slower.
-/
namespace Go.Proofs.YtiggnliiigcjaaaDoor
open Go Go.Am
def chV (l : List Int) (i : Nat) : Int := l.getD (i % l.length) 0
theorem chV_rng {l : List Int} (h : ∀ x ∈ l, 0 ≤ x ∧ x < 4294967296) (i : Nat) : 0 ≤ chV l i ∧ chV l i < 4294967296 := by
  unfold chV
  rw [List.getD_eq_getElem?_getD]
  cases h2 : l[i % l.length]? with
  | none => exact ⟨Int.le_refl _, by decide⟩
  | some x => exact h x (List.mem_of_getElem? h2)
theorem tmod_rng {x : Int} (h : 0 ≤ x) {m : Int} (hm : 0 < m) : 0 ≤ x.tmod m ∧ x.tmod m < m := by
  rw [Int.tmod_eq_emod_of_nonneg h]
  exact ⟨Int.emod_nonneg _ (by omega), Int.emod_lt_of_pos _ hm⟩
def slS (l : List Int) (i : Nat) (s : Sta) : Sta := ⟨s.nx, min (s.gap + (chV l i).tmod 5) 60, s.wLo, s.wHi, s.sLo, s.sHi⟩
def slLo (l : List Int) (i : Nat) (w : Wal) : Int := max (w.pLo - (chV l (6 + 2 * i)).tmod 200) 100
def slP (l : List Int) (i : Nat) (w : Wal) : Wal := ⟨w.ch, slLo l i w, max (w.pHi - (chV l (7 + 2 * i)).tmod 200) (slLo l i w), w.tLo, w.tHi⟩
def swB (l : List Int) (b : Bdg) : Bdg := ⟨b.ss.mapIdx (slS l), b.cs⟩
def swW (l : List Int) (ws : List Wal) : List Wal := ws.mapIdx (slP l)
theorem slP_rng {l : List Int} (h : ∀ x ∈ l, 0 ≤ x ∧ x < 4294967296) (i : Nat) {w : Wal} (hw : 100 ≤ w.pLo ∧ w.pLo ≤ w.pHi ∧ w.pHi ≤ 3000) : 100 ≤ (slP l i w).pLo ∧ (slP l i w).pLo ≤ w.pLo ∧ (slP l i w).pLo ≤ (slP l i w).pHi ∧ (slP l i w).pHi ≤ w.pHi := by
  have h1 := tmod_rng (chV_rng h (6 + 2 * i)).1 (by decide : (0 : Int) < 200)
  have h2 := tmod_rng (chV_rng h (7 + 2 * i)).1 (by decide : (0 : Int) < 200)
  simp only [slP, slLo]
  omega
theorem vld_sl {l : List Int} (h : ∀ x ∈ l, 0 ≤ x ∧ x < 4294967296) {b : Bdg} {ws : List Wal} (vd : Vld b ws) : Vld (swB l b) (swW l ws) where
  sl := by rw [show (swB l b).ss.length = b.ss.length from List.length_mapIdx ..]; exact vd.sl
  cl := vd.cl
  wl := by rw [show (swW l ws).length = ws.length from List.length_mapIdx ..]; exact vd.wl
  s := fun i s h1 => by
    rw [show (swB l b).ss.length = b.ss.length from List.length_mapIdx ..]
    rw [show (swB l b).ss[i]? = (b.ss[i]?).map (slS l i) from List.getElem?_mapIdx ..] at h1
    cases h2 : b.ss[i]? with
    | none => rw [h2] at h1; cases h1
    | some u =>
      rw [h2] at h1
      cases h1
      have h3 := vd.s i u h2
      have h4 := tmod_rng (chV_rng h i).1 (by decide : (0 : Int) < 5)
      exact ⟨h3.1, by show 0 ≤ min (u.gap + (chV l i).tmod 5) 60 ∧ min (u.gap + (chV l i).tmod 5) 60 ≤ 60; omega, h3.2.2.1, h3.2.2.2⟩
  c := fun i c h1 => by rw [show (swB l b).ss.length = b.ss.length from List.length_mapIdx ..]; exact vd.c i c h1
  w := fun w h1 => by
    obtain ⟨i, hi⟩ := List.getElem?_of_mem h1
    rw [show (swW l ws)[i]? = (ws[i]?).map (slP l i) from List.getElem?_mapIdx ..] at hi
    cases h2 : ws[i]? with
    | none => rw [h2] at hi; cases hi
    | some u =>
      rw [h2] at hi
      cases hi
      have h3 := vd.w u (List.mem_of_getElem? h2)
      have h4 := slP_rng h i h3.2.1
      exact ⟨h3.1, ⟨h4.1, h4.2.2.1, by omega⟩, h3.2.2⟩
theorem slow_sl {l : List Int} (h : ∀ x ∈ l, 0 ≤ x ∧ x < 4294967296) {b : Bdg} {ws : List Wal} (vd : Vld b ws) (e : Bool) : Slow e b ws (swB l b) (swW l ws) := by
  refine slow_of vd (vld_sl h vd) e rfl (List.length_mapIdx ..).symm (fun i s s' h1 h2 => ?_) (List.length_mapIdx ..).symm (fun i w v h1 h2 => ?_)
  · rw [show (swB l b).ss[i]? = (b.ss[i]?).map (slS l i) from List.getElem?_mapIdx .., h1] at h2
    cases h2
    have h3 := vd.s i s h1
    have h4 := tmod_rng (chV_rng h i).1 (by decide : (0 : Int) < 5)
    exact ⟨rfl, by show s.gap ≤ min (s.gap + (chV l i).tmod 5) 60; omega, rfl, rfl, rfl, rfl⟩
  · rw [show (swW l ws)[i]? = (ws[i]?).map (slP l i) from List.getElem?_mapIdx .., h1] at h2
    cases h2
    have h3 := vd.w w (List.mem_of_getElem? h1)
    have h4 := slP_rng h i h3.2.1
    exact ⟨rfl, h4.2.1, h4.2.2.2, rfl, rfl⟩
theorem sl_is {l : List Int} (h : ∀ x ∈ l, 0 ≤ x ∧ x < 4294967296) {b : Bdg} {ws : List Wal} (vd : Vld b ws) : lastV false b ws ≤ lastV false (swB l b) (swW l ws) ∧ lastV true b ws ≤ lastV true (swB l b) (swW l ws) ∧ (safeV (swB l b) (swW l ws)).1 ≤ (safeV b ws).1 :=
  ⟨(slow_sl h vd false).last, (slow_sl h vd true).last, slow_safe (slow_sl h vd true) (slow_sl h vd false) (fun x hx => (vd.w x hx).1.1) (fun x hx => ((vld_sl h vd).w x hx).1.1)⟩
end Go.Proofs.YtiggnliiigcjaaaDoor

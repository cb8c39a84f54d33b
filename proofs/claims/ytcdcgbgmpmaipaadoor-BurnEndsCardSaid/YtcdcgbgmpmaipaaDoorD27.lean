import Derived.Test.YtcdcgbgmpmaipaaDoorD22
namespace Go.Proofs.YtcdcgbgmpmaipaaDoor
open Go Go.Am
set_option maxRecDepth 100000
/-! ### Plain: both ends come about -/
theorem arr_ends {lo hi : Nat → Int} {v : Int} {N : Nat} {A : Sn × Bool} (hle : ∀ k, lo k ≤ hi k) (hA : ArrOk lo hi v N A) :
    (A.1.1 < 0 → ∀ k, k < N → hi k < v) ∧ (0 ≤ A.1.1 → (∃ k, k < N ∧ (v ≤ hi k ∧ ∀ i, i < k → lo i < v) ∧ (k : Int) = A.1.1) ∧ ∃ k, k < N ∧ (v ≤ hi k ∧ ∀ i, i < k → lo i < v) ∧ (k : Int) = A.1.2) ∧
    (A.2 = true → ∃ k, k < N ∧ v ≤ lo k) ∧ (A.2 = false → ∀ k, k < N → lo k < v) := by
  cases hA with
  | none h0 => exact ⟨fun _ => h0, fun h => by simp at h, fun h => (by cases h), fun _ k hk => by have := h0 k hk; have := hle k; omega⟩
  | sure f e h1 h2 h3 h4 h5 h6 h7 =>
    exact ⟨fun h => absurd h (by show ¬ (f : Int) < 0; omega), fun _ => ⟨⟨f, by omega, ⟨h3, fun i hi => by have := h4 i hi; have := hle i; omega⟩, rfl⟩, ⟨e, h2, ⟨h5, h7⟩, rfl⟩⟩, fun _ => ⟨e, h2, h6⟩, fun h => by cases h⟩
  | may f e h1 h2 h3 h4 h5 h6 h7 =>
    exact ⟨fun h => absurd h (by show ¬ (f : Int) < 0; omega), fun _ => ⟨⟨f, by omega, ⟨h3, fun i hi => h6 i (by omega)⟩, rfl⟩, ⟨e, h2, ⟨h5, fun i hi => h6 i (by omega)⟩, rfl⟩⟩, fun h => (by cases h), fun _ => h6⟩
theorem ends_first {h : Hd} {r : List Int} (ho : Ok h r) (w : Int) :
    (knownI h r w = 0 → firstS h r w = (0, 0) ∧ ∀ lag ∈ lagsN h, ∀ k, k < secN h r → aHi h r lag k < w) ∧
    (knownI h r w ≠ 0 → (∃ lag ∈ lagsN h, ∃ k, k < secN h r ∧ (w ≤ aHi h r lag k ∧ ∀ i, i < k → aLo h r lag i < w) ∧ (k : Int) = (firstS h r w).1) ∧
      ∃ lag ∈ lagsN h, ∃ k, k < secN h r ∧ (w ≤ aHi h r lag k ∧ ∀ i, i < k → aLo h r lag i < w) ∧ (k : Int) = (firstS h r w).2) ∧
    ((∀ lag ∈ lagsN h, ∃ k, k < secN h r ∧ w ≤ aLo h r lag k) ↔ knownI h r w = 2) := by
  have hA := fun lag => arr_ends (fun k => (a_rng ho lag k).2.1) (arrV_ok ho lag w)
  have h0 : knownI h r w = 0 → mayL h r w = [] := fun e => by
    rcases knownI_cases h r w with ⟨_, m⟩ | ⟨k, _⟩ | ⟨k, _⟩
    · exact m
    · omega
    · omega
  have hn : mayL h r w = [] → ∀ lag ∈ lagsN h, ∀ k, k < secN h r → aHi h r lag k < w := fun m lag hl k hk => by
    refine (hA lag).1 ?_ k hk
    rcases Int.lt_or_le (arrV h r w lag).1.1 0 with hx | hx
    · exact hx
    · have := may_mem.2 ⟨hl, hx⟩
      rw [m] at this; cases this
  refine ⟨fun e => ⟨?_, hn (h0 e)⟩, fun e => ?_, fun hs => ?_, fun e => ?_⟩
  · unfold firstS; rw [h0 e]; rfl
  · have hne : mayL h r w ≠ [] := by
      rcases knownI_cases h r w with ⟨k, _⟩ | ⟨_, m, _⟩ | ⟨_, m, _⟩
      · exact absurd k e
      · exact m
      · exact m
    obtain ⟨_, ⟨x, hx, hx'⟩, ⟨y, hy, hy'⟩⟩ := firstS_spec ho hne
    have ax := ((hA x).2.1 (may_mem.1 hx).2).1
    have ay := ((hA y).2.1 (may_mem.1 hy).2).2
    rw [hx'] at ax
    rw [hy'] at ay
    exact ⟨⟨x, (may_mem.1 hx).1, ax⟩, ⟨y, (may_mem.1 hy).1, ay⟩⟩
  · obtain ⟨a, l, hl⟩ := List.exists_cons_of_ne_nil (lagsN_ne h)
    have ha : a ∈ lagsN h := by rw [hl]; simp
    rcases knownI_cases h r w with ⟨_, m⟩ | ⟨_, _, lag, hl, hf⟩ | ⟨k, _⟩
    · obtain ⟨k, hk, hw⟩ := hs a ha
      have := hn m a ha k hk; have := (a_rng ho a k).2.1; omega
    · obtain ⟨k, hk, hw⟩ := hs lag hl
      have := (hA lag).2.2.2 hf k hk; omega
    · exact k
  · rcases knownI_cases h r w with ⟨k, _⟩ | ⟨k, _⟩ | ⟨_, _, sw⟩
    · omega
    · omega
    · exact fun lag hl => (hA lag).2.2.1 (sw lag hl)
end Go.Proofs.YtcdcgbgmpmaipaaDoor
namespace Go.Proofs.YtcdcgbgmpmaipaaDoor
open Go Go.Am
set_option maxRecDepth 100000
set_option maxHeartbeats 32000000
def oSt (h : Hd) (r : List Int) (w : Int) (N a b : Nat) (S F : Sn) (n : Int) (lag : Nat) (b20 b21 b22 b23 b24 : Bool) (X : List (Nat × AV)) : St :=
  ⟨(1, encR r) :: (4, .int .i64 w) :: (5, .vptr 0 0) :: (11, .bool true) :: (12, .int .i64 N) :: (13, .int .i64 a) :: (14, .int .i64 b) :: (15, .vptr 13 0) :: (17, .vptr 15 0) :: (18, .int .u8 n) :: (20, .bool b20) :: (21, .bool b21) :: (22, .bool b22) :: (23, .bool b23) :: (24, .bool b24) :: (25, .int .i64 (lag : Nat)) :: X,
    [(0, .cells (hdL h)), (13, .cells [.int .i64 S.1, .int .i64 S.2]), (15, .cells [.int .i64 F.1, .int .i64 F.2])], 16⟩
theorem oSt_le {h : Hd} {r : List Int} {w : Int} {N a b : Nat} {S F : Sn} {n : Int} {lag : Nat} {b20 b21 b22 b23 b24 : Bool} {X : List (Nat × AV)} {T : St}
    (h1 : elook T.env 1 = encR r) (h4 : elook T.env 4 = .int .i64 w) (h5 : elook T.env 5 = .vptr 0 0) (h11 : elook T.env 11 = .bool true) (h12 : elook T.env 12 = .int .i64 N) (h13 : elook T.env 13 = .int .i64 a) (h14 : elook T.env 14 = .int .i64 b) (h15 : elook T.env 15 = .vptr 13 0) (h17 : elook T.env 17 = .vptr 15 0) (h18 : elook T.env 18 = .int .u8 n)
    (h20 : elook T.env 20 = .bool b20) (h21 : elook T.env 21 = .bool b21) (h22 : elook T.env 22 = .bool b22) (h23 : elook T.env 23 = .bool b23) (h24 : elook T.env 24 = .bool b24) (h25 : elook T.env 25 = .int .i64 (lag : Nat)) (hX : leE T.env 16 X)
    (g0 : hget T.H 0 = some (.cells (hdL h))) (g1 : hget T.H 13 = some (.cells [.int .i64 S.1, .int .i64 S.2])) (g2 : hget T.H 15 = some (.cells [.int .i64 F.1, .int .i64 F.2])) : (oSt h r w N a b S F n lag b20 b21 b22 b23 b24 X).le T :=
  St.le.of ⟨h1, rfl, h4, rfl, h5, rfl, h11, rfl, h12, rfl, h13, rfl, h14, rfl, h15, rfl, h17, rfl, h18, rfl, h20, rfl, h21, rfl, h22, rfl, h23, rfl, h24, rfl, h25, rfl, hX⟩ ⟨g0, (by decide : (0 : Nat) < 16), rfl, g1, (by decide : (13 : Nat) < 16), rfl, g2, (by decide : (15 : Nat) < 16), rfl, trivial⟩
/-- A second in which a level may be reached first. -/
def Hit (lo hi : Nat → Int) (w : Int) (k : Nat) : Prop := w ≤ hi k ∧ ∀ i, i < k → lo i < w
/-- What stands fast behind j lags. -/
structure OI (LO HI : Nat → Nat → Int) (lo N a m : Nat) (S F : Sn) (n w : Int) (j : Nat) (q : Bool × Bool × Bool × Bool × Bool) : Prop where
  x : ∀ i, i < j → sumF (LO (lo + i)) a m = S.1 → q.1 = true
  y : ∀ i, i < j → sumF (HI (lo + i)) a m = S.2 → q.2.1 = true
  e0 : n = 0 → q.2.2.1 = true
  e : ∀ i, i < j → ∀ k, k < N → Hit (LO (lo + i)) (HI (lo + i)) w k → (k : Int) = F.1 → q.2.2.1 = true
  l0 : n = 0 → q.2.2.2.1 = true
  l : ∀ i, i < j → ∀ k, k < N → Hit (LO (lo + i)) (HI (lo + i)) w k → (k : Int) = F.2 → q.2.2.2.1 = true
  s : q.2.2.2.2 = true ↔ ∀ i, i < j → ∃ k, k < N ∧ w ≤ LO (lo + i) k
/-- What stands fast behind i seconds of a lag. -/
structure II (LO HI : Nat → Int) (N : Nat) (F : Sn) (w : Int) (b22 b23 : Bool) (i : Nat) (q : Bool × Bool × Bool) : Prop where
  le : i ≤ N
  be : b22 = true → q.1 = true
  bl : b23 = true → q.2.1 = true
  e : ∀ k, k < i → Hit LO HI w k → (k : Int) = F.1 → q.1 = true
  l : ∀ k, k < i → Hit LO HI w k → (k : Int) = F.2 → q.2.1 = true
  s : q.2.2 = true ↔ ∃ k, k < i ∧ w ≤ LO k
theorem II.miss {LO HI : Nat → Int} {N : Nat} {F : Sn} {w : Int} {b22 b23 c22 c23 c31 : Bool} {i : Nat} (I : II LO HI N F w b22 b23 i (c22, c23, c31)) (hi : i < N) (hm : HI i < w ∨ c31 = true) : II LO HI N F w b22 b23 (i + 1) (c22, c23, c31 || decide (LO i ≥ w)) := by
  have nh : ¬ Hit LO HI w i := fun ⟨h1, h2⟩ => by
    rcases hm with hm | hm
    · omega
    · obtain ⟨k, hk, hw⟩ := I.s.1 hm
      have := h2 k hk; omega
  refine ⟨hi, I.be, I.bl, fun k hk hh he => ?_, fun k hk hh he => ?_, ?_⟩
  · rcases Nat.lt_or_ge k i with hl | hl
    · exact I.e k hl hh he
    · rw [show k = i by omega] at hh; exact absurd hh nh
  · rcases Nat.lt_or_ge k i with hl | hl
    · exact I.l k hl hh he
    · rw [show k = i by omega] at hh; exact absurd hh nh
  · rw [Bool.or_eq_true, decide_eq_true_eq, show (c31 = true ↔ ∃ k, k < i ∧ w ≤ LO k) from I.s]
    refine ⟨fun h => ?_, fun ⟨k, hk, hw⟩ => ?_⟩
    · rcases h with ⟨k, hk, hw⟩ | h
      · exact ⟨k, by omega, hw⟩
      · exact ⟨i, by omega, h⟩
    · rcases Nat.lt_or_ge k i with hl | hl
      · exact .inl ⟨k, hl, hw⟩
      · rw [show k = i by omega] at hw; exact .inr hw
theorem II.hit {LO HI : Nat → Int} {N : Nat} {F : Sn} {w : Int} {b22 b23 c22 c23 : Bool} {i : Nat} (I : II LO HI N F w b22 b23 i (c22, c23, false)) (hi : i < N) : II LO HI N F w b22 b23 (i + 1) (c22 || (i : Int) == F.1, c23 || (i : Int) == F.2, decide (LO i ≥ w)) := by
  refine ⟨hi, fun h => ?_, fun h => ?_, fun k hk hh he => ?_, fun k hk hh he => ?_, ?_⟩
  · have := I.be h; simp only at this; simp [this]
  · have := I.bl h; simp only at this; simp [this]
  · rcases Nat.lt_or_ge k i with hl | hl
    · have := I.e k hl hh he; simp only at this; simp [this]
    · rw [show k = i by omega] at he; simp [he]
  · rcases Nat.lt_or_ge k i with hl | hl
    · have := I.l k hl hh he; simp only at this; simp [this]
    · rw [show k = i by omega] at he; simp [he]
  · have h0 : ¬ ∃ k, k < i ∧ w ≤ LO k := fun h => by have := I.s.2 h; cases this
    rw [decide_eq_true_eq]
    refine ⟨fun h => ⟨i, by omega, h⟩, fun ⟨k, hk, hw⟩ => ?_⟩
    rcases Nat.lt_or_ge k i with hl | hl
    · exact absurd ⟨k, hl, hw⟩ h0
    · rw [show k = i by omega] at hw; exact hw
theorem OI.step {LO HI : Nat → Nat → Int} {lo N a m : Nat} {S F : Sn} {n w : Int} {j : Nat} {b20 b21 b22 b23 b24 c22 c23 c31 : Bool} (I : OI LO HI lo N a m S F n w j (b20, b21, b22, b23, b24)) (J : II (LO (lo + j)) (HI (lo + j)) N F w b22 b23 N (c22, c23, c31)) :
    OI LO HI lo N a m S F n w (j + 1) (b20 || sumF (LO (lo + j)) a m == S.1, b21 || sumF (HI (lo + j)) a m == S.2, c22, c23, b24 && c31) := by
  refine ⟨fun i hi h => ?_, fun i hi h => ?_, fun h => J.be (I.e0 h), fun i hi k hk hh he => ?_, fun h => J.bl (I.l0 h), fun i hi k hk hh he => ?_, ?_⟩
  · rcases Nat.lt_or_ge i j with hl | hl
    · have := I.x i hl h; simp only at this; simp [this]
    · rw [show i = j by omega] at h; simp [h]
  · rcases Nat.lt_or_ge i j with hl | hl
    · have := I.y i hl h; simp only at this; simp [this]
    · rw [show i = j by omega] at h; simp [h]
  · rcases Nat.lt_or_ge i j with hl | hl
    · exact J.be (I.e i hl k hk hh he)
    · rw [show i = j by omega] at hh; exact J.e k hk hh he
  · rcases Nat.lt_or_ge i j with hl | hl
    · exact J.bl (I.l i hl k hk hh he)
    · rw [show i = j by omega] at hh; exact J.l k hk hh he
  · have s1 : b24 = true ↔ ∀ i, i < j → ∃ k, k < N ∧ w ≤ LO (lo + i) k := I.s
    have s2 : c31 = true ↔ ∃ k, k < N ∧ w ≤ LO (lo + j) k := J.s
    rw [Bool.and_eq_true, s1, s2]
    refine ⟨fun ⟨h1, h2⟩ i hi => ?_, fun h => ⟨fun i hi => h i (by omega), h j (by omega)⟩⟩
    rcases Nat.lt_or_ge i j with hl | hl
    · exact h1 i hl
    · rw [show i = j by omega]; exact h2
end Go.Proofs.YtcdcgbgmpmaipaaDoor

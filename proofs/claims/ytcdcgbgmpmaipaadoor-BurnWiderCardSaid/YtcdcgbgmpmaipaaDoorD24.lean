import Derived.Test.YtcdcgbgmpmaipaaDoorD14
namespace Go.Proofs.YtcdcgbgmpmaipaaDoor
open Go Go.Am
/-! ### Plain: a wider span of anything -/
structure Wid (h w : Hd) : Prop where
  b : w.bLo ≤ h.bLo ∧ h.bHi ≤ w.bHi
  f : w.fLo ≤ h.fLo ∧ h.fHi ≤ w.fHi
  j : w.jLo ≤ h.jLo ∧ h.jHi ≤ w.jHi
  l : w.lLo ≤ h.lLo ∧ w.lHi = h.lHi
  d : h.dr ≤ w.dr
theorem a_wid {h w : Hd} {r : List Int} (hw : Wid h w) (hh : Ok h r) (ww : Ok w r) (lag i : Nat) : aLo w r lag i ≤ aLo h r lag i ∧ aHi h r lag i ≤ aHi w r lag i := by
  have hb := hw.b
  have hd := hw.d
  have m1 : mLo w r lag i ≤ mLo h r lag i := by unfold mLo; omega
  have m2 : mHi h r lag i ≤ mHi w r lag i := by unfold mHi; omega
  have h1 := m_rng hh lag i
  have w1 := m_rng ww lag i
  have f1 := mul_rng ww.h.j.1 hw.j.1 ww.h.f.1 hw.f.1
  have f2 := mul_rng (show 0 ≤ h.jHi by have := hh.h.j; omega) hw.j.2 (show 0 ≤ h.fHi by have := hh.h.f; omega) hw.f.2
  exact ⟨(mul_rng f1.1 f1.2 w1.1 m1).2, (mul_rng f2.1 f2.2 (show 0 ≤ mHi h r lag i by omega) m2).2⟩
theorem secN_wid {h w : Hd} (r : List Int) (hw : Wid h w) : secN w r = secN h r := by unfold secN; rw [hw.l.2]
theorem lags_wid {h w : Hd} (hw : Wid h w) (hh : HoodOk h) (ww : HoodOk w) {lag : Nat} (hl : lag ∈ lagsN h) : lag ∈ lagsN w := by
  rw [mem_lags hh] at hl
  rw [mem_lags ww]
  have := hw.l
  omega
theorem sum_wid {h w : Hd} {r : List Int} (hw : Wid h w) (hh : Ok h r) (ww : Ok w r) (a n : Nat) (hn : n ≤ 120) : (sumV w r a n).1 ≤ (sumV h r a n).1 ∧ (sumV h r a n).2 ≤ (sumV w r a n).2 := by
  obtain ⟨_, ⟨x, hx, hx'⟩, ⟨y, hy, hy'⟩⟩ := sumV_spec hh a n hn
  obtain ⟨p1, _, _⟩ := sumV_spec ww a n hn
  have q1 := (p1 x (lags_wid hw hh.h ww.h hx)).1
  have q2 := (p1 y (lags_wid hw hh.h ww.h hy)).2
  have r1 : (sumS w r a n x).1 ≤ (sumS h r a n x).1 := sumF_le (fun i => (a_wid hw hh ww x i).1) a n
  have r2 : (sumS h r a n y).2 ≤ (sumS w r a n y).2 := sumF_le (fun i => (a_wid hw hh ww y i).2) a n
  omega
theorem arr_wid {lo hi lo' hi' : Nat → Int} {v : Int} {N : Nat} {A B : Sn × Bool} (hlo : ∀ k, lo' k ≤ lo k) (hhi : ∀ k, hi k ≤ hi' k) (hle : ∀ k, lo k ≤ hi k) (hA : ArrOk lo hi v N A) (hB : ArrOk lo' hi' v N B) :
    (B.2 = true → A.2 = true) ∧ (0 ≤ A.1.1 → 0 ≤ B.1.1 ∧ B.1.1 ≤ A.1.1 ∧ A.1.2 ≤ B.1.2) := by
  have key : ∀ f e : Nat, f < N → e < N → v ≤ hi f → v ≤ hi e → (∀ s : Nat, s < N → v ≤ lo s → e ≤ s) → 0 ≤ B.1.1 ∧ B.1.1 ≤ f ∧ (e : Int) ≤ B.1.2 := fun f e hf he h1 h2 h3 => by
    have hf' := hhi f
    have he' := hhi e
    cases hB with
    | none h0 => have := h0 f hf; omega
    | sure f' e' g1 g2 g3 g4 g5 g6 g7 =>
      refine ⟨Int.natCast_nonneg _, ?_, ?_⟩
      · rcases Nat.lt_or_ge f f' with hl | hl
        · have := g4 f hl; omega
        · show (f' : Int) ≤ f; omega
      · have := hlo e'
        have := h3 e' g2 (by omega)
        show (e : Int) ≤ e'; omega
    | may f' e' g1 g2 g3 g4 g5 g6 g7 =>
      refine ⟨Int.natCast_nonneg _, ?_, ?_⟩
      · rcases Nat.lt_or_ge f f' with hl | hl
        · have := g4 f hl; omega
        · show (f' : Int) ≤ f; omega
      · rcases Nat.lt_or_ge e' e with hl | hl
        · have := g7 e hl he; omega
        · show (e : Int) ≤ e'; omega
  cases hA with
  | none h0 =>
    refine ⟨fun hb => ?_, fun h => by simp at h⟩
    cases hB with
    | none _ => cases hb
    | sure f' e' g1 g2 g3 g4 g5 g6 g7 => have := h0 e' g2; have := hlo e'; have := hle e'; omega
    | may f' e' g1 g2 g3 g4 g5 g6 g7 => cases hb
  | sure f e h1 h2 h3 h4 h5 h6 h7 =>
    refine ⟨fun _ => rfl, fun _ => key f e (by omega) h2 h3 h5 fun s hs hv => ?_⟩
    rcases Nat.lt_or_ge s e with hl | hl
    · have := h7 s hl; omega
    · exact hl
  | may f e h1 h2 h3 h4 h5 h6 h7 =>
    refine ⟨fun hb => ?_, fun _ => key f e (by omega) h2 h3 h5 fun s hs hv => by have := h6 s hs; omega⟩
    cases hB with
    | none _ => cases hb
    | sure f' e' g1 g2 g3 g4 g5 g6 g7 => have := h6 e' g2; have := hlo e'; omega
    | may f' e' g1 g2 g3 g4 g5 g6 g7 => cases hb
theorem wider_ok {h w : Hd} {r : List Int} (hw : Wid h w) (hh : Ok h r) (ww : Ok w r) (v : Int) :
    (knownI w r v ≠ 1 → knownI h r v = knownI w r v) ∧ (knownI h r v ≠ 0 → (firstS w r v).1 ≤ (firstS h r v).1 ∧ (firstS h r v).2 ≤ (firstS w r v).2) := by
  have hA := fun lag => by
    have h1 := arrV_ok hh lag v
    have h2 := arrV_ok ww lag v
    rw [secN_wid r hw] at h2
    exact arr_wid (fun k => (a_wid hw hh ww lag k).1) (fun k => (a_wid hw hh ww lag k).2) (fun k => (a_rng hh lag k).2.1) h1 h2
  have hm : ∀ lag, lag ∈ mayL h r v → lag ∈ mayL w r v := fun lag hl => by
    rw [may_mem] at hl ⊢
    exact ⟨lags_wid hw hh.h ww.h hl.1, ((hA lag).2 hl.2).1⟩
  have hne : mayL h r v ≠ [] → mayL w r v ≠ [] := fun hx e => by
    obtain ⟨lag, l, hl⟩ := List.exists_cons_of_ne_nil hx
    have := hm lag (by rw [hl]; simp)
    rw [e] at this; cases this
  have sure_may : ∀ lag, lag ∈ lagsN h → (arrV h r v lag).2 = true → lag ∈ mayL h r v := fun lag hl hs => may_mem.2 ⟨hl, by
    rcases arrK_rng h r lag v (secN h r) with ⟨_, e⟩ | hr
    · have e' : (arrV h r v lag).2 = false := e
      rw [e'] at hs; cases hs
    · exact hr.1⟩
  refine ⟨fun h1 => ?_, fun h0 => ?_⟩
  · rcases knownI_cases w r v with ⟨kw, mw⟩ | ⟨kw, _⟩ | ⟨kw, mw, sw⟩
    · rcases knownI_cases h r v with ⟨k, _⟩ | ⟨_, m, _⟩ | ⟨_, m, _⟩
      · rw [k, kw]
      · exact absurd mw (hne m)
      · exact absurd mw (hne m)
    · exact absurd kw h1
    · have sh : ∀ lag ∈ lagsN h, (arrV h r v lag).2 = true := fun lag hl => (hA lag).1 (sw lag (lags_wid hw hh.h ww.h hl))
      rcases knownI_cases h r v with ⟨_, m⟩ | ⟨_, _, lag, hl, hf⟩ | ⟨k, _⟩
      · obtain ⟨lag, l, hl⟩ := List.exists_cons_of_ne_nil (lagsN_ne h)
        have hx : lag ∈ lagsN h := by rw [hl]; simp
        have := sure_may lag hx (sh lag hx)
        rw [m] at this; cases this
      · have := sh lag hl; rw [hf] at this; cases this
      · rw [k, kw]
  · have mh : mayL h r v ≠ [] := by
      rcases knownI_cases h r v with ⟨k, _⟩ | ⟨_, m, _⟩ | ⟨_, m, _⟩
      · exact absurd k h0
      · exact m
      · exact m
    obtain ⟨_, ⟨x, hx, hx'⟩, ⟨y, hy, hy'⟩⟩ := firstS_spec hh mh
    have q := (firstS_spec ww (hne mh)).1
    have q1 := (q x (hm x hx)).1
    have q2 := (q y (hm y hy)).2
    have r1 := ((hA x).2 (may_mem.1 hx).2).2.1
    have r2 := ((hA y).2 (may_mem.1 hy).2).2.2
    omega
end Go.Proofs.YtcdcgbgmpmaipaaDoor

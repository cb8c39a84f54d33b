import Derived.Test.YticiopkiikcokaaT23
namespace Go.Proofs.Yticiopkiikcokaa
open Go Go.Am
theorem curve_mono {l : List Pt} (hc : curveB l = true) : ∀ (n i : Nat) (p q : Pt), l[i]? = some p → l[i + n + 1]? = some q → p.m < q.m ∧ p.d ≤ q.d := by
  obtain ⟨_, _, _, hst⟩ := curveB_out hc
  intro n
  induction n with
  | zero => intro i p q hp hq; exact hst i p q hp hq
  | succ n ih =>
    intro i p q hp hq
    obtain ⟨hlt, _⟩ := List.getElem?_eq_some_iff.1 hq
    obtain ⟨r, hr⟩ : ∃ r, l[i + n + 1]? = some r := ⟨_, List.getElem?_eq_getElem (by omega)⟩
    have h1 := ih i p r hp hr
    have h2 := hst (i + n + 1) r q hr (by rw [← hq]; congr 1)
    omega
theorem curve_lt {l : List Pt} (hc : curveB l = true) {i j : Nat} {p q : Pt} (hp : l[i]? = some p) (hq : l[j]? = some q) (h : i < j) : p.m < q.m ∧ p.d ≤ q.d := by
  obtain ⟨n, rfl⟩ : ∃ n, j = i + n + 1 := ⟨j - i - 1, by omega⟩
  exact curve_mono hc n i p q hp hq
theorem seekI_spec {l : List Pt} (hc : curveB l = true) {m : Int} (hm : 0 ≤ m) : ∀ k, k < l.length → seekI l m k ≤ k ∧ (∃ a, l[seekI l m k]? = some a ∧ a.m ≤ m) ∧ ∀ j, seekI l m k < j → j ≤ k → ∀ q, l[j]? = some q → m < q.m := by
  obtain ⟨hlen, ⟨p0, hp0, hp0m⟩, hpt, hst⟩ := curveB_out hc
  intro k
  induction k with
  | zero => intro _; exact ⟨Nat.le_refl _, ⟨p0, hp0, by omega⟩, fun j h1 h2 => by omega⟩
  | succ k ih =>
    intro hk
    obtain ⟨a, ha⟩ : ∃ a, l[k + 1]? = some a := ⟨_, List.getElem?_eq_getElem (by omega)⟩
    by_cases h : m < a.m
    · rw [seekI_step ha h]
      obtain ⟨h1, h2, h3⟩ := ih (by omega)
      refine ⟨by omega, h2, fun j hj1 hj2 q hq => ?_⟩
      by_cases hj : j ≤ k
      · exact h3 j hj1 hj q hq
      · have : j = k + 1 := by omega
        subst this
        rw [ha] at hq; cases hq; exact h
    · rw [seekI_stop ha h]
      exact ⟨Nat.le_refl _, ⟨a, ha, by omega⟩, fun j h1 h2 => by omega⟩
theorem seekI_eq {l : List Pt} (hc : curveB l = true) {m : Int} {k : Nat} {a : Pt} (hm : 0 ≤ m) (ha : l[k]? = some a) (hk : k + 1 < l.length) (h1 : a.m ≤ m) (h2 : k + 2 < l.length → ∀ b, l[k + 1]? = some b → m < b.m) : seekI l m (l.length - 2) = k := by
  obtain ⟨hlen, _, hpt, hst⟩ := curveB_out hc
  obtain ⟨s1, ⟨c, hcs, hcm⟩, s3⟩ := seekI_spec hc hm (l.length - 2) (by omega)
  rcases Nat.lt_trichotomy (seekI l m (l.length - 2)) k with h | h | h
  · have := s3 k h (by omega) a ha; omega
  · exact h
  · obtain ⟨b, hb⟩ : ∃ b, l[k + 1]? = some b := ⟨_, List.getElem?_eq_getElem (by omega)⟩
    have hlt := h2 (by omega) b hb
    rcases Nat.lt_or_ge (k + 1) (seekI l m (l.length - 2)) with h' | h'
    · have := curve_lt hc hb hcs h'; omega
    · have : seekI l m (l.length - 2) = k + 1 := by omega
      rw [this, hb] at hcs; cases hcs; omega
theorem deg_where {l : List Pt} (hc : curveB l = true) {m : Int} {k : Nat} {a b : Pt} (hm : 0 ≤ m) (ha : l[k]? = some a) (hb : l[k + 1]? = some b) (h1 : a.m ≤ m) (h2 : k + 2 < l.length → m < b.m) : deg l m = degB a b m := by
  obtain ⟨hk, _⟩ := List.getElem?_eq_some_iff.1 hb
  unfold deg
  rw [seekI_eq hc hm ha hk h1 (fun h b' hb' => by rw [hb] at hb'; cases hb'; exact h2 h), ha, hb]
theorem degB_lo (a b : Pt) : degB a b a.m = a.d := by simp [degB]
theorem degB_hi {a b : Pt} (h : a.m < b.m) : degB a b b.m = b.d := by
  unfold degB
  rw [Int.mul_tdiv_cancel _ (by omega)]; omega
theorem deg_at {l : List Pt} (hc : curveB l = true) {i : Nat} {p : Pt} (hp : l[i]? = some p) : deg l p.m = p.d := by
  obtain ⟨hlen, ⟨p0, hp0, hp0m⟩, hpt, hst⟩ := curveB_out hc
  obtain ⟨hi, _⟩ := List.getElem?_eq_some_iff.1 hp
  by_cases h : i + 1 < l.length
  · obtain ⟨b, hb⟩ : ∃ b, l[i + 1]? = some b := ⟨_, List.getElem?_eq_getElem h⟩
    rw [deg_where hc (hpt _ _ hp).1 hp hb (Int.le_refl _) (fun _ => (hst _ _ _ hp hb).1), degB_lo]
  · obtain ⟨j, rfl⟩ : ∃ j, i = j + 1 := ⟨i - 1, by omega⟩
    obtain ⟨a, ha⟩ : ∃ a, l[j]? = some a := ⟨_, List.getElem?_eq_getElem (by omega)⟩
    have := hst _ _ _ ha hp
    rw [deg_where hc (hpt _ _ hp).1 ha hp (by omega) (fun h' => by omega), degB_hi this.1]
theorem degB_off {a b : Pt} {m : Int} (h1 : a.m ≤ m) (h2 : a.m < b.m) (h3 : a.d ≤ b.d) : 0 ≤ (b.d - a.d) * (m - a.m) - (degB a b m - a.d) * (b.m - a.m) ∧ (b.d - a.d) * (m - a.m) - (degB a b m - a.d) * (b.m - a.m) < b.m - a.m := by
  have p0 : 0 ≤ (b.d - a.d) * (m - a.m) := Int.mul_nonneg (by omega) (by omega)
  have e : degB a b m - a.d = ((b.d - a.d) * (m - a.m)) / (b.m - a.m) := by
    unfold degB; rw [Int.tdiv_eq_ediv_of_nonneg p0]; omega
  rw [e]
  have h := Int.mul_ediv_add_emod ((b.d - a.d) * (m - a.m)) (b.m - a.m)
  have h4 := Int.emod_nonneg ((b.d - a.d) * (m - a.m)) (by omega : b.m - a.m ≠ 0)
  have h5 := Int.emod_lt_of_pos ((b.d - a.d) * (m - a.m)) (by omega : 0 < b.m - a.m)
  have e2 : (b.d - a.d) * (m - a.m) / (b.m - a.m) * (b.m - a.m) = (b.m - a.m) * ((b.d - a.d) * (m - a.m) / (b.m - a.m)) := Int.mul_comm _ _
  rw [e2]; omega
theorem degB_mono {a b : Pt} {m m' : Int} (h1 : a.m ≤ m) (h2 : a.m < b.m) (h3 : a.d ≤ b.d) (h : m ≤ m') : degB a b m ≤ degB a b m' := by
  have p0 : 0 ≤ (b.d - a.d) * (m - a.m) := Int.mul_nonneg (by omega) (by omega)
  have p1 : 0 ≤ (b.d - a.d) * (m' - a.m) := Int.mul_nonneg (by omega) (by omega)
  have p2 : (b.d - a.d) * (m - a.m) ≤ (b.d - a.d) * (m' - a.m) := Int.mul_le_mul_of_nonneg_left (by omega) (by omega)
  unfold degB
  rw [Int.tdiv_eq_ediv_of_nonneg p0, Int.tdiv_eq_ediv_of_nonneg p1]
  have := Int.ediv_le_ediv (show 0 < b.m - a.m by omega) p2
  omega
theorem degB_rng {a b : Pt} {m : Int} (h1 : a.m ≤ m) (h2 : a.m < b.m) (h3 : a.d ≤ b.d) (h : m ≤ b.m) : a.d ≤ degB a b m ∧ degB a b m ≤ b.d := by
  have x := degB_mono (Int.le_refl _) h2 h3 h1
  have y := degB_mono h1 h2 h3 h
  rw [degB_lo] at x; rw [degB_hi h2] at y; exact ⟨x, y⟩
theorem deg_seg {l : List Pt} (hc : curveB l = true) {p : Pt} (hp : l[l.length - 1]? = some p) {m : Int} (hm : 0 ≤ m) (hm2 : m < p.m) : ∃ (k : Nat) (a b : Pt), l[k]? = some a ∧ l[k + 1]? = some b ∧ a.m ≤ m ∧ m < b.m := by
  obtain ⟨hlen, _, hpt, hst⟩ := curveB_out hc
  obtain ⟨s1, ⟨c, hcs, hcm⟩, s3⟩ := seekI_spec hc hm (l.length - 1) (by omega)
  have hne : seekI l m (l.length - 1) ≠ l.length - 1 := fun h => by rw [h, hp] at hcs; cases hcs; omega
  obtain ⟨b, hb⟩ : ∃ b, l[seekI l m (l.length - 1) + 1]? = some b := ⟨_, List.getElem?_eq_getElem (by omega)⟩
  exact ⟨_, c, b, hcs, hb, hcm, s3 _ (by omega) (by omega) b hb⟩
theorem deg_mono {l : List Pt} (hc : curveB l = true) {p : Pt} (hp : l[l.length - 1]? = some p) {m : Int} (hm : 0 ≤ m) (hm2 : m < p.m) : deg l m ≤ deg l (m + 1) := by
  obtain ⟨k, a, b, ha, hb, h1, h2⟩ := deg_seg hc hp hm hm2
  obtain ⟨hlen, _, hpt, hst⟩ := curveB_out hc
  have hs := hst _ _ _ ha hb
  rw [deg_where hc hm ha hb h1 (fun _ => h2)]
  by_cases h : m + 1 < b.m
  · rw [deg_where hc (by omega) ha hb (by omega) (fun _ => h)]
    exact degB_mono h1 hs.1 hs.2 (by omega)
  · have e : m + 1 = b.m := by omega
    rw [e, deg_at hc hb]
    exact (degB_rng h1 hs.1 hs.2 (by omega)).2
theorem deg_rng {l : List Pt} (hc : curveB l = true) {p : Pt} (hp : l[l.length - 1]? = some p) {m : Int} (hm : 0 ≤ m) (hm2 : m ≤ p.m) : 0 ≤ deg l m ∧ deg l m ≤ 2000 := by
  obtain ⟨hlen, _, hpt, hst⟩ := curveB_out hc
  by_cases h : m = p.m
  · subst h; rw [deg_at hc hp]; have := hpt _ _ hp; omega
  · obtain ⟨k, a, b, ha, hb, h1, h2⟩ := deg_seg hc hp hm (by omega)
    have hs := hst _ _ _ ha hb
    rw [deg_where hc hm ha hb h1 (fun _ => h2)]
    have := degB_rng h1 hs.1 hs.2 (by omega)
    have x := hpt _ _ ha
    have y := hpt _ _ hb
    omega
end Go.Proofs.Yticiopkiikcokaa

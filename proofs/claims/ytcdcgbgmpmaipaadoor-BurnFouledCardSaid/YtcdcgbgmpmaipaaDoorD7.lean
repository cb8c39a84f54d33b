import Derived.Test.YtcdcgbgmpmaipaaDoorD5
namespace Go.Proofs.YtcdcgbgmpmaipaaDoor
open Go Go.Am
set_option maxRecDepth 100000
set_option maxHeartbeats 4000000
def encAr (p : Sn × Bool) : AV := .agg [.int .i64 p.1.1, .int .i64 p.1.2, .bool p.2]
theorem arr_hit {h : Hd} {r : List Int} {lag : Nat} {v : Int} {k : Nat} (h1 : (arrK h r lag v k).2 = false) (h2 : v ≤ aHi h r lag k) : arrK h r lag v (k + 1) = (joinP (arrK h r lag v k).1 ((k : Int), (k : Int)), decide (v ≤ aLo h r lag k)) := by
  have hr := arrK_rng h r lag v k
  rw [arrK, h1]
  rw [if_neg (by simp), if_neg (by omega)]
  rcases hr with ⟨e, _⟩ | hr
  · rw [e]; simp [joinP]
  · have ne : (arrK h r lag v k).1 ≠ (-1, -1) := fun e => by rw [e] at hr; simp at hr
    rw [if_neg (by omega), joinP, if_neg ne]
    have e1 : min (arrK h r lag v k).1.1 (k : Int) = (arrK h r lag v k).1.1 := by omega
    have e2 : max (arrK h r lag v k).1.2 (k : Int) = (k : Int) := by omega
    simp only [e1, e2]
theorem arr_miss {h : Hd} {r : List Int} {lag : Nat} {v : Int} {k : Nat} (h1 : (arrK h r lag v k).2 = false) (h2 : aHi h r lag k < v) : arrK h r lag v (k + 1) = arrK h r lag v k := by
  rw [arrK, h1, if_neg (by simp), if_pos h2]
theorem arr_stay {h : Hd} {r : List Int} {lag : Nat} {v : Int} {k : Nat} (h1 : (arrK h r lag v k).2 = true) : ∀ n, k ≤ n → arrK h r lag v n = arrK h r lag v k := by
  intro n hn
  induction n with
  | zero => have : k = 0 := by omega
            rw [this]
  | succ n ih =>
    by_cases e : k = n + 1
    · rw [e]
    · have := ih (by omega)
      rw [arrK, this, if_pos h1]
theorem sure_may {h : Hd} {r : List Int} {lag : Nat} {v : Int} {k : Nat} (h1 : (arrK h r lag v k).1 = (-1, -1)) : (arrK h r lag v k).2 = false := by
  rcases arrK_rng h r lag v k with hr | hr
  · exact hr.2
  · rw [h1] at hr; simp at hr
theorem arrival_spec (h : Hd) (r : List Int) (lag : Nat) (v : Int) (ho : Ok h r) (hl0 : (lag : Int) ≤ h.lHi) : APure Tryd.prog 68 [encDt h r, .int .i64 lag, .int .i64 v] (encAr (arrV h r v lag)) := by
  have hs : secN h r ≤ 120 := by have := ho.r.len; unfold secN; omega
  have s1 := heat_spec h r lag ho.h
  have s2 := seconds_spec h r ho
  have hin : ∀ k, k < secN h r → k + lag < r.length := fun k hk => by have := ho.h.l; unfold secN at hk; omega
  have hH : ∀ k, k < secN h r → APure Tryd.prog 80 [.int .i64 k, .cptr [h1Cl (h.jLo * h.fLo) (mCl (h.bLo - h.dr) h r lag), h1Cl (h.jHi * h.fHi) (mCl (h.bHi + h.dr) h r lag)]] (encS (aLo h r lag k, aHi h r lag k)) := fun k hk => heat2_spec h r lag k ho (hin k hk)
  have hAr : ∀ k, aLo h r lag k ≤ aHi h r lag k := fun k => (a_rng ho lag k).2.1
  have hit := fun (k : Nat) => arr_hit (h := h) (r := r) (lag := lag) (v := v) (k := k)
  have miss := fun (k : Nat) => arr_miss (h := h) (r := r) (lag := lag) (v := v) (k := k)
  have stay := fun (k : Nat) => arr_stay (h := h) (r := r) (lag := lag) (v := v) (k := k)
  have hA0 : arrK h r lag v 0 = ((-1, -1), false) := rfl
  rw [show arrV h r v lag = arrK h r lag v (secN h r) from rfl]
  generalize arrK h r lag v = A at *
  generalize secN h r = N at *
  generalize aLo h r lag = lo at *
  generalize aHi h r lag = hi at *
  refine APure.vc Tryd.func68 rfl (.draw 6 <| .call (hCl h r lag) <| .call (.int .i64 N) .loop) rfl rfl ⟨by kernel_rfl, mixed, by kernel_rfl, s1, by kernel_rfl, s2, ?_⟩
  intro g hn hl
  replace hn : g.n = 49 := hn
  replace hl : g.low 0 := hl
  refine acode_while (fun k : Nat => ⟨[(2, .int .i64 v), (6, .vptr 1 0), (7, .vptr 7 0), (8, hCl h r lag), (17, .int .i64 N), (18, .int .i64 k)], [(1, .cells [.int .i64 0, .int .i64 0, .bool false]), (7, .cells [.int .i64 (A k).1.1, .int .i64 (A k).1.2, .bool (A k).2])], 8⟩)
    (fun k => k ≤ N ∧ (A k).2 = false) (fun k => N - k) 0 ⟨Nat.zero_le _, by rw [hA0]⟩ ?_ (fun _ _ => hl.mono (Nat.zero_le _)) ?_
  · have o0 : some (AObj.cells [.int .i64 (-1), .int .i64 (-1), .bool false]) = some (.cells [.int .i64 (A 0).1.1, .int .i64 (A 0).1.2, .bool (A 0).2]) := by rw [hA0]
    exact St.le.of ⟨rfl, rfl, rfl, rfl, rfl, rfl, rfl, rfl, rfl, rfl, rfl, rfl, trivial⟩ ⟨rfl, (by decide : (1 : Nat) < 8), rfl, o0, (by decide : (7 : Nat) < 8), rfl, trivial⟩
  · rintro k ⟨hk, hf⟩
    by_cases hlt : k < N
    · have ek := congrArg (AV.int .i64) (succ64 (k := k) (by omega))
      have d19 : decide ((k : Int) < (N : Int)) = true := decide_eq_true (by omega)
      have sJ := join_spec (A k).1 ((k : Int), (k : Int))
      have sO := only_spec (k : Int)
      have hq := hAr k
      by_cases c1 : v ≤ lo k
      · have d24 : decide (lo k ≥ v) = true := decide_eq_true c1
        have e := hit k hf (by omega)
        have e2 := stay (k + 1) (by rw [e]; exact decide_eq_true c1) N hlt
        have eR : some (AV.agg [.int .i64 (joinP (A k).1 ((k : Int), (k : Int))).1, .int .i64 (joinP (A k).1 ((k : Int), (k : Int))).2, .bool true]) = some (encAr (A N)) := by rw [e2, e, decide_eq_true c1]; rfl
        exact ACode.vc (.br 19 true <| .call (encS (lo k, hi k)) <| .br 24 true <| .draw 4 <| .call (encS ((k : Int), (k : Int))) <| .call (encS (joinP (A k).1 ((k : Int), (k : Int)))) .nil) hn hl (.round .cl)
          ⟨d19, hH k hlt, d24, by kernel_rfl, mixed, by kernel_rfl, sO, by kernel_rfl, sJ, _, .refl _, .nil, trivial, Eq.trans (by kernel_rfl) eR⟩
      · have d24 : decide (lo k ≥ v) = false := decide_eq_false (by omega)
        by_cases c2 : v ≤ hi k
        · have d36 : decide (hi k ≥ v) = true := decide_eq_true c2
          have e := hit k hf c2
          have eo : some (AObj.cells [.int .i64 (joinP (A k).1 ((k : Int), (k : Int))).1, .int .i64 (joinP (A k).1 ((k : Int), (k : Int))).2, .bool (A k).2]) = some (.cells [.int .i64 (A (k + 1)).1.1, .int .i64 (A (k + 1)).1.2, .bool (A (k + 1)).2]) := by
            rw [e, hf, decide_eq_false c1]
          exact ACode.vc (.br 19 true <| .call (encS (lo k, hi k)) <| .br 24 false <| .br 36 true <| .draw 4 <| .call (encS ((k : Int), (k : Int))) <| .call (encS (joinP (A k).1 ((k : Int), (k : Int)))) .nil) hn hl (.round .cl)
            ⟨d19, hH k hlt, d24, d36, by kernel_rfl, mixed, by kernel_rfl, sO, by kernel_rfl, sJ, k + 1, ⟨hlt, by rw [e]; exact decide_eq_false c1⟩, mu1 hlt,
              St.le.of ⟨rfl, rfl, rfl, rfl, rfl, rfl, rfl, rfl, rfl, rfl, ek, rfl, trivial⟩ ⟨rfl, (by decide : (1 : Nat) < 8), rfl, Eq.trans (by kernel_rfl) eo, (by decide : (7 : Nat) < 8), rfl, trivial⟩⟩
        · have d36 : decide (hi k ≥ v) = false := decide_eq_false c2
          have e := miss k hf (by omega)
          have eo : some (AObj.cells [.int .i64 (A k).1.1, .int .i64 (A k).1.2, .bool (A k).2]) = some (.cells [.int .i64 (A (k + 1)).1.1, .int .i64 (A (k + 1)).1.2, .bool (A (k + 1)).2]) := by rw [e]
          exact ACode.vc (.br 19 true <| .call (encS (lo k, hi k)) <| .br 24 false <| .br 36 false .nil) hn hl (.round .cl)
            ⟨d19, hH k hlt, d24, d36, k + 1, ⟨hlt, by rw [e]; exact hf⟩, mu1 hlt,
              St.le.of ⟨rfl, rfl, rfl, rfl, rfl, rfl, rfl, rfl, rfl, rfl, ek, rfl, trivial⟩ ⟨rfl, (by decide : (1 : Nat) < 8), rfl, eo, (by decide : (7 : Nat) < 8), rfl, trivial⟩⟩
    · have hk' : k = N := by omega
      subst hk'
      have d19 : decide ((k : Int) < (k : Int)) = false := decide_eq_false (by omega)
      exact ACode.vc (.br 19 false .nil) hn hl (.round .cl) ⟨d19, _, .refl _, .nil, trivial, by kernel_rfl⟩
end Go.Proofs.YtcdcgbgmpmaipaaDoor

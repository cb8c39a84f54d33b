import Derived.Test.YtcdcgbgmpmaipaaDoorD4
namespace Go.Proofs.YtcdcgbgmpmaipaaDoor
open Go Go.Am
set_option maxRecDepth 100000
noncomputable def asgW : Code := rfA Tryd.f47
noncomputable def bodW : Code := rfB Tryd.f47
def lagsCl (h : Hd) (r : List Int) : AV := .fn (.func 76) [] [.cptr (dtL h r)]
def sum1Cl (h : Hd) (r : List Int) (a n : Nat) : AV := .fn (.func 66) [] [.cptr [.int .i64 a], .cptr [.int .i64 (a + n : Nat)], .cptr (dtL h r)]
/-- The widest so far. -/
def wdK (S : Nat → Sn) (lo k : Nat) : Sn := widL ((List.range' lo k).map S)
theorem wdK_succ (S : Nat → Sn) (lo k : Nat) : wdK S lo (k + 1) = joinP (wdK S lo k) (S (lo + k)) := by
  unfold wdK
  rw [List.range'_concat, List.map_append, List.map_singleton, widL_snoc, Nat.one_mul]
theorem eqNone (a b : Int) : ((aeqT Tryd.prog 6 23 (.agg [.int .i64 a, .int .i64 b]) (.agg [.int .i64 (-1), .int .i64 (-1)])).map AV.bool).map (fun v => (⟨v, []⟩ : Out)) = some ⟨.bool (a == -1 && b == -1), []⟩ := by rw [eqSpan]; rfl
theorem notNone {s : Sn} (h : 0 ≤ s.1) : (s.1 == -1 && s.2 == -1) = false := by
  have : (s.1 == -1) = false := by rw [beq_eq_false_iff_ne]; omega
  rw [this]; rfl
theorem lagsN_len (h : Hd) : (lagsN h).length = (h.lHi - h.lLo).toNat + 1 := by simp [lagsN]
theorem widest_sum_spec (h : Hd) (r : List Int) (a n : Nat) (ho : Ok h r) (hb : a + n ≤ secN h r) : APure Tryd.prog 47 [lagsCl h r, sum1Cl h r a n] (encS (sumV h r a n)) := by
  have hl' := ho.h.l
  have hlen := ho.r.len
  obtain ⟨lo, elo⟩ := Int.eq_ofNat_of_zero_le hl'.1
  obtain ⟨hi, ehi⟩ := Int.eq_ofNat_of_zero_le (show 0 ≤ h.lHi by omega)
  have hle : lo ≤ hi := by omega
  have hsec : a + n ≤ r.length - hi := by have : secN h r = r.length - hi := by unfold secN; omega
                                          omega
  have hV : sumV h r a n = wdK (sumS h r a n) lo (hi - lo + 1) := by
    have hm : widL ((lagsN h).map (sumS h r a n)) = wdK (sumS h r a n) lo (hi - lo + 1) := by
      unfold lagsN wdK
      rw [elo, ehi, show ((lo : Nat) : Int).toNat = lo from Int.toNat_natCast _, show ((hi : Int) - (lo : Int)).toNat = hi - lo by omega]
    unfold sumV widZ
    rw [hm]
    refine if_neg fun e => ?_
    have := widL_rng (l := (List.range' lo (hi - lo + 1)).map (sumS h r a n)) (B := 36036000000000000) fun s hs => by
      obtain ⟨lag, _, rfl⟩ := List.mem_map.1 hs
      exact sumS_rng ho a n lag (by omega)
    rcases this with ⟨e', _⟩ | ⟨_, e', _⟩
    · simp at e'
    · unfold wdK at e; rw [e] at e'; simp at e'
  rw [hV]
  have sJ : ∀ k, APure Tryd.prog 69 [encS (wdK (sumS h r a n) lo k), encS (sumS h r a n (lo + k))] (encS (wdK (sumS h r a n) lo (k + 1))) := fun k => by
    rw [wdK_succ]; exact join_spec _ _
  have hnn : ∀ k, 1 ≤ k → 0 ≤ (wdK (sumS h r a n) lo k).1 := fun k hk => by
    have := widL_rng (l := (List.range' lo k).map (sumS h r a n)) (B := 36036000000000000) fun s hs => by
      obtain ⟨lag, _, rfl⟩ := List.mem_map.1 hs
      exact sumS_rng ho a n lag (by omega)
    rcases this with ⟨e', _⟩ | ⟨_, e', _⟩
    · have := congrArg List.length e'; simp at this; omega
    · exact e'
  have s1 : ∀ k, k < hi - lo + 1 → APure Tryd.prog 66 [.int .i64 (lo + k : Nat), .cptr [.int .i64 a], .cptr [.int .i64 (a + n : Nat)], .cptr (dtL h r)] (encS (sumS h r a n (lo + k))) := fun k hk => by
    exact sum1_spec h r (lo + k) a n ho (by omega) fun i hi => by omega
  have o0 : some (AObj.cells [.int .i64 (-1), .int .i64 (-1)]) = some (.cells [.int .i64 (wdK (sumS h r a n) lo 0).1, .int .i64 (wdK (sumS h r a n) lo 0).2]) := rfl
  have e0 : AV.int .i64 h.lLo = .int .i64 (lo + 0 : Nat) := congrArg _ elo
  clear hV
  generalize wdK (sumS h r a n) lo = W at *
  generalize sumS h r a n = S at *
  refine APure.vc Tryd.func47 rfl (.inl Tryd.f76 .loop) rfl rfl ⟨Tryd.func76, ?_⟩
  intro g hn hl
  replace hn : g.n = 20 := hn
  replace hl : g.low 5 := hl
  refine acode_whileW (fun k : Nat => ⟨[(0, .yld 4), (1, .cptr (dtL h r)), (3, .int .i64 (lo + k : Nat))],
      [(0, .cells [sum1Cl h r a n]), (1, .cells [.int .i64 0, .int .i64 0]), (2, .cells [.int .i64 (W k).1, .int .i64 (W k).2]), (4, .loop ⟨.ready, none, 20, [(3, .vptr 0 0), (4, .vptr 1 0), (5, .vptr 2 0)], #[9], asgW, bodW⟩)], 5⟩)
    (fun k => k ≤ hi - lo + 1) (fun k => hi - lo + 1 - k) 0 (Nat.zero_le _) ?_ ?_
  · refine Wk.trans (Wk.le ?_ hl) (Wk.loopEnv (id := 4) (n := 5) [(3, .vptr 0 0), (4, .vptr 1 0), (5, .vptr 2 0)] rfl ⟨rfl, rfl, rfl, rfl, rfl, rfl, trivial⟩)
    exact St.le.of ⟨by kernel_rfl, rfl, by kernel_rfl, rfl, e0, rfl, trivial⟩ ⟨by kernel_rfl, (by decide : (0 : Nat) < 5), rfl, by kernel_rfl, (by decide : (1 : Nat) < 5), rfl, Eq.trans (by kernel_rfl) o0, (by decide : (2 : Nat) < 5), rfl, by kernel_rfl, (by decide : (4 : Nat) < 5), rfl, trivial⟩
  · intro k hk
    by_cases hlt : k < hi - lo + 1
    · have d13 : decide (((lo + k : Nat) : Int) ≤ h.lHi) = true := decide_eq_true (by omega)
      have ek := congrArg (AV.int .i64) (succ64 (k := lo + k) (by omega))
      exact ACode.vc (.br 13 true <| .draw 4 <| .call (encS (S (lo + k))) <| .call (encS (W (k + 1))) .nil) hn hl (.roundW .cl)
        ⟨d13, by kernel_rfl, mixed, by kernel_rfl, s1 k hlt, by kernel_rfl, sJ k, k + 1, hlt, mu1 hlt,
          Wk.le (St.le.of ⟨by kernel_rfl, rfl, by kernel_rfl, rfl, Eq.trans (by kernel_rfl) ek, rfl, trivial⟩ ⟨by kernel_rfl, (by decide : (0 : Nat) < 5), rfl, by kernel_rfl, (by decide : (1 : Nat) < 5), rfl, by kernel_rfl, (by decide : (2 : Nat) < 5), rfl, by kernel_rfl, (by decide : (4 : Nat) < 5), rfl, trivial⟩) hl⟩
    · have hk' : k = hi - lo + 1 := by omega
      subst hk'
      have d13 : decide (((lo + (hi - lo + 1) : Nat) : Int) ≤ h.lHi) = false := decide_eq_false (by omega)
      have q := eqNone (W (hi - lo + 1)).1 (W (hi - lo + 1)).2
      rw [notNone (hnn _ (by omega))] at q
      exact ACode.vc (.br 13 false .nil) hn hl (.roundW .cl) ⟨d13, _, .refl _, .val 17 (.bool false) [] .nil, Eq.trans (by kernel_rfl) q, trivial, rfl⟩
end Go.Proofs.YtcdcgbgmpmaipaaDoor

import Derived.Test.YtcdcgbgmpmaipaaDoorD1
import Derived.Test.YtcdcgbgmpmaipaaDoorBs3
namespace Go.Proofs.YtcdcgbgmpmaipaaDoor
open Go Go.Am
set_option maxRecDepth 100000
def dtL (h : Hd) (r : List Int) : List AV := [.int .i64 h.bLo, .int .i64 h.bHi, .int .i64 h.fLo, .int .i64 h.fHi, .int .i64 h.jLo, .int .i64 h.jHi, .int .i64 h.lLo, .int .i64 h.lHi, .int .i64 h.dr, encR r]
def encDt (h : Hd) (r : List Int) : AV := .agg (dtL h r)
def mCl (b : Int) (h : Hd) (r : List Int) (lag : Nat) : AV := .fn (.func 86) [] [.cptr [.int .i64 b], .cptr (dtL h r), .cptr [.int .i64 lag]]
def h1Cl (f : Int) (m : AV) : AV := .fn (.func 79) [] [.cptr [.int .i64 f], .cptr [m]]
def hCl (h : Hd) (r : List Int) (lag : Nat) : AV := .fn (.func 80) [] [.cptr [h1Cl (h.jLo * h.fLo) (mCl (h.bLo - h.dr) h r lag), h1Cl (h.jHi * h.fHi) (mCl (h.bHi + h.dr) h r lag)]]
def endLo : AV := .agg [.fn (.func 82) [] [], .fn (.func 83) [] []]
def endHi : AV := .agg [.fn (.func 84) [] [], .fn (.func 85) [] []]
def endsV : AV := .agg [.fn (.func 82) [] [], .fn (.func 83) [] [], .fn (.func 84) [] [], .fn (.func 85) [] []]
theorem ends_spec : APure Tryd.prog 77 [] endsV := APure.vc Tryd.func77 rfl .nil rfl rfl ⟨trivial, rfl⟩
theorem end1_spec (a b : Int) : APure Tryd.prog 82 [.agg [.int .i64 a, .int .i64 b]] (.int .i64 a) := APure.vc Tryd.func82 rfl .nil rfl rfl ⟨trivial, rfl⟩
theorem end2_spec (a : Int) : APure Tryd.prog 83 [.int .i64 a] (.int .i64 a) := APure.vc Tryd.func83 rfl .nil rfl rfl ⟨trivial, rfl⟩
theorem end3_spec (a b : Int) : APure Tryd.prog 84 [.agg [.int .i64 a, .int .i64 b]] (.int .i64 b) := APure.vc Tryd.func84 rfl .nil rfl rfl ⟨trivial, rfl⟩
theorem end4_spec (a : Int) : APure Tryd.prog 85 [.int .i64 a] (.int .i64 (IntKind.i64.wrap (0 - a))) := APure.vc Tryd.func85 rfl .nil rfl rfl ⟨trivial, rfl⟩
theorem missing1_spec (b : Int) (h : Hd) (r : List Int) (lag i : Nat) (ho : ReadsOk r 1000000) (hi : i + lag < r.length) (hb : -10000000 ≤ b ∧ b ≤ 10000000) :
    APure Tryd.prog 86 [.int .i64 i, .cptr [.int .i64 b], .cptr (dtL h r), .cptr [.int .i64 lag]] (.int .i64 (max 0 (b - rd r (i + lag)))) := by
  have hlen := ho.len
  have ea : IntKind.i64.wrap ((i : Int) + (lag : Int)) = ((i + lag : Nat) : Int) := by rw [wrap64 (by omega) (by omega)]; omega
  have hx := rd_get hi
  have hr := ho.el _ (List.mem_of_getElem? hx)
  have e2 : IntKind.i64.wrap (b - rd r (i + lag)) = b - rd r (i + lag) := wrap64 (by omega) (by omega)
  exact APure.vc Tryd.func86 rfl (.draw 8 <| .cells (encI (rd r (i + lag))) .nil) rfl rfl
    ⟨by kernel_rfl, mixed, by kernel_rfl, idxW ea hx, by kernel_rfl, rI (by rw [e2, ifmax])⟩
theorem missingLo_spec (h : Hd) (r : List Int) (lag : Nat) (ho : HoodOk h) : APure Tryd.prog 78 [encDt h r, .int .i64 lag, endLo] (mCl (h.bLo - h.dr) h r lag) := by
  have hb := ho.b
  have hd := ho.d
  have e : IntKind.i64.wrap (h.bLo - h.dr) = h.bLo - h.dr := wrap64 (by omega) (by omega)
  rw [← e]
  exact APure.vcT Tryd.func78 (.draw 14 <| .call (.int .i64 h.bLo) <| .call (.int .i64 h.dr) .nil) rfl rfl
    ⟨by kernel_rfl, mixed, by kernel_rfl, end1_spec _ _, end2_spec _, by kernel_rfl, [16, 0, 1], by kernel_rfl⟩
theorem missingHi_spec (h : Hd) (r : List Int) (lag : Nat) (ho : HoodOk h) : APure Tryd.prog 78 [encDt h r, .int .i64 lag, endHi] (mCl (h.bHi + h.dr) h r lag) := by
  have hb := ho.b
  have hd := ho.d
  have e1 : IntKind.i64.wrap (0 - h.dr) = 0 - h.dr := wrap64 (by omega) (by omega)
  have e : IntKind.i64.wrap (h.bHi - IntKind.i64.wrap (0 - h.dr)) = h.bHi + h.dr := by rw [e1, wrap64 (by omega) (by omega)]; omega
  rw [← e]
  exact APure.vcT Tryd.func78 (.draw 14 <| .call (.int .i64 h.bHi) <| .call (.int .i64 (IntKind.i64.wrap (0 - h.dr))) .nil) rfl rfl
    ⟨by kernel_rfl, mixed, by kernel_rfl, end3_spec _ _, end4_spec _, by kernel_rfl, [16, 0, 1], by kernel_rfl⟩
theorem heat1_spec (f b : Int) (h : Hd) (r : List Int) (lag i : Nat) (ho : ReadsOk r 1000000) (hi : i + lag < r.length) (hb : -10000000 ≤ b ∧ b ≤ 10000000) (hf : 0 ≤ f ∧ f ≤ 300000000) :
    APure Tryd.prog 79 [.int .i64 i, .cptr [.int .i64 f], .cptr [mCl b h r lag]] (.int .i64 (f * max 0 (b - rd r (i + lag)))) := by
  have s := missing1_spec b h r lag i ho hi hb
  have hr := rd_rng ho (by omega) (i + lag)
  have hm : 0 ≤ max 0 (b - rd r (i + lag)) ∧ max 0 (b - rd r (i + lag)) ≤ 10000000 := by omega
  have hp := mul_rng hf.1 hf.2 hm.1 hm.2
  have e2 : IntKind.i64.wrap (f * max 0 (b - rd r (i + lag))) = f * max 0 (b - rd r (i + lag)) := wrap64 (by omega) (by omega)
  exact APure.vc Tryd.func79 rfl (.draw 4 <| .call (.int .i64 (max 0 (b - rd r (i + lag)))) .nil) rfl rfl
    ⟨by kernel_rfl, mixed, by kernel_rfl, s, by kernel_rfl, rI e2⟩
theorem heat2_spec (h : Hd) (r : List Int) (lag i : Nat) (ho : Ok h r) (hi : i + lag < r.length) :
    APure Tryd.prog 80 [.int .i64 i, .cptr [h1Cl (h.jLo * h.fLo) (mCl (h.bLo - h.dr) h r lag), h1Cl (h.jHi * h.fHi) (mCl (h.bHi + h.dr) h r lag)]] (encS (aLo h r lag i, aHi h r lag i)) := by
  have hb := ho.h.b
  have hd := ho.h.d
  have hf := fac_rng ho.h
  have s1 := heat1_spec (h.jLo * h.fLo) (h.bLo - h.dr) h r lag i ho.r hi (by omega) (by omega)
  have s2 := heat1_spec (h.jHi * h.fHi) (h.bHi + h.dr) h r lag i ho.r hi (by omega) (by omega)
  exact APure.vc Tryd.func80 rfl (.draw 7 <| .call (.int .i64 (aLo h r lag i)) <| .call (.int .i64 (aHi h r lag i)) .nil) rfl rfl
    ⟨by kernel_rfl, mixed, by kernel_rfl, s1, by kernel_rfl, s2, trivial, rfl⟩
theorem lags_spec (h : Hd) (r : List Int) : APure Tryd.prog 65 [encDt h r] (.fn (.func 76) [] [.cptr (dtL h r)]) :=
  APure.vcT Tryd.func65 .nil rfl rfl ⟨[0], by kernel_rfl⟩
theorem only_spec (n : Int) : APure Tryd.prog 81 [.int .i64 n] (encS (n, n)) := APure.vc Tryd.func81 rfl .nil rfl rfl ⟨trivial, rfl⟩
theorem seconds_spec (h : Hd) (r : List Int) (ho : Ok h r) : APure Tryd.prog 41 [encDt h r] (.int .i64 (secN h r)) := by
  have hl := ho.h.l
  have hr := ho.r.len
  have e2 : IntKind.i64.wrap (((r.map encI).length : Int) - h.lHi) = (r.length : Int) - h.lHi := by rw [List.length_map, wrap64 (by omega) (by omega)]
  exact APure.vc Tryd.func41 rfl .nil rfl rfl (rI (by rw [e2, ifmax]; unfold secN; omega))
theorem join_spec (a b : Sn) : APure Tryd.prog 69 [encS a, encS b] (encS (joinP a b)) := by
  obtain ⟨a1, a2⟩ := a
  obtain ⟨b1, b2⟩ := b
  have q : ((aeqT Tryd.prog 6 23 (.agg [.int .i64 a1, .int .i64 a2]) (.agg [.int .i64 (-1), .int .i64 (-1)])).map AV.bool).map (fun v => (⟨v, []⟩ : Out)) = some ⟨.bool (a1 == -1 && a2 == -1), []⟩ := by rw [eqSpan]; rfl
  by_cases hn : (a1, a2) = (-1, -1)
  · have e : joinP (a1, a2) (b1, b2) = (b1, b2) := by simp [joinP, hn]
    obtain ⟨rfl, rfl⟩ := Prod.mk.inj hn
    rw [e]
    exact APure.vc Tryd.func69 rfl (.val 7 (.bool true) [] .nil) rfl rfl ⟨Eq.trans (by kernel_rfl) q, trivial, rfl⟩
  · have e : joinP (a1, a2) (b1, b2) = (min a1 b1, max a2 b2) := by simp [joinP, hn]
    have e2 : (a1 == -1 && a2 == -1) = false := by
      cases h1 : (a1 == -1) <;> cases h2 : (a2 == -1) <;> simp at h1 h2 <;> simp
      exact hn (by rw [h1, h2])
    rw [e2] at q
    rw [e]
    exact APure.vc Tryd.func69 rfl (.val 7 (.bool false) [] .nil) rfl rfl ⟨Eq.trans (by kernel_rfl) q, rS (ifmin b1 a1) (ifmax b2 a2)⟩
end Go.Proofs.YtcdcgbgmpmaipaaDoor
namespace Go.Proofs.YtcdcgbgmpmaipaaDoor
open Go Go.Am
set_option maxRecDepth 100000
/-- The array of closures, as it stands behind k rounds. -/
def htH (h : Hd) (r : List Int) (lag : Nat) : Nat → AHeap
  | 0 => [(0, .cells (dtL h r)), (1, .cells [.nilFunc, .nilFunc])]
  | 1 => [(0, .cells (dtL h r)), (1, .cells [.fn (.func 79) [] [.vptr 21 0, .vptr 22 0], .nilFunc]), (21, .cells [.int .i64 (h.jLo * h.fLo)]), (22, .cells [mCl (h.bLo - h.dr) h r lag])]
  | _ => [(0, .cells (dtL h r)), (1, .cells [.fn (.func 79) [] [.vptr 21 0, .vptr 22 0], .fn (.func 79) [] [.vptr 42 0, .vptr 43 0]]), (21, .cells [.int .i64 (h.jLo * h.fLo)]), (22, .cells [mCl (h.bLo - h.dr) h r lag]),
      (42, .cells [.int .i64 (h.jHi * h.fHi)]), (43, .cells [mCl (h.bHi + h.dr) h r lag])]
def htN : Nat → Nat
  | 0 => 2
  | 1 => 23
  | _ => 44
def htS (h : Hd) (r : List Int) (lag k : Nat) : St := ⟨[(1, .int .i64 lag), (2, .vptr 0 0), (5, .vptr 1 0), (10, endsV), (11, .int .i64 k)], htH h r lag k, htN k⟩
theorem heat_spec (h : Hd) (r : List Int) (lag : Nat) (ho : HoodOk h) : APure Tryd.prog 67 [encDt h r, .int .i64 lag] (hCl h r lag) := by
  have hf := fac_rng ho
  have sM1 := missingLo_spec h r lag ho
  have sM2 := missingHi_spec h r lag ho
  have w1 : IntKind.i64.wrap (h.jLo * h.fLo) = h.jLo * h.fLo := wrap64 (by omega) (by omega)
  have w2 : IntKind.i64.wrap (h.jHi * h.fHi) = h.jHi * h.fHi := wrap64 (by omega) (by omega)
  refine APure.vcT Tryd.func67 (.call endsV .loop) rfl rfl ⟨ends_spec, ?_⟩
  intro g hn hl
  replace hn : g.n = 37 := hn
  replace hl : g.low 0 := hl
  refine acode_while (fun k : Nat => htS h r lag k) (fun k => k ≤ 2) (fun k => 2 - k) 0 (Nat.zero_le _) ?_ (fun _ _ => hl.mono (Nat.zero_le _)) ?_
  · exact St.le.of ⟨rfl, rfl, rfl, rfl, rfl, rfl, rfl, rfl, rfl, rfl, trivial⟩ ⟨rfl, (by decide : (0 : Nat) < 2), rfl, rfl, (by decide : (1 : Nat) < 2), rfl, trivial⟩
  · intro k hk
    have hk' : k = 0 ∨ k = 1 ∨ k = 2 := by omega
    rcases hk' with rfl | rfl | rfl
    · have eo : some (AObj.cells [.int .i64 (IntKind.i64.wrap (h.jLo * h.fLo))]) = some (.cells [.int .i64 (h.jLo * h.fLo)]) := by rw [w1]
      exact ACode.vc (.draw 19 <| .call (.int .i64 h.jLo) <| .call (.int .i64 h.fLo) <| .call (mCl (h.bLo - h.dr) h r lag) .nil) hn hl (.round .cl)
        ⟨by kernel_rfl, mixed, by kernel_rfl, end1_spec _ _, end1_spec _ _, sM1, by kernel_rfl, 1, (by decide : (1 : Nat) ≤ 2), (by decide : 2 - 1 < 2 - 0),
          St.le.of ⟨rfl, rfl, rfl, rfl, rfl, rfl, rfl, rfl, rfl, rfl, trivial⟩ ⟨rfl, (by decide : (0 : Nat) < 23), rfl, rfl, (by decide : (1 : Nat) < 23), rfl, eo, (by decide : (21 : Nat) < 23), rfl, rfl, (by decide : (22 : Nat) < 23), rfl, trivial⟩⟩
    · have eo : some (AObj.cells [.int .i64 (IntKind.i64.wrap (h.jHi * h.fHi))]) = some (.cells [.int .i64 (h.jHi * h.fHi)]) := by rw [w2]
      exact ACode.vc (.draw 19 <| .call (.int .i64 h.jHi) <| .call (.int .i64 h.fHi) <| .call (mCl (h.bHi + h.dr) h r lag) .nil) hn hl (.round .cl)
        ⟨by kernel_rfl, mixed, by kernel_rfl, end3_spec _ _, end3_spec _ _, sM2, by kernel_rfl, 2, (by decide : (2 : Nat) ≤ 2), (by decide : 2 - 2 < 2 - 1),
          St.le.of ⟨rfl, rfl, rfl, rfl, rfl, rfl, rfl, rfl, rfl, rfl, trivial⟩ ⟨rfl, (by decide : (0 : Nat) < 44), rfl, rfl, (by decide : (1 : Nat) < 44), rfl, rfl, (by decide : (21 : Nat) < 44), rfl, rfl, (by decide : (22 : Nat) < 44), rfl,
            eo, (by decide : (42 : Nat) < 44), rfl, rfl, (by decide : (43 : Nat) < 44), rfl, trivial⟩⟩
    · exact ACode.vc (.nil) hn hl (.round .cl) ⟨_, .refl _, .nil, [1, 21, 22, 42, 43], by kernel_rfl⟩
end Go.Proofs.YtcdcgbgmpmaipaaDoor

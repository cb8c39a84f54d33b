import Derived.Test.YtcdcgbgmpmaipaaDoorD2
namespace Go.Proofs.YtcdcgbgmpmaipaaDoor
open Go Go.Am
set_option maxRecDepth 100000
/-- The array of closures, as it stands behind k rounds. -/
def htH (h : Hd) (r : List Int) (lag : Nat) : Nat → AHeap
  | 0 => [(0, .cells (dtL h r)), (1, .cells [.nilFunc, .nilFunc])]
  | 1 => [(0, .cells (dtL h r)), (1, .cells [.fn (.func 79) [] [.vptr 21 0, .vptr 22 0], .nilFunc]), (21, .cells [.int .i64 (h.jLo * h.fLo)]), (22, .cells [mCl (h.bLo - h.dr) h r lag])]
  | _ => [(0, .cells (dtL h r)), (1, .cells [.fn (.func 79) [] [.vptr 21 0, .vptr 22 0], .fn (.func 79) [] [.vptr 42 0, .vptr 43 0]]), (21, .cells [.int .i64 (h.jLo * h.fLo)]), (22, .cells [mCl (h.bLo - h.dr) h r lag]),
      (42, .cells [.int .i64 (h.jHi * h.fHi)]), (43, .cells [mCl (h.bHi + h.dr) h r lag])]
def htN : Nat → Nat
  | 0 => 2
  | 1 => 23
  | _ => 44
def htS (h : Hd) (r : List Int) (lag k : Nat) : St := ⟨[(1, .int .i64 lag), (2, .vptr 0 0), (5, .vptr 1 0), (10, endsV), (11, .int .i64 k)], htH h r lag k, htN k⟩
theorem heat_spec (h : Hd) (r : List Int) (lag : Nat) (ho : HoodOk h) : APure Tryd.prog 67 [encDt h r, .int .i64 lag] (hCl h r lag) := by
  have hf := fac_rng ho
  have sM1 := missingLo_spec h r lag ho
  have sM2 := missingHi_spec h r lag ho
  have w1 : IntKind.i64.wrap (h.jLo * h.fLo) = h.jLo * h.fLo := wrap64 (by omega) (by omega)
  have w2 : IntKind.i64.wrap (h.jHi * h.fHi) = h.jHi * h.fHi := wrap64 (by omega) (by omega)
  refine APure.vcT Tryd.func67 (.call endsV .loop) rfl rfl ⟨ends_spec, ?_⟩
  intro g hn hl
  replace hn : g.n = 37 := hn
  replace hl : g.low 0 := hl
  refine acode_while (fun k : Nat => htS h r lag k) (fun k => k ≤ 2) (fun k => 2 - k) 0 (Nat.zero_le _) ?_ (fun _ _ => hl.mono (Nat.zero_le _)) ?_
  · exact St.le.of ⟨rfl, rfl, rfl, rfl, rfl, rfl, rfl, rfl, rfl, rfl, trivial⟩ ⟨rfl, (by decide : (0 : Nat) < 2), rfl, rfl, (by decide : (1 : Nat) < 2), rfl, trivial⟩
  · intro k hk
    have hk' : k = 0 ∨ k = 1 ∨ k = 2 := by omega
    rcases hk' with rfl | rfl | rfl
    · have eo : some (AObj.cells [.int .i64 (IntKind.i64.wrap (h.jLo * h.fLo))]) = some (.cells [.int .i64 (h.jLo * h.fLo)]) := by rw [w1]
      exact ACode.vc (.draw 19 <| .call (.int .i64 h.jLo) <| .call (.int .i64 h.fLo) <| .call (mCl (h.bLo - h.dr) h r lag) .nil) hn hl (.round .cl)
        ⟨by kernel_rfl, mixed, by kernel_rfl, end1_spec _ _, end1_spec _ _, sM1, by kernel_rfl, 1, (by decide : (1 : Nat) ≤ 2), (by decide : 2 - 1 < 2 - 0),
          St.le.of ⟨rfl, rfl, rfl, rfl, rfl, rfl, rfl, rfl, rfl, rfl, trivial⟩ ⟨rfl, (by decide : (0 : Nat) < 23), rfl, rfl, (by decide : (1 : Nat) < 23), rfl, eo, (by decide : (21 : Nat) < 23), rfl, rfl, (by decide : (22 : Nat) < 23), rfl, trivial⟩⟩
    · have eo : some (AObj.cells [.int .i64 (IntKind.i64.wrap (h.jHi * h.fHi))]) = some (.cells [.int .i64 (h.jHi * h.fHi)]) := by rw [w2]
      exact ACode.vc (.draw 19 <| .call (.int .i64 h.jHi) <| .call (.int .i64 h.fHi) <| .call (mCl (h.bHi + h.dr) h r lag) .nil) hn hl (.round .cl)
        ⟨by kernel_rfl, mixed, by kernel_rfl, end3_spec _ _, end3_spec _ _, sM2, by kernel_rfl, 2, (by decide : (2 : Nat) ≤ 2), (by decide : 2 - 2 < 2 - 1),
          St.le.of ⟨rfl, rfl, rfl, rfl, rfl, rfl, rfl, rfl, rfl, rfl, trivial⟩ ⟨rfl, (by decide : (0 : Nat) < 44), rfl, rfl, (by decide : (1 : Nat) < 44), rfl, rfl, (by decide : (21 : Nat) < 44), rfl, rfl, (by decide : (22 : Nat) < 44), rfl,
            eo, (by decide : (42 : Nat) < 44), rfl, rfl, (by decide : (43 : Nat) < 44), rfl, trivial⟩⟩
    · exact ACode.vc (.nil) hn hl (.round .cl) ⟨_, .refl _, .nil, [1, 21, 22, 42, 43], by kernel_rfl⟩
end Go.Proofs.YtcdcgbgmpmaipaaDoor

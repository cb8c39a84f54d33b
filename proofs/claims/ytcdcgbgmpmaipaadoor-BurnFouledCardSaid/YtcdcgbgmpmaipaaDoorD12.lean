import Derived.Test.YtcdcgbgmpmaipaaDoorD11
import Derived.Test.YtcdcgbgmpmaipaaDoorD6
namespace Go.Proofs.YtcdcgbgmpmaipaaDoor
open Go Go.Am
set_option maxRecDepth 100000
set_option maxHeartbeats 4000000
/-! ### The chapter's examples -/
def exH : Hd := ⟨209000, 209500, 100, 110, 17, 18, 1, 2, 0⟩
def exR : List Int := [209500, 209200, 208000, 207000, 209000]
def exL : Lp := ⟨1000, 800⟩
def exT : List Int := [900, 600, 850, 400]
theorem vE {f : Nat} {xs : List AV} {p q : Sn × Int} (h : APure Tryd.prog f xs (encE p)) (e : p = q) : APure Tryd.prog f xs (encE q) := e ▸ h
theorem vF {f : Nat} {xs : List AV} {p q : Sn × Int × Int} (h : APure Tryd.prog f xs (encF p)) (e : p = q) : APure Tryd.prog f xs (encF q) := e ▸ h
theorem kSum : APure Tryd.prog 14 [encHd exH, encR exR, .int .i64 0, .int .i64 3] (encE ((5100000, 8910000), 0)) := vE (Sum_spec _ _ _ _) (by decide +kernel)
theorem kHeat (i : Int) (p : Sn × Int) (h : heatI exH exR i = p) : APure Tryd.prog 12 [encHd exH, encR exR, .int .i64 i] (encE p) := vE (Heat_spec _ _ _) h
theorem kFirst (i : Int) (p : Sn × Int × Int) (h : firstI exH exR i = p) : APure Tryd.prog 16 [encHd exH, encR exR, .int .i64 i] (encF p) := vF (First_spec _ _ _) h
theorem kClean (i : Int) (p : Sn × Int) (h : cleanI exL exT i = p) : APure Tryd.prog 30 [encLp exL, encR exT, .int .i64 i] (encE p) := vE (Clean_spec _ _ _) h
theorem kDark (i : Int) (p : Sn × Int) (h : darkI exL exT i = p) : APure Tryd.prog 27 [encLp exL, encR exT, .int .i64 i] (encE p) := vE (Dark_spec _ _ _) h
theorem kSmoke : APure Tryd.prog 29 [encLp exL, encR exT, .int .i64 0, .int .i64 4] (encE ((795, 1250), 0)) := vE (Smoke_spec _ _ _ _) (by decide +kernel)
theorem span_spec (a b : Int) : APure Tryd.prog 35 [.int .i64 a, .int .i64 b] (encS (a, b)) := APure.vc Tryd.func35 rfl .nil rfl rfl ⟨trivial, rfl⟩
theorem reads_spec : APure Tryd.prog 26 [] (encR exR) := .runK .nil 100 30 (by kernel_rfl)
theorem lights_spec : APure Tryd.prog 28 [] (encR exT) := .runK .nil 100 30 (by kernel_rfl)
theorem hood_spec : APure Tryd.prog 24 [] (encHd exH) := .runK .nil 100 30 (by kernel_rfl)
theorem lamp_spec : APure Tryd.prog 25 [] (encLp exL) := .runK .nil 100 30 (by kernel_rfl)
theorem hot1 : APure Tryd.prog 22 [.int .i64 1, .int .i64 1700000, .int .i64 4950000] (.bool true) :=
  .runK (.cons hood_spec <| .cons reads_spec <| .cons (kHeat 1 ((1700000, 4950000), 0) (by decide +kernel)) <| .cons (span_spec 1700000 4950000) .nil) 100 30 (by kernel_rfl)
theorem hot0 : APure Tryd.prog 22 [.int .i64 0, .int .i64 0, .int .i64 2970000] (.bool true) :=
  .runK (.cons hood_spec <| .cons reads_spec <| .cons (kHeat 0 ((0, 2970000), 0) (by decide +kernel)) <| .cons (span_spec 0 2970000) .nil) 100 30 (by kernel_rfl)
theorem hot2 : APure Tryd.prog 22 [.int .i64 2, .int .i64 0, .int .i64 4950000] (.bool true) :=
  .runK (.cons hood_spec <| .cons reads_spec <| .cons (kHeat 2 ((0, 4950000), 0) (by decide +kernel)) <| .cons (span_spec 0 4950000) .nil) 100 30 (by kernel_rfl)
theorem rea1 : APure Tryd.prog 56 [.int .i64 3400000, .int .i64 1, .int .i64 2, .int .u8 2] (.bool true) :=
  .runK (.cons hood_spec <| .cons reads_spec <| .cons (kFirst 3400000 ((1, 2), 2, 0) (by decide +kernel)) <| .cons (span_spec 1 2) .nil) 100 30 (by kernel_rfl)
theorem rea2 : APure Tryd.prog 56 [.int .i64 4000000, .int .i64 1, .int .i64 2, .int .u8 1] (.bool true) :=
  .runK (.cons hood_spec <| .cons reads_spec <| .cons (kFirst 4000000 ((1, 2), 1, 0) (by decide +kernel)) <| .cons (span_spec 1 2) .nil) 100 30 (by kernel_rfl)
theorem rea3 : APure Tryd.prog 56 [.int .i64 5000000, .int .i64 0, .int .i64 0, .int .u8 0] (.bool true) :=
  .runK (.cons hood_spec <| .cons reads_spec <| .cons (kFirst 5000000 ((0, 0), 0, 0) (by decide +kernel)) <| .cons (span_spec 0 0) .nil) 100 30 (by kernel_rfl)
theorem fou (i least lo hi : Int) (h1 : cleanI exL exT i = ((least, 1000), 0)) (h2 : darkI exL exT i = ((lo, hi), 0)) (hr : exRunK Tryd.prog [⟨25, [], encLp exL, false⟩, ⟨28, [], encR exT, false⟩, ⟨30, [encLp exL, encR exT, .int .i64 i], encE ((least, 1000), 0), false⟩,
    ⟨27, [encLp exL, encR exT, .int .i64 i], encE ((lo, hi), 0), false⟩, ⟨35, [.int .i64 least, .int .i64 1000], encS (least, 1000), false⟩, ⟨35, [.int .i64 lo, .int .i64 hi], encS (lo, hi), false⟩] 100 30 23 [.int .i64 i, .int .i64 least, .int .i64 lo, .int .i64 hi] = some (.bool true)) :
    APure Tryd.prog 23 [.int .i64 i, .int .i64 least, .int .i64 lo, .int .i64 hi] (.bool true) :=
  .runK (.cons lamp_spec <| .cons lights_spec <| .cons (kClean i _ h1) <| .cons (kDark i _ h2) <| .cons (span_spec least 1000) <| .cons (span_spec lo hi) .nil) 100 30 hr
theorem alive_spec : APure Tryd.prog 21 [] (.bool true) :=
  .runK (.cons hood_spec <| .cons reads_spec <| .cons lamp_spec <| .cons lights_spec <| .cons (span_spec 5100000 8910000) <| .cons (span_spec 795 1250) <| .cons kSum <| .cons kSmoke <| .cons hot1 <| .cons rea1 <| .cons rea2 <| .cons rea3 <|
    .cons (fou 1 850 295 400 (by decide +kernel) (by decide +kernel) (by kernel_rfl)) .nil) 100 30 (by kernel_rfl)
theorem APure.fresh {P : Program} {f : Nat} {xs : List AV} {r : AV} (h : APure P f xs r) (hf : r.flat = true) : APureF P f xs r := fun κ N w cargs h1 h2 h3 =>
  (h κ N w cargs h1 h2 h3).mono fun _e _w' ⟨v, e1, e2, e3, e4⟩ => ⟨v, e1, e2, e3, VRel.ofFlat e4 hf⟩
def exHl : Hd := ⟨209000, 209500, 100, 110, 17, 18, 1, 31, 0⟩
def exLd : Lp := ⟨1000, 0⟩
theorem kCheck1 : APure Tryd.prog 18 [encHd exHl, encR exR] (.int .i64 40) := by
  have := Check_spec exHl exR
  rwa [show checkI exHl exR = 40 by decide +kernel] at this
theorem kCheck2 : APure Tryd.prog 18 [encHd exH, encR [-1]] (.int .i64 41) := by
  have := Check_spec exH [-1]
  rwa [show checkI exH [-1] = 41 by decide +kernel] at this
theorem kSum2 : APure Tryd.prog 14 [encHd exH, encR exR, .int .i64 2, .int .i64 1] (encE ((0, 0), 2)) := vE (Sum_spec _ _ _ _) (by decide +kernel)
theorem kSmoke2 : APure Tryd.prog 29 [encLp exLd, encR exT, .int .i64 0, .int .i64 1] (encE ((0, 0), 42)) := vE (Smoke_spec _ _ _ _) (by decide +kernel)
theorem kClean2 : APure Tryd.prog 30 [encLp exL, encR [1001], .int .i64 0] (encE ((0, 0), 41)) := vE (Clean_spec _ _ _) (by decide +kernel)
theorem examples_spec : APure Tryd.prog 4 [] (.bool true) :=
  .runK (.cons alive_spec <| .cons hot0 <| .cons hot2 <| .cons (fou 0 900 0 100 (by decide +kernel) (by decide +kernel) (by kernel_rfl)) <| .cons (fou 2 850 0 150 (by decide +kernel) (by decide +kernel) (by kernel_rfl)) <|
    .cons (fou 3 800 500 600 (by decide +kernel) (by decide +kernel) (by kernel_rfl)) <| .cons hood_spec <| .cons reads_spec <| .cons lamp_spec <| .cons lights_spec <| .cons (kHeat 3 ((0, 0), 2) (by decide +kernel)) <| .cons kSum2 <| .cons (kFirst 0 ((0, 0), 0, 2) (by decide +kernel)) <|
    .cons (kDark 4 ((0, 0), 2) (by decide +kernel)) <| .cons kSmoke2 <| .consF (APure.fresh kClean2 rfl) <| .cons kCheck1 <| .consF (APure.fresh kCheck2 rfl) .nil) 100 30 (by kernel_rfl)
end Go.Proofs.YtcdcgbgmpmaipaaDoor

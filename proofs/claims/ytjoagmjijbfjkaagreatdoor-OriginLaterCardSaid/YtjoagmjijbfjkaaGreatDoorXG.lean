import Derived.Test.YtjoagmjijbfjkaaGreatDoorXE
import Derived.Test.YtjoagmjijbfjkaaGreatDoorAm25
/-
  THE FIRST TRUTH OF A ROOM AND A MINUTE: Truth.
-/
namespace Go.Proofs.YtjoagmjijbfjkaaGreatDoor
open Go Go.Am
set_option maxRecDepth 100000
set_option maxHeartbeats 4000000
def encTv (o : Option (List Int)) : AV := match o with
  | none => .tup [.nil, .bool false]
  | some ds => .tup [encR ds, .bool true]
theorem set_lt {s : Scn} (hs : ScOk s) : allN s < 4096 := by
  have p8 : 2 ^ s.marks.length ≤ 2 ^ 8 := Nat.pow_le_pow_right (by decide) hs.ml
  have : (2 : Nat) ^ 8 = 256 := by decide
  unfold allN; omega
/-- What is answered, nil as a list of nothing. -/
theorem VRel.tupNil {κ : Nat → Option Nat} {av : Nat → Prop} {w : World} {v : Value} {n : Nat} {x : AV} (h : VRel κ av w (.tup [.nil, x]) v) : VRel κ av w (.tup [.lst n [], x]) v := by
  cases h with
  | tup cells vs u hl h1 h2 =>
    refine .tup _ vs u hl ?_ ?_
    · intro i c hc
      cases i with
      | zero => exact h1 0 .nil rfl
      | succ i => exact h1 (i + 1) c hc
    · intro i c hc
      cases i with
      | zero => cases hc; exact VRel.nilLst (h2 0 .nil rfl)
      | succ i => exact h2 (i + 1) c hc
theorem APure.weak {P : Program} {f : FuncId} {args : List AV} {r r' : AV} (h : APure P f args r) (hr : ∀ {κ : Nat → Option Nat} {av : Nat → Prop} {w : World} {v : Value}, VRel κ av w r v → VRel κ av w r' v) : APure P f args r' := fun κ N w cargs hN hg hc =>
  (h κ N w cargs hN hg hc).mono fun _e _w' ⟨v, h1, h2, h3, h4⟩ => ⟨v, h1, h2, h3, hr h4⟩
def encLe (L : List Int) (E : Int) : AV := .tup [encR L, .int .i64 E]
theorem rm_0 {s : Scn} {room : Int} (h : rmE s room = 0) : scB s = true ∧ isR s.rooms room = true := by
  unfold rmE at h
  split at h
  · rename_i h1
    split at h
    · rename_i h2; exact ⟨h1, h2⟩
    · cases h
  · cases h
theorem rm_nat {s : Scn} (hs : ScOk s) {room : Int} (h : isR s.rooms room = true) : room = (room.toNat : Int) ∧ room.toNat < nR s := by
  have := inB_iff.1 h
  have := nR_eq hs
  omega
end Go.Proofs.YtjoagmjijbfjkaaGreatDoor

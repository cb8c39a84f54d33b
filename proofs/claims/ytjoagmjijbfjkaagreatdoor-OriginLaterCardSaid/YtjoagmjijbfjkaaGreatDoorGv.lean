/-
  WHAT THE PROGRAM'S PACKAGE-LEVEL VARIABLES HOLD, where a row lists them: they are only read.
-/
import Derived.Test.YtjoagmjijbfjkaaGreatDoorAm1
namespace Go.Am
/-- The address of a package-level variable, as an abstract value. -/
def gv (g : Nat) : AV := (match g with | 0 => .cptr [.int .i64 0, .int .i64 600] | 1 => .cptr [.int .i64 1, .int .i64 0] | 2 => .cptr [.int .i64 0, .bool true] | _ => .any)
def GlobOk (av : Nat → Prop) (w : World) : Prop := ∀ i, VRel nok av w (gv i) (.pointer (some ⟨i, 0, none⟩))
theorem GlobOk.le {av av' : Nat → Prop} {w : World} (h : GlobOk av w) (hav : ∀ b, av' b → av b) : GlobOk av' w := fun i =>
  (h i).mono (fun _ _ h => h) (.refl w) (fun b _ hb => hav b hb) (fun _ _ _ => rfl)
end Go.Am

/-
  COPIES OF MAPS: the library's maps.Clone, by the shelf's contract.
-/
import Derived.Test.YtmdhgkfjlphliaaTy
import Derived.Test.YtmdhgkfjlphliaaAm17
import Derived.Shelf.SlMaps.Clone
namespace Go.Proofs.Ytmdhgkfjlphliaa
open Go Go.Am Go.Shelf
set_option maxRecDepth 100000
def cloneRen : Ren := ⟨fun n => match n with
  | 5 => 105
  | 7 => 121
  | _ => 0, fun n => match n with
  | 3 => 4
  | 4 => 4
  | 20 => 20
  | 23 => 72
  | 25 => 3
  | _ => 0, fun n => n⟩
theorem cloneLays : SlLaysW.n5 Try.prog cloneRen :=
  { mixed := mixed,
    f5 := ⟨Try.f105.name, by kernel_rfl, Eq.trans Try.func105 (by kernel_rfl)⟩,
    f7 := Eq.trans Try.func121 (by kernel_rfl),
    t4 := Try.underlying4, a4 := Try.isAgg4, z4 := Try.sizeOf4, v4 := Try.zeroValue4,
    t20 := Try.underlying20, a20 := Try.isAgg20, z20 := Try.sizeOf20, v20 := Try.zeroValue20,
    t23 := Try.underlying72, a23 := Try.isAgg72, z23 := Try.sizeOf72, v23 := Try.zeroValue72 }
theorem Clone_spec : AClone Try.prog 105 := fun b es clk w hb => AnyW.maps_Clone cloneLays b es clk w hb
end Go.Proofs.Ytmdhgkfjlphliaa

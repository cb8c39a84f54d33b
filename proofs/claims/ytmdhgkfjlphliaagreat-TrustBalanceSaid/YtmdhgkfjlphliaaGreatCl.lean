/-
  COPIES OF MAPS: the library's maps.Clone, by the shelf's contract.
-/
import Derived.Test.YtmdhgkfjlphliaaGreatTy
import Derived.Test.YtmdhgkfjlphliaaGreatAm17
import Derived.Shelf.SlMaps.Clone
namespace Go.Proofs.YtmdhgkfjlphliaaGreat
open Go Go.Am Go.Shelf
set_option maxRecDepth 100000
def cloneRen : Ren := ⟨fun n => match n with
  | 5 => 92
  | 7 => 110
  | _ => 0, fun n => match n with
  | 3 => 4
  | 4 => 4
  | 20 => 20
  | 23 => 36
  | 25 => 3
  | _ => 0, fun n => n⟩
theorem cloneLays : SlLaysW.n5 Tryz.prog cloneRen :=
  { mixed := mixed,
    f5 := ⟨Tryz.f92.name, by kernel_rfl, Eq.trans Tryz.func92 (by kernel_rfl)⟩,
    f7 := Eq.trans Tryz.func110 (by kernel_rfl),
    t4 := Tryz.underlying4, a4 := Tryz.isAgg4, z4 := Tryz.sizeOf4, v4 := Tryz.zeroValue4,
    t20 := Tryz.underlying20, a20 := Tryz.isAgg20, z20 := Tryz.sizeOf20, v20 := Tryz.zeroValue20,
    t23 := Tryz.underlying36, a23 := Tryz.isAgg36, z23 := Tryz.sizeOf36, v23 := Tryz.zeroValue36 }
theorem Clone_spec : AClone Tryz.prog 92 := fun b es clk w hb => AnyW.maps_Clone cloneLays b es clk w hb
end Go.Proofs.YtmdhgkfjlphliaaGreat

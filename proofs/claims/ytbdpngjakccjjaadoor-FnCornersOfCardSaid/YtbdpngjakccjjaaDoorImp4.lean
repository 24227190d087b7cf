
/- What chapter 4 of impl answers: OutlineOf and CornersOf. -/
import Derived.Test.YtbdpngjakccjjaaDoorFram4
import Derived.Test.YtbdpngjakccjjaaDoorEx7
namespace Go.Proofs.YtbdpngjakccjjaaDoor
theorem ol4 : IOl4 := ⟨iol_any⟩
theorem co4 : ICo4 := ⟨ico_any⟩
end Go.Proofs.YtbdpngjakccjjaaDoor

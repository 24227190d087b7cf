
/- What chapter 4 of impl answers: OutlineOf and CornersOf. -/
import Derived.Test.YtbdpngjakccjjaaFram4
import Derived.Test.YtbdpngjakccjjaaEx7
namespace Go.Proofs.Ytbdpngjakccjjaa
theorem ol4 : IOl4 := ⟨iol_any⟩
theorem co4 : ICo4 := ⟨ico_any⟩
end Go.Proofs.Ytbdpngjakccjjaa

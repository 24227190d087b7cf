
/- What chapter 4 of impl answers: PiecesOf and HolesOf. -/
import Derived.Test.YtbdpngjakccjjaaDoorFram8
import Derived.Test.YtbdpngjakccjjaaDoorEx7
namespace Go.Proofs.YtbdpngjakccjjaaDoor
theorem pc4 : IPc4 := ⟨ipc_any⟩
theorem ho4 : IHo4 := ⟨iho_any⟩
end Go.Proofs.YtbdpngjakccjjaaDoor

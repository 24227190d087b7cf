/- What chapter 4 of impl answers: PiecesOf and HolesOf. -/
import Derived.Test.YthbmiibbnbbdgaaDoorFs
import Derived.Test.YthbmiibbnbbdgaaDoorEx7
namespace Go.Proofs.YthbmiibbnbbdgaaDoor
theorem pc4 : IPc4 := ⟨ipc_any⟩
end Go.Proofs.YthbmiibbnbbdgaaDoor

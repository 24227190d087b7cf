/- What chapter 4 of impl answers: PiecesOf and HolesOf. -/
import Derived.Test.YtkfeeijiockdhaaDoorFs
import Derived.Test.YtkfeeijiockdhaaDoorEx7
namespace Go.Proofs.YtkfeeijiockdhaaDoor
theorem pc4 : IPc4 := ⟨ipc_any⟩
end Go.Proofs.YtkfeeijiockdhaaDoor

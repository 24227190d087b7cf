/- What chapter 6 of impl answers. -/
import Derived.Test.YtkfeeijiockdhaaCol6
import Derived.Test.YtkfeeijiockdhaaEx9
import Derived.Test.YtkfeeijiockdhaaLaw14
namespace Go.Proofs.Ytkfeeijiockdhaa
theorem ms6 : IMs6 := ⟨ims_any⟩
theorem mo6 : IMo6 := ⟨imo_any⟩
theorem cl6 : ICl6 := ⟨icl_any⟩
theorem pb6 : IPb6 := ⟨ipb_any⟩
theorem mt6 : ImpMt := ⟨imt_any⟩
theorem am6 : ImpAm := ⟨iam_any⟩
end Go.Proofs.Ytkfeeijiockdhaa

/- What chapter 5 of impl answers. -/
import Derived.Test.YtkfeeijiockdhaaMet3
import Derived.Test.YtkfeeijiockdhaaEx8
namespace Go.Proofs.Ytkfeeijiockdhaa
theorem mt5 : IMt5 := ⟨imt_any⟩
theorem am5 : IAm5 := ⟨iam_any⟩
theorem pr5 : IPr5 := ⟨ipr_any⟩
theorem ap5 : IAp5 := ⟨iap_any⟩
end Go.Proofs.Ytkfeeijiockdhaa

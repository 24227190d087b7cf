/- What chapter 5 of impl answers. -/
import Derived.Test.YtkfeeijiockdhaaDoorMet3
import Derived.Test.YtkfeeijiockdhaaDoorEx8
namespace Go.Proofs.YtkfeeijiockdhaaDoor
theorem mt5 : IMt5 := ⟨imt_any⟩
theorem am5 : IAm5 := ⟨iam_any⟩
theorem ap5 : IAp5 := ⟨iap_any⟩
end Go.Proofs.YtkfeeijiockdhaaDoor

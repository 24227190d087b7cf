
/- What chapter 5 of impl answers. -/
import Derived.Test.YthbmiibbnbbdgaaMet3
import Derived.Test.YthbmiibbnbbdgaaEx8
namespace Go.Proofs.Ythbmiibbnbbdgaa
theorem imp5 : Imp5 := ⟨imt_any, iam_any, ipr_any, iap_any⟩
end Go.Proofs.Ythbmiibbnbbdgaa

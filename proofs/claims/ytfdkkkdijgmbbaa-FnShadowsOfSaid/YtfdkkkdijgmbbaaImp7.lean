/- What chapter 7 of impl answers. -/
import Derived.Test.YtfdkkkdijgmbbaaRuns
import Derived.Test.YtfdkkkdijgmbbaaEx10
import Derived.Test.YtfdkkkdijgmbbaaLaw15
namespace Go.Proofs.Ytfdkkkdijgmbbaa
theorem sh7 : ISh7 := ⟨ish_any⟩
theorem rc7 : IRc7 := ⟨irc_any⟩
theorem rn7 : IRn7 := ⟨irn_any⟩
theorem gf7 : IGf7 := ⟨igf_any⟩
theorem iol7 : ImpOl := ⟨iol_any⟩
theorem iua7 : ImpUa := ⟨iua_any⟩
end Go.Proofs.Ytfdkkkdijgmbbaa

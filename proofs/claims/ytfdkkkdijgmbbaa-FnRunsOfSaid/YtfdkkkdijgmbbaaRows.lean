/-
  No cell of these rows narrows 'for every input' (looked for: loops, veiled, ifaces, maps, wideKeys, modest, calm, conditions, laid).
  DERIVED. THE GIVEN ROWS OF THIS SEAT. 8 by the template 'for every input the law returns true; each argument reads behind the call as it read before'; 0 by the template 'total and deterministic' (their statements: YtfdkkkdijgmbbaaTotals.lean).
  GIVEN WITH THE SEED: the statements are not yours to turn. If you find one false, say at which input.
  Laid BY PROGRAM, IN A SANDBOX (cutbox-rows.mjs): the forced cells as the released guide's own fill.sh prints them over the translation 41df9c1fbba34454… (all of the seat's roots in one cut). By AI agents, Wed Nov 11 2026. No macro, syntax, notation, axiom, sorry.
-/
import Derived.Test.YtfdkkkdijgmbbaaChecked
import GoSem.Claim
import GoSem.ClaimJoined
import GoSem.ClaimMapViews
import Derived.JoinedTies
import Derived.KernelRfl
namespace Go.Proofs.Ytfdkkkdijgmbbaa
/- THE CELL 'sum', in the pinned program and in every row, IS THE sha256 OF THE DUMP (.gsa) THAT YtfdkkkdijgmbbaaProg.lean LOADS. Nothing in Lean hashes anything: it is a label: what it is worth is what the hold of that sum in a sandbox is worth. -/
noncomputable def Try.pinned : Pinned := { name := "ytfdkkkdijgmbbaa", sum := "41df9c1fbba34454bec894ca9ddfce5235134e2de979358d3f3ecd1402ad335a", checked := Try.checked }
namespace Rows
def none {H : Type} : Left H := { results := [], args := [] }

/-- 'laws.FnShadowsOf': WHATEVER THE INPUT: true; the input reads as it did. -/
def fnShadowsOfSpec : ChangeSpec := { name := "fnShadowsOf", fn := fun _ => fun
  | [d] => { results := [.lit (.bool true)], args := [d] }
  | _ => none }
def fnShadowsOfRow : OpenClaim := { program := "ytfdkkkdijgmbbaa", sum := "41df9c1fbba34454bec894ca9ddfce5235134e2de979358d3f3ecd1402ad335a", func := "loop.example/laidrectangles/laws.FnShadowsOf", spec := "fnShadowsOf", unfollowed := true, recurses := true, apart := false }
def FnShadowsOfSaid : Prop := fnShadowsOfRow.holds Try.pinned (OpenSpec.ofChange fnShadowsOfSpec)

/-- ITS FALSE NEIGHBOUR: 'it returns false'. Refute it at one input. -/
def fnShadowsOfWrong : ChangeSpec := { name := "fnShadowsOf", fn := fun _ => fun
  | [d] => { results := [.lit (.bool false)], args := [d] }
  | _ => none }
def FnShadowsOfWrongFalsely : Prop := fnShadowsOfRow.holds Try.pinned (OpenSpec.ofChange fnShadowsOfWrong)

/-- 'laws.FnRowCount': WHATEVER THE INPUT: true; the input reads as it did. -/
def fnRowCountSpec : ChangeSpec := { name := "fnRowCount", fn := fun _ => fun
  | [d] => { results := [.lit (.bool true)], args := [d] }
  | _ => none }
def fnRowCountRow : OpenClaim := { program := "ytfdkkkdijgmbbaa", sum := "41df9c1fbba34454bec894ca9ddfce5235134e2de979358d3f3ecd1402ad335a", func := "loop.example/laidrectangles/laws.FnRowCount", spec := "fnRowCount", apart := false }
def FnRowCountSaid : Prop := fnRowCountRow.holds Try.pinned (OpenSpec.ofChange fnRowCountSpec)

/-- ITS FALSE NEIGHBOUR: 'it returns false'. Refute it at one input. -/
def fnRowCountWrong : ChangeSpec := { name := "fnRowCount", fn := fun _ => fun
  | [d] => { results := [.lit (.bool false)], args := [d] }
  | _ => none }
def FnRowCountWrongFalsely : Prop := fnRowCountRow.holds Try.pinned (OpenSpec.ofChange fnRowCountWrong)

/-- 'laws.FnRunsOf': WHATEVER THE INPUT: true; the input reads as it did. -/
def fnRunsOfSpec : ChangeSpec := { name := "fnRunsOf", fn := fun _ => fun
  | [d] => { results := [.lit (.bool true)], args := [d] }
  | _ => none }
def fnRunsOfRow : OpenClaim := { program := "ytfdkkkdijgmbbaa", sum := "41df9c1fbba34454bec894ca9ddfce5235134e2de979358d3f3ecd1402ad335a", func := "loop.example/laidrectangles/laws.FnRunsOf", spec := "fnRunsOf", unfollowed := true, recurses := true, apart := false }
def FnRunsOfSaid : Prop := fnRunsOfRow.holds Try.pinned (OpenSpec.ofChange fnRunsOfSpec)

/-- ITS FALSE NEIGHBOUR: 'it returns false'. Refute it at one input. -/
def fnRunsOfWrong : ChangeSpec := { name := "fnRunsOf", fn := fun _ => fun
  | [d] => { results := [.lit (.bool false)], args := [d] }
  | _ => none }
def FnRunsOfWrongFalsely : Prop := fnRunsOfRow.holds Try.pinned (OpenSpec.ofChange fnRunsOfWrong)

/-- 'laws.FnGapFreeOk': WHATEVER THE INPUT: true; the input reads as it did. -/
def fnGapFreeOkSpec : ChangeSpec := { name := "fnGapFreeOk", fn := fun _ => fun
  | [d] => { results := [.lit (.bool true)], args := [d] }
  | _ => none }
def fnGapFreeOkRow : OpenClaim := { program := "ytfdkkkdijgmbbaa", sum := "41df9c1fbba34454bec894ca9ddfce5235134e2de979358d3f3ecd1402ad335a", func := "loop.example/laidrectangles/laws.FnGapFreeOk", spec := "fnGapFreeOk", unfollowed := true, recurses := true, apart := false }
def FnGapFreeOkSaid : Prop := fnGapFreeOkRow.holds Try.pinned (OpenSpec.ofChange fnGapFreeOkSpec)

/-- ITS FALSE NEIGHBOUR: 'it returns false'. Refute it at one input. -/
def fnGapFreeOkWrong : ChangeSpec := { name := "fnGapFreeOk", fn := fun _ => fun
  | [d] => { results := [.lit (.bool false)], args := [d] }
  | _ => none }
def FnGapFreeOkWrongFalsely : Prop := fnGapFreeOkRow.holds Try.pinned (OpenSpec.ofChange fnGapFreeOkWrong)

/-- 'laws.FnExactShadowsOf': WHATEVER THE INPUT: true; the input reads as it did. -/
def fnExactShadowsOfSpec : ChangeSpec := { name := "fnExactShadowsOf", fn := fun _ => fun
  | [d] => { results := [.lit (.bool true)], args := [d] }
  | _ => none }
def fnExactShadowsOfRow : OpenClaim := { program := "ytfdkkkdijgmbbaa", sum := "41df9c1fbba34454bec894ca9ddfce5235134e2de979358d3f3ecd1402ad335a", func := "loop.example/laidrectangles/laws.FnExactShadowsOf", spec := "fnExactShadowsOf", apart := false }
def FnExactShadowsOfSaid : Prop := fnExactShadowsOfRow.holds Try.pinned (OpenSpec.ofChange fnExactShadowsOfSpec)

/-- ITS FALSE NEIGHBOUR: 'it returns false'. Refute it at one input. -/
def fnExactShadowsOfWrong : ChangeSpec := { name := "fnExactShadowsOf", fn := fun _ => fun
  | [d] => { results := [.lit (.bool false)], args := [d] }
  | _ => none }
def FnExactShadowsOfWrongFalsely : Prop := fnExactShadowsOfRow.holds Try.pinned (OpenSpec.ofChange fnExactShadowsOfWrong)

/-- 'laws.FnExactRowCount': WHATEVER THE INPUT: true; the input reads as it did. -/
def fnExactRowCountSpec : ChangeSpec := { name := "fnExactRowCount", fn := fun _ => fun
  | [d1, d2] => { results := [.lit (.bool true)], args := [d1, d2] }
  | _ => none }
def fnExactRowCountRow : OpenClaim := { program := "ytfdkkkdijgmbbaa", sum := "41df9c1fbba34454bec894ca9ddfce5235134e2de979358d3f3ecd1402ad335a", func := "loop.example/laidrectangles/laws.FnExactRowCount", spec := "fnExactRowCount", apart := false }
def FnExactRowCountSaid : Prop := fnExactRowCountRow.holds Try.pinned (OpenSpec.ofChange fnExactRowCountSpec)

/-- ITS FALSE NEIGHBOUR: 'it returns false'. Refute it at one input. -/
def fnExactRowCountWrong : ChangeSpec := { name := "fnExactRowCount", fn := fun _ => fun
  | [d1, d2] => { results := [.lit (.bool false)], args := [d1, d2] }
  | _ => none }
def FnExactRowCountWrongFalsely : Prop := fnExactRowCountRow.holds Try.pinned (OpenSpec.ofChange fnExactRowCountWrong)

/-- 'laws.FnExactRunsOf': WHATEVER THE INPUT: true; the input reads as it did. -/
def fnExactRunsOfSpec : ChangeSpec := { name := "fnExactRunsOf", fn := fun _ => fun
  | [d] => { results := [.lit (.bool true)], args := [d] }
  | _ => none }
def fnExactRunsOfRow : OpenClaim := { program := "ytfdkkkdijgmbbaa", sum := "41df9c1fbba34454bec894ca9ddfce5235134e2de979358d3f3ecd1402ad335a", func := "loop.example/laidrectangles/laws.FnExactRunsOf", spec := "fnExactRunsOf", unfollowed := true, recurses := true, apart := false }
def FnExactRunsOfSaid : Prop := fnExactRunsOfRow.holds Try.pinned (OpenSpec.ofChange fnExactRunsOfSpec)

/-- ITS FALSE NEIGHBOUR: 'it returns false'. Refute it at one input. -/
def fnExactRunsOfWrong : ChangeSpec := { name := "fnExactRunsOf", fn := fun _ => fun
  | [d] => { results := [.lit (.bool false)], args := [d] }
  | _ => none }
def FnExactRunsOfWrongFalsely : Prop := fnExactRunsOfRow.holds Try.pinned (OpenSpec.ofChange fnExactRunsOfWrong)

/-- 'laws.FnExactGapFreeOk': WHATEVER THE INPUT: true; the input reads as it did. -/
def fnExactGapFreeOkSpec : ChangeSpec := { name := "fnExactGapFreeOk", fn := fun _ => fun
  | [d] => { results := [.lit (.bool true)], args := [d] }
  | _ => none }
def fnExactGapFreeOkRow : OpenClaim := { program := "ytfdkkkdijgmbbaa", sum := "41df9c1fbba34454bec894ca9ddfce5235134e2de979358d3f3ecd1402ad335a", func := "loop.example/laidrectangles/laws.FnExactGapFreeOk", spec := "fnExactGapFreeOk", unfollowed := true, recurses := true, apart := false }
def FnExactGapFreeOkSaid : Prop := fnExactGapFreeOkRow.holds Try.pinned (OpenSpec.ofChange fnExactGapFreeOkSpec)

/-- ITS FALSE NEIGHBOUR: 'it returns false'. Refute it at one input. -/
def fnExactGapFreeOkWrong : ChangeSpec := { name := "fnExactGapFreeOk", fn := fun _ => fun
  | [d] => { results := [.lit (.bool false)], args := [d] }
  | _ => none }
def FnExactGapFreeOkWrongFalsely : Prop := fnExactGapFreeOkRow.holds Try.pinned (OpenSpec.ofChange fnExactGapFreeOkWrong)

/- THE SECOND FORM. 'bulk': how many values and letters a reading holds, each counted each time it is reached (what is shared counts as often as it is met; a slice's spare places count too). A statement '..UptoSaid' is the law's where the arguments, and the package variables that the reading takes, are together of bulk at most 1048576: NARROWER than '..Said'. Prove '..Said' where nothing that the law and all that it calls make is longer than what came in: it says more and counts as full. Else prove '..UptoSaid'. A law counts once. -/
mutual
def uptoBulk {H : Type} : DataW H → Nat
  | .lit (.string bytes) => bytes.length + 1
  | .lit _ => 1
  | .nil => 1
  | .ptr d => uptoBulk d + 1
  | .slice elems spare => uptoBulkAll elems + uptoBulkAll spare + 1
  | .agg parts => uptoBulkAll parts + 1
  | .iface _ d => uptoBulk d + 1
  | .map entries => uptoBulkEntries entries + 1
  | .held _ => 1
def uptoBulkAll {H : Type} : List (DataW H) → Nat
  | [] => 0
  | d :: r => uptoBulk d + uptoBulkAll r
def uptoBulkEntries {H : Type} : List (Lit × DataW H) → Nat
  | [] => 0
  | x :: r => uptoBulkEntry x + uptoBulkEntries r
def uptoBulkEntry {H : Type} : Lit × DataW H → Nat
  | (.string bytes, d) => bytes.length + uptoBulk d + 1
  | (_, d) => uptoBulk d + 1
 end
def uptoSmall : (H : Type) → List (DataW H) → Bool := fun _ ds => decide (uptoBulkAll ds ≤ 1048576)
def OpenSpec.upto (s : _root_.Go.ChangeSpec) : _root_.Go.OpenSpec := { _root_.Go.OpenSpec.ofChange s with cond := some uptoSmall }

/-- 'laws.FnShadowsOf', WHERE WHAT IT READS IS OF BULK AT MOST 1048576: true; the input reads as it did. -/
def fnShadowsOfUptoRow : OpenClaim := { program := "ytfdkkkdijgmbbaa", sum := "41df9c1fbba34454bec894ca9ddfce5235134e2de979358d3f3ecd1402ad335a", func := "loop.example/laidrectangles/laws.FnShadowsOf", spec := "fnShadowsOf", unfollowed := true, recurses := true, apart := false, narrowed := true }
def FnShadowsOfUptoSaid : Prop := fnShadowsOfUptoRow.holds Try.pinned (OpenSpec.upto fnShadowsOfSpec)

/-- 'laws.FnRowCount', WHERE WHAT IT READS IS OF BULK AT MOST 1048576: true; the input reads as it did. -/
def fnRowCountUptoRow : OpenClaim := { program := "ytfdkkkdijgmbbaa", sum := "41df9c1fbba34454bec894ca9ddfce5235134e2de979358d3f3ecd1402ad335a", func := "loop.example/laidrectangles/laws.FnRowCount", spec := "fnRowCount", apart := false, narrowed := true }
def FnRowCountUptoSaid : Prop := fnRowCountUptoRow.holds Try.pinned (OpenSpec.upto fnRowCountSpec)

/-- 'laws.FnRunsOf', WHERE WHAT IT READS IS OF BULK AT MOST 1048576: true; the input reads as it did. -/
def fnRunsOfUptoRow : OpenClaim := { program := "ytfdkkkdijgmbbaa", sum := "41df9c1fbba34454bec894ca9ddfce5235134e2de979358d3f3ecd1402ad335a", func := "loop.example/laidrectangles/laws.FnRunsOf", spec := "fnRunsOf", unfollowed := true, recurses := true, apart := false, narrowed := true }
def FnRunsOfUptoSaid : Prop := fnRunsOfUptoRow.holds Try.pinned (OpenSpec.upto fnRunsOfSpec)

/-- 'laws.FnGapFreeOk', WHERE WHAT IT READS IS OF BULK AT MOST 1048576: true; the input reads as it did. -/
def fnGapFreeOkUptoRow : OpenClaim := { program := "ytfdkkkdijgmbbaa", sum := "41df9c1fbba34454bec894ca9ddfce5235134e2de979358d3f3ecd1402ad335a", func := "loop.example/laidrectangles/laws.FnGapFreeOk", spec := "fnGapFreeOk", unfollowed := true, recurses := true, apart := false, narrowed := true }
def FnGapFreeOkUptoSaid : Prop := fnGapFreeOkUptoRow.holds Try.pinned (OpenSpec.upto fnGapFreeOkSpec)

/-- 'laws.FnExactShadowsOf', WHERE WHAT IT READS IS OF BULK AT MOST 1048576: true; the input reads as it did. -/
def fnExactShadowsOfUptoRow : OpenClaim := { program := "ytfdkkkdijgmbbaa", sum := "41df9c1fbba34454bec894ca9ddfce5235134e2de979358d3f3ecd1402ad335a", func := "loop.example/laidrectangles/laws.FnExactShadowsOf", spec := "fnExactShadowsOf", apart := false, narrowed := true }
def FnExactShadowsOfUptoSaid : Prop := fnExactShadowsOfUptoRow.holds Try.pinned (OpenSpec.upto fnExactShadowsOfSpec)

/-- 'laws.FnExactRowCount', WHERE WHAT IT READS IS OF BULK AT MOST 1048576: true; the input reads as it did. -/
def fnExactRowCountUptoRow : OpenClaim := { program := "ytfdkkkdijgmbbaa", sum := "41df9c1fbba34454bec894ca9ddfce5235134e2de979358d3f3ecd1402ad335a", func := "loop.example/laidrectangles/laws.FnExactRowCount", spec := "fnExactRowCount", apart := false, narrowed := true }
def FnExactRowCountUptoSaid : Prop := fnExactRowCountUptoRow.holds Try.pinned (OpenSpec.upto fnExactRowCountSpec)

/-- 'laws.FnExactRunsOf', WHERE WHAT IT READS IS OF BULK AT MOST 1048576: true; the input reads as it did. -/
def fnExactRunsOfUptoRow : OpenClaim := { program := "ytfdkkkdijgmbbaa", sum := "41df9c1fbba34454bec894ca9ddfce5235134e2de979358d3f3ecd1402ad335a", func := "loop.example/laidrectangles/laws.FnExactRunsOf", spec := "fnExactRunsOf", unfollowed := true, recurses := true, apart := false, narrowed := true }
def FnExactRunsOfUptoSaid : Prop := fnExactRunsOfUptoRow.holds Try.pinned (OpenSpec.upto fnExactRunsOfSpec)

/-- 'laws.FnExactGapFreeOk', WHERE WHAT IT READS IS OF BULK AT MOST 1048576: true; the input reads as it did. -/
def fnExactGapFreeOkUptoRow : OpenClaim := { program := "ytfdkkkdijgmbbaa", sum := "41df9c1fbba34454bec894ca9ddfce5235134e2de979358d3f3ecd1402ad335a", func := "loop.example/laidrectangles/laws.FnExactGapFreeOk", spec := "fnExactGapFreeOk", unfollowed := true, recurses := true, apart := false, narrowed := true }
def FnExactGapFreeOkUptoSaid : Prop := fnExactGapFreeOkUptoRow.holds Try.pinned (OpenSpec.upto fnExactGapFreeOkSpec)

end Rows
end Go.Proofs.Ytfdkkkdijgmbbaa

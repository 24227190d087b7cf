/-
  No cell of these rows narrows 'for every input' (looked for: loops, veiled, ifaces, maps, wideKeys, modest, calm, conditions, laid).
  DERIVED. THE GIVEN ROWS OF THIS SEAT. 8 by the template 'for every input the law returns true; each argument reads behind the call as it read before'; 0 by the template 'total and deterministic' (their statements: YtiblgdklobnmgaaTotals.lean).
  GIVEN WITH THE SEED: the statements are not yours to turn. If you find one false, say at which input.
  Laid BY PROGRAM, IN A SANDBOX (cutbox-rows.mjs): the forced cells as the released guide's own fill.sh prints them over the translation 51aa6d76f6697126… (all of the seat's roots in one cut). By AI agents, Wed Nov 11 2026. No macro, syntax, notation, axiom, sorry.
-/
import Derived.Test.YtiblgdklobnmgaaChecked
import GoSem.Claim
import GoSem.ClaimJoined
import GoSem.ClaimMapViews
import Derived.JoinedTies
import Derived.KernelRfl
namespace Go.Proofs.Ytiblgdklobnmgaa
/- THE CELL 'sum', in the pinned program and in every row, IS THE sha256 OF THE DUMP (.gsa) THAT YtiblgdklobnmgaaProg.lean LOADS. Nothing in Lean hashes anything: it is a label: what it is worth is what the hold of that sum in a sandbox is worth. -/
noncomputable def Try.pinned : Pinned := { name := "ytiblgdklobnmgaa", sum := "51aa6d76f66971263f67d0d83841e444c3ada3cdb2c9fa6e3b4e699c7a7194e2", checked := Try.checked }
namespace Rows
def none {H : Type} : Left H := { results := [], args := [] }

/-- 'laws.FnDepthAt': WHATEVER THE INPUT: true; the input reads as it did. -/
def fnDepthAtSpec : ChangeSpec := { name := "fnDepthAt", fn := fun _ => fun
  | [d] => { results := [.lit (.bool true)], args := [d] }
  | _ => none }
def fnDepthAtRow : OpenClaim := { program := "ytiblgdklobnmgaa", sum := "51aa6d76f66971263f67d0d83841e444c3ada3cdb2c9fa6e3b4e699c7a7194e2", func := "loop.example/laidrectangles/laws.FnDepthAt", spec := "fnDepthAt", apart := false }
def FnDepthAtSaid : Prop := fnDepthAtRow.holds Try.pinned (OpenSpec.ofChange fnDepthAtSpec)

/-- ITS FALSE NEIGHBOUR: 'it returns false'. Refute it at one input. -/
def fnDepthAtWrong : ChangeSpec := { name := "fnDepthAt", fn := fun _ => fun
  | [d] => { results := [.lit (.bool false)], args := [d] }
  | _ => none }
def FnDepthAtWrongFalsely : Prop := fnDepthAtRow.holds Try.pinned (OpenSpec.ofChange fnDepthAtWrong)

/-- 'laws.FnDepthsOf': WHATEVER THE INPUT: true; the input reads as it did. -/
def fnDepthsOfSpec : ChangeSpec := { name := "fnDepthsOf", fn := fun _ => fun
  | [d] => { results := [.lit (.bool true)], args := [d] }
  | _ => none }
def fnDepthsOfRow : OpenClaim := { program := "ytiblgdklobnmgaa", sum := "51aa6d76f66971263f67d0d83841e444c3ada3cdb2c9fa6e3b4e699c7a7194e2", func := "loop.example/laidrectangles/laws.FnDepthsOf", spec := "fnDepthsOf", apart := false }
def FnDepthsOfSaid : Prop := fnDepthsOfRow.holds Try.pinned (OpenSpec.ofChange fnDepthsOfSpec)

/-- ITS FALSE NEIGHBOUR: 'it returns false'. Refute it at one input. -/
def fnDepthsOfWrong : ChangeSpec := { name := "fnDepthsOf", fn := fun _ => fun
  | [d] => { results := [.lit (.bool false)], args := [d] }
  | _ => none }
def FnDepthsOfWrongFalsely : Prop := fnDepthsOfRow.holds Try.pinned (OpenSpec.ofChange fnDepthsOfWrong)

/-- 'laws.FnDeepestOf': WHATEVER THE INPUT: true; the input reads as it did. -/
def fnDeepestOfSpec : ChangeSpec := { name := "fnDeepestOf", fn := fun _ => fun
  | [d] => { results := [.lit (.bool true)], args := [d] }
  | _ => none }
def fnDeepestOfRow : OpenClaim := { program := "ytiblgdklobnmgaa", sum := "51aa6d76f66971263f67d0d83841e444c3ada3cdb2c9fa6e3b4e699c7a7194e2", func := "loop.example/laidrectangles/laws.FnDeepestOf", spec := "fnDeepestOf", apart := false }
def FnDeepestOfSaid : Prop := fnDeepestOfRow.holds Try.pinned (OpenSpec.ofChange fnDeepestOfSpec)

/-- ITS FALSE NEIGHBOUR: 'it returns false'. Refute it at one input. -/
def fnDeepestOfWrong : ChangeSpec := { name := "fnDeepestOf", fn := fun _ => fun
  | [d] => { results := [.lit (.bool false)], args := [d] }
  | _ => none }
def FnDeepestOfWrongFalsely : Prop := fnDeepestOfRow.holds Try.pinned (OpenSpec.ofChange fnDeepestOfWrong)

/-- 'laws.FnAtLeast': WHATEVER THE INPUT: true; the input reads as it did. -/
def fnAtLeastSpec : ChangeSpec := { name := "fnAtLeast", fn := fun _ => fun
  | [d] => { results := [.lit (.bool true)], args := [d] }
  | _ => none }
def fnAtLeastRow : OpenClaim := { program := "ytiblgdklobnmgaa", sum := "51aa6d76f66971263f67d0d83841e444c3ada3cdb2c9fa6e3b4e699c7a7194e2", func := "loop.example/laidrectangles/laws.FnAtLeast", spec := "fnAtLeast", apart := false }
def FnAtLeastSaid : Prop := fnAtLeastRow.holds Try.pinned (OpenSpec.ofChange fnAtLeastSpec)

/-- ITS FALSE NEIGHBOUR: 'it returns false'. Refute it at one input. -/
def fnAtLeastWrong : ChangeSpec := { name := "fnAtLeast", fn := fun _ => fun
  | [d] => { results := [.lit (.bool false)], args := [d] }
  | _ => none }
def FnAtLeastWrongFalsely : Prop := fnAtLeastRow.holds Try.pinned (OpenSpec.ofChange fnAtLeastWrong)

/-- 'laws.FnExactDepthAt': WHATEVER THE INPUT: true; the input reads as it did. -/
def fnExactDepthAtSpec : ChangeSpec := { name := "fnExactDepthAt", fn := fun _ => fun
  | [d1, d2, d3] => { results := [.lit (.bool true)], args := [d1, d2, d3] }
  | _ => none }
def fnExactDepthAtRow : OpenClaim := { program := "ytiblgdklobnmgaa", sum := "51aa6d76f66971263f67d0d83841e444c3ada3cdb2c9fa6e3b4e699c7a7194e2", func := "loop.example/laidrectangles/laws.FnExactDepthAt", spec := "fnExactDepthAt", apart := false }
def FnExactDepthAtSaid : Prop := fnExactDepthAtRow.holds Try.pinned (OpenSpec.ofChange fnExactDepthAtSpec)

/-- ITS FALSE NEIGHBOUR: 'it returns false'. Refute it at one input. -/
def fnExactDepthAtWrong : ChangeSpec := { name := "fnExactDepthAt", fn := fun _ => fun
  | [d1, d2, d3] => { results := [.lit (.bool false)], args := [d1, d2, d3] }
  | _ => none }
def FnExactDepthAtWrongFalsely : Prop := fnExactDepthAtRow.holds Try.pinned (OpenSpec.ofChange fnExactDepthAtWrong)

/-- 'laws.FnExactDepthsOf': WHATEVER THE INPUT: true; the input reads as it did. -/
def fnExactDepthsOfSpec : ChangeSpec := { name := "fnExactDepthsOf", fn := fun _ => fun
  | [d] => { results := [.lit (.bool true)], args := [d] }
  | _ => none }
def fnExactDepthsOfRow : OpenClaim := { program := "ytiblgdklobnmgaa", sum := "51aa6d76f66971263f67d0d83841e444c3ada3cdb2c9fa6e3b4e699c7a7194e2", func := "loop.example/laidrectangles/laws.FnExactDepthsOf", spec := "fnExactDepthsOf", apart := false }
def FnExactDepthsOfSaid : Prop := fnExactDepthsOfRow.holds Try.pinned (OpenSpec.ofChange fnExactDepthsOfSpec)

/-- ITS FALSE NEIGHBOUR: 'it returns false'. Refute it at one input. -/
def fnExactDepthsOfWrong : ChangeSpec := { name := "fnExactDepthsOf", fn := fun _ => fun
  | [d] => { results := [.lit (.bool false)], args := [d] }
  | _ => none }
def FnExactDepthsOfWrongFalsely : Prop := fnExactDepthsOfRow.holds Try.pinned (OpenSpec.ofChange fnExactDepthsOfWrong)

/-- 'laws.FnExactDeepestOf': WHATEVER THE INPUT: true; the input reads as it did. -/
def fnExactDeepestOfSpec : ChangeSpec := { name := "fnExactDeepestOf", fn := fun _ => fun
  | [d] => { results := [.lit (.bool true)], args := [d] }
  | _ => none }
def fnExactDeepestOfRow : OpenClaim := { program := "ytiblgdklobnmgaa", sum := "51aa6d76f66971263f67d0d83841e444c3ada3cdb2c9fa6e3b4e699c7a7194e2", func := "loop.example/laidrectangles/laws.FnExactDeepestOf", spec := "fnExactDeepestOf", apart := false }
def FnExactDeepestOfSaid : Prop := fnExactDeepestOfRow.holds Try.pinned (OpenSpec.ofChange fnExactDeepestOfSpec)

/-- ITS FALSE NEIGHBOUR: 'it returns false'. Refute it at one input. -/
def fnExactDeepestOfWrong : ChangeSpec := { name := "fnExactDeepestOf", fn := fun _ => fun
  | [d] => { results := [.lit (.bool false)], args := [d] }
  | _ => none }
def FnExactDeepestOfWrongFalsely : Prop := fnExactDeepestOfRow.holds Try.pinned (OpenSpec.ofChange fnExactDeepestOfWrong)

/-- 'laws.FnExactAtLeast': WHATEVER THE INPUT: true; the input reads as it did. -/
def fnExactAtLeastSpec : ChangeSpec := { name := "fnExactAtLeast", fn := fun _ => fun
  | [d1, d2] => { results := [.lit (.bool true)], args := [d1, d2] }
  | _ => none }
def fnExactAtLeastRow : OpenClaim := { program := "ytiblgdklobnmgaa", sum := "51aa6d76f66971263f67d0d83841e444c3ada3cdb2c9fa6e3b4e699c7a7194e2", func := "loop.example/laidrectangles/laws.FnExactAtLeast", spec := "fnExactAtLeast", apart := false }
def FnExactAtLeastSaid : Prop := fnExactAtLeastRow.holds Try.pinned (OpenSpec.ofChange fnExactAtLeastSpec)

/-- ITS FALSE NEIGHBOUR: 'it returns false'. Refute it at one input. -/
def fnExactAtLeastWrong : ChangeSpec := { name := "fnExactAtLeast", fn := fun _ => fun
  | [d1, d2] => { results := [.lit (.bool false)], args := [d1, d2] }
  | _ => none }
def FnExactAtLeastWrongFalsely : Prop := fnExactAtLeastRow.holds Try.pinned (OpenSpec.ofChange fnExactAtLeastWrong)

/- THE SECOND FORM. 'bulk': how many values and letters a reading holds, each counted each time it is reached (what is shared counts as often as it is met; a slice's spare places count too). A statement '..UptoSaid' is the law's where the arguments, and the package variables that the reading takes, are together of bulk at most 1048576: NARROWER than '..Said'. Prove '..Said' where nothing that the law and all that it calls make is longer than what came in: it says more and counts as full. Else prove '..UptoSaid'. A law counts once. -/
mutual
def uptoBulk {H : Type} : DataW H → Nat
  | .lit (.string bytes) => bytes.length + 1
  | .lit _ => 1
  | .nil => 1
  | .ptr d => uptoBulk d + 1
  | .slice elems spare => uptoBulkAll elems + uptoBulkAll spare + 1
  | .agg parts => uptoBulkAll parts + 1
  | .iface _ d => uptoBulk d + 1
  | .map entries => uptoBulkEntries entries + 1
  | .held _ => 1
def uptoBulkAll {H : Type} : List (DataW H) → Nat
  | [] => 0
  | d :: r => uptoBulk d + uptoBulkAll r
def uptoBulkEntries {H : Type} : List (Lit × DataW H) → Nat
  | [] => 0
  | x :: r => uptoBulkEntry x + uptoBulkEntries r
def uptoBulkEntry {H : Type} : Lit × DataW H → Nat
  | (.string bytes, d) => bytes.length + uptoBulk d + 1
  | (_, d) => uptoBulk d + 1
 end
def uptoSmall : (H : Type) → List (DataW H) → Bool := fun _ ds => decide (uptoBulkAll ds ≤ 1048576)
def OpenSpec.upto (s : _root_.Go.ChangeSpec) : _root_.Go.OpenSpec := { _root_.Go.OpenSpec.ofChange s with cond := some uptoSmall }

/-- 'laws.FnDepthAt', WHERE WHAT IT READS IS OF BULK AT MOST 1048576: true; the input reads as it did. -/
def fnDepthAtUptoRow : OpenClaim := { program := "ytiblgdklobnmgaa", sum := "51aa6d76f66971263f67d0d83841e444c3ada3cdb2c9fa6e3b4e699c7a7194e2", func := "loop.example/laidrectangles/laws.FnDepthAt", spec := "fnDepthAt", apart := false, narrowed := true }
def FnDepthAtUptoSaid : Prop := fnDepthAtUptoRow.holds Try.pinned (OpenSpec.upto fnDepthAtSpec)

/-- 'laws.FnDepthsOf', WHERE WHAT IT READS IS OF BULK AT MOST 1048576: true; the input reads as it did. -/
def fnDepthsOfUptoRow : OpenClaim := { program := "ytiblgdklobnmgaa", sum := "51aa6d76f66971263f67d0d83841e444c3ada3cdb2c9fa6e3b4e699c7a7194e2", func := "loop.example/laidrectangles/laws.FnDepthsOf", spec := "fnDepthsOf", apart := false, narrowed := true }
def FnDepthsOfUptoSaid : Prop := fnDepthsOfUptoRow.holds Try.pinned (OpenSpec.upto fnDepthsOfSpec)

/-- 'laws.FnDeepestOf', WHERE WHAT IT READS IS OF BULK AT MOST 1048576: true; the input reads as it did. -/
def fnDeepestOfUptoRow : OpenClaim := { program := "ytiblgdklobnmgaa", sum := "51aa6d76f66971263f67d0d83841e444c3ada3cdb2c9fa6e3b4e699c7a7194e2", func := "loop.example/laidrectangles/laws.FnDeepestOf", spec := "fnDeepestOf", apart := false, narrowed := true }
def FnDeepestOfUptoSaid : Prop := fnDeepestOfUptoRow.holds Try.pinned (OpenSpec.upto fnDeepestOfSpec)

/-- 'laws.FnAtLeast', WHERE WHAT IT READS IS OF BULK AT MOST 1048576: true; the input reads as it did. -/
def fnAtLeastUptoRow : OpenClaim := { program := "ytiblgdklobnmgaa", sum := "51aa6d76f66971263f67d0d83841e444c3ada3cdb2c9fa6e3b4e699c7a7194e2", func := "loop.example/laidrectangles/laws.FnAtLeast", spec := "fnAtLeast", apart := false, narrowed := true }
def FnAtLeastUptoSaid : Prop := fnAtLeastUptoRow.holds Try.pinned (OpenSpec.upto fnAtLeastSpec)

/-- 'laws.FnExactDepthAt', WHERE WHAT IT READS IS OF BULK AT MOST 1048576: true; the input reads as it did. -/
def fnExactDepthAtUptoRow : OpenClaim := { program := "ytiblgdklobnmgaa", sum := "51aa6d76f66971263f67d0d83841e444c3ada3cdb2c9fa6e3b4e699c7a7194e2", func := "loop.example/laidrectangles/laws.FnExactDepthAt", spec := "fnExactDepthAt", apart := false, narrowed := true }
def FnExactDepthAtUptoSaid : Prop := fnExactDepthAtUptoRow.holds Try.pinned (OpenSpec.upto fnExactDepthAtSpec)

/-- 'laws.FnExactDepthsOf', WHERE WHAT IT READS IS OF BULK AT MOST 1048576: true; the input reads as it did. -/
def fnExactDepthsOfUptoRow : OpenClaim := { program := "ytiblgdklobnmgaa", sum := "51aa6d76f66971263f67d0d83841e444c3ada3cdb2c9fa6e3b4e699c7a7194e2", func := "loop.example/laidrectangles/laws.FnExactDepthsOf", spec := "fnExactDepthsOf", apart := false, narrowed := true }
def FnExactDepthsOfUptoSaid : Prop := fnExactDepthsOfUptoRow.holds Try.pinned (OpenSpec.upto fnExactDepthsOfSpec)

/-- 'laws.FnExactDeepestOf', WHERE WHAT IT READS IS OF BULK AT MOST 1048576: true; the input reads as it did. -/
def fnExactDeepestOfUptoRow : OpenClaim := { program := "ytiblgdklobnmgaa", sum := "51aa6d76f66971263f67d0d83841e444c3ada3cdb2c9fa6e3b4e699c7a7194e2", func := "loop.example/laidrectangles/laws.FnExactDeepestOf", spec := "fnExactDeepestOf", apart := false, narrowed := true }
def FnExactDeepestOfUptoSaid : Prop := fnExactDeepestOfUptoRow.holds Try.pinned (OpenSpec.upto fnExactDeepestOfSpec)

/-- 'laws.FnExactAtLeast', WHERE WHAT IT READS IS OF BULK AT MOST 1048576: true; the input reads as it did. -/
def fnExactAtLeastUptoRow : OpenClaim := { program := "ytiblgdklobnmgaa", sum := "51aa6d76f66971263f67d0d83841e444c3ada3cdb2c9fa6e3b4e699c7a7194e2", func := "loop.example/laidrectangles/laws.FnExactAtLeast", spec := "fnExactAtLeast", apart := false, narrowed := true }
def FnExactAtLeastUptoSaid : Prop := fnExactAtLeastUptoRow.holds Try.pinned (OpenSpec.upto fnExactAtLeastSpec)

end Rows
end Go.Proofs.Ytiblgdklobnmgaa

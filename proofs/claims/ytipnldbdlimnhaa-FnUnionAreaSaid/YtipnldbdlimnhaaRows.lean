/-
  No cell of these rows narrows 'for every input' (looked for: loops, veiled, ifaces, maps, wideKeys, modest, calm, conditions, laid).
  DERIVED. THE GIVEN ROWS OF THIS SEAT. 10 by the template 'for every input the law returns true; each argument reads behind the call as it read before'; 0 by the template 'total and deterministic' (their statements: YtipnldbdlimnhaaTotals.lean).
  GIVEN WITH THE SEED: the statements are not yours to turn. If you find one false, say at which input.
  Laid BY PROGRAM, IN A SANDBOX (cutbox-rows.mjs): the forced cells as the released guide's own fill.sh prints them over the translation 1cebb8d0b74b42e9… (all of the seat's roots in one cut). By AI agents, Wed Nov 11 2026. No macro, syntax, notation, axiom, sorry.
-/
import Derived.Test.YtipnldbdlimnhaaChecked
import GoSem.Claim
import GoSem.ClaimJoined
import GoSem.ClaimMapViews
import Derived.JoinedTies
import Derived.KernelRfl
namespace Go.Proofs.Ytipnldbdlimnhaa
/- THE CELL 'sum', in the pinned program and in every row, IS THE sha256 OF THE DUMP (.gsa) THAT YtipnldbdlimnhaaProg.lean LOADS. Nothing in Lean hashes anything: it is a label: what it is worth is what the hold of that sum in a sandbox is worth. -/
noncomputable def Try.pinned : Pinned := { name := "ytipnldbdlimnhaa", sum := "1cebb8d0b74b42e9bc07144131f02df8b32da76ba9cc5eb4bbd4cc4c06d83db0", checked := Try.checked }
namespace Rows
def none {H : Type} : Left H := { results := [], args := [] }

/-- 'laws.FnLaidOk': WHATEVER THE INPUT: true; the input reads as it did. -/
def fnLaidOkSpec : ChangeSpec := { name := "fnLaidOk", fn := fun _ => fun
  | [d] => { results := [.lit (.bool true)], args := [d] }
  | _ => none }
def fnLaidOkRow : OpenClaim := { program := "ytipnldbdlimnhaa", sum := "1cebb8d0b74b42e9bc07144131f02df8b32da76ba9cc5eb4bbd4cc4c06d83db0", func := "loop.example/laidrectangles/laws.FnLaidOk", spec := "fnLaidOk", apart := false }
def FnLaidOkSaid : Prop := fnLaidOkRow.holds Try.pinned (OpenSpec.ofChange fnLaidOkSpec)

/-- ITS FALSE NEIGHBOUR: 'it returns false'. Refute it at one input. -/
def fnLaidOkWrong : ChangeSpec := { name := "fnLaidOk", fn := fun _ => fun
  | [d] => { results := [.lit (.bool false)], args := [d] }
  | _ => none }
def FnLaidOkWrongFalsely : Prop := fnLaidOkRow.holds Try.pinned (OpenSpec.ofChange fnLaidOkWrong)

/-- 'laws.FnUnionArea': WHATEVER THE INPUT: true; the input reads as it did. -/
def fnUnionAreaSpec : ChangeSpec := { name := "fnUnionArea", fn := fun _ => fun
  | [d] => { results := [.lit (.bool true)], args := [d] }
  | _ => none }
def fnUnionAreaRow : OpenClaim := { program := "ytipnldbdlimnhaa", sum := "1cebb8d0b74b42e9bc07144131f02df8b32da76ba9cc5eb4bbd4cc4c06d83db0", func := "loop.example/laidrectangles/laws.FnUnionArea", spec := "fnUnionArea", unfollowed := true, recurses := true, apart := false }
def FnUnionAreaSaid : Prop := fnUnionAreaRow.holds Try.pinned (OpenSpec.ofChange fnUnionAreaSpec)

/-- ITS FALSE NEIGHBOUR: 'it returns false'. Refute it at one input. -/
def fnUnionAreaWrong : ChangeSpec := { name := "fnUnionArea", fn := fun _ => fun
  | [d] => { results := [.lit (.bool false)], args := [d] }
  | _ => none }
def FnUnionAreaWrongFalsely : Prop := fnUnionAreaRow.holds Try.pinned (OpenSpec.ofChange fnUnionAreaWrong)

/-- 'laws.FnAllCommon': WHATEVER THE INPUT: true; the input reads as it did. -/
def fnAllCommonSpec : ChangeSpec := { name := "fnAllCommon", fn := fun _ => fun
  | [d] => { results := [.lit (.bool true)], args := [d] }
  | _ => none }
def fnAllCommonRow : OpenClaim := { program := "ytipnldbdlimnhaa", sum := "1cebb8d0b74b42e9bc07144131f02df8b32da76ba9cc5eb4bbd4cc4c06d83db0", func := "loop.example/laidrectangles/laws.FnAllCommon", spec := "fnAllCommon", apart := false }
def FnAllCommonSaid : Prop := fnAllCommonRow.holds Try.pinned (OpenSpec.ofChange fnAllCommonSpec)

/-- ITS FALSE NEIGHBOUR: 'it returns false'. Refute it at one input. -/
def fnAllCommonWrong : ChangeSpec := { name := "fnAllCommon", fn := fun _ => fun
  | [d] => { results := [.lit (.bool false)], args := [d] }
  | _ => none }
def FnAllCommonWrongFalsely : Prop := fnAllCommonRow.holds Try.pinned (OpenSpec.ofChange fnAllCommonWrong)

/-- 'laws.FnSumsOf': WHATEVER THE INPUT: true; the input reads as it did. -/
def fnSumsOfSpec : ChangeSpec := { name := "fnSumsOf", fn := fun _ => fun
  | [d] => { results := [.lit (.bool true)], args := [d] }
  | _ => none }
def fnSumsOfRow : OpenClaim := { program := "ytipnldbdlimnhaa", sum := "1cebb8d0b74b42e9bc07144131f02df8b32da76ba9cc5eb4bbd4cc4c06d83db0", func := "loop.example/laidrectangles/laws.FnSumsOf", spec := "fnSumsOf", unfollowed := true, recurses := true, apart := false }
def FnSumsOfSaid : Prop := fnSumsOfRow.holds Try.pinned (OpenSpec.ofChange fnSumsOfSpec)

/-- ITS FALSE NEIGHBOUR: 'it returns false'. Refute it at one input. -/
def fnSumsOfWrong : ChangeSpec := { name := "fnSumsOf", fn := fun _ => fun
  | [d] => { results := [.lit (.bool false)], args := [d] }
  | _ => none }
def FnSumsOfWrongFalsely : Prop := fnSumsOfRow.holds Try.pinned (OpenSpec.ofChange fnSumsOfWrong)

/-- 'laws.FnWithOne': WHATEVER THE INPUT: true; the input reads as it did. -/
def fnWithOneSpec : ChangeSpec := { name := "fnWithOne", fn := fun _ => fun
  | [d] => { results := [.lit (.bool true)], args := [d] }
  | _ => none }
def fnWithOneRow : OpenClaim := { program := "ytipnldbdlimnhaa", sum := "1cebb8d0b74b42e9bc07144131f02df8b32da76ba9cc5eb4bbd4cc4c06d83db0", func := "loop.example/laidrectangles/laws.FnWithOne", spec := "fnWithOne", apart := false }
def FnWithOneSaid : Prop := fnWithOneRow.holds Try.pinned (OpenSpec.ofChange fnWithOneSpec)

/-- ITS FALSE NEIGHBOUR: 'it returns false'. Refute it at one input. -/
def fnWithOneWrong : ChangeSpec := { name := "fnWithOne", fn := fun _ => fun
  | [d] => { results := [.lit (.bool false)], args := [d] }
  | _ => none }
def FnWithOneWrongFalsely : Prop := fnWithOneRow.holds Try.pinned (OpenSpec.ofChange fnWithOneWrong)

/-- 'laws.FnExactLaidOk': WHATEVER THE INPUT: true; the input reads as it did. -/
def fnExactLaidOkSpec : ChangeSpec := { name := "fnExactLaidOk", fn := fun _ => fun
  | [d] => { results := [.lit (.bool true)], args := [d] }
  | _ => none }
def fnExactLaidOkRow : OpenClaim := { program := "ytipnldbdlimnhaa", sum := "1cebb8d0b74b42e9bc07144131f02df8b32da76ba9cc5eb4bbd4cc4c06d83db0", func := "loop.example/laidrectangles/laws.FnExactLaidOk", spec := "fnExactLaidOk", apart := false }
def FnExactLaidOkSaid : Prop := fnExactLaidOkRow.holds Try.pinned (OpenSpec.ofChange fnExactLaidOkSpec)

/-- ITS FALSE NEIGHBOUR: 'it returns false'. Refute it at one input. -/
def fnExactLaidOkWrong : ChangeSpec := { name := "fnExactLaidOk", fn := fun _ => fun
  | [d] => { results := [.lit (.bool false)], args := [d] }
  | _ => none }
def FnExactLaidOkWrongFalsely : Prop := fnExactLaidOkRow.holds Try.pinned (OpenSpec.ofChange fnExactLaidOkWrong)

/-- 'laws.FnExactUnionArea': WHATEVER THE INPUT: true; the input reads as it did. -/
def fnExactUnionAreaSpec : ChangeSpec := { name := "fnExactUnionArea", fn := fun _ => fun
  | [d] => { results := [.lit (.bool true)], args := [d] }
  | _ => none }
def fnExactUnionAreaRow : OpenClaim := { program := "ytipnldbdlimnhaa", sum := "1cebb8d0b74b42e9bc07144131f02df8b32da76ba9cc5eb4bbd4cc4c06d83db0", func := "loop.example/laidrectangles/laws.FnExactUnionArea", spec := "fnExactUnionArea", apart := false }
def FnExactUnionAreaSaid : Prop := fnExactUnionAreaRow.holds Try.pinned (OpenSpec.ofChange fnExactUnionAreaSpec)

/-- ITS FALSE NEIGHBOUR: 'it returns false'. Refute it at one input. -/
def fnExactUnionAreaWrong : ChangeSpec := { name := "fnExactUnionArea", fn := fun _ => fun
  | [d] => { results := [.lit (.bool false)], args := [d] }
  | _ => none }
def FnExactUnionAreaWrongFalsely : Prop := fnExactUnionAreaRow.holds Try.pinned (OpenSpec.ofChange fnExactUnionAreaWrong)

/-- 'laws.FnExactAllCommon': WHATEVER THE INPUT: true; the input reads as it did. -/
def fnExactAllCommonSpec : ChangeSpec := { name := "fnExactAllCommon", fn := fun _ => fun
  | [d] => { results := [.lit (.bool true)], args := [d] }
  | _ => none }
def fnExactAllCommonRow : OpenClaim := { program := "ytipnldbdlimnhaa", sum := "1cebb8d0b74b42e9bc07144131f02df8b32da76ba9cc5eb4bbd4cc4c06d83db0", func := "loop.example/laidrectangles/laws.FnExactAllCommon", spec := "fnExactAllCommon", apart := false }
def FnExactAllCommonSaid : Prop := fnExactAllCommonRow.holds Try.pinned (OpenSpec.ofChange fnExactAllCommonSpec)

/-- ITS FALSE NEIGHBOUR: 'it returns false'. Refute it at one input. -/
def fnExactAllCommonWrong : ChangeSpec := { name := "fnExactAllCommon", fn := fun _ => fun
  | [d] => { results := [.lit (.bool false)], args := [d] }
  | _ => none }
def FnExactAllCommonWrongFalsely : Prop := fnExactAllCommonRow.holds Try.pinned (OpenSpec.ofChange fnExactAllCommonWrong)

/-- 'laws.FnExactSumsOf': WHATEVER THE INPUT: true; the input reads as it did. -/
def fnExactSumsOfSpec : ChangeSpec := { name := "fnExactSumsOf", fn := fun _ => fun
  | [d] => { results := [.lit (.bool true)], args := [d] }
  | _ => none }
def fnExactSumsOfRow : OpenClaim := { program := "ytipnldbdlimnhaa", sum := "1cebb8d0b74b42e9bc07144131f02df8b32da76ba9cc5eb4bbd4cc4c06d83db0", func := "loop.example/laidrectangles/laws.FnExactSumsOf", spec := "fnExactSumsOf", unfollowed := true, recurses := true, apart := false }
def FnExactSumsOfSaid : Prop := fnExactSumsOfRow.holds Try.pinned (OpenSpec.ofChange fnExactSumsOfSpec)

/-- ITS FALSE NEIGHBOUR: 'it returns false'. Refute it at one input. -/
def fnExactSumsOfWrong : ChangeSpec := { name := "fnExactSumsOf", fn := fun _ => fun
  | [d] => { results := [.lit (.bool false)], args := [d] }
  | _ => none }
def FnExactSumsOfWrongFalsely : Prop := fnExactSumsOfRow.holds Try.pinned (OpenSpec.ofChange fnExactSumsOfWrong)

/-- 'laws.FnExactWithOne': WHATEVER THE INPUT: true; the input reads as it did. -/
def fnExactWithOneSpec : ChangeSpec := { name := "fnExactWithOne", fn := fun _ => fun
  | [d1, d2] => { results := [.lit (.bool true)], args := [d1, d2] }
  | _ => none }
def fnExactWithOneRow : OpenClaim := { program := "ytipnldbdlimnhaa", sum := "1cebb8d0b74b42e9bc07144131f02df8b32da76ba9cc5eb4bbd4cc4c06d83db0", func := "loop.example/laidrectangles/laws.FnExactWithOne", spec := "fnExactWithOne", apart := false }
def FnExactWithOneSaid : Prop := fnExactWithOneRow.holds Try.pinned (OpenSpec.ofChange fnExactWithOneSpec)

/-- ITS FALSE NEIGHBOUR: 'it returns false'. Refute it at one input. -/
def fnExactWithOneWrong : ChangeSpec := { name := "fnExactWithOne", fn := fun _ => fun
  | [d1, d2] => { results := [.lit (.bool false)], args := [d1, d2] }
  | _ => none }
def FnExactWithOneWrongFalsely : Prop := fnExactWithOneRow.holds Try.pinned (OpenSpec.ofChange fnExactWithOneWrong)

/- THE SECOND FORM. 'bulk': how many values and letters a reading holds, each counted each time it is reached (what is shared counts as often as it is met; a slice's spare places count too). A statement '..UptoSaid' is the law's where the arguments, and the package variables that the reading takes, are together of bulk at most 1048576: NARROWER than '..Said'. Prove '..Said' where nothing that the law and all that it calls make is longer than what came in: it says more and counts as full. Else prove '..UptoSaid'. A law counts once. -/
mutual
def uptoBulk {H : Type} : DataW H → Nat
  | .lit (.string bytes) => bytes.length + 1
  | .lit _ => 1
  | .nil => 1
  | .ptr d => uptoBulk d + 1
  | .slice elems spare => uptoBulkAll elems + uptoBulkAll spare + 1
  | .agg parts => uptoBulkAll parts + 1
  | .iface _ d => uptoBulk d + 1
  | .map entries => uptoBulkEntries entries + 1
  | .held _ => 1
def uptoBulkAll {H : Type} : List (DataW H) → Nat
  | [] => 0
  | d :: r => uptoBulk d + uptoBulkAll r
def uptoBulkEntries {H : Type} : List (Lit × DataW H) → Nat
  | [] => 0
  | x :: r => uptoBulkEntry x + uptoBulkEntries r
def uptoBulkEntry {H : Type} : Lit × DataW H → Nat
  | (.string bytes, d) => bytes.length + uptoBulk d + 1
  | (_, d) => uptoBulk d + 1
 end
def uptoSmall : (H : Type) → List (DataW H) → Bool := fun _ ds => decide (uptoBulkAll ds ≤ 1048576)
def OpenSpec.upto (s : _root_.Go.ChangeSpec) : _root_.Go.OpenSpec := { _root_.Go.OpenSpec.ofChange s with cond := some uptoSmall }

/-- 'laws.FnLaidOk', WHERE WHAT IT READS IS OF BULK AT MOST 1048576: true; the input reads as it did. -/
def fnLaidOkUptoRow : OpenClaim := { program := "ytipnldbdlimnhaa", sum := "1cebb8d0b74b42e9bc07144131f02df8b32da76ba9cc5eb4bbd4cc4c06d83db0", func := "loop.example/laidrectangles/laws.FnLaidOk", spec := "fnLaidOk", apart := false, narrowed := true }
def FnLaidOkUptoSaid : Prop := fnLaidOkUptoRow.holds Try.pinned (OpenSpec.upto fnLaidOkSpec)

/-- 'laws.FnUnionArea', WHERE WHAT IT READS IS OF BULK AT MOST 1048576: true; the input reads as it did. -/
def fnUnionAreaUptoRow : OpenClaim := { program := "ytipnldbdlimnhaa", sum := "1cebb8d0b74b42e9bc07144131f02df8b32da76ba9cc5eb4bbd4cc4c06d83db0", func := "loop.example/laidrectangles/laws.FnUnionArea", spec := "fnUnionArea", unfollowed := true, recurses := true, apart := false, narrowed := true }
def FnUnionAreaUptoSaid : Prop := fnUnionAreaUptoRow.holds Try.pinned (OpenSpec.upto fnUnionAreaSpec)

/-- 'laws.FnAllCommon', WHERE WHAT IT READS IS OF BULK AT MOST 1048576: true; the input reads as it did. -/
def fnAllCommonUptoRow : OpenClaim := { program := "ytipnldbdlimnhaa", sum := "1cebb8d0b74b42e9bc07144131f02df8b32da76ba9cc5eb4bbd4cc4c06d83db0", func := "loop.example/laidrectangles/laws.FnAllCommon", spec := "fnAllCommon", apart := false, narrowed := true }
def FnAllCommonUptoSaid : Prop := fnAllCommonUptoRow.holds Try.pinned (OpenSpec.upto fnAllCommonSpec)

/-- 'laws.FnSumsOf', WHERE WHAT IT READS IS OF BULK AT MOST 1048576: true; the input reads as it did. -/
def fnSumsOfUptoRow : OpenClaim := { program := "ytipnldbdlimnhaa", sum := "1cebb8d0b74b42e9bc07144131f02df8b32da76ba9cc5eb4bbd4cc4c06d83db0", func := "loop.example/laidrectangles/laws.FnSumsOf", spec := "fnSumsOf", unfollowed := true, recurses := true, apart := false, narrowed := true }
def FnSumsOfUptoSaid : Prop := fnSumsOfUptoRow.holds Try.pinned (OpenSpec.upto fnSumsOfSpec)

/-- 'laws.FnWithOne', WHERE WHAT IT READS IS OF BULK AT MOST 1048576: true; the input reads as it did. -/
def fnWithOneUptoRow : OpenClaim := { program := "ytipnldbdlimnhaa", sum := "1cebb8d0b74b42e9bc07144131f02df8b32da76ba9cc5eb4bbd4cc4c06d83db0", func := "loop.example/laidrectangles/laws.FnWithOne", spec := "fnWithOne", apart := false, narrowed := true }
def FnWithOneUptoSaid : Prop := fnWithOneUptoRow.holds Try.pinned (OpenSpec.upto fnWithOneSpec)

/-- 'laws.FnExactLaidOk', WHERE WHAT IT READS IS OF BULK AT MOST 1048576: true; the input reads as it did. -/
def fnExactLaidOkUptoRow : OpenClaim := { program := "ytipnldbdlimnhaa", sum := "1cebb8d0b74b42e9bc07144131f02df8b32da76ba9cc5eb4bbd4cc4c06d83db0", func := "loop.example/laidrectangles/laws.FnExactLaidOk", spec := "fnExactLaidOk", apart := false, narrowed := true }
def FnExactLaidOkUptoSaid : Prop := fnExactLaidOkUptoRow.holds Try.pinned (OpenSpec.upto fnExactLaidOkSpec)

/-- 'laws.FnExactUnionArea', WHERE WHAT IT READS IS OF BULK AT MOST 1048576: true; the input reads as it did. -/
def fnExactUnionAreaUptoRow : OpenClaim := { program := "ytipnldbdlimnhaa", sum := "1cebb8d0b74b42e9bc07144131f02df8b32da76ba9cc5eb4bbd4cc4c06d83db0", func := "loop.example/laidrectangles/laws.FnExactUnionArea", spec := "fnExactUnionArea", apart := false, narrowed := true }
def FnExactUnionAreaUptoSaid : Prop := fnExactUnionAreaUptoRow.holds Try.pinned (OpenSpec.upto fnExactUnionAreaSpec)

/-- 'laws.FnExactAllCommon', WHERE WHAT IT READS IS OF BULK AT MOST 1048576: true; the input reads as it did. -/
def fnExactAllCommonUptoRow : OpenClaim := { program := "ytipnldbdlimnhaa", sum := "1cebb8d0b74b42e9bc07144131f02df8b32da76ba9cc5eb4bbd4cc4c06d83db0", func := "loop.example/laidrectangles/laws.FnExactAllCommon", spec := "fnExactAllCommon", apart := false, narrowed := true }
def FnExactAllCommonUptoSaid : Prop := fnExactAllCommonUptoRow.holds Try.pinned (OpenSpec.upto fnExactAllCommonSpec)

/-- 'laws.FnExactSumsOf', WHERE WHAT IT READS IS OF BULK AT MOST 1048576: true; the input reads as it did. -/
def fnExactSumsOfUptoRow : OpenClaim := { program := "ytipnldbdlimnhaa", sum := "1cebb8d0b74b42e9bc07144131f02df8b32da76ba9cc5eb4bbd4cc4c06d83db0", func := "loop.example/laidrectangles/laws.FnExactSumsOf", spec := "fnExactSumsOf", unfollowed := true, recurses := true, apart := false, narrowed := true }
def FnExactSumsOfUptoSaid : Prop := fnExactSumsOfUptoRow.holds Try.pinned (OpenSpec.upto fnExactSumsOfSpec)

/-- 'laws.FnExactWithOne', WHERE WHAT IT READS IS OF BULK AT MOST 1048576: true; the input reads as it did. -/
def fnExactWithOneUptoRow : OpenClaim := { program := "ytipnldbdlimnhaa", sum := "1cebb8d0b74b42e9bc07144131f02df8b32da76ba9cc5eb4bbd4cc4c06d83db0", func := "loop.example/laidrectangles/laws.FnExactWithOne", spec := "fnExactWithOne", apart := false, narrowed := true }
def FnExactWithOneUptoSaid : Prop := fnExactWithOneUptoRow.holds Try.pinned (OpenSpec.upto fnExactWithOneSpec)

end Rows
end Go.Proofs.Ytipnldbdlimnhaa

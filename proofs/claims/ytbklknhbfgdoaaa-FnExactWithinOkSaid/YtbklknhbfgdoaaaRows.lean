/-
  No cell of these rows narrows 'for every input' (looked for: loops, veiled, ifaces, maps, wideKeys, modest, calm, conditions, laid).
  DERIVED. THE GIVEN ROWS OF THIS SEAT. 14 by the template 'for every input the law returns true; each argument reads behind the call as it read before'; 0 by the template 'total and deterministic' (their statements: YtbklknhbfgdoaaaTotals.lean).
  GIVEN WITH THE SEED: the statements are not yours to turn. If you find one false, say at which input.
  Laid BY PROGRAM, IN A SANDBOX (cutbox-rows.mjs): the forced cells as the released guide's own fill.sh prints them over the translation 33d1b84ed0ff5038… (all of the seat's roots in one cut). By AI agents, Wed Nov 11 2026. No macro, syntax, notation, axiom, sorry.
-/
import Derived.Test.YtbklknhbfgdoaaaChecked
import GoSem.Claim
import GoSem.ClaimJoined
import GoSem.ClaimMapViews
import Derived.JoinedTies
import Derived.KernelRfl
namespace Go.Proofs.Ytbklknhbfgdoaaa
/- THE CELL 'sum', in the pinned program and in every row, IS THE sha256 OF THE DUMP (.gsa) THAT YtbklknhbfgdoaaaProg.lean LOADS. Nothing in Lean hashes anything: it is a label: what it is worth is what the hold of that sum in a sandbox is worth. -/
noncomputable def Try.pinned : Pinned := { name := "ytbklknhbfgdoaaa", sum := "33d1b84ed0ff5038260891207f584bcc86097bdf1074e0460bdfad72fbb802be", checked := Try.checked }
namespace Rows
def none {H : Type} : Left H := { results := [], args := [] }

/-- 'laws.FnRectOk': WHATEVER THE INPUT: true; the input reads as it did. -/
def fnRectOkSpec : ChangeSpec := { name := "fnRectOk", fn := fun _ => fun
  | [d] => { results := [.lit (.bool true)], args := [d] }
  | _ => none }
def fnRectOkRow : OpenClaim := { program := "ytbklknhbfgdoaaa", sum := "33d1b84ed0ff5038260891207f584bcc86097bdf1074e0460bdfad72fbb802be", func := "loop.example/laidrectangles/laws.FnRectOk", spec := "fnRectOk", apart := false }
def FnRectOkSaid : Prop := fnRectOkRow.holds Try.pinned (OpenSpec.ofChange fnRectOkSpec)

/-- ITS FALSE NEIGHBOUR: 'it returns false'. Refute it at one input. -/
def fnRectOkWrong : ChangeSpec := { name := "fnRectOk", fn := fun _ => fun
  | [d] => { results := [.lit (.bool false)], args := [d] }
  | _ => none }
def FnRectOkWrongFalsely : Prop := fnRectOkRow.holds Try.pinned (OpenSpec.ofChange fnRectOkWrong)

/-- 'laws.FnAreaOf': WHATEVER THE INPUT: true; the input reads as it did. -/
def fnAreaOfSpec : ChangeSpec := { name := "fnAreaOf", fn := fun _ => fun
  | [d] => { results := [.lit (.bool true)], args := [d] }
  | _ => none }
def fnAreaOfRow : OpenClaim := { program := "ytbklknhbfgdoaaa", sum := "33d1b84ed0ff5038260891207f584bcc86097bdf1074e0460bdfad72fbb802be", func := "loop.example/laidrectangles/laws.FnAreaOf", spec := "fnAreaOf", apart := false }
def FnAreaOfSaid : Prop := fnAreaOfRow.holds Try.pinned (OpenSpec.ofChange fnAreaOfSpec)

/-- ITS FALSE NEIGHBOUR: 'it returns false'. Refute it at one input. -/
def fnAreaOfWrong : ChangeSpec := { name := "fnAreaOf", fn := fun _ => fun
  | [d] => { results := [.lit (.bool false)], args := [d] }
  | _ => none }
def FnAreaOfWrongFalsely : Prop := fnAreaOfRow.holds Try.pinned (OpenSpec.ofChange fnAreaOfWrong)

/-- 'laws.FnCommonOf': WHATEVER THE INPUT: true; the input reads as it did. -/
def fnCommonOfSpec : ChangeSpec := { name := "fnCommonOf", fn := fun _ => fun
  | [d1, d2] => { results := [.lit (.bool true)], args := [d1, d2] }
  | _ => none }
def fnCommonOfRow : OpenClaim := { program := "ytbklknhbfgdoaaa", sum := "33d1b84ed0ff5038260891207f584bcc86097bdf1074e0460bdfad72fbb802be", func := "loop.example/laidrectangles/laws.FnCommonOf", spec := "fnCommonOf", apart := false }
def FnCommonOfSaid : Prop := fnCommonOfRow.holds Try.pinned (OpenSpec.ofChange fnCommonOfSpec)

/-- ITS FALSE NEIGHBOUR: 'it returns false'. Refute it at one input. -/
def fnCommonOfWrong : ChangeSpec := { name := "fnCommonOf", fn := fun _ => fun
  | [d1, d2] => { results := [.lit (.bool false)], args := [d1, d2] }
  | _ => none }
def FnCommonOfWrongFalsely : Prop := fnCommonOfRow.holds Try.pinned (OpenSpec.ofChange fnCommonOfWrong)

/-- 'laws.FnAroundOf': WHATEVER THE INPUT: true; the input reads as it did. -/
def fnAroundOfSpec : ChangeSpec := { name := "fnAroundOf", fn := fun _ => fun
  | [d1, d2] => { results := [.lit (.bool true)], args := [d1, d2] }
  | _ => none }
def fnAroundOfRow : OpenClaim := { program := "ytbklknhbfgdoaaa", sum := "33d1b84ed0ff5038260891207f584bcc86097bdf1074e0460bdfad72fbb802be", func := "loop.example/laidrectangles/laws.FnAroundOf", spec := "fnAroundOf", apart := false }
def FnAroundOfSaid : Prop := fnAroundOfRow.holds Try.pinned (OpenSpec.ofChange fnAroundOfSpec)

/-- ITS FALSE NEIGHBOUR: 'it returns false'. Refute it at one input. -/
def fnAroundOfWrong : ChangeSpec := { name := "fnAroundOf", fn := fun _ => fun
  | [d1, d2] => { results := [.lit (.bool false)], args := [d1, d2] }
  | _ => none }
def FnAroundOfWrongFalsely : Prop := fnAroundOfRow.holds Try.pinned (OpenSpec.ofChange fnAroundOfWrong)

/-- 'laws.FnWithinOk': WHATEVER THE INPUT: true; the input reads as it did. -/
def fnWithinOkSpec : ChangeSpec := { name := "fnWithinOk", fn := fun _ => fun
  | [d] => { results := [.lit (.bool true)], args := [d] }
  | _ => none }
def fnWithinOkRow : OpenClaim := { program := "ytbklknhbfgdoaaa", sum := "33d1b84ed0ff5038260891207f584bcc86097bdf1074e0460bdfad72fbb802be", func := "loop.example/laidrectangles/laws.FnWithinOk", spec := "fnWithinOk", apart := false }
def FnWithinOkSaid : Prop := fnWithinOkRow.holds Try.pinned (OpenSpec.ofChange fnWithinOkSpec)

/-- ITS FALSE NEIGHBOUR: 'it returns false'. Refute it at one input. -/
def fnWithinOkWrong : ChangeSpec := { name := "fnWithinOk", fn := fun _ => fun
  | [d] => { results := [.lit (.bool false)], args := [d] }
  | _ => none }
def FnWithinOkWrongFalsely : Prop := fnWithinOkRow.holds Try.pinned (OpenSpec.ofChange fnWithinOkWrong)

/-- 'laws.FnMovedBy': WHATEVER THE INPUT: true; the input reads as it did. -/
def fnMovedBySpec : ChangeSpec := { name := "fnMovedBy", fn := fun _ => fun
  | [d] => { results := [.lit (.bool true)], args := [d] }
  | _ => none }
def fnMovedByRow : OpenClaim := { program := "ytbklknhbfgdoaaa", sum := "33d1b84ed0ff5038260891207f584bcc86097bdf1074e0460bdfad72fbb802be", func := "loop.example/laidrectangles/laws.FnMovedBy", spec := "fnMovedBy", apart := false }
def FnMovedBySaid : Prop := fnMovedByRow.holds Try.pinned (OpenSpec.ofChange fnMovedBySpec)

/-- ITS FALSE NEIGHBOUR: 'it returns false'. Refute it at one input. -/
def fnMovedByWrong : ChangeSpec := { name := "fnMovedBy", fn := fun _ => fun
  | [d] => { results := [.lit (.bool false)], args := [d] }
  | _ => none }
def FnMovedByWrongFalsely : Prop := fnMovedByRow.holds Try.pinned (OpenSpec.ofChange fnMovedByWrong)

/-- 'laws.FnOverOf': WHATEVER THE INPUT: true; the input reads as it did. -/
def fnOverOfSpec : ChangeSpec := { name := "fnOverOf", fn := fun _ => fun
  | [d] => { results := [.lit (.bool true)], args := [d] }
  | _ => none }
def fnOverOfRow : OpenClaim := { program := "ytbklknhbfgdoaaa", sum := "33d1b84ed0ff5038260891207f584bcc86097bdf1074e0460bdfad72fbb802be", func := "loop.example/laidrectangles/laws.FnOverOf", spec := "fnOverOf", apart := false }
def FnOverOfSaid : Prop := fnOverOfRow.holds Try.pinned (OpenSpec.ofChange fnOverOfSpec)

/-- ITS FALSE NEIGHBOUR: 'it returns false'. Refute it at one input. -/
def fnOverOfWrong : ChangeSpec := { name := "fnOverOf", fn := fun _ => fun
  | [d] => { results := [.lit (.bool false)], args := [d] }
  | _ => none }
def FnOverOfWrongFalsely : Prop := fnOverOfRow.holds Try.pinned (OpenSpec.ofChange fnOverOfWrong)

/-- 'laws.FnExactRectOk': WHATEVER THE INPUT: true; the input reads as it did. -/
def fnExactRectOkSpec : ChangeSpec := { name := "fnExactRectOk", fn := fun _ => fun
  | [d] => { results := [.lit (.bool true)], args := [d] }
  | _ => none }
def fnExactRectOkRow : OpenClaim := { program := "ytbklknhbfgdoaaa", sum := "33d1b84ed0ff5038260891207f584bcc86097bdf1074e0460bdfad72fbb802be", func := "loop.example/laidrectangles/laws.FnExactRectOk", spec := "fnExactRectOk", apart := false }
def FnExactRectOkSaid : Prop := fnExactRectOkRow.holds Try.pinned (OpenSpec.ofChange fnExactRectOkSpec)

/-- ITS FALSE NEIGHBOUR: 'it returns false'. Refute it at one input. -/
def fnExactRectOkWrong : ChangeSpec := { name := "fnExactRectOk", fn := fun _ => fun
  | [d] => { results := [.lit (.bool false)], args := [d] }
  | _ => none }
def FnExactRectOkWrongFalsely : Prop := fnExactRectOkRow.holds Try.pinned (OpenSpec.ofChange fnExactRectOkWrong)

/-- 'laws.FnExactAreaOf': WHATEVER THE INPUT: true; the input reads as it did. -/
def fnExactAreaOfSpec : ChangeSpec := { name := "fnExactAreaOf", fn := fun _ => fun
  | [d] => { results := [.lit (.bool true)], args := [d] }
  | _ => none }
def fnExactAreaOfRow : OpenClaim := { program := "ytbklknhbfgdoaaa", sum := "33d1b84ed0ff5038260891207f584bcc86097bdf1074e0460bdfad72fbb802be", func := "loop.example/laidrectangles/laws.FnExactAreaOf", spec := "fnExactAreaOf", apart := false }
def FnExactAreaOfSaid : Prop := fnExactAreaOfRow.holds Try.pinned (OpenSpec.ofChange fnExactAreaOfSpec)

/-- ITS FALSE NEIGHBOUR: 'it returns false'. Refute it at one input. -/
def fnExactAreaOfWrong : ChangeSpec := { name := "fnExactAreaOf", fn := fun _ => fun
  | [d] => { results := [.lit (.bool false)], args := [d] }
  | _ => none }
def FnExactAreaOfWrongFalsely : Prop := fnExactAreaOfRow.holds Try.pinned (OpenSpec.ofChange fnExactAreaOfWrong)

/-- 'laws.FnExactCommonOf': WHATEVER THE INPUT: true; the input reads as it did. -/
def fnExactCommonOfSpec : ChangeSpec := { name := "fnExactCommonOf", fn := fun _ => fun
  | [d1, d2] => { results := [.lit (.bool true)], args := [d1, d2] }
  | _ => none }
def fnExactCommonOfRow : OpenClaim := { program := "ytbklknhbfgdoaaa", sum := "33d1b84ed0ff5038260891207f584bcc86097bdf1074e0460bdfad72fbb802be", func := "loop.example/laidrectangles/laws.FnExactCommonOf", spec := "fnExactCommonOf", apart := false }
def FnExactCommonOfSaid : Prop := fnExactCommonOfRow.holds Try.pinned (OpenSpec.ofChange fnExactCommonOfSpec)

/-- ITS FALSE NEIGHBOUR: 'it returns false'. Refute it at one input. -/
def fnExactCommonOfWrong : ChangeSpec := { name := "fnExactCommonOf", fn := fun _ => fun
  | [d1, d2] => { results := [.lit (.bool false)], args := [d1, d2] }
  | _ => none }
def FnExactCommonOfWrongFalsely : Prop := fnExactCommonOfRow.holds Try.pinned (OpenSpec.ofChange fnExactCommonOfWrong)

/-- 'laws.FnExactAroundOf': WHATEVER THE INPUT: true; the input reads as it did. -/
def fnExactAroundOfSpec : ChangeSpec := { name := "fnExactAroundOf", fn := fun _ => fun
  | [d1, d2] => { results := [.lit (.bool true)], args := [d1, d2] }
  | _ => none }
def fnExactAroundOfRow : OpenClaim := { program := "ytbklknhbfgdoaaa", sum := "33d1b84ed0ff5038260891207f584bcc86097bdf1074e0460bdfad72fbb802be", func := "loop.example/laidrectangles/laws.FnExactAroundOf", spec := "fnExactAroundOf", apart := false }
def FnExactAroundOfSaid : Prop := fnExactAroundOfRow.holds Try.pinned (OpenSpec.ofChange fnExactAroundOfSpec)

/-- ITS FALSE NEIGHBOUR: 'it returns false'. Refute it at one input. -/
def fnExactAroundOfWrong : ChangeSpec := { name := "fnExactAroundOf", fn := fun _ => fun
  | [d1, d2] => { results := [.lit (.bool false)], args := [d1, d2] }
  | _ => none }
def FnExactAroundOfWrongFalsely : Prop := fnExactAroundOfRow.holds Try.pinned (OpenSpec.ofChange fnExactAroundOfWrong)

/-- 'laws.FnExactWithinOk': WHATEVER THE INPUT: true; the input reads as it did. -/
def fnExactWithinOkSpec : ChangeSpec := { name := "fnExactWithinOk", fn := fun _ => fun
  | [d1, d2] => { results := [.lit (.bool true)], args := [d1, d2] }
  | _ => none }
def fnExactWithinOkRow : OpenClaim := { program := "ytbklknhbfgdoaaa", sum := "33d1b84ed0ff5038260891207f584bcc86097bdf1074e0460bdfad72fbb802be", func := "loop.example/laidrectangles/laws.FnExactWithinOk", spec := "fnExactWithinOk", apart := false }
def FnExactWithinOkSaid : Prop := fnExactWithinOkRow.holds Try.pinned (OpenSpec.ofChange fnExactWithinOkSpec)

/-- ITS FALSE NEIGHBOUR: 'it returns false'. Refute it at one input. -/
def fnExactWithinOkWrong : ChangeSpec := { name := "fnExactWithinOk", fn := fun _ => fun
  | [d1, d2] => { results := [.lit (.bool false)], args := [d1, d2] }
  | _ => none }
def FnExactWithinOkWrongFalsely : Prop := fnExactWithinOkRow.holds Try.pinned (OpenSpec.ofChange fnExactWithinOkWrong)

/-- 'laws.FnExactMovedBy': WHATEVER THE INPUT: true; the input reads as it did. -/
def fnExactMovedBySpec : ChangeSpec := { name := "fnExactMovedBy", fn := fun _ => fun
  | [d1, d2, d3] => { results := [.lit (.bool true)], args := [d1, d2, d3] }
  | _ => none }
def fnExactMovedByRow : OpenClaim := { program := "ytbklknhbfgdoaaa", sum := "33d1b84ed0ff5038260891207f584bcc86097bdf1074e0460bdfad72fbb802be", func := "loop.example/laidrectangles/laws.FnExactMovedBy", spec := "fnExactMovedBy", apart := false }
def FnExactMovedBySaid : Prop := fnExactMovedByRow.holds Try.pinned (OpenSpec.ofChange fnExactMovedBySpec)

/-- ITS FALSE NEIGHBOUR: 'it returns false'. Refute it at one input. -/
def fnExactMovedByWrong : ChangeSpec := { name := "fnExactMovedBy", fn := fun _ => fun
  | [d1, d2, d3] => { results := [.lit (.bool false)], args := [d1, d2, d3] }
  | _ => none }
def FnExactMovedByWrongFalsely : Prop := fnExactMovedByRow.holds Try.pinned (OpenSpec.ofChange fnExactMovedByWrong)

/-- 'laws.FnExactOverOf': WHATEVER THE INPUT: true; the input reads as it did. -/
def fnExactOverOfSpec : ChangeSpec := { name := "fnExactOverOf", fn := fun _ => fun
  | [d] => { results := [.lit (.bool true)], args := [d] }
  | _ => none }
def fnExactOverOfRow : OpenClaim := { program := "ytbklknhbfgdoaaa", sum := "33d1b84ed0ff5038260891207f584bcc86097bdf1074e0460bdfad72fbb802be", func := "loop.example/laidrectangles/laws.FnExactOverOf", spec := "fnExactOverOf", apart := false }
def FnExactOverOfSaid : Prop := fnExactOverOfRow.holds Try.pinned (OpenSpec.ofChange fnExactOverOfSpec)

/-- ITS FALSE NEIGHBOUR: 'it returns false'. Refute it at one input. -/
def fnExactOverOfWrong : ChangeSpec := { name := "fnExactOverOf", fn := fun _ => fun
  | [d] => { results := [.lit (.bool false)], args := [d] }
  | _ => none }
def FnExactOverOfWrongFalsely : Prop := fnExactOverOfRow.holds Try.pinned (OpenSpec.ofChange fnExactOverOfWrong)

/- THE SECOND FORM. 'bulk': how many values and letters a reading holds, each counted each time it is reached (what is shared counts as often as it is met; a slice's spare places count too). A statement '..UptoSaid' is the law's where the arguments, and the package variables that the reading takes, are together of bulk at most 1048576: NARROWER than '..Said'. Prove '..Said' where nothing that the law and all that it calls make is longer than what came in: it says more and counts as full. Else prove '..UptoSaid'. A law counts once. -/
mutual
def uptoBulk {H : Type} : DataW H → Nat
  | .lit (.string bytes) => bytes.length + 1
  | .lit _ => 1
  | .nil => 1
  | .ptr d => uptoBulk d + 1
  | .slice elems spare => uptoBulkAll elems + uptoBulkAll spare + 1
  | .agg parts => uptoBulkAll parts + 1
  | .iface _ d => uptoBulk d + 1
  | .map entries => uptoBulkEntries entries + 1
  | .held _ => 1
def uptoBulkAll {H : Type} : List (DataW H) → Nat
  | [] => 0
  | d :: r => uptoBulk d + uptoBulkAll r
def uptoBulkEntries {H : Type} : List (Lit × DataW H) → Nat
  | [] => 0
  | x :: r => uptoBulkEntry x + uptoBulkEntries r
def uptoBulkEntry {H : Type} : Lit × DataW H → Nat
  | (.string bytes, d) => bytes.length + uptoBulk d + 1
  | (_, d) => uptoBulk d + 1
 end
def uptoSmall : (H : Type) → List (DataW H) → Bool := fun _ ds => decide (uptoBulkAll ds ≤ 1048576)
def OpenSpec.upto (s : _root_.Go.ChangeSpec) : _root_.Go.OpenSpec := { _root_.Go.OpenSpec.ofChange s with cond := some uptoSmall }

/-- 'laws.FnRectOk', WHERE WHAT IT READS IS OF BULK AT MOST 1048576: true; the input reads as it did. -/
def fnRectOkUptoRow : OpenClaim := { program := "ytbklknhbfgdoaaa", sum := "33d1b84ed0ff5038260891207f584bcc86097bdf1074e0460bdfad72fbb802be", func := "loop.example/laidrectangles/laws.FnRectOk", spec := "fnRectOk", apart := false, narrowed := true }
def FnRectOkUptoSaid : Prop := fnRectOkUptoRow.holds Try.pinned (OpenSpec.upto fnRectOkSpec)

/-- 'laws.FnAreaOf', WHERE WHAT IT READS IS OF BULK AT MOST 1048576: true; the input reads as it did. -/
def fnAreaOfUptoRow : OpenClaim := { program := "ytbklknhbfgdoaaa", sum := "33d1b84ed0ff5038260891207f584bcc86097bdf1074e0460bdfad72fbb802be", func := "loop.example/laidrectangles/laws.FnAreaOf", spec := "fnAreaOf", apart := false, narrowed := true }
def FnAreaOfUptoSaid : Prop := fnAreaOfUptoRow.holds Try.pinned (OpenSpec.upto fnAreaOfSpec)

/-- 'laws.FnCommonOf', WHERE WHAT IT READS IS OF BULK AT MOST 1048576: true; the input reads as it did. -/
def fnCommonOfUptoRow : OpenClaim := { program := "ytbklknhbfgdoaaa", sum := "33d1b84ed0ff5038260891207f584bcc86097bdf1074e0460bdfad72fbb802be", func := "loop.example/laidrectangles/laws.FnCommonOf", spec := "fnCommonOf", apart := false, narrowed := true }
def FnCommonOfUptoSaid : Prop := fnCommonOfUptoRow.holds Try.pinned (OpenSpec.upto fnCommonOfSpec)

/-- 'laws.FnAroundOf', WHERE WHAT IT READS IS OF BULK AT MOST 1048576: true; the input reads as it did. -/
def fnAroundOfUptoRow : OpenClaim := { program := "ytbklknhbfgdoaaa", sum := "33d1b84ed0ff5038260891207f584bcc86097bdf1074e0460bdfad72fbb802be", func := "loop.example/laidrectangles/laws.FnAroundOf", spec := "fnAroundOf", apart := false, narrowed := true }
def FnAroundOfUptoSaid : Prop := fnAroundOfUptoRow.holds Try.pinned (OpenSpec.upto fnAroundOfSpec)

/-- 'laws.FnWithinOk', WHERE WHAT IT READS IS OF BULK AT MOST 1048576: true; the input reads as it did. -/
def fnWithinOkUptoRow : OpenClaim := { program := "ytbklknhbfgdoaaa", sum := "33d1b84ed0ff5038260891207f584bcc86097bdf1074e0460bdfad72fbb802be", func := "loop.example/laidrectangles/laws.FnWithinOk", spec := "fnWithinOk", apart := false, narrowed := true }
def FnWithinOkUptoSaid : Prop := fnWithinOkUptoRow.holds Try.pinned (OpenSpec.upto fnWithinOkSpec)

/-- 'laws.FnMovedBy', WHERE WHAT IT READS IS OF BULK AT MOST 1048576: true; the input reads as it did. -/
def fnMovedByUptoRow : OpenClaim := { program := "ytbklknhbfgdoaaa", sum := "33d1b84ed0ff5038260891207f584bcc86097bdf1074e0460bdfad72fbb802be", func := "loop.example/laidrectangles/laws.FnMovedBy", spec := "fnMovedBy", apart := false, narrowed := true }
def FnMovedByUptoSaid : Prop := fnMovedByUptoRow.holds Try.pinned (OpenSpec.upto fnMovedBySpec)

/-- 'laws.FnOverOf', WHERE WHAT IT READS IS OF BULK AT MOST 1048576: true; the input reads as it did. -/
def fnOverOfUptoRow : OpenClaim := { program := "ytbklknhbfgdoaaa", sum := "33d1b84ed0ff5038260891207f584bcc86097bdf1074e0460bdfad72fbb802be", func := "loop.example/laidrectangles/laws.FnOverOf", spec := "fnOverOf", apart := false, narrowed := true }
def FnOverOfUptoSaid : Prop := fnOverOfUptoRow.holds Try.pinned (OpenSpec.upto fnOverOfSpec)

/-- 'laws.FnExactRectOk', WHERE WHAT IT READS IS OF BULK AT MOST 1048576: true; the input reads as it did. -/
def fnExactRectOkUptoRow : OpenClaim := { program := "ytbklknhbfgdoaaa", sum := "33d1b84ed0ff5038260891207f584bcc86097bdf1074e0460bdfad72fbb802be", func := "loop.example/laidrectangles/laws.FnExactRectOk", spec := "fnExactRectOk", apart := false, narrowed := true }
def FnExactRectOkUptoSaid : Prop := fnExactRectOkUptoRow.holds Try.pinned (OpenSpec.upto fnExactRectOkSpec)

/-- 'laws.FnExactAreaOf', WHERE WHAT IT READS IS OF BULK AT MOST 1048576: true; the input reads as it did. -/
def fnExactAreaOfUptoRow : OpenClaim := { program := "ytbklknhbfgdoaaa", sum := "33d1b84ed0ff5038260891207f584bcc86097bdf1074e0460bdfad72fbb802be", func := "loop.example/laidrectangles/laws.FnExactAreaOf", spec := "fnExactAreaOf", apart := false, narrowed := true }
def FnExactAreaOfUptoSaid : Prop := fnExactAreaOfUptoRow.holds Try.pinned (OpenSpec.upto fnExactAreaOfSpec)

/-- 'laws.FnExactCommonOf', WHERE WHAT IT READS IS OF BULK AT MOST 1048576: true; the input reads as it did. -/
def fnExactCommonOfUptoRow : OpenClaim := { program := "ytbklknhbfgdoaaa", sum := "33d1b84ed0ff5038260891207f584bcc86097bdf1074e0460bdfad72fbb802be", func := "loop.example/laidrectangles/laws.FnExactCommonOf", spec := "fnExactCommonOf", apart := false, narrowed := true }
def FnExactCommonOfUptoSaid : Prop := fnExactCommonOfUptoRow.holds Try.pinned (OpenSpec.upto fnExactCommonOfSpec)

/-- 'laws.FnExactAroundOf', WHERE WHAT IT READS IS OF BULK AT MOST 1048576: true; the input reads as it did. -/
def fnExactAroundOfUptoRow : OpenClaim := { program := "ytbklknhbfgdoaaa", sum := "33d1b84ed0ff5038260891207f584bcc86097bdf1074e0460bdfad72fbb802be", func := "loop.example/laidrectangles/laws.FnExactAroundOf", spec := "fnExactAroundOf", apart := false, narrowed := true }
def FnExactAroundOfUptoSaid : Prop := fnExactAroundOfUptoRow.holds Try.pinned (OpenSpec.upto fnExactAroundOfSpec)

/-- 'laws.FnExactWithinOk', WHERE WHAT IT READS IS OF BULK AT MOST 1048576: true; the input reads as it did. -/
def fnExactWithinOkUptoRow : OpenClaim := { program := "ytbklknhbfgdoaaa", sum := "33d1b84ed0ff5038260891207f584bcc86097bdf1074e0460bdfad72fbb802be", func := "loop.example/laidrectangles/laws.FnExactWithinOk", spec := "fnExactWithinOk", apart := false, narrowed := true }
def FnExactWithinOkUptoSaid : Prop := fnExactWithinOkUptoRow.holds Try.pinned (OpenSpec.upto fnExactWithinOkSpec)

/-- 'laws.FnExactMovedBy', WHERE WHAT IT READS IS OF BULK AT MOST 1048576: true; the input reads as it did. -/
def fnExactMovedByUptoRow : OpenClaim := { program := "ytbklknhbfgdoaaa", sum := "33d1b84ed0ff5038260891207f584bcc86097bdf1074e0460bdfad72fbb802be", func := "loop.example/laidrectangles/laws.FnExactMovedBy", spec := "fnExactMovedBy", apart := false, narrowed := true }
def FnExactMovedByUptoSaid : Prop := fnExactMovedByUptoRow.holds Try.pinned (OpenSpec.upto fnExactMovedBySpec)

/-- 'laws.FnExactOverOf', WHERE WHAT IT READS IS OF BULK AT MOST 1048576: true; the input reads as it did. -/
def fnExactOverOfUptoRow : OpenClaim := { program := "ytbklknhbfgdoaaa", sum := "33d1b84ed0ff5038260891207f584bcc86097bdf1074e0460bdfad72fbb802be", func := "loop.example/laidrectangles/laws.FnExactOverOf", spec := "fnExactOverOf", apart := false, narrowed := true }
def FnExactOverOfUptoSaid : Prop := fnExactOverOfUptoRow.holds Try.pinned (OpenSpec.upto fnExactOverOfSpec)

end Rows
end Go.Proofs.Ytbklknhbfgdoaaa

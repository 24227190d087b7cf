/-
  No cell of these rows narrows 'for every input' (looked for: loops, veiled, ifaces, maps, wideKeys, modest, calm, conditions, laid).
  DERIVED. THE GIVEN ROWS OF THIS SEAT. 10 by the template 'for every input the law returns true; each argument reads behind the call as it read before'; 0 by the template 'total and deterministic' (their statements: YtkfeeijiockdhaaTotals.lean).
  GIVEN WITH THE SEED: the statements are not yours to turn. If you find one false, say at which input.
  Laid BY PROGRAM, IN A SANDBOX (cutbox-rows.mjs): the forced cells as the released guide's own fill.sh prints them over the translation 102e18ac7c627806… (all of the seat's roots in one cut). By AI agents, Wed Nov 11 2026. No macro, syntax, notation, axiom, sorry.
-/
import Derived.Test.YtkfeeijiockdhaaChecked
import GoSem.Claim
import GoSem.ClaimJoined
import GoSem.ClaimMapViews
import Derived.JoinedTies
import Derived.KernelRfl
namespace Go.Proofs.Ytkfeeijiockdhaa
/- THE CELL 'sum', in the pinned program and in every row, IS THE sha256 OF THE DUMP (.gsa) THAT YtkfeeijiockdhaaProg.lean LOADS. Nothing in Lean hashes anything: it is a label: what it is worth is what the hold of that sum in a sandbox is worth. -/
noncomputable def Try.pinned : Pinned := { name := "ytkfeeijiockdhaa", sum := "102e18ac7c627806875dfd2beb37292e154568628fdf9184ba0c1c3bfac8c728", checked := Try.checked }
namespace Rows
def none {H : Type} : Left H := { results := [], args := [] }

/-- 'laws.FnPierceOf': WHATEVER THE INPUT: true; the input reads as it did. -/
def fnPierceOfSpec : ChangeSpec := { name := "fnPierceOf", fn := fun _ => fun
  | [d1, d2] => { results := [.lit (.bool true)], args := [d1, d2] }
  | _ => none }
def fnPierceOfRow : OpenClaim := { program := "ytkfeeijiockdhaa", sum := "102e18ac7c627806875dfd2beb37292e154568628fdf9184ba0c1c3bfac8c728", func := "loop.example/laidrectangles/laws.FnPierceOf", spec := "fnPierceOf", unfollowed := true, recurses := true, apart := false }
def FnPierceOfSaid : Prop := fnPierceOfRow.holds Try.pinned (OpenSpec.ofChange fnPierceOfSpec)

/-- ITS FALSE NEIGHBOUR: 'it returns false'. Refute it at one input. -/
def fnPierceOfWrong : ChangeSpec := { name := "fnPierceOf", fn := fun _ => fun
  | [d1, d2] => { results := [.lit (.bool false)], args := [d1, d2] }
  | _ => none }
def FnPierceOfWrongFalsely : Prop := fnPierceOfRow.holds Try.pinned (OpenSpec.ofChange fnPierceOfWrong)

/-- 'laws.FnMeetsOf': WHATEVER THE INPUT: true; the input reads as it did. -/
def fnMeetsOfSpec : ChangeSpec := { name := "fnMeetsOf", fn := fun _ => fun
  | [d] => { results := [.lit (.bool true)], args := [d] }
  | _ => none }
def fnMeetsOfRow : OpenClaim := { program := "ytkfeeijiockdhaa", sum := "102e18ac7c627806875dfd2beb37292e154568628fdf9184ba0c1c3bfac8c728", func := "loop.example/laidrectangles/laws.FnMeetsOf", spec := "fnMeetsOf", apart := false }
def FnMeetsOfSaid : Prop := fnMeetsOfRow.holds Try.pinned (OpenSpec.ofChange fnMeetsOfSpec)

/-- ITS FALSE NEIGHBOUR: 'it returns false'. Refute it at one input. -/
def fnMeetsOfWrong : ChangeSpec := { name := "fnMeetsOf", fn := fun _ => fun
  | [d] => { results := [.lit (.bool false)], args := [d] }
  | _ => none }
def FnMeetsOfWrongFalsely : Prop := fnMeetsOfRow.holds Try.pinned (OpenSpec.ofChange fnMeetsOfWrong)

/-- 'laws.FnMostMeeting': WHATEVER THE INPUT: true; the input reads as it did. -/
def fnMostMeetingSpec : ChangeSpec := { name := "fnMostMeeting", fn := fun _ => fun
  | [d] => { results := [.lit (.bool true)], args := [d] }
  | _ => none }
def fnMostMeetingRow : OpenClaim := { program := "ytkfeeijiockdhaa", sum := "102e18ac7c627806875dfd2beb37292e154568628fdf9184ba0c1c3bfac8c728", func := "loop.example/laidrectangles/laws.FnMostMeeting", spec := "fnMostMeeting", unfollowed := true, recurses := true, apart := false }
def FnMostMeetingSaid : Prop := fnMostMeetingRow.holds Try.pinned (OpenSpec.ofChange fnMostMeetingSpec)

/-- ITS FALSE NEIGHBOUR: 'it returns false'. Refute it at one input. -/
def fnMostMeetingWrong : ChangeSpec := { name := "fnMostMeeting", fn := fun _ => fun
  | [d] => { results := [.lit (.bool false)], args := [d] }
  | _ => none }
def FnMostMeetingWrongFalsely : Prop := fnMostMeetingRow.holds Try.pinned (OpenSpec.ofChange fnMostMeetingWrong)

/-- 'laws.FnColoursOf': WHATEVER THE INPUT: true; the input reads as it did. -/
def fnColoursOfSpec : ChangeSpec := { name := "fnColoursOf", fn := fun _ => fun
  | [d] => { results := [.lit (.bool true)], args := [d] }
  | _ => none }
def fnColoursOfRow : OpenClaim := { program := "ytkfeeijiockdhaa", sum := "102e18ac7c627806875dfd2beb37292e154568628fdf9184ba0c1c3bfac8c728", func := "loop.example/laidrectangles/laws.FnColoursOf", spec := "fnColoursOf", unfollowed := true, recurses := true, apart := false }
def FnColoursOfSaid : Prop := fnColoursOfRow.holds Try.pinned (OpenSpec.ofChange fnColoursOfSpec)

/-- ITS FALSE NEIGHBOUR: 'it returns false'. Refute it at one input. -/
def fnColoursOfWrong : ChangeSpec := { name := "fnColoursOf", fn := fun _ => fun
  | [d] => { results := [.lit (.bool false)], args := [d] }
  | _ => none }
def FnColoursOfWrongFalsely : Prop := fnColoursOfRow.holds Try.pinned (OpenSpec.ofChange fnColoursOfWrong)

/-- 'laws.FnPaintedBy': WHATEVER THE INPUT: true; the input reads as it did. -/
def fnPaintedBySpec : ChangeSpec := { name := "fnPaintedBy", fn := fun _ => fun
  | [d] => { results := [.lit (.bool true)], args := [d] }
  | _ => none }
def fnPaintedByRow : OpenClaim := { program := "ytkfeeijiockdhaa", sum := "102e18ac7c627806875dfd2beb37292e154568628fdf9184ba0c1c3bfac8c728", func := "loop.example/laidrectangles/laws.FnPaintedBy", spec := "fnPaintedBy", recurses := true, apart := false }
def FnPaintedBySaid : Prop := fnPaintedByRow.holds Try.pinned (OpenSpec.ofChange fnPaintedBySpec)

/-- ITS FALSE NEIGHBOUR: 'it returns false'. Refute it at one input. -/
def fnPaintedByWrong : ChangeSpec := { name := "fnPaintedBy", fn := fun _ => fun
  | [d] => { results := [.lit (.bool false)], args := [d] }
  | _ => none }
def FnPaintedByWrongFalsely : Prop := fnPaintedByRow.holds Try.pinned (OpenSpec.ofChange fnPaintedByWrong)

/-- 'laws.FnExactApartOf': WHATEVER THE INPUT: true; the input reads as it did. -/
def fnExactApartOfSpec : ChangeSpec := { name := "fnExactApartOf", fn := fun _ => fun
  | [d] => { results := [.lit (.bool true)], args := [d] }
  | _ => none }
def fnExactApartOfRow : OpenClaim := { program := "ytkfeeijiockdhaa", sum := "102e18ac7c627806875dfd2beb37292e154568628fdf9184ba0c1c3bfac8c728", func := "loop.example/laidrectangles/laws.FnExactApartOf", spec := "fnExactApartOf", unfollowed := true, recurses := true, apart := false }
def FnExactApartOfSaid : Prop := fnExactApartOfRow.holds Try.pinned (OpenSpec.ofChange fnExactApartOfSpec)

/-- ITS FALSE NEIGHBOUR: 'it returns false'. Refute it at one input. -/
def fnExactApartOfWrong : ChangeSpec := { name := "fnExactApartOf", fn := fun _ => fun
  | [d] => { results := [.lit (.bool false)], args := [d] }
  | _ => none }
def FnExactApartOfWrongFalsely : Prop := fnExactApartOfRow.holds Try.pinned (OpenSpec.ofChange fnExactApartOfWrong)

/-- 'laws.FnExactMeetsOf': WHATEVER THE INPUT: true; the input reads as it did. -/
def fnExactMeetsOfSpec : ChangeSpec := { name := "fnExactMeetsOf", fn := fun _ => fun
  | [d] => { results := [.lit (.bool true)], args := [d] }
  | _ => none }
def fnExactMeetsOfRow : OpenClaim := { program := "ytkfeeijiockdhaa", sum := "102e18ac7c627806875dfd2beb37292e154568628fdf9184ba0c1c3bfac8c728", func := "loop.example/laidrectangles/laws.FnExactMeetsOf", spec := "fnExactMeetsOf", apart := false }
def FnExactMeetsOfSaid : Prop := fnExactMeetsOfRow.holds Try.pinned (OpenSpec.ofChange fnExactMeetsOfSpec)

/-- ITS FALSE NEIGHBOUR: 'it returns false'. Refute it at one input. -/
def fnExactMeetsOfWrong : ChangeSpec := { name := "fnExactMeetsOf", fn := fun _ => fun
  | [d] => { results := [.lit (.bool false)], args := [d] }
  | _ => none }
def FnExactMeetsOfWrongFalsely : Prop := fnExactMeetsOfRow.holds Try.pinned (OpenSpec.ofChange fnExactMeetsOfWrong)

/-- 'laws.FnExactMostMeeting': WHATEVER THE INPUT: true; the input reads as it did. -/
def fnExactMostMeetingSpec : ChangeSpec := { name := "fnExactMostMeeting", fn := fun _ => fun
  | [d] => { results := [.lit (.bool true)], args := [d] }
  | _ => none }
def fnExactMostMeetingRow : OpenClaim := { program := "ytkfeeijiockdhaa", sum := "102e18ac7c627806875dfd2beb37292e154568628fdf9184ba0c1c3bfac8c728", func := "loop.example/laidrectangles/laws.FnExactMostMeeting", spec := "fnExactMostMeeting", unfollowed := true, recurses := true, apart := false }
def FnExactMostMeetingSaid : Prop := fnExactMostMeetingRow.holds Try.pinned (OpenSpec.ofChange fnExactMostMeetingSpec)

/-- ITS FALSE NEIGHBOUR: 'it returns false'. Refute it at one input. -/
def fnExactMostMeetingWrong : ChangeSpec := { name := "fnExactMostMeeting", fn := fun _ => fun
  | [d] => { results := [.lit (.bool false)], args := [d] }
  | _ => none }
def FnExactMostMeetingWrongFalsely : Prop := fnExactMostMeetingRow.holds Try.pinned (OpenSpec.ofChange fnExactMostMeetingWrong)

/-- 'laws.FnExactColoursOf': WHATEVER THE INPUT: true; the input reads as it did. -/
def fnExactColoursOfSpec : ChangeSpec := { name := "fnExactColoursOf", fn := fun _ => fun
  | [d] => { results := [.lit (.bool true)], args := [d] }
  | _ => none }
def fnExactColoursOfRow : OpenClaim := { program := "ytkfeeijiockdhaa", sum := "102e18ac7c627806875dfd2beb37292e154568628fdf9184ba0c1c3bfac8c728", func := "loop.example/laidrectangles/laws.FnExactColoursOf", spec := "fnExactColoursOf", recurses := true, apart := false }
def FnExactColoursOfSaid : Prop := fnExactColoursOfRow.holds Try.pinned (OpenSpec.ofChange fnExactColoursOfSpec)

/-- ITS FALSE NEIGHBOUR: 'it returns false'. Refute it at one input. -/
def fnExactColoursOfWrong : ChangeSpec := { name := "fnExactColoursOf", fn := fun _ => fun
  | [d] => { results := [.lit (.bool false)], args := [d] }
  | _ => none }
def FnExactColoursOfWrongFalsely : Prop := fnExactColoursOfRow.holds Try.pinned (OpenSpec.ofChange fnExactColoursOfWrong)

/-- 'laws.FnExactPaintedBy': WHATEVER THE INPUT: true; the input reads as it did. -/
def fnExactPaintedBySpec : ChangeSpec := { name := "fnExactPaintedBy", fn := fun _ => fun
  | [d] => { results := [.lit (.bool true)], args := [d] }
  | _ => none }
def fnExactPaintedByRow : OpenClaim := { program := "ytkfeeijiockdhaa", sum := "102e18ac7c627806875dfd2beb37292e154568628fdf9184ba0c1c3bfac8c728", func := "loop.example/laidrectangles/laws.FnExactPaintedBy", spec := "fnExactPaintedBy", apart := false }
def FnExactPaintedBySaid : Prop := fnExactPaintedByRow.holds Try.pinned (OpenSpec.ofChange fnExactPaintedBySpec)

/-- ITS FALSE NEIGHBOUR: 'it returns false'. Refute it at one input. -/
def fnExactPaintedByWrong : ChangeSpec := { name := "fnExactPaintedBy", fn := fun _ => fun
  | [d] => { results := [.lit (.bool false)], args := [d] }
  | _ => none }
def FnExactPaintedByWrongFalsely : Prop := fnExactPaintedByRow.holds Try.pinned (OpenSpec.ofChange fnExactPaintedByWrong)

/- THE SECOND FORM. 'bulk': how many values and letters a reading holds, each counted each time it is reached (what is shared counts as often as it is met; a slice's spare places count too). A statement '..UptoSaid' is the law's where the arguments, and the package variables that the reading takes, are together of bulk at most 1048576: NARROWER than '..Said'. Prove '..Said' where nothing that the law and all that it calls make is longer than what came in: it says more and counts as full. Else prove '..UptoSaid'. A law counts once. -/
mutual
def uptoBulk {H : Type} : DataW H → Nat
  | .lit (.string bytes) => bytes.length + 1
  | .lit _ => 1
  | .nil => 1
  | .ptr d => uptoBulk d + 1
  | .slice elems spare => uptoBulkAll elems + uptoBulkAll spare + 1
  | .agg parts => uptoBulkAll parts + 1
  | .iface _ d => uptoBulk d + 1
  | .map entries => uptoBulkEntries entries + 1
  | .held _ => 1
def uptoBulkAll {H : Type} : List (DataW H) → Nat
  | [] => 0
  | d :: r => uptoBulk d + uptoBulkAll r
def uptoBulkEntries {H : Type} : List (Lit × DataW H) → Nat
  | [] => 0
  | x :: r => uptoBulkEntry x + uptoBulkEntries r
def uptoBulkEntry {H : Type} : Lit × DataW H → Nat
  | (.string bytes, d) => bytes.length + uptoBulk d + 1
  | (_, d) => uptoBulk d + 1
 end
def uptoSmall : (H : Type) → List (DataW H) → Bool := fun _ ds => decide (uptoBulkAll ds ≤ 1048576)
def OpenSpec.upto (s : _root_.Go.ChangeSpec) : _root_.Go.OpenSpec := { _root_.Go.OpenSpec.ofChange s with cond := some uptoSmall }

/-- 'laws.FnPierceOf', WHERE WHAT IT READS IS OF BULK AT MOST 1048576: true; the input reads as it did. -/
def fnPierceOfUptoRow : OpenClaim := { program := "ytkfeeijiockdhaa", sum := "102e18ac7c627806875dfd2beb37292e154568628fdf9184ba0c1c3bfac8c728", func := "loop.example/laidrectangles/laws.FnPierceOf", spec := "fnPierceOf", unfollowed := true, recurses := true, apart := false, narrowed := true }
def FnPierceOfUptoSaid : Prop := fnPierceOfUptoRow.holds Try.pinned (OpenSpec.upto fnPierceOfSpec)

/-- 'laws.FnMeetsOf', WHERE WHAT IT READS IS OF BULK AT MOST 1048576: true; the input reads as it did. -/
def fnMeetsOfUptoRow : OpenClaim := { program := "ytkfeeijiockdhaa", sum := "102e18ac7c627806875dfd2beb37292e154568628fdf9184ba0c1c3bfac8c728", func := "loop.example/laidrectangles/laws.FnMeetsOf", spec := "fnMeetsOf", apart := false, narrowed := true }
def FnMeetsOfUptoSaid : Prop := fnMeetsOfUptoRow.holds Try.pinned (OpenSpec.upto fnMeetsOfSpec)

/-- 'laws.FnMostMeeting', WHERE WHAT IT READS IS OF BULK AT MOST 1048576: true; the input reads as it did. -/
def fnMostMeetingUptoRow : OpenClaim := { program := "ytkfeeijiockdhaa", sum := "102e18ac7c627806875dfd2beb37292e154568628fdf9184ba0c1c3bfac8c728", func := "loop.example/laidrectangles/laws.FnMostMeeting", spec := "fnMostMeeting", unfollowed := true, recurses := true, apart := false, narrowed := true }
def FnMostMeetingUptoSaid : Prop := fnMostMeetingUptoRow.holds Try.pinned (OpenSpec.upto fnMostMeetingSpec)

/-- 'laws.FnColoursOf', WHERE WHAT IT READS IS OF BULK AT MOST 1048576: true; the input reads as it did. -/
def fnColoursOfUptoRow : OpenClaim := { program := "ytkfeeijiockdhaa", sum := "102e18ac7c627806875dfd2beb37292e154568628fdf9184ba0c1c3bfac8c728", func := "loop.example/laidrectangles/laws.FnColoursOf", spec := "fnColoursOf", unfollowed := true, recurses := true, apart := false, narrowed := true }
def FnColoursOfUptoSaid : Prop := fnColoursOfUptoRow.holds Try.pinned (OpenSpec.upto fnColoursOfSpec)

/-- 'laws.FnPaintedBy', WHERE WHAT IT READS IS OF BULK AT MOST 1048576: true; the input reads as it did. -/
def fnPaintedByUptoRow : OpenClaim := { program := "ytkfeeijiockdhaa", sum := "102e18ac7c627806875dfd2beb37292e154568628fdf9184ba0c1c3bfac8c728", func := "loop.example/laidrectangles/laws.FnPaintedBy", spec := "fnPaintedBy", recurses := true, apart := false, narrowed := true }
def FnPaintedByUptoSaid : Prop := fnPaintedByUptoRow.holds Try.pinned (OpenSpec.upto fnPaintedBySpec)

/-- 'laws.FnExactApartOf', WHERE WHAT IT READS IS OF BULK AT MOST 1048576: true; the input reads as it did. -/
def fnExactApartOfUptoRow : OpenClaim := { program := "ytkfeeijiockdhaa", sum := "102e18ac7c627806875dfd2beb37292e154568628fdf9184ba0c1c3bfac8c728", func := "loop.example/laidrectangles/laws.FnExactApartOf", spec := "fnExactApartOf", unfollowed := true, recurses := true, apart := false, narrowed := true }
def FnExactApartOfUptoSaid : Prop := fnExactApartOfUptoRow.holds Try.pinned (OpenSpec.upto fnExactApartOfSpec)

/-- 'laws.FnExactMeetsOf', WHERE WHAT IT READS IS OF BULK AT MOST 1048576: true; the input reads as it did. -/
def fnExactMeetsOfUptoRow : OpenClaim := { program := "ytkfeeijiockdhaa", sum := "102e18ac7c627806875dfd2beb37292e154568628fdf9184ba0c1c3bfac8c728", func := "loop.example/laidrectangles/laws.FnExactMeetsOf", spec := "fnExactMeetsOf", apart := false, narrowed := true }
def FnExactMeetsOfUptoSaid : Prop := fnExactMeetsOfUptoRow.holds Try.pinned (OpenSpec.upto fnExactMeetsOfSpec)

/-- 'laws.FnExactMostMeeting', WHERE WHAT IT READS IS OF BULK AT MOST 1048576: true; the input reads as it did. -/
def fnExactMostMeetingUptoRow : OpenClaim := { program := "ytkfeeijiockdhaa", sum := "102e18ac7c627806875dfd2beb37292e154568628fdf9184ba0c1c3bfac8c728", func := "loop.example/laidrectangles/laws.FnExactMostMeeting", spec := "fnExactMostMeeting", unfollowed := true, recurses := true, apart := false, narrowed := true }
def FnExactMostMeetingUptoSaid : Prop := fnExactMostMeetingUptoRow.holds Try.pinned (OpenSpec.upto fnExactMostMeetingSpec)

/-- 'laws.FnExactColoursOf', WHERE WHAT IT READS IS OF BULK AT MOST 1048576: true; the input reads as it did. -/
def fnExactColoursOfUptoRow : OpenClaim := { program := "ytkfeeijiockdhaa", sum := "102e18ac7c627806875dfd2beb37292e154568628fdf9184ba0c1c3bfac8c728", func := "loop.example/laidrectangles/laws.FnExactColoursOf", spec := "fnExactColoursOf", recurses := true, apart := false, narrowed := true }
def FnExactColoursOfUptoSaid : Prop := fnExactColoursOfUptoRow.holds Try.pinned (OpenSpec.upto fnExactColoursOfSpec)

/-- 'laws.FnExactPaintedBy', WHERE WHAT IT READS IS OF BULK AT MOST 1048576: true; the input reads as it did. -/
def fnExactPaintedByUptoRow : OpenClaim := { program := "ytkfeeijiockdhaa", sum := "102e18ac7c627806875dfd2beb37292e154568628fdf9184ba0c1c3bfac8c728", func := "loop.example/laidrectangles/laws.FnExactPaintedBy", spec := "fnExactPaintedBy", apart := false, narrowed := true }
def FnExactPaintedByUptoSaid : Prop := fnExactPaintedByUptoRow.holds Try.pinned (OpenSpec.upto fnExactPaintedBySpec)

end Rows
end Go.Proofs.Ytkfeeijiockdhaa

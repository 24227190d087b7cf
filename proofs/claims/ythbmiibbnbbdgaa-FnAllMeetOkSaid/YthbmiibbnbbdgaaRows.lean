/-
  No cell of these rows narrows 'for every input' (looked for: loops, veiled, ifaces, maps, wideKeys, modest, calm, conditions, laid).
  DERIVED. THE GIVEN ROWS OF THIS SEAT. 7 by the template 'for every input the law returns true; each argument reads behind the call as it read before'; 0 by the template 'total and deterministic' (their statements: YthbmiibbnbbdgaaTotals.lean).
  GIVEN WITH THE SEED: the statements are not yours to turn. If you find one false, say at which input.
  Laid BY PROGRAM, IN A SANDBOX (cutbox-rows.mjs): the forced cells as the released guide's own fill.sh prints them over the translation 185ddcab3e60997c… (all of the seat's roots in one cut). By AI agents, Wed Nov 11 2026. No macro, syntax, notation, axiom, sorry.
-/
import Derived.Test.YthbmiibbnbbdgaaChecked
import GoSem.Claim
import GoSem.ClaimJoined
import GoSem.ClaimMapViews
import Derived.JoinedTies
import Derived.KernelRfl
namespace Go.Proofs.Ythbmiibbnbbdgaa
/- THE CELL 'sum', in the pinned program and in every row, IS THE sha256 OF THE DUMP (.gsa) THAT YthbmiibbnbbdgaaProg.lean LOADS. Nothing in Lean hashes anything: it is a label: what it is worth is what the hold of that sum in a sandbox is worth. -/
noncomputable def Try.pinned : Pinned := { name := "ythbmiibbnbbdgaa", sum := "185ddcab3e60997c83318ef282dcf6c0bfdfff18ea5d98e40ded77ae75616a05", checked := Try.checked }
namespace Rows
def none {H : Type} : Left H := { results := [], args := [] }

/-- 'laws.FnMeetOk': WHATEVER THE INPUT: true; the input reads as it did. -/
def fnMeetOkSpec : ChangeSpec := { name := "fnMeetOk", fn := fun _ => fun
  | [d] => { results := [.lit (.bool true)], args := [d] }
  | _ => none }
def fnMeetOkRow : OpenClaim := { program := "ythbmiibbnbbdgaa", sum := "185ddcab3e60997c83318ef282dcf6c0bfdfff18ea5d98e40ded77ae75616a05", func := "loop.example/laidrectangles/laws.FnMeetOk", spec := "fnMeetOk", apart := false }
def FnMeetOkSaid : Prop := fnMeetOkRow.holds Try.pinned (OpenSpec.ofChange fnMeetOkSpec)

/-- ITS FALSE NEIGHBOUR: 'it returns false'. Refute it at one input. -/
def fnMeetOkWrong : ChangeSpec := { name := "fnMeetOk", fn := fun _ => fun
  | [d] => { results := [.lit (.bool false)], args := [d] }
  | _ => none }
def FnMeetOkWrongFalsely : Prop := fnMeetOkRow.holds Try.pinned (OpenSpec.ofChange fnMeetOkWrong)

/-- 'laws.FnAllMeetOk': WHATEVER THE INPUT: true; the input reads as it did. -/
def fnAllMeetOkSpec : ChangeSpec := { name := "fnAllMeetOk", fn := fun _ => fun
  | [d] => { results := [.lit (.bool true)], args := [d] }
  | _ => none }
def fnAllMeetOkRow : OpenClaim := { program := "ythbmiibbnbbdgaa", sum := "185ddcab3e60997c83318ef282dcf6c0bfdfff18ea5d98e40ded77ae75616a05", func := "loop.example/laidrectangles/laws.FnAllMeetOk", spec := "fnAllMeetOk", recurses := true, apart := false }
def FnAllMeetOkSaid : Prop := fnAllMeetOkRow.holds Try.pinned (OpenSpec.ofChange fnAllMeetOkSpec)

/-- ITS FALSE NEIGHBOUR: 'it returns false'. Refute it at one input. -/
def fnAllMeetOkWrong : ChangeSpec := { name := "fnAllMeetOk", fn := fun _ => fun
  | [d] => { results := [.lit (.bool false)], args := [d] }
  | _ => none }
def FnAllMeetOkWrongFalsely : Prop := fnAllMeetOkRow.holds Try.pinned (OpenSpec.ofChange fnAllMeetOkWrong)

/-- 'laws.FnPierceOf': WHATEVER THE INPUT: true; the input reads as it did. -/
def fnPierceOfSpec : ChangeSpec := { name := "fnPierceOf", fn := fun _ => fun
  | [d1, d2] => { results := [.lit (.bool true)], args := [d1, d2] }
  | _ => none }
def fnPierceOfRow : OpenClaim := { program := "ythbmiibbnbbdgaa", sum := "185ddcab3e60997c83318ef282dcf6c0bfdfff18ea5d98e40ded77ae75616a05", func := "loop.example/laidrectangles/laws.FnPierceOf", spec := "fnPierceOf", unfollowed := true, recurses := true, apart := false }
def FnPierceOfSaid : Prop := fnPierceOfRow.holds Try.pinned (OpenSpec.ofChange fnPierceOfSpec)

/-- ITS FALSE NEIGHBOUR: 'it returns false'. Refute it at one input. -/
def fnPierceOfWrong : ChangeSpec := { name := "fnPierceOf", fn := fun _ => fun
  | [d1, d2] => { results := [.lit (.bool false)], args := [d1, d2] }
  | _ => none }
def FnPierceOfWrongFalsely : Prop := fnPierceOfRow.holds Try.pinned (OpenSpec.ofChange fnPierceOfWrong)

/-- 'laws.FnExactMeetOk': WHATEVER THE INPUT: true; the input reads as it did. -/
def fnExactMeetOkSpec : ChangeSpec := { name := "fnExactMeetOk", fn := fun _ => fun
  | [d1, d2] => { results := [.lit (.bool true)], args := [d1, d2] }
  | _ => none }
def fnExactMeetOkRow : OpenClaim := { program := "ythbmiibbnbbdgaa", sum := "185ddcab3e60997c83318ef282dcf6c0bfdfff18ea5d98e40ded77ae75616a05", func := "loop.example/laidrectangles/laws.FnExactMeetOk", spec := "fnExactMeetOk", apart := false }
def FnExactMeetOkSaid : Prop := fnExactMeetOkRow.holds Try.pinned (OpenSpec.ofChange fnExactMeetOkSpec)

/-- ITS FALSE NEIGHBOUR: 'it returns false'. Refute it at one input. -/
def fnExactMeetOkWrong : ChangeSpec := { name := "fnExactMeetOk", fn := fun _ => fun
  | [d1, d2] => { results := [.lit (.bool false)], args := [d1, d2] }
  | _ => none }
def FnExactMeetOkWrongFalsely : Prop := fnExactMeetOkRow.holds Try.pinned (OpenSpec.ofChange fnExactMeetOkWrong)

/-- 'laws.FnExactAllMeetOk': WHATEVER THE INPUT: true; the input reads as it did. -/
def fnExactAllMeetOkSpec : ChangeSpec := { name := "fnExactAllMeetOk", fn := fun _ => fun
  | [d] => { results := [.lit (.bool true)], args := [d] }
  | _ => none }
def fnExactAllMeetOkRow : OpenClaim := { program := "ythbmiibbnbbdgaa", sum := "185ddcab3e60997c83318ef282dcf6c0bfdfff18ea5d98e40ded77ae75616a05", func := "loop.example/laidrectangles/laws.FnExactAllMeetOk", spec := "fnExactAllMeetOk", apart := false }
def FnExactAllMeetOkSaid : Prop := fnExactAllMeetOkRow.holds Try.pinned (OpenSpec.ofChange fnExactAllMeetOkSpec)

/-- ITS FALSE NEIGHBOUR: 'it returns false'. Refute it at one input. -/
def fnExactAllMeetOkWrong : ChangeSpec := { name := "fnExactAllMeetOk", fn := fun _ => fun
  | [d] => { results := [.lit (.bool false)], args := [d] }
  | _ => none }
def FnExactAllMeetOkWrongFalsely : Prop := fnExactAllMeetOkRow.holds Try.pinned (OpenSpec.ofChange fnExactAllMeetOkWrong)

/-- 'laws.FnExactPierceOf': WHATEVER THE INPUT: true; the input reads as it did. -/
def fnExactPierceOfSpec : ChangeSpec := { name := "fnExactPierceOf", fn := fun _ => fun
  | [d] => { results := [.lit (.bool true)], args := [d] }
  | _ => none }
def fnExactPierceOfRow : OpenClaim := { program := "ythbmiibbnbbdgaa", sum := "185ddcab3e60997c83318ef282dcf6c0bfdfff18ea5d98e40ded77ae75616a05", func := "loop.example/laidrectangles/laws.FnExactPierceOf", spec := "fnExactPierceOf", recurses := true, apart := false }
def FnExactPierceOfSaid : Prop := fnExactPierceOfRow.holds Try.pinned (OpenSpec.ofChange fnExactPierceOfSpec)

/-- ITS FALSE NEIGHBOUR: 'it returns false'. Refute it at one input. -/
def fnExactPierceOfWrong : ChangeSpec := { name := "fnExactPierceOf", fn := fun _ => fun
  | [d] => { results := [.lit (.bool false)], args := [d] }
  | _ => none }
def FnExactPierceOfWrongFalsely : Prop := fnExactPierceOfRow.holds Try.pinned (OpenSpec.ofChange fnExactPierceOfWrong)

/-- 'laws.FnExactApartOf': WHATEVER THE INPUT: true; the input reads as it did. -/
def fnExactApartOfSpec : ChangeSpec := { name := "fnExactApartOf", fn := fun _ => fun
  | [d] => { results := [.lit (.bool true)], args := [d] }
  | _ => none }
def fnExactApartOfRow : OpenClaim := { program := "ythbmiibbnbbdgaa", sum := "185ddcab3e60997c83318ef282dcf6c0bfdfff18ea5d98e40ded77ae75616a05", func := "loop.example/laidrectangles/laws.FnExactApartOf", spec := "fnExactApartOf", unfollowed := true, recurses := true, apart := false }
def FnExactApartOfSaid : Prop := fnExactApartOfRow.holds Try.pinned (OpenSpec.ofChange fnExactApartOfSpec)

/-- ITS FALSE NEIGHBOUR: 'it returns false'. Refute it at one input. -/
def fnExactApartOfWrong : ChangeSpec := { name := "fnExactApartOf", fn := fun _ => fun
  | [d] => { results := [.lit (.bool false)], args := [d] }
  | _ => none }
def FnExactApartOfWrongFalsely : Prop := fnExactApartOfRow.holds Try.pinned (OpenSpec.ofChange fnExactApartOfWrong)

/- THE SECOND FORM. 'bulk': how many values and letters a reading holds, each counted each time it is reached (what is shared counts as often as it is met; a slice's spare places count too). A statement '..UptoSaid' is the law's where the arguments, and the package variables that the reading takes, are together of bulk at most 1048576: NARROWER than '..Said'. Prove '..Said' where nothing that the law and all that it calls make is longer than what came in: it says more and counts as full. Else prove '..UptoSaid'. A law counts once. -/
mutual
def uptoBulk {H : Type} : DataW H → Nat
  | .lit (.string bytes) => bytes.length + 1
  | .lit _ => 1
  | .nil => 1
  | .ptr d => uptoBulk d + 1
  | .slice elems spare => uptoBulkAll elems + uptoBulkAll spare + 1
  | .agg parts => uptoBulkAll parts + 1
  | .iface _ d => uptoBulk d + 1
  | .map entries => uptoBulkEntries entries + 1
  | .held _ => 1
def uptoBulkAll {H : Type} : List (DataW H) → Nat
  | [] => 0
  | d :: r => uptoBulk d + uptoBulkAll r
def uptoBulkEntries {H : Type} : List (Lit × DataW H) → Nat
  | [] => 0
  | x :: r => uptoBulkEntry x + uptoBulkEntries r
def uptoBulkEntry {H : Type} : Lit × DataW H → Nat
  | (.string bytes, d) => bytes.length + uptoBulk d + 1
  | (_, d) => uptoBulk d + 1
 end
def uptoSmall : (H : Type) → List (DataW H) → Bool := fun _ ds => decide (uptoBulkAll ds ≤ 1048576)
def OpenSpec.upto (s : _root_.Go.ChangeSpec) : _root_.Go.OpenSpec := { _root_.Go.OpenSpec.ofChange s with cond := some uptoSmall }

/-- 'laws.FnMeetOk', WHERE WHAT IT READS IS OF BULK AT MOST 1048576: true; the input reads as it did. -/
def fnMeetOkUptoRow : OpenClaim := { program := "ythbmiibbnbbdgaa", sum := "185ddcab3e60997c83318ef282dcf6c0bfdfff18ea5d98e40ded77ae75616a05", func := "loop.example/laidrectangles/laws.FnMeetOk", spec := "fnMeetOk", apart := false, narrowed := true }
def FnMeetOkUptoSaid : Prop := fnMeetOkUptoRow.holds Try.pinned (OpenSpec.upto fnMeetOkSpec)

/-- 'laws.FnAllMeetOk', WHERE WHAT IT READS IS OF BULK AT MOST 1048576: true; the input reads as it did. -/
def fnAllMeetOkUptoRow : OpenClaim := { program := "ythbmiibbnbbdgaa", sum := "185ddcab3e60997c83318ef282dcf6c0bfdfff18ea5d98e40ded77ae75616a05", func := "loop.example/laidrectangles/laws.FnAllMeetOk", spec := "fnAllMeetOk", recurses := true, apart := false, narrowed := true }
def FnAllMeetOkUptoSaid : Prop := fnAllMeetOkUptoRow.holds Try.pinned (OpenSpec.upto fnAllMeetOkSpec)

/-- 'laws.FnPierceOf', WHERE WHAT IT READS IS OF BULK AT MOST 1048576: true; the input reads as it did. -/
def fnPierceOfUptoRow : OpenClaim := { program := "ythbmiibbnbbdgaa", sum := "185ddcab3e60997c83318ef282dcf6c0bfdfff18ea5d98e40ded77ae75616a05", func := "loop.example/laidrectangles/laws.FnPierceOf", spec := "fnPierceOf", unfollowed := true, recurses := true, apart := false, narrowed := true }
def FnPierceOfUptoSaid : Prop := fnPierceOfUptoRow.holds Try.pinned (OpenSpec.upto fnPierceOfSpec)

/-- 'laws.FnExactMeetOk', WHERE WHAT IT READS IS OF BULK AT MOST 1048576: true; the input reads as it did. -/
def fnExactMeetOkUptoRow : OpenClaim := { program := "ythbmiibbnbbdgaa", sum := "185ddcab3e60997c83318ef282dcf6c0bfdfff18ea5d98e40ded77ae75616a05", func := "loop.example/laidrectangles/laws.FnExactMeetOk", spec := "fnExactMeetOk", apart := false, narrowed := true }
def FnExactMeetOkUptoSaid : Prop := fnExactMeetOkUptoRow.holds Try.pinned (OpenSpec.upto fnExactMeetOkSpec)

/-- 'laws.FnExactAllMeetOk', WHERE WHAT IT READS IS OF BULK AT MOST 1048576: true; the input reads as it did. -/
def fnExactAllMeetOkUptoRow : OpenClaim := { program := "ythbmiibbnbbdgaa", sum := "185ddcab3e60997c83318ef282dcf6c0bfdfff18ea5d98e40ded77ae75616a05", func := "loop.example/laidrectangles/laws.FnExactAllMeetOk", spec := "fnExactAllMeetOk", apart := false, narrowed := true }
def FnExactAllMeetOkUptoSaid : Prop := fnExactAllMeetOkUptoRow.holds Try.pinned (OpenSpec.upto fnExactAllMeetOkSpec)

/-- 'laws.FnExactPierceOf', WHERE WHAT IT READS IS OF BULK AT MOST 1048576: true; the input reads as it did. -/
def fnExactPierceOfUptoRow : OpenClaim := { program := "ythbmiibbnbbdgaa", sum := "185ddcab3e60997c83318ef282dcf6c0bfdfff18ea5d98e40ded77ae75616a05", func := "loop.example/laidrectangles/laws.FnExactPierceOf", spec := "fnExactPierceOf", recurses := true, apart := false, narrowed := true }
def FnExactPierceOfUptoSaid : Prop := fnExactPierceOfUptoRow.holds Try.pinned (OpenSpec.upto fnExactPierceOfSpec)

/-- 'laws.FnExactApartOf', WHERE WHAT IT READS IS OF BULK AT MOST 1048576: true; the input reads as it did. -/
def fnExactApartOfUptoRow : OpenClaim := { program := "ythbmiibbnbbdgaa", sum := "185ddcab3e60997c83318ef282dcf6c0bfdfff18ea5d98e40ded77ae75616a05", func := "loop.example/laidrectangles/laws.FnExactApartOf", spec := "fnExactApartOf", unfollowed := true, recurses := true, apart := false, narrowed := true }
def FnExactApartOfUptoSaid : Prop := fnExactApartOfUptoRow.holds Try.pinned (OpenSpec.upto fnExactApartOfSpec)

end Rows
end Go.Proofs.Ythbmiibbnbbdgaa

/-
  DERIVED. GIVEN WITH THE SEED: THE CARDS: each row of YtbdpngjakccjjaaDoorRows.lean that lists a variable, with what it lists TIED to the program's text (the seventh form; the later family's looks); each row that meets fmt, with fmt's text TOLD by the authors' own Lean function (tested against real Go, not proved from fmt's source: count such statements apart). THE CARD IS WHAT COUNTS. Prove the row's statement (the work); the ties are given (YtbdpngjakccjjaaDoorTie.lean); close each card by the builder's one call (the guide's Derived/Test/ToyasCard.lean, 'card_holds'). Laid BY PROGRAM, IN A SANDBOX (cutbox-door.mjs). By AI agents, Wed Nov 11 2026. No macro, syntax, notation, axiom, sorry.
-/
import Derived.Test.YtbdpngjakccjjaaDoorRows
import GoSem.ClaimSeven
namespace Go.Proofs.YtbdpngjakccjjaaDoor
namespace Rows

/-- THE TIED CARD OF 'laws.FnCornersOf'. -/
def fnCornersOfCard : Claim7 := { stood := { row := fnCornersOfRow, standIns := [], harness := (true, "8be9f70abc6f9c505c3b919ee71d00f1fff3d3f36c262237f8b7f8fbc8cdbf0b"), looks := false }, kinds := [], alts := [], laidByText := true, laidKinds := [.data], laidTests := true, laidLooks := .later }
def FnCornersOfCardSaid : Prop := Claim7.holds Tryd.pinned (.plain (OpenSpec.ofChange fnCornersOfSpec)) fnCornersOfCard

/-- THE TIED CARD OF 'laws.FnPiecesOf'. -/
def fnPiecesOfCard : Claim7 := { stood := { row := fnPiecesOfRow, standIns := [], harness := (true, "8be9f70abc6f9c505c3b919ee71d00f1fff3d3f36c262237f8b7f8fbc8cdbf0b"), looks := false }, kinds := [], alts := [], laidByText := true, laidKinds := [.data], laidTests := true, laidLooks := .later }
def FnPiecesOfCardSaid : Prop := Claim7.holds Tryd.pinned (.plain (OpenSpec.ofChange fnPiecesOfSpec)) fnPiecesOfCard

/-- THE TIED CARD OF 'laws.FnHolesOf'. -/
def fnHolesOfCard : Claim7 := { stood := { row := fnHolesOfRow, standIns := [], harness := (true, "8be9f70abc6f9c505c3b919ee71d00f1fff3d3f36c262237f8b7f8fbc8cdbf0b"), looks := false }, kinds := [], alts := [], laidByText := true, laidKinds := [.data], laidTests := true, laidLooks := .later }
def FnHolesOfCardSaid : Prop := Claim7.holds Tryd.pinned (.plain (OpenSpec.ofChange fnHolesOfSpec)) fnHolesOfCard

/-- THE TIED CARD OF 'laws.FnExactPiecesOf'. -/
def fnExactPiecesOfCard : Claim7 := { stood := { row := fnExactPiecesOfRow, standIns := [], harness := (true, "8be9f70abc6f9c505c3b919ee71d00f1fff3d3f36c262237f8b7f8fbc8cdbf0b"), looks := false }, kinds := [], alts := [], laidByText := true, laidKinds := [.data], laidTests := true, laidLooks := .later }
def FnExactPiecesOfCardSaid : Prop := Claim7.holds Tryd.pinned (.plain (OpenSpec.ofChange fnExactPiecesOfSpec)) fnExactPiecesOfCard

/-- THE TIED CARD OF 'laws.FnExactHolesOf'. -/
def fnExactHolesOfCard : Claim7 := { stood := { row := fnExactHolesOfRow, standIns := [], harness := (true, "8be9f70abc6f9c505c3b919ee71d00f1fff3d3f36c262237f8b7f8fbc8cdbf0b"), looks := false }, kinds := [], alts := [], laidByText := true, laidKinds := [.data], laidTests := true, laidLooks := .later }
def FnExactHolesOfCardSaid : Prop := Claim7.holds Tryd.pinned (.plain (OpenSpec.ofChange fnExactHolesOfSpec)) fnExactHolesOfCard

/-- THE SECOND FORM's CARD OF 'laws.FnCornersOf'. -/
def fnCornersOfUptoCard : Claim7 := { stood := { row := fnCornersOfUptoRow, standIns := [], harness := (true, "8be9f70abc6f9c505c3b919ee71d00f1fff3d3f36c262237f8b7f8fbc8cdbf0b"), looks := false }, kinds := [], alts := [], laidByText := true, laidKinds := [.data], laidTests := true, laidLooks := .later }
def FnCornersOfUptoCardSaid : Prop := Claim7.holds Tryd.pinned (.plain (OpenSpec.upto fnCornersOfSpec)) fnCornersOfUptoCard

/-- THE SECOND FORM's CARD OF 'laws.FnPiecesOf'. -/
def fnPiecesOfUptoCard : Claim7 := { stood := { row := fnPiecesOfUptoRow, standIns := [], harness := (true, "8be9f70abc6f9c505c3b919ee71d00f1fff3d3f36c262237f8b7f8fbc8cdbf0b"), looks := false }, kinds := [], alts := [], laidByText := true, laidKinds := [.data], laidTests := true, laidLooks := .later }
def FnPiecesOfUptoCardSaid : Prop := Claim7.holds Tryd.pinned (.plain (OpenSpec.upto fnPiecesOfSpec)) fnPiecesOfUptoCard

/-- THE SECOND FORM's CARD OF 'laws.FnHolesOf'. -/
def fnHolesOfUptoCard : Claim7 := { stood := { row := fnHolesOfUptoRow, standIns := [], harness := (true, "8be9f70abc6f9c505c3b919ee71d00f1fff3d3f36c262237f8b7f8fbc8cdbf0b"), looks := false }, kinds := [], alts := [], laidByText := true, laidKinds := [.data], laidTests := true, laidLooks := .later }
def FnHolesOfUptoCardSaid : Prop := Claim7.holds Tryd.pinned (.plain (OpenSpec.upto fnHolesOfSpec)) fnHolesOfUptoCard

/-- THE SECOND FORM's CARD OF 'laws.FnExactPiecesOf'. -/
def fnExactPiecesOfUptoCard : Claim7 := { stood := { row := fnExactPiecesOfUptoRow, standIns := [], harness := (true, "8be9f70abc6f9c505c3b919ee71d00f1fff3d3f36c262237f8b7f8fbc8cdbf0b"), looks := false }, kinds := [], alts := [], laidByText := true, laidKinds := [.data], laidTests := true, laidLooks := .later }
def FnExactPiecesOfUptoCardSaid : Prop := Claim7.holds Tryd.pinned (.plain (OpenSpec.upto fnExactPiecesOfSpec)) fnExactPiecesOfUptoCard

/-- THE SECOND FORM's CARD OF 'laws.FnExactHolesOf'. -/
def fnExactHolesOfUptoCard : Claim7 := { stood := { row := fnExactHolesOfUptoRow, standIns := [], harness := (true, "8be9f70abc6f9c505c3b919ee71d00f1fff3d3f36c262237f8b7f8fbc8cdbf0b"), looks := false }, kinds := [], alts := [], laidByText := true, laidKinds := [.data], laidTests := true, laidLooks := .later }
def FnExactHolesOfUptoCardSaid : Prop := Claim7.holds Tryd.pinned (.plain (OpenSpec.upto fnExactHolesOfSpec)) fnExactHolesOfUptoCard
end Rows
end Go.Proofs.YtbdpngjakccjjaaDoor

/-
  DERIVED. GIVEN WITH THE SEED: THE CARDS: each row of YtkfeeijiockdhaaDoorRows.lean that lists a variable, with what it lists TIED to the program's text (the seventh form; the later family's looks); each row that meets fmt, with fmt's text TOLD by the authors' own Lean function (tested against real Go, not proved from fmt's source: count such statements apart). THE CARD IS WHAT COUNTS. Prove the row's statement (the work); the ties are given (YtkfeeijiockdhaaDoorTie.lean); close each card by the builder's one call (the guide's Derived/Test/ToyasCard.lean, 'card_holds'). Laid BY PROGRAM, IN A SANDBOX (cutbox-door.mjs). By AI agents, Wed Nov 11 2026. No macro, syntax, notation, axiom, sorry.
-/
import Derived.Test.YtkfeeijiockdhaaDoorRows
import GoSem.ClaimSeven
namespace Go.Proofs.YtkfeeijiockdhaaDoor
namespace Rows

/-- THE TIED CARD OF 'laws.FnApartOf'. -/
def fnApartOfCard : Claim7 := { stood := { row := fnApartOfRow, standIns := [], harness := (true, "2f2feda2abd610499b8834b3f64b7d6f0ccd8fe0a78d1d129bf333d5bce05a68"), looks := false }, kinds := [], alts := [], laidByText := true, laidKinds := [.data], laidTests := true, laidLooks := .later }
def FnApartOfCardSaid : Prop := Claim7.holds Tryd.pinned (.plain (OpenSpec.ofChange fnApartOfSpec)) fnApartOfCard

/-- THE SECOND FORM's CARD OF 'laws.FnApartOf'. -/
def fnApartOfUptoCard : Claim7 := { stood := { row := fnApartOfUptoRow, standIns := [], harness := (true, "2f2feda2abd610499b8834b3f64b7d6f0ccd8fe0a78d1d129bf333d5bce05a68"), looks := false }, kinds := [], alts := [], laidByText := true, laidKinds := [.data], laidTests := true, laidLooks := .later }
def FnApartOfUptoCardSaid : Prop := Claim7.holds Tryd.pinned (.plain (OpenSpec.upto fnApartOfSpec)) fnApartOfUptoCard
end Rows
end Go.Proofs.YtkfeeijiockdhaaDoor

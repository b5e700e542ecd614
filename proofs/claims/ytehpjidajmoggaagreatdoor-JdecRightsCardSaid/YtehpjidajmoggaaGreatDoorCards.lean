/-
  DERIVED. GIVEN WITH THE SEED: THE CARDS: each row of YtehpjidajmoggaaGreatDoorRows.lean that lists a variable, with what it lists TIED to the program's text (the seventh form; the later family's looks); each row that meets fmt, with fmt's text TOLD by the authors' own Lean function (tested against real Go, not proved from fmt's source: count such statements apart). THE CARD IS WHAT COUNTS. Prove the row's statement (the work); the ties are given (YtehpjidajmoggaaGreatDoorTie.lean); close each card by the builder's one call (the guide's Derived/Test/ToyasCard.lean, 'card_holds'). Laid BY PROGRAM, IN A SANDBOX (cutbox-door.mjs). By AI agents, Wed Nov 11 2026. No macro, syntax, notation, axiom, sorry.
-/
import Derived.Test.YtehpjidajmoggaaGreatDoorRows
import GoSem.ClaimSeven
namespace Go.Proofs.YtehpjidajmoggaaGreatDoor
namespace Rows

/-- THE TIED CARD OF 'tabulariumlaw09.JdecRights'. -/
def jdecRightsCard : Claim7 := { stood := { row := jdecRightsRow, standIns := [], harness := (true, "cc229223f862d9142c21062d824b7b43178c4425f910f7d7048d9f8412fe2fb9"), looks := true }, kinds := [], alts := [], laidByText := true, laidKinds := [.data, .data, .data, .pinned], laidTests := true, laidLooks := .later }
def JdecRightsCardSaid : Prop := Claim7.holds Tryz.pinned (.plain (OpenSpec.ofChange jdecRightsSpec)) jdecRightsCard

/-- THE TIED CARD OF 'tabulariumlaw09.JdecCuts'. -/
def jdecCutsCard : Claim7 := { stood := { row := jdecCutsRow, standIns := [], harness := (true, "cc229223f862d9142c21062d824b7b43178c4425f910f7d7048d9f8412fe2fb9"), looks := true }, kinds := [], alts := [], laidByText := true, laidKinds := [.data, .data, .data, .pinned], laidTests := true, laidLooks := .later }
def JdecCutsCardSaid : Prop := Claim7.holds Tryz.pinned (.plain (OpenSpec.ofChange jdecCutsSpec)) jdecCutsCard

/-- THE SECOND FORM's CARD OF 'tabulariumlaw09.JdecRights'. -/
def jdecRightsUptoCard : Claim7 := { stood := { row := jdecRightsUptoRow, standIns := [], harness := (true, "cc229223f862d9142c21062d824b7b43178c4425f910f7d7048d9f8412fe2fb9"), looks := true }, kinds := [], alts := [], laidByText := true, laidKinds := [.data, .data, .data, .pinned], laidTests := true, laidLooks := .later }
def JdecRightsUptoCardSaid : Prop := Claim7.holds Tryz.pinned (.plain (OpenSpec.upto jdecRightsSpec)) jdecRightsUptoCard

/-- THE SECOND FORM's CARD OF 'tabulariumlaw09.JdecCuts'. -/
def jdecCutsUptoCard : Claim7 := { stood := { row := jdecCutsUptoRow, standIns := [], harness := (true, "cc229223f862d9142c21062d824b7b43178c4425f910f7d7048d9f8412fe2fb9"), looks := true }, kinds := [], alts := [], laidByText := true, laidKinds := [.data, .data, .data, .pinned], laidTests := true, laidLooks := .later }
def JdecCutsUptoCardSaid : Prop := Claim7.holds Tryz.pinned (.plain (OpenSpec.upto jdecCutsSpec)) jdecCutsUptoCard
end Rows
end Go.Proofs.YtehpjidajmoggaaGreatDoor

/-
  DERIVED. GIVEN WITH THE SEED: THE CARDS: each row of YtehpjidajmoggaaDoorRows.lean that lists a variable, with what it lists TIED to the program's text (the seventh form; the later family's looks); each row that meets fmt, with fmt's text TOLD by the authors' own Lean function (tested against real Go, not proved from fmt's source: count such statements apart). THE CARD IS WHAT COUNTS. Prove the row's statement (the work); the ties are given (YtehpjidajmoggaaDoorTie.lean); close each card by the builder's one call (the guide's Derived/Test/ToyasCard.lean, 'card_holds'). Laid BY PROGRAM, IN A SANDBOX (cutbox-door.mjs). By AI agents, Wed Nov 11 2026. No macro, syntax, notation, axiom, sorry.
-/
import Derived.Test.YtehpjidajmoggaaDoorRows
import GoSem.ClaimSeven
namespace Go.Proofs.YtehpjidajmoggaaDoor
namespace Rows

/-- THE TIED CARD OF 'tabulariumlaw09.JdecBlanks'. -/
def jdecBlanksCard : Claim7 := { stood := { row := jdecBlanksRow, standIns := [], harness := (true, "a0e0d60cd4005701b02e1dd2023ef8a5bd86367dd1d7be0f1d142e5919f41c51"), looks := true }, kinds := [], alts := [], laidByText := true, laidKinds := [.data, .data, .data, .pinned], laidTests := true, laidLooks := .later }
def JdecBlanksCardSaid : Prop := Claim7.holds Tryd.pinned (.plain (OpenSpec.ofChange jdecBlanksSpec)) jdecBlanksCard

/-- THE TIED CARD OF 'tabulariumlaw09.JdecLong'. -/
def jdecLongCard : Claim7 := { stood := { row := jdecLongRow, standIns := [], harness := (true, "a0e0d60cd4005701b02e1dd2023ef8a5bd86367dd1d7be0f1d142e5919f41c51"), looks := true }, kinds := [], alts := [], laidByText := true, laidKinds := [.data, .data, .data, .pinned], laidTests := true, laidLooks := .later }
def JdecLongCardSaid : Prop := Claim7.holds Tryd.pinned (.plain (OpenSpec.ofChange jdecLongSpec)) jdecLongCard

/-- THE SECOND FORM's CARD OF 'tabulariumlaw09.JdecBlanks'. -/
def jdecBlanksUptoCard : Claim7 := { stood := { row := jdecBlanksUptoRow, standIns := [], harness := (true, "a0e0d60cd4005701b02e1dd2023ef8a5bd86367dd1d7be0f1d142e5919f41c51"), looks := true }, kinds := [], alts := [], laidByText := true, laidKinds := [.data, .data, .data, .pinned], laidTests := true, laidLooks := .later }
def JdecBlanksUptoCardSaid : Prop := Claim7.holds Tryd.pinned (.plain (OpenSpec.upto jdecBlanksSpec)) jdecBlanksUptoCard

/-- THE SECOND FORM's CARD OF 'tabulariumlaw09.JdecLong'. -/
def jdecLongUptoCard : Claim7 := { stood := { row := jdecLongUptoRow, standIns := [], harness := (true, "a0e0d60cd4005701b02e1dd2023ef8a5bd86367dd1d7be0f1d142e5919f41c51"), looks := true }, kinds := [], alts := [], laidByText := true, laidKinds := [.data, .data, .data, .pinned], laidTests := true, laidLooks := .later }
def JdecLongUptoCardSaid : Prop := Claim7.holds Tryd.pinned (.plain (OpenSpec.upto jdecLongSpec)) jdecLongUptoCard
end Rows
end Go.Proofs.YtehpjidajmoggaaDoor

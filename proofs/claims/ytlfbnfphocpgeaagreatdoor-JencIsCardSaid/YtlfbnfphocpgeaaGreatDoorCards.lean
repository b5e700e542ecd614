/-
  DERIVED. GIVEN WITH THE SEED: THE CARDS: each row of YtlfbnfphocpgeaaGreatDoorRows.lean that lists a variable, with what it lists TIED to the program's text (the seventh form; the later family's looks); each row that meets fmt, with fmt's text TOLD by the authors' own Lean function (tested against real Go, not proved from fmt's source: count such statements apart). THE CARD IS WHAT COUNTS. Prove the row's statement (the work); the ties are given (YtlfbnfphocpgeaaGreatDoorTie.lean); close each card by the builder's one call (the guide's Derived/Test/ToyasCard.lean, 'card_holds'). Laid BY PROGRAM, IN A SANDBOX (cutbox-door.mjs). By AI agents, Wed Nov 11 2026. No macro, syntax, notation, axiom, sorry.
-/
import Derived.Test.YtlfbnfphocpgeaaGreatDoorRows
import GoSem.ClaimSeven
namespace Go.Proofs.YtlfbnfphocpgeaaGreatDoor
namespace Rows

/-- THE TIED CARD OF 'tabulariumlaw09.JdecCuts'. -/
def jdecCutsCard : Claim7 := { stood := { row := jdecCutsRow, standIns := [], harness := (true, "c9d2968da73affb1ed870afdc6afa78f40ba777780d2c1adeaf1d77982c2b761"), looks := true }, kinds := [], alts := [], laidByText := true, laidKinds := [.data, .data, .data, .pinned], laidTests := true, laidLooks := .later }
def JdecCutsCardSaid : Prop := Claim7.holds Tryz.pinned (.plain (OpenSpec.ofChange jdecCutsSpec)) jdecCutsCard

/-- THE TIED CARD OF 'tabulariumlaw10.JencIs'. -/
def jencIsCard : Claim7 := { stood := { row := jencIsRow, standIns := [], harness := (true, "c9d2968da73affb1ed870afdc6afa78f40ba777780d2c1adeaf1d77982c2b761"), looks := true }, kinds := [], alts := [], laidByText := true, laidKinds := [.data, .data, .data, .data, .data, .data, .pinned], laidTests := true, laidLooks := .later }
def JencIsCardSaid : Prop := Claim7.holds Tryz.pinned (.plain (OpenSpec.ofChange jencIsSpec)) jencIsCard

/-- THE TIED CARD OF 'tabulariumlaw10.JencTwice'. -/
def jencTwiceCard : Claim7 := { stood := { row := jencTwiceRow, standIns := [], harness := (true, "c9d2968da73affb1ed870afdc6afa78f40ba777780d2c1adeaf1d77982c2b761"), looks := true }, kinds := [], alts := [], laidByText := true, laidKinds := [.data, .data, .data, .data, .data, .data, .pinned], laidTests := true, laidLooks := .later }
def JencTwiceCardSaid : Prop := Claim7.holds Tryz.pinned (.plain (OpenSpec.ofChange jencTwiceSpec)) jencTwiceCard

/-- THE TIED CARD OF 'tabulariumlaw10.JencOrder'. -/
def jencOrderCard : Claim7 := { stood := { row := jencOrderRow, standIns := [], harness := (true, "c9d2968da73affb1ed870afdc6afa78f40ba777780d2c1adeaf1d77982c2b761"), looks := true }, kinds := [], alts := [], laidByText := true, laidKinds := [.data, .data, .data, .data], laidTests := true, laidLooks := .later }
def JencOrderCardSaid : Prop := Claim7.holds Tryz.pinned (.plain (OpenSpec.ofChange jencOrderSpec)) jencOrderCard

/-- THE TIED CARD OF 'tabulariumlaw10.JencLines'. -/
def jencLinesCard : Claim7 := { stood := { row := jencLinesRow, standIns := [], harness := (true, "c9d2968da73affb1ed870afdc6afa78f40ba777780d2c1adeaf1d77982c2b761"), looks := true }, kinds := [], alts := [], laidByText := true, laidKinds := [.data, .data, .data, .data], laidTests := true, laidLooks := .later }
def JencLinesCardSaid : Prop := Claim7.holds Tryz.pinned (.plain (OpenSpec.ofChange jencLinesSpec)) jencLinesCard

/-- THE SECOND FORM's CARD OF 'tabulariumlaw09.JdecCuts'. -/
def jdecCutsUptoCard : Claim7 := { stood := { row := jdecCutsUptoRow, standIns := [], harness := (true, "c9d2968da73affb1ed870afdc6afa78f40ba777780d2c1adeaf1d77982c2b761"), looks := true }, kinds := [], alts := [], laidByText := true, laidKinds := [.data, .data, .data, .pinned], laidTests := true, laidLooks := .later }
def JdecCutsUptoCardSaid : Prop := Claim7.holds Tryz.pinned (.plain (OpenSpec.upto jdecCutsSpec)) jdecCutsUptoCard

/-- THE SECOND FORM's CARD OF 'tabulariumlaw10.JencIs'. -/
def jencIsUptoCard : Claim7 := { stood := { row := jencIsUptoRow, standIns := [], harness := (true, "c9d2968da73affb1ed870afdc6afa78f40ba777780d2c1adeaf1d77982c2b761"), looks := true }, kinds := [], alts := [], laidByText := true, laidKinds := [.data, .data, .data, .data, .data, .data, .pinned], laidTests := true, laidLooks := .later }
def JencIsUptoCardSaid : Prop := Claim7.holds Tryz.pinned (.plain (OpenSpec.upto jencIsSpec)) jencIsUptoCard

/-- THE SECOND FORM's CARD OF 'tabulariumlaw10.JencTwice'. -/
def jencTwiceUptoCard : Claim7 := { stood := { row := jencTwiceUptoRow, standIns := [], harness := (true, "c9d2968da73affb1ed870afdc6afa78f40ba777780d2c1adeaf1d77982c2b761"), looks := true }, kinds := [], alts := [], laidByText := true, laidKinds := [.data, .data, .data, .data, .data, .data, .pinned], laidTests := true, laidLooks := .later }
def JencTwiceUptoCardSaid : Prop := Claim7.holds Tryz.pinned (.plain (OpenSpec.upto jencTwiceSpec)) jencTwiceUptoCard

/-- THE SECOND FORM's CARD OF 'tabulariumlaw10.JencOrder'. -/
def jencOrderUptoCard : Claim7 := { stood := { row := jencOrderUptoRow, standIns := [], harness := (true, "c9d2968da73affb1ed870afdc6afa78f40ba777780d2c1adeaf1d77982c2b761"), looks := true }, kinds := [], alts := [], laidByText := true, laidKinds := [.data, .data, .data, .data], laidTests := true, laidLooks := .later }
def JencOrderUptoCardSaid : Prop := Claim7.holds Tryz.pinned (.plain (OpenSpec.upto jencOrderSpec)) jencOrderUptoCard

/-- THE SECOND FORM's CARD OF 'tabulariumlaw10.JencLines'. -/
def jencLinesUptoCard : Claim7 := { stood := { row := jencLinesUptoRow, standIns := [], harness := (true, "c9d2968da73affb1ed870afdc6afa78f40ba777780d2c1adeaf1d77982c2b761"), looks := true }, kinds := [], alts := [], laidByText := true, laidKinds := [.data, .data, .data, .data], laidTests := true, laidLooks := .later }
def JencLinesUptoCardSaid : Prop := Claim7.holds Tryz.pinned (.plain (OpenSpec.upto jencLinesSpec)) jencLinesUptoCard
end Rows
end Go.Proofs.YtlfbnfphocpgeaaGreatDoor

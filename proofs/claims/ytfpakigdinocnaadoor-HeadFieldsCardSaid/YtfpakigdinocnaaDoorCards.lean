/-
  DERIVED. GIVEN WITH THE SEED: THE CARDS: each row of YtfpakigdinocnaaDoorRows.lean that lists a variable, with what it lists TIED to the program's text (the seventh form; the later family's looks); each row that meets fmt, with fmt's text TOLD by the authors' own Lean function (tested against real Go, not proved from fmt's source: count such statements apart). THE CARD IS WHAT COUNTS. Prove the row's statement (the work); the ties are given (YtfpakigdinocnaaDoorTie.lean); close each card by the builder's one call (the guide's Derived/Test/ToyasCard.lean, 'card_holds'). Laid BY PROGRAM, IN A SANDBOX (cutbox-door.mjs). By AI agents, Wed Nov 11 2026. No macro, syntax, notation, axiom, sorry.
-/
import Derived.Test.YtfpakigdinocnaaDoorRows
import GoSem.ClaimSeven
namespace Go.Proofs.YtfpakigdinocnaaDoor
namespace Rows

/-- THE TIED CARD OF 'odometerlaw06.HeadParses'. -/
def headParsesCard : Claim7 := { stood := { row := headParsesRow, standIns := [], harness := (true, "f826a2abe6732f7229a21857180170645b2a455d351a2ae4b8f8a34fe89a0e9e"), looks := false }, kinds := [], alts := [], laidByText := true, laidKinds := [.data, .pinned], laidTests := true, laidLooks := .later }
def HeadParsesCardSaid : Prop := Claim7.holds Tryd.pinned (.plain (OpenSpec.ofChange headParsesSpec)) headParsesCard

/-- THE TIED CARD OF 'odometerlaw06.HeadFields'. -/
def headFieldsCard : Claim7 := { stood := { row := headFieldsRow, standIns := [], harness := (true, "f826a2abe6732f7229a21857180170645b2a455d351a2ae4b8f8a34fe89a0e9e"), looks := false }, kinds := [], alts := [], laidByText := true, laidKinds := [.data, .pinned], laidTests := true, laidLooks := .later }
def HeadFieldsCardSaid : Prop := Claim7.holds Tryd.pinned (.plain (OpenSpec.ofChange headFieldsSpec)) headFieldsCard

/-- THE TIED CARD OF 'odometerlaw06.HeadMeans'. -/
def headMeansCard : Claim7 := { stood := { row := headMeansRow, standIns := [], harness := (true, "f826a2abe6732f7229a21857180170645b2a455d351a2ae4b8f8a34fe89a0e9e"), looks := false }, kinds := [], alts := [], laidByText := true, laidKinds := [.data, .pinned], laidTests := true, laidLooks := .later }
def HeadMeansCardSaid : Prop := Claim7.holds Tryd.pinned (.plain (OpenSpec.ofChange headMeansSpec)) headMeansCard

/-- THE TIED CARD OF 'odometerlaw06.HeadTexts'. -/
def headTextsCard : Claim7 := { stood := { row := headTextsRow, standIns := [], harness := (true, "f826a2abe6732f7229a21857180170645b2a455d351a2ae4b8f8a34fe89a0e9e"), looks := false }, kinds := [], alts := [], laidByText := true, laidKinds := [.data, .pinned], laidTests := true, laidLooks := .later }
def HeadTextsCardSaid : Prop := Claim7.holds Tryd.pinned (.plain (OpenSpec.ofChange headTextsSpec)) headTextsCard

/-- THE TIED CARD OF 'odometerlaw06.HeadLarge'. -/
def headLargeCard : Claim7 := { stood := { row := headLargeRow, standIns := [], harness := (true, "f826a2abe6732f7229a21857180170645b2a455d351a2ae4b8f8a34fe89a0e9e"), looks := false }, kinds := [], alts := [], laidByText := true, laidKinds := [.data, .pinned], laidTests := true, laidLooks := .later }
def HeadLargeCardSaid : Prop := Claim7.holds Tryd.pinned (.plain (OpenSpec.ofChange headLargeSpec)) headLargeCard

/-- THE SECOND FORM's CARD OF 'odometerlaw06.HeadParses'. -/
def headParsesUptoCard : Claim7 := { stood := { row := headParsesUptoRow, standIns := [], harness := (true, "f826a2abe6732f7229a21857180170645b2a455d351a2ae4b8f8a34fe89a0e9e"), looks := false }, kinds := [], alts := [], laidByText := true, laidKinds := [.data, .pinned], laidTests := true, laidLooks := .later }
def HeadParsesUptoCardSaid : Prop := Claim7.holds Tryd.pinned (.plain (OpenSpec.upto headParsesSpec)) headParsesUptoCard

/-- THE SECOND FORM's CARD OF 'odometerlaw06.HeadFields'. -/
def headFieldsUptoCard : Claim7 := { stood := { row := headFieldsUptoRow, standIns := [], harness := (true, "f826a2abe6732f7229a21857180170645b2a455d351a2ae4b8f8a34fe89a0e9e"), looks := false }, kinds := [], alts := [], laidByText := true, laidKinds := [.data, .pinned], laidTests := true, laidLooks := .later }
def HeadFieldsUptoCardSaid : Prop := Claim7.holds Tryd.pinned (.plain (OpenSpec.upto headFieldsSpec)) headFieldsUptoCard

/-- THE SECOND FORM's CARD OF 'odometerlaw06.HeadMeans'. -/
def headMeansUptoCard : Claim7 := { stood := { row := headMeansUptoRow, standIns := [], harness := (true, "f826a2abe6732f7229a21857180170645b2a455d351a2ae4b8f8a34fe89a0e9e"), looks := false }, kinds := [], alts := [], laidByText := true, laidKinds := [.data, .pinned], laidTests := true, laidLooks := .later }
def HeadMeansUptoCardSaid : Prop := Claim7.holds Tryd.pinned (.plain (OpenSpec.upto headMeansSpec)) headMeansUptoCard

/-- THE SECOND FORM's CARD OF 'odometerlaw06.HeadTexts'. -/
def headTextsUptoCard : Claim7 := { stood := { row := headTextsUptoRow, standIns := [], harness := (true, "f826a2abe6732f7229a21857180170645b2a455d351a2ae4b8f8a34fe89a0e9e"), looks := false }, kinds := [], alts := [], laidByText := true, laidKinds := [.data, .pinned], laidTests := true, laidLooks := .later }
def HeadTextsUptoCardSaid : Prop := Claim7.holds Tryd.pinned (.plain (OpenSpec.upto headTextsSpec)) headTextsUptoCard

/-- THE SECOND FORM's CARD OF 'odometerlaw06.HeadLarge'. -/
def headLargeUptoCard : Claim7 := { stood := { row := headLargeUptoRow, standIns := [], harness := (true, "f826a2abe6732f7229a21857180170645b2a455d351a2ae4b8f8a34fe89a0e9e"), looks := false }, kinds := [], alts := [], laidByText := true, laidKinds := [.data, .pinned], laidTests := true, laidLooks := .later }
def HeadLargeUptoCardSaid : Prop := Claim7.holds Tryd.pinned (.plain (OpenSpec.upto headLargeSpec)) headLargeUptoCard
end Rows
end Go.Proofs.YtfpakigdinocnaaDoor

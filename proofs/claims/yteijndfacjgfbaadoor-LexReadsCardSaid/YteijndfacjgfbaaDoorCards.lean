/-
  DERIVED. GIVEN WITH THE SEED: THE CARDS: each row of YteijndfacjgfbaaDoorRows.lean that lists a variable, with what it lists TIED to the program's text (the seventh form; the later family's looks); each row that meets fmt, with fmt's text TOLD by the authors' own Lean function (tested against real Go, not proved from fmt's source: count such statements apart). THE CARD IS WHAT COUNTS. Prove the row's statement (the work); the ties are given (YteijndfacjgfbaaDoorTie.lean); close each card by the builder's one call (the guide's Derived/Test/ToyasCard.lean, 'card_holds'). Laid BY PROGRAM, IN A SANDBOX (cutbox-door.mjs). By AI agents, Wed Nov 11 2026. No macro, syntax, notation, axiom, sorry.
-/
import Derived.Test.YteijndfacjgfbaaDoorRows
import GoSem.ClaimSeven
namespace Go.Proofs.YteijndfacjgfbaaDoor
namespace Rows

/-- THE TIED CARD OF 'gramaryelaw04.LexAll'. -/
def lexAllCard : Claim7 := { stood := { row := lexAllRow, standIns := [], harness := (true, "59c7735e1435ca9056d2219b6fbe345d25d4579be2e0cdb8e399e1e3accbce42"), looks := false }, kinds := [], alts := [], laidByText := true, laidKinds := [.data, .data, .data, .data], laidTests := true, laidLooks := .later }
def LexAllCardSaid : Prop := Claim7.holds Tryd.pinned (.plain (OpenSpec.ofChange lexAllSpec)) lexAllCard

/-- THE TIED CARD OF 'gramaryelaw04.LexReads'. -/
def lexReadsCard : Claim7 := { stood := { row := lexReadsRow, standIns := [], harness := (true, "59c7735e1435ca9056d2219b6fbe345d25d4579be2e0cdb8e399e1e3accbce42"), looks := false }, kinds := [], alts := [], laidByText := true, laidKinds := [.data, .data, .data, .data], laidTests := true, laidLooks := .later }
def LexReadsCardSaid : Prop := Claim7.holds Tryd.pinned (.plain (OpenSpec.ofChange lexReadsSpec)) lexReadsCard

/-- THE TIED CARD OF 'gramaryelaw04.LexAgain'. -/
def lexAgainCard : Claim7 := { stood := { row := lexAgainRow, standIns := [], harness := (true, "59c7735e1435ca9056d2219b6fbe345d25d4579be2e0cdb8e399e1e3accbce42"), looks := false }, kinds := [], alts := [], laidByText := true, laidKinds := [.data, .data, .data, .data], laidTests := true, laidLooks := .later }
def LexAgainCardSaid : Prop := Claim7.holds Tryd.pinned (.plain (OpenSpec.ofChange lexAgainSpec)) lexAgainCard

/-- THE TIED CARD OF 'gramaryelaw05.GramMays'. -/
def gramMaysCard : Claim7 := { stood := { row := gramMaysRow, standIns := [], harness := (true, "59c7735e1435ca9056d2219b6fbe345d25d4579be2e0cdb8e399e1e3accbce42"), looks := false }, kinds := [], alts := [], laidByText := true, laidKinds := [.data], laidTests := true, laidLooks := .later }
def GramMaysCardSaid : Prop := Claim7.holds Tryd.pinned (.plain (OpenSpec.ofChange gramMaysSpec)) gramMaysCard

/-- THE TIED CARD OF 'gramaryelaw05.GramSame'. -/
def gramSameCard : Claim7 := { stood := { row := gramSameRow, standIns := [], harness := (true, "59c7735e1435ca9056d2219b6fbe345d25d4579be2e0cdb8e399e1e3accbce42"), looks := false }, kinds := [], alts := [], laidByText := true, laidKinds := [.data], laidTests := true, laidLooks := .later }
def GramSameCardSaid : Prop := Claim7.holds Tryd.pinned (.plain (OpenSpec.ofChange gramSameSpec)) gramSameCard

/-- THE TIED CARD OF 'gramaryelaw05.GramStays'. -/
def gramStaysCard : Claim7 := { stood := { row := gramStaysRow, standIns := [], harness := (true, "59c7735e1435ca9056d2219b6fbe345d25d4579be2e0cdb8e399e1e3accbce42"), looks := false }, kinds := [], alts := [], laidByText := true, laidKinds := [.data], laidTests := true, laidLooks := .later }
def GramStaysCardSaid : Prop := Claim7.holds Tryd.pinned (.plain (OpenSpec.ofChange gramStaysSpec)) gramStaysCard

/-- THE SECOND FORM's CARD OF 'gramaryelaw04.LexAll'. -/
def lexAllUptoCard : Claim7 := { stood := { row := lexAllUptoRow, standIns := [], harness := (true, "59c7735e1435ca9056d2219b6fbe345d25d4579be2e0cdb8e399e1e3accbce42"), looks := false }, kinds := [], alts := [], laidByText := true, laidKinds := [.data, .data, .data, .data], laidTests := true, laidLooks := .later }
def LexAllUptoCardSaid : Prop := Claim7.holds Tryd.pinned (.plain (OpenSpec.upto lexAllSpec)) lexAllUptoCard

/-- THE SECOND FORM's CARD OF 'gramaryelaw04.LexReads'. -/
def lexReadsUptoCard : Claim7 := { stood := { row := lexReadsUptoRow, standIns := [], harness := (true, "59c7735e1435ca9056d2219b6fbe345d25d4579be2e0cdb8e399e1e3accbce42"), looks := false }, kinds := [], alts := [], laidByText := true, laidKinds := [.data, .data, .data, .data], laidTests := true, laidLooks := .later }
def LexReadsUptoCardSaid : Prop := Claim7.holds Tryd.pinned (.plain (OpenSpec.upto lexReadsSpec)) lexReadsUptoCard

/-- THE SECOND FORM's CARD OF 'gramaryelaw04.LexAgain'. -/
def lexAgainUptoCard : Claim7 := { stood := { row := lexAgainUptoRow, standIns := [], harness := (true, "59c7735e1435ca9056d2219b6fbe345d25d4579be2e0cdb8e399e1e3accbce42"), looks := false }, kinds := [], alts := [], laidByText := true, laidKinds := [.data, .data, .data, .data], laidTests := true, laidLooks := .later }
def LexAgainUptoCardSaid : Prop := Claim7.holds Tryd.pinned (.plain (OpenSpec.upto lexAgainSpec)) lexAgainUptoCard

/-- THE SECOND FORM's CARD OF 'gramaryelaw05.GramMays'. -/
def gramMaysUptoCard : Claim7 := { stood := { row := gramMaysUptoRow, standIns := [], harness := (true, "59c7735e1435ca9056d2219b6fbe345d25d4579be2e0cdb8e399e1e3accbce42"), looks := false }, kinds := [], alts := [], laidByText := true, laidKinds := [.data], laidTests := true, laidLooks := .later }
def GramMaysUptoCardSaid : Prop := Claim7.holds Tryd.pinned (.plain (OpenSpec.upto gramMaysSpec)) gramMaysUptoCard

/-- THE SECOND FORM's CARD OF 'gramaryelaw05.GramSame'. -/
def gramSameUptoCard : Claim7 := { stood := { row := gramSameUptoRow, standIns := [], harness := (true, "59c7735e1435ca9056d2219b6fbe345d25d4579be2e0cdb8e399e1e3accbce42"), looks := false }, kinds := [], alts := [], laidByText := true, laidKinds := [.data], laidTests := true, laidLooks := .later }
def GramSameUptoCardSaid : Prop := Claim7.holds Tryd.pinned (.plain (OpenSpec.upto gramSameSpec)) gramSameUptoCard

/-- THE SECOND FORM's CARD OF 'gramaryelaw05.GramStays'. -/
def gramStaysUptoCard : Claim7 := { stood := { row := gramStaysUptoRow, standIns := [], harness := (true, "59c7735e1435ca9056d2219b6fbe345d25d4579be2e0cdb8e399e1e3accbce42"), looks := false }, kinds := [], alts := [], laidByText := true, laidKinds := [.data], laidTests := true, laidLooks := .later }
def GramStaysUptoCardSaid : Prop := Claim7.holds Tryd.pinned (.plain (OpenSpec.upto gramStaysSpec)) gramStaysUptoCard
end Rows
end Go.Proofs.YteijndfacjgfbaaDoor

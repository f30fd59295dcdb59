/-
  DERIVED. GIVEN WITH THE SEED: THE CARDS: each row of YtciajgdjddepdaaDoorRows.lean that lists a variable, with what it lists TIED to the program's text (the seventh form; the later family's looks); each row that meets fmt, with fmt's text TOLD by the authors' own Lean function (tested against real Go, not proved from fmt's source: count such statements apart). THE CARD IS WHAT COUNTS. Prove the row's statement (the work); the ties are given (YtciajgdjddepdaaDoorTie.lean); close each card by the builder's one call (the guide's Derived/Test/ToyasCard.lean, 'card_holds'). Laid BY PROGRAM, IN A SANDBOX (cutbox-door.mjs). By AI agents, Wed Nov 11 2026. No macro, syntax, notation, axiom, sorry.
-/
import Derived.Test.YtciajgdjddepdaaDoorRows
import GoSem.ClaimSeven
namespace Go.Proofs.YtciajgdjddepdaaDoor
namespace Rows

/-- THE TIED CARD OF 'silolaw08.StreamDoes'. -/
def streamDoesCard : Claim7 := { stood := { row := streamDoesRow, standIns := [], harness := (true, "7477b355904f654dd1c152ef8051d53006f59563713cdc27b4659ff117a040aa"), looks := false }, kinds := [], alts := [], laidByText := true, laidKinds := [.data, .data], laidTests := true, laidLooks := .later }
def StreamDoesCardSaid : Prop := Claim7.holds Tryd.pinned (.plain (OpenSpec.ofChange streamDoesSpec)) streamDoesCard

/-- THE TIED CARD OF 'silolaw08.StreamWhole'. -/
def streamWholeCard : Claim7 := { stood := { row := streamWholeRow, standIns := [], harness := (true, "7477b355904f654dd1c152ef8051d53006f59563713cdc27b4659ff117a040aa"), looks := false }, kinds := [], alts := [], laidByText := true, laidKinds := [.data, .data], laidTests := true, laidLooks := .later }
def StreamWholeCardSaid : Prop := Claim7.holds Tryd.pinned (.plain (OpenSpec.ofChange streamWholeSpec)) streamWholeCard

/-- THE TIED CARD OF 'silolaw08.StreamParts'. -/
def streamPartsCard : Claim7 := { stood := { row := streamPartsRow, standIns := [], harness := (true, "7477b355904f654dd1c152ef8051d53006f59563713cdc27b4659ff117a040aa"), looks := false }, kinds := [], alts := [], laidByText := true, laidKinds := [.data, .data], laidTests := true, laidLooks := .later }
def StreamPartsCardSaid : Prop := Claim7.holds Tryd.pinned (.plain (OpenSpec.ofChange streamPartsSpec)) streamPartsCard

/-- THE TIED CARD OF 'silolaw08.StreamBytes'. -/
def streamBytesCard : Claim7 := { stood := { row := streamBytesRow, standIns := [], harness := (true, "7477b355904f654dd1c152ef8051d53006f59563713cdc27b4659ff117a040aa"), looks := false }, kinds := [], alts := [], laidByText := true, laidKinds := [.data, .data], laidTests := true, laidLooks := .later }
def StreamBytesCardSaid : Prop := Claim7.holds Tryd.pinned (.plain (OpenSpec.ofChange streamBytesSpec)) streamBytesCard

/-- THE SECOND FORM's CARD OF 'silolaw08.StreamDoes'. -/
def streamDoesUptoCard : Claim7 := { stood := { row := streamDoesUptoRow, standIns := [], harness := (true, "7477b355904f654dd1c152ef8051d53006f59563713cdc27b4659ff117a040aa"), looks := false }, kinds := [], alts := [], laidByText := true, laidKinds := [.data, .data], laidTests := true, laidLooks := .later }
def StreamDoesUptoCardSaid : Prop := Claim7.holds Tryd.pinned (.plain (OpenSpec.upto streamDoesSpec)) streamDoesUptoCard

/-- THE SECOND FORM's CARD OF 'silolaw08.StreamWhole'. -/
def streamWholeUptoCard : Claim7 := { stood := { row := streamWholeUptoRow, standIns := [], harness := (true, "7477b355904f654dd1c152ef8051d53006f59563713cdc27b4659ff117a040aa"), looks := false }, kinds := [], alts := [], laidByText := true, laidKinds := [.data, .data], laidTests := true, laidLooks := .later }
def StreamWholeUptoCardSaid : Prop := Claim7.holds Tryd.pinned (.plain (OpenSpec.upto streamWholeSpec)) streamWholeUptoCard

/-- THE SECOND FORM's CARD OF 'silolaw08.StreamParts'. -/
def streamPartsUptoCard : Claim7 := { stood := { row := streamPartsUptoRow, standIns := [], harness := (true, "7477b355904f654dd1c152ef8051d53006f59563713cdc27b4659ff117a040aa"), looks := false }, kinds := [], alts := [], laidByText := true, laidKinds := [.data, .data], laidTests := true, laidLooks := .later }
def StreamPartsUptoCardSaid : Prop := Claim7.holds Tryd.pinned (.plain (OpenSpec.upto streamPartsSpec)) streamPartsUptoCard

/-- THE SECOND FORM's CARD OF 'silolaw08.StreamBytes'. -/
def streamBytesUptoCard : Claim7 := { stood := { row := streamBytesUptoRow, standIns := [], harness := (true, "7477b355904f654dd1c152ef8051d53006f59563713cdc27b4659ff117a040aa"), looks := false }, kinds := [], alts := [], laidByText := true, laidKinds := [.data, .data], laidTests := true, laidLooks := .later }
def StreamBytesUptoCardSaid : Prop := Claim7.holds Tryd.pinned (.plain (OpenSpec.upto streamBytesSpec)) streamBytesUptoCard
end Rows
end Go.Proofs.YtciajgdjddepdaaDoor

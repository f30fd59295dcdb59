/-
  DERIVED. GIVEN WITH THE SEED: THE CARDS: each row of YtclmkedbioommaaDoorRows.lean that lists a variable, with what it lists TIED to the program's text (the seventh form; the later family's looks); each row that meets fmt, with fmt's text TOLD by the authors' own Lean function (tested against real Go, not proved from fmt's source: count such statements apart). THE CARD IS WHAT COUNTS. Prove the row's statement (the work); the ties are given (YtclmkedbioommaaDoorTie.lean); close each card by the builder's one call (the guide's Derived/Test/ToyasCard.lean, 'card_holds'). Laid BY PROGRAM, IN A SANDBOX (cutbox-door.mjs). By AI agents, Wed Nov 11 2026. No macro, syntax, notation, axiom, sorry.
-/
import Derived.Test.YtclmkedbioommaaDoorRows
import GoSem.ClaimSeven
namespace Go.Proofs.YtclmkedbioommaaDoor
namespace Rows

/-- THE TIED CARD OF 'silolaw07.CdcDoes'. -/
def cdcDoesCard : Claim7 := { stood := { row := cdcDoesRow, standIns := [], harness := (true, "f9de6c299aff1b772d2b0f25035b8721b6864931e9b8d3f0437a62980a10c6e5"), looks := false }, kinds := [], alts := [], laidByText := true, laidKinds := [.data, .data], laidTests := true, laidLooks := .later }
def CdcDoesCardSaid : Prop := Claim7.holds Tryd.pinned (.plain (OpenSpec.ofChange cdcDoesSpec)) cdcDoesCard

/-- THE TIED CARD OF 'silolaw07.CdcWhole'. -/
def cdcWholeCard : Claim7 := { stood := { row := cdcWholeRow, standIns := [], harness := (true, "f9de6c299aff1b772d2b0f25035b8721b6864931e9b8d3f0437a62980a10c6e5"), looks := false }, kinds := [], alts := [], laidByText := true, laidKinds := [.data, .data], laidTests := true, laidLooks := .later }
def CdcWholeCardSaid : Prop := Claim7.holds Tryd.pinned (.plain (OpenSpec.ofChange cdcWholeSpec)) cdcWholeCard

/-- THE TIED CARD OF 'silolaw07.CdcStep'. -/
def cdcStepCard : Claim7 := { stood := { row := cdcStepRow, standIns := [], harness := (true, "f9de6c299aff1b772d2b0f25035b8721b6864931e9b8d3f0437a62980a10c6e5"), looks := false }, kinds := [], alts := [], laidByText := true, laidKinds := [.data, .data], laidTests := true, laidLooks := .later }
def CdcStepCardSaid : Prop := Claim7.holds Tryd.pinned (.plain (OpenSpec.ofChange cdcStepSpec)) cdcStepCard

/-- THE TIED CARD OF 'silolaw07.CdcAhead'. -/
def cdcAheadCard : Claim7 := { stood := { row := cdcAheadRow, standIns := [], harness := (true, "f9de6c299aff1b772d2b0f25035b8721b6864931e9b8d3f0437a62980a10c6e5"), looks := false }, kinds := [], alts := [], laidByText := true, laidKinds := [.data, .data], laidTests := true, laidLooks := .later }
def CdcAheadCardSaid : Prop := Claim7.holds Tryd.pinned (.plain (OpenSpec.ofChange cdcAheadSpec)) cdcAheadCard

/-- THE SECOND FORM's CARD OF 'silolaw07.CdcDoes'. -/
def cdcDoesUptoCard : Claim7 := { stood := { row := cdcDoesUptoRow, standIns := [], harness := (true, "f9de6c299aff1b772d2b0f25035b8721b6864931e9b8d3f0437a62980a10c6e5"), looks := false }, kinds := [], alts := [], laidByText := true, laidKinds := [.data, .data], laidTests := true, laidLooks := .later }
def CdcDoesUptoCardSaid : Prop := Claim7.holds Tryd.pinned (.plain (OpenSpec.upto cdcDoesSpec)) cdcDoesUptoCard

/-- THE SECOND FORM's CARD OF 'silolaw07.CdcWhole'. -/
def cdcWholeUptoCard : Claim7 := { stood := { row := cdcWholeUptoRow, standIns := [], harness := (true, "f9de6c299aff1b772d2b0f25035b8721b6864931e9b8d3f0437a62980a10c6e5"), looks := false }, kinds := [], alts := [], laidByText := true, laidKinds := [.data, .data], laidTests := true, laidLooks := .later }
def CdcWholeUptoCardSaid : Prop := Claim7.holds Tryd.pinned (.plain (OpenSpec.upto cdcWholeSpec)) cdcWholeUptoCard

/-- THE SECOND FORM's CARD OF 'silolaw07.CdcStep'. -/
def cdcStepUptoCard : Claim7 := { stood := { row := cdcStepUptoRow, standIns := [], harness := (true, "f9de6c299aff1b772d2b0f25035b8721b6864931e9b8d3f0437a62980a10c6e5"), looks := false }, kinds := [], alts := [], laidByText := true, laidKinds := [.data, .data], laidTests := true, laidLooks := .later }
def CdcStepUptoCardSaid : Prop := Claim7.holds Tryd.pinned (.plain (OpenSpec.upto cdcStepSpec)) cdcStepUptoCard

/-- THE SECOND FORM's CARD OF 'silolaw07.CdcAhead'. -/
def cdcAheadUptoCard : Claim7 := { stood := { row := cdcAheadUptoRow, standIns := [], harness := (true, "f9de6c299aff1b772d2b0f25035b8721b6864931e9b8d3f0437a62980a10c6e5"), looks := false }, kinds := [], alts := [], laidByText := true, laidKinds := [.data, .data], laidTests := true, laidLooks := .later }
def CdcAheadUptoCardSaid : Prop := Claim7.holds Tryd.pinned (.plain (OpenSpec.upto cdcAheadSpec)) cdcAheadUptoCard
end Rows
end Go.Proofs.YtclmkedbioommaaDoor

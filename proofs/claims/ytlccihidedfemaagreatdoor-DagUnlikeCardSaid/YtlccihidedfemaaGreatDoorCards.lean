/-
  DERIVED. GIVEN WITH THE SEED: THE CARDS: each row of YtlccihidedfemaaGreatDoorRows.lean that lists a variable, with what it lists TIED to the program's text (the seventh form; the later family's looks); each row that meets fmt, with fmt's text TOLD by the authors' own Lean function (tested against real Go, not proved from fmt's source: count such statements apart). THE CARD IS WHAT COUNTS. Prove the row's statement (the work); the ties are given (YtlccihidedfemaaGreatDoorTie.lean); close each card by the builder's one call (the guide's Derived/Test/ToyasCard.lean, 'card_holds'). Laid BY PROGRAM, IN A SANDBOX (cutbox-door.mjs). By AI agents, Wed Nov 11 2026. No macro, syntax, notation, axiom, sorry.
-/
import Derived.Test.YtlccihidedfemaaGreatDoorRows
import GoSem.ClaimSeven
namespace Go.Proofs.YtlccihidedfemaaGreatDoor
namespace Rows

/-- THE TIED CARD OF 'silolaw12.DagBuilds'. -/
def dagBuildsCard : Claim7 := { stood := { row := dagBuildsRow, standIns := [], harness := (true, "2c532dd79e2f77784145683bad3ff2ed80b6f990ffc8447a041c2e4d1a9b48da"), looks := false }, kinds := [], alts := [], laidByText := true, laidKinds := [.data, .data, .data, .pinned], laidTests := true, laidLooks := .later }
def DagBuildsCardSaid : Prop := Claim7.holds Tryz.pinned (.plain (OpenSpec.ofChange dagBuildsSpec)) dagBuildsCard

/-- THE TIED CARD OF 'silolaw12.DagLists'. -/
def dagListsCard : Claim7 := { stood := { row := dagListsRow, standIns := [], harness := (true, "2c532dd79e2f77784145683bad3ff2ed80b6f990ffc8447a041c2e4d1a9b48da"), looks := false }, kinds := [], alts := [], laidByText := true, laidKinds := [.data, .data, .data, .pinned], laidTests := true, laidLooks := .later }
def DagListsCardSaid : Prop := Claim7.holds Tryz.pinned (.plain (OpenSpec.ofChange dagListsSpec)) dagListsCard

/-- THE TIED CARD OF 'silolaw12.DagSums'. -/
def dagSumsCard : Claim7 := { stood := { row := dagSumsRow, standIns := [], harness := (true, "2c532dd79e2f77784145683bad3ff2ed80b6f990ffc8447a041c2e4d1a9b48da"), looks := false }, kinds := [], alts := [], laidByText := true, laidKinds := [.data, .data, .data, .pinned], laidTests := true, laidLooks := .later }
def DagSumsCardSaid : Prop := Claim7.holds Tryz.pinned (.plain (OpenSpec.ofChange dagSumsSpec)) dagSumsCard

/-- THE TIED CARD OF 'silolaw12.DagUnlike'. -/
def dagUnlikeCard : Claim7 := { stood := { row := dagUnlikeRow, standIns := [], harness := (true, "2c532dd79e2f77784145683bad3ff2ed80b6f990ffc8447a041c2e4d1a9b48da"), looks := false }, kinds := [], alts := [], laidByText := true, laidKinds := [.data, .data, .data, .pinned], laidTests := true, laidLooks := .later }
def DagUnlikeCardSaid : Prop := Claim7.holds Tryz.pinned (.plain (OpenSpec.ofChange dagUnlikeSpec)) dagUnlikeCard

/-- THE TIED CARD OF 'silolaw12.DagParts'. -/
def dagPartsCard : Claim7 := { stood := { row := dagPartsRow, standIns := [], harness := (true, "2c532dd79e2f77784145683bad3ff2ed80b6f990ffc8447a041c2e4d1a9b48da"), looks := false }, kinds := [], alts := [], laidByText := true, laidKinds := [.data, .data, .data, .pinned], laidTests := true, laidLooks := .later }
def DagPartsCardSaid : Prop := Claim7.holds Tryz.pinned (.plain (OpenSpec.ofChange dagPartsSpec)) dagPartsCard

/-- THE TIED CARD OF 'silolaw12.DagAdds'. -/
def dagAddsCard : Claim7 := { stood := { row := dagAddsRow, standIns := [], harness := (true, "2c532dd79e2f77784145683bad3ff2ed80b6f990ffc8447a041c2e4d1a9b48da"), looks := false }, kinds := [], alts := [], laidByText := true, laidKinds := [.data, .data, .data, .pinned], laidTests := true, laidLooks := .later }
def DagAddsCardSaid : Prop := Claim7.holds Tryz.pinned (.plain (OpenSpec.ofChange dagAddsSpec)) dagAddsCard

/-- THE SECOND FORM's CARD OF 'silolaw12.DagBuilds'. -/
def dagBuildsUptoCard : Claim7 := { stood := { row := dagBuildsUptoRow, standIns := [], harness := (true, "2c532dd79e2f77784145683bad3ff2ed80b6f990ffc8447a041c2e4d1a9b48da"), looks := false }, kinds := [], alts := [], laidByText := true, laidKinds := [.data, .data, .data, .pinned], laidTests := true, laidLooks := .later }
def DagBuildsUptoCardSaid : Prop := Claim7.holds Tryz.pinned (.plain (OpenSpec.upto dagBuildsSpec)) dagBuildsUptoCard

/-- THE SECOND FORM's CARD OF 'silolaw12.DagLists'. -/
def dagListsUptoCard : Claim7 := { stood := { row := dagListsUptoRow, standIns := [], harness := (true, "2c532dd79e2f77784145683bad3ff2ed80b6f990ffc8447a041c2e4d1a9b48da"), looks := false }, kinds := [], alts := [], laidByText := true, laidKinds := [.data, .data, .data, .pinned], laidTests := true, laidLooks := .later }
def DagListsUptoCardSaid : Prop := Claim7.holds Tryz.pinned (.plain (OpenSpec.upto dagListsSpec)) dagListsUptoCard

/-- THE SECOND FORM's CARD OF 'silolaw12.DagSums'. -/
def dagSumsUptoCard : Claim7 := { stood := { row := dagSumsUptoRow, standIns := [], harness := (true, "2c532dd79e2f77784145683bad3ff2ed80b6f990ffc8447a041c2e4d1a9b48da"), looks := false }, kinds := [], alts := [], laidByText := true, laidKinds := [.data, .data, .data, .pinned], laidTests := true, laidLooks := .later }
def DagSumsUptoCardSaid : Prop := Claim7.holds Tryz.pinned (.plain (OpenSpec.upto dagSumsSpec)) dagSumsUptoCard

/-- THE SECOND FORM's CARD OF 'silolaw12.DagUnlike'. -/
def dagUnlikeUptoCard : Claim7 := { stood := { row := dagUnlikeUptoRow, standIns := [], harness := (true, "2c532dd79e2f77784145683bad3ff2ed80b6f990ffc8447a041c2e4d1a9b48da"), looks := false }, kinds := [], alts := [], laidByText := true, laidKinds := [.data, .data, .data, .pinned], laidTests := true, laidLooks := .later }
def DagUnlikeUptoCardSaid : Prop := Claim7.holds Tryz.pinned (.plain (OpenSpec.upto dagUnlikeSpec)) dagUnlikeUptoCard

/-- THE SECOND FORM's CARD OF 'silolaw12.DagParts'. -/
def dagPartsUptoCard : Claim7 := { stood := { row := dagPartsUptoRow, standIns := [], harness := (true, "2c532dd79e2f77784145683bad3ff2ed80b6f990ffc8447a041c2e4d1a9b48da"), looks := false }, kinds := [], alts := [], laidByText := true, laidKinds := [.data, .data, .data, .pinned], laidTests := true, laidLooks := .later }
def DagPartsUptoCardSaid : Prop := Claim7.holds Tryz.pinned (.plain (OpenSpec.upto dagPartsSpec)) dagPartsUptoCard

/-- THE SECOND FORM's CARD OF 'silolaw12.DagAdds'. -/
def dagAddsUptoCard : Claim7 := { stood := { row := dagAddsUptoRow, standIns := [], harness := (true, "2c532dd79e2f77784145683bad3ff2ed80b6f990ffc8447a041c2e4d1a9b48da"), looks := false }, kinds := [], alts := [], laidByText := true, laidKinds := [.data, .data, .data, .pinned], laidTests := true, laidLooks := .later }
def DagAddsUptoCardSaid : Prop := Claim7.holds Tryz.pinned (.plain (OpenSpec.upto dagAddsSpec)) dagAddsUptoCard
end Rows
end Go.Proofs.YtlccihidedfemaaGreatDoor

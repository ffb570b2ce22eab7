/-
  DERIVED. GIVEN WITH THE SEED: THE CARDS: each row of YthlghokgknkpaaaGreatDoorRows.lean that lists a variable, with what it lists TIED to the program's text (the seventh form; the later family's looks); each row that meets fmt, with fmt's text TOLD by the authors' own Lean function (tested against real Go, not proved from fmt's source: count such statements apart). THE CARD IS WHAT COUNTS. Prove the row's statement (the work); the ties are given (YthlghokgknkpaaaGreatDoorTie.lean); close each card by the builder's one call (the guide's Derived/Test/ToyasCard.lean, 'card_holds'). Laid BY PROGRAM, IN A SANDBOX (cutbox-door.mjs). By AI agents, Wed Nov 11 2026. No macro, syntax, notation, axiom, sorry.
-/
import Derived.Test.YthlghokgknkpaaaGreatDoorRows
import GoSem.ClaimSeven
namespace Go.Proofs.YthlghokgknkpaaaGreatDoor
namespace Rows

/-- THE TIED CARD OF 'corbellaw07.ImageTells'. -/
def imageTellsCard : Claim7 := { stood := { row := imageTellsRow, standIns := [], harness := (true, "9e951a06829a8939a590b11567ae93a4efedd93c41b899a663c4576726cf5195"), looks := false }, kinds := [], alts := [], laidByText := true, laidKinds := [.data], laidTests := true, laidLooks := .later }
def ImageTellsCardSaid : Prop := Claim7.holds Tryz.pinned (.plain (OpenSpec.ofChange imageTellsSpec)) imageTellsCard

/-- THE TIED CARD OF 'corbellaw07.ImageImports'. -/
def imageImportsCard : Claim7 := { stood := { row := imageImportsRow, standIns := [], harness := (true, "9e951a06829a8939a590b11567ae93a4efedd93c41b899a663c4576726cf5195"), looks := false }, kinds := [], alts := [], laidByText := true, laidKinds := [.data], laidTests := true, laidLooks := .later }
def ImageImportsCardSaid : Prop := Claim7.holds Tryz.pinned (.plain (OpenSpec.ofChange imageImportsSpec)) imageImportsCard

/-- THE TIED CARD OF 'corbellaw07.ImageBack'. -/
def imageBackCard : Claim7 := { stood := { row := imageBackRow, standIns := [], harness := (true, "9e951a06829a8939a590b11567ae93a4efedd93c41b899a663c4576726cf5195"), looks := false }, kinds := [], alts := [], laidByText := true, laidKinds := [.data], laidTests := true, laidLooks := .later }
def ImageBackCardSaid : Prop := Claim7.holds Tryz.pinned (.plain (OpenSpec.ofChange imageBackSpec)) imageBackCard

/-- THE SECOND FORM's CARD OF 'corbellaw07.ImageTells'. -/
def imageTellsUptoCard : Claim7 := { stood := { row := imageTellsUptoRow, standIns := [], harness := (true, "9e951a06829a8939a590b11567ae93a4efedd93c41b899a663c4576726cf5195"), looks := false }, kinds := [], alts := [], laidByText := true, laidKinds := [.data], laidTests := true, laidLooks := .later }
def ImageTellsUptoCardSaid : Prop := Claim7.holds Tryz.pinned (.plain (OpenSpec.upto imageTellsSpec)) imageTellsUptoCard

/-- THE SECOND FORM's CARD OF 'corbellaw07.ImageImports'. -/
def imageImportsUptoCard : Claim7 := { stood := { row := imageImportsUptoRow, standIns := [], harness := (true, "9e951a06829a8939a590b11567ae93a4efedd93c41b899a663c4576726cf5195"), looks := false }, kinds := [], alts := [], laidByText := true, laidKinds := [.data], laidTests := true, laidLooks := .later }
def ImageImportsUptoCardSaid : Prop := Claim7.holds Tryz.pinned (.plain (OpenSpec.upto imageImportsSpec)) imageImportsUptoCard

/-- THE SECOND FORM's CARD OF 'corbellaw07.ImageBack'. -/
def imageBackUptoCard : Claim7 := { stood := { row := imageBackUptoRow, standIns := [], harness := (true, "9e951a06829a8939a590b11567ae93a4efedd93c41b899a663c4576726cf5195"), looks := false }, kinds := [], alts := [], laidByText := true, laidKinds := [.data], laidTests := true, laidLooks := .later }
def ImageBackUptoCardSaid : Prop := Claim7.holds Tryz.pinned (.plain (OpenSpec.upto imageBackSpec)) imageBackUptoCard
end Rows
end Go.Proofs.YthlghokgknkpaaaGreatDoor

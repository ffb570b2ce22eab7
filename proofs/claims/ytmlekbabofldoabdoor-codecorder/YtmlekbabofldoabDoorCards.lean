/-
  DERIVED. GIVEN WITH THE SEED: THE CARDS: each row of YtmlekbabofldoabDoorRows.lean that lists a variable, with what it lists TIED to the program's text (the seventh form; the later family's looks); each row that meets fmt, with fmt's text TOLD by the authors' own Lean function (tested against real Go, not proved from fmt's source: count such statements apart). THE CARD IS WHAT COUNTS. Prove the row's statement (the work); the ties are given (YtmlekbabofldoabDoorTie.lean); close each card by the builder's one call (the guide's Derived/Test/ToyasCard.lean, 'card_holds'). Laid BY PROGRAM, IN A SANDBOX (cutbox-door.mjs). By AI agents, Wed Nov 11 2026. No macro, syntax, notation, axiom, sorry.
-/
import Derived.Test.YtmlekbabofldoabDoorRows
import GoSem.ClaimSeven
namespace Go.Proofs.YtmlekbabofldoabDoor
namespace Rows

/-- THE TIED CARD OF 'corbellaw01.CodecTells'. -/
def codecTellsCard : Claim7 := { stood := { row := codecTellsRow, standIns := [], harness := (true, "f8ccb85ade16f0917f7272a997f96736db8dd0b1e8e6d1a5728a4ce125a63bc5"), looks := false }, kinds := [], alts := [], laidByText := true, laidKinds := [.data], laidTests := true, laidLooks := .later }
def CodecTellsCardSaid : Prop := Claim7.holds Tryd.pinned (.plain (OpenSpec.ofChange codecTellsSpec)) codecTellsCard

/-- THE TIED CARD OF 'corbellaw01.CodecShort'. -/
def codecShortCard : Claim7 := { stood := { row := codecShortRow, standIns := [], harness := (true, "f8ccb85ade16f0917f7272a997f96736db8dd0b1e8e6d1a5728a4ce125a63bc5"), looks := false }, kinds := [], alts := [], laidByText := true, laidKinds := [.data], laidTests := true, laidLooks := .later }
def CodecShortCardSaid : Prop := Claim7.holds Tryd.pinned (.plain (OpenSpec.ofChange codecShortSpec)) codecShortCard

/-- THE TIED CARD OF 'corbellaw01.CodecOrder'. -/
def codecOrderCard : Claim7 := { stood := { row := codecOrderRow, standIns := [], harness := (true, "f8ccb85ade16f0917f7272a997f96736db8dd0b1e8e6d1a5728a4ce125a63bc5"), looks := false }, kinds := [], alts := [], laidByText := true, laidKinds := [.data], laidTests := true, laidLooks := .later }
def CodecOrderCardSaid : Prop := Claim7.holds Tryd.pinned (.plain (OpenSpec.ofChange codecOrderSpec)) codecOrderCard

/-- THE TIED CARD OF 'corbellaw01.CodecMarks'. -/
def codecMarksCard : Claim7 := { stood := { row := codecMarksRow, standIns := [], harness := (true, "f8ccb85ade16f0917f7272a997f96736db8dd0b1e8e6d1a5728a4ce125a63bc5"), looks := false }, kinds := [], alts := [], laidByText := true, laidKinds := [.data], laidTests := true, laidLooks := .later }
def CodecMarksCardSaid : Prop := Claim7.holds Tryd.pinned (.plain (OpenSpec.ofChange codecMarksSpec)) codecMarksCard

/-- THE SECOND FORM's CARD OF 'corbellaw01.CodecTells'. -/
def codecTellsUptoCard : Claim7 := { stood := { row := codecTellsUptoRow, standIns := [], harness := (true, "f8ccb85ade16f0917f7272a997f96736db8dd0b1e8e6d1a5728a4ce125a63bc5"), looks := false }, kinds := [], alts := [], laidByText := true, laidKinds := [.data], laidTests := true, laidLooks := .later }
def CodecTellsUptoCardSaid : Prop := Claim7.holds Tryd.pinned (.plain (OpenSpec.upto codecTellsSpec)) codecTellsUptoCard

/-- THE SECOND FORM's CARD OF 'corbellaw01.CodecShort'. -/
def codecShortUptoCard : Claim7 := { stood := { row := codecShortUptoRow, standIns := [], harness := (true, "f8ccb85ade16f0917f7272a997f96736db8dd0b1e8e6d1a5728a4ce125a63bc5"), looks := false }, kinds := [], alts := [], laidByText := true, laidKinds := [.data], laidTests := true, laidLooks := .later }
def CodecShortUptoCardSaid : Prop := Claim7.holds Tryd.pinned (.plain (OpenSpec.upto codecShortSpec)) codecShortUptoCard

/-- THE SECOND FORM's CARD OF 'corbellaw01.CodecOrder'. -/
def codecOrderUptoCard : Claim7 := { stood := { row := codecOrderUptoRow, standIns := [], harness := (true, "f8ccb85ade16f0917f7272a997f96736db8dd0b1e8e6d1a5728a4ce125a63bc5"), looks := false }, kinds := [], alts := [], laidByText := true, laidKinds := [.data], laidTests := true, laidLooks := .later }
def CodecOrderUptoCardSaid : Prop := Claim7.holds Tryd.pinned (.plain (OpenSpec.upto codecOrderSpec)) codecOrderUptoCard

/-- THE SECOND FORM's CARD OF 'corbellaw01.CodecMarks'. -/
def codecMarksUptoCard : Claim7 := { stood := { row := codecMarksUptoRow, standIns := [], harness := (true, "f8ccb85ade16f0917f7272a997f96736db8dd0b1e8e6d1a5728a4ce125a63bc5"), looks := false }, kinds := [], alts := [], laidByText := true, laidKinds := [.data], laidTests := true, laidLooks := .later }
def CodecMarksUptoCardSaid : Prop := Claim7.holds Tryd.pinned (.plain (OpenSpec.upto codecMarksSpec)) codecMarksUptoCard
end Rows
end Go.Proofs.YtmlekbabofldoabDoor

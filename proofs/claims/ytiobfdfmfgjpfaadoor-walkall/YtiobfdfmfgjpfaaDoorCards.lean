/-
  DERIVED. GIVEN WITH THE SEED: THE CARDS: each row of YtiobfdfmfgjpfaaDoorRows.lean that lists a variable, with what it lists TIED to the program's text (the seventh form; the later family's looks); each row that meets fmt, with fmt's text TOLD by the authors' own Lean function (tested against real Go, not proved from fmt's source: count such statements apart). THE CARD IS WHAT COUNTS. Prove the row's statement (the work); the ties are given (YtiobfdfmfgjpfaaDoorTie.lean); close each card by the builder's one call (the guide's Derived/Test/ToyasCard.lean, 'card_holds'). Laid BY PROGRAM, IN A SANDBOX (cutbox-door.mjs). By AI agents, Wed Nov 11 2026. No macro, syntax, notation, axiom, sorry.
-/
import Derived.Test.YtiobfdfmfgjpfaaDoorRows
import GoSem.ClaimSeven
namespace Go.Proofs.YtiobfdfmfgjpfaaDoor
namespace Rows

/-- THE TIED CARD OF 'corbellaw06.WalkActs'. -/
def walkActsCard : Claim7 := { stood := { row := walkActsRow, standIns := [], harness := (true, "36d1ae3141a92c0f435210960f1d2185dbcb1d17290b3286e4d158fe575c6bd1"), looks := false }, kinds := [], alts := [], laidByText := true, laidKinds := [.data], laidTests := true, laidLooks := .later }
def WalkActsCardSaid : Prop := Claim7.holds Tryd.pinned (.plain (OpenSpec.ofChange walkActsSpec)) walkActsCard

/-- THE TIED CARD OF 'corbellaw06.WalkOnce'. -/
def walkOnceCard : Claim7 := { stood := { row := walkOnceRow, standIns := [], harness := (true, "36d1ae3141a92c0f435210960f1d2185dbcb1d17290b3286e4d158fe575c6bd1"), looks := false }, kinds := [], alts := [], laidByText := true, laidKinds := [.data], laidTests := true, laidLooks := .later }
def WalkOnceCardSaid : Prop := Claim7.holds Tryd.pinned (.plain (OpenSpec.ofChange walkOnceSpec)) walkOnceCard

/-- THE TIED CARD OF 'corbellaw06.WalkAll'. -/
def walkAllCard : Claim7 := { stood := { row := walkAllRow, standIns := [], harness := (true, "36d1ae3141a92c0f435210960f1d2185dbcb1d17290b3286e4d158fe575c6bd1"), looks := false }, kinds := [], alts := [], laidByText := true, laidKinds := [.data], laidTests := true, laidLooks := .later }
def WalkAllCardSaid : Prop := Claim7.holds Tryd.pinned (.plain (OpenSpec.ofChange walkAllSpec)) walkAllCard

/-- THE TIED CARD OF 'corbellaw06.WalkNone'. -/
def walkNoneCard : Claim7 := { stood := { row := walkNoneRow, standIns := [], harness := (true, "36d1ae3141a92c0f435210960f1d2185dbcb1d17290b3286e4d158fe575c6bd1"), looks := false }, kinds := [], alts := [], laidByText := true, laidKinds := [.data], laidTests := true, laidLooks := .later }
def WalkNoneCardSaid : Prop := Claim7.holds Tryd.pinned (.plain (OpenSpec.ofChange walkNoneSpec)) walkNoneCard

/-- THE SECOND FORM's CARD OF 'corbellaw06.WalkActs'. -/
def walkActsUptoCard : Claim7 := { stood := { row := walkActsUptoRow, standIns := [], harness := (true, "36d1ae3141a92c0f435210960f1d2185dbcb1d17290b3286e4d158fe575c6bd1"), looks := false }, kinds := [], alts := [], laidByText := true, laidKinds := [.data], laidTests := true, laidLooks := .later }
def WalkActsUptoCardSaid : Prop := Claim7.holds Tryd.pinned (.plain (OpenSpec.upto walkActsSpec)) walkActsUptoCard

/-- THE SECOND FORM's CARD OF 'corbellaw06.WalkOnce'. -/
def walkOnceUptoCard : Claim7 := { stood := { row := walkOnceUptoRow, standIns := [], harness := (true, "36d1ae3141a92c0f435210960f1d2185dbcb1d17290b3286e4d158fe575c6bd1"), looks := false }, kinds := [], alts := [], laidByText := true, laidKinds := [.data], laidTests := true, laidLooks := .later }
def WalkOnceUptoCardSaid : Prop := Claim7.holds Tryd.pinned (.plain (OpenSpec.upto walkOnceSpec)) walkOnceUptoCard

/-- THE SECOND FORM's CARD OF 'corbellaw06.WalkAll'. -/
def walkAllUptoCard : Claim7 := { stood := { row := walkAllUptoRow, standIns := [], harness := (true, "36d1ae3141a92c0f435210960f1d2185dbcb1d17290b3286e4d158fe575c6bd1"), looks := false }, kinds := [], alts := [], laidByText := true, laidKinds := [.data], laidTests := true, laidLooks := .later }
def WalkAllUptoCardSaid : Prop := Claim7.holds Tryd.pinned (.plain (OpenSpec.upto walkAllSpec)) walkAllUptoCard

/-- THE SECOND FORM's CARD OF 'corbellaw06.WalkNone'. -/
def walkNoneUptoCard : Claim7 := { stood := { row := walkNoneUptoRow, standIns := [], harness := (true, "36d1ae3141a92c0f435210960f1d2185dbcb1d17290b3286e4d158fe575c6bd1"), looks := false }, kinds := [], alts := [], laidByText := true, laidKinds := [.data], laidTests := true, laidLooks := .later }
def WalkNoneUptoCardSaid : Prop := Claim7.holds Tryd.pinned (.plain (OpenSpec.upto walkNoneSpec)) walkNoneUptoCard
end Rows
end Go.Proofs.YtiobfdfmfgjpfaaDoor

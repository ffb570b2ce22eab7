/-
  NARROWER THAN 'FOR EVERY INPUT', by the rows' own cells (each row's printed sentence says how): ImageRanges: laid · ImageNone: laid · ImageSame: laid.
  DERIVED. THE GIVEN ROWS OF THIS SEAT. 3 by the template 'for every input the law returns true; each argument reads behind the call as it read before'; 0 by the template 'total and deterministic' (their statements: YthlghokgknkpaaaDoorTotals.lean).
  GIVEN WITH THE SEED: the statements are not yours to turn. If you find one false, say at which input.
  Laid BY PROGRAM, IN A SANDBOX (cutbox-rows.mjs): the forced cells as the released guide's own fill.sh prints them over the translation afa28c74c0ddd61e… (all of the seat's roots in one cut). By AI agents, Wed Nov 11 2026. No macro, syntax, notation, axiom, sorry.
-/
import Derived.Test.YthlghokgknkpaaaDoorChecked
import GoSem.Claim
import GoSem.ClaimJoined
import GoSem.ClaimMapViews
import Derived.JoinedTies
import Derived.KernelRfl
namespace Go.Proofs.YthlghokgknkpaaaDoor
/- THE CELL 'sum', in the pinned program and in every row, IS THE sha256 OF THE DUMP (.gsa) THAT YthlghokgknkpaaaDoorProg.lean LOADS. Nothing in Lean hashes anything: it is a label: what it is worth is what the hold of that sum in a sandbox is worth. -/
noncomputable def Tryd.pinned : Pinned := { name := "ythlghokgknkpaaadoor", sum := "afa28c74c0ddd61ea158969ad0df17b0b39239ae2642d619b66754faaa37bc6b", checked := Tryd.checked }
namespace Rows
def none {H : Type} : Left H := { results := [], args := [] }

/- WHAT THE LISTED PACKAGE-LEVEL VARIABLES READ AS WHEN THE CALL BEGINS. Each datum BY PROGRAM (the guide's laid-datum.mjs) off the statement by which the dump's own 'gosem.cut.vars' lays the variable. In a bare row this is a premise. The card (YthlghokgknkpaaaDoorCards.lean) ties it to the program's text. -/
def laid_corbel_group_lowest {H : Type} : DataW H := .agg [.lit (.int .i64 4), .lit (.int .i64 0), .lit (.int .i64 1), .lit (.int .i64 0), .lit (.int .i64 2), .lit (.int .i64 0), .lit (.int .i64 1), .lit (.int .i64 0), .lit (.int .i64 3), .lit (.int .i64 0), .lit (.int .i64 1), .lit (.int .i64 0), .lit (.int .i64 2), .lit (.int .i64 0), .lit (.int .i64 1), .lit (.int .i64 0)]

/-- 'corbellaw07.ImageRanges': WHATEVER THE INPUT: true; the input reads as it did. -/
def imageRangesSpec : ChangeSpec := { name := "imageRanges", fn := fun _ => fun
  | [d1, d2, d3] => { results := [.lit (.bool true)], args := [d1, d2, d3] }
  | _ => none }
def imageRangesRow : OpenClaim := { program := "ythlghokgknkpaaadoor", sum := "afa28c74c0ddd61ea158969ad0df17b0b39239ae2642d619b66754faaa37bc6b", func := "corbel/corbellaw07.ImageRanges", spec := "imageRanges", inPlace := ["internal/bytealg.abigen_runtime_cmpstring"], unfollowed := true, recurses := true, named := ["corbel/group.lowest"], apart := false, laid := [("corbel/group.lowest", laid_corbel_group_lowest)] }
def ImageRangesSaid : Prop := imageRangesRow.holds Tryd.pinned (OpenSpec.ofChange imageRangesSpec)

/-- ITS FALSE NEIGHBOUR: 'it returns false'. Refute it at one input. -/
def imageRangesWrong : ChangeSpec := { name := "imageRanges", fn := fun _ => fun
  | [d1, d2, d3] => { results := [.lit (.bool false)], args := [d1, d2, d3] }
  | _ => none }
def ImageRangesWrongFalsely : Prop := imageRangesRow.holds Tryd.pinned (OpenSpec.ofChange imageRangesWrong)

/-- 'corbellaw07.ImageNone': WHATEVER THE INPUT: true; the input reads as it did. -/
def imageNoneSpec : ChangeSpec := { name := "imageNone", fn := fun _ => fun
  | [d] => { results := [.lit (.bool true)], args := [d] }
  | _ => none }
def imageNoneRow : OpenClaim := { program := "ythlghokgknkpaaadoor", sum := "afa28c74c0ddd61ea158969ad0df17b0b39239ae2642d619b66754faaa37bc6b", func := "corbel/corbellaw07.ImageNone", spec := "imageNone", inPlace := ["internal/bytealg.abigen_runtime_cmpstring"], unfollowed := true, recurses := true, named := ["corbel/group.lowest"], apart := false, laid := [("corbel/group.lowest", laid_corbel_group_lowest)] }
def ImageNoneSaid : Prop := imageNoneRow.holds Tryd.pinned (OpenSpec.ofChange imageNoneSpec)

/-- ITS FALSE NEIGHBOUR: 'it returns false'. Refute it at one input. -/
def imageNoneWrong : ChangeSpec := { name := "imageNone", fn := fun _ => fun
  | [d] => { results := [.lit (.bool false)], args := [d] }
  | _ => none }
def ImageNoneWrongFalsely : Prop := imageNoneRow.holds Tryd.pinned (OpenSpec.ofChange imageNoneWrong)

/-- 'corbellaw07.ImageSame': WHATEVER THE INPUT: true; the input reads as it did. -/
def imageSameSpec : ChangeSpec := { name := "imageSame", fn := fun _ => fun
  | [d1, d2, d3] => { results := [.lit (.bool true)], args := [d1, d2, d3] }
  | _ => none }
def imageSameRow : OpenClaim := { program := "ythlghokgknkpaaadoor", sum := "afa28c74c0ddd61ea158969ad0df17b0b39239ae2642d619b66754faaa37bc6b", func := "corbel/corbellaw07.ImageSame", spec := "imageSame", inPlace := ["internal/bytealg.abigen_runtime_cmpstring"], unfollowed := true, recurses := true, named := ["corbel/group.lowest"], apart := false, laid := [("corbel/group.lowest", laid_corbel_group_lowest)] }
def ImageSameSaid : Prop := imageSameRow.holds Tryd.pinned (OpenSpec.ofChange imageSameSpec)

/-- ITS FALSE NEIGHBOUR: 'it returns false'. Refute it at one input. -/
def imageSameWrong : ChangeSpec := { name := "imageSame", fn := fun _ => fun
  | [d1, d2, d3] => { results := [.lit (.bool false)], args := [d1, d2, d3] }
  | _ => none }
def ImageSameWrongFalsely : Prop := imageSameRow.holds Tryd.pinned (OpenSpec.ofChange imageSameWrong)

/- THE SECOND FORM. 'bulk': how many values and letters a reading holds, each counted each time it is reached (what is shared counts as often as it is met; a slice's spare places count too). A statement '..UptoSaid' is the law's where the arguments, and the package variables that the reading takes, are together of bulk at most 1048576: NARROWER than '..Said'. Prove '..Said' where nothing that the law and all that it calls make is longer than what came in: it says more and counts as full. Else prove '..UptoSaid'. A law counts once. -/
mutual
def uptoBulk {H : Type} : DataW H → Nat
  | .lit (.string bytes) => bytes.length + 1
  | .lit _ => 1
  | .nil => 1
  | .ptr d => uptoBulk d + 1
  | .slice elems spare => uptoBulkAll elems + uptoBulkAll spare + 1
  | .agg parts => uptoBulkAll parts + 1
  | .iface _ d => uptoBulk d + 1
  | .map entries => uptoBulkEntries entries + 1
  | .held _ => 1
def uptoBulkAll {H : Type} : List (DataW H) → Nat
  | [] => 0
  | d :: r => uptoBulk d + uptoBulkAll r
def uptoBulkEntries {H : Type} : List (Lit × DataW H) → Nat
  | [] => 0
  | x :: r => uptoBulkEntry x + uptoBulkEntries r
def uptoBulkEntry {H : Type} : Lit × DataW H → Nat
  | (.string bytes, d) => bytes.length + uptoBulk d + 1
  | (_, d) => uptoBulk d + 1
 end
def uptoSmall : (H : Type) → List (DataW H) → Bool := fun _ ds => decide (uptoBulkAll ds ≤ 1048576)
def OpenSpec.upto (s : _root_.Go.ChangeSpec) : _root_.Go.OpenSpec := { _root_.Go.OpenSpec.ofChange s with cond := some uptoSmall }

/-- 'corbellaw07.ImageRanges', WHERE WHAT IT READS IS OF BULK AT MOST 1048576: true; the input reads as it did. -/
def imageRangesUptoRow : OpenClaim := { program := "ythlghokgknkpaaadoor", sum := "afa28c74c0ddd61ea158969ad0df17b0b39239ae2642d619b66754faaa37bc6b", func := "corbel/corbellaw07.ImageRanges", spec := "imageRanges", inPlace := ["internal/bytealg.abigen_runtime_cmpstring"], unfollowed := true, recurses := true, named := ["corbel/group.lowest"], apart := false, laid := [("corbel/group.lowest", laid_corbel_group_lowest)], narrowed := true }
def ImageRangesUptoSaid : Prop := imageRangesUptoRow.holds Tryd.pinned (OpenSpec.upto imageRangesSpec)

/-- 'corbellaw07.ImageNone', WHERE WHAT IT READS IS OF BULK AT MOST 1048576: true; the input reads as it did. -/
def imageNoneUptoRow : OpenClaim := { program := "ythlghokgknkpaaadoor", sum := "afa28c74c0ddd61ea158969ad0df17b0b39239ae2642d619b66754faaa37bc6b", func := "corbel/corbellaw07.ImageNone", spec := "imageNone", inPlace := ["internal/bytealg.abigen_runtime_cmpstring"], unfollowed := true, recurses := true, named := ["corbel/group.lowest"], apart := false, laid := [("corbel/group.lowest", laid_corbel_group_lowest)], narrowed := true }
def ImageNoneUptoSaid : Prop := imageNoneUptoRow.holds Tryd.pinned (OpenSpec.upto imageNoneSpec)

/-- 'corbellaw07.ImageSame', WHERE WHAT IT READS IS OF BULK AT MOST 1048576: true; the input reads as it did. -/
def imageSameUptoRow : OpenClaim := { program := "ythlghokgknkpaaadoor", sum := "afa28c74c0ddd61ea158969ad0df17b0b39239ae2642d619b66754faaa37bc6b", func := "corbel/corbellaw07.ImageSame", spec := "imageSame", inPlace := ["internal/bytealg.abigen_runtime_cmpstring"], unfollowed := true, recurses := true, named := ["corbel/group.lowest"], apart := false, laid := [("corbel/group.lowest", laid_corbel_group_lowest)], narrowed := true }
def ImageSameUptoSaid : Prop := imageSameUptoRow.holds Tryd.pinned (OpenSpec.upto imageSameSpec)

end Rows
end Go.Proofs.YthlghokgknkpaaaDoor

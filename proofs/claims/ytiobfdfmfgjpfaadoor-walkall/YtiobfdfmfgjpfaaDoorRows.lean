/-
  NARROWER THAN 'FOR EVERY INPUT', by the rows' own cells (each row's printed sentence says how): WalkActs: laid · WalkOnce: laid · WalkAll: laid · WalkNone: laid.
  DERIVED. THE GIVEN ROWS OF THIS SEAT. 4 by the template 'for every input the law returns true; each argument reads behind the call as it read before'; 0 by the template 'total and deterministic' (their statements: YtiobfdfmfgjpfaaDoorTotals.lean).
  GIVEN WITH THE SEED: the statements are not yours to turn. If you find one false, say at which input.
  Laid BY PROGRAM, IN A SANDBOX (cutbox-rows.mjs): the forced cells as the released guide's own fill.sh prints them over the translation f55a3df0ff8ab5d5… (all of the seat's roots in one cut). By AI agents, Wed Nov 11 2026. No macro, syntax, notation, axiom, sorry.
-/
import Derived.Test.YtiobfdfmfgjpfaaDoorChecked
import GoSem.Claim
import GoSem.ClaimJoined
import GoSem.ClaimMapViews
import Derived.JoinedTies
import Derived.KernelRfl
namespace Go.Proofs.YtiobfdfmfgjpfaaDoor
/- THE CELL 'sum', in the pinned program and in every row, IS THE sha256 OF THE DUMP (.gsa) THAT YtiobfdfmfgjpfaaDoorProg.lean LOADS. Nothing in Lean hashes anything: it is a label: what it is worth is what the hold of that sum in a sandbox is worth. -/
noncomputable def Tryd.pinned : Pinned := { name := "ytiobfdfmfgjpfaadoor", sum := "f55a3df0ff8ab5d5d13d779b334af1b3c1018b0ca7afa055e29ddc96bc9c10e8", checked := Tryd.checked }
namespace Rows
def none {H : Type} : Left H := { results := [], args := [] }

/- WHAT THE LISTED PACKAGE-LEVEL VARIABLES READ AS WHEN THE CALL BEGINS. Each datum BY PROGRAM (the guide's laid-datum.mjs) off the statement by which the dump's own 'gosem.cut.vars' lays the variable. In a bare row this is a premise. The card (YtiobfdfmfgjpfaaDoorCards.lean) ties it to the program's text. -/
def laid_corbel_group_lowest {H : Type} : DataW H := .agg [.lit (.int .i64 4), .lit (.int .i64 0), .lit (.int .i64 1), .lit (.int .i64 0), .lit (.int .i64 2), .lit (.int .i64 0), .lit (.int .i64 1), .lit (.int .i64 0), .lit (.int .i64 3), .lit (.int .i64 0), .lit (.int .i64 1), .lit (.int .i64 0), .lit (.int .i64 2), .lit (.int .i64 0), .lit (.int .i64 1), .lit (.int .i64 0)]

/-- 'corbellaw06.WalkActs': WHATEVER THE INPUT: true; the input reads as it did. -/
def walkActsSpec : ChangeSpec := { name := "walkActs", fn := fun _ => fun
  | [d1, d2, d3] => { results := [.lit (.bool true)], args := [d1, d2, d3] }
  | _ => none }
def walkActsRow : OpenClaim := { program := "ytiobfdfmfgjpfaadoor", sum := "f55a3df0ff8ab5d5d13d779b334af1b3c1018b0ca7afa055e29ddc96bc9c10e8", func := "corbel/corbellaw06.WalkActs", spec := "walkActs", unfollowed := true, recurses := true, named := ["corbel/group.lowest"], apart := false, laid := [("corbel/group.lowest", laid_corbel_group_lowest)] }
def WalkActsSaid : Prop := walkActsRow.holds Tryd.pinned (OpenSpec.ofChange walkActsSpec)

/-- ITS FALSE NEIGHBOUR: 'it returns false'. Refute it at one input. -/
def walkActsWrong : ChangeSpec := { name := "walkActs", fn := fun _ => fun
  | [d1, d2, d3] => { results := [.lit (.bool false)], args := [d1, d2, d3] }
  | _ => none }
def WalkActsWrongFalsely : Prop := walkActsRow.holds Tryd.pinned (OpenSpec.ofChange walkActsWrong)

/-- 'corbellaw06.WalkOnce': WHATEVER THE INPUT: true; the input reads as it did. -/
def walkOnceSpec : ChangeSpec := { name := "walkOnce", fn := fun _ => fun
  | [d1, d2, d3] => { results := [.lit (.bool true)], args := [d1, d2, d3] }
  | _ => none }
def walkOnceRow : OpenClaim := { program := "ytiobfdfmfgjpfaadoor", sum := "f55a3df0ff8ab5d5d13d779b334af1b3c1018b0ca7afa055e29ddc96bc9c10e8", func := "corbel/corbellaw06.WalkOnce", spec := "walkOnce", unfollowed := true, recurses := true, named := ["corbel/group.lowest"], apart := false, laid := [("corbel/group.lowest", laid_corbel_group_lowest)] }
def WalkOnceSaid : Prop := walkOnceRow.holds Tryd.pinned (OpenSpec.ofChange walkOnceSpec)

/-- ITS FALSE NEIGHBOUR: 'it returns false'. Refute it at one input. -/
def walkOnceWrong : ChangeSpec := { name := "walkOnce", fn := fun _ => fun
  | [d1, d2, d3] => { results := [.lit (.bool false)], args := [d1, d2, d3] }
  | _ => none }
def WalkOnceWrongFalsely : Prop := walkOnceRow.holds Tryd.pinned (OpenSpec.ofChange walkOnceWrong)

/-- 'corbellaw06.WalkAll': WHATEVER THE INPUT: true; the input reads as it did. -/
def walkAllSpec : ChangeSpec := { name := "walkAll", fn := fun _ => fun
  | [d1, d2, d3] => { results := [.lit (.bool true)], args := [d1, d2, d3] }
  | _ => none }
def walkAllRow : OpenClaim := { program := "ytiobfdfmfgjpfaadoor", sum := "f55a3df0ff8ab5d5d13d779b334af1b3c1018b0ca7afa055e29ddc96bc9c10e8", func := "corbel/corbellaw06.WalkAll", spec := "walkAll", unfollowed := true, recurses := true, named := ["corbel/group.lowest"], apart := false, laid := [("corbel/group.lowest", laid_corbel_group_lowest)] }
def WalkAllSaid : Prop := walkAllRow.holds Tryd.pinned (OpenSpec.ofChange walkAllSpec)

/-- ITS FALSE NEIGHBOUR: 'it returns false'. Refute it at one input. -/
def walkAllWrong : ChangeSpec := { name := "walkAll", fn := fun _ => fun
  | [d1, d2, d3] => { results := [.lit (.bool false)], args := [d1, d2, d3] }
  | _ => none }
def WalkAllWrongFalsely : Prop := walkAllRow.holds Tryd.pinned (OpenSpec.ofChange walkAllWrong)

/-- 'corbellaw06.WalkNone': WHATEVER THE INPUT: true; the input reads as it did. -/
def walkNoneSpec : ChangeSpec := { name := "walkNone", fn := fun _ => fun
  | [d] => { results := [.lit (.bool true)], args := [d] }
  | _ => none }
def walkNoneRow : OpenClaim := { program := "ytiobfdfmfgjpfaadoor", sum := "f55a3df0ff8ab5d5d13d779b334af1b3c1018b0ca7afa055e29ddc96bc9c10e8", func := "corbel/corbellaw06.WalkNone", spec := "walkNone", unfollowed := true, recurses := true, named := ["corbel/group.lowest"], apart := false, laid := [("corbel/group.lowest", laid_corbel_group_lowest)] }
def WalkNoneSaid : Prop := walkNoneRow.holds Tryd.pinned (OpenSpec.ofChange walkNoneSpec)

/-- ITS FALSE NEIGHBOUR: 'it returns false'. Refute it at one input. -/
def walkNoneWrong : ChangeSpec := { name := "walkNone", fn := fun _ => fun
  | [d] => { results := [.lit (.bool false)], args := [d] }
  | _ => none }
def WalkNoneWrongFalsely : Prop := walkNoneRow.holds Tryd.pinned (OpenSpec.ofChange walkNoneWrong)

/- THE SECOND FORM. 'bulk': how many values and letters a reading holds, each counted each time it is reached (what is shared counts as often as it is met; a slice's spare places count too). A statement '..UptoSaid' is the law's where the arguments, and the package variables that the reading takes, are together of bulk at most 1048576: NARROWER than '..Said'. Prove '..Said' where nothing that the law and all that it calls make is longer than what came in: it says more and counts as full. Else prove '..UptoSaid'. A law counts once. -/
mutual
def uptoBulk {H : Type} : DataW H → Nat
  | .lit (.string bytes) => bytes.length + 1
  | .lit _ => 1
  | .nil => 1
  | .ptr d => uptoBulk d + 1
  | .slice elems spare => uptoBulkAll elems + uptoBulkAll spare + 1
  | .agg parts => uptoBulkAll parts + 1
  | .iface _ d => uptoBulk d + 1
  | .map entries => uptoBulkEntries entries + 1
  | .held _ => 1
def uptoBulkAll {H : Type} : List (DataW H) → Nat
  | [] => 0
  | d :: r => uptoBulk d + uptoBulkAll r
def uptoBulkEntries {H : Type} : List (Lit × DataW H) → Nat
  | [] => 0
  | x :: r => uptoBulkEntry x + uptoBulkEntries r
def uptoBulkEntry {H : Type} : Lit × DataW H → Nat
  | (.string bytes, d) => bytes.length + uptoBulk d + 1
  | (_, d) => uptoBulk d + 1
 end
def uptoSmall : (H : Type) → List (DataW H) → Bool := fun _ ds => decide (uptoBulkAll ds ≤ 1048576)
def OpenSpec.upto (s : _root_.Go.ChangeSpec) : _root_.Go.OpenSpec := { _root_.Go.OpenSpec.ofChange s with cond := some uptoSmall }

/-- 'corbellaw06.WalkActs', WHERE WHAT IT READS IS OF BULK AT MOST 1048576: true; the input reads as it did. -/
def walkActsUptoRow : OpenClaim := { program := "ytiobfdfmfgjpfaadoor", sum := "f55a3df0ff8ab5d5d13d779b334af1b3c1018b0ca7afa055e29ddc96bc9c10e8", func := "corbel/corbellaw06.WalkActs", spec := "walkActs", unfollowed := true, recurses := true, named := ["corbel/group.lowest"], apart := false, laid := [("corbel/group.lowest", laid_corbel_group_lowest)], narrowed := true }
def WalkActsUptoSaid : Prop := walkActsUptoRow.holds Tryd.pinned (OpenSpec.upto walkActsSpec)

/-- 'corbellaw06.WalkOnce', WHERE WHAT IT READS IS OF BULK AT MOST 1048576: true; the input reads as it did. -/
def walkOnceUptoRow : OpenClaim := { program := "ytiobfdfmfgjpfaadoor", sum := "f55a3df0ff8ab5d5d13d779b334af1b3c1018b0ca7afa055e29ddc96bc9c10e8", func := "corbel/corbellaw06.WalkOnce", spec := "walkOnce", unfollowed := true, recurses := true, named := ["corbel/group.lowest"], apart := false, laid := [("corbel/group.lowest", laid_corbel_group_lowest)], narrowed := true }
def WalkOnceUptoSaid : Prop := walkOnceUptoRow.holds Tryd.pinned (OpenSpec.upto walkOnceSpec)

/-- 'corbellaw06.WalkAll', WHERE WHAT IT READS IS OF BULK AT MOST 1048576: true; the input reads as it did. -/
def walkAllUptoRow : OpenClaim := { program := "ytiobfdfmfgjpfaadoor", sum := "f55a3df0ff8ab5d5d13d779b334af1b3c1018b0ca7afa055e29ddc96bc9c10e8", func := "corbel/corbellaw06.WalkAll", spec := "walkAll", unfollowed := true, recurses := true, named := ["corbel/group.lowest"], apart := false, laid := [("corbel/group.lowest", laid_corbel_group_lowest)], narrowed := true }
def WalkAllUptoSaid : Prop := walkAllUptoRow.holds Tryd.pinned (OpenSpec.upto walkAllSpec)

/-- 'corbellaw06.WalkNone', WHERE WHAT IT READS IS OF BULK AT MOST 1048576: true; the input reads as it did. -/
def walkNoneUptoRow : OpenClaim := { program := "ytiobfdfmfgjpfaadoor", sum := "f55a3df0ff8ab5d5d13d779b334af1b3c1018b0ca7afa055e29ddc96bc9c10e8", func := "corbel/corbellaw06.WalkNone", spec := "walkNone", unfollowed := true, recurses := true, named := ["corbel/group.lowest"], apart := false, laid := [("corbel/group.lowest", laid_corbel_group_lowest)], narrowed := true }
def WalkNoneUptoSaid : Prop := walkNoneUptoRow.holds Tryd.pinned (OpenSpec.upto walkNoneSpec)

end Rows
end Go.Proofs.YtiobfdfmfgjpfaaDoor

/-
  No cell of these rows narrows 'for every input' (looked for: loops, veiled, ifaces, maps, wideKeys, modest, calm, conditions, laid).
  DERIVED. THE GIVEN ROWS OF THIS SEAT. 2 by the template 'for every input the law returns true; each argument reads behind the call as it read before'; 0 by the template 'total and deterministic' (their statements: YtephoegcpjdglaaTotals.lean).
  GIVEN WITH THE SEED: the statements are not yours to turn. If you find one false, say at which input.
  Laid BY PROGRAM, IN A SANDBOX (cutbox-rows.mjs): the forced cells as the released guide's own fill.sh prints them over the translation bde0b083965af6be… (all of the seat's roots in one cut). By AI agents, Wed Nov 11 2026. No macro, syntax, notation, axiom, sorry.
-/
import Derived.Test.YtephoegcpjdglaaChecked
import GoSem.Claim
import GoSem.ClaimJoined
import GoSem.ClaimMapViews
import Derived.JoinedTies
import Derived.KernelRfl
namespace Go.Proofs.Ytephoegcpjdglaa
/- THE CELL 'sum', in the pinned program and in every row, IS THE sha256 OF THE DUMP (.gsa) THAT YtephoegcpjdglaaProg.lean LOADS. Nothing in Lean hashes anything: it is a label: what it is worth is what the hold of that sum in a sandbox is worth. -/
noncomputable def Try.pinned : Pinned := { name := "ytephoegcpjdglaa", sum := "bde0b083965af6beff8d083e70b1193a197b46db84499e94b304f786734e76b8", checked := Try.checked }
namespace Rows
def none {H : Type} : Left H := { results := [], args := [] }

/-- 'corbellaw13.RlogActs': WHATEVER THE INPUT: true; the input reads as it did. -/
def rlogActsSpec : ChangeSpec := { name := "rlogActs", fn := fun _ => fun
  | [d1, d2] => { results := [.lit (.bool true)], args := [d1, d2] }
  | _ => none }
def rlogActsRow : OpenClaim := { program := "ytephoegcpjdglaa", sum := "bde0b083965af6beff8d083e70b1193a197b46db84499e94b304f786734e76b8", func := "corbel/corbellaw13.RlogActs", spec := "rlogActs", unfollowed := true, recurses := true, apart := false }
def RlogActsSaid : Prop := rlogActsRow.holds Try.pinned (OpenSpec.ofChange rlogActsSpec)

/-- ITS FALSE NEIGHBOUR: 'it returns false'. Refute it at one input. -/
def rlogActsWrong : ChangeSpec := { name := "rlogActs", fn := fun _ => fun
  | [d1, d2] => { results := [.lit (.bool false)], args := [d1, d2] }
  | _ => none }
def RlogActsWrongFalsely : Prop := rlogActsRow.holds Try.pinned (OpenSpec.ofChange rlogActsWrong)

/-- 'corbellaw13.RlogKeeps': WHATEVER THE INPUT: true; the input reads as it did. -/
def rlogKeepsSpec : ChangeSpec := { name := "rlogKeeps", fn := fun _ => fun
  | [d1, d2] => { results := [.lit (.bool true)], args := [d1, d2] }
  | _ => none }
def rlogKeepsRow : OpenClaim := { program := "ytephoegcpjdglaa", sum := "bde0b083965af6beff8d083e70b1193a197b46db84499e94b304f786734e76b8", func := "corbel/corbellaw13.RlogKeeps", spec := "rlogKeeps", unfollowed := true, recurses := true, apart := false }
def RlogKeepsSaid : Prop := rlogKeepsRow.holds Try.pinned (OpenSpec.ofChange rlogKeepsSpec)

/-- ITS FALSE NEIGHBOUR: 'it returns false'. Refute it at one input. -/
def rlogKeepsWrong : ChangeSpec := { name := "rlogKeeps", fn := fun _ => fun
  | [d1, d2] => { results := [.lit (.bool false)], args := [d1, d2] }
  | _ => none }
def RlogKeepsWrongFalsely : Prop := rlogKeepsRow.holds Try.pinned (OpenSpec.ofChange rlogKeepsWrong)

/- THE SECOND FORM. 'bulk': how many values and letters a reading holds, each counted each time it is reached (what is shared counts as often as it is met; a slice's spare places count too). A statement '..UptoSaid' is the law's where the arguments, and the package variables that the reading takes, are together of bulk at most 1048576: NARROWER than '..Said'. Prove '..Said' where nothing that the law and all that it calls make is longer than what came in: it says more and counts as full. Else prove '..UptoSaid'. A law counts once. -/
mutual
def uptoBulk {H : Type} : DataW H → Nat
  | .lit (.string bytes) => bytes.length + 1
  | .lit _ => 1
  | .nil => 1
  | .ptr d => uptoBulk d + 1
  | .slice elems spare => uptoBulkAll elems + uptoBulkAll spare + 1
  | .agg parts => uptoBulkAll parts + 1
  | .iface _ d => uptoBulk d + 1
  | .map entries => uptoBulkEntries entries + 1
  | .held _ => 1
def uptoBulkAll {H : Type} : List (DataW H) → Nat
  | [] => 0
  | d :: r => uptoBulk d + uptoBulkAll r
def uptoBulkEntries {H : Type} : List (Lit × DataW H) → Nat
  | [] => 0
  | x :: r => uptoBulkEntry x + uptoBulkEntries r
def uptoBulkEntry {H : Type} : Lit × DataW H → Nat
  | (.string bytes, d) => bytes.length + uptoBulk d + 1
  | (_, d) => uptoBulk d + 1
 end
def uptoSmall : (H : Type) → List (DataW H) → Bool := fun _ ds => decide (uptoBulkAll ds ≤ 1048576)
def OpenSpec.upto (s : _root_.Go.ChangeSpec) : _root_.Go.OpenSpec := { _root_.Go.OpenSpec.ofChange s with cond := some uptoSmall }

/-- 'corbellaw13.RlogActs', WHERE WHAT IT READS IS OF BULK AT MOST 1048576: true; the input reads as it did. -/
def rlogActsUptoRow : OpenClaim := { program := "ytephoegcpjdglaa", sum := "bde0b083965af6beff8d083e70b1193a197b46db84499e94b304f786734e76b8", func := "corbel/corbellaw13.RlogActs", spec := "rlogActs", unfollowed := true, recurses := true, apart := false, narrowed := true }
def RlogActsUptoSaid : Prop := rlogActsUptoRow.holds Try.pinned (OpenSpec.upto rlogActsSpec)

/-- 'corbellaw13.RlogKeeps', WHERE WHAT IT READS IS OF BULK AT MOST 1048576: true; the input reads as it did. -/
def rlogKeepsUptoRow : OpenClaim := { program := "ytephoegcpjdglaa", sum := "bde0b083965af6beff8d083e70b1193a197b46db84499e94b304f786734e76b8", func := "corbel/corbellaw13.RlogKeeps", spec := "rlogKeeps", unfollowed := true, recurses := true, apart := false, narrowed := true }
def RlogKeepsUptoSaid : Prop := rlogKeepsUptoRow.holds Try.pinned (OpenSpec.upto rlogKeepsSpec)

end Rows
end Go.Proofs.Ytephoegcpjdglaa

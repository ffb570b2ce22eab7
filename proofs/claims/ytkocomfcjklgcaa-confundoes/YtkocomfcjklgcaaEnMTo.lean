import Derived.WalkKit
import Derived.Lib.Bytealg
import Derived.Lib.Strings
import Derived.Test.YtkocomfcjklgcaaChecked
import Derived.Test.YtkocomfcjklgcaaBase
import Derived.Test.YtkocomfcjklgcaaGet0To
import Derived.Test.YtkocomfcjklgcaaW7
import Derived.BigQuiet
import Derived.WalkSmall
import Derived.Laws.BytesArg
import Derived.Laws.StructEq
import Derived.Shelf.SlicesE.Kit
import Derived.Deep.MidRow
import Derived.ProofKit
import Derived.OpenShut
import Derived.Deep.SlicePairs
import Derived.SizedLaws
import Derived.ChangeSame
namespace Go.Proofs.Ytkocomfcjklgcaa
open Go.RowKit
def inI (n : Int) : Prop := -9223372036854775808 ≤ n ∧ n ≤ 9223372036854775807

structure Conf10 where
  vs : List Int
  ls : List Int
def noF10 : Conf10 := ⟨[], []⟩
def rises10 (l : List Int) : Bool := (List.range l.length).all fun i => decide (1 ≤ l.getD i 0) && decide (l.getD i 0 ≤ 9) && (decide (i = 0) || decide (l.getD (i - 1) 0 < l.getD i 0))
def goodF10 (c : Conf10) : Bool := rises10 c.vs && rises10 c.ls && !c.vs.isEmpty && c.vs.all fun a => c.ls.all fun b => !decide (a = b)
def sameF10 (a b : Conf10) : Bool := decide (a.vs = b.vs) && decide (a.ls = b.ls)
def inL (l : List Int) : Prop := ∀ n ∈ l, inI n
end Go.Proofs.Ytkocomfcjklgcaa

import Derived.Test.YthlelcmifolnfaaGreatDoorCmPTo
import Derived.Test.YthlelcmifolnfaaGreatDoorRef8To
import Derived.Laws.StructEq
import Derived.Shelf.SlicesE.Kit
import Derived.Test.YthlelcmifolnfaaGreatDoorLd
namespace Go.Proofs.YthlelcmifolnfaaGreatDoor
open Go.RowKit Go.Lib
attribute [local go_sem ↓] ldS_exec ldS_run stS_exec stS_run oc_int oc_bool oc_string oc_slice oc_pointer
abbrev em9 : ByteArray := ⟨#[]⟩

structure Cmd9 where
  k : Int
  s : Int
  q : Int
  key : ByteArray
  old : ByteArray
  val : ByteArray
  unt : ByteArray
  lim : Int

def same9 (a b : Cmd9) : Bool := decide (a.k = b.k) && decide (a.s = b.s) && decide (a.q = b.q) && decide (a.key = b.key) && decide (a.old = b.old) && decide (a.val = b.val) && decide (a.unt = b.unt) && decide (a.lim = b.lim)
def isKey9 (s : ByteArray) : Bool := decide (1 ≤ s.size ∧ s.size ≤ 64)
def isVal9 (s : ByteArray) : Bool := decide (s.size ≤ 256)
def isBnd9 (s : ByteArray) : Bool := decide (s.size ≤ 64)
def isLim9 (n : Int) : Bool := decide (1 ≤ n ∧ n ≤ 64)
def asks9 (c n : Cmd9) : Bool := decide (1 ≤ c.s) && decide (1 ≤ c.q) && same9 c ⟨c.k, c.s, c.q, n.key, n.old, n.val, n.unt, n.lim⟩
def good9 (c : Cmd9) : Bool :=
  if c.k = 1 then same9 c ⟨1, 0, 0, em9, em9, em9, em9, 0⟩
  else if c.k = 2 then decide (1 ≤ c.s) && same9 c ⟨c.k, c.s, 0, em9, em9, em9, em9, 0⟩
  else if c.k = 3 then isKey9 c.key && isVal9 c.val && asks9 c ⟨0, 0, 0, c.key, em9, c.val, em9, 0⟩
  else if c.k = 4 ∨ c.k = 5 then isKey9 c.key && asks9 c ⟨0, 0, 0, c.key, em9, em9, em9, 0⟩
  else if c.k = 6 then isKey9 c.key && isVal9 c.old && isVal9 c.val && asks9 c ⟨0, 0, 0, c.key, c.old, c.val, em9, 0⟩
  else if c.k = 7 then isBnd9 c.key && isBnd9 c.unt && isLim9 c.lim && asks9 c ⟨0, 0, 0, c.key, em9, em9, c.unt, c.lim⟩
  else false
theorem toListC {a b : ByteArray} : a.toList = b.toList ↔ a = b := ⟨data_inj, fun h => by rw [h]⟩

end Go.Proofs.YthlelcmifolnfaaGreatDoor

import Derived.WalkKit
import Derived.Lib.Bytealg
import Derived.Lib.Strings
namespace Go.Proofs.Ytephoegcpjdglaa
open Go.RowKit
theorem data_inj {a b : ByteArray} (h : a.toList = b.toList) : a = b := by
  rw [Lib.toList_data, Lib.toList_data] at h
  obtain ⟨⟨x⟩⟩ := a
  obtain ⟨⟨y⟩⟩ := b
  cases h
  rfl
def ltT (a b : ByteArray) : Bool := Op.bytesLess a.toList b.toList
def pend : List (ByteArray × List Int) → ByteArray → List Int
  | [], _ => []
  | w :: r, x => (if w.1 = x then w.2 else []) ++ pend r x
def left : Nat → List (ByteArray × List Int) → ByteArray → List Int
  | _, [], _ => []
  | n, w :: r, x => (if w.1 = x then w.2.take n else []) ++ left (n - w.2.length) r x
def need (n : Nat) : Nat := n / 64 + 1

def lk : List (ByteArray × List Int) → ByteArray → List Int
  | [], _ => []
  | f :: r, x => if f.1 = x then f.2 else lk r x
def nms (l : List (ByteArray × List Int)) : List ByteArray := l.map Prod.fst
def insF (x : ByteArray) (b : List Int) : List (ByteArray × List Int) → List (ByteArray × List Int)
  | [] => [(x, b)]
  | f :: r => if ltT x f.1 = true then (x, b) :: f :: r else f :: insF x b r
def usedL (buf : List (ByteArray × List Int)) : List (ByteArray × List Int) → Nat
  | [] => 0
  | f :: r => need (f.2.length + (pend buf f.1).length) + usedL buf r
instance decMemT (x : ByteArray) (l : List ByteArray) : Decidable (x ∈ l) := decidable_of_iff (l.any (fun y => decide (y = x)) = true) (by simp)

structure DM where
  blocks : Nat
  L : List (ByteArray × List Int)
  buf : List (ByteArray × List Int)
  off : Bool
  ops : Nat
  n : Nat
  keep : Int

namespace DM
abbrev names (M : DM) : List ByteArray := nms M.L
def used (M : DM) : Nat := usedL M.buf M.L
def bytes (M : DM) (x : ByteArray) : List Int := lk M.L x ++ pend M.buf x
def crash (M : DM) (k : Int) : DM := { M with L := M.L.map fun f => (f.1, f.2 ++ left k.toNat M.buf f.1), buf := [], off := true }
def begins (M : DM) : Bool := decide (M.n ≠ 1)
def begun (M : DM) : DM := if M.n = 1 then ({ M with ops := M.ops + 1, n := 0 }).crash M.keep else { M with ops := M.ops + 1, n := M.n - 1 }
def act (M : DM) (f : DM → Nat × DM) : Nat × DM := if M.begins = true then f M.begun else (9, M.begun)
def gone (M : DM) (x : ByteArray) : DM := { M with L := M.L.filter fun f => decide (f.1 ≠ x), buf := M.buf.filter fun w => decide (w.1 ≠ x) }
def put (M : DM) (x : ByteArray) (b : List Int) : DM := { M with L := insF x b M.L }
def more (M : DM) (x : ByteArray) (b : List Int) : Nat := need ((M.bytes x).length + b.length) - need (M.bytes x).length
def append1 (M : DM) (x : ByteArray) (b : List Int) : Nat × DM := if M.blocks - M.used < M.more x b then (7, M) else (0, { M with buf := M.buf ++ [(x, b)] })
def append (M : DM) (x : ByteArray) (b : List Int) : Nat × DM := if M.off = true then (9, M) else if x ∉ M.names then (4, M) else M.act fun M => M.append1 x b
def empty (blocks : Nat) : DM := ⟨blocks, [], [], false, 0, 0, 0⟩
end DM

namespace DM
variable {M : DM}
end DM
end Go.Proofs.Ytephoegcpjdglaa

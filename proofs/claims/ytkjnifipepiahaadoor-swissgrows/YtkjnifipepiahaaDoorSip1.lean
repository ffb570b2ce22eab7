/-
  Words turned to the left and to the right (contracts of bits.RotateLeft64, corbelref02.rotl, corbellaw02.back); a round and its way back, as the Go text reckons them; a region whose every order ends at one place.
-/
import Derived.Test.YtkjnifipepiahaaDoorChecked
import Derived.WalkKit
import Derived.ProofKit
import Derived.Deep.RegionWith
namespace Go.Proofs.YtkjnifipepiahaaDoor
open Go.RowKit

/-- Turned to the left, turned to the right: as the Go text reckons them. -/
def rotI (x : Int) (r : Nat) : Int := bits .or .u64 (IntKind.u64.wrap (x * 2 ^ r)) (x / 2 ^ (64 - r))
def backI (x : Int) (r : Nat) : Int := bits .or .u64 (x / 2 ^ r) (IntKind.u64.wrap (x * 2 ^ (64 - r)))

theorem rotl_any (x : Int) (n : Nat) (r : Int) (h : r = n) (w : World) (hr : 0 < r) (hr2 : r < 64) :
    Calls Tryd.prog 111 #[.int .u64 x, .int .u64 r] w fun e w' => e = .returned (.int .u64 (rotI x n)) ∧ w' = w := by
  go_enter Tryd.func111, Tryd.ntmps111
  go_wp2
  go_ret
  exact ⟨rfl, rfl⟩

theorem rot_any (x : Int) (n : Nat) (r : Int) (h : r = n) (w : World) (hr : 0 < r) (hr2 : r < 64) (hb : bits .and .u64 (n : Int) 63 = n) :
    Calls Tryd.prog 112 #[.int .u64 x, .int .i64 r] w fun e w' => e = .returned (.int .u64 (rotI x n)) ∧ w' = w := by
  go_enter Tryd.func112, Tryd.ntmps112
  go_wp2
  go_ret
  exact ⟨rfl, rfl⟩

theorem m13 : bits .and .u64 ((13 : Nat) : Int) 63 = ((13 : Nat) : Int) := by decide +kernel
theorem m16 : bits .and .u64 ((16 : Nat) : Int) 63 = ((16 : Nat) : Int) := by decide +kernel
theorem m17 : bits .and .u64 ((17 : Nat) : Int) 63 = ((17 : Nat) : Int) := by decide +kernel
theorem m21 : bits .and .u64 ((21 : Nat) : Int) 63 = ((21 : Nat) : Int) := by decide +kernel
theorem m32 : bits .and .u64 ((32 : Nat) : Int) 63 = ((32 : Nat) : Int) := by decide +kernel

/-- Four words. -/
structure V4 where
  (a b c d : Int)

def V4.val (v : V4) : Value := .agg #[.int .u64 v.a, .int .u64 v.b, .int .u64 v.c, .int .u64 v.d]

def addI (x y : Int) : Int := IntKind.u64.wrap (x + y)
def subI (x y : Int) : Int := IntKind.u64.wrap (x - y)
def xorI (x y : Int) : Int := bits .xor .u64 x y

/-- A round, as the Go text reckons it. -/
def roundI (v : V4) : V4 :=
  let a1 := addI v.a v.b
  let b1 := xorI (rotI v.b 13) a1
  let a2 := rotI a1 32
  let c1 := addI v.c v.d
  let d1 := xorI (rotI v.d 16) c1
  let a3 := addI a2 d1
  let d2 := xorI (rotI d1 21) a3
  let c2 := addI c1 b1
  let b2 := xorI (rotI b1 17) c2
  ⟨a3, b2, rotI c2 32, d2⟩

/-- A round's way back, as the Go text reckons it. -/
def undoI (v : V4) : V4 :=
  let c1 := backI v.c 32
  let b1 := backI (xorI v.b c1) 17
  let c2 := subI c1 b1
  let d1 := backI (xorI v.d v.a) 21
  let a1 := subI v.a d1
  let d2 := backI (xorI d1 c2) 16
  let c3 := subI c2 d2
  let a2 := backI a1 32
  let b2 := backI (xorI b1 a2) 13
  ⟨subI a2 b2, b2, c3, d2⟩

def EndAt (A : Act) (W : World) : Exit → Act → World → Prop
  | .normal, a, w => a = A ∧ w = W
  | _, _, _ => False
theorem EndAt.mk {A : Act} {W : World} : EndAt A W .normal A W := ⟨rfl, rfl⟩
/-- A region whose every order ends at one place. -/
theorem one_end {P : Program} {id : Nat} {ops : Array Oper} {b : Bool} {Q : Exit → Act → World → Prop} {a : Act} {w : World} {A : Act} {W : World}
    (h : (Code.region id ops b).wp P (EndAt A W) a w) (k : Q .normal A W) : (Code.region id ops b).wp P Q a w :=
  Code.wp_mono (fun e a w h => by cases e <;> first | (obtain ⟨rfl, rfl⟩ := h; exact k) | exact h.elim) h

end Go.Proofs.YtkjnifipepiahaaDoor

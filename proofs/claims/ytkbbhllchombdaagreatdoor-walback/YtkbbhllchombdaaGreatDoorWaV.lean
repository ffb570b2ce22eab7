import Derived.Test.YtkbbhllchombdaaGreatDoorHRowETo
import Derived.Test.YtkbbhllchombdaaGreatDoorWaQTo
namespace Go.Proofs.YtkbbhllchombdaaGreatDoor
open Go.RowKit

structure RecV where
  k : Int
  e : EntV
  h : Hard10
  i : Int
  t : Int
def RecV.r (x : RecV) : Rec11 := ⟨x.k, x.e.e, x.h, x.i, x.t⟩
def noRV : RecV := ⟨0, noEV, ⟨0, 0, 0⟩, 0, 0⟩
def RecV.arr (x : RecV) : Array Value := #[.int .i64 x.k, .int .i64 x.e.i, .int .i64 x.e.t, .int .i64 x.e.k, .int .i64 x.e.c.k, .int .i64 x.e.c.s, .int .i64 x.e.c.q, .string x.e.c.key, .string x.e.c.old, .string x.e.c.val, .string x.e.c.unt, .int .i64 x.e.c.lim, .slice x.e.f.u.p x.e.f.u.n x.e.f.u.c, .slice x.e.f.v.p x.e.f.v.n x.e.f.v.c, .int .i64 x.h.t, .int .i64 x.h.v, .int .i64 x.h.c, .int .i64 x.i, .int .i64 x.t]
structure FitsR (W : World) (x : RecV) : Prop where
  k : inI x.k
  e : FitsE W x.e
  h : FitsH x.h
  i : inI x.i
  t : inI x.t
theorem FitsR.below {W W' : World} {x : RecV} (h : FitsR W x) (hb : Below W.heap.size W W') : FitsR W' x := ⟨h.k, h.e.below hb, h.h, h.i, h.t⟩
structure StaV where
  i : Int
  t : Int
  h : Hard10
  w : Sl10
  es : List EntV
def StaV.s (x : StaV) : Sta11 := ⟨x.i, x.t, x.h, x.es.map EntV.e⟩
def noTV : StaV := ⟨0, 0, ⟨0, 0, 0⟩, nilS10, []⟩
def StaV.arr (x : StaV) : Array Value := #[.int .i64 x.i, .int .i64 x.t, .int .i64 x.h.t, .int .i64 x.h.v, .int .i64 x.h.c, .slice x.w.p x.w.n x.w.c]
end Go.Proofs.YtkbbhllchombdaaGreatDoor

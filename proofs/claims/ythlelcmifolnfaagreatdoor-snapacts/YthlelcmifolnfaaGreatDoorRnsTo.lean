import Derived.RangeFuncNested
import Derived.RangeFuncLeaves
import Derived.RangeFuncBound
import Derived.Shelf.Abstract
import Derived.Shelf.RegionOpen
import Derived.WalkKit
import Derived.OwnWalkIn
import Derived.TacticsInMore
import Derived.LoopNIn
import Derived.LoopIn
namespace Go.Proofs.YthlelcmifolnfaaGreatDoor
open Go.RowKit Go.Shelf
theorem YieldAt.wide {m m' : Nat} {P : Program} {l : Nat} {args : Array Value} {W : World} {R : Ending → World → Prop} (h : YieldAt Fence.wide m P l args W R) : YieldAt Fence.wide m' P l args W R := by
  obtain ⟨fn, tmps, assign, body, hy, hR⟩ := h
  exact ⟨fn, tmps, assign, body, hy, hR.1, fun c cs _ => hR.2 c cs (fun _ h => by cases h)⟩

theorem wide_fn (f : FuncId) : Fence.wide.fn f := trivial

structure KeepS (S : Nat → Prop) (X Y : World) : Prop where
  size : X.heap.size ≤ Y.heap.size
  same : ∀ k, S k → Y.heap[k]? = X.heap[k]?
theorem KeepS.refl (S : Nat → Prop) (X : World) : KeepS S X X := ⟨Nat.le_refl _, fun _ _ => rfl⟩
theorem KeepS.trans {S : Nat → Prop} {X Y Z : World} (h : KeepS S X Y) (k : KeepS S Y Z) : KeepS S X Z := ⟨Nat.le_trans h.size k.size, fun i h1 => (k.same i h1).trans (h.same i h1)⟩
theorem KeepS.of_below {S : Nat → Prop} {C : Nat} {X Y : World} (h : Below C X Y) (hB : ∀ k, S k → k < C) : KeepS S X Y := ⟨h.size, fun i h1 => h.block i (hB i h1)⟩
theorem KeepS.setCell {S : Nat → Prop} {X Y : World} (h : KeepS S X Y) {p : Addr} (hp : ¬ S p.block) (u : Value) : KeepS S X (Y.setCell p u) :=
  h.trans ⟨(KeepsWalks.setCell Y p u).size, fun _ hi => Below.heap_setCell _ _ _ _ (fun e => hp (e ▸ hi))⟩
theorem KeepS.drew {S : Nat → Prop} {X Y : World} (h : KeepS S X Y) : KeepS S X Y.drew := ⟨h.size, h.same⟩
theorem KeepS.putObj {S : Nat → Prop} {X Y : World} (h : KeepS S X Y) {r : Nat} (hr : ¬ S r) (o : Obj) : KeepS S X (Y.putObj r o) :=
  h.trans ⟨by simp, fun _ hi => World.putObj_heap_other (fun e => hr (e ▸ hi))⟩
theorem KeepS.box {S : Nat → Prop} {k : Nat} {X Y : World} (h : KeepS S X Y) {t : TypeId} {v : Value} (hb : Boxed X k t v) (hk : S k) : Boxed Y k t v := (h.same k hk).trans hb

end Go.Proofs.YthlelcmifolnfaaGreatDoor

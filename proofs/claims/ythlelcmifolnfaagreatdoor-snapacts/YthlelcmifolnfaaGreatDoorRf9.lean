import Derived.Test.YthlelcmifolnfaaGreatDoorDs4To
import Derived.Deep.RegionLaw
import Derived.Test.YthlelcmifolnfaaGreatDoorOnceTo
namespace Go.Proofs.YthlelcmifolnfaaGreatDoor
open Go.RowKit Go.Maps

theorem Has.head9 {w : World} {p : Option Addr} {n c : Nat} {xs : List Int} (h : Has w (.slice p n c) xs) {m : Nat} (hm : m ≤ xs.length) : Has w (.slice p m c) (xs.take m) := by
  obtain ⟨p', c', e, h1, h2, h3⟩ := h
  simp only [Value.slice.injEq] at e
  obtain ⟨rfl, rfl, rfl⟩ := e
  have hl : (xs.take m).length = m := by rw [List.length_take]; omega
  refine ⟨p, c, by rw [hl], by omega, h2, fun h0 => ?_⟩
  rw [hl] at h0
  obtain ⟨b, o, rfl, hb, hc⟩ := h3 (by omega)
  refine ⟨b, o, rfl, hb, fun i hi => ?_⟩
  rw [hl] at hi
  rw [hc i (by omega)]
  simp [hi]
theorem RefLies.noB {w : World} {r : Nat} {S : Nat → Prop} {vl vb : Value} {tl tb : List Tr} {blocks : Nat} {off : Bool} {ops : Nat} {n keep : Int} (h : RefLies w r S vl vb tl tb blocks off ops n keep) : RefLies (w.setCell ⟨r, 2, none⟩ (.slice none 0 0)) r S vl (.slice none 0 0) tl [] blocks off ops n keep := by
  obtain ⟨q1, -, q3, -⟩ := h.apart
  have hs : ∀ (v : Value), v.ownBlock ≠ some r → ∀ g, v.ownBlock = some g → (w.setCell ⟨r, 2, none⟩ (.slice none 0 0)).heap[g]? = w.heap[g]? := fun v hv g hg => Below.heap_setCell _ _ _ _ (fun e => hv (by rw [hg]; exact congrArg some e))
  refine ⟨?_, row_same h.rowL (hs _ q1), World.ownsRow_nil _ _ _ _, h.sR, h.sL, (fun g hg => by cases hg), fun f hf => ⟨row_same (h.byL f hf).1 (hs _ (q3 f hf)), (h.byL f hf).2⟩, fun f hf => by cases hf⟩
  have hb := h.blk
  simp [World.setCell, Array.getElem?_modify, hb]

end Go.Proofs.YthlelcmifolnfaaGreatDoor

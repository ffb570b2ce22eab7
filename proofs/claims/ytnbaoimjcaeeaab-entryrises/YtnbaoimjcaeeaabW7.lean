/-
  Contracts: a Reader that is not nil: rest, lose.
-/
import Derived.Test.YtnbaoimjcaeeaabW6
import Derived.Test.YtnbaoimjcaeeaabW4b
namespace Go.Proofs.Ytnbaoimjcaeeaab
open Go.RowKit

/-- As 'Has', the bytes below block number L. -/
def HasIn (w : World) (L : Nat) (v : Value) (xs : List Int) : Prop :=
  ∃ p c, v = .slice p xs.length c ∧ xs.length ≤ c ∧ (p = none → c = 0) ∧
    (0 < xs.length → ∃ b o, p = some ⟨b, o, none⟩ ∧ b < L ∧ ∀ i, i < xs.length → w.cell? ⟨b, o + i, none⟩ = some (.int .u8 (xs.getD i 0)))

theorem Has.inn {w : World} {v : Value} {xs : List Int} (h : Has w v xs) : HasIn w w.heap.size v xs := h
theorem HasIn.has {w : World} {L : Nat} {v : Value} {xs : List Int} (h : HasIn w L v xs) (hL : L ≤ w.heap.size) : Has w v xs := by
  obtain ⟨p, c, h1, h2, h3, h4⟩ := h
  refine ⟨p, c, h1, h2, h3, fun h0 => ?_⟩
  obtain ⟨b, o, hp, hb, hc⟩ := h4 h0
  exact ⟨b, o, hp, Nat.lt_of_lt_of_le hb hL, hc⟩
theorem HasIn.below {w w' : World} {L B : Nat} {v : Value} {xs : List Int} (h : HasIn w L v xs) (hb : Below B w w') (hB : L ≤ B) : HasIn w' L v xs := by
  obtain ⟨p, c, h1, h2, h3, h4⟩ := h
  refine ⟨p, c, h1, h2, h3, fun h0 => ?_⟩
  obtain ⟨b, o, hp, hlt, hc⟩ := h4 h0
  exact ⟨b, o, hp, hlt, fun i hi => (hb.cell (p := ⟨b, o + i, none⟩) (by exact Nat.lt_of_lt_of_le hlt hB)).trans (hc i hi)⟩
theorem HasIn.grown {w w' : World} {L r : Nat} {v : Value} {xs : List Int} (h : HasIn w L v xs) (hg : w.grownBy w' (some r)) (hr : L ≤ r) : HasIn w' L v xs := by
  obtain ⟨p, c, h1, h2, h3, h4⟩ := h
  refine ⟨p, c, h1, h2, h3, fun h0 => ?_⟩
  obtain ⟨b, o, hp, hlt, hc⟩ := h4 h0
  exact ⟨b, o, hp, hlt, fun i hi => hg.cell (hc i hi) (fun e => by have : b = r := Option.some.inj e; omega)⟩
theorem HasIn.nil (w : World) (L : Nat) : HasIn w L (.slice none 0 0) [] := ⟨none, 0, rfl, Nat.le_refl _, fun _ => rfl, fun h => absurd h (Nat.lt_irrefl 0)⟩

/-- A Reader in block rb: what is left, and whether there was something else. -/
structure Rd (w : World) (rb L : Nat) (v : Value) (xs : List Int) (wrong : Bool) : Prop where
  lt : rb < w.heap.size
  le : L ≤ rb
  c0 : w.cell? ⟨rb, 0, none⟩ = some v
  c1 : w.cell? ⟨rb, 1, none⟩ = some (.bool wrong)
  f0 : w.frozen? ⟨rb, 0, none⟩ = false
  f1 : w.frozen? ⟨rb, 1, none⟩ = false
  has : HasIn w L v xs

theorem Rd.below {w w' : World} {rb L B : Nat} {v : Value} {xs : List Int} {wrong : Bool} (h : Rd w rb L v xs wrong) (hb : Below B w w') (hB : rb < B) : Rd w' rb L v xs wrong :=
  ⟨Nat.lt_of_lt_of_le h.lt hb.size, h.le, (hb.cell (p := ⟨rb, 0, none⟩) hB).trans h.c0, (hb.cell (p := ⟨rb, 1, none⟩) hB).trans h.c1, (hb.frozen (p := ⟨rb, 0, none⟩) hB).trans h.f0, (hb.frozen (p := ⟨rb, 1, none⟩) hB).trans h.f1, h.has.below hb (Nat.le_of_lt (Nat.lt_of_le_of_lt h.le hB))⟩

theorem grown_of_below {w w' : World} {B : Nat} (hb : Below B w w') (hB : w.heap.size ≤ B) (row : Option Nat) : w.grownBy w' row :=
  ⟨hb.os, hb.tape, hb.output, hb.size, fun k hk _ => hb.block k (Nat.lt_of_lt_of_le hk hB)⟩
theorem grown_trans {a b c : World} {row : Option Nat} (h : a.grownBy b row) (k : b.grownBy c row) : a.grownBy c row :=
  ⟨k.os.trans h.os, k.tape.trans h.tape, k.output.trans h.output, Nat.le_trans h.size k.size, fun i hi hr => (k.block i (Nat.lt_of_lt_of_le hi h.size) hr).trans (h.block i hi hr)⟩
theorem grown_set (w : World) (rb o : Nat) (v : Value) : w.grownBy (w.setCell ⟨rb, o, none⟩ v) (some rb) :=
  ⟨rfl, rfl, rfl, by simp [World.setCell], fun k _ hr => Below.heap_setCell _ _ _ _ (fun e => hr (congrArg some e))⟩

theorem Rd.setB {w : World} {rb L : Nat} {v v' : Value} {xs xs' : List Int} {wrong : Bool} (h : Rd w rb L v xs wrong) (hv : HasIn w L v' xs') : Rd (w.setCell ⟨rb, 0, none⟩ v') rb L v' xs' wrong :=
  ⟨by simpa [World.setCell] using h.lt, h.le, World.cell?_setCell_same _ _ _ h.c0, (World.cell?_setCell_other _ _ _ _ (by simp)).trans h.c1, by simpa using h.f0, by simpa using h.f1, hv.grown (grown_set w rb 0 v') h.le⟩
theorem Rd.setW {w : World} {rb L : Nat} {v : Value} {xs : List Int} {wrong : Bool} (h : Rd w rb L v xs wrong) (b : Bool) : Rd (w.setCell ⟨rb, 1, none⟩ (.bool b)) rb L v xs b :=
  ⟨by simpa [World.setCell] using h.lt, h.le, (World.cell?_setCell_other _ _ _ _ (by simp)).trans h.c0, World.cell?_setCell_same _ _ _ h.c1, by simpa using h.f0, by simpa using h.f1, h.has.grown (grown_set w rb 1 _) h.le⟩

/-- What becomes of a Reader that loses n bytes (0: there was no such thing); what is still to be read. -/
def loseS (xs : List Int) (wrong : Bool) (n : Nat) : List Int × Bool := if n = 0 then ([], true) else (xs.drop n, wrong)
def srcS (xs : List Int) (wrong : Bool) : List Int := if wrong then [] else xs
end Go.Proofs.Ytnbaoimjcaeeaab

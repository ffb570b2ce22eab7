/-
  Contracts: Reader.Count; corbelref01's Reader: pass, Num, Int, Text, Bool, Count, End.
-/
import Derived.Test.YtnbaoimjcaeeaabW8
import Derived.Test.YtnbaoimjcaeeaabRef3
namespace Go.Proofs.Ytnbaoimjcaeeaab
open Go.RowKit

theorem Rd.grown {w w' : World} {rb sb L : Nat} {v : Value} {xs : List Int} {wrong : Bool} (h : Rd w sb L v xs wrong) (hg : w.grownBy w' (some rb)) (hne : sb ≠ rb) (hL : L ≤ rb) : Rd w' sb L v xs wrong := by
  have hb := hg.block sb h.lt (fun e => hne (Option.some.inj e))
  exact ⟨Nat.lt_of_lt_of_le h.lt hg.size, h.le, (World.cell?_of_block (a := ⟨sb, 0, none⟩) hb).trans h.c0, (World.cell?_of_block (a := ⟨sb, 1, none⟩) hb).trans h.c1, (World.frozen?_of_block (a := ⟨sb, 0, none⟩) hb).trans h.f0, (World.frozen?_of_block (a := ⟨sb, 1, none⟩) hb).trans h.f1, h.has.grown hg hL⟩

/-- A reader that went wrong has nothing left. -/
def Inv (xs : List Int) (wrong : Bool) : Prop := wrong = true → xs = []
theorem Inv.src {xs : List Int} {wrong : Bool} (h : Inv xs wrong) : srcS xs wrong = xs := by
  cases wrong
  · rfl
  · rw [h rfl]; rfl
theorem Inv.lose {xs : List Int} {wrong : Bool} (h : Inv xs wrong) (n : Nat) : Inv (loseS xs wrong n).1 (loseS xs wrong n).2 := by
  unfold loseS; split
  · exact fun _ => rfl
  · intro hw
    simp only at hw
    rw [h hw]; simp
end Go.Proofs.Ytnbaoimjcaeeaab

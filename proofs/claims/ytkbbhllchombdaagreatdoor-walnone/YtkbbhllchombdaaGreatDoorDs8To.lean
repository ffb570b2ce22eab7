import Derived.Test.YtkbbhllchombdaaGreatDoorDs1To
import Derived.Lib.SlBytesConst
import Derived.Test.YtkbbhllchombdaaGreatDoorDkXTo
import Derived.BigQuiet
import Derived.WalkSmall
namespace Go.Proofs.YtkbbhllchombdaaGreatDoor
open Go.RowKit Go.Maps
def tA : ByteArray := ⟨#[97]⟩
def lv0 : DM := DM.empty 3
def lv1 : DM := (lv0.create tA).2
def lv2 : DM := (lv1.append tA [120, 121, 122]).2
theorem isB8_dec {l : List Int} (h : l.all (fun z => decide (0 ≤ z) && decide (z < 256)) = true) : isB8 l := fun z hz => by
  have := List.all_eq_true.1 h z hz
  simpa using this
theorem ok0 : lv0.OkN 0 := okN_empty 3 (by decide)
theorem ok1 : lv1.OkN 1 := ok0.create tA
theorem ok2 : lv2.OkN 2 := ok1.append tA (isB8_dec (by decide))
abbrev Tr := ByteArray × Value × List Int
instance : Inhabited Tr := ⟨(ByteArray.empty, undef, [])⟩
section
variable {w w' : World} {r : Nat} {S S' : Nat → Prop} {vl vb : Value} {tl tb : List Tr} {blocks : Nat} {off : Bool} {ops : Nat} {n keep : Int}
end
def Dead8 (q : Value) (w : World) : Prop := Calls Tryz.prog 129 #[q] w fun e w' => e = .returned (.bool false) ∧ w' = w
section
variable {q : Value} {w : World}
theorem ready_dead (h : Dead8 q w) : Calls Tryz.prog 128 #[q] w fun e w' => e = .returned (.int .i64 1) ∧ w' = w := by
  go_enter Tryz.func128, Tryz.ntmps128
  go_wp2_with fail
  refine same_mono h ?_
  go_wp2
  go_ret
  exact ⟨rfl, rfl⟩
theorem find_dead (h : Dead8 q w) (x : ByteArray) : Calls Tryz.prog 135 #[q, .string x] w fun e w' => e = .returned (.tuple #[.pointer none, .int .i64 1]) ∧ w' = w := by
  go_enter Tryz.func135, Tryz.ntmps135
  go_wp2_with fail
  refine same_mono (ready_dead h) ?_
  go_wp2
  go_ret2
  exact ⟨rfl, rfl⟩
theorem read_dead (h : Dead8 q w) (x : ByteArray) : Calls Tryz.prog 157 #[q, .string x] w fun e w' => e = .returned (.tuple #[.slice none 0 0, .int .i64 1]) ∧ w' = w := by
  go_enter Tryz.func157, Tryz.ntmps157
  go_wp2_with fail
  refine same_mono (find_dead h x) ?_
  go_wp2
  go_ret2
  exact ⟨rfl, rfl⟩
end

end Go.Proofs.YtkbbhllchombdaaGreatDoor

/-
  The law CodecOrder: its walk.
-/
import Derived.Test.YtmlekbabofldoabDoorLives
import Derived.Test.YtmlekbabofldoabDoorOrd0
import Derived.Deep.RegionWith
namespace Go.Proofs.YtmlekbabofldoabDoor
open Go.RowKit

set_option maxHeartbeats 1000000 in
theorem order_any (u v : Int) (w : World) (hT : Tab w) (hu : 0 ≤ u ∧ u ≤ 18446744073709551615) (hv : 0 ≤ v ∧ v ≤ 18446744073709551615) :
    Calls Tryd.prog 5 #[.int .u64 u, .int .u64 v] w fun e w' => e = .returned (.bool true) ∧ Below w.heap.size w w' := by
  have CV : Hid (∀ (w1 w2 : World) (B : Nat) (vv : Value) (z : Int), Owns w1 B 5 vv (numB z) → Below w1.heap.size w1 w2 → (convert 22 9 vv).run Tryd.prog w2 = .ok (.string (strOfNums (numB z))) w2) := fun w1 w2 B vv z ho hb =>
    (ho.has.below hb (Nat.le_refl _)).conv (P := Tryd.prog) 22 5 9 Tryd.underlying22 Tryd.underlying5 Tryd.underlying9
  have hlt := less_numB u v hu hv
  have heq : ((strOfNums (numB u)).toList == (strOfNums (numB v)).toList) = (u == v) := by
    rw [strs_beq (numB_isB u) (numB_isB v), Bool.eq_iff_iff, beq_iff_eq, beq_iff_eq]
    exact ⟨numB_inj u v hu hv, fun h => by rw [h]⟩
  have HLT : Hid (Op.bytesLess (strOfNums (numB u)).toList (strOfNums (numB v)).toList = decide (u < v)) := hlt
  have HEQ : Hid (((strOfNums (numB u)).toList == (strOfNums (numB v)).toList) = (u == v)) := heq
  clear hlt heq
  go_enter Tryd.func5, Tryd.ntmps5
  go_wp2_with fail
  go_region_with (first
    | (go_at_call_of 11 (Value.int IntKind.u64 u); refine (put_any _ [] u _ (Has.nil _) (by simp) hu.1 (by omega)).mono ?_; rintro e w1 ⟨v1, rfl, ho1, hb1⟩; rw [List.nil_append] at ho1; have cv1 := CV.out w1 w1 _ v1 u ho1 (Below.refl _ _))
    | (go_at_call_of 11 (Value.int IntKind.u64 v); refine (put_any _ [] v _ (Has.nil _) (by simp) hv.1 (by omega)).mono ?_; rintro e w2 ⟨v2, rfl, ho2, hb2⟩; rw [List.nil_append] at ho2; have cv2 := CV.out w2 w2 _ v2 v ho2 (Below.refl _ _); have cv12 := CV.out w1 w2 _ v1 u ho1 hb2))
  all_goals clear cv1 cv2 cv12
  all_goals
    have hlt := HLT.out
    have heq := HEQ.out
    have hbb : Below w.heap.size w w2 := (((Below.refl w.heap.size w).drew).trans hb1).trans (hb2.mono hb1.size)
    clear ho1 ho2 hb1 hb2
    go_wp2_with (go_at_call 7; refine (lives_any _ (hT.below hbb (Nat.le_refl _))).mono ?_; rintro e w3 ⟨rfl, hb3⟩)
    go_ret
    exact ⟨rfl, hbb.trans (hb3.mono hbb.size)⟩
end Go.Proofs.YtmlekbabofldoabDoor

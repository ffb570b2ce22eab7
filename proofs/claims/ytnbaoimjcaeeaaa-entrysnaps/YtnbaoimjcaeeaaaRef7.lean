/-
  Contracts: Reader.Count; corbelref01's Reader: pass, Num, Int, Text, Bool, Count, End.
-/
import Derived.Test.YtnbaoimjcaeeaaaW8
import Derived.Test.YtnbaoimjcaeeaaaRef3
namespace Go.Proofs.Ytnbaoimjcaeeaaa
open Go.RowKit

theorem Rd.grown {w w' : World} {rb sb L : Nat} {v : Value} {xs : List Int} {wrong : Bool} (h : Rd w sb L v xs wrong) (hg : w.grownBy w' (some rb)) (hne : sb ≠ rb) (hL : L ≤ rb) : Rd w' sb L v xs wrong := by
  have hb := hg.block sb h.lt (fun e => hne (Option.some.inj e))
  exact ⟨Nat.lt_of_lt_of_le h.lt hg.size, h.le, (World.cell?_of_block (a := ⟨sb, 0, none⟩) hb).trans h.c0, (World.cell?_of_block (a := ⟨sb, 1, none⟩) hb).trans h.c1, (World.frozen?_of_block (a := ⟨sb, 0, none⟩) hb).trans h.f0, (World.frozen?_of_block (a := ⟨sb, 1, none⟩) hb).trans h.f1, h.has.grown hg hL⟩

set_option maxRecDepth 100000 in
set_option maxHeartbeats 1000000 in
theorem next_count_any (m : Int) (bx : Nat) (w : World) (rb L : Nat) (v b : Value) (xs ys : List Int) (wrong : Bool) (h : Rd w rb L v xs wrong) (hb : HasIn w L b ys) (hB : IsB ys) (hy : ys.length ≤ xs.length) (hl : xs.length ≤ 1099511627776) (hm : m ≤ 9223372036854775807) (hc : w.cell? ⟨bx, 0, none⟩ = some (.int .i64 m)) (hbx : bx < w.heap.size) :
    Calls Try.prog 124 #[b, .func (.func 128) #[] #[.pointer (some ⟨bx, 0, none⟩)], .func (.func 115) #[.pointer (some ⟨rb, 0, none⟩)] #[]] w fun e w' =>
      e = .returned (.int .i64 (countS m ys).1) ∧ (∃ v', Rd w' rb L v' (loseS xs wrong (countS m ys).2).1 (loseS xs wrong (countS m ys).2).2) ∧ w.grownBy w' (some rb) := by
  have hbd := countS_bd m ys
  have hL := Nat.le_of_lt (Nat.lt_of_le_of_lt h.le h.lt)
  have H : Hid (Rd w rb L v xs wrong) := h
  have hlt := h.lt
  clear h
  go_enter Try.func124, Try.ntmps124
  go_wp2_with (first
    | (go_at_call 128; refine (upTo1_any m bx _ ys _ hc hbx (hb.has hL) hB (by omega) hm).mono ?_; rintro e w1 ⟨rfl, hb1⟩)
    | (go_at_call 115; refine (lose_any _ rb L _ v xs wrong (H.out.below hb1 hlt) (by omega) hl).mono ?_; rintro e w2 ⟨rfl, hr2, hg2⟩))
  go_ret
  exact ⟨rfl, hr2, grown_trans (grown_of_below hb1 (Nat.le_refl _) _) hg2⟩

set_option maxRecDepth 100000 in
set_option maxHeartbeats 1000000 in
theorem count_any (m : Int) (w : World) (rb L : Nat) (v : Value) (xs : List Int) (wrong : Bool) (h : Rd w rb L v xs wrong) (hB : IsB xs) (hl : xs.length ≤ 1099511627776) (hm : m ≤ 9223372036854775807) :
    Calls Try.prog 119 #[.pointer (some ⟨rb, 0, none⟩), .int .i64 m] w fun e w' =>
      e = .returned (.int .i64 (countS m (srcS xs wrong)).1) ∧ (∃ v', Rd w' rb L v' (loseS xs wrong (countS m (srcS xs wrong)).2).1 (loseS xs wrong (countS m (srcS xs wrong)).2).2) ∧ w.grownBy w' (some rb) := by
  have hba : Below w.heap.size w (w.alloc (.cells #[.int .i64 m] 3)) := (Below.refl w.heap.size w).alloc (Nat.le_refl _) _
  have H : Hid (Rd w rb L v xs wrong) := h
  have hlt := h.lt
  have hL := Nat.le_of_lt (Nat.lt_of_le_of_lt h.le h.lt)
  clear h
  go_enter Try.func119, Try.ntmps119
  go_wp2_with (first
    | (go_at_call 113; refine rest_src _ rb L v xs wrong H.out ?_; intro b0 hb0)
    | (go_at_call 125; refine (upTo_any _ _).mono ?_; rintro e w' ⟨rfl, rfl⟩)
    | (go_at_call 124; refine (next_count_any m _ _ rb L v _ xs (srcS xs wrong) wrong (H.out.below hba hlt) (hb0.below hba hL) (srcS_isB hB _) (srcS_length _ _) hl hm (by simp) (by simp)).mono ?_; rintro e w1 ⟨rfl, hr1, hg1⟩))
  go_ret
  exact ⟨rfl, hr1, grown_trans (grown_of_below hba (Nat.le_refl _) _) hg1⟩

/-- A reader that went wrong has nothing left. -/
def Inv (xs : List Int) (wrong : Bool) : Prop := wrong = true → xs = []
theorem Inv.src {xs : List Int} {wrong : Bool} (h : Inv xs wrong) : srcS xs wrong = xs := by
  cases wrong
  · rfl
  · rw [h rfl]; rfl
theorem Inv.lose {xs : List Int} {wrong : Bool} (h : Inv xs wrong) (n : Nat) : Inv (loseS xs wrong n).1 (loseS xs wrong n).2 := by
  unfold loseS; split
  · exact fun _ => rfl
  · intro hw
    simp only at hw
    rw [h hw]; simp
end Go.Proofs.Ytnbaoimjcaeeaaa

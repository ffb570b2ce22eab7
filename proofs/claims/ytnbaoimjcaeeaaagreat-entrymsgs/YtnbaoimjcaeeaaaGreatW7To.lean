import Derived.Test.YtnbaoimjcaeeaaaGreatGet0To
import Derived.Test.YtnbaoimjcaeeaaaGreatW6To
/-
  Contracts: math/bits.RotateLeft64 by one, back; Zag, PutBool.
-/
namespace Go.Proofs.YtnbaoimjcaeeaaaGreat
open Go.RowKit

def rotR (u : Int) : Int := bits BinOp.or .u64 (IntKind.u64.wrap (u * 9223372036854775808)) (u / 2)
def zagS (u : Int) : Int := wrap64 (rotR u)


set_option maxRecDepth 100000 in
set_option maxHeartbeats 1000000 in
theorem rotR_any (u : Int) (w : World) :
    Calls Tryz.prog 120 #[.int .u64 u, .int .i64 (-1)] w fun e w' => e = .returned (.int .u64 (rotR u)) ∧ w' = w := by
  have e : IntKind.u64.wrap (-1) = 18446744073709551615 := by decide
  have e2 : bits BinOp.and IntKind.u64 18446744073709551615 63 = 63 := by decide +kernel
  go_enter Tryz.func120, Tryz.ntmps120
  go_wp2
  go_ret
  exact ⟨rfl, rfl⟩

set_option maxRecDepth 100000 in
set_option maxHeartbeats 1000000 in
theorem zag_any (u : Int) (w : World) :
    Calls Tryz.prog 101 #[.int .u64 u] w fun e w' => e = .returned (.int .i64 (zagS u)) ∧ w' = w := by
  go_enter Tryz.func101, Tryz.ntmps101
  go_wp2_with fail
  refine same_mono (rotR_any _ _) ?_
  go_wp2
  go_ret
  exact ⟨rfl, rfl⟩

def boolB (b : Bool) : Int := if b then 84 else 70

set_option maxRecDepth 100000 in
set_option maxHeartbeats 1000000 in
theorem putBool_any (v : Value) (xs : List Int) (b : Bool) (w : World) (hv : Has w v xs) (hl : xs.length ≤ 1048576) :
    Calls Tryz.prog 52 #[v, .bool b] w fun e w' => ∃ v', e = .returned v' ∧ Owns w' w.heap.size 5 v' (xs ++ [boolB b]) ∧ Below w.heap.size w w' := by
  obtain ⟨i0, hi, hz0, hz1, hz2⟩ := info_parts info8c
  cases b
  all_goals
    go_enter Tryz.func52, Tryz.ntmps52
    go_wp2_with (first
      | (go_at_call 85; refine (withRoom_any _ xs _ _ hv (by omega) (by omega) (by omega)).mono ?_; rintro e w1 ⟨v1, rfl, ho1, hb1⟩)
      | (at_builtin; refine ap_one _ rfl _ _ 22 rfl w.heap.size 5 i0 Tryz.underlying22 hi hz0 hz1 hz2 _ _ _ rfl rfl (by exact ho1) (by omega) (by exact hb1.size) ?_; intro v3 w3 ho3 hb3))
    go_ret
    exact ⟨_, rfl, ho3, hb1.trans hb3⟩

end Go.Proofs.YtnbaoimjcaeeaaaGreat

/-
  Contracts: a Reader that is not nil: rest, lose.
-/
namespace Go.Proofs.YtnbaoimjcaeeaaaGreat
open Go.RowKit

/-- As 'Has', the bytes below block number L. -/
def HasIn (w : World) (L : Nat) (v : Value) (xs : List Int) : Prop :=
  ∃ p c, v = .slice p xs.length c ∧ xs.length ≤ c ∧ (p = none → c = 0) ∧
    (0 < xs.length → ∃ b o, p = some ⟨b, o, none⟩ ∧ b < L ∧ ∀ i, i < xs.length → w.cell? ⟨b, o + i, none⟩ = some (.int .u8 (xs.getD i 0)))

theorem Has.inn {w : World} {v : Value} {xs : List Int} (h : Has w v xs) : HasIn w w.heap.size v xs := h
theorem HasIn.has {w : World} {L : Nat} {v : Value} {xs : List Int} (h : HasIn w L v xs) (hL : L ≤ w.heap.size) : Has w v xs := by
  obtain ⟨p, c, h1, h2, h3, h4⟩ := h
  refine ⟨p, c, h1, h2, h3, fun h0 => ?_⟩
  obtain ⟨b, o, hp, hb, hc⟩ := h4 h0
  exact ⟨b, o, hp, Nat.lt_of_lt_of_le hb hL, hc⟩
theorem HasIn.below {w w' : World} {L B : Nat} {v : Value} {xs : List Int} (h : HasIn w L v xs) (hb : Below B w w') (hB : L ≤ B) : HasIn w' L v xs := by
  obtain ⟨p, c, h1, h2, h3, h4⟩ := h
  refine ⟨p, c, h1, h2, h3, fun h0 => ?_⟩
  obtain ⟨b, o, hp, hlt, hc⟩ := h4 h0
  exact ⟨b, o, hp, hlt, fun i hi => (hb.cell (p := ⟨b, o + i, none⟩) (by exact Nat.lt_of_lt_of_le hlt hB)).trans (hc i hi)⟩
theorem HasIn.grown {w w' : World} {L r : Nat} {v : Value} {xs : List Int} (h : HasIn w L v xs) (hg : w.grownBy w' (some r)) (hr : L ≤ r) : HasIn w' L v xs := by
  obtain ⟨p, c, h1, h2, h3, h4⟩ := h
  refine ⟨p, c, h1, h2, h3, fun h0 => ?_⟩
  obtain ⟨b, o, hp, hlt, hc⟩ := h4 h0
  exact ⟨b, o, hp, hlt, fun i hi => hg.cell (hc i hi) (fun e => by have : b = r := Option.some.inj e; omega)⟩
theorem HasIn.nil (w : World) (L : Nat) : HasIn w L (.slice none 0 0) [] := ⟨none, 0, rfl, Nat.le_refl _, fun _ => rfl, fun h => absurd h (Nat.lt_irrefl 0)⟩

/-- A Reader in block rb: what is left, and whether there was something else. -/
structure Rd (w : World) (rb L : Nat) (v : Value) (xs : List Int) (wrong : Bool) : Prop where
  lt : rb < w.heap.size
  le : L ≤ rb
  c0 : w.cell? ⟨rb, 0, none⟩ = some v
  c1 : w.cell? ⟨rb, 1, none⟩ = some (.bool wrong)
  f0 : w.frozen? ⟨rb, 0, none⟩ = false
  f1 : w.frozen? ⟨rb, 1, none⟩ = false
  has : HasIn w L v xs

theorem Rd.below {w w' : World} {rb L B : Nat} {v : Value} {xs : List Int} {wrong : Bool} (h : Rd w rb L v xs wrong) (hb : Below B w w') (hB : rb < B) : Rd w' rb L v xs wrong :=
  ⟨Nat.lt_of_lt_of_le h.lt hb.size, h.le, (hb.cell (p := ⟨rb, 0, none⟩) hB).trans h.c0, (hb.cell (p := ⟨rb, 1, none⟩) hB).trans h.c1, (hb.frozen (p := ⟨rb, 0, none⟩) hB).trans h.f0, (hb.frozen (p := ⟨rb, 1, none⟩) hB).trans h.f1, h.has.below hb (Nat.le_of_lt (Nat.lt_of_le_of_lt h.le hB))⟩

theorem grown_of_below {w w' : World} {B : Nat} (hb : Below B w w') (hB : w.heap.size ≤ B) (row : Option Nat) : w.grownBy w' row :=
  ⟨hb.os, hb.tape, hb.output, hb.size, fun k hk _ => hb.block k (Nat.lt_of_lt_of_le hk hB)⟩
theorem grown_trans {a b c : World} {row : Option Nat} (h : a.grownBy b row) (k : b.grownBy c row) : a.grownBy c row :=
  ⟨k.os.trans h.os, k.tape.trans h.tape, k.output.trans h.output, Nat.le_trans h.size k.size, fun i hi hr => (k.block i (Nat.lt_of_lt_of_le hi h.size) hr).trans (h.block i hi hr)⟩
theorem grown_set (w : World) (rb o : Nat) (v : Value) : w.grownBy (w.setCell ⟨rb, o, none⟩ v) (some rb) :=
  ⟨rfl, rfl, rfl, by simp [World.setCell], fun k _ hr => Below.heap_setCell _ _ _ _ (fun e => hr (congrArg some e))⟩

theorem Rd.setB {w : World} {rb L : Nat} {v v' : Value} {xs xs' : List Int} {wrong : Bool} (h : Rd w rb L v xs wrong) (hv : HasIn w L v' xs') : Rd (w.setCell ⟨rb, 0, none⟩ v') rb L v' xs' wrong :=
  ⟨by simpa [World.setCell] using h.lt, h.le, World.cell?_setCell_same _ _ _ h.c0, (World.cell?_setCell_other _ _ _ _ (by simp)).trans h.c1, by simpa using h.f0, by simpa using h.f1, hv.grown (grown_set w rb 0 v') h.le⟩
theorem Rd.setW {w : World} {rb L : Nat} {v : Value} {xs : List Int} {wrong : Bool} (h : Rd w rb L v xs wrong) (b : Bool) : Rd (w.setCell ⟨rb, 1, none⟩ (.bool b)) rb L v xs b :=
  ⟨by simpa [World.setCell] using h.lt, h.le, (World.cell?_setCell_other _ _ _ _ (by simp)).trans h.c0, World.cell?_setCell_same _ _ _ h.c1, by simpa using h.f0, by simpa using h.f1, h.has.grown (grown_set w rb 1 _) h.le⟩

set_option maxRecDepth 100000 in
set_option maxHeartbeats 1000000 in
theorem rest_any (w : World) (rb L : Nat) (v : Value) (xs : List Int) (wrong : Bool) (h : Rd w rb L v xs wrong) :
    Calls Tryz.prog 112 #[.pointer (some ⟨rb, 0, none⟩)] w fun e w' => e = .returned (if wrong then .slice none 0 0 else v) ∧ w' = w := by
  have c0 := h.c0
  have c1 := h.c1
  clear h
  cases wrong
  all_goals
    go_enter Tryz.func112, Tryz.ntmps112
    go_wp2
    go_ret
    exact ⟨rfl, rfl⟩

set_option maxRecDepth 100000 in
set_option maxHeartbeats 1000000 in
theorem lose_zero (w : World) (rb L : Nat) (v : Value) (xs : List Int) (wrong : Bool) (h : Rd w rb L v xs wrong) :
    Calls Tryz.prog 114 #[.pointer (some ⟨rb, 0, none⟩), .int .i64 0] w fun e w' => e = .returned (.tuple #[]) ∧ Rd w' rb L (.slice none 0 0) [] true ∧ w.grownBy w' (some rb) := by
  have c0 := h.c0
  have c1 := h.c1
  have f0 := h.f0
  have f1 := h.f1
  have H : Hid (Rd w rb L v xs wrong) := h
  clear h
  go_enter Tryz.func114, Tryz.ntmps114
  go_wp2
  go_end0
  exact ⟨rfl, (H.out.setB (HasIn.nil w L)).setW true, grown_trans (grown_set _ _ _ _) (grown_set _ _ _ _)⟩

set_option maxRecDepth 100000 in
set_option maxHeartbeats 1000000 in
theorem lose_some (w : World) (rb L n : Nat) (v : Value) (xs : List Int) (wrong : Bool) (h : Rd w rb L v xs wrong) (h0 : 0 < n) (hn : n ≤ xs.length) (hl : xs.length ≤ 1099511627776) :
    Calls Tryz.prog 114 #[.pointer (some ⟨rb, 0, none⟩), .int .i64 n] w fun e w' => e = .returned (.tuple #[]) ∧ (∃ v', Rd w' rb L v' (xs.drop n) wrong) ∧ w.grownBy w' (some rb) := by
  have c0 := h.c0
  have f0 := h.f0
  have H : Hid (Rd w rb L v xs wrong) := h
  obtain ⟨p, c, rfl, hc, hnone, hcell⟩ := h.has
  clear h hnone
  obtain ⟨b, o, rfl, hbl, hcl⟩ := hcell (by omega)
  have hnb : ((n : Int) == 0) = false := by simp; omega
  have hlen : (xs.drop n).length = xs.length - n := by simp
  by_cases hcn : c = n
  · have hz : (xs.drop n).length = 0 := by omega
    have hv' : HasIn w L (.slice (some ⟨b, o, none⟩) 0 0) (xs.drop n) := ⟨_, _, by rw [hz], by omega, (fun h => by cases h), fun h0 => by omega⟩
    have HV : Hid (HasIn w L (.slice (some ⟨b, o, none⟩) 0 0) (xs.drop n)) := hv'
    clear hv' hlen hcl hcell hz
    subst hcn
    go_enter Tryz.func114, Tryz.ntmps114
    go_wp2
    go_end0
    exact ⟨rfl, ⟨_, H.out.setB HV.out⟩, grown_set _ _ _ _⟩
  · have hv' : HasIn w L (.slice (some ⟨b, o + n, none⟩) (xs.length - n) (c - n)) (xs.drop n) := ⟨_, _, by rw [hlen], by omega, (fun h => by cases h), fun h0 => ⟨b, o + n, rfl, hbl, fun i hi => by
      rw [Nat.add_assoc, hcl (n + i) (by omega)]
      simp⟩⟩
    have HV : Hid (HasIn w L (.slice (some ⟨b, o + n, none⟩) (xs.length - n) (c - n)) (xs.drop n)) := hv'
    clear hv' hlen hcl hcell
    go_enter Tryz.func114, Tryz.ntmps114
    go_wp2
    go_end0
    exact ⟨rfl, ⟨_, H.out.setB HV.out⟩, grown_set _ _ _ _⟩

/-- What becomes of a Reader that loses n bytes (0: there was no such thing); what is still to be read. -/
def loseS (xs : List Int) (wrong : Bool) (n : Nat) : List Int × Bool := if n = 0 then ([], true) else (xs.drop n, wrong)
def srcS (xs : List Int) (wrong : Bool) : List Int := if wrong then [] else xs

theorem lose_any (w : World) (rb L n : Nat) (v : Value) (xs : List Int) (wrong : Bool) (h : Rd w rb L v xs wrong) (hn : n ≤ xs.length) (hl : xs.length ≤ 1099511627776) :
    Calls Tryz.prog 114 #[.pointer (some ⟨rb, 0, none⟩), .int .i64 n] w fun e w' => e = .returned (.tuple #[]) ∧ (∃ v', Rd w' rb L v' (loseS xs wrong n).1 (loseS xs wrong n).2) ∧ w.grownBy w' (some rb) := by
  rcases Nat.eq_zero_or_pos n with rfl | h0
  · exact (lose_zero w rb L v xs wrong h).mono fun e w' ⟨h1, h2, h3⟩ => ⟨h1, ⟨_, h2⟩, h3⟩
  · refine (lose_some w rb L n v xs wrong h h0 hn hl).mono fun e w' ⟨h1, h2, h3⟩ => ⟨h1, ?_, h3⟩
    simp only [loseS, if_neg (Nat.ne_of_gt h0)]
    exact h2

set_option maxRecDepth 100000 in
set_option maxHeartbeats 1000000 in
theorem next_num_any (w : World) (rb L : Nat) (v b : Value) (xs ys : List Int) (wrong : Bool) (h : Rd w rb L v xs wrong) (hb : HasIn w L b ys) (hB : IsB ys) (hy : ys.length ≤ xs.length) (hl : xs.length ≤ 1099511627776) :
    Calls Tryz.prog 138 #[b, .func (.func 139) #[] #[], .func (.func 114) #[.pointer (some ⟨rb, 0, none⟩)] #[]] w fun e w' =>
      e = .returned (.int .u64 (getS ys).1) ∧ (∃ v', Rd w' rb L v' (loseS xs wrong (getS ys).2).1 (loseS xs wrong (getS ys).2).2) ∧ w.grownBy w' (some rb) := by
  have hbd := getS_bd ys
  have hL := Nat.le_of_lt (Nat.lt_of_le_of_lt h.le h.lt)
  have H : Hid (Rd w rb L v xs wrong) := h
  have hlt := h.lt
  clear h
  go_enter Tryz.func138, Tryz.ntmps138
  go_wp2_with (first
    | (go_at_call 139; refine (get_cod _ ys _ (hb.has hL) hB (by omega)).mono ?_; rintro e w1 ⟨rfl, hb1⟩)
    | (go_at_call 114; refine (lose_any _ rb L _ v xs wrong (H.out.below hb1 hlt) (by omega) hl).mono ?_; rintro e w2 ⟨rfl, hr2, hg2⟩))
  go_ret
  exact ⟨rfl, hr2, grown_trans (grown_of_below hb1 (Nat.le_refl _) _) hg2⟩
end Go.Proofs.YtnbaoimjcaeeaaaGreat

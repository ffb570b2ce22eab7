import Derived.Test.YtojfihfdnchkeaaGreatDoorWaXTo
import Derived.Test.YtojfihfdnchkeaaGreatDoorBack0To
import Derived.BigQuiet
import Derived.WalkSmall
namespace Go.Proofs.YtojfihfdnchkeaaGreatDoor
open Go.RowKit
set_option maxHeartbeats 400000 in
set_option maxRecDepth 10000 in
theorem len8_any (x : Int) (w : World) (h0 : 0 ≤ x) (h1 : x ≤ 255) :
    Calls Tryz.prog 365 #[.int .u8 x] w fun e w' => e = .returned (.int .i64 (Lib.bitLen x.toNat)) ∧ w' = w := by
  go_enter Tryz.func365, Tryz.ntmps365
  go_wp2
  go_ret
  refine ⟨ret_int ?_, rfl⟩
  have hb := Lib.bitLen_le8' x h0 h1
  rw [Lib.len8_of x h0 h1, IntWalk.wrap64_in _ ⟨by omega, by omega⟩]

set_option maxRecDepth 100000 in
set_option maxHeartbeats 400000 in
theorem lz8_any (x : Int) (w : World) (h0 : 0 ≤ x) (h1 : x ≤ 255) :
    Calls Tryz.prog 343 #[.int .u8 x] w fun e w' => e = .returned (.int .i64 (8 - (Lib.bitLen x.toNat : Int))) ∧ w' = w := by
  have hb := Lib.bitLen_le8' x h0 h1
  go_enter Tryz.func343, Tryz.ntmps343
  go_wp2_with (go_at_call 365; refine same_mono (len8_any _ _ (by omega) (by omega)) ?_)
  go_ret
  exact ⟨rfl, rfl⟩

set_option maxRecDepth 100000 in
set_option maxHeartbeats 1000000 in
theorem get_cod (v : Value) (xs : List Int) (w : World) (hv : Has w v xs) (hB : IsB xs) (hl : xs.length ≤ 1099511627776) :
    Calls Tryz.prog 317 #[v] w fun e w' => e = .returned (.tuple #[.int .u64 (getS xs).1, .int .i64 ((getS xs).2 : Nat)]) ∧ Below w.heap.size w w' := by
  obtain ⟨p, c, rfl, hc, hnone, hcell⟩ := hv
  clear hnone
  rcases Nat.eq_zero_or_pos xs.length with hn | hn
  · obtain rfl : xs = [] := List.eq_nil_of_length_eq_zero hn
    go_enter Tryz.func317, Tryz.ntmps317
    go_wp2
    go_ret2
    exact ⟨rfl, Below.refl _ _⟩
  · obtain ⟨b, o, rfl, hbl, hcl⟩ := hcell hn
    have hx := hB.getD 0
    have hc0 := hcl 0 hn
    rw [Nat.add_zero] at hc0
    have hk := lead_le (xs.getD 0 0)
    have HL := lead_len (xs.getD 0 0)
    have HS : Hid (getS xs = if xs.length ≤ lead (xs.getD 0 0) then (0, 0)
      else if lead (xs.getD 0 0) = more (gacc xs (lead (xs.getD 0 0)) (lead (xs.getD 0 0))).toNat then (gacc xs (lead (xs.getD 0 0)) (lead (xs.getD 0 0)), lead (xs.getD 0 0) + 1)
      else (0, 0)) := rfl
    have HG : ∀ k, Hid (gacc xs k 0 = g0 (xs.getD 0 0) k) := gacc_zero xs
    generalize xs.getD 0 0 = x at *
    generalize lead x = k at *
    have HLL : Hid ((8 : Int) - (Lib.bitLen (bits BinOp.xor .u8 IntKind.u8.max x).toNat : Int) = (k : Int)) := HL
    clear HL
    have hxb0 := bits_lo_u8 BinOp.xor IntKind.u8.max x
    have hxb1 := bits_hi_u8 BinOp.xor IntKind.u8.max x
    by_cases hlk : xs.length ≤ k
    · go_enter Tryz.func317, Tryz.ntmps317
      go_wp2_with (go_at_call 343; refine same_mono (lz8_any _ _ (by omega) (by omega)) ?_; rw [HLL.out])
      go_ret2
      rw [HS.out, if_pos hlk]
      exact ⟨rfl, Below.refl _ _⟩
    · have hg0 := bits_lo_u8 BinOp.and x (127 / 2 ^ k)
      have hg1 := bits_hi_u8 BinOp.and x (127 / 2 ^ k)
      have HA : ∀ j, j < k → Hid (gacc xs k (j + 1) = gs (gacc xs k j) (xs.getD (j + 1) 0)) := fun j hj => gacc_succ xs k j (by omega)
      have HAB := fun j => gacc_bd xs k j
      have hBj := fun j => hB.getD j
      clear hB hcell
      have hG0 : Hid (gacc xs k 0 = g0 x k) := HG k
      clear HG
      generalize gacc xs k = G at *
      by_cases hc1 : c = 1
      all_goals
        go_enter Tryz.func317, Tryz.ntmps317
        go_wp2_with (go_at_call 343; refine same_mono (lz8_any _ _ (by omega) (by omega)) ?_; rw [HLL.out])
        go_quiet (fail)
        go_wp2
        go_loopw [5, 32] (fun u i wr => ∃ j : Nat, j ≤ k ∧ i = .int .i64 j ∧ u = .int .u64 (G j) ∧ Below w.heap.size w wr) (fun _ i _ => k - (intOf i).toNat)
        case atStart => exact ⟨0, Nat.zero_le _, rfl, by rw [hG0.out]; rfl, below_drewN (Below.refl _ _) _⟩
        case round =>
          obtain ⟨j, hj, rfl, rfl, hbr⟩ := hrel
          by_cases hlt : j < k
          · first
              | (exfalso; omega)
              | (have h1 := (hbr.cell (p := ⟨b, o + (j + 1), none⟩) hbl).trans (hcl (j + 1) (by omega))
                 have e : o + (j + 1) = o + 1 + j := by omega
                 rw [e] at h1
                 have hb1 := hBj (j + 1)
                 have hGb := HAB j
                 have HAj := HA j hlt
                 clear hcl hBj HAB HA e
                 generalize xs.getD (j + 1) 0 = y at *
                 go_wp2
                 go_roundw
                 case rel => exact ⟨j + 1, by omega, by go_num, by rw [HAj.out]; rfl, hbr⟩
                 case measure => simp [intOf]; omega)
          · obtain rfl : j = k := by omega
            have hGb := HAB j
            by_cases hm : j = more (G j).toNat
            · have hmb : ((j : Int) != (more (G j).toNat : Int)) = false := by rw [← hm]; simp
              have HM : Hid (j = more (G j).toNat) := hm
              clear hm
              go_wp2_with (go_at_call 315; refine same_mono (tail_any _ _ (by omega) (by omega)) ?_)
              go_ret2
              rw [HS.out, if_neg hlk, if_pos HM.out]
              exact ⟨rfl, hbr⟩
            · have hmb : ((j : Int) != (more (G j).toNat : Int)) = true := by simp; omega
              go_wp2_with (go_at_call 315; refine same_mono (tail_any _ _ (by omega) (by omega)) ?_)
              go_ret2
              rw [HS.out, if_neg hlk, if_neg hm]
              exact ⟨rfl, hbr⟩
set_option maxRecDepth 100000 in
set_option maxHeartbeats 1000000 in
theorem getText_any (v : Value) (xs : List Int) (w : World) (hv : Has w v xs) (hB : IsB xs) (hl : xs.length ≤ 1099511627776) :
    Calls Tryz.prog 266 #[v] w fun e w' => e = .returned (.tuple #[.string (strOfNums (getTextS xs).1), .int .i64 ((getTextS xs).2 : Nat)]) ∧ Below w.heap.size w w' := by
  have hget := get_cod v xs w hv hB hl
  have hbd := getS_bd xs
  have HT : Hid (getTextS xs = if (getS xs).2 = 0 ∨ (xs.length : Int) - (getS xs).2 < (getS xs).1 then ([], 0) else ((xs.drop (getS xs).2).take (getS xs).1.toNat, (getS xs).2 + (getS xs).1.toNat)) := rfl
  obtain ⟨p, c, rfl, hc, hnone, hcell⟩ := id hv
  clear hnone
  generalize getS xs = g at *
  obtain ⟨u, n⟩ := g
  obtain ⟨h0, h1, h2, h3⟩ := hbd
  simp only at h0 h1 h2 h3 HT hget
  obtain ⟨U, rfl⟩ := Int.eq_ofNat_of_zero_le h0
  have HGt : Hid (Calls Tryz.prog 317 #[.slice p xs.length c] w fun e w' => e = .returned (.tuple #[.int .u64 (U : Int), .int .i64 (n : Nat)]) ∧ Below w.heap.size w w') := hget
  clear hget
  by_cases hn0 : n = 0
  · have HT0 : Hid (getTextS xs = ([], 0)) := by rw [Hid, HT.out, if_pos (Or.inl hn0)]
    clear HT
    subst hn0
    go_enter Tryz.func266, Tryz.ntmps266
    go_wp2_with (go_at_call 317; refine HGt.out.mono ?_; rintro e w1 ⟨rfl, hb1⟩)
    go_ret2
    rw [HT0.out]
    exact ⟨rfl, hb1⟩
  · have hnb : ((n : Int) == 0) = false := by simp; omega
    by_cases hlt : (xs.length : Int) - n < U
    · have HT0 : Hid (getTextS xs = ([], 0)) := by rw [Hid, HT.out, if_pos (Or.inr hlt)]
      clear HT
      go_enter Tryz.func266, Tryz.ntmps266
      go_wp2_with (go_at_call 317; refine HGt.out.mono ?_; rintro e w1 ⟨rfl, hb1⟩)
      go_ret2
      rw [HT0.out]
      exact ⟨rfl, hb1⟩
    · have HT0 : Hid (getTextS xs = ((xs.drop n).take U, n + U)) := by rw [Hid, HT.out, if_neg (by omega)]; rfl
      clear HT
      obtain ⟨b, o, rfl, hbl, _⟩ := hcell (by omega)
      clear hcell
      by_cases hcn : c = n
      · obtain rfl : U = 0 := by omega
        subst hcn
        have CV : Hid (∀ w1, (convert 38 9 (.slice (some ⟨b, o, none⟩) 0 0)).run Tryz.prog w1 = .ok (.string (strOfNums [])) w1) := fun w1 =>
          (Has.empty w1 (some ⟨b, o, none⟩) 0 (fun _ => rfl)).conv (P := Tryz.prog) 38 5 9 Tryz.underlying38 Tryz.underlying5 Tryz.underlying9
        go_enter Tryz.func266, Tryz.ntmps266
        go_wp2_with (go_at_call 317; refine HGt.out.mono ?_; rintro e w1 ⟨rfl, hb1⟩; have cv1 := CV.out w1)
        go_ret2
        rw [HT0.out]
        exact ⟨rfl, hb1⟩
      · have CV : Hid (∀ w1, Below w.heap.size w w1 → (convert 38 9 (.slice (some ⟨b, o + n, none⟩) U (c - n))).run Tryz.prog w1 = .ok (.string (strOfNums ((xs.drop n).take U))) w1) := fun w1 hb =>
          ((hv.below hb (Nat.le_refl _)).cutAt n U (by omega)).conv (P := Tryz.prog) 38 5 9 Tryz.underlying38 Tryz.underlying5 Tryz.underlying9
        go_enter Tryz.func266, Tryz.ntmps266
        go_wp2_with (go_at_call 317; refine HGt.out.mono ?_; rintro e w1 ⟨rfl, hb1⟩; have cv1 := CV.out w1 hb1)
        go_ret2
        rw [HT0.out]
        exact ⟨rfl, hb1⟩

def HasIn (w : World) (L : Nat) (v : Value) (xs : List Int) : Prop :=
  ∃ p c, v = .slice p xs.length c ∧ xs.length ≤ c ∧ (p = none → c = 0) ∧
    (0 < xs.length → ∃ b o, p = some ⟨b, o, none⟩ ∧ b < L ∧ ∀ i, i < xs.length → w.cell? ⟨b, o + i, none⟩ = some (.int .u8 (xs.getD i 0)))

theorem Has.inn {w : World} {v : Value} {xs : List Int} (h : Has w v xs) : HasIn w w.heap.size v xs := h
theorem HasIn.has {w : World} {L : Nat} {v : Value} {xs : List Int} (h : HasIn w L v xs) (hL : L ≤ w.heap.size) : Has w v xs := by
  obtain ⟨p, c, h1, h2, h3, h4⟩ := h
  refine ⟨p, c, h1, h2, h3, fun h0 => ?_⟩
  obtain ⟨b, o, hp, hb, hc⟩ := h4 h0
  exact ⟨b, o, hp, Nat.lt_of_lt_of_le hb hL, hc⟩
theorem HasIn.below {w w' : World} {L B : Nat} {v : Value} {xs : List Int} (h : HasIn w L v xs) (hb : Below B w w') (hB : L ≤ B) : HasIn w' L v xs := by
  obtain ⟨p, c, h1, h2, h3, h4⟩ := h
  refine ⟨p, c, h1, h2, h3, fun h0 => ?_⟩
  obtain ⟨b, o, hp, hlt, hc⟩ := h4 h0
  exact ⟨b, o, hp, hlt, fun i hi => (hb.cell (p := ⟨b, o + i, none⟩) (by exact Nat.lt_of_lt_of_le hlt hB)).trans (hc i hi)⟩
theorem HasIn.grown {w w' : World} {L r : Nat} {v : Value} {xs : List Int} (h : HasIn w L v xs) (hg : w.grownBy w' (some r)) (hr : L ≤ r) : HasIn w' L v xs := by
  obtain ⟨p, c, h1, h2, h3, h4⟩ := h
  refine ⟨p, c, h1, h2, h3, fun h0 => ?_⟩
  obtain ⟨b, o, hp, hlt, hc⟩ := h4 h0
  exact ⟨b, o, hp, hlt, fun i hi => hg.cell (hc i hi) (fun e => by have : b = r := Option.some.inj e; omega)⟩
theorem HasIn.nil (w : World) (L : Nat) : HasIn w L (.slice none 0 0) [] := ⟨none, 0, rfl, Nat.le_refl _, fun _ => rfl, fun h => absurd h (Nat.lt_irrefl 0)⟩

structure Rd (w : World) (rb L : Nat) (v : Value) (xs : List Int) (wrong : Bool) : Prop where
  lt : rb < w.heap.size
  le : L ≤ rb
  c0 : w.cell? ⟨rb, 0, none⟩ = some v
  c1 : w.cell? ⟨rb, 1, none⟩ = some (.bool wrong)
  f0 : w.frozen? ⟨rb, 0, none⟩ = false
  f1 : w.frozen? ⟨rb, 1, none⟩ = false
  has : HasIn w L v xs

theorem Rd.below {w w' : World} {rb L B : Nat} {v : Value} {xs : List Int} {wrong : Bool} (h : Rd w rb L v xs wrong) (hb : Below B w w') (hB : rb < B) : Rd w' rb L v xs wrong :=
  ⟨Nat.lt_of_lt_of_le h.lt hb.size, h.le, (hb.cell (p := ⟨rb, 0, none⟩) hB).trans h.c0, (hb.cell (p := ⟨rb, 1, none⟩) hB).trans h.c1, (hb.frozen (p := ⟨rb, 0, none⟩) hB).trans h.f0, (hb.frozen (p := ⟨rb, 1, none⟩) hB).trans h.f1, h.has.below hb (Nat.le_of_lt (Nat.lt_of_le_of_lt h.le hB))⟩

theorem grown_of_below {w w' : World} {B : Nat} (hb : Below B w w') (hB : w.heap.size ≤ B) (row : Option Nat) : w.grownBy w' row :=
  ⟨hb.os, hb.tape, hb.output, hb.size, fun k hk _ => hb.block k (Nat.lt_of_lt_of_le hk hB)⟩
theorem grown_trans {a b c : World} {row : Option Nat} (h : a.grownBy b row) (k : b.grownBy c row) : a.grownBy c row :=
  ⟨k.os.trans h.os, k.tape.trans h.tape, k.output.trans h.output, Nat.le_trans h.size k.size, fun i hi hr => (k.block i (Nat.lt_of_lt_of_le hi h.size) hr).trans (h.block i hi hr)⟩
theorem grown_set (w : World) (rb o : Nat) (v : Value) : w.grownBy (w.setCell ⟨rb, o, none⟩ v) (some rb) :=
  ⟨rfl, rfl, rfl, by simp [World.setCell], fun k _ hr => Below.heap_setCell _ _ _ _ (fun e => hr (congrArg some e))⟩

theorem Rd.setB {w : World} {rb L : Nat} {v v' : Value} {xs xs' : List Int} {wrong : Bool} (h : Rd w rb L v xs wrong) (hv : HasIn w L v' xs') : Rd (w.setCell ⟨rb, 0, none⟩ v') rb L v' xs' wrong :=
  ⟨by simpa [World.setCell] using h.lt, h.le, World.cell?_setCell_same _ _ _ h.c0, (World.cell?_setCell_other _ _ _ _ (by simp)).trans h.c1, by simpa using h.f0, by simpa using h.f1, hv.grown (grown_set w rb 0 v') h.le⟩
theorem Rd.setW {w : World} {rb L : Nat} {v : Value} {xs : List Int} {wrong : Bool} (h : Rd w rb L v xs wrong) (b : Bool) : Rd (w.setCell ⟨rb, 1, none⟩ (.bool b)) rb L v xs b :=
  ⟨by simpa [World.setCell] using h.lt, h.le, (World.cell?_setCell_other _ _ _ _ (by simp)).trans h.c0, World.cell?_setCell_same _ _ _ h.c1, by simpa using h.f0, by simpa using h.f1, h.has.grown (grown_set w rb 1 _) h.le⟩

set_option maxRecDepth 100000 in
set_option maxHeartbeats 1000000 in
theorem rest_any (w : World) (rb L : Nat) (v : Value) (xs : List Int) (wrong : Bool) (h : Rd w rb L v xs wrong) :
    Calls Tryz.prog 265 #[.pointer (some ⟨rb, 0, none⟩)] w fun e w' => e = .returned (if wrong then .slice none 0 0 else v) ∧ w' = w := by
  have c0 := h.c0
  have c1 := h.c1
  clear h
  cases wrong
  all_goals
    go_enter Tryz.func265, Tryz.ntmps265
    go_wp2
    go_ret
    exact ⟨rfl, rfl⟩

set_option maxRecDepth 100000 in
set_option maxHeartbeats 1000000 in
theorem lose_zero (w : World) (rb L : Nat) (v : Value) (xs : List Int) (wrong : Bool) (h : Rd w rb L v xs wrong) :
    Calls Tryz.prog 267 #[.pointer (some ⟨rb, 0, none⟩), .int .i64 0] w fun e w' => e = .returned (.tuple #[]) ∧ Rd w' rb L (.slice none 0 0) [] true ∧ w.grownBy w' (some rb) := by
  have c0 := h.c0
  have c1 := h.c1
  have f0 := h.f0
  have f1 := h.f1
  have H : Hid (Rd w rb L v xs wrong) := h
  clear h
  go_enter Tryz.func267, Tryz.ntmps267
  go_wp2
  go_end0
  exact ⟨rfl, (H.out.setB (HasIn.nil w L)).setW true, grown_trans (grown_set _ _ _ _) (grown_set _ _ _ _)⟩

set_option maxRecDepth 100000 in
set_option maxHeartbeats 1000000 in
theorem lose_some (w : World) (rb L n : Nat) (v : Value) (xs : List Int) (wrong : Bool) (h : Rd w rb L v xs wrong) (h0 : 0 < n) (hn : n ≤ xs.length) (hl : xs.length ≤ 1099511627776) :
    Calls Tryz.prog 267 #[.pointer (some ⟨rb, 0, none⟩), .int .i64 n] w fun e w' => e = .returned (.tuple #[]) ∧ (∃ v', Rd w' rb L v' (xs.drop n) wrong) ∧ w.grownBy w' (some rb) := by
  have c0 := h.c0
  have f0 := h.f0
  have H : Hid (Rd w rb L v xs wrong) := h
  obtain ⟨p, c, rfl, hc, hnone, hcell⟩ := h.has
  clear h hnone
  obtain ⟨b, o, rfl, hbl, hcl⟩ := hcell (by omega)
  have hnb : ((n : Int) == 0) = false := by simp; omega
  have hlen : (xs.drop n).length = xs.length - n := by simp
  by_cases hcn : c = n
  · have hz : (xs.drop n).length = 0 := by omega
    have hv' : HasIn w L (.slice (some ⟨b, o, none⟩) 0 0) (xs.drop n) := ⟨_, _, by rw [hz], by omega, (fun h => by cases h), fun h0 => by omega⟩
    have HV : Hid (HasIn w L (.slice (some ⟨b, o, none⟩) 0 0) (xs.drop n)) := hv'
    clear hv' hlen hcl hcell hz
    subst hcn
    go_enter Tryz.func267, Tryz.ntmps267
    go_wp2
    go_end0
    exact ⟨rfl, ⟨_, H.out.setB HV.out⟩, grown_set _ _ _ _⟩
  · have hv' : HasIn w L (.slice (some ⟨b, o + n, none⟩) (xs.length - n) (c - n)) (xs.drop n) := ⟨_, _, by rw [hlen], by omega, (fun h => by cases h), fun h0 => ⟨b, o + n, rfl, hbl, fun i hi => by
      rw [Nat.add_assoc, hcl (n + i) (by omega)]
      simp⟩⟩
    have HV : Hid (HasIn w L (.slice (some ⟨b, o + n, none⟩) (xs.length - n) (c - n)) (xs.drop n)) := hv'
    clear hv' hlen hcl hcell
    go_enter Tryz.func267, Tryz.ntmps267
    go_wp2
    go_end0
    exact ⟨rfl, ⟨_, H.out.setB HV.out⟩, grown_set _ _ _ _⟩

def loseS (xs : List Int) (wrong : Bool) (n : Nat) : List Int × Bool := if n = 0 then ([], true) else (xs.drop n, wrong)
def srcS (xs : List Int) (wrong : Bool) : List Int := if wrong then [] else xs

theorem lose_any (w : World) (rb L n : Nat) (v : Value) (xs : List Int) (wrong : Bool) (h : Rd w rb L v xs wrong) (hn : n ≤ xs.length) (hl : xs.length ≤ 1099511627776) :
    Calls Tryz.prog 267 #[.pointer (some ⟨rb, 0, none⟩), .int .i64 n] w fun e w' => e = .returned (.tuple #[]) ∧ (∃ v', Rd w' rb L v' (loseS xs wrong n).1 (loseS xs wrong n).2) ∧ w.grownBy w' (some rb) := by
  rcases Nat.eq_zero_or_pos n with rfl | h0
  · exact (lose_zero w rb L v xs wrong h).mono fun e w' ⟨h1, h2, h3⟩ => ⟨h1, ⟨_, h2⟩, h3⟩
  · refine (lose_some w rb L n v xs wrong h h0 hn hl).mono fun e w' ⟨h1, h2, h3⟩ => ⟨h1, ?_, h3⟩
    simp only [loseS, if_neg (Nat.ne_of_gt h0)]
    exact h2

set_option maxRecDepth 100000 in
set_option maxHeartbeats 1000000 in
theorem next_num_any (w : World) (rb L : Nat) (v b : Value) (xs ys : List Int) (wrong : Bool) (h : Rd w rb L v xs wrong) (hb : HasIn w L b ys) (hB : IsB ys) (hy : ys.length ≤ xs.length) (hl : xs.length ≤ 1099511627776) :
    Calls Tryz.prog 316 #[b, .func (.func 317) #[] #[], .func (.func 267) #[.pointer (some ⟨rb, 0, none⟩)] #[]] w fun e w' =>
      e = .returned (.int .u64 (getS ys).1) ∧ (∃ v', Rd w' rb L v' (loseS xs wrong (getS ys).2).1 (loseS xs wrong (getS ys).2).2) ∧ w.grownBy w' (some rb) := by
  have hbd := getS_bd ys
  have hL := Nat.le_of_lt (Nat.lt_of_le_of_lt h.le h.lt)
  have H : Hid (Rd w rb L v xs wrong) := h
  have hlt := h.lt
  clear h
  go_enter Tryz.func316, Tryz.ntmps316
  go_wp2_with (first
    | (go_at_call 317; refine (get_cod _ ys _ (hb.has hL) hB (by omega)).mono ?_; rintro e w1 ⟨rfl, hb1⟩)
    | (go_at_call 267; refine (lose_any _ rb L _ v xs wrong (H.out.below hb1 hlt) (by omega) hl).mono ?_; rintro e w2 ⟨rfl, hr2, hg2⟩))
  go_ret
  exact ⟨rfl, hr2, grown_trans (grown_of_below hb1 (Nat.le_refl _) _) hg2⟩
theorem srcS_isB {xs : List Int} (h : IsB xs) (wrong : Bool) : IsB (srcS xs wrong) := by cases wrong <;> simp [srcS, IsB.nil, h]
theorem srcS_length (xs : List Int) (wrong : Bool) : (srcS xs wrong).length ≤ xs.length := by cases wrong <;> simp [srcS]
theorem Rd.src {w : World} {rb L : Nat} {v : Value} {xs : List Int} {wrong : Bool} (h : Rd w rb L v xs wrong) : HasIn w L (if wrong then .slice none 0 0 else v) (srcS xs wrong) := by
  cases wrong
  · exact h.has
  · exact HasIn.nil w L
theorem loseS_isB {xs : List Int} (h : IsB xs) (wrong : Bool) (n : Nat) : IsB (loseS xs wrong n).1 := by
  unfold loseS; split
  · exact IsB.nil
  · exact fun x hx => h x (List.mem_of_mem_drop hx)
theorem loseS_length (xs : List Int) (wrong : Bool) (n : Nat) : (loseS xs wrong n).1.length ≤ xs.length := by
  unfold loseS; split <;> simp

theorem rest_src {Q : Ending → World → Prop} (w : World) (rb L : Nat) (v : Value) (xs : List Int) (wrong : Bool) (h : Rd w rb L v xs wrong) (hQ : ∀ b, HasIn w L b (srcS xs wrong) → Q (.returned b) w) :
    Calls Tryz.prog 265 #[.pointer (some ⟨rb, 0, none⟩)] w Q :=
  (rest_any w rb L v xs wrong h).mono fun e w' ⟨h1, h2⟩ => by subst h1; subst h2; exact hQ _ h.src

def countS (m : Int) (ys : List Int) : Int × Nat := if m < 0 ∨ m < (getS ys).1 then (0, 0) else getS ys
theorem countS_bd (m : Int) (ys : List Int) : (countS m ys).2 ≤ ys.length := by
  have := getS_bd ys
  unfold countS; split <;> simp_all

set_option maxRecDepth 100000 in
set_option maxHeartbeats 1000000 in
theorem upTo1_any (m : Int) (bx : Nat) (b : Value) (ys : List Int) (w : World) (hc : w.cell? ⟨bx, 0, none⟩ = some (.int .i64 m)) (hbx : bx < w.heap.size) (hv : Has w b ys) (hB : IsB ys) (hy : ys.length ≤ 1099511627776) (hm : m ≤ 9223372036854775807) :
    Calls Tryz.prog 366 #[b, .pointer (some ⟨bx, 0, none⟩)] w fun e w' => e = .returned (.tuple #[.int .i64 (countS m ys).1, .int .i64 ((countS m ys).2 : Nat)]) ∧ Below w.heap.size w w' := by
  have HG : Hid (Calls Tryz.prog 317 #[b] w fun e w' => e = .returned (.tuple #[.int .u64 (getS ys).1, .int .i64 ((getS ys).2 : Nat)]) ∧ Below w.heap.size w w') := get_cod b ys w hv hB hy
  have hbd := getS_bd ys
  have HT : Hid (countS m ys = if m < 0 ∨ m < (getS ys).1 then (0, 0) else getS ys) := rfl
  generalize getS ys = g at *
  obtain ⟨u, n⟩ := g
  obtain ⟨h0, h1, h2, h3⟩ := hbd
  simp only at h0 h1 h2 h3
  have HG2 : Hid (Calls Tryz.prog 317 #[b] w fun e w' => e = .returned (.tuple #[.int .u64 u, .int .i64 (n : Nat)]) ∧ Below w.heap.size w w') := HG
  clear HG
  by_cases hm0 : m < 0
  · have HT0 : Hid (countS m ys = (0, 0)) := by rw [Hid, HT.out, if_pos (Or.inl hm0)]
    clear HT
    go_enter Tryz.func366, Tryz.ntmps366
    go_wp2_with (go_at_call 317; refine HG2.out.mono ?_; rintro e w1 ⟨rfl, hb1⟩; have hc1 := (hb1.cell (p := ⟨bx, 0, none⟩) hbx).trans hc)
    go_ret2
    rw [HT0.out]
    exact ⟨rfl, hb1⟩
  · by_cases hmu : m < u
    · have HT0 : Hid (countS m ys = (0, 0)) := by rw [Hid, HT.out, if_pos (Or.inr hmu)]
      clear HT
      go_enter Tryz.func366, Tryz.ntmps366
      go_wp2_with (go_at_call 317; refine HG2.out.mono ?_; rintro e w1 ⟨rfl, hb1⟩; have hc1 := (hb1.cell (p := ⟨bx, 0, none⟩) hbx).trans hc)
      go_ret2
      rw [HT0.out]
      exact ⟨rfl, hb1⟩
    · have HT0 : Hid (countS m ys = (u, n)) := by rw [Hid, HT.out, if_neg (by omega)]
      clear HT
      go_enter Tryz.func366, Tryz.ntmps366
      go_wp2_with (go_at_call 317; refine HG2.out.mono ?_; rintro e w1 ⟨rfl, hb1⟩; have hc1 := (hb1.cell (p := ⟨bx, 0, none⟩) hbx).trans hc)
      go_ret2
      rw [HT0.out]
      exact ⟨rfl, hb1⟩

set_option maxRecDepth 100000 in
set_option maxHeartbeats 1000000 in
theorem next_text_any (w : World) (rb L : Nat) (v b : Value) (xs ys : List Int) (wrong : Bool) (h : Rd w rb L v xs wrong) (hb : HasIn w L b ys) (hB : IsB ys) (hy : ys.length ≤ xs.length) (hl : xs.length ≤ 1099511627776) :
    Calls Tryz.prog 264 #[b, .func (.func 266) #[] #[], .func (.func 267) #[.pointer (some ⟨rb, 0, none⟩)] #[]] w fun e w' =>
      e = .returned (.string (strOfNums (getTextS ys).1)) ∧ (∃ v', Rd w' rb L v' (loseS xs wrong (getTextS ys).2).1 (loseS xs wrong (getTextS ys).2).2) ∧ w.grownBy w' (some rb) := by
  have hbd := getTextS_bd ys
  have hL := Nat.le_of_lt (Nat.lt_of_le_of_lt h.le h.lt)
  have H : Hid (Rd w rb L v xs wrong) := h
  have hlt := h.lt
  clear h
  go_enter Tryz.func264, Tryz.ntmps264
  go_wp2_with (first
    | (go_at_call 266; refine (getText_any _ ys _ (hb.has hL) hB (by omega)).mono ?_; rintro e w1 ⟨rfl, hb1⟩)
    | (go_at_call 267; refine (lose_any _ rb L _ v xs wrong (H.out.below hb1 hlt) (by omega) hl).mono ?_; rintro e w2 ⟨rfl, hr2, hg2⟩))
  go_ret
  exact ⟨rfl, hr2, grown_trans (grown_of_below hb1 (Nat.le_refl _) _) hg2⟩

set_option maxRecDepth 100000 in
set_option maxHeartbeats 1000000 in
theorem num_any (w : World) (rb L : Nat) (v : Value) (xs : List Int) (wrong : Bool) (h : Rd w rb L v xs wrong) (hB : IsB xs) (hl : xs.length ≤ 1099511627776) :
    Calls Tryz.prog 262 #[.pointer (some ⟨rb, 0, none⟩)] w fun e w' =>
      e = .returned (.int .u64 (getS (srcS xs wrong)).1) ∧ (∃ v', Rd w' rb L v' (loseS xs wrong (getS (srcS xs wrong)).2).1 (loseS xs wrong (getS (srcS xs wrong)).2).2) ∧ w.grownBy w' (some rb) := by
  go_enter Tryz.func262, Tryz.ntmps262
  go_wp2_with (first
    | (go_at_call 265; refine rest_src _ rb L v xs wrong h ?_; intro b0 hb0)
    | (go_at_call 316; refine (next_num_any _ rb L v _ xs (srcS xs wrong) wrong h hb0 (srcS_isB hB _) (srcS_length _ _) hl).mono ?_; rintro e w1 ⟨rfl, hr1, hg1⟩))
  go_ret
  exact ⟨rfl, hr1, hg1⟩

set_option maxRecDepth 100000 in
set_option maxHeartbeats 1000000 in
theorem text_any (w : World) (rb L : Nat) (v : Value) (xs : List Int) (wrong : Bool) (h : Rd w rb L v xs wrong) (hB : IsB xs) (hl : xs.length ≤ 1099511627776) :
    Calls Tryz.prog 217 #[.pointer (some ⟨rb, 0, none⟩)] w fun e w' =>
      e = .returned (.string (strOfNums (getTextS (srcS xs wrong)).1)) ∧ (∃ v', Rd w' rb L v' (loseS xs wrong (getTextS (srcS xs wrong)).2).1 (loseS xs wrong (getTextS (srcS xs wrong)).2).2) ∧ w.grownBy w' (some rb) := by
  go_enter Tryz.func217, Tryz.ntmps217
  go_wp2_with (first
    | (go_at_call 265; refine rest_src _ rb L v xs wrong h ?_; intro b0 hb0)
    | (go_at_call 264; refine (next_text_any _ rb L v _ xs (srcS xs wrong) wrong h hb0 (srcS_isB hB _) (srcS_length _ _) hl).mono ?_; rintro e w1 ⟨rfl, hr1, hg1⟩))
  go_ret
  exact ⟨rfl, hr1, hg1⟩

set_option maxRecDepth 100000 in
set_option maxHeartbeats 1000000 in
theorem int_any (w : World) (rb L : Nat) (v : Value) (xs : List Int) (wrong : Bool) (h : Rd w rb L v xs wrong) (hB : IsB xs) (hl : xs.length ≤ 1099511627776) :
    Calls Tryz.prog 215 #[.pointer (some ⟨rb, 0, none⟩)] w fun e w' =>
      e = .returned (.int .i64 (zagS (getS (srcS xs wrong)).1)) ∧ (∃ v', Rd w' rb L v' (loseS xs wrong (getS (srcS xs wrong)).2).1 (loseS xs wrong (getS (srcS xs wrong)).2).2) ∧ w.grownBy w' (some rb) := by
  go_enter Tryz.func215, Tryz.ntmps215
  go_wp2_with (first
    | (go_at_call 262; refine (num_any _ rb L v xs wrong h hB hl).mono ?_; rintro e w1 ⟨rfl, hr1, hg1⟩)
    | (go_at_call 261; refine same_mono (zag_any _ _) ?_))
  go_ret
  exact ⟨rfl, hr1, hg1⟩

set_option maxRecDepth 100000 in
set_option maxHeartbeats 1000000 in
theorem end_any (w : World) (rb L : Nat) (v : Value) (xs : List Int) (wrong : Bool) (h : Rd w rb L v xs wrong) :
    Calls Tryz.prog 214 #[.pointer (some ⟨rb, 0, none⟩)] w fun e w' => e = .returned (.bool (xs.isEmpty && !wrong)) ∧ w' = w := by
  have c0 := h.c0
  have c1 := h.c1
  obtain ⟨p, c, rfl, _, _, _⟩ := h.has
  clear h
  have hb : ((xs.length : Int) == 0) = xs.isEmpty := by
    cases xs with
    | nil => rfl
    | cons a l => simp; omega
  generalize xs.isEmpty = emp at *
  generalize xs.length = n at *
  have HB : Hid (((n : Int) == 0) = emp) := hb
  cases wrong <;> cases emp
  all_goals
    have hb1 := HB.out
    clear HB hb
    go_enter Tryz.func214, Tryz.ntmps214
    go_wp2
    go_ret
    exact ⟨rfl, rfl⟩
theorem Rd.grown {w w' : World} {rb sb L : Nat} {v : Value} {xs : List Int} {wrong : Bool} (h : Rd w sb L v xs wrong) (hg : w.grownBy w' (some rb)) (hne : sb ≠ rb) (hL : L ≤ rb) : Rd w' sb L v xs wrong := by
  have hb := hg.block sb h.lt (fun e => hne (Option.some.inj e))
  exact ⟨Nat.lt_of_lt_of_le h.lt hg.size, h.le, (World.cell?_of_block (a := ⟨sb, 0, none⟩) hb).trans h.c0, (World.cell?_of_block (a := ⟨sb, 1, none⟩) hb).trans h.c1, (World.frozen?_of_block (a := ⟨sb, 0, none⟩) hb).trans h.f0, (World.frozen?_of_block (a := ⟨sb, 1, none⟩) hb).trans h.f1, h.has.grown hg hL⟩

set_option maxRecDepth 100000 in
set_option maxHeartbeats 1000000 in
theorem next_count_any (m : Int) (bx : Nat) (w : World) (rb L : Nat) (v b : Value) (xs ys : List Int) (wrong : Bool) (h : Rd w rb L v xs wrong) (hb : HasIn w L b ys) (hB : IsB ys) (hy : ys.length ≤ xs.length) (hl : xs.length ≤ 1099511627776) (hm : m ≤ 9223372036854775807) (hc : w.cell? ⟨bx, 0, none⟩ = some (.int .i64 m)) (hbx : bx < w.heap.size) :
    Calls Tryz.prog 344 #[b, .func (.func 366) #[] #[.pointer (some ⟨bx, 0, none⟩)], .func (.func 267) #[.pointer (some ⟨rb, 0, none⟩)] #[]] w fun e w' =>
      e = .returned (.int .i64 (countS m ys).1) ∧ (∃ v', Rd w' rb L v' (loseS xs wrong (countS m ys).2).1 (loseS xs wrong (countS m ys).2).2) ∧ w.grownBy w' (some rb) := by
  have hbd := countS_bd m ys
  have hL := Nat.le_of_lt (Nat.lt_of_le_of_lt h.le h.lt)
  have H : Hid (Rd w rb L v xs wrong) := h
  have hlt := h.lt
  clear h
  go_enter Tryz.func344, Tryz.ntmps344
  go_wp2_with (first
    | (go_at_call 366; refine (upTo1_any m bx _ ys _ hc hbx (hb.has hL) hB (by omega) hm).mono ?_; rintro e w1 ⟨rfl, hb1⟩)
    | (go_at_call 267; refine (lose_any _ rb L _ v xs wrong (H.out.below hb1 hlt) (by omega) hl).mono ?_; rintro e w2 ⟨rfl, hr2, hg2⟩))
  go_ret
  exact ⟨rfl, hr2, grown_trans (grown_of_below hb1 (Nat.le_refl _) _) hg2⟩

set_option maxRecDepth 100000 in
set_option maxHeartbeats 1000000 in
theorem count_any (m : Int) (w : World) (rb L : Nat) (v : Value) (xs : List Int) (wrong : Bool) (h : Rd w rb L v xs wrong) (hB : IsB xs) (hl : xs.length ≤ 1099511627776) (hm : m ≤ 9223372036854775807) :
    Calls Tryz.prog 318 #[.pointer (some ⟨rb, 0, none⟩), .int .i64 m] w fun e w' =>
      e = .returned (.int .i64 (countS m (srcS xs wrong)).1) ∧ (∃ v', Rd w' rb L v' (loseS xs wrong (countS m (srcS xs wrong)).2).1 (loseS xs wrong (countS m (srcS xs wrong)).2).2) ∧ w.grownBy w' (some rb) := by
  have hba : Below w.heap.size w (w.alloc (.cells #[.int .i64 m] 3)) := (Below.refl w.heap.size w).alloc (Nat.le_refl _) _
  have H : Hid (Rd w rb L v xs wrong) := h
  have hlt := h.lt
  have hL := Nat.le_of_lt (Nat.lt_of_le_of_lt h.le h.lt)
  clear h
  go_enter Tryz.func318, Tryz.ntmps318
  go_wp2_with (first
    | (go_at_call 265; refine rest_src _ rb L v xs wrong H.out ?_; intro b0 hb0)
    | (go_at_call 345; refine (upTo_any _ _).mono ?_; rintro e w' ⟨rfl, rfl⟩)
    | (go_at_call 344; refine (next_count_any m _ _ rb L v _ xs (srcS xs wrong) wrong (H.out.below hba hlt) (hb0.below hba hL) (srcS_isB hB _) (srcS_length _ _) hl hm (by simp) (by simp)).mono ?_; rintro e w1 ⟨rfl, hr1, hg1⟩))
  go_ret
  exact ⟨rfl, hr1, grown_trans (grown_of_below hba (Nat.le_refl _) _) hg1⟩

def Inv (xs : List Int) (wrong : Bool) : Prop := wrong = true → xs = []
theorem Inv.src {xs : List Int} {wrong : Bool} (h : Inv xs wrong) : srcS xs wrong = xs := by
  cases wrong
  · rfl
  · rw [h rfl]; rfl
theorem Inv.lose {xs : List Int} {wrong : Bool} (h : Inv xs wrong) (n : Nat) : Inv (loseS xs wrong n).1 (loseS xs wrong n).2 := by
  unfold loseS; split
  · exact fun _ => rfl
  · intro hw
    simp only at hw
    rw [h hw]; simp

end Go.Proofs.YtojfihfdnchkeaaGreatDoor

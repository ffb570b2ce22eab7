import Derived.Test.YthlelcmifolnfaaGreatDoorWaXTo
import Derived.Test.YthlelcmifolnfaaGreatDoorBack0To
import Derived.BigQuiet
import Derived.WalkSmall
namespace Go.Proofs.YthlelcmifolnfaaGreatDoor
open Go.RowKit
set_option maxHeartbeats 400000 in
set_option maxRecDepth 10000 in
theorem len8_any (x : Int) (w : World) (h0 : 0 ≤ x) (h1 : x ≤ 255) :
    Calls Tryz.prog 257 #[.int .u8 x] w fun e w' => e = .returned (.int .i64 (Lib.bitLen x.toNat)) ∧ w' = w := by
  go_enter Tryz.func257, Tryz.ntmps257
  go_wp2
  go_ret
  refine ⟨ret_int ?_, rfl⟩
  have hb := Lib.bitLen_le8' x h0 h1
  rw [Lib.len8_of x h0 h1, IntWalk.wrap64_in _ ⟨by omega, by omega⟩]

set_option maxRecDepth 100000 in
set_option maxHeartbeats 400000 in
theorem lz8_any (x : Int) (w : World) (h0 : 0 ≤ x) (h1 : x ≤ 255) :
    Calls Tryz.prog 250 #[.int .u8 x] w fun e w' => e = .returned (.int .i64 (8 - (Lib.bitLen x.toNat : Int))) ∧ w' = w := by
  have hb := Lib.bitLen_le8' x h0 h1
  go_enter Tryz.func250, Tryz.ntmps250
  go_wp2_with (go_at_call 257; refine same_mono (len8_any _ _ (by omega) (by omega)) ?_)
  go_ret
  exact ⟨rfl, rfl⟩

set_option maxRecDepth 100000 in
set_option maxHeartbeats 1000000 in
theorem get_cod (v : Value) (xs : List Int) (w : World) (hv : Has w v xs) (hB : IsB xs) (hl : xs.length ≤ 1099511627776) :
    Calls Tryz.prog 230 #[v] w fun e w' => e = .returned (.tuple #[.int .u64 (getS xs).1, .int .i64 ((getS xs).2 : Nat)]) ∧ Below w.heap.size w w' := by
  obtain ⟨p, c, rfl, hc, hnone, hcell⟩ := hv
  clear hnone
  rcases Nat.eq_zero_or_pos xs.length with hn | hn
  · obtain rfl : xs = [] := List.eq_nil_of_length_eq_zero hn
    go_enter Tryz.func230, Tryz.ntmps230
    go_wp2
    go_ret2
    exact ⟨rfl, Below.refl _ _⟩
  · obtain ⟨b, o, rfl, hbl, hcl⟩ := hcell hn
    have hx := hB.getD 0
    have hc0 := hcl 0 hn
    rw [Nat.add_zero] at hc0
    have hk := lead_le (xs.getD 0 0)
    have HL := lead_len (xs.getD 0 0)
    have HS : Hid (getS xs = if xs.length ≤ lead (xs.getD 0 0) then (0, 0)
      else if lead (xs.getD 0 0) = more (gacc xs (lead (xs.getD 0 0)) (lead (xs.getD 0 0))).toNat then (gacc xs (lead (xs.getD 0 0)) (lead (xs.getD 0 0)), lead (xs.getD 0 0) + 1)
      else (0, 0)) := rfl
    have HG : ∀ k, Hid (gacc xs k 0 = g0 (xs.getD 0 0) k) := gacc_zero xs
    generalize xs.getD 0 0 = x at *
    generalize lead x = k at *
    have HLL : Hid ((8 : Int) - (Lib.bitLen (bits BinOp.xor .u8 IntKind.u8.max x).toNat : Int) = (k : Int)) := HL
    clear HL
    have hxb0 := bits_lo_u8 BinOp.xor IntKind.u8.max x
    have hxb1 := bits_hi_u8 BinOp.xor IntKind.u8.max x
    by_cases hlk : xs.length ≤ k
    · go_enter Tryz.func230, Tryz.ntmps230
      go_wp2_with (go_at_call 250; refine same_mono (lz8_any _ _ (by omega) (by omega)) ?_; rw [HLL.out])
      go_ret2
      rw [HS.out, if_pos hlk]
      exact ⟨rfl, Below.refl _ _⟩
    · have hg0 := bits_lo_u8 BinOp.and x (127 / 2 ^ k)
      have hg1 := bits_hi_u8 BinOp.and x (127 / 2 ^ k)
      have HA : ∀ j, j < k → Hid (gacc xs k (j + 1) = gs (gacc xs k j) (xs.getD (j + 1) 0)) := fun j hj => gacc_succ xs k j (by omega)
      have HAB := fun j => gacc_bd xs k j
      have hBj := fun j => hB.getD j
      clear hB hcell
      have hG0 : Hid (gacc xs k 0 = g0 x k) := HG k
      clear HG
      generalize gacc xs k = G at *
      by_cases hc1 : c = 1
      all_goals
        go_enter Tryz.func230, Tryz.ntmps230
        go_wp2_with (go_at_call 250; refine same_mono (lz8_any _ _ (by omega) (by omega)) ?_; rw [HLL.out])
        go_quiet (fail)
        go_wp2
        go_loopw [5, 32] (fun u i wr => ∃ j : Nat, j ≤ k ∧ i = .int .i64 j ∧ u = .int .u64 (G j) ∧ Below w.heap.size w wr) (fun _ i _ => k - (intOf i).toNat)
        case atStart => exact ⟨0, Nat.zero_le _, rfl, by rw [hG0.out]; rfl, below_drewN (Below.refl _ _) _⟩
        case round =>
          obtain ⟨j, hj, rfl, rfl, hbr⟩ := hrel
          by_cases hlt : j < k
          · first
              | (exfalso; omega)
              | (have h1 := (hbr.cell (p := ⟨b, o + (j + 1), none⟩) hbl).trans (hcl (j + 1) (by omega))
                 have e : o + (j + 1) = o + 1 + j := by omega
                 rw [e] at h1
                 have hb1 := hBj (j + 1)
                 have hGb := HAB j
                 have HAj := HA j hlt
                 clear hcl hBj HAB HA e
                 generalize xs.getD (j + 1) 0 = y at *
                 go_wp2
                 go_roundw
                 case rel => exact ⟨j + 1, by omega, by go_num, by rw [HAj.out]; rfl, hbr⟩
                 case measure => simp [intOf]; omega)
          · obtain rfl : j = k := by omega
            have hGb := HAB j
            by_cases hm : j = more (G j).toNat
            · have hmb : ((j : Int) != (more (G j).toNat : Int)) = false := by rw [← hm]; simp
              have HM : Hid (j = more (G j).toNat) := hm
              clear hm
              go_wp2_with (go_at_call 228; refine same_mono (tail_any _ _ (by omega) (by omega)) ?_)
              go_ret2
              rw [HS.out, if_neg hlk, if_pos HM.out]
              exact ⟨rfl, hbr⟩
            · have hmb : ((j : Int) != (more (G j).toNat : Int)) = true := by simp; omega
              go_wp2_with (go_at_call 228; refine same_mono (tail_any _ _ (by omega) (by omega)) ?_)
              go_ret2
              rw [HS.out, if_neg hlk, if_neg hm]
              exact ⟨rfl, hbr⟩
set_option maxRecDepth 100000 in
set_option maxHeartbeats 1000000 in
theorem getText_any (v : Value) (xs : List Int) (w : World) (hv : Has w v xs) (hB : IsB xs) (hl : xs.length ≤ 1099511627776) :
    Calls Tryz.prog 188 #[v] w fun e w' => e = .returned (.tuple #[.string (strOfNums (getTextS xs).1), .int .i64 ((getTextS xs).2 : Nat)]) ∧ Below w.heap.size w w' := by
  have hget := get_cod v xs w hv hB hl
  have hbd := getS_bd xs
  have HT : Hid (getTextS xs = if (getS xs).2 = 0 ∨ (xs.length : Int) - (getS xs).2 < (getS xs).1 then ([], 0) else ((xs.drop (getS xs).2).take (getS xs).1.toNat, (getS xs).2 + (getS xs).1.toNat)) := rfl
  obtain ⟨p, c, rfl, hc, hnone, hcell⟩ := id hv
  clear hnone
  generalize getS xs = g at *
  obtain ⟨u, n⟩ := g
  obtain ⟨h0, h1, h2, h3⟩ := hbd
  simp only at h0 h1 h2 h3 HT hget
  obtain ⟨U, rfl⟩ := Int.eq_ofNat_of_zero_le h0
  have HGt : Hid (Calls Tryz.prog 230 #[.slice p xs.length c] w fun e w' => e = .returned (.tuple #[.int .u64 (U : Int), .int .i64 (n : Nat)]) ∧ Below w.heap.size w w') := hget
  clear hget
  by_cases hn0 : n = 0
  · have HT0 : Hid (getTextS xs = ([], 0)) := by rw [Hid, HT.out, if_pos (Or.inl hn0)]
    clear HT
    subst hn0
    go_enter Tryz.func188, Tryz.ntmps188
    go_wp2_with (go_at_call 230; refine HGt.out.mono ?_; rintro e w1 ⟨rfl, hb1⟩)
    go_ret2
    rw [HT0.out]
    exact ⟨rfl, hb1⟩
  · have hnb : ((n : Int) == 0) = false := by simp; omega
    by_cases hlt : (xs.length : Int) - n < U
    · have HT0 : Hid (getTextS xs = ([], 0)) := by rw [Hid, HT.out, if_pos (Or.inr hlt)]
      clear HT
      go_enter Tryz.func188, Tryz.ntmps188
      go_wp2_with (go_at_call 230; refine HGt.out.mono ?_; rintro e w1 ⟨rfl, hb1⟩)
      go_ret2
      rw [HT0.out]
      exact ⟨rfl, hb1⟩
    · have HT0 : Hid (getTextS xs = ((xs.drop n).take U, n + U)) := by rw [Hid, HT.out, if_neg (by omega)]; rfl
      clear HT
      obtain ⟨b, o, rfl, hbl, _⟩ := hcell (by omega)
      clear hcell
      by_cases hcn : c = n
      · obtain rfl : U = 0 := by omega
        subst hcn
        have CV : Hid (∀ w1, (convert 25 9 (.slice (some ⟨b, o, none⟩) 0 0)).run Tryz.prog w1 = .ok (.string (strOfNums [])) w1) := fun w1 =>
          (Has.empty w1 (some ⟨b, o, none⟩) 0 (fun _ => rfl)).conv (P := Tryz.prog) 25 5 9 Tryz.underlying25 Tryz.underlying5 Tryz.underlying9
        go_enter Tryz.func188, Tryz.ntmps188
        go_wp2_with (go_at_call 230; refine HGt.out.mono ?_; rintro e w1 ⟨rfl, hb1⟩; have cv1 := CV.out w1)
        go_ret2
        rw [HT0.out]
        exact ⟨rfl, hb1⟩
      · have CV : Hid (∀ w1, Below w.heap.size w w1 → (convert 25 9 (.slice (some ⟨b, o + n, none⟩) U (c - n))).run Tryz.prog w1 = .ok (.string (strOfNums ((xs.drop n).take U))) w1) := fun w1 hb =>
          ((hv.below hb (Nat.le_refl _)).cutAt n U (by omega)).conv (P := Tryz.prog) 25 5 9 Tryz.underlying25 Tryz.underlying5 Tryz.underlying9
        go_enter Tryz.func188, Tryz.ntmps188
        go_wp2_with (go_at_call 230; refine HGt.out.mono ?_; rintro e w1 ⟨rfl, hb1⟩; have cv1 := CV.out w1 hb1)
        go_ret2
        rw [HT0.out]
        exact ⟨rfl, hb1⟩

def HasIn (w : World) (L : Nat) (v : Value) (xs : List Int) : Prop :=
  ∃ p c, v = .slice p xs.length c ∧ xs.length ≤ c ∧ (p = none → c = 0) ∧
    (0 < xs.length → ∃ b o, p = some ⟨b, o, none⟩ ∧ b < L ∧ ∀ i, i < xs.length → w.cell? ⟨b, o + i, none⟩ = some (.int .u8 (xs.getD i 0)))

theorem Has.inn {w : World} {v : Value} {xs : List Int} (h : Has w v xs) : HasIn w w.heap.size v xs := h
theorem HasIn.has {w : World} {L : Nat} {v : Value} {xs : List Int} (h : HasIn w L v xs) (hL : L ≤ w.heap.size) : Has w v xs := by
  obtain ⟨p, c, h1, h2, h3, h4⟩ := h
  refine ⟨p, c, h1, h2, h3, fun h0 => ?_⟩
  obtain ⟨b, o, hp, hb, hc⟩ := h4 h0
  exact ⟨b, o, hp, Nat.lt_of_lt_of_le hb hL, hc⟩
theorem HasIn.below {w w' : World} {L B : Nat} {v : Value} {xs : List Int} (h : HasIn w L v xs) (hb : Below B w w') (hB : L ≤ B) : HasIn w' L v xs := by
  obtain ⟨p, c, h1, h2, h3, h4⟩ := h
  refine ⟨p, c, h1, h2, h3, fun h0 => ?_⟩
  obtain ⟨b, o, hp, hlt, hc⟩ := h4 h0
  exact ⟨b, o, hp, hlt, fun i hi => (hb.cell (p := ⟨b, o + i, none⟩) (by exact Nat.lt_of_lt_of_le hlt hB)).trans (hc i hi)⟩
theorem HasIn.grown {w w' : World} {L r : Nat} {v : Value} {xs : List Int} (h : HasIn w L v xs) (hg : w.grownBy w' (some r)) (hr : L ≤ r) : HasIn w' L v xs := by
  obtain ⟨p, c, h1, h2, h3, h4⟩ := h
  refine ⟨p, c, h1, h2, h3, fun h0 => ?_⟩
  obtain ⟨b, o, hp, hlt, hc⟩ := h4 h0
  exact ⟨b, o, hp, hlt, fun i hi => hg.cell (hc i hi) (fun e => by have : b = r := Option.some.inj e; omega)⟩
theorem HasIn.nil (w : World) (L : Nat) : HasIn w L (.slice none 0 0) [] := ⟨none, 0, rfl, Nat.le_refl _, fun _ => rfl, fun h => absurd h (Nat.lt_irrefl 0)⟩

structure Rd (w : World) (rb L : Nat) (v : Value) (xs : List Int) (wrong : Bool) : Prop where
  lt : rb < w.heap.size
  le : L ≤ rb
  c0 : w.cell? ⟨rb, 0, none⟩ = some v
  c1 : w.cell? ⟨rb, 1, none⟩ = some (.bool wrong)
  f0 : w.frozen? ⟨rb, 0, none⟩ = false
  f1 : w.frozen? ⟨rb, 1, none⟩ = false
  has : HasIn w L v xs

theorem Rd.below {w w' : World} {rb L B : Nat} {v : Value} {xs : List Int} {wrong : Bool} (h : Rd w rb L v xs wrong) (hb : Below B w w') (hB : rb < B) : Rd w' rb L v xs wrong :=
  ⟨Nat.lt_of_lt_of_le h.lt hb.size, h.le, (hb.cell (p := ⟨rb, 0, none⟩) hB).trans h.c0, (hb.cell (p := ⟨rb, 1, none⟩) hB).trans h.c1, (hb.frozen (p := ⟨rb, 0, none⟩) hB).trans h.f0, (hb.frozen (p := ⟨rb, 1, none⟩) hB).trans h.f1, h.has.below hb (Nat.le_of_lt (Nat.lt_of_le_of_lt h.le hB))⟩

theorem grown_of_below {w w' : World} {B : Nat} (hb : Below B w w') (hB : w.heap.size ≤ B) (row : Option Nat) : w.grownBy w' row :=
  ⟨hb.os, hb.tape, hb.output, hb.size, fun k hk _ => hb.block k (Nat.lt_of_lt_of_le hk hB)⟩
theorem grown_trans {a b c : World} {row : Option Nat} (h : a.grownBy b row) (k : b.grownBy c row) : a.grownBy c row :=
  ⟨k.os.trans h.os, k.tape.trans h.tape, k.output.trans h.output, Nat.le_trans h.size k.size, fun i hi hr => (k.block i (Nat.lt_of_lt_of_le hi h.size) hr).trans (h.block i hi hr)⟩
theorem grown_set (w : World) (rb o : Nat) (v : Value) : w.grownBy (w.setCell ⟨rb, o, none⟩ v) (some rb) :=
  ⟨rfl, rfl, rfl, by simp [World.setCell], fun k _ hr => Below.heap_setCell _ _ _ _ (fun e => hr (congrArg some e))⟩

theorem Rd.setB {w : World} {rb L : Nat} {v v' : Value} {xs xs' : List Int} {wrong : Bool} (h : Rd w rb L v xs wrong) (hv : HasIn w L v' xs') : Rd (w.setCell ⟨rb, 0, none⟩ v') rb L v' xs' wrong :=
  ⟨by simpa [World.setCell] using h.lt, h.le, World.cell?_setCell_same _ _ _ h.c0, (World.cell?_setCell_other _ _ _ _ (by simp)).trans h.c1, by simpa using h.f0, by simpa using h.f1, hv.grown (grown_set w rb 0 v') h.le⟩
theorem Rd.setW {w : World} {rb L : Nat} {v : Value} {xs : List Int} {wrong : Bool} (h : Rd w rb L v xs wrong) (b : Bool) : Rd (w.setCell ⟨rb, 1, none⟩ (.bool b)) rb L v xs b :=
  ⟨by simpa [World.setCell] using h.lt, h.le, (World.cell?_setCell_other _ _ _ _ (by simp)).trans h.c0, World.cell?_setCell_same _ _ _ h.c1, by simpa using h.f0, by simpa using h.f1, h.has.grown (grown_set w rb 1 _) h.le⟩

set_option maxRecDepth 100000 in
set_option maxHeartbeats 1000000 in
theorem rest_any (w : World) (rb L : Nat) (v : Value) (xs : List Int) (wrong : Bool) (h : Rd w rb L v xs wrong) :
    Calls Tryz.prog 187 #[.pointer (some ⟨rb, 0, none⟩)] w fun e w' => e = .returned (if wrong then .slice none 0 0 else v) ∧ w' = w := by
  have c0 := h.c0
  have c1 := h.c1
  clear h
  cases wrong
  all_goals
    go_enter Tryz.func187, Tryz.ntmps187
    go_wp2
    go_ret
    exact ⟨rfl, rfl⟩

set_option maxRecDepth 100000 in
set_option maxHeartbeats 1000000 in
theorem lose_zero (w : World) (rb L : Nat) (v : Value) (xs : List Int) (wrong : Bool) (h : Rd w rb L v xs wrong) :
    Calls Tryz.prog 189 #[.pointer (some ⟨rb, 0, none⟩), .int .i64 0] w fun e w' => e = .returned (.tuple #[]) ∧ Rd w' rb L (.slice none 0 0) [] true ∧ w.grownBy w' (some rb) := by
  have c0 := h.c0
  have c1 := h.c1
  have f0 := h.f0
  have f1 := h.f1
  have H : Hid (Rd w rb L v xs wrong) := h
  clear h
  go_enter Tryz.func189, Tryz.ntmps189
  go_wp2
  go_end0
  exact ⟨rfl, (H.out.setB (HasIn.nil w L)).setW true, grown_trans (grown_set _ _ _ _) (grown_set _ _ _ _)⟩

set_option maxRecDepth 100000 in
set_option maxHeartbeats 1000000 in
theorem lose_some (w : World) (rb L n : Nat) (v : Value) (xs : List Int) (wrong : Bool) (h : Rd w rb L v xs wrong) (h0 : 0 < n) (hn : n ≤ xs.length) (hl : xs.length ≤ 1099511627776) :
    Calls Tryz.prog 189 #[.pointer (some ⟨rb, 0, none⟩), .int .i64 n] w fun e w' => e = .returned (.tuple #[]) ∧ (∃ v', Rd w' rb L v' (xs.drop n) wrong) ∧ w.grownBy w' (some rb) := by
  have c0 := h.c0
  have f0 := h.f0
  have H : Hid (Rd w rb L v xs wrong) := h
  obtain ⟨p, c, rfl, hc, hnone, hcell⟩ := h.has
  clear h hnone
  obtain ⟨b, o, rfl, hbl, hcl⟩ := hcell (by omega)
  have hnb : ((n : Int) == 0) = false := by simp; omega
  have hlen : (xs.drop n).length = xs.length - n := by simp
  by_cases hcn : c = n
  · have hz : (xs.drop n).length = 0 := by omega
    have hv' : HasIn w L (.slice (some ⟨b, o, none⟩) 0 0) (xs.drop n) := ⟨_, _, by rw [hz], by omega, (fun h => by cases h), fun h0 => by omega⟩
    have HV : Hid (HasIn w L (.slice (some ⟨b, o, none⟩) 0 0) (xs.drop n)) := hv'
    clear hv' hlen hcl hcell hz
    subst hcn
    go_enter Tryz.func189, Tryz.ntmps189
    go_wp2
    go_end0
    exact ⟨rfl, ⟨_, H.out.setB HV.out⟩, grown_set _ _ _ _⟩
  · have hv' : HasIn w L (.slice (some ⟨b, o + n, none⟩) (xs.length - n) (c - n)) (xs.drop n) := ⟨_, _, by rw [hlen], by omega, (fun h => by cases h), fun h0 => ⟨b, o + n, rfl, hbl, fun i hi => by
      rw [Nat.add_assoc, hcl (n + i) (by omega)]
      simp⟩⟩
    have HV : Hid (HasIn w L (.slice (some ⟨b, o + n, none⟩) (xs.length - n) (c - n)) (xs.drop n)) := hv'
    clear hv' hlen hcl hcell
    go_enter Tryz.func189, Tryz.ntmps189
    go_wp2
    go_end0
    exact ⟨rfl, ⟨_, H.out.setB HV.out⟩, grown_set _ _ _ _⟩

def loseS (xs : List Int) (wrong : Bool) (n : Nat) : List Int × Bool := if n = 0 then ([], true) else (xs.drop n, wrong)
def srcS (xs : List Int) (wrong : Bool) : List Int := if wrong then [] else xs

theorem lose_any (w : World) (rb L n : Nat) (v : Value) (xs : List Int) (wrong : Bool) (h : Rd w rb L v xs wrong) (hn : n ≤ xs.length) (hl : xs.length ≤ 1099511627776) :
    Calls Tryz.prog 189 #[.pointer (some ⟨rb, 0, none⟩), .int .i64 n] w fun e w' => e = .returned (.tuple #[]) ∧ (∃ v', Rd w' rb L v' (loseS xs wrong n).1 (loseS xs wrong n).2) ∧ w.grownBy w' (some rb) := by
  rcases Nat.eq_zero_or_pos n with rfl | h0
  · exact (lose_zero w rb L v xs wrong h).mono fun e w' ⟨h1, h2, h3⟩ => ⟨h1, ⟨_, h2⟩, h3⟩
  · refine (lose_some w rb L n v xs wrong h h0 hn hl).mono fun e w' ⟨h1, h2, h3⟩ => ⟨h1, ?_, h3⟩
    simp only [loseS, if_neg (Nat.ne_of_gt h0)]
    exact h2

set_option maxRecDepth 100000 in
set_option maxHeartbeats 1000000 in
theorem next_num_any (w : World) (rb L : Nat) (v b : Value) (xs ys : List Int) (wrong : Bool) (h : Rd w rb L v xs wrong) (hb : HasIn w L b ys) (hB : IsB ys) (hy : ys.length ≤ xs.length) (hl : xs.length ≤ 1099511627776) :
    Calls Tryz.prog 229 #[b, .func (.func 230) #[] #[], .func (.func 189) #[.pointer (some ⟨rb, 0, none⟩)] #[]] w fun e w' =>
      e = .returned (.int .u64 (getS ys).1) ∧ (∃ v', Rd w' rb L v' (loseS xs wrong (getS ys).2).1 (loseS xs wrong (getS ys).2).2) ∧ w.grownBy w' (some rb) := by
  have hbd := getS_bd ys
  have hL := Nat.le_of_lt (Nat.lt_of_le_of_lt h.le h.lt)
  have H : Hid (Rd w rb L v xs wrong) := h
  have hlt := h.lt
  clear h
  go_enter Tryz.func229, Tryz.ntmps229
  go_wp2_with (first
    | (go_at_call 230; refine (get_cod _ ys _ (hb.has hL) hB (by omega)).mono ?_; rintro e w1 ⟨rfl, hb1⟩)
    | (go_at_call 189; refine (lose_any _ rb L _ v xs wrong (H.out.below hb1 hlt) (by omega) hl).mono ?_; rintro e w2 ⟨rfl, hr2, hg2⟩))
  go_ret
  exact ⟨rfl, hr2, grown_trans (grown_of_below hb1 (Nat.le_refl _) _) hg2⟩
theorem srcS_isB {xs : List Int} (h : IsB xs) (wrong : Bool) : IsB (srcS xs wrong) := by cases wrong <;> simp [srcS, IsB.nil, h]
theorem srcS_length (xs : List Int) (wrong : Bool) : (srcS xs wrong).length ≤ xs.length := by cases wrong <;> simp [srcS]
theorem Rd.src {w : World} {rb L : Nat} {v : Value} {xs : List Int} {wrong : Bool} (h : Rd w rb L v xs wrong) : HasIn w L (if wrong then .slice none 0 0 else v) (srcS xs wrong) := by
  cases wrong
  · exact h.has
  · exact HasIn.nil w L
theorem loseS_isB {xs : List Int} (h : IsB xs) (wrong : Bool) (n : Nat) : IsB (loseS xs wrong n).1 := by
  unfold loseS; split
  · exact IsB.nil
  · exact fun x hx => h x (List.mem_of_mem_drop hx)
theorem loseS_length (xs : List Int) (wrong : Bool) (n : Nat) : (loseS xs wrong n).1.length ≤ xs.length := by
  unfold loseS; split <;> simp

theorem rest_src {Q : Ending → World → Prop} (w : World) (rb L : Nat) (v : Value) (xs : List Int) (wrong : Bool) (h : Rd w rb L v xs wrong) (hQ : ∀ b, HasIn w L b (srcS xs wrong) → Q (.returned b) w) :
    Calls Tryz.prog 187 #[.pointer (some ⟨rb, 0, none⟩)] w Q :=
  (rest_any w rb L v xs wrong h).mono fun e w' ⟨h1, h2⟩ => by subst h1; subst h2; exact hQ _ h.src

def countS (m : Int) (ys : List Int) : Int × Nat := if m < 0 ∨ m < (getS ys).1 then (0, 0) else getS ys
theorem countS_bd (m : Int) (ys : List Int) : (countS m ys).2 ≤ ys.length := by
  have := getS_bd ys
  unfold countS; split <;> simp_all

set_option maxRecDepth 100000 in
set_option maxHeartbeats 1000000 in
theorem upTo1_any (m : Int) (bx : Nat) (b : Value) (ys : List Int) (w : World) (hc : w.cell? ⟨bx, 0, none⟩ = some (.int .i64 m)) (hbx : bx < w.heap.size) (hv : Has w b ys) (hB : IsB ys) (hy : ys.length ≤ 1099511627776) (hm : m ≤ 9223372036854775807) :
    Calls Tryz.prog 258 #[b, .pointer (some ⟨bx, 0, none⟩)] w fun e w' => e = .returned (.tuple #[.int .i64 (countS m ys).1, .int .i64 ((countS m ys).2 : Nat)]) ∧ Below w.heap.size w w' := by
  have HG : Hid (Calls Tryz.prog 230 #[b] w fun e w' => e = .returned (.tuple #[.int .u64 (getS ys).1, .int .i64 ((getS ys).2 : Nat)]) ∧ Below w.heap.size w w') := get_cod b ys w hv hB hy
  have hbd := getS_bd ys
  have HT : Hid (countS m ys = if m < 0 ∨ m < (getS ys).1 then (0, 0) else getS ys) := rfl
  generalize getS ys = g at *
  obtain ⟨u, n⟩ := g
  obtain ⟨h0, h1, h2, h3⟩ := hbd
  simp only at h0 h1 h2 h3
  have HG2 : Hid (Calls Tryz.prog 230 #[b] w fun e w' => e = .returned (.tuple #[.int .u64 u, .int .i64 (n : Nat)]) ∧ Below w.heap.size w w') := HG
  clear HG
  by_cases hm0 : m < 0
  · have HT0 : Hid (countS m ys = (0, 0)) := by rw [Hid, HT.out, if_pos (Or.inl hm0)]
    clear HT
    go_enter Tryz.func258, Tryz.ntmps258
    go_wp2_with (go_at_call 230; refine HG2.out.mono ?_; rintro e w1 ⟨rfl, hb1⟩; have hc1 := (hb1.cell (p := ⟨bx, 0, none⟩) hbx).trans hc)
    go_ret2
    rw [HT0.out]
    exact ⟨rfl, hb1⟩
  · by_cases hmu : m < u
    · have HT0 : Hid (countS m ys = (0, 0)) := by rw [Hid, HT.out, if_pos (Or.inr hmu)]
      clear HT
      go_enter Tryz.func258, Tryz.ntmps258
      go_wp2_with (go_at_call 230; refine HG2.out.mono ?_; rintro e w1 ⟨rfl, hb1⟩; have hc1 := (hb1.cell (p := ⟨bx, 0, none⟩) hbx).trans hc)
      go_ret2
      rw [HT0.out]
      exact ⟨rfl, hb1⟩
    · have HT0 : Hid (countS m ys = (u, n)) := by rw [Hid, HT.out, if_neg (by omega)]
      clear HT
      go_enter Tryz.func258, Tryz.ntmps258
      go_wp2_with (go_at_call 230; refine HG2.out.mono ?_; rintro e w1 ⟨rfl, hb1⟩; have hc1 := (hb1.cell (p := ⟨bx, 0, none⟩) hbx).trans hc)
      go_ret2
      rw [HT0.out]
      exact ⟨rfl, hb1⟩

set_option maxRecDepth 100000 in
set_option maxHeartbeats 1000000 in
theorem next_text_any (w : World) (rb L : Nat) (v b : Value) (xs ys : List Int) (wrong : Bool) (h : Rd w rb L v xs wrong) (hb : HasIn w L b ys) (hB : IsB ys) (hy : ys.length ≤ xs.length) (hl : xs.length ≤ 1099511627776) :
    Calls Tryz.prog 186 #[b, .func (.func 188) #[] #[], .func (.func 189) #[.pointer (some ⟨rb, 0, none⟩)] #[]] w fun e w' =>
      e = .returned (.string (strOfNums (getTextS ys).1)) ∧ (∃ v', Rd w' rb L v' (loseS xs wrong (getTextS ys).2).1 (loseS xs wrong (getTextS ys).2).2) ∧ w.grownBy w' (some rb) := by
  have hbd := getTextS_bd ys
  have hL := Nat.le_of_lt (Nat.lt_of_le_of_lt h.le h.lt)
  have H : Hid (Rd w rb L v xs wrong) := h
  have hlt := h.lt
  clear h
  go_enter Tryz.func186, Tryz.ntmps186
  go_wp2_with (first
    | (go_at_call 188; refine (getText_any _ ys _ (hb.has hL) hB (by omega)).mono ?_; rintro e w1 ⟨rfl, hb1⟩)
    | (go_at_call 189; refine (lose_any _ rb L _ v xs wrong (H.out.below hb1 hlt) (by omega) hl).mono ?_; rintro e w2 ⟨rfl, hr2, hg2⟩))
  go_ret
  exact ⟨rfl, hr2, grown_trans (grown_of_below hb1 (Nat.le_refl _) _) hg2⟩

set_option maxRecDepth 100000 in
set_option maxHeartbeats 1000000 in
theorem num_any (w : World) (rb L : Nat) (v : Value) (xs : List Int) (wrong : Bool) (h : Rd w rb L v xs wrong) (hB : IsB xs) (hl : xs.length ≤ 1099511627776) :
    Calls Tryz.prog 184 #[.pointer (some ⟨rb, 0, none⟩)] w fun e w' =>
      e = .returned (.int .u64 (getS (srcS xs wrong)).1) ∧ (∃ v', Rd w' rb L v' (loseS xs wrong (getS (srcS xs wrong)).2).1 (loseS xs wrong (getS (srcS xs wrong)).2).2) ∧ w.grownBy w' (some rb) := by
  go_enter Tryz.func184, Tryz.ntmps184
  go_wp2_with (first
    | (go_at_call 187; refine rest_src _ rb L v xs wrong h ?_; intro b0 hb0)
    | (go_at_call 229; refine (next_num_any _ rb L v _ xs (srcS xs wrong) wrong h hb0 (srcS_isB hB _) (srcS_length _ _) hl).mono ?_; rintro e w1 ⟨rfl, hr1, hg1⟩))
  go_ret
  exact ⟨rfl, hr1, hg1⟩

set_option maxRecDepth 100000 in
set_option maxHeartbeats 1000000 in
theorem text_any (w : World) (rb L : Nat) (v : Value) (xs : List Int) (wrong : Bool) (h : Rd w rb L v xs wrong) (hB : IsB xs) (hl : xs.length ≤ 1099511627776) :
    Calls Tryz.prog 155 #[.pointer (some ⟨rb, 0, none⟩)] w fun e w' =>
      e = .returned (.string (strOfNums (getTextS (srcS xs wrong)).1)) ∧ (∃ v', Rd w' rb L v' (loseS xs wrong (getTextS (srcS xs wrong)).2).1 (loseS xs wrong (getTextS (srcS xs wrong)).2).2) ∧ w.grownBy w' (some rb) := by
  go_enter Tryz.func155, Tryz.ntmps155
  go_wp2_with (first
    | (go_at_call 187; refine rest_src _ rb L v xs wrong h ?_; intro b0 hb0)
    | (go_at_call 186; refine (next_text_any _ rb L v _ xs (srcS xs wrong) wrong h hb0 (srcS_isB hB _) (srcS_length _ _) hl).mono ?_; rintro e w1 ⟨rfl, hr1, hg1⟩))
  go_ret
  exact ⟨rfl, hr1, hg1⟩

set_option maxRecDepth 100000 in
set_option maxHeartbeats 1000000 in
theorem int_any (w : World) (rb L : Nat) (v : Value) (xs : List Int) (wrong : Bool) (h : Rd w rb L v xs wrong) (hB : IsB xs) (hl : xs.length ≤ 1099511627776) :
    Calls Tryz.prog 153 #[.pointer (some ⟨rb, 0, none⟩)] w fun e w' =>
      e = .returned (.int .i64 (zagS (getS (srcS xs wrong)).1)) ∧ (∃ v', Rd w' rb L v' (loseS xs wrong (getS (srcS xs wrong)).2).1 (loseS xs wrong (getS (srcS xs wrong)).2).2) ∧ w.grownBy w' (some rb) := by
  go_enter Tryz.func153, Tryz.ntmps153
  go_wp2_with (first
    | (go_at_call 184; refine (num_any _ rb L v xs wrong h hB hl).mono ?_; rintro e w1 ⟨rfl, hr1, hg1⟩)
    | (go_at_call 183; refine same_mono (zag_any _ _) ?_))
  go_ret
  exact ⟨rfl, hr1, hg1⟩

set_option maxRecDepth 100000 in
set_option maxHeartbeats 1000000 in
theorem end_any (w : World) (rb L : Nat) (v : Value) (xs : List Int) (wrong : Bool) (h : Rd w rb L v xs wrong) :
    Calls Tryz.prog 152 #[.pointer (some ⟨rb, 0, none⟩)] w fun e w' => e = .returned (.bool (xs.isEmpty && !wrong)) ∧ w' = w := by
  have c0 := h.c0
  have c1 := h.c1
  obtain ⟨p, c, rfl, _, _, _⟩ := h.has
  clear h
  have hb : ((xs.length : Int) == 0) = xs.isEmpty := by
    cases xs with
    | nil => rfl
    | cons a l => simp; omega
  generalize xs.isEmpty = emp at *
  generalize xs.length = n at *
  have HB : Hid (((n : Int) == 0) = emp) := hb
  cases wrong <;> cases emp
  all_goals
    have hb1 := HB.out
    clear HB hb
    go_enter Tryz.func152, Tryz.ntmps152
    go_wp2
    go_ret
    exact ⟨rfl, rfl⟩
theorem more_low (u : Nat) (j : Nat) (h : j < more u) : 2 ^ (7 * (j + 1)) ≤ u := by
  have h1 : more u = 0 ∨ 2 ^ (7 * more u) ≤ u := by
    unfold more
    repeat' split
    all_goals simp
    all_goals omega
  rcases h1 with h1 | h1
  · omega
  · exact Nat.le_trans (Nat.pow_le_pow_right (by decide) (by omega)) h1
set_option maxHeartbeats 1000000 in
set_option maxRecDepth 10000 in
theorem rmore_any (u : Int) (w : World) (h0 : 0 ≤ u) (h1 : u < 18446744073709551616) :
    Calls Tryz.prog 111 #[.int .u64 u] w fun e w' => e = .returned (.int .i64 (more u.toNat : Nat)) ∧ w' = w := by
  obtain ⟨U, rfl⟩ := Int.eq_ofNat_of_zero_le h0
  have hU : U < 18446744073709551616 := by omega
  have hk := more_le U
  have hlo := fun j => more_low U j
  have hhi := (more_lt U hU).1
  rw [Int.toNat_natCast]
  generalize more U = k at *
  clear h0 h1 hU
  go_enter Tryz.func111, Tryz.ntmps111
  go_wp2
  go_loop [3] (fun t => ∃ j : Nat, j ≤ k ∧ t = .int .i64 j) (fun t => 9 - (intOf t).toNat)
  case atStart => exact ⟨0, Nat.zero_le _, rfl⟩
  case round =>
    obtain ⟨j, hj, rfl⟩ := hrel
    have hj8 : j = 0 ∨ j = 1 ∨ j = 2 ∨ j = 3 ∨ j = 4 ∨ j = 5 ∨ j = 6 ∨ j = 7 ∨ j = 8 := by omega
    rcases hj8 with rfl | rfl | rfl | rfl | rfl | rfl | rfl | rfl | rfl
    · by_cases hlt : 0 < k
      · have h2 : ¬ (U : Int) < (128 : Int) := by have := hlo 0 hlt; omega
        clear hlo hhi
        go_wp2
        go_round
        case rel => exact ⟨1, hlt, by go_num⟩
        case measure => simp [intOf]
      · obtain rfl : k = 0 := by omega
        have h2 : (U : Int) < (128 : Int) := by have := hhi (by omega); omega
        clear hlo hhi
        go_wp2
        go_ret
        exact ⟨rfl, rfl⟩
    · by_cases hlt : 1 < k
      · have h2 : ¬ (U : Int) < (16384 : Int) := by have := hlo 1 hlt; omega
        clear hlo hhi
        go_wp2
        go_round
        case rel => exact ⟨2, hlt, by go_num⟩
        case measure => simp [intOf]
      · obtain rfl : k = 1 := by omega
        have h2 : (U : Int) < (16384 : Int) := by have := hhi (by omega); omega
        clear hlo hhi
        go_wp2
        go_ret
        exact ⟨rfl, rfl⟩
    · by_cases hlt : 2 < k
      · have h2 : ¬ (U : Int) < (2097152 : Int) := by have := hlo 2 hlt; omega
        clear hlo hhi
        go_wp2
        go_round
        case rel => exact ⟨3, hlt, by go_num⟩
        case measure => simp [intOf]
      · obtain rfl : k = 2 := by omega
        have h2 : (U : Int) < (2097152 : Int) := by have := hhi (by omega); omega
        clear hlo hhi
        go_wp2
        go_ret
        exact ⟨rfl, rfl⟩
    · by_cases hlt : 3 < k
      · have h2 : ¬ (U : Int) < (268435456 : Int) := by have := hlo 3 hlt; omega
        clear hlo hhi
        go_wp2
        go_round
        case rel => exact ⟨4, hlt, by go_num⟩
        case measure => simp [intOf]
      · obtain rfl : k = 3 := by omega
        have h2 : (U : Int) < (268435456 : Int) := by have := hhi (by omega); omega
        clear hlo hhi
        go_wp2
        go_ret
        exact ⟨rfl, rfl⟩
    · by_cases hlt : 4 < k
      · have h2 : ¬ (U : Int) < (34359738368 : Int) := by have := hlo 4 hlt; omega
        clear hlo hhi
        go_wp2
        go_round
        case rel => exact ⟨5, hlt, by go_num⟩
        case measure => simp [intOf]
      · obtain rfl : k = 4 := by omega
        have h2 : (U : Int) < (34359738368 : Int) := by have := hhi (by omega); omega
        clear hlo hhi
        go_wp2
        go_ret
        exact ⟨rfl, rfl⟩
    · by_cases hlt : 5 < k
      · have h2 : ¬ (U : Int) < (4398046511104 : Int) := by have := hlo 5 hlt; omega
        clear hlo hhi
        go_wp2
        go_round
        case rel => exact ⟨6, hlt, by go_num⟩
        case measure => simp [intOf]
      · obtain rfl : k = 5 := by omega
        have h2 : (U : Int) < (4398046511104 : Int) := by have := hhi (by omega); omega
        clear hlo hhi
        go_wp2
        go_ret
        exact ⟨rfl, rfl⟩
    · by_cases hlt : 6 < k
      · have h2 : ¬ (U : Int) < (562949953421312 : Int) := by have := hlo 6 hlt; omega
        clear hlo hhi
        go_wp2
        go_round
        case rel => exact ⟨7, hlt, by go_num⟩
        case measure => simp [intOf]
      · obtain rfl : k = 6 := by omega
        have h2 : (U : Int) < (562949953421312 : Int) := by have := hhi (by omega); omega
        clear hlo hhi
        go_wp2
        go_ret
        exact ⟨rfl, rfl⟩
    · by_cases hlt : 7 < k
      · have h2 : ¬ (U : Int) < (72057594037927936 : Int) := by have := hlo 7 hlt; omega
        clear hlo hhi
        go_wp2
        go_round
        case rel => exact ⟨8, hlt, by go_num⟩
        case measure => simp [intOf]
      · obtain rfl : k = 7 := by omega
        have h2 : (U : Int) < (72057594037927936 : Int) := by have := hhi (by omega); omega
        clear hlo hhi
        go_wp2
        go_ret
        exact ⟨rfl, rfl⟩
    · obtain rfl : k = 8 := by omega
      clear hlo hhi
      go_wp2
      go_ret
      exact ⟨rfl, rfl⟩

def onesT : Nat → Int
  | 0 => 0
  | j + 1 => bits BinOp.or .u8 (onesT j) (128 / 2 ^ j)
theorem ones_eq : ∀ k : Fin 9, onesT k.val = bits BinOp.xor .u8 IntKind.u8.max (255 / 2 ^ k.val) := by decide +kernel
theorem ones_bd : ∀ k : Nat, 0 ≤ onesT k ∧ onesT k ≤ 255
  | 0 => by simp [onesT]
  | _ + 1 => ⟨bits_lo_u8 _ _ _, bits_hi_u8 _ _ _⟩
theorem fb_ones (u : Int) (k : Nat) (hk : k ≤ 8) : bits BinOp.or .u8 (onesT k) (u / 2 ^ (8 * k) % 256) = fb u k := by
  have := ones_eq ⟨k, by omega⟩
  simp only at this
  rw [this]
  rfl
theorem fb_eight (u : Int) (h0 : 0 ≤ u) (h1 : u < 18446744073709551616) : onesT 8 = fb u 8 := by
  unfold fb
  rw [show u / 2 ^ (8 * 8) % 256 = 0 by omega]
  decide +kernel

theorem range_step2 (xs : List Int) (a : Int) (f : Nat → Int) (j : Nat) : (xs ++ a :: (List.range j).map f) ++ [f j] = xs ++ a :: (List.range (j + 1)).map f := by
  simp [List.range_succ]

set_option maxRecDepth 100000 in
set_option maxHeartbeats 1000000 in
theorem rput_cod (v : Value) (xs : List Int) (u : Int) (w : World) (hv : Has w v xs) (hl : xs.length ≤ 1099511620000) (h0 : 0 ≤ u) (h1 : u < 18446744073709551616) :
    Calls Tryz.prog 47 #[v, .int .u64 u] w fun e w' => ∃ v', e = .returned v' ∧ Owns w' w.heap.size 5 v' (xs ++ numB u) ∧ Below w.heap.size w w' := by
  obtain ⟨i0, hi, hz0, hz1, hz2⟩ := info_parts info8c
  have hk := more_le u.toNat
  have HF := fun k hk => fb_ones u k hk
  have HE : Hid (onesT 8 = fb u 8) := fb_eight u h0 h1
  have HOB := ones_bd
  have HO0 : Hid (onesT 0 = 0) := rfl
  have HOS : ∀ j, Hid (onesT (j + 1) = bits BinOp.or .u8 (onesT j) (128 / 2 ^ j)) := fun _ => rfl
  unfold numB
  generalize onesT = O at *
  generalize hkk : more u.toNat = k at *
  have HK : Hid (more u.toNat = k) := hkk
  clear hkk
  have HFk : Hid (bits BinOp.or .u8 (O k) (u / 2 ^ (8 * k) % 256) = fb u k) := HF k hk
  clear HF
  go_enter Tryz.func47, Tryz.ntmps47
  go_wp2_with (first
    | (at_builtin; refine ap_slice _ rfl (.tmp 10) (.tmp 11) 25 rfl w.heap.size 5 i0 Tryz.underlying25 hi hz0 hz1 hz2 _ [] xs rfl (by exact hv.below ((Below.refl w.heap.size w).alloc (Nat.le_refl _) _) (Nat.le_refl _)) (by exact Owns.empty w w.heap.size _ (Nat.le_refl _)) (by simp) (by omega) (by simp) ?_; intro v1 w1 ho1 hb1; rw [List.nil_append] at ho1)
    | (go_at_call 111; refine same_mono (rmore_any _ _ h0 h1) ?_; rw [HK.out]))
  have hb01 : Below w.heap.size w w1 := ((Below.refl w.heap.size w).alloc (Nat.le_refl _) _).trans hb1
  clear hb1
  go_loop [7, 8] (fun t i => ∃ j : Nat, j ≤ k ∧ i = .int .i64 j ∧ t = .int .u8 (O j)) (fun _ i => k - (intOf i).toNat)
  case atStart => exact ⟨0, Nat.zero_le _, rfl, by rw [HO0.out]⟩
  case round =>
    obtain ⟨j, hj, rfl, rfl⟩ := hrel
    have hob := HOB j
    have HOj := HOS j
    clear HOB HOS
    by_cases hlt : j < k
    · go_wp2
      go_round
      case rel => exact ⟨j + 1, by omega, by go_num, by rw [HOj.out]⟩
      case measure => simp [intOf]; omega
    · obtain rfl : j = k := by omega
      by_cases h8 : j < 8
      · go_wp2_with (at_builtin; refine ap_one _ rfl (.tmp 35) (.tmp 37) 25 rfl w.heap.size 5 i0 Tryz.underlying25 hi hz0 hz1 hz2 _ xs _ rfl rfl (by exact ho1) (by omega) hb01.size ?_; intro v2 w2 ho2 hb2)
        rw [HFk.out] at ho2
        have hb02 : Below w.heap.size w w2 := hb01.trans hb2
        clear ho1 hb2 hb01
        go_loopw [5, 9] (fun vv i wr => ∃ m : Nat, m ≤ j ∧ i = .int .i64 ((j : Int) - 1 - m) ∧ Owns wr w.heap.size 5 vv (xs ++ fb u j :: (List.range m).map (bt u j)) ∧ Below w.heap.size w wr) (fun _ i _ => (intOf i + 1).toNat)
        case atStart => exact ⟨0, Nat.zero_le _, by go_num, ho2, hb02⟩
        case round =>
          obtain ⟨m, hm, rfl, hr, hbr⟩ := hrel
          by_cases hlt2 : m < j
          · have e9 : ((j : Int) - 1 - (m : Int)) = ((j - 1 - m : Nat) : Int) := by omega
            have E9 : Hid (((j : Int) - 1 - (m : Int)) = ((j - 1 - m : Nat) : Int)) := e9
            rw [e9]
            clear e9
            go_wp2_with (at_builtin; refine ap_one _ rfl (.tmp 45) (.tmp 52) 25 rfl w.heap.size 5 i0 Tryz.underlying25 hi hz0 hz1 hz2 _ _ (bt u j m) rfl rfl (by exact hr) (by simp; omega) hbr.size ?_; intro v3 w3 ho3 hb3)
            go_roundw
            case rel => exact ⟨m + 1, by omega, by go_num, by rw [← range_step2]; exact ho3, hbr.trans hb3⟩
            case measure => (simp [intOf]; try omega)
          · obtain rfl : m = j := by omega
            go_wp2
            go_ret
            exact ⟨_, rfl, hr, hbr⟩
      · obtain rfl : j = 8 := by omega
        go_wp2_with (at_builtin; refine ap_one _ rfl (.tmp 35) (.tmp 37) 25 rfl w.heap.size 5 i0 Tryz.underlying25 hi hz0 hz1 hz2 _ xs _ rfl rfl (by exact ho1) (by omega) hb01.size ?_; intro v2 w2 ho2 hb2)
        rw [HE.out] at ho2
        have hb02 : Below w.heap.size w w2 := hb01.trans hb2
        clear ho1 hb2 hb01
        go_loopw [5, 9] (fun vv i wr => ∃ m : Nat, m ≤ 8 ∧ i = .int .i64 (((8 : Nat) : Int) - 1 - m) ∧ Owns wr w.heap.size 5 vv (xs ++ fb u 8 :: (List.range m).map (bt u 8)) ∧ Below w.heap.size w wr) (fun _ i _ => (intOf i + 1).toNat)
        case atStart => exact ⟨0, Nat.zero_le _, by go_num, ho2, hb02⟩
        case round =>
          obtain ⟨m, hm, rfl, hr, hbr⟩ := hrel
          by_cases hlt2 : m < 8
          · have e9 : (((8 : Nat) : Int) - 1 - (m : Int)) = ((8 - 1 - m : Nat) : Int) := by omega
            have E9 : Hid ((((8 : Nat) : Int) - 1 - (m : Int)) = ((8 - 1 - m : Nat) : Int)) := e9
            rw [e9]
            clear e9
            go_wp2_with (at_builtin; refine ap_one _ rfl (.tmp 45) (.tmp 52) 25 rfl w.heap.size 5 i0 Tryz.underlying25 hi hz0 hz1 hz2 _ _ (bt u 8 m) rfl rfl (by exact hr) (by simp; omega) hbr.size ?_; intro v3 w3 ho3 hb3)
            go_roundw
            case rel => exact ⟨m + 1, by omega, by go_num, by rw [← range_step2]; exact ho3, hbr.trans hb3⟩
            case measure => (simp [intOf]; try omega)
          · obtain rfl : m = 8 := by omega
            go_wp2
            go_ret
            exact ⟨_, rfl, hr, hbr⟩
theorem or_comm64 (a b : Int) : bits BinOp.or .u64 a b = bits BinOp.or .u64 b a := by
  unfold bits
  simp only [BitVec.or_comm]

set_option maxRecDepth 100000 in
set_option maxHeartbeats 1000000 in
theorem rzig_any (n : Int) (w : World) :
    Calls Tryz.prog 48 #[.int .i64 n] w fun e w' => e = .returned (.int .u64 (zigS n)) ∧ w' = w := by
  go_enter Tryz.func48, Tryz.ntmps48
  go_wp2
  go_ret
  exact ⟨rfl, rfl⟩

set_option maxRecDepth 100000 in
set_option maxHeartbeats 1000000 in
theorem rzag_any (u : Int) (w : World) :
    Calls Tryz.prog 191 #[.int .u64 u] w fun e w' => e = .returned (.int .i64 (zagS u)) ∧ w' = w := by
  go_enter Tryz.func191, Tryz.ntmps191
  go_wp2
  go_ret
  exact ⟨ret_int (by rw [zagS, rotR, or_comm64]), rfl⟩

theorem lead_bit : ∀ x : Fin 256, ∀ j : Fin 8, j.val ≤ lead x.val → (bits BinOp.and .u8 ((x.val : Int) / 2 ^ (7 - j.val)) 1 == 1) = decide (j.val < lead x.val) := by decide +kernel
theorem g0_seven : ∀ x : Fin 256, ∀ k : Fin 9, 7 ≤ k.val → g0 x.val k.val = 0 := by decide +kernel

set_option maxRecDepth 100000 in
set_option maxHeartbeats 2000000 in
theorem rget_cod (v : Value) (xs : List Int) (w : World) (hv : Has w v xs) (hB : IsB xs) (hl : xs.length ≤ 1099511627776) :
    Calls Tryz.prog 232 #[v] w fun e w' => e = .returned (.tuple #[.int .u64 (getS xs).1, .int .i64 ((getS xs).2 : Nat)]) ∧ w' = w := by
  obtain ⟨p, c, rfl, hc, hnone, hcell⟩ := hv
  clear hnone
  rcases Nat.eq_zero_or_pos xs.length with hn | hn
  · obtain rfl : xs = [] := List.eq_nil_of_length_eq_zero hn
    go_enter Tryz.func232, Tryz.ntmps232
    go_wp2
    go_ret2
    exact ⟨rfl, rfl⟩
  · obtain ⟨b, o, rfl, hbl, hcl⟩ := hcell hn
    have hx := hB.getD 0
    have hc0 := hcl 0 hn
    rw [Nat.add_zero] at hc0
    have hne : ¬ xs = [] := fun h => by rw [h] at hn; simp at hn
    have hnb : ((xs.length : Int) == 0) = false := by rw [beq_eq_false_iff_ne]; omega
    have hk := lead_le (xs.getD 0 0)
    have HS : Hid (getS xs = if xs.length ≤ lead (xs.getD 0 0) then (0, 0)
      else if lead (xs.getD 0 0) = more (gacc xs (lead (xs.getD 0 0)) (lead (xs.getD 0 0))).toNat then (gacc xs (lead (xs.getD 0 0)) (lead (xs.getD 0 0)), lead (xs.getD 0 0) + 1)
      else (0, 0)) := rfl
    have HG : ∀ k, Hid (gacc xs k 0 = g0 (xs.getD 0 0) k) := gacc_zero xs
    have LB : Hid (∀ j, j < 8 → j ≤ lead (xs.getD 0 0) → (bits BinOp.and .u8 ((xs.getD 0 0) / 2 ^ (7 - j)) 1 == 1) = decide (j < lead (xs.getD 0 0))) := fun j hj h => by
      obtain ⟨n, hn'⟩ := Int.eq_ofNat_of_zero_le hx.1
      rw [hn'] at h hx ⊢
      exact lead_bit ⟨n, by omega⟩ ⟨j, hj⟩ h
    have G7 : Hid (∀ k, k ≤ 8 → 7 ≤ k → g0 (xs.getD 0 0) k = 0) := fun k hk h => by
      obtain ⟨n, hn'⟩ := Int.eq_ofNat_of_zero_le hx.1
      rw [hn'] at hx ⊢
      exact g0_seven ⟨n, by omega⟩ ⟨k, by omega⟩ h
    have HAS := gacc_succ xs
    have HAB := gacc_bd xs
    have hBj := fun j => hB.getD j
    generalize xs.getD 0 0 = x at *
    generalize hlx : lead x = k at *
    have HLX : Hid (lead x = k) := hlx
    clear hlx hB hcell
    have hg0 := g0_bd x k
    have hG0 : Hid (gacc xs k 0 = g0 x k) := HG k
    have HA : ∀ j, j + 1 < xs.length → Hid (gacc xs k (j + 1) = gs (gacc xs k j) (xs.getD (j + 1) 0)) := fun j h => HAS k j h
    have HAB2 := HAB k
    clear HG HAS HAB
    generalize gacc xs k = G at *
    go_enter Tryz.func232, Tryz.ntmps232
    go_wp2
    go_loop [4] (fun t => ∃ j : Nat, j ≤ k ∧ t = .int .i64 j) (fun t => 9 - (intOf t).toNat)
    case atStart => exact ⟨0, Nat.zero_le _, rfl⟩
    case round =>
      obtain ⟨j, hj, rfl⟩ := hrel
      by_cases hlt : j < k
      · have hbit := LB.out j (by omega) hj
        rw [decide_eq_true hlt] at hbit
        go_wp2
        go_round
        case rel => exact ⟨j + 1, by omega, by go_num⟩
        case measure => simp [intOf]; omega
      · obtain rfl : j = k := by omega
        have hb8 : j < 8 → (bits BinOp.and .u8 (x / 2 ^ (7 - j)) 1 == 1) = false := fun h => by
          have := LB.out j h (Nat.le_refl _)
          rwa [decide_eq_false (Nat.lt_irrefl _)] at this
        have hG7 : 7 ≤ j → G 0 = 0 := fun h => by rw [hG0.out]; exact G7.out j hk h
        clear LB G7
        have hcls : (j < 7 ∧ j < 8) ∨ (7 ≤ j ∧ j < 8) ∨ (7 ≤ j ∧ 8 ≤ j) := by omega
        by_cases hlk : xs.length ≤ j
        · have HS0 : Hid (getS xs = (0, 0)) := by rw [Hid, HS.out, if_pos hlk]
          clear HS HA HAB2 hBj hcl
          rcases hcls with ⟨h7, h8⟩ | ⟨h7, h8⟩ | ⟨h7, h8⟩
          · have hbit := hb8 h8
            clear hb8 hG7
            go_wp2
            go_ret2
            rw [HS0.out]
            exact ⟨rfl, rfl⟩
          · obtain rfl : j = 7 := by omega
            have hbit : (bits BinOp.and .u8 x 1 == 1) = false := by have := hb8 h8; rwa [show x / 2 ^ (7 - 7) = x by simp] at this
            clear hb8 hG7
            go_wp2
            go_ret2
            rw [HS0.out]
            exact ⟨rfl, rfl⟩
          · clear hb8 hG7
            go_wp2
            go_ret2
            rw [HS0.out]
            exact ⟨rfl, rfl⟩
        · have hGz : j < 7 → Hid (G 0 = bits BinOp.and .u8 x (127 / 2 ^ j)) := fun _ => by rw [Hid, hG0.out]; rfl
          unfold g0 at hg0
          rcases hcls with ⟨h7, h8⟩ | ⟨h7, h8⟩ | ⟨h7, h8⟩
          all_goals
            have hst : ∀ m, m < j → Hid (G (m + 1) = gs (G m) (xs.getD (m + 1) 0)) := fun m h => HA m (by omega)
            clear HA
          · have hbit := hb8 h8
            have hz := hGz h7
            clear hb8 hG7 hGz
            go_wp2
            go_loop [5, 6] (fun t i => ∃ m : Nat, m ≤ j ∧ i = .int .i64 ((m : Int) + 1) ∧ t = .int .u64 (G m)) (fun _ i => j + 1 - (intOf i).toNat)
            case atStart => exact ⟨0, Nat.zero_le _, by go_num, by rw [hz.out]⟩
            case round =>
              obtain ⟨m, hm, rfl, rfl⟩ := hrel
              have hGb := HAB2 m
              by_cases hlt2 : m < j
              · have h1 := hcl (m + 1) (by omega)
                have hb1 := hBj (m + 1)
                have HAj := hst m hlt2
                clear hcl hBj HAB2 hst
                generalize xs.getD (m + 1) 0 = y at *
                go_wp2
                go_round
                case rel => exact ⟨m + 1, by omega, by go_num, by rw [HAj.out]; rfl⟩
                case measure => simp [intOf]; omega
              · obtain rfl : m = j := by omega
                clear hcl hBj HAB2 hst
                by_cases hmm : m = more (G m).toNat
                · have hmb : ((more (G m).toNat : Int) != (m : Int)) = false := by rw [← hmm]; simp
                  have HM : Hid (m = more (G m).toNat) := hmm
                  clear hmm
                  go_wp2_with (go_at_call 111; refine same_mono (rmore_any _ _ (by omega) (by omega)) ?_)
                  go_ret2
                  rw [HS.out, if_neg hlk, if_pos HM.out]
                  exact ⟨rfl, rfl⟩
                · have hmb : ((more (G m).toNat : Int) != (m : Int)) = true := by rw [bne_iff_ne]; omega
                  go_wp2_with (go_at_call 111; refine same_mono (rmore_any _ _ (by omega) (by omega)) ?_)
                  go_ret2
                  rw [HS.out, if_neg hlk, if_neg hmm]
                  exact ⟨rfl, rfl⟩
          · obtain rfl : j = 7 := by omega
            have hbit : (bits BinOp.and .u8 x 1 == 1) = false := by have := hb8 h8; rwa [show x / 2 ^ (7 - 7) = x by simp] at this
            have hz : Hid (G 0 = 0) := hG7 h7
            clear hb8 hG7 hGz
            go_wp2
            go_loop [5, 6] (fun t i => ∃ m : Nat, m ≤ 7 ∧ i = .int .i64 ((m : Int) + 1) ∧ t = .int .u64 (G m)) (fun _ i => 7 + 1 - (intOf i).toNat)
            case atStart => exact ⟨0, Nat.zero_le _, by go_num, by rw [hz.out]⟩
            case round =>
              obtain ⟨m, hm, rfl, rfl⟩ := hrel
              have hGb := HAB2 m
              by_cases hlt2 : m < 7
              · have h1 := hcl (m + 1) (by omega)
                have hb1 := hBj (m + 1)
                have HAj := hst m hlt2
                clear hcl hBj HAB2 hst
                generalize xs.getD (m + 1) 0 = y at *
                go_wp2
                go_round
                case rel => exact ⟨m + 1, by omega, by go_num, by rw [HAj.out]; rfl⟩
                case measure => simp [intOf]; omega
              · obtain rfl : m = 7 := by omega
                clear hcl hBj HAB2 hst
                by_cases hmm : 7 = more (G 7).toNat
                · have hmb : ((more (G 7).toNat : Int) != 7) = false := by rw [← hmm]; simp
                  have HM : Hid (7 = more (G 7).toNat) := hmm
                  clear hmm
                  go_wp2_with (go_at_call 111; refine same_mono (rmore_any _ _ (by omega) (by omega)) ?_)
                  go_ret2
                  rw [HS.out, if_neg hlk, if_pos HM.out]
                  exact ⟨rfl, rfl⟩
                · have hmb : ((more (G 7).toNat : Int) != 7) = true := by rw [bne_iff_ne]; omega
                  go_wp2_with (go_at_call 111; refine same_mono (rmore_any _ _ (by omega) (by omega)) ?_)
                  go_ret2
                  rw [HS.out, if_neg hlk, if_neg hmm]
                  exact ⟨rfl, rfl⟩
          · have hz : Hid (G 0 = 0) := hG7 h7
            clear hb8 hG7 hGz
            go_wp2
            go_loop [5, 6] (fun t i => ∃ m : Nat, m ≤ j ∧ i = .int .i64 ((m : Int) + 1) ∧ t = .int .u64 (G m)) (fun _ i => j + 1 - (intOf i).toNat)
            case atStart => exact ⟨0, Nat.zero_le _, by go_num, by rw [hz.out]⟩
            case round =>
              obtain ⟨m, hm, rfl, rfl⟩ := hrel
              have hGb := HAB2 m
              by_cases hlt2 : m < j
              · have h1 := hcl (m + 1) (by omega)
                have hb1 := hBj (m + 1)
                have HAj := hst m hlt2
                clear hcl hBj HAB2 hst
                generalize xs.getD (m + 1) 0 = y at *
                go_wp2
                go_round
                case rel => exact ⟨m + 1, by omega, by go_num, by rw [HAj.out]; rfl⟩
                case measure => simp [intOf]; omega
              · obtain rfl : m = j := by omega
                clear hcl hBj HAB2 hst
                by_cases hmm : m = more (G m).toNat
                · have hmb : ((more (G m).toNat : Int) != (m : Int)) = false := by rw [← hmm]; simp
                  have HM : Hid (m = more (G m).toNat) := hmm
                  clear hmm
                  go_wp2_with (go_at_call 111; refine same_mono (rmore_any _ _ (by omega) (by omega)) ?_)
                  go_ret2
                  rw [HS.out, if_neg hlk, if_pos HM.out]
                  exact ⟨rfl, rfl⟩
                · have hmb : ((more (G m).toNat : Int) != (m : Int)) = true := by rw [bne_iff_ne]; omega
                  go_wp2_with (go_at_call 111; refine same_mono (rmore_any _ _ (by omega) (by omega)) ?_)
                  go_ret2
                  rw [HS.out, if_neg hlk, if_neg hmm]
                  exact ⟨rfl, rfl⟩
set_option maxRecDepth 100000 in
set_option maxHeartbeats 1000000 in
theorem rgetText_any (v : Value) (xs : List Int) (w : World) (hv : Has w v xs) (hB : IsB xs) (hl : xs.length ≤ 1099511627776) :
    Calls Tryz.prog 194 #[v] w fun e w' => e = .returned (.tuple #[.string (strOfNums (getTextS xs).1), .int .i64 ((getTextS xs).2 : Nat)]) ∧ Below w.heap.size w w' := by
  have hget := (rget_cod v xs w hv hB hl).mono (R' := fun e w' => e = .returned (.tuple #[.int .u64 (getS xs).1, .int .i64 ((getS xs).2 : Nat)]) ∧ Below w.heap.size w w') fun e w' ⟨h1, h2⟩ => ⟨h1, by subst h2; exact Below.refl _ _⟩
  have hbd := getS_bd xs
  have HT : Hid (getTextS xs = if (getS xs).2 = 0 ∨ (xs.length : Int) - (getS xs).2 < (getS xs).1 then ([], 0) else ((xs.drop (getS xs).2).take (getS xs).1.toNat, (getS xs).2 + (getS xs).1.toNat)) := rfl
  obtain ⟨p, c, rfl, hc, hnone, hcell⟩ := id hv
  clear hnone
  generalize getS xs = g at *
  obtain ⟨u, n⟩ := g
  obtain ⟨h0, h1, h2, h3⟩ := hbd
  simp only at h0 h1 h2 h3 HT hget
  obtain ⟨U, rfl⟩ := Int.eq_ofNat_of_zero_le h0
  have HGt : Hid (Calls Tryz.prog 232 #[.slice p xs.length c] w fun e w' => e = .returned (.tuple #[.int .u64 (U : Int), .int .i64 (n : Nat)]) ∧ Below w.heap.size w w') := hget
  clear hget
  by_cases hn0 : n = 0
  · have HT0 : Hid (getTextS xs = ([], 0)) := by rw [Hid, HT.out, if_pos (Or.inl hn0)]
    clear HT
    subst hn0
    go_enter Tryz.func194, Tryz.ntmps194
    go_wp2_with (go_at_call 232; refine HGt.out.mono ?_; rintro e w1 ⟨rfl, hb1⟩)
    go_ret2
    rw [HT0.out]
    exact ⟨rfl, hb1⟩
  · have hnb : ((n : Int) == 0) = false := by simp; omega
    by_cases hlt : (xs.length : Int) - n < U
    · have HT0 : Hid (getTextS xs = ([], 0)) := by rw [Hid, HT.out, if_pos (Or.inr hlt)]
      clear HT
      go_enter Tryz.func194, Tryz.ntmps194
      go_wp2_with (go_at_call 232; refine HGt.out.mono ?_; rintro e w1 ⟨rfl, hb1⟩)
      go_ret2
      rw [HT0.out]
      exact ⟨rfl, hb1⟩
    · have HT0 : Hid (getTextS xs = ((xs.drop n).take U, n + U)) := by rw [Hid, HT.out, if_neg (by omega)]; rfl
      clear HT
      obtain ⟨b, o, rfl, hbl, _⟩ := hcell (by omega)
      clear hcell
      by_cases hcn : c = n
      · obtain rfl : U = 0 := by omega
        subst hcn
        have CV : Hid (∀ w1, (convert 25 9 (.slice (some ⟨b, o, none⟩) 0 0)).run Tryz.prog w1 = .ok (.string (strOfNums [])) w1) := fun w1 =>
          (Has.empty w1 (some ⟨b, o, none⟩) 0 (fun _ => rfl)).conv (P := Tryz.prog) 25 5 9 Tryz.underlying25 Tryz.underlying5 Tryz.underlying9
        go_enter Tryz.func194, Tryz.ntmps194
        go_wp2_with (go_at_call 232; refine HGt.out.mono ?_; rintro e w1 ⟨rfl, hb1⟩; have cv1 := CV.out w1)
        go_ret2
        rw [HT0.out]
        exact ⟨rfl, hb1⟩
      · have CV : Hid (∀ w1, Below w.heap.size w w1 → (convert 25 9 (.slice (some ⟨b, o + n, none⟩) U (c - n))).run Tryz.prog w1 = .ok (.string (strOfNums ((xs.drop n).take U))) w1) := fun w1 hb =>
          ((hv.below hb (Nat.le_refl _)).cutAt n U (by omega)).conv (P := Tryz.prog) 25 5 9 Tryz.underlying25 Tryz.underlying5 Tryz.underlying9
        go_enter Tryz.func194, Tryz.ntmps194
        go_wp2_with (go_at_call 232; refine HGt.out.mono ?_; rintro e w1 ⟨rfl, hb1⟩; have cv1 := CV.out w1 hb1)
        go_ret2
        rw [HT0.out]
        exact ⟨rfl, hb1⟩

set_option maxRecDepth 100000 in
set_option maxHeartbeats 1000000 in
theorem rputText_any (v : Value) (xs : List Int) (s : ByteArray) (w : World) (hv : Has w v xs) (hl : xs.length ≤ 1073741824) (hs : s.size ≤ 1073741824) :
    Calls Tryz.prog 149 #[v, .string s] w fun e w' => ∃ v', e = .returned v' ∧ Owns w' w.heap.size 5 v' (xs ++ textB s) ∧ Below w.heap.size w w' := by
  obtain ⟨i0, hi, hz0, hz1, hz2⟩ := info_parts info8c
  have hnl := numB_le s.size
  go_enter Tryz.func149, Tryz.ntmps149
  go_wp2_with (first
    | (go_at_call 47; refine (rput_cod _ xs (s.size : Int) _ hv (by omega) (by omega) (by omega)).mono ?_; rintro e w2 ⟨v2, rfl, ho2, hb2⟩)
    | (at_builtin; refine ap_text _ rfl (.tmp 9) (.tmp 10) 25 9 rfl w.heap.size 5 i0 Tryz.underlying25 Tryz.underlying9 hi hz0 hz1 hz2 _ _ s rfl rfl (by exact ho2) (by rw [List.length_append]; omega) (by omega) (by exact hb2.size) ?_; intro v3 w3 ho3 hb3))
  go_ret
  exact ⟨_, rfl, by rw [textB, ← List.append_assoc]; exact ho3, hb2.trans hb3⟩

theorem Rd.grown {w w' : World} {rb sb L : Nat} {v : Value} {xs : List Int} {wrong : Bool} (h : Rd w sb L v xs wrong) (hg : w.grownBy w' (some rb)) (hne : sb ≠ rb) (hL : L ≤ rb) : Rd w' sb L v xs wrong := by
  have hb := hg.block sb h.lt (fun e => hne (Option.some.inj e))
  exact ⟨Nat.lt_of_lt_of_le h.lt hg.size, h.le, (World.cell?_of_block (a := ⟨sb, 0, none⟩) hb).trans h.c0, (World.cell?_of_block (a := ⟨sb, 1, none⟩) hb).trans h.c1, (World.frozen?_of_block (a := ⟨sb, 0, none⟩) hb).trans h.f0, (World.frozen?_of_block (a := ⟨sb, 1, none⟩) hb).trans h.f1, h.has.grown hg hL⟩

set_option maxRecDepth 100000 in
set_option maxHeartbeats 1000000 in
theorem next_count_any (m : Int) (bx : Nat) (w : World) (rb L : Nat) (v b : Value) (xs ys : List Int) (wrong : Bool) (h : Rd w rb L v xs wrong) (hb : HasIn w L b ys) (hB : IsB ys) (hy : ys.length ≤ xs.length) (hl : xs.length ≤ 1099511627776) (hm : m ≤ 9223372036854775807) (hc : w.cell? ⟨bx, 0, none⟩ = some (.int .i64 m)) (hbx : bx < w.heap.size) :
    Calls Tryz.prog 251 #[b, .func (.func 258) #[] #[.pointer (some ⟨bx, 0, none⟩)], .func (.func 189) #[.pointer (some ⟨rb, 0, none⟩)] #[]] w fun e w' =>
      e = .returned (.int .i64 (countS m ys).1) ∧ (∃ v', Rd w' rb L v' (loseS xs wrong (countS m ys).2).1 (loseS xs wrong (countS m ys).2).2) ∧ w.grownBy w' (some rb) := by
  have hbd := countS_bd m ys
  have hL := Nat.le_of_lt (Nat.lt_of_le_of_lt h.le h.lt)
  have H : Hid (Rd w rb L v xs wrong) := h
  have hlt := h.lt
  clear h
  go_enter Tryz.func251, Tryz.ntmps251
  go_wp2_with (first
    | (go_at_call 258; refine (upTo1_any m bx _ ys _ hc hbx (hb.has hL) hB (by omega) hm).mono ?_; rintro e w1 ⟨rfl, hb1⟩)
    | (go_at_call 189; refine (lose_any _ rb L _ v xs wrong (H.out.below hb1 hlt) (by omega) hl).mono ?_; rintro e w2 ⟨rfl, hr2, hg2⟩))
  go_ret
  exact ⟨rfl, hr2, grown_trans (grown_of_below hb1 (Nat.le_refl _) _) hg2⟩

set_option maxRecDepth 100000 in
set_option maxHeartbeats 1000000 in
theorem count_any (m : Int) (w : World) (rb L : Nat) (v : Value) (xs : List Int) (wrong : Bool) (h : Rd w rb L v xs wrong) (hB : IsB xs) (hl : xs.length ≤ 1099511627776) (hm : m ≤ 9223372036854775807) :
    Calls Tryz.prog 231 #[.pointer (some ⟨rb, 0, none⟩), .int .i64 m] w fun e w' =>
      e = .returned (.int .i64 (countS m (srcS xs wrong)).1) ∧ (∃ v', Rd w' rb L v' (loseS xs wrong (countS m (srcS xs wrong)).2).1 (loseS xs wrong (countS m (srcS xs wrong)).2).2) ∧ w.grownBy w' (some rb) := by
  have hba : Below w.heap.size w (w.alloc (.cells #[.int .i64 m] 3)) := (Below.refl w.heap.size w).alloc (Nat.le_refl _) _
  have H : Hid (Rd w rb L v xs wrong) := h
  have hlt := h.lt
  have hL := Nat.le_of_lt (Nat.lt_of_le_of_lt h.le h.lt)
  clear h
  go_enter Tryz.func231, Tryz.ntmps231
  go_wp2_with (first
    | (go_at_call 187; refine rest_src _ rb L v xs wrong H.out ?_; intro b0 hb0)
    | (go_at_call 252; refine (upTo_any _ _).mono ?_; rintro e w' ⟨rfl, rfl⟩)
    | (go_at_call 251; refine (next_count_any m _ _ rb L v _ xs (srcS xs wrong) wrong (H.out.below hba hlt) (hb0.below hba hL) (srcS_isB hB _) (srcS_length _ _) hl hm (by simp) (by simp)).mono ?_; rintro e w1 ⟨rfl, hr1, hg1⟩))
  go_ret
  exact ⟨rfl, hr1, grown_trans (grown_of_below hba (Nat.le_refl _) _) hg1⟩

def Inv (xs : List Int) (wrong : Bool) : Prop := wrong = true → xs = []
theorem Inv.src {xs : List Int} {wrong : Bool} (h : Inv xs wrong) : srcS xs wrong = xs := by
  cases wrong
  · rfl
  · rw [h rfl]; rfl
theorem Inv.lose {xs : List Int} {wrong : Bool} (h : Inv xs wrong) (n : Nat) : Inv (loseS xs wrong n).1 (loseS xs wrong n).2 := by
  unfold loseS; split
  · exact fun _ => rfl
  · intro hw
    simp only at hw
    rw [h hw]; simp

set_option maxRecDepth 100000 in
set_option maxHeartbeats 1000000 in
theorem rpass_no (w : World) (rb L : Nat) (n : Int) (v : Value) (xs : List Int) (wrong : Bool) (h : Rd w rb L v xs wrong) (hn : wrong = true ∨ n = 0) :
    Calls Tryz.prog 195 #[.pointer (some ⟨rb, 0, none⟩), .int .i64 n] w fun e w' => e = .returned (.bool false) ∧ (∃ v', Rd w' rb L v' [] true) ∧ w.grownBy w' (some rb) := by
  have c0 := h.c0
  have c1 := h.c1
  have f0 := h.f0
  have f1 := h.f1
  have H : Hid (Rd w rb L v xs wrong) := h
  clear h
  cases wrong
  · obtain rfl : n = 0 := by rcases hn with h | h; · cases h
                             · exact h
    go_enter Tryz.func195, Tryz.ntmps195
    go_wp2
    go_ret
    have h1 := H.out.setW true
    exact ⟨rfl, ⟨_, h1.setB (HasIn.nil _ L)⟩, grown_trans (grown_set _ _ _ _) (grown_set _ _ _ _)⟩
  · go_enter Tryz.func195, Tryz.ntmps195
    go_wp2
    go_ret
    have h1 := H.out.setW true
    exact ⟨rfl, ⟨_, h1.setB (HasIn.nil _ L)⟩, grown_trans (grown_set _ _ _ _) (grown_set _ _ _ _)⟩

set_option maxRecDepth 100000 in
set_option maxHeartbeats 1000000 in
theorem rpass_yes (w : World) (rb L n : Nat) (v : Value) (xs : List Int) (h : Rd w rb L v xs false) (h0 : 0 < n) (hn : n ≤ xs.length) (hl : xs.length ≤ 1099511627776) :
    Calls Tryz.prog 195 #[.pointer (some ⟨rb, 0, none⟩), .int .i64 n] w fun e w' => e = .returned (.bool true) ∧ (∃ v', Rd w' rb L v' (xs.drop n) false) ∧ w.grownBy w' (some rb) := by
  have c0 := h.c0
  have c1 := h.c1
  have f0 := h.f0
  have H : Hid (Rd w rb L v xs false) := h
  obtain ⟨p, c, rfl, hc, hnone, hcell⟩ := h.has
  clear h hnone
  obtain ⟨b, o, rfl, hbl, hcl⟩ := hcell (by omega)
  have hnb : ((n : Int) == 0) = false := by rw [beq_eq_false_iff_ne]; omega
  have hlen : (xs.drop n).length = xs.length - n := by simp
  by_cases hcn : c = n
  · have hz : (xs.drop n).length = 0 := by omega
    have hv' : HasIn w L (.slice (some ⟨b, o, none⟩) 0 0) (xs.drop n) := ⟨_, _, by rw [hz], by omega, (fun h => by cases h), fun h0 => by omega⟩
    have HV : Hid (HasIn w L (.slice (some ⟨b, o, none⟩) 0 0) (xs.drop n)) := hv'
    clear hv' hlen hcl hcell hz
    subst hcn
    go_enter Tryz.func195, Tryz.ntmps195
    go_wp2
    go_ret
    exact ⟨rfl, ⟨_, H.out.setB HV.out⟩, grown_set _ _ _ _⟩
  · have hv' : HasIn w L (.slice (some ⟨b, o + n, none⟩) (xs.length - n) (c - n)) (xs.drop n) := ⟨_, _, by rw [hlen], by omega, (fun h => by cases h), fun h0 => ⟨b, o + n, rfl, hbl, fun i hi => by
      rw [Nat.add_assoc, hcl (n + i) (by omega)]
      simp⟩⟩
    have HV : Hid (HasIn w L (.slice (some ⟨b, o + n, none⟩) (xs.length - n) (c - n)) (xs.drop n)) := hv'
    clear hv' hlen hcl hcell
    go_enter Tryz.func195, Tryz.ntmps195
    go_wp2
    go_ret
    exact ⟨rfl, ⟨_, H.out.setB HV.out⟩, grown_set _ _ _ _⟩
theorem getS_zero (xs : List Int) : (getS xs).2 = 0 → (getS xs).1 = 0 := by
  unfold getS
  split
  · intro _; rfl
  · split
    · intro h; simp at h
    · intro _; rfl
theorem getTextS_zero (xs : List Int) : (getTextS xs).2 = 0 → (getTextS xs).1 = [] := by
  unfold getTextS
  split
  · intro _; rfl
  · intro h; simp only at h; omega
set_option maxRecDepth 100000 in
set_option maxHeartbeats 1000000 in
theorem rnum_any (w : World) (rb L : Nat) (v : Value) (xs : List Int) (wrong : Bool) (h : Rd w rb L v xs wrong) (hI : Inv xs wrong) (hB : IsB xs) (hl : xs.length ≤ 1099511627776) :
    Calls Tryz.prog 192 #[.pointer (some ⟨rb, 0, none⟩)] w fun e w' =>
      e = .returned (.int .u64 (getS xs).1) ∧ (∃ v', Rd w' rb L v' (loseS xs wrong (getS xs).2).1 (loseS xs wrong (getS xs).2).2) ∧ w.grownBy w' (some rb) := by
  have hbd := getS_bd xs
  have hL := Nat.le_of_lt (Nat.lt_of_le_of_lt h.le h.lt)
  have H : Hid (Rd w rb L v xs wrong) := h
  have hlt := h.lt
  have c0 := h.c0
  clear h
  have HC : Hid (Calls Tryz.prog 232 #[v] w fun e w' => e = .returned (.tuple #[.int .u64 (getS xs).1, .int .i64 ((getS xs).2 : Nat)]) ∧ Below w.heap.size w w') :=
    (rget_cod v xs w (H.out.has.has hL) hB hl).mono (R' := fun e w' => e = .returned (.tuple #[.int .u64 (getS xs).1, .int .i64 ((getS xs).2 : Nat)]) ∧ Below w.heap.size w w') fun e w' ⟨h1, h2⟩ => ⟨h1, by subst h2; exact Below.refl _ _⟩
  have HZ : Hid ((getS xs).2 = 0 → (getS xs).1 = 0) := getS_zero xs
  generalize getS xs = g at *
  obtain ⟨u, n⟩ := g
  simp only at hbd
  have HC2 : Hid (Calls Tryz.prog 232 #[v] w fun e w' => e = .returned (.tuple #[.int .u64 u, .int .i64 (n : Nat)]) ∧ Below w.heap.size w w') := HC
  clear HC
  by_cases hn : n = 0
  · subst hn
    have hz : u = 0 := HZ.out rfl
    subst hz
    go_enter Tryz.func192, Tryz.ntmps192
    go_wp2_with (first
      | (go_at_call 232; refine HC2.out.mono ?_; rintro e w1 ⟨rfl, hb1⟩)
      | (go_at_call 195; refine (rpass_no _ rb L _ v xs wrong (H.out.below hb1 hlt) (Or.inr rfl)).mono ?_; rintro e w2 ⟨rfl, hr2, hg2⟩))
    go_ret
    exact ⟨rfl, hr2, grown_trans (grown_of_below hb1 (Nat.le_refl _) _) hg2⟩
  · have hwf : wrong = false := by
      cases wrong
      · rfl
      · have := hI rfl; rw [this] at hbd; simp at hbd; omega
    subst hwf
    have HLs : Hid (loseS xs false n = (xs.drop n, false)) := by rw [Hid, loseS, if_neg hn]
    go_enter Tryz.func192, Tryz.ntmps192
    go_wp2_with (first
      | (go_at_call 232; refine HC2.out.mono ?_; rintro e w1 ⟨rfl, hb1⟩)
      | (go_at_call 195; refine (rpass_yes _ rb L n v xs (H.out.below hb1 hlt) (by omega) (by omega) hl).mono ?_; rintro e w2 ⟨rfl, hr2, hg2⟩))
    go_ret
    exact ⟨rfl, by rw [HLs.out]; exact hr2, grown_trans (grown_of_below hb1 (Nat.le_refl _) _) hg2⟩

set_option maxRecDepth 100000 in
set_option maxHeartbeats 1000000 in
theorem rtext_any (w : World) (rb L : Nat) (v : Value) (xs : List Int) (wrong : Bool) (h : Rd w rb L v xs wrong) (hI : Inv xs wrong) (hB : IsB xs) (hl : xs.length ≤ 1099511627776) :
    Calls Tryz.prog 159 #[.pointer (some ⟨rb, 0, none⟩)] w fun e w' =>
      e = .returned (.string (strOfNums (getTextS xs).1)) ∧ (∃ v', Rd w' rb L v' (loseS xs wrong (getTextS xs).2).1 (loseS xs wrong (getTextS xs).2).2) ∧ w.grownBy w' (some rb) := by
  have hbd := getTextS_bd xs
  have hL := Nat.le_of_lt (Nat.lt_of_le_of_lt h.le h.lt)
  have H : Hid (Rd w rb L v xs wrong) := h
  have hlt := h.lt
  have c0 := h.c0
  clear h
  have HC : Hid (Calls Tryz.prog 194 #[v] w fun e w' => e = .returned (.tuple #[.string (strOfNums (getTextS xs).1), .int .i64 ((getTextS xs).2 : Nat)]) ∧ Below w.heap.size w w') :=
    rgetText_any v xs w (H.out.has.has hL) hB hl
  have HZ : Hid ((getTextS xs).2 = 0 → (getTextS xs).1 = []) := getTextS_zero xs
  generalize getTextS xs = g at *
  obtain ⟨u, n⟩ := g
  simp only at hbd
  have HC2 : Hid (Calls Tryz.prog 194 #[v] w fun e w' => e = .returned (.tuple #[.string (strOfNums u), .int .i64 (n : Nat)]) ∧ Below w.heap.size w w') := HC
  clear HC
  by_cases hn : n = 0
  · subst hn
    have hz : u = [] := HZ.out rfl
    subst hz
    go_enter Tryz.func159, Tryz.ntmps159
    go_wp2_with (first
      | (go_at_call 194; refine HC2.out.mono ?_; rintro e w1 ⟨rfl, hb1⟩)
      | (go_at_call 195; refine (rpass_no _ rb L _ v xs wrong (H.out.below hb1 hlt) (Or.inr rfl)).mono ?_; rintro e w2 ⟨rfl, hr2, hg2⟩))
    go_ret
    exact ⟨rfl, hr2, grown_trans (grown_of_below hb1 (Nat.le_refl _) _) hg2⟩
  · have hwf : wrong = false := by
      cases wrong
      · rfl
      · have := hI rfl; rw [this] at hbd; simp at hbd; omega
    subst hwf
    have HLs : Hid (loseS xs false n = (xs.drop n, false)) := by rw [Hid, loseS, if_neg hn]
    go_enter Tryz.func159, Tryz.ntmps159
    go_wp2_with (first
      | (go_at_call 194; refine HC2.out.mono ?_; rintro e w1 ⟨rfl, hb1⟩)
      | (go_at_call 195; refine (rpass_yes _ rb L n v xs (H.out.below hb1 hlt) (by omega) (by omega) hl).mono ?_; rintro e w2 ⟨rfl, hr2, hg2⟩))
    go_ret
    exact ⟨rfl, by rw [HLs.out]; exact hr2, grown_trans (grown_of_below hb1 (Nat.le_refl _) _) hg2⟩

set_option maxRecDepth 100000 in
set_option maxHeartbeats 1000000 in
theorem rint_any (w : World) (rb L : Nat) (v : Value) (xs : List Int) (wrong : Bool) (h : Rd w rb L v xs wrong) (hI : Inv xs wrong) (hB : IsB xs) (hl : xs.length ≤ 1099511627776) :
    Calls Tryz.prog 157 #[.pointer (some ⟨rb, 0, none⟩)] w fun e w' =>
      e = .returned (.int .i64 (zagS (getS xs).1)) ∧ (∃ v', Rd w' rb L v' (loseS xs wrong (getS xs).2).1 (loseS xs wrong (getS xs).2).2) ∧ w.grownBy w' (some rb) := by
  go_enter Tryz.func157, Tryz.ntmps157
  go_wp2_with (first
    | (go_at_call 192; refine (rnum_any _ rb L v xs wrong h hI hB hl).mono ?_; rintro e w1 ⟨rfl, hr1, hg1⟩)
    | (go_at_call 191; refine same_mono (rzag_any _ _) ?_))
  go_ret
  exact ⟨rfl, hr1, hg1⟩

set_option maxRecDepth 100000 in
set_option maxHeartbeats 1000000 in
theorem rcount_cod (m : Int) (w : World) (rb L : Nat) (v : Value) (xs : List Int) (wrong : Bool) (h : Rd w rb L v xs wrong) (hI : Inv xs wrong) (hB : IsB xs) (hl : xs.length ≤ 1099511627776) (hm : m ≤ 9223372036854775807) :
    Calls Tryz.prog 233 #[.pointer (some ⟨rb, 0, none⟩), .int .i64 m] w fun e w' =>
      e = .returned (.int .i64 (countS m xs).1) ∧ (∃ v', Rd w' rb L v' (loseS xs wrong (countS m xs).2).1 (loseS xs wrong (countS m xs).2).2) ∧ w.grownBy w' (some rb) := by
  have hbd := getS_bd xs
  have HN : Hid (Calls Tryz.prog 192 #[.pointer (some ⟨rb, 0, none⟩)] w fun e w' =>
      e = .returned (.int .u64 (getS xs).1) ∧ (∃ v', Rd w' rb L v' (loseS xs wrong (getS xs).2).1 (loseS xs wrong (getS xs).2).2) ∧ w.grownBy w' (some rb)) := rnum_any w rb L v xs wrong h hI hB hl
  have HT : Hid (countS m xs = if m < 0 ∨ m < (getS xs).1 then (0, 0) else getS xs) := rfl
  clear h
  generalize getS xs = g at *
  obtain ⟨u, n⟩ := g
  simp only at hbd
  have HN2 : Hid (Calls Tryz.prog 192 #[.pointer (some ⟨rb, 0, none⟩)] w fun e w' =>
      e = .returned (.int .u64 u) ∧ (∃ v', Rd w' rb L v' (loseS xs wrong n).1 (loseS xs wrong n).2) ∧ w.grownBy w' (some rb)) := HN
  clear HN
  by_cases hbad : m < 0 ∨ m < u
  · have HT0 : Hid (countS m xs = (0, 0)) := by rw [Hid, HT.out, if_pos hbad]
    have HL0 : Hid (loseS xs wrong 0 = ([], true)) := rfl
    clear HT
    rcases (show m < 0 ∨ (¬ m < 0 ∧ m < u) by omega) with hm0 | ⟨hm0, hmu⟩
    all_goals
      clear hbad
      go_enter Tryz.func233, Tryz.ntmps233
      go_wp2_with (first
        | (go_at_call 192; refine HN2.out.mono ?_; rintro e w1 ⟨rfl, ⟨v1, hr1⟩, hg1⟩)
        | (go_at_call 195; refine (rpass_no _ rb L _ v1 _ _ hr1 (Or.inr rfl)).mono ?_; rintro e w2 ⟨rfl, hr2, hg2⟩))
      go_ret
      rw [HT0.out]
      exact ⟨rfl, hr2, grown_trans hg1 hg2⟩
  · have HT0 : Hid (countS m xs = (u, n)) := by rw [Hid, HT.out, if_neg hbad]
    have hm0 : ¬ m < 0 := fun h => hbad (Or.inl h)
    have hmu : ¬ m < u := fun h => hbad (Or.inr h)
    clear HT hbad
    go_enter Tryz.func233, Tryz.ntmps233
    go_wp2_with (go_at_call 192; refine HN2.out.mono ?_; rintro e w1 ⟨rfl, hr1, hg1⟩)
    go_ret
    rw [HT0.out]
    exact ⟨rfl, hr1, hg1⟩

set_option maxRecDepth 100000 in
set_option maxHeartbeats 1000000 in
theorem rend_any (w : World) (rb L : Nat) (v : Value) (xs : List Int) (wrong : Bool) (h : Rd w rb L v xs wrong) :
    Calls Tryz.prog 122 #[.pointer (some ⟨rb, 0, none⟩)] w fun e w' => e = .returned (.bool (xs.isEmpty && !wrong)) ∧ w' = w := by
  have c0 := h.c0
  have c1 := h.c1
  obtain ⟨p, c, rfl, _, _, _⟩ := h.has
  clear h
  have hb : ((xs.length : Int) == 0) = xs.isEmpty := by
    cases xs with
    | nil => rfl
    | cons a l => simp; omega
  generalize xs.isEmpty = emp at *
  generalize xs.length = n at *
  have HB : Hid (((n : Int) == 0) = emp) := hb
  cases wrong <;> cases emp
  all_goals
    have hb1 := HB.out
    clear HB hb
    go_enter Tryz.func122, Tryz.ntmps122
    go_wp2
    go_ret
    exact ⟨rfl, rfl⟩
end Go.Proofs.YthlelcmifolnfaaGreatDoor

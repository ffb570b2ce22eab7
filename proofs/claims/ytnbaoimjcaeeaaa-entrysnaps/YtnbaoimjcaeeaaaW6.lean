/-
  Contracts: codec.GetText, GetBool.
-/
import Derived.Test.YtnbaoimjcaeeaaaW5
namespace Go.Proofs.Ytnbaoimjcaeeaaa
open Go.RowKit

set_option maxRecDepth 100000 in
set_option maxHeartbeats 1000000 in
theorem getText_any (v : Value) (xs : List Int) (w : World) (hv : Has w v xs) (hB : IsB xs) (hl : xs.length ≤ 1099511627776) :
    Calls Try.prog 114 #[v] w fun e w' => e = .returned (.tuple #[.string (strOfNums (getTextS xs).1), .int .i64 ((getTextS xs).2 : Nat)]) ∧ Below w.heap.size w w' := by
  have hget := get_cod v xs w hv hB hl
  have hbd := getS_bd xs
  have HT : Hid (getTextS xs = if (getS xs).2 = 0 ∨ (xs.length : Int) - (getS xs).2 < (getS xs).1 then ([], 0) else ((xs.drop (getS xs).2).take (getS xs).1.toNat, (getS xs).2 + (getS xs).1.toNat)) := rfl
  obtain ⟨p, c, rfl, hc, hnone, hcell⟩ := id hv
  clear hnone
  generalize getS xs = g at *
  obtain ⟨u, n⟩ := g
  obtain ⟨h0, h1, h2, h3⟩ := hbd
  simp only at h0 h1 h2 h3 HT hget
  obtain ⟨U, rfl⟩ := Int.eq_ofNat_of_zero_le h0
  have HGt : Hid (Calls Try.prog 123 #[.slice p xs.length c] w fun e w' => e = .returned (.tuple #[.int .u64 (U : Int), .int .i64 (n : Nat)]) ∧ Below w.heap.size w w') := hget
  clear hget
  by_cases hn0 : n = 0
  · have HT0 : Hid (getTextS xs = ([], 0)) := by rw [Hid, HT.out, if_pos (Or.inl hn0)]
    clear HT
    subst hn0
    go_enter Try.func114, Try.ntmps114
    go_wp2_with (go_at_call 123; refine HGt.out.mono ?_; rintro e w1 ⟨rfl, hb1⟩)
    go_ret2
    rw [HT0.out]
    exact ⟨rfl, hb1⟩
  · have hnb : ((n : Int) == 0) = false := by simp; omega
    by_cases hlt : (xs.length : Int) - n < U
    · have HT0 : Hid (getTextS xs = ([], 0)) := by rw [Hid, HT.out, if_pos (Or.inr hlt)]
      clear HT
      go_enter Try.func114, Try.ntmps114
      go_wp2_with (go_at_call 123; refine HGt.out.mono ?_; rintro e w1 ⟨rfl, hb1⟩)
      go_ret2
      rw [HT0.out]
      exact ⟨rfl, hb1⟩
    · have HT0 : Hid (getTextS xs = ((xs.drop n).take U, n + U)) := by rw [Hid, HT.out, if_neg (by omega)]; rfl
      clear HT
      obtain ⟨b, o, rfl, hbl, _⟩ := hcell (by omega)
      clear hcell
      by_cases hcn : c = n
      · obtain rfl : U = 0 := by omega
        subst hcn
        have CV : Hid (∀ w1, (convert 34 9 (.slice (some ⟨b, o, none⟩) 0 0)).run Try.prog w1 = .ok (.string (strOfNums [])) w1) := fun w1 =>
          (Has.empty w1 (some ⟨b, o, none⟩) 0 (fun _ => rfl)).conv (P := Try.prog) 34 5 9 Try.underlying34 Try.underlying5 Try.underlying9
        go_enter Try.func114, Try.ntmps114
        go_wp2_with (go_at_call 123; refine HGt.out.mono ?_; rintro e w1 ⟨rfl, hb1⟩; have cv1 := CV.out w1)
        go_ret2
        rw [HT0.out]
        exact ⟨rfl, hb1⟩
      · have CV : Hid (∀ w1, Below w.heap.size w w1 → (convert 34 9 (.slice (some ⟨b, o + n, none⟩) U (c - n))).run Try.prog w1 = .ok (.string (strOfNums ((xs.drop n).take U))) w1) := fun w1 hb =>
          ((hv.below hb (Nat.le_refl _)).cutAt n U (by omega)).conv (P := Try.prog) 34 5 9 Try.underlying34 Try.underlying5 Try.underlying9
        go_enter Try.func114, Try.ntmps114
        go_wp2_with (go_at_call 123; refine HGt.out.mono ?_; rintro e w1 ⟨rfl, hb1⟩; have cv1 := CV.out w1 hb1)
        go_ret2
        rw [HT0.out]
        exact ⟨rfl, hb1⟩

set_option maxRecDepth 100000 in
set_option maxHeartbeats 1000000 in
theorem getBool_any (v : Value) (xs : List Int) (w : World) (hv : Has w v xs) (hB : IsB xs) (hl : xs.length ≤ 1099511627776) :
    Calls Try.prog 118 #[v] w fun e w' => e = .returned (.tuple #[.bool (getBoolS xs).1, .int .i64 ((getBoolS xs).2 : Nat)]) ∧ w' = w := by
  have HT : Hid (getBoolS xs = if xs.length = 0 ∨ (xs.getD 0 0 ≠ 84 ∧ xs.getD 0 0 ≠ 70) then (false, 0) else (xs.getD 0 0 == 84, 1)) := rfl
  obtain ⟨p, c, rfl, hc, hnone, hcell⟩ := id hv
  clear hnone
  rcases Nat.eq_zero_or_pos xs.length with hn | hn
  · obtain rfl : xs = [] := List.eq_nil_of_length_eq_zero hn
    go_enter Try.func118, Try.ntmps118
    go_wp2
    go_ret2
    exact ⟨rfl, rfl⟩
  · obtain ⟨b, o, rfl, hbl, hcl⟩ := hcell hn
    have h1 := hcl 0 hn
    rw [Nat.add_zero] at h1
    clear hcl hcell hB
    have hne : ¬ xs = [] := fun h => by rw [h] at hn; simp at hn
    have hnb : ((xs.length : Int) == 0) = false := by simp; omega
    generalize xs.getD 0 0 = x at *
    by_cases h84 : x = 84
    · have HT0 : Hid (getBoolS xs = (true, 1)) := by rw [Hid, HT.out, if_neg (by omega), h84]; rfl
      clear HT
      subst h84
      go_enter Try.func118, Try.ntmps118
      go_wp2
      go_ret2
      rw [HT0.out]
      exact ⟨rfl, rfl⟩
    · by_cases h70 : x = 70
      · have HT0 : Hid (getBoolS xs = (false, 1)) := by rw [Hid, HT.out, if_neg (by omega), h70]; rfl
        clear HT
        subst h70
        go_enter Try.func118, Try.ntmps118
        go_wp2
        go_ret2
        rw [HT0.out]
        exact ⟨rfl, rfl⟩
      · have HT0 : Hid (getBoolS xs = (false, 0)) := by rw [Hid, HT.out, if_pos (by omega)]
        clear HT
        have e1 : (x != 84) = true := by simp; omega
        have e2 : (x != 70) = true := by simp; omega
        go_enter Try.func118, Try.ntmps118
        go_wp2
        go_ret2
        rw [HT0.out]
        exact ⟨rfl, rfl⟩
end Go.Proofs.Ytnbaoimjcaeeaaa

/-
  Contracts: corbelref01.GetText, GetBool, PutText, PutBool.
-/
import Derived.Test.YtomhmoedicajoaaRef2
namespace Go.Proofs.Ytomhmoedicajoaa
open Go.RowKit

set_option maxRecDepth 100000 in
set_option maxHeartbeats 1000000 in
theorem rgetText_any (v : Value) (xs : List Int) (w : World) (hv : Has w v xs) (hB : IsB xs) (hl : xs.length ≤ 1099511627776) :
    Calls Try.prog 76 #[v] w fun e w' => e = .returned (.tuple #[.string (strOfNums (getTextS xs).1), .int .i64 ((getTextS xs).2 : Nat)]) ∧ Below w.heap.size w w' := by
  have hget := (rget_cod v xs w hv hB hl).mono (R' := fun e w' => e = .returned (.tuple #[.int .u64 (getS xs).1, .int .i64 ((getS xs).2 : Nat)]) ∧ Below w.heap.size w w') fun e w' ⟨h1, h2⟩ => ⟨h1, by subst h2; exact Below.refl _ _⟩
  have hbd := getS_bd xs
  have HT : Hid (getTextS xs = if (getS xs).2 = 0 ∨ (xs.length : Int) - (getS xs).2 < (getS xs).1 then ([], 0) else ((xs.drop (getS xs).2).take (getS xs).1.toNat, (getS xs).2 + (getS xs).1.toNat)) := rfl
  obtain ⟨p, c, rfl, hc, hnone, hcell⟩ := id hv
  clear hnone
  generalize getS xs = g at *
  obtain ⟨u, n⟩ := g
  obtain ⟨h0, h1, h2, h3⟩ := hbd
  simp only at h0 h1 h2 h3 HT hget
  obtain ⟨U, rfl⟩ := Int.eq_ofNat_of_zero_le h0
  have HGt : Hid (Calls Try.prog 82 #[.slice p xs.length c] w fun e w' => e = .returned (.tuple #[.int .u64 (U : Int), .int .i64 (n : Nat)]) ∧ Below w.heap.size w w') := hget
  clear hget
  by_cases hn0 : n = 0
  · have HT0 : Hid (getTextS xs = ([], 0)) := by rw [Hid, HT.out, if_pos (Or.inl hn0)]
    clear HT
    subst hn0
    go_enter Try.func76, Try.ntmps76
    go_wp2_with (go_at_call 82; refine HGt.out.mono ?_; rintro e w1 ⟨rfl, hb1⟩)
    go_ret2
    rw [HT0.out]
    exact ⟨rfl, hb1⟩
  · have hnb : ((n : Int) == 0) = false := by simp; omega
    by_cases hlt : (xs.length : Int) - n < U
    · have HT0 : Hid (getTextS xs = ([], 0)) := by rw [Hid, HT.out, if_pos (Or.inr hlt)]
      clear HT
      go_enter Try.func76, Try.ntmps76
      go_wp2_with (go_at_call 82; refine HGt.out.mono ?_; rintro e w1 ⟨rfl, hb1⟩)
      go_ret2
      rw [HT0.out]
      exact ⟨rfl, hb1⟩
    · have HT0 : Hid (getTextS xs = ((xs.drop n).take U, n + U)) := by rw [Hid, HT.out, if_neg (by omega)]; rfl
      clear HT
      obtain ⟨b, o, rfl, hbl, _⟩ := hcell (by omega)
      clear hcell
      by_cases hcn : c = n
      · obtain rfl : U = 0 := by omega
        subst hcn
        have CV : Hid (∀ w1, (convert 28 9 (.slice (some ⟨b, o, none⟩) 0 0)).run Try.prog w1 = .ok (.string (strOfNums [])) w1) := fun w1 =>
          (Has.empty w1 (some ⟨b, o, none⟩) 0 (fun _ => rfl)).conv (P := Try.prog) 28 5 9 Try.underlying28 Try.underlying5 Try.underlying9
        go_enter Try.func76, Try.ntmps76
        go_wp2_with (go_at_call 82; refine HGt.out.mono ?_; rintro e w1 ⟨rfl, hb1⟩; have cv1 := CV.out w1)
        go_ret2
        rw [HT0.out]
        exact ⟨rfl, hb1⟩
      · have CV : Hid (∀ w1, Below w.heap.size w w1 → (convert 28 9 (.slice (some ⟨b, o + n, none⟩) U (c - n))).run Try.prog w1 = .ok (.string (strOfNums ((xs.drop n).take U))) w1) := fun w1 hb =>
          ((hv.below hb (Nat.le_refl _)).cutAt n U (by omega)).conv (P := Try.prog) 28 5 9 Try.underlying28 Try.underlying5 Try.underlying9
        go_enter Try.func76, Try.ntmps76
        go_wp2_with (go_at_call 82; refine HGt.out.mono ?_; rintro e w1 ⟨rfl, hb1⟩; have cv1 := CV.out w1 hb1)
        go_ret2
        rw [HT0.out]
        exact ⟨rfl, hb1⟩

set_option maxRecDepth 100000 in
set_option maxHeartbeats 1000000 in
theorem rgetBool_any (v : Value) (xs : List Int) (w : World) (hv : Has w v xs) (hB : IsB xs) (hl : xs.length ≤ 1099511627776) :
    Calls Try.prog 81 #[v] w fun e w' => e = .returned (.tuple #[.bool (getBoolS xs).1, .int .i64 ((getBoolS xs).2 : Nat)]) ∧ w' = w := by
  have HT : Hid (getBoolS xs = if xs.length = 0 ∨ (xs.getD 0 0 ≠ 84 ∧ xs.getD 0 0 ≠ 70) then (false, 0) else (xs.getD 0 0 == 84, 1)) := rfl
  obtain ⟨p, c, rfl, hc, hnone, hcell⟩ := id hv
  clear hnone
  rcases Nat.eq_zero_or_pos xs.length with hn | hn
  · obtain rfl : xs = [] := List.eq_nil_of_length_eq_zero hn
    go_enter Try.func81, Try.ntmps81
    go_wp2
    go_ret2
    exact ⟨rfl, rfl⟩
  · obtain ⟨b, o, rfl, hbl, hcl⟩ := hcell hn
    have h1 := hcl 0 hn
    rw [Nat.add_zero] at h1
    clear hcl hcell hB
    have hne : ¬ xs = [] := fun h => by rw [h] at hn; simp at hn
    have hnb : ((xs.length : Int) == 0) = false := by simp; omega
    generalize xs.getD 0 0 = x at *
    by_cases h84 : x = 84
    · have HT0 : Hid (getBoolS xs = (true, 1)) := by rw [Hid, HT.out, if_neg (by omega), h84]; rfl
      clear HT
      subst h84
      go_enter Try.func81, Try.ntmps81
      go_wp2
      go_ret2
      rw [HT0.out]
      exact ⟨rfl, rfl⟩
    · by_cases h70 : x = 70
      · have HT0 : Hid (getBoolS xs = (false, 1)) := by rw [Hid, HT.out, if_neg (by omega), h70]; rfl
        clear HT
        subst h70
        go_enter Try.func81, Try.ntmps81
        go_wp2
        go_ret2
        rw [HT0.out]
        exact ⟨rfl, rfl⟩
      · have HT0 : Hid (getBoolS xs = (false, 0)) := by rw [Hid, HT.out, if_pos (by omega)]
        clear HT
        have e1 : (x != 84) = true := by simp; omega
        have e2 : (x != 70) = true := by simp; omega
        go_enter Try.func81, Try.ntmps81
        go_wp2
        go_ret2
        rw [HT0.out]
        exact ⟨rfl, rfl⟩

set_option maxRecDepth 100000 in
set_option maxHeartbeats 1000000 in
theorem rputText_any (v : Value) (xs : List Int) (s : ByteArray) (w : World) (hv : Has w v xs) (hl : xs.length ≤ 1073741824) (hs : s.size ≤ 1073741824) :
    Calls Try.prog 37 #[v, .string s] w fun e w' => ∃ v', e = .returned v' ∧ Owns w' w.heap.size 5 v' (xs ++ textB s) ∧ Below w.heap.size w w' := by
  obtain ⟨i0, hi, hz0, hz1, hz2⟩ := info_parts info8c
  have hnl := numB_le s.size
  go_enter Try.func37, Try.ntmps37
  go_wp2_with (first
    | (go_at_call 35; refine (rput_cod _ xs (s.size : Int) _ hv (by omega) (by omega) (by omega)).mono ?_; rintro e w2 ⟨v2, rfl, ho2, hb2⟩)
    | (at_builtin; refine ap_text _ rfl (.tmp 9) (.tmp 10) 28 9 rfl w.heap.size 5 i0 Try.underlying28 Try.underlying9 hi hz0 hz1 hz2 _ _ s rfl rfl (by exact ho2) (by rw [List.length_append]; omega) (by omega) (by exact hb2.size) ?_; intro v3 w3 ho3 hb3))
  go_ret
  exact ⟨_, rfl, by rw [textB, ← List.append_assoc]; exact ho3, hb2.trans hb3⟩

set_option maxRecDepth 100000 in
set_option maxHeartbeats 1000000 in
theorem rputBool_any (v : Value) (xs : List Int) (b : Bool) (w : World) (hv : Has w v xs) (hl : xs.length ≤ 1073741824) :
    Calls Try.prog 49 #[v, .bool b] w fun e w' => ∃ v', e = .returned v' ∧ Owns w' w.heap.size 5 v' (xs ++ [boolB b]) ∧ Below w.heap.size w w' := by
  obtain ⟨i0, hi, hz0, hz1, hz2⟩ := info_parts info8c
  cases b
  · go_enter Try.func49, Try.ntmps49
    go_wp2_with (first
      | (at_builtin; refine ap_slice _ rfl (.tmp 11) (.tmp 12) 28 rfl w.heap.size 5 i0 Try.underlying28 hi hz0 hz1 hz2 _ [] xs rfl (by exact hv.below ((Below.refl w.heap.size w).alloc (Nat.le_refl _) _) (Nat.le_refl _)) (by exact Owns.empty w w.heap.size _ (Nat.le_refl _)) (by simp) (by omega) (by simp) ?_; intro v1 w1 ho1 hb1; rw [List.nil_append] at ho1)
      | (at_builtin; refine ap_one _ rfl (.tmp 13) (.tmp 14) 28 rfl w.heap.size 5 i0 Try.underlying28 hi hz0 hz1 hz2 _ xs 70 rfl rfl (by exact ho1) (by omega) (by have := hb1.size; simp at this; omega) ?_; intro v2 w2 ho2 hb2))
    go_ret
    exact ⟨_, rfl, ho2, (((Below.refl w.heap.size w).alloc (Nat.le_refl _) _).trans hb1).trans hb2⟩
  · go_enter Try.func49, Try.ntmps49
    go_wp2_with (first
      | (at_builtin; refine ap_slice _ rfl (.tmp 6) (.tmp 7) 28 rfl w.heap.size 5 i0 Try.underlying28 hi hz0 hz1 hz2 _ [] xs rfl (by exact hv.below ((Below.refl w.heap.size w).alloc (Nat.le_refl _) _) (Nat.le_refl _)) (by exact Owns.empty w w.heap.size _ (Nat.le_refl _)) (by simp) (by omega) (by simp) ?_; intro v1 w1 ho1 hb1; rw [List.nil_append] at ho1)
      | (at_builtin; refine ap_one _ rfl (.tmp 8) (.tmp 9) 28 rfl w.heap.size 5 i0 Try.underlying28 hi hz0 hz1 hz2 _ xs 84 rfl rfl (by exact ho1) (by omega) (by have := hb1.size; simp at this; omega) ?_; intro v2 w2 ho2 hb2))
    go_ret
    exact ⟨_, rfl, ho2, (((Below.refl w.heap.size w).alloc (Nat.le_refl _) _).trans hb1).trans hb2⟩
end Go.Proofs.Ytomhmoedicajoaa

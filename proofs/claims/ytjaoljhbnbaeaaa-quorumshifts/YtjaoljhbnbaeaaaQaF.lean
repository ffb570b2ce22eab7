/-
  Contracts of the document's: Commit.
-/
import Derived.Test.YtjaoljhbnbaeaaaQaE
namespace Go.Proofs.Ytjaoljhbnbaeaaa
open Go.RowKit Go.Shelf

def cnt14 (xs : List Int) (x : Int) (i : Nat) : Nat := (xs.take i).countP fun y => decide (x ≤ y)
theorem cnt14_zero (xs : List Int) (x : Int) : cnt14 xs x 0 = 0 := rfl
theorem cnt14_succ (xs : List Int) (x : Int) (i : Nat) (h : i < xs.length) : cnt14 xs x (i + 1) = cnt14 xs x i + if x ≤ xs.getD i 0 then 1 else 0 := by
  unfold cnt14
  rw [List.take_add_one, List.getElem?_eq_getElem h, List.getD_eq_getElem?_getD, List.getElem?_eq_getElem h, List.countP_append]
  simp only [Option.toList_some, Option.getD_some, List.countP_singleton, decide_eq_true_eq]
theorem cnt14_all (xs : List Int) (x : Int) : cnt14 xs x xs.length = ge14 xs x := by
  unfold cnt14 ge14; rw [List.take_length]
theorem cnt14_le (xs : List Int) (x : Int) (i : Nat) : cnt14 xs x i ≤ xs.length := by
  unfold cnt14; exact Nat.le_trans List.countP_le_length (by rw [List.length_take]; omega)

set_option maxRecDepth 100000 in
set_option maxHeartbeats 2000000 in
theorem rcom_any (v : Value) (xs : List Int) (w : World) (h : HasI w v xs) (hl : xs.length ≤ 100000) :
    Calls Try.prog 15 #[v] w fun e w' => e = .returned (.int .i64 (com14 xs)) ∧ ∃ k, w' = w.drewN k := by
  obtain ⟨p, c, rfl, hc, hx⟩ := h.parts14
  clear h
  rw [← rcom_com]
  obtain ⟨n, hn⟩ : ∃ n, n = xs.length := ⟨_, rfl⟩
  have hmaj := majI_nat xs.length
  obtain ⟨m, hm⟩ : ∃ m, m = maj14 xs.length := ⟨_, rfl⟩
  have hml : m ≤ 100001 := by rw [hm]; unfold maj14; split <;> omega
  rw [← hm] at hmaj
  have HM : Hid (m = maj14 xs.length) := hm
  clear hm
  rw [← hn] at hmaj hl hx hc ⊢
  have HN : Hid (n = xs.length) := hn
  clear hn
  go_enter Try.func15, Try.ntmps15
  go_wp2
  go_loopw [3, 4, 12] (fun s3 s4 t wr => ∃ (j k : Nat) (b : Int) (f : Bool), j ≤ n ∧ t = .int .i64 j ∧ s3 = .int .i64 b ∧ s4 = .bool f ∧ Hid (rcom14 xs j = (b, f)) ∧ wr = w.drewN k) (fun _ _ t _ => n - (intOf t).toNat)
  case atStart => exact ⟨0, 0, 0, false, by omega, rfl, rfl, rfl, rfl, rfl⟩
  case round =>
    obtain ⟨j, k, b, f, hj, rfl, rfl, rfl, hs, rfl⟩ := hrel
    by_cases hlt : j < n
    · obtain ⟨ab, ao, rfl, hbl, c0⟩ := hx j hlt
      have c1 : (w.drewN k).cell? ⟨ab, ao + j, none⟩ = some (.int .i64 (xs.getD j 0)) := c0
      clear c0
      have hj1 : (j : Int) < (n : Int) := by omega
      obtain ⟨x, hxx⟩ : ∃ x, x = xs.getD j 0 := ⟨_, rfl⟩
      rw [← hxx] at c1
      have HX : Hid (x = xs.getD j 0) := hxx
      clear hxx
      go_wp2
      go_loopw [7, 18] (fun s7 t wr => ∃ (i k g : Nat), i ≤ n ∧ t = .int .i64 i ∧ s7 = .int .i64 g ∧ g ≤ 100000 ∧ Hid (cnt14 xs x i = g) ∧ wr = w.drewN k) (fun _ t _ => n - (intOf t).toNat)
      case atStart => exact ⟨0, k, 0, by omega, rfl, rfl, by omega, rfl, rfl⟩
      case round =>
        obtain ⟨i, k2, g, hi, rfl, rfl, hg, hcn, rfl⟩ := hrel
        by_cases hlt2 : i < n
        · obtain ⟨ab', ao', hp, _, c0⟩ := hx i hlt2
          obtain ⟨rfl, rfl⟩ : ab = ab' ∧ ao = ao' := by cases hp; exact ⟨rfl, rfl⟩
          have c2 : (w.drewN k2).cell? ⟨ab, ao + i, none⟩ = some (.int .i64 (xs.getD i 0)) := c0
          have hj2 : (i : Int) < (n : Int) := by omega
          have hsu := cnt14_succ xs x i (by rw [← HN.out]; exact hlt2)
          have hcl := cnt14_le xs x (i + 1)
          rw [← HN.out] at hcl
          rw [hcn.out] at hsu
          clear c0 hp hs hcn c1
          by_cases hxy : x ≤ xs.getD i 0
          · rw [if_pos hxy] at hsu
            rw [hsu] at hcl
            have HS : Hid (cnt14 xs x (i + 1) = g + 1) := hsu
            clear hsu
            generalize xs.getD i 0 = y at *
            go_wp2
            go_roundw
            case rel => exact ⟨i + 1, k2, g + 1, by omega, by simp, by simp, by omega, HS, rfl⟩
            case measure => simp only [intOf]; omega
          · rw [if_neg hxy] at hsu
            have HS : Hid (cnt14 xs x (i + 1) = g) := hsu
            clear hsu
            generalize xs.getD i 0 = y at *
            go_wp2
            go_roundw
            case rel => exact ⟨i + 1, k2, g, by omega, by simp, rfl, by omega, HS, rfl⟩
            case measure => simp only [intOf]; omega
        · obtain rfl : i = n := by omega
          have hge : g = ge14 xs x := by rw [← hcn.out, HN.out, cnt14_all]
          have hst := rcom_succ xs j (by rw [← HN.out]; exact hlt)
          rw [hs.out, ← HX.out] at hst
          unfold step14 at hst
          rw [← hge, ← HM.out] at hst
          clear hge hcn hs HX hx c1
          simp only at hst
          have kM := fun W => rmaj_any (i : Int) W (by omega)
          by_cases hmg : m ≤ g
          · cases f with
            | false =>
              rw [if_pos ⟨hmg, .inl rfl⟩] at hst
              have HS : Hid (rcom14 xs (j + 1) = (x, true)) := hst
              clear hst
              go_wp2_with (refine (kM _).mono ?_; rintro e w3 ⟨rfl, rfl⟩; rw [hmaj])
              go_roundw
              case rel => exact ⟨j + 1, _, x, true, by omega, by simp, rfl, rfl, HS, rfl⟩
              case measure => simp only [intOf]; omega
            | true =>
              by_cases hbx : b < x
              · rw [if_pos ⟨hmg, .inr hbx⟩] at hst
                have HS : Hid (rcom14 xs (j + 1) = (x, true)) := hst
                clear hst
                go_wp2_with (refine (kM _).mono ?_; rintro e w3 ⟨rfl, rfl⟩; rw [hmaj])
                go_roundw
                case rel => exact ⟨j + 1, _, x, true, by omega, by simp, rfl, rfl, HS, rfl⟩
                case measure => simp only [intOf]; omega
              · rw [if_neg (fun h => h.2.elim (fun h => by cases h) hbx)] at hst
                have HS : Hid (rcom14 xs (j + 1) = (b, true)) := hst
                clear hst
                go_wp2_with (refine (kM _).mono ?_; rintro e w3 ⟨rfl, rfl⟩; rw [hmaj])
                go_roundw
                case rel => exact ⟨j + 1, _, b, true, by omega, by simp, rfl, rfl, HS, rfl⟩
                case measure => simp only [intOf]; omega
          · rw [if_neg (fun h => hmg h.1)] at hst
            have HS : Hid (rcom14 xs (j + 1) = (b, f)) := hst
            clear hst
            go_wp2_with (refine (kM _).mono ?_; rintro e w3 ⟨rfl, rfl⟩; rw [hmaj])
            go_roundw
            case rel => exact ⟨j + 1, _, b, f, by omega, by simp, rfl, rfl, HS, rfl⟩
            case measure => simp only [intOf]; omega
    · obtain rfl : j = n := by omega
      have hb : (rcom14 xs j).1 = b := by rw [hs.out]
      have HB : Hid ((rcom14 xs j).1 = b) := hb
      clear hs hx hb
      go_wp2
      go_ret
      exact ⟨congrArg (fun z => Ending.returned (.int .i64 z)) HB.out.symm, k, rfl⟩
end Go.Proofs.Ytjaoljhbnbaeaaa

/-
  Contracts of siphash.Split and corbelref02.Split; the document's examples are as it says ('lives').
-/
import Derived.Test.YtemnjgglieaiaaaSip7
import Derived.Test.YtemnjgglieaiaaaSip5
namespace Go.Proofs.Ytemnjgglieaiaaa
open Go.RowKit

theorem and127 {h : Int} (hh : Wd h) : bits .and .u64 h 127 = h % 128 := by
  obtain ⟨n, rfl, hn⟩ := hh.nat
  rw [show (127 : Int) = ((127 : Nat) : Int) from rfl, bits_and_u64_nat _ _ hn (by decide), show (127 : Nat) = 2 ^ 7 - 1 from rfl, Nat.and_two_pow_sub_one_eq_mod]
  omega

/-- A hash in two parts. -/
def partsV (h : Int) : Value := .tuple #[.int .u64 (h / 128), .int .u8 (h % 128)]

theorem split_any (h : Int) (w : World) (hh : Wd h) : Calls Try.prog 11 #[.int .u64 h] w fun e w' => e = .returned (partsV h) ∧ w' = w := by
  have h0 := hh.1
  have h1 := hh.2
  have ha := and127 hh
  go_enter Try.func11, Try.ntmps11
  go_wp2
  go_ret2
  exact ⟨rfl, rfl⟩
theorem rsplit_any (h : Int) (w : World) (hh : Wd h) : Calls Try.prog 12 #[.int .u64 h] w fun e w' => e = .returned (partsV h) ∧ w' = w := by
  have h0 := hh.1
  have h1 := hh.2
  go_enter Try.func12, Try.ntmps12
  go_wp2
  go_ret2
  exact ⟨rfl, rfl⟩

theorem info8 : (Try.prog.info? 5).map (fun i => (i.zero, i.size, i.bytes)) = some (some (.int .u8 0), 1, 1) := by kernel_rfl

def text15 : ByteArray := ⟨#[0, 1, 2, 3, 4, 5, 6, 7, 8, 9, 10, 11, 12, 13, 14]⟩
theorem sum15 : sumI 506097522914230528 1084818905618843912 (byt text15) 15 = 11613035633349379557 := by decide +kernel
theorem str15 : strOfNums ((List.range 15).map fun (i : Nat) => (i : Int)) = text15 := by decide +kernel

theorem range_snoc (f : Nat → Int) (j : Nat) : (List.range j).map f ++ [f j] = (List.range (j + 1)).map f := by simp [List.range_succ]

set_option maxHeartbeats 1000000 in
theorem lives_any (w : World) :
    Calls Try.prog 8 #[] w fun e w' => e = .returned (.bool true) ∧ Below w.heap.size w w' := by
  obtain ⟨i0, hi, hz0, hz1, hz2⟩ := info_parts info8
  go_enter Try.func8, Try.ntmps8
  go_wp2
  go_loopw [1, 2] (fun v i wr => ∃ j : Nat, j ≤ 15 ∧ i = .int .u8 j ∧ Owns wr w.heap.size 5 v ((List.range j).map fun (i : Nat) => (i : Int)) ∧ Below w.heap.size w wr) (fun _ i _ => 15 - (intOf i).toNat)
  case atStart => exact ⟨0, by omega, rfl, Owns.nil _ _ _, Below.refl _ _⟩
  case round =>
    obtain ⟨j, hj, rfl, hr, hbr⟩ := hrel
    by_cases hlt : j < 15
    · go_wp2_with (at_builtin; refine ap_one _ rfl (.tmp 9) (.tmp 11) 39 rfl w.heap.size 5 i0 Try.underlying39 hi hz0 hz1 hz2 _ _ (j : Int) rfl rfl (by exact hr) (by simp; omega) hbr.size ?_; intro v2 w2 hown2 hbel2)
      refine ⟨⟨j + 1, by omega, by congr 1, by rw [← range_snoc]; exact hown2, hbr.trans hbel2⟩, by simp only [intOf]; omega⟩
    · obtain rfl : j = 15 := by omega
      have hc : ∀ wz, wz = wr → (convert 39 9 _).run Try.prog wz = .ok (.string text15) wz := fun wz e => by
        subst e
        have := hr.has.conv (P := Try.prog) 39 5 9 Try.underlying39 Try.underlying5 Try.underlying9
        rw [str15] at this
        exact this
      have hc' := hc wr rfl
      clear hc
      go_wp2_with fail
      refine same_mono (split_any 255 _ ⟨by omega, by omega⟩) ?_
      simp only [partsV]
      go_wp2_with fail
      refine (sum_any _ _ text15 _ (by decide)).mono ?_
      rintro e w2 ⟨rfl, hb2⟩
      rw [show text15.size = 15 from rfl, sum15]
      go_wp2
      go_ret
      exact ⟨rfl, hbr.trans (hb2.mono hbr.size)⟩

end Go.Proofs.Ytemnjgglieaiaaa

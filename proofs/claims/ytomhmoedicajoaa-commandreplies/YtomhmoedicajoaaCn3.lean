/-
  Contracts: corbelref07.Bytes.
-/
import Derived.Test.YtomhmoedicajoaaCmP
import Derived.Deep.RegionHeld3
namespace Go.Proofs.Ytomhmoedicajoaa
open Go.RowKit

/-- Two cells of a box, and all that is old, as it was. -/
theorem keepD {X w1 w2 : World} {s : Nat} {v0 v1 : Value} (hs : s < X.heap.size) (hb : Below w1.heap.size w1 w2) (h : w1.cell? ⟨s, 0, none⟩ = some v0 ∧ w1.cell? ⟨s, 1, none⟩ = some v1 ∧ Below X.heap.size X w1) : w2.cell? ⟨s, 0, none⟩ = some v0 ∧ w2.cell? ⟨s, 1, none⟩ = some v1 ∧ Below X.heap.size X w2 := by
  obtain ⟨h1, h2, h4⟩ := h
  have := h4.size
  exact ⟨(hb.cell (p := ⟨s, 0, none⟩) (by show s < _; omega)).trans h1, (hb.cell (p := ⟨s, 1, none⟩) (by show s < _; omega)).trans h2, h4.trans (hb.mono h4.size)⟩
theorem heldD {a b c : Prop} (h : a ∧ b ∧ c) : c := h.2.2

set_option maxRecDepth 100000 in
set_option maxHeartbeats 1500000 in
theorem rpairsB_any (v : Value) (l : List (ByteArray × ByteArray)) (w : World) (hx : HasP w v l) (hl : l.length ≤ 2000) (hs : ∀ p ∈ l, p.1.size ≤ 131072 ∧ p.2.size ≤ 131072) :
    Calls Try.prog 50 #[v] w fun e w' => ∃ v', e = .returned v' ∧ Owns w' w.heap.size 5 v' (expB l) ∧ Below w.heap.size w w' := by
  obtain ⟨p, c, rfl, -, -, -⟩ := id hx
  have hput := rput_cod (.slice none 0 0) [] (l.length : Int) w (Has.nil w) (by simp) (by omega) (by omega)
  rw [List.nil_append] at hput
  have hnb := numB_le l.length
  have hwr : IntKind.u64.wrap (l.length : Int) = (l.length : Int) := by
    simp [IntKind.wrap, IntKind.bits, IntKind.signed]; omega
  have HX : Hid (HasP w (.slice p l.length c) l) := hx
  have Hs : Hid (∀ p ∈ l, p.1.size ≤ 131072 ∧ p.2.size ≤ 131072) := hs
  clear hx hs
  go_enter Try.func50, Try.ntmps50
  go_wp2_with fail
  refine hput.mono ?_
  rintro e w2 ⟨v2, rfl, ho2, hb2⟩
  clear hput hwr
  generalize hN : l.length = N at *
  have HN : Hid (l.length = N) := hN
  clear hN
  go_wp2
  go_loopw [3, 12] (fun s3 i wr => ∃ (j : Nat) (u : Value), u = s3 ∧ j ≤ N ∧ i = .int .i64 (j : Nat) ∧ Owns wr w.heap.size 5 u (numB (N : Int) ++ pairsB (l.take j)) ∧ Below w.heap.size w wr) (fun _ i _ => N - (intOf i).toNat)
  case atStart => exact ⟨0, _, rfl, Nat.zero_le _, rfl, by rw [List.take_zero]; simpa [pairsB] using ho2, hb2⟩
  case round =>
    clear ho2 hb2
    obtain ⟨j, u, hu, hj, rfl, hr, hbr⟩ := hrel
    subst hu
    by_cases hlt : j < N
    · obtain ⟨bb, oo, rfl, hbb, hcc, -, c1, c2⟩ := (HX.out.below hbr (Nat.le_refl _)).at (j := j) hlt
      have hjx : j < l.length := by rw [HN.out]; exact hlt
      have Ht : Hid (l.take j ++ [l.getD j default] = l.take (j + 1)) := ptake_snoc hjx
      have hszs := Hs.out _ (pgetD_mem hjx)
      have hpl : (numB (N : Int) ++ pairsB (l.take j)).length ≤ 600000000 := by
        have h1 := pairsB_length (m := 131072) (l := l.take j) fun p hp => Hs.out p (List.mem_of_mem_take hp)
        have h2 : (l.take j).length ≤ 2000 := by rw [List.length_take]; omega
        have h3 := Nat.mul_le_mul_right (2 * 131072 + 18) h2
        rw [List.length_append]
        omega
      clear hjx
      generalize l.getD j default = x at *
      obtain ⟨xk, xv⟩ := x
      dsimp only at c1 c2 hszs
      have hbz := hbr.size
      have hA : Below w.heap.size w (wr.alloc (.cells #[.string xk, .string xv] 67)) := hbr.alloc hbz _
      have hrA : Has (wr.alloc (.cells #[.string xk, .string xv] 67)) u (numB (N : Int) ++ pairsB (l.take j)) := hr.has.below ((Below.refl _ _).alloc (Nat.le_refl _) _) (Nat.le_refl _)
      have ck := heap_alloc_new wr (.cells #[.string xk, .string xv] 67)
      have hzA : (wr.alloc (.cells #[.string xk, .string xv] 67)).heap.size = wr.heap.size + 1 := by simp
      generalize hLs : numB (N : Int) ++ pairsB (l.take j) = ys at *
      have HLs : Hid (numB (N : Int) ++ pairsB (l.take j) = ys) := hLs
      clear hLs
      go_wp2_with fail
      generalize wr.alloc (.cells #[.string xk, .string xv] 67) = wa at *
      generalize wr.heap.size = sb at *
      have d0 : wa.cell? ⟨sb, 0, none⟩ = some (.string xk) := by unfold World.cell?; dsimp only; rw [ck]; rfl
      have d1 : wa.cell? ⟨sb, 1, none⟩ = some (.string xv) := by unfold World.cell?; dsimp only; rw [ck]; rfl
      have s0 : wa.drew.cell? ⟨sb, 0, none⟩ = some (.string xk) ∧ wa.drew.cell? ⟨sb, 1, none⟩ = some (.string xv) ∧ Below wa.heap.size wa wa.drew := ⟨d0, d1, ⟨rfl, rfl, rfl, Nat.le_refl _, fun _ _ => rfl⟩⟩
      have hsl : sb < wa.heap.size := by omega
      have hlk := textB_length xk
      have hT1 : ∀ W, Below wa.heap.size wa W → Calls Try.prog 37 #[u, .string xk] W fun e w' => ∃ v', e = .returned v' ∧ Owns w' W.heap.size 5 v' (ys ++ textB xk) ∧ Below W.heap.size W w' := fun W hW => rputText_any u ys xk W (hrA.below hW (Nat.le_refl _)) (by omega) (by omega)
      have hT2 : ∀ W v', Has W v' (ys ++ textB xk) → Calls Try.prog 37 #[v', .string xv] W fun e w' => ∃ v', e = .returned v' ∧ Owns w' W.heap.size 5 v' (ys ++ textB xk ++ textB xv) ∧ Below W.heap.size W w' := fun W v' hv' => rputText_any v' (ys ++ textB xk) xv W hv' (by rw [List.length_append]; omega) (by omega)
      clear c1 c2 hr hbr ck d0 d1
      go_region_held3 (fun w' => w'.cell? ⟨sb, 0, none⟩ = some (.string xk) ∧ w'.cell? ⟨sb, 1, none⟩ = some (.string xv) ∧ Below wa.heap.size wa w')
        (first | exact s0 | assumption | exact keepD hsl (by assumption) (by assumption))
        (first
          | (go_at_call 37; with_reducible refine Calls.mono (hT1 _ (heldD (by assumption))) ?_; rintro e w7 ⟨v7, rfl, ho7, hb7⟩)
          | (go_at_call 37; with_reducible refine Calls.mono (hT2 _ _ ho7.has) ?_; rintro e w8 ⟨v8, rfl, ho8, hb8⟩))
      have hbw : Below wa.heap.size wa w8 := heldD (by assumption)
      have hA8 := hA.trans (hbw.mono hA.size)
      go_wp2
      go_roundw
      case rel =>
        refine ⟨j + 1, _, rfl, by omega, by go_num, ?_, hA8⟩
        rw [← Ht.out, pairsB_snoc, ← List.append_assoc, ← List.append_assoc, HLs.out]
        refine ho8.mono ?_
        have e1 := hA.size
        have e2 := hb7.size
        have e3 : wa.drew.heap.size = wa.heap.size := rfl
        omega
      case measure => simp only [intOf]; omega
    · obtain rfl : j = N := by omega
      go_wp2
      go_ret
      refine ⟨_, rfl, ?_, hbr⟩
      unfold expB
      rw [HN.out]
      rw [show l.take j = l by rw [← HN.out, List.take_length]] at hr
      exact hr
end Go.Proofs.Ytomhmoedicajoaa

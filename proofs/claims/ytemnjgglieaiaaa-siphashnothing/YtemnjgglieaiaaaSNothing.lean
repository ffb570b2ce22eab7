/-
  The walk of SiphashNothing.
-/
import Derived.Test.YtemnjgglieaiaaaHeld4
namespace Go.Proofs.Ytemnjgglieaiaaa
open Go.RowKit

/-- A key's variable and one of four words, made by the call. -/
structure Kv (w : World) (K B : Nat) (k0 k1 : Int) (v : V4) (w' : World) : Prop where
  kat : w'.heap[K]? = some (.cells #[.int .u64 k0, .int .u64 k1] 24 (0, 0))
  vat : Vat w' B v
  bel : Below w.heap.size w w'

theorem Kv.below {w w1 w2 : World} {K B : Nat} {k0 k1 : Int} {v : V4} (h : Kv w K B k0 k1 v w1) (hb : Below w1.heap.size w1 w2) : Kv w K B k0 k1 v w2 :=
  ⟨by rw [hb.block K (lt_of_block h.kat)]; exact h.kat, h.vat.below hb (Nat.le_refl _), h.bel.trans (hb.mono h.bel.size)⟩
theorem Kv.drew {w w1 : World} {K B : Nat} {k0 k1 : Int} {v : V4} (h : Kv w K B k0 k1 v w1) : Kv w K B k0 k1 v w1.drew := ⟨h.kat, h.vat, h.bel.drew⟩
theorem Kv.keyset {w w1 : World} {K B : Nat} {k0 k1 : Int} {v v' : V4} (h : Kv w K B k0 k1 v w1) (hKB : K ≠ B) (hB : w.heap.size ≤ B) (i : Nat) (x : Value) (hv : Vat (w1.setCell ⟨B, i, none⟩ x) B v') : Kv w K B k0 k1 v' (w1.setCell ⟨B, i, none⟩ x) :=
  ⟨by rw [Below.heap_setCell _ _ _ _ hKB]; exact h.kat, hv, h.bel.setCell hB _⟩
theorem Kv.set {w w1 : World} {K B : Nat} {k0 k1 : Int} {v : V4} (h : Kv w K B k0 k1 v w1) (hKB : K ≠ B) (hB : w.heap.size ≤ B) (u : V4) :
    Kv w K B k0 k1 u ((((w1.setCell ⟨B, 0, none⟩ (.int .u64 u.a)).setCell ⟨B, 1, none⟩ (.int .u64 u.b)).setCell ⟨B, 2, none⟩ (.int .u64 u.c)).setCell ⟨B, 3, none⟩ (.int .u64 u.d)) := by
  have h0 := h.keyset hKB hB 0 _ (h.vat.s0 u.a)
  have h1 := h0.keyset hKB hB 1 _ (h0.vat.s1 u.b)
  have h2 := h1.keyset hKB hB 2 _ (h1.vat.s2 u.c)
  exact h2.keyset hKB hB 3 _ (h2.vat.s3 u.d)
theorem Kv.set2 {w w1 : World} {K B : Nat} {k0 k1 : Int} {v : V4} (h : Kv w K B k0 k1 v w1) (hKB : K ≠ B) (hB : w.heap.size ≤ B) (x : Int) : Kv w K B k0 k1 ⟨v.a, v.b, x, v.d⟩ (w1.setCell ⟨B, 2, none⟩ (.int .u64 x)) :=
  h.keyset hKB hB 2 _ (h.vat.s2 x)
theorem Kv.k0 {w w1 : World} {K B : Nat} {k0 k1 : Int} {v : V4} (h : Kv w K B k0 k1 v w1) : w1.cell? ⟨K, 0, none⟩ = some (.int .u64 k0) := by simp [World.cell?, h.kat]
theorem Kv.k1 {w w1 : World} {K B : Nat} {k0 k1 : Int} {v : V4} (h : Kv w K B k0 k1 v w1) : w1.cell? ⟨K, 1, none⟩ = some (.int .u64 k1) := by simp [World.cell?, h.kat]

theorem Kv.hold {w W : World} {K B : Nat} {k0 k1 : Int} {v : V4} (m : Kv w K B k0 k1 v W) :
    W.drew.cell? ⟨K, 0, none⟩ = some (.int .u64 k0) ∧ W.drew.cell? ⟨K, 1, none⟩ = some (.int .u64 k1) ∧ W.drew.cell? ⟨B, 0, none⟩ = some (.int .u64 v.a) ∧ W.drew.cell? ⟨B, 1, none⟩ = some (.int .u64 v.b) ∧ W.drew.cell? ⟨B, 2, none⟩ = some (.int .u64 v.c) ∧ W.drew.cell? ⟨B, 3, none⟩ = some (.int .u64 v.d) ∧ Kv w K B k0 k1 v W.drew :=
  ⟨m.drew.k0, m.drew.k1, m.drew.vat.c0, m.drew.vat.c1, m.drew.vat.c2, m.drew.vat.c3, m.drew⟩
theorem keep6 {w w1 w2 : World} {K B : Nat} {k0 k1 : Int} {v : V4} (hb : Below w1.heap.size w1 w2)
    (h : w1.cell? ⟨K, 0, none⟩ = some (.int .u64 k0) ∧ w1.cell? ⟨K, 1, none⟩ = some (.int .u64 k1) ∧ w1.cell? ⟨B, 0, none⟩ = some (.int .u64 v.a) ∧ w1.cell? ⟨B, 1, none⟩ = some (.int .u64 v.b) ∧ w1.cell? ⟨B, 2, none⟩ = some (.int .u64 v.c) ∧ w1.cell? ⟨B, 3, none⟩ = some (.int .u64 v.d) ∧ Kv w K B k0 k1 v w1) :
    w2.cell? ⟨K, 0, none⟩ = some (.int .u64 k0) ∧ w2.cell? ⟨K, 1, none⟩ = some (.int .u64 k1) ∧ w2.cell? ⟨B, 0, none⟩ = some (.int .u64 v.a) ∧ w2.cell? ⟨B, 1, none⟩ = some (.int .u64 v.b) ∧ w2.cell? ⟨B, 2, none⟩ = some (.int .u64 v.c) ∧ w2.cell? ⟨B, 3, none⟩ = some (.int .u64 v.d) ∧ Kv w K B k0 k1 v w2 := by
  have m := h.2.2.2.2.2.2.below hb
  exact ⟨m.k0, m.k1, m.vat.c0, m.vat.c1, m.vat.c2, m.vat.c3, m⟩
theorem held6 {w w1 : World} {K B : Nat} {k0 k1 : Int} {v : V4}
    (h : w1.cell? ⟨K, 0, none⟩ = some (.int .u64 k0) ∧ w1.cell? ⟨K, 1, none⟩ = some (.int .u64 k1) ∧ w1.cell? ⟨B, 0, none⟩ = some (.int .u64 v.a) ∧ w1.cell? ⟨B, 1, none⟩ = some (.int .u64 v.b) ∧ w1.cell? ⟨B, 2, none⟩ = some (.int .u64 v.c) ∧ w1.cell? ⟨B, 3, none⟩ = some (.int .u64 v.d) ∧ Kv w K B k0 k1 v w1) : Below w.heap.size w w1 :=
  h.2.2.2.2.2.2.bel

theorem xor_zero {x : Int} (h : Wd x) : xorI x 0 = x := by
  obtain ⟨n, rfl, hn⟩ := h.nat
  unfold xorI
  rw [show (0 : Int) = ((0 : Nat) : Int) from rfl, bits_xor_u64_nat _ _ hn (by decide), Nat.xor_zero]

theorem start_ok {k0 k1 : Int} (h0 : Wd k0) (h1 : Wd k1) : (startI k0 k1).ok :=
  ⟨wd_xor h0 ⟨by decide, by decide⟩, wd_xor h1 ⟨by decide, by decide⟩, wd_xor h0 ⟨by decide, by decide⟩, wd_xor h1 ⟨by decide, by decide⟩⟩
theorem round_ok {v : V4} (h : v.ok) : (roundI v).ok := by
  obtain ⟨a, b, c, d⟩ := v
  obtain ⟨_, hb, _, hd⟩ := h
  dsimp only at hb hd
  have b1 := wd_xor (wd_rot hb 13 (by omega)) (wd_add a b)
  have d1 := wd_xor (wd_rot hd 16 (by omega)) (wd_add c d)
  exact ⟨wd_add _ _, wd_xor (wd_rot b1 17 (by omega)) (wd_add _ _), wd_rot (wd_add _ _) 32 (by omega), wd_xor (wd_rot d1 21 (by omega)) (wd_add _ _)⟩

/-- What the hash of no text is. -/
def noneI (s : V4) : Int :=
  let u := roundI (roundI s)
  let z := roundI (roundI (roundI (roundI ⟨u.a, u.b, xorI u.c 255, u.d⟩)))
  xorI (xorI (xorI z.a z.b) z.c) z.d

theorem or00 : bits .or .u64 0 (IntKind.u64.wrap (((0 : Nat) : Int) * 2 ^ 56)) = 0 := by decide +kernel

theorem sum_none (k0 k1 : Int) (f : Nat → Int) (h0 : Wd k0) (h1 : Wd k1) : sumI k0 k1 f 0 = noneI (startI k0 k1) := by
  have hs := start_ok h0 h1
  have hm : mixI (startI k0 k1) 0 = roundI (roundI (startI k0 k1)) := by
    unfold mixI
    rw [xor_zero hs.2.2.2]
    have hu := round_ok (round_ok hs)
    show V4.mk (xorI (roundI (roundI (startI k0 k1))).a 0) _ _ _ = _
    rw [xor_zero hu.1]
    rfl
  have e : sumI k0 k1 f 0 = (let u := mixI (startI k0 k1) (bits .or .u64 0 (IntKind.u64.wrap (((0 : Nat) : Int) * 2 ^ 56))); let z := iterI 4 ⟨u.a, u.b, xorI u.c 255, u.d⟩; xorI (xorI (xorI z.a z.b) z.c) z.d) := rfl
  rw [e, or00, hm]
  rfl

set_option maxHeartbeats 1000000 in
theorem siphashNothing_any (k0 k1 : Int) (w : World) (h0 : 0 ≤ k0 ∧ k0 ≤ 18446744073709551615) (h1 : 0 ≤ k1 ∧ k1 ≤ 18446744073709551615) :
    Calls Try.prog 7 #[.agg #[.int .u64 k0, .int .u64 k1]] w fun e w' => e = .returned (.bool true) ∧ Below w.heap.size w w' := by
  have HS : Hid (sumI k0 k1 (byt ⟨#[]⟩) 0 = noneI (startI k0 k1)) := sum_none k0 k1 _ (wd_le h0) (wd_le h1)
  clear h0 h1
  have hKB : Hid (w.heap.size ≠ w.heap.size + 1) := by unfold Hid; omega
  have hB : Hid (w.heap.size ≤ w.heap.size + 1) := by unfold Hid; omega
  have q0 : bits .xor .u64 k0 8317987319222330741 = (startI k0 k1).a := by simp only [startI, xorI]
  have q1 : bits .xor .u64 k1 7237128888997146477 = (startI k0 k1).b := by simp only [startI, xorI]
  have q2 : bits .xor .u64 k0 7816392313619706465 = (startI k0 k1).c := by simp only [startI, xorI]
  have q3 : bits .xor .u64 k1 8387220255154660723 = (startI k0 k1).d := by simp only [startI, xorI]
  generalize startI k0 k1 = s at HS q0 q1 q2 q3
  go_enter Try.func7, Try.ntmps7
  go_wp2_with fail
  clear q0 q1 q2 q3
  have g0 : Kv w w.heap.size (w.heap.size + 1) k0 k1 s ((w.alloc (.cells #[.int .u64 k0, .int .u64 k1] 24)).alloc (.cells #[.int .u64 s.a, .int .u64 s.b, .int .u64 s.c, .int .u64 s.d] 30)) :=
    ⟨by rw [Below.heap_alloc _ _ _ (by simp), heap_alloc_new], vat_new _ _ _ (by simp), ((Below.refl _ _).alloc (Nat.le_refl _) _).alloc (by simp) _⟩
  refine (round_any s _).mono ?_
  rintro e w1 ⟨rfl, hb1⟩
  have g1 := g0.below hb1
  clear g0 hb1
  generalize w.heap.size + 1 = B at hKB hB g1 ⊢
  generalize hs1 : roundI s = s1
  have HS1 : Hid (roundI s = s1) := hs1
  clear hs1
  simp only [V4.val]
  go_wp2_with fail
  refine (round_any s1 w1).mono ?_
  rintro e w2 ⟨rfl, hb2⟩
  have g2 := g1.below hb2
  clear g1 hb2
  generalize hs2 : roundI s1 = s2 at g2 ⊢
  have HS2 : Hid (roundI s1 = s2) := hs2
  clear hs2
  simp only [V4.val]
  have c0 := g2.vat.c0
  have c1 := g2.vat.c1
  have c2 := g2.vat.c2
  have c3 := g2.vat.c3
  have f0 := g2.vat.free 0
  have f1 := g2.vat.free 1
  have f2 := g2.vat.free 2
  have f3 := g2.vat.free 3
  have g3 := (g2.set hKB.out hB.out s2).set2 hKB.out hB.out (bits .xor .u64 s2.c 255)
  have d0 := g3.vat.c0
  have d1 := g3.vat.c1
  have d2 := g3.vat.c2
  have d3 := g3.vat.c3
  dsimp only at d0 d1 d2 d3
  go_wp2_with fail
  clear c0 c1 c2 c3 f0 f1 f2 f3 d0 d1 d2 d3 g2
  refine (round_any (⟨s2.a, s2.b, bits .xor .u64 s2.c 255, s2.d⟩ : V4) _).mono ?_
  rintro e x1 ⟨rfl, hb1⟩
  have k1 := g3.below hb1
  clear g3 hb1
  generalize hu1 : roundI (⟨s2.a, s2.b, bits .xor .u64 s2.c 255, s2.d⟩ : V4) = u1
  have HU1 : Hid (roundI (⟨s2.a, s2.b, bits .xor .u64 s2.c 255, s2.d⟩ : V4) = u1) := hu1
  clear hu1
  simp only [V4.val]
  go_wp2_with fail
  refine (round_any u1 _).mono ?_
  rintro e x2 ⟨rfl, hb2⟩
  have k2 := k1.below hb2
  clear k1 hb2
  generalize hu2 : roundI u1 = u2
  have HU2 : Hid (roundI u1 = u2) := hu2
  clear hu2
  simp only [V4.val]
  go_wp2_with fail
  refine (round_any u2 _).mono ?_
  rintro e x3 ⟨rfl, hb3⟩
  have k3 := k2.below hb3
  clear k2 hb3
  generalize hu3 : roundI u2 = u3
  have HU3 : Hid (roundI u2 = u3) := hu3
  clear hu3
  simp only [V4.val]
  go_wp2_with fail
  refine (round_any u3 _).mono ?_
  rintro e x4 ⟨rfl, hb4⟩
  have k4 := k3.below hb4
  clear k3 hb4
  generalize hu4 : roundI u3 = u4
  have HU4 : Hid (roundI u3 = u4) := hu4
  clear hu4
  simp only [V4.val]
  have c0 := k4.vat.c0
  have c1 := k4.vat.c1
  have c2 := k4.vat.c2
  have c3 := k4.vat.c3
  have f0 := k4.vat.free 0
  have f1 := k4.vat.free 1
  have f2 := k4.vat.free 2
  have f3 := k4.vat.free 3
  dsimp only at c0 c1 c2 c3
  have HN : Hid (sumI k0 k1 (byt ⟨#[]⟩) (ByteArray.mk #[]).size = bits .xor .u64 (bits .xor .u64 (bits .xor .u64 u4.a u4.b) u4.c) u4.d) := by
    have e := HS.out
    have e1 := HS1.out
    have e2 := HS2.out
    have e3 := HU1.out
    have e4 := HU2.out
    have e5 := HU3.out
    have e6 := HU4.out
    subst e1 e2 e3 e4 e5 e6
    exact e
  clear HS HS1 HS2 HU1 HU2 HU3 HU4
  go_wp2_with fail
  have m := k4.set hKB.out hB.out u4
  clear c0 c1 c2 c3 f0 f1 f2 f3 k4
  generalize (((x4.setCell ⟨B, 0, none⟩ (.int .u64 u4.a)).setCell ⟨B, 1, none⟩ (.int .u64 u4.b)).setCell ⟨B, 2, none⟩ (.int .u64 u4.c)).setCell ⟨B, 3, none⟩ (.int .u64 u4.d) = W at m ⊢
  have s0 := m.hold
  clear m hKB hB
  go_region_held3 (fun w' => w'.cell? ⟨w.heap.size, 0, none⟩ = some (.int .u64 k0) ∧ w'.cell? ⟨w.heap.size, 1, none⟩ = some (.int .u64 k1) ∧ w'.cell? ⟨B, 0, none⟩ = some (.int .u64 u4.a) ∧ w'.cell? ⟨B, 1, none⟩ = some (.int .u64 u4.b) ∧ w'.cell? ⟨B, 2, none⟩ = some (.int .u64 u4.c) ∧ w'.cell? ⟨B, 3, none⟩ = some (.int .u64 u4.d) ∧
      Kv w w.heap.size B k0 k1 u4 w')
    (first | exact s0 | exact keep6 (by assumption) (by assumption))
    (first
      | (go_at_call 9; refine (sum_any k0 k1 ⟨#[]⟩ _ (by decide)).mono ?_; rw [HN.out]; rintro e w' ⟨rfl, hb⟩)
      | (go_at_call 8; refine (lives_any _).mono ?_; rintro e w' ⟨rfl, hb⟩))
  go_wp2
  go_ret
  exact ⟨rfl, held6 (by assumption)⟩
end Go.Proofs.Ytemnjgglieaiaaa

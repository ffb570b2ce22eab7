import Derived.Test.YtiobfdfmfgjpfaaDoorSip1To
import Derived.ChangeKeysEq
/-
  Contract of siphash.Round.
-/
namespace Go.Proofs.YtiobfdfmfgjpfaaDoor
open Go.RowKit

set_option maxHeartbeats 4000000 in
set_option maxRecDepth 10000 in
theorem round_any (v : V4) (w : World) :
    Calls Tryd.prog 84 #[v.val] w fun e w' => e = .returned (roundI v).val ∧ Below w.heap.size w w' := by
  obtain ⟨a, b, c, d⟩ := v
  unfold V4.val
  dsimp only
  go_enter Tryd.func84, Tryd.ntmps84
  go_wp2
  apply one_end
  · go_region_with (go_at_call 88; refine (rot_any _ 13 _ rfl _ (by decide) (by decide) m13).mono ?_; rintro e w' ⟨rfl, rfl⟩)
    all_goals exact EndAt.mk
  go_wp2_with (go_at_call 88; refine (rot_any _ 32 _ rfl _ (by decide) (by decide) m32).mono ?_; rintro e w' ⟨rfl, rfl⟩)
  apply one_end
  · go_region_with (go_at_call 88; refine (rot_any _ 16 _ rfl _ (by decide) (by decide) m16).mono ?_; rintro e w' ⟨rfl, rfl⟩)
    all_goals exact EndAt.mk
  go_wp2
  apply one_end
  · go_region_with (go_at_call 88; refine (rot_any _ 21 _ rfl _ (by decide) (by decide) m21).mono ?_; rintro e w' ⟨rfl, rfl⟩)
    all_goals exact EndAt.mk
  go_wp2
  apply one_end
  · go_region_with (go_at_call 88; refine (rot_any _ 17 _ rfl _ (by decide) (by decide) m17).mono ?_; rintro e w' ⟨rfl, rfl⟩)
    all_goals exact EndAt.mk
  go_wp2_with (go_at_call 88; refine (rot_any _ 32 _ rfl _ (by decide) (by decide) m32).mono ?_; rintro e w' ⟨rfl, rfl⟩)
  refine bodyPost_ret (v := (roundI ⟨a, b, c, d⟩).val) (by simp [results, Tryd.results84, go_sem, roundI, V4.val, addI, xorI]) rfl ⟨rfl, ?_⟩
  exact (((Below.refl _ _).alloc (Nat.le_refl _) _).alloc (by simp) _).drew.drew.drew.drew
end Go.Proofs.YtiobfdfmfgjpfaaDoor

/-
  '==' of two arrays of four words.
-/
namespace Go.Proofs.YtiobfdfmfgjpfaaDoor
open Go.RowKit

theorem info22 : (Tryd.prog.info? 22).isSome = true := by kernel_rfl
theorem cells22 : Tryd.prog.cellsOf 22 = 1 := by kernel_rfl
theorem plain22 : Tryd.prog.plainKey 22 = true := by kernel_rfl

theorem part22 (xs : Array Value) (i : Nat) (x : Int) (w : World) (h : xs[i]? = some (.int .u64 x)) : (part 22 xs (i * Tryd.prog.cellsOf 22)).run Tryd.prog w = .ok (.int .u64 x) w := by
  rw [cells22, Nat.mul_one]
  exact run_part_plain w plain22 h

theorem item22 (xs ys : Array Value) (i : Nat) (is : List Nat) (x y : Int) (w : World) (hx : xs[i]? = some (.int .u64 x)) (hy : ys[i]? = some (.int .u64 y)) :
    (Op.eqItems 9999 22 (Tryd.prog.cellsOf 22) xs ys (i :: is)).run Tryd.prog w = if x = y then (Op.eqItems 9999 22 (Tryd.prog.cellsOf 22) xs ys is).run Tryd.prog w else .ok false w := by
  have e : (Op.equalIn 9999 22 (.int .u64 x) (.int .u64 y)).run Tryd.prog w = .ok (x == y) w := run_equalIn_int w 9998 22 .u64 .u64 x y Tryd.underlying22
  simp only [Op.eqItems, Sem.run_bind, part22 xs i x w hx, part22 ys i y w hy, Result.andThen_ok, e]
  by_cases h : x = y
  · subst h; simp
  · simp [h]

theorem eq4 (a b c d a' b' c' d' : Int) (w : World) : ∃ r : Bool, (Op.equalIn 10000 118 (.agg #[.int .u64 a, .int .u64 b, .int .u64 c, .int .u64 d]) (.agg #[.int .u64 a', .int .u64 b', .int .u64 c', .int .u64 d'])).run Tryd.prog w = .ok r w ∧
    (r = true ↔ a = a' ∧ b = b' ∧ c = c' ∧ d = d') := by
  obtain ⟨i, hi⟩ := Option.isSome_iff_exists.1 info22
  rw [show (10000 : Nat) = 9999 + 1 from rfl, run_equalIn_array w 9999 _ _ Tryd.underlying118 hi, show List.range 4 = [0, 1, 2, 3] from rfl,
    item22 _ _ 0 _ a a' w rfl rfl, item22 _ _ 1 _ b b' w rfl rfl, item22 _ _ 2 _ c c' w rfl rfl, item22 _ _ 3 _ d d' w rfl rfl]
  by_cases h1 : a = a'
  · by_cases h2 : b = b'
    · by_cases h3 : c = c'
      · by_cases h4 : d = d'
        · exact ⟨true, by rw [if_pos h1, if_pos h2, if_pos h3, if_pos h4]; simp [Op.eqItems], by simp [h1, h2, h3, h4]⟩
        · exact ⟨false, by rw [if_pos h1, if_pos h2, if_pos h3, if_neg h4], by simp [h4]⟩
      · exact ⟨false, by rw [if_pos h1, if_pos h2, if_neg h3], by simp [h3]⟩
    · exact ⟨false, by rw [if_pos h1, if_neg h2], by simp [h2]⟩
  · exact ⟨false, by rw [if_neg h1], by simp [h1]⟩

theorem eq4_same (a b c d : Int) (w : World) : (Op.equalIn 10000 118 (.agg #[.int .u64 a, .int .u64 b, .int .u64 c, .int .u64 d]) (.agg #[.int .u64 a, .int .u64 b, .int .u64 c, .int .u64 d])).run Tryd.prog w = .ok true w := by
  obtain ⟨r, h1, h2⟩ := eq4 a b c d a b c d w
  rw [h1, h2.2 ⟨rfl, rfl, rfl, rfl⟩]
theorem eq4_other (u v : V4) (h : u ≠ v) (w : World) : (Op.equalIn 10000 118 (.agg #[.int .u64 u.a, .int .u64 u.b, .int .u64 u.c, .int .u64 u.d]) (.agg #[.int .u64 v.a, .int .u64 v.b, .int .u64 v.c, .int .u64 v.d])).run Tryd.prog w = .ok false w := by
  obtain ⟨r, h1, h2⟩ := eq4 u.a u.b u.c u.d v.a v.b v.c v.d w
  cases r with
  | false => exact h1
  | true =>
    obtain ⟨e1, e2, e3, e4⟩ := h2.1 rfl
    obtain ⟨_, _, _, _⟩ := u
    obtain ⟨_, _, _, _⟩ := v
    exact absurd (by simp only at e1 e2 e3 e4; rw [e1, e2, e3, e4]) h
end Go.Proofs.YtiobfdfmfgjpfaaDoor

/-
  A variable of four words in a block of its own; contracts of siphash.start and of the two functions inside siphash.Sum.
-/
namespace Go.Proofs.YtiobfdfmfgjpfaaDoor
open Go.RowKit

/-- Block B is a variable that holds the four words v. -/
def Vat (w : World) (B : Nat) (v : V4) : Prop := w.heap[B]? = some (.cells #[.int .u64 v.a, .int .u64 v.b, .int .u64 v.c, .int .u64 v.d] 118 (0, 0))

/-- Of what was there, block B alone may have turned. -/
structure Only (B : Nat) (w w' : World) : Prop where
  os : w'.os = w.os
  tape : w'.tape = w.tape
  output : w'.output = w.output
  size : w.heap.size ≤ w'.heap.size
  block : ∀ k, k < w.heap.size → k ≠ B → w'.heap[k]? = w.heap[k]?

theorem Only.refl (B : Nat) (w : World) : Only B w w := ⟨rfl, rfl, rfl, Nat.le_refl _, fun _ _ _ => rfl⟩
theorem Only.trans {B : Nat} {a b c : World} (h : Only B a b) (k : Only B b c) : Only B a c :=
  ⟨k.os.trans h.os, k.tape.trans h.tape, k.output.trans h.output, Nat.le_trans h.size k.size, fun i hi hn => (k.block i (Nat.lt_of_lt_of_le hi h.size) hn).trans (h.block i hi hn)⟩
theorem Only.below {B M : Nat} {w w' : World} (h : Only B w w') (hM : M ≤ B) (hs : M ≤ w.heap.size) : Below M w w' :=
  ⟨h.os, h.tape, h.output, h.size, fun k hk => h.block k (by omega) (by omega)⟩
theorem Only.of {B M : Nat} {w w' : World} (h : Below M w w') (hM : w.heap.size ≤ M) : Only B w w' :=
  ⟨h.os, h.tape, h.output, h.size, fun k hk _ => h.block k (by omega)⟩
theorem Only.alloc {B : Nat} {a w : World} (h : Only B a w) (o : Obj) : Only B a (w.alloc o) :=
  h.trans (Only.of ((Below.refl w.heap.size w).alloc (Nat.le_refl _) o) (Nat.le_refl _))
theorem Only.setCell {B : Nat} {a w : World} (h : Only B a w) (i : Nat) (u : Value) : Only B a (w.setCell ⟨B, i, none⟩ u) :=
  h.trans ⟨rfl, rfl, rfl, by simp [World.setCell], fun k _ hk => Below.heap_setCell _ _ _ _ hk⟩

theorem Vat.lt {w : World} {B : Nat} {v : V4} (h : Vat w B v) : B < w.heap.size := lt_of_block h
theorem Vat.below {w w' : World} {B M : Nat} {v : V4} (h : Vat w B v) (hb : Below M w w') (hM : w.heap.size ≤ M) : Vat w' B v := by
  unfold Vat; rw [hb.block B (Nat.lt_of_lt_of_le h.lt hM)]; exact h
theorem Vat.c0 {w : World} {B : Nat} {v : V4} (h : Vat w B v) : w.cell? ⟨B, 0, none⟩ = some (.int .u64 v.a) := by simp [World.cell?, show w.heap[B]? = _ from h]
theorem Vat.c1 {w : World} {B : Nat} {v : V4} (h : Vat w B v) : w.cell? ⟨B, 1, none⟩ = some (.int .u64 v.b) := by simp [World.cell?, show w.heap[B]? = _ from h]
theorem Vat.c2 {w : World} {B : Nat} {v : V4} (h : Vat w B v) : w.cell? ⟨B, 2, none⟩ = some (.int .u64 v.c) := by simp [World.cell?, show w.heap[B]? = _ from h]
theorem Vat.c3 {w : World} {B : Nat} {v : V4} (h : Vat w B v) : w.cell? ⟨B, 3, none⟩ = some (.int .u64 v.d) := by simp [World.cell?, show w.heap[B]? = _ from h]
theorem Vat.free {w : World} {B : Nat} {v : V4} (h : Vat w B v) (i : Nat) : w.frozen? ⟨B, i, none⟩ = false := by simp [World.frozen?, show w.heap[B]? = _ from h]

theorem Vat.s0 {w : World} {B : Nat} {v : V4} (h : Vat w B v) (x : Int) : Vat (w.setCell ⟨B, 0, none⟩ (.int .u64 x)) B ⟨x, v.b, v.c, v.d⟩ := by
  unfold Vat; simp [World.setCell, Array.getElem?_modify, show w.heap[B]? = _ from h]
theorem Vat.s1 {w : World} {B : Nat} {v : V4} (h : Vat w B v) (x : Int) : Vat (w.setCell ⟨B, 1, none⟩ (.int .u64 x)) B ⟨v.a, x, v.c, v.d⟩ := by
  unfold Vat; simp [World.setCell, Array.getElem?_modify, show w.heap[B]? = _ from h]
theorem Vat.s2 {w : World} {B : Nat} {v : V4} (h : Vat w B v) (x : Int) : Vat (w.setCell ⟨B, 2, none⟩ (.int .u64 x)) B ⟨v.a, v.b, x, v.d⟩ := by
  unfold Vat; simp [World.setCell, Array.getElem?_modify, show w.heap[B]? = _ from h]
theorem Vat.s3 {w : World} {B : Nat} {v : V4} (h : Vat w B v) (x : Int) : Vat (w.setCell ⟨B, 3, none⟩ (.int .u64 x)) B ⟨v.a, v.b, v.c, x⟩ := by
  unfold Vat; simp [World.setCell, Array.getElem?_modify, show w.heap[B]? = _ from h]

/-- n rounds. -/
def iterI : Nat → V4 → V4
  | 0, v => v
  | n + 1, v => iterI n (roundI v)
theorem iter_succ : ∀ (n : Nat) (v : V4), iterI (n + 1) v = roundI (iterI n v)
  | 0, _ => rfl
  | n + 1, v => iter_succ n (roundI v)
theorem iter_fix {v : V4} (h : roundI v = v) : ∀ n, iterI n v = v
  | 0 => rfl
  | n + 1 => by rw [iterI, h]; exact iter_fix h n
theorem iter_add : ∀ (m n : Nat) (v : V4), iterI (m + n) v = iterI n (iterI m v)
  | 0, n, v => by rw [Nat.zero_add]; rfl
  | m + 1, n, v => by rw [Nat.succ_add]; exact iter_add m n (roundI v)

/-- The state ahead of the first block. -/
def startI (k0 k1 : Int) : V4 := ⟨xorI k0 8317987319222330741, xorI k1 7237128888997146477, xorI k0 7816392313619706465, xorI k1 8387220255154660723⟩

set_option maxHeartbeats 1000000 in
theorem start_any (k0 k1 : Int) (w : World) :
    Calls Tryd.prog 82 #[.agg #[.int .u64 k0, .int .u64 k1]] w fun e w' => e = .returned (startI k0 k1).val ∧ Below w.heap.size w w' := by
  go_enter Tryd.func82, Tryd.ntmps82
  go_wp2
  refine bodyPost_ret (v := (startI k0 k1).val) (by simp [results, Tryd.results82, go_sem, startI, V4.val, xorI]) rfl ⟨rfl, ?_⟩
  exact ((Below.refl _ _).alloc (Nat.le_refl _) _).alloc (by simp) _

set_option maxHeartbeats 2000000 in
theorem rounds_any (n B : Nat) (v : V4) (w : World) (hn : n < 1000) (hv : Vat w B v) :
    Calls Tryd.prog 83 #[.int .i64 n, .pointer (some ⟨B, 0, none⟩)] w fun e w' => e = .returned (.tuple #[]) ∧ Vat w' B (iterI n v) ∧ Only B w w' := by
  go_enter Tryd.func83, Tryd.ntmps83
  go_wp2
  go_loopw [5] (fun i wr => ∃ j : Nat, j ≤ n ∧ i = .int .i64 j ∧ Vat wr B (iterI j v) ∧ Only B w wr) (fun i _ => n - (intOf i).toNat)
  case atStart => exact ⟨0, Nat.zero_le _, rfl, hv, Only.refl _ _⟩
  case round =>
    obtain ⟨j, hj, rfl, hr, ho⟩ := hrel
    by_cases hlt : j < n
    · have c0 := hr.c0
      have c1 := hr.c1
      have c2 := hr.c2
      have c3 := hr.c3
      go_wp2_with fail
      refine (round_any (iterI j v) wr).mono ?_
      rintro e w1 ⟨rfl, hb1⟩
      have hr1 := hr.below hb1 (Nat.le_refl _)
      have ho1 := ho.trans (Only.of (B := B) hb1 (Nat.le_refl _))
      clear c0 c1 c2 c3 hr ho hb1
      have hB := hr1.lt
      have c0 := hr1.c0
      have c1 := hr1.c1
      have c2 := hr1.c2
      have c3 := hr1.c3
      by_cases hf : roundI (iterI j v) = iterI j v
      · rw [hf]
        simp only [V4.val]
        have he := fun w => eq4_same (iterI j v).a (iterI j v).b (iterI j v).c (iterI j v).d w
        go_wp2_with fail
        refine bodyPost_ret (v := .tuple #[]) (by simp [results, Tryd.results83, go_sem]) rfl ⟨rfl, ?_, ho1.alloc _⟩
        rw [show n = j + (n - j) by omega, iter_add, iter_fix hf]
        exact hr1.below ((Below.refl _ _).alloc (Nat.le_refl _) _) (Nat.le_refl _)
      · have he := fun w => eq4_other _ _ hf w
        have f0 := hr1.free 0
        have f1 := hr1.free 1
        have f2 := hr1.free 2
        have f3 := hr1.free 3
        simp only [V4.val]
        go_wp2_with fail
        refine ⟨⟨j + 1, hlt, by congr 1, ?_, ?_⟩, by simp only [intOf]; omega⟩
        · rw [iter_succ]
          exact ((((hr1.s0 _).s1 _).s2 _).s3 _).below ((Below.refl _ _).alloc (Nat.le_refl _) _) (Nat.le_refl _)
        · exact ((((ho1.setCell 0 _).setCell 1 _).setCell 2 _).setCell 3 _).alloc _
    · go_wp2
      go_end0
      rw [show n = j by omega]
      exact ⟨rfl, hr, ho⟩

/-- One block goes in. -/
def mixI (v : V4) (m : Int) : V4 := let u := iterI 2 ⟨v.a, v.b, v.c, xorI v.d m⟩; ⟨xorI u.a m, u.b, u.c, u.d⟩

set_option maxHeartbeats 2000000 in
theorem mix_any (m : Int) (B C : Nat) (v : V4) (w : World) (hv : Vat w B v) (_hBC : B ≠ C)
    (hc : w.heap[C]? = some (.cells #[.func (.func 83) #[] #[.pointer (some ⟨B, 0, none⟩)]] 122 (0, 0))) :
    Calls Tryd.prog 85 #[.int .u64 m, .pointer (some ⟨B, 0, none⟩), .pointer (some ⟨C, 0, none⟩)] w fun e w' => e = .returned (.tuple #[]) ∧ Vat w' B (mixI v m) ∧ Only B w w' := by
  have hC := cell_of_one hc
  have c3 := hv.c3
  have f3 := hv.free 3
  go_enter Tryd.func85, Tryd.ntmps85
  go_wp2_with fail
  refine (rounds_any 2 B ⟨v.a, v.b, v.c, xorI v.d m⟩ _ (by decide) (hv.s3 _)).mono ?_
  rintro e w1 ⟨rfl, hv1, ho1⟩
  have ho := ((Only.refl B w).setCell 3 _).trans ho1
  have c0 := hv1.c0
  have f0 := hv1.free 0
  clear ho1 c3 f3
  go_wp2
  go_end0
  exact ⟨rfl, hv1.s0 _, ho.setCell 0 _⟩
end Go.Proofs.YtiobfdfmfgjpfaaDoor

/-
  A variable of four words in a block of its own; contracts of siphash.start and of the two functions inside siphash.Sum.
-/
import Derived.Test.YtkjnifipepiahaaDoorSip2
import Derived.Test.YtkjnifipepiahaaDoorEq4
namespace Go.Proofs.YtkjnifipepiahaaDoor
open Go.RowKit

/-- Block B is a variable that holds the four words v. -/
def Vat (w : World) (B : Nat) (v : V4) : Prop := w.heap[B]? = some (.cells #[.int .u64 v.a, .int .u64 v.b, .int .u64 v.c, .int .u64 v.d] 116 (0, 0))

/-- Of what was there, block B alone may have turned. -/
structure Only (B : Nat) (w w' : World) : Prop where
  os : w'.os = w.os
  tape : w'.tape = w.tape
  output : w'.output = w.output
  size : w.heap.size ≤ w'.heap.size
  block : ∀ k, k < w.heap.size → k ≠ B → w'.heap[k]? = w.heap[k]?

theorem Only.refl (B : Nat) (w : World) : Only B w w := ⟨rfl, rfl, rfl, Nat.le_refl _, fun _ _ _ => rfl⟩
theorem Only.trans {B : Nat} {a b c : World} (h : Only B a b) (k : Only B b c) : Only B a c :=
  ⟨k.os.trans h.os, k.tape.trans h.tape, k.output.trans h.output, Nat.le_trans h.size k.size, fun i hi hn => (k.block i (Nat.lt_of_lt_of_le hi h.size) hn).trans (h.block i hi hn)⟩
theorem Only.below {B M : Nat} {w w' : World} (h : Only B w w') (hM : M ≤ B) (hs : M ≤ w.heap.size) : Below M w w' :=
  ⟨h.os, h.tape, h.output, h.size, fun k hk => h.block k (by omega) (by omega)⟩
theorem Only.of {B M : Nat} {w w' : World} (h : Below M w w') (hM : w.heap.size ≤ M) : Only B w w' :=
  ⟨h.os, h.tape, h.output, h.size, fun k hk _ => h.block k (by omega)⟩
theorem Only.alloc {B : Nat} {a w : World} (h : Only B a w) (o : Obj) : Only B a (w.alloc o) :=
  h.trans (Only.of ((Below.refl w.heap.size w).alloc (Nat.le_refl _) o) (Nat.le_refl _))
theorem Only.setCell {B : Nat} {a w : World} (h : Only B a w) (i : Nat) (u : Value) : Only B a (w.setCell ⟨B, i, none⟩ u) :=
  h.trans ⟨rfl, rfl, rfl, by simp [World.setCell], fun k _ hk => Below.heap_setCell _ _ _ _ hk⟩

theorem Vat.lt {w : World} {B : Nat} {v : V4} (h : Vat w B v) : B < w.heap.size := lt_of_block h
theorem Vat.below {w w' : World} {B M : Nat} {v : V4} (h : Vat w B v) (hb : Below M w w') (hM : w.heap.size ≤ M) : Vat w' B v := by
  unfold Vat; rw [hb.block B (Nat.lt_of_lt_of_le h.lt hM)]; exact h
theorem Vat.c0 {w : World} {B : Nat} {v : V4} (h : Vat w B v) : w.cell? ⟨B, 0, none⟩ = some (.int .u64 v.a) := by simp [World.cell?, show w.heap[B]? = _ from h]
theorem Vat.c1 {w : World} {B : Nat} {v : V4} (h : Vat w B v) : w.cell? ⟨B, 1, none⟩ = some (.int .u64 v.b) := by simp [World.cell?, show w.heap[B]? = _ from h]
theorem Vat.c2 {w : World} {B : Nat} {v : V4} (h : Vat w B v) : w.cell? ⟨B, 2, none⟩ = some (.int .u64 v.c) := by simp [World.cell?, show w.heap[B]? = _ from h]
theorem Vat.c3 {w : World} {B : Nat} {v : V4} (h : Vat w B v) : w.cell? ⟨B, 3, none⟩ = some (.int .u64 v.d) := by simp [World.cell?, show w.heap[B]? = _ from h]
theorem Vat.free {w : World} {B : Nat} {v : V4} (h : Vat w B v) (i : Nat) : w.frozen? ⟨B, i, none⟩ = false := by simp [World.frozen?, show w.heap[B]? = _ from h]

theorem Vat.s0 {w : World} {B : Nat} {v : V4} (h : Vat w B v) (x : Int) : Vat (w.setCell ⟨B, 0, none⟩ (.int .u64 x)) B ⟨x, v.b, v.c, v.d⟩ := by
  unfold Vat; simp [World.setCell, Array.getElem?_modify, show w.heap[B]? = _ from h]
theorem Vat.s1 {w : World} {B : Nat} {v : V4} (h : Vat w B v) (x : Int) : Vat (w.setCell ⟨B, 1, none⟩ (.int .u64 x)) B ⟨v.a, x, v.c, v.d⟩ := by
  unfold Vat; simp [World.setCell, Array.getElem?_modify, show w.heap[B]? = _ from h]
theorem Vat.s2 {w : World} {B : Nat} {v : V4} (h : Vat w B v) (x : Int) : Vat (w.setCell ⟨B, 2, none⟩ (.int .u64 x)) B ⟨v.a, v.b, x, v.d⟩ := by
  unfold Vat; simp [World.setCell, Array.getElem?_modify, show w.heap[B]? = _ from h]
theorem Vat.s3 {w : World} {B : Nat} {v : V4} (h : Vat w B v) (x : Int) : Vat (w.setCell ⟨B, 3, none⟩ (.int .u64 x)) B ⟨v.a, v.b, v.c, x⟩ := by
  unfold Vat; simp [World.setCell, Array.getElem?_modify, show w.heap[B]? = _ from h]

/-- n rounds. -/
def iterI : Nat → V4 → V4
  | 0, v => v
  | n + 1, v => iterI n (roundI v)
theorem iter_succ : ∀ (n : Nat) (v : V4), iterI (n + 1) v = roundI (iterI n v)
  | 0, _ => rfl
  | n + 1, v => iter_succ n (roundI v)
theorem iter_fix {v : V4} (h : roundI v = v) : ∀ n, iterI n v = v
  | 0 => rfl
  | n + 1 => by rw [iterI, h]; exact iter_fix h n
theorem iter_add : ∀ (m n : Nat) (v : V4), iterI (m + n) v = iterI n (iterI m v)
  | 0, n, v => by rw [Nat.zero_add]; rfl
  | m + 1, n, v => by rw [Nat.succ_add]; exact iter_add m n (roundI v)

/-- The state ahead of the first block. -/
def startI (k0 k1 : Int) : V4 := ⟨xorI k0 8317987319222330741, xorI k1 7237128888997146477, xorI k0 7816392313619706465, xorI k1 8387220255154660723⟩

set_option maxHeartbeats 1000000 in
theorem start_any (k0 k1 : Int) (w : World) :
    Calls Tryd.prog 106 #[.agg #[.int .u64 k0, .int .u64 k1]] w fun e w' => e = .returned (startI k0 k1).val ∧ Below w.heap.size w w' := by
  go_enter Tryd.func106, Tryd.ntmps106
  go_wp2
  refine bodyPost_ret (v := (startI k0 k1).val) (by simp [results, Tryd.results106, go_sem, startI, V4.val, xorI]) rfl ⟨rfl, ?_⟩
  exact ((Below.refl _ _).alloc (Nat.le_refl _) _).alloc (by simp) _

set_option maxHeartbeats 2000000 in
theorem rounds_any (n B : Nat) (v : V4) (w : World) (hn : n < 1000) (hv : Vat w B v) :
    Calls Tryd.prog 107 #[.int .i64 n, .pointer (some ⟨B, 0, none⟩)] w fun e w' => e = .returned (.tuple #[]) ∧ Vat w' B (iterI n v) ∧ Only B w w' := by
  go_enter Tryd.func107, Tryd.ntmps107
  go_wp2
  go_loopw [5] (fun i wr => ∃ j : Nat, j ≤ n ∧ i = .int .i64 j ∧ Vat wr B (iterI j v) ∧ Only B w wr) (fun i _ => n - (intOf i).toNat)
  case atStart => exact ⟨0, Nat.zero_le _, rfl, hv, Only.refl _ _⟩
  case round =>
    obtain ⟨j, hj, rfl, hr, ho⟩ := hrel
    by_cases hlt : j < n
    · have c0 := hr.c0
      have c1 := hr.c1
      have c2 := hr.c2
      have c3 := hr.c3
      go_wp2_with fail
      refine (round_any (iterI j v) wr).mono ?_
      rintro e w1 ⟨rfl, hb1⟩
      have hr1 := hr.below hb1 (Nat.le_refl _)
      have ho1 := ho.trans (Only.of (B := B) hb1 (Nat.le_refl _))
      clear c0 c1 c2 c3 hr ho hb1
      have hB := hr1.lt
      have c0 := hr1.c0
      have c1 := hr1.c1
      have c2 := hr1.c2
      have c3 := hr1.c3
      by_cases hf : roundI (iterI j v) = iterI j v
      · rw [hf]
        simp only [V4.val]
        have he := fun w => eq4_same (iterI j v).a (iterI j v).b (iterI j v).c (iterI j v).d w
        go_wp2_with fail
        refine bodyPost_ret (v := .tuple #[]) (by simp [results, Tryd.results107, go_sem]) rfl ⟨rfl, ?_, ho1.alloc _⟩
        rw [show n = j + (n - j) by omega, iter_add, iter_fix hf]
        exact hr1.below ((Below.refl _ _).alloc (Nat.le_refl _) _) (Nat.le_refl _)
      · have he := fun w => eq4_other _ _ hf w
        have f0 := hr1.free 0
        have f1 := hr1.free 1
        have f2 := hr1.free 2
        have f3 := hr1.free 3
        simp only [V4.val]
        go_wp2_with fail
        refine ⟨⟨j + 1, hlt, by congr 1, ?_, ?_⟩, by simp only [intOf]; omega⟩
        · rw [iter_succ]
          exact ((((hr1.s0 _).s1 _).s2 _).s3 _).below ((Below.refl _ _).alloc (Nat.le_refl _) _) (Nat.le_refl _)
        · exact ((((ho1.setCell 0 _).setCell 1 _).setCell 2 _).setCell 3 _).alloc _
    · go_wp2
      go_end0
      rw [show n = j by omega]
      exact ⟨rfl, hr, ho⟩

/-- One block goes in. -/
def mixI (v : V4) (m : Int) : V4 := let u := iterI 2 ⟨v.a, v.b, v.c, xorI v.d m⟩; ⟨xorI u.a m, u.b, u.c, u.d⟩

set_option maxHeartbeats 2000000 in
theorem mix_any (m : Int) (B C : Nat) (v : V4) (w : World) (hv : Vat w B v) (_hBC : B ≠ C)
    (hc : w.heap[C]? = some (.cells #[.func (.func 107) #[] #[.pointer (some ⟨B, 0, none⟩)]] 120 (0, 0))) :
    Calls Tryd.prog 109 #[.int .u64 m, .pointer (some ⟨B, 0, none⟩), .pointer (some ⟨C, 0, none⟩)] w fun e w' => e = .returned (.tuple #[]) ∧ Vat w' B (mixI v m) ∧ Only B w w' := by
  have hC := cell_of_one hc
  have c3 := hv.c3
  have f3 := hv.free 3
  go_enter Tryd.func109, Tryd.ntmps109
  go_wp2_with fail
  refine (rounds_any 2 B ⟨v.a, v.b, v.c, xorI v.d m⟩ _ (by decide) (hv.s3 _)).mono ?_
  rintro e w1 ⟨rfl, hv1, ho1⟩
  have ho := ((Only.refl B w).setCell 3 _).trans ho1
  have c0 := hv1.c0
  have f0 := hv1.free 0
  clear ho1 c3 f3
  go_wp2
  go_end0
  exact ⟨rfl, hv1.s0 _, ho.setCell 0 _⟩
end Go.Proofs.YtkjnifipepiahaaDoor

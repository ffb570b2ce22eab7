/-
  Contract of siphash.block: up to 8 bytes as one number.
-/
import Derived.Test.YtkjnifipepiahaaDoorSip6
import Derived.Laws.EntriesVeiled
import Derived.Test.YtkjnifipepiahaaDoorBase
namespace Go.Proofs.YtkjnifipepiahaaDoor
open Go.RowKit

/-- The byte number j of a text. -/
def byt (s : ByteArray) (j : Nat) : Int := ((s.data.getD j 0).toNat : Int)

/-- Up to 8 bytes as one number, the lowest byte first, as the Go text reckons it. -/
def blkI (f : Nat → Int) : Nat → Int
  | 0 => 0
  | j + 1 => bits .or .u64 (blkI f j) (IntKind.u64.wrap (f j * 2 ^ (8 * j)))

theorem byt_at (s : ByteArray) (j : Nat) (h : j < s.size) : IntKind.u64.wrap ((s[j].toNat : Nat) : Int) = byt s j := by
  have hb : s[j].toNat < 256 := s[j].toNat_lt
  have e : s.data.getD j 0 = s[j] := by
    rw [Array.getD_eq_getD_getElem?, Array.getElem?_eq_getElem (show j < s.data.size from h)]; rfl
  rw [byt, e, IntKind.wrap_u64]
  omega

set_option maxHeartbeats 1000000 in
theorem block_any (s : ByteArray) (w : World) (hs : s.size ≤ 8) :
    Calls Tryd.prog 110 #[.string s] w fun e w' => e = .returned (.int .u64 (blkI (byt s) s.size)) ∧ w' = w := by
  go_enter Tryd.func110, Tryd.ntmps110
  go_wp2
  go_loopw [3, 7] (fun m i wr => ∃ j : Nat, j ≤ s.size ∧ i = .int .i64 j ∧ m = .int .u64 (blkI (byt s) j) ∧ wr = w) (fun _ i _ => s.size - (intOf i).toNat)
  case atStart => exact ⟨0, Nat.zero_le _, rfl, rfl, rfl⟩
  case round =>
    obtain ⟨j, hj, rfl, rfl, rfl⟩ := hrel
    by_cases hlt : j < s.size
    · go_wp2
      rw [byt_at s j hlt]
      exact ⟨⟨j + 1, hlt, rfl, rfl, trivial⟩, by simp only [intOf]; omega⟩
    · go_wp2
      go_ret
      rw [show s.size = j by omega]
      exact ⟨rfl, rfl⟩

/-- The state behind the first k whole blocks. -/
def foldI (f : Nat → Int) : Nat → V4 → V4
  | 0, v => v
  | k + 1, v => mixI (foldI f k v) (blkI (fun j => f (8 * k + j)) 8)

/-- The hash of n bytes, as the Go text reckons it. -/
def sumI (k0 k1 : Int) (f : Nat → Int) (n : Nat) : Int :=
  let u := mixI (foldI f (n / 8) (startI k0 k1)) (bits .or .u64 (blkI (fun j => f (8 * (n / 8) + j)) (n % 8)) (IntKind.u64.wrap ((n : Int) * 2 ^ 56)))
  let z := iterI 4 ⟨u.a, u.b, xorI u.c 255, u.d⟩
  xorI (xorI (xorI z.a z.b) z.c) z.d

theorem blk_congr {f g : Nat → Int} : ∀ n, (∀ j, j < n → f j = g j) → blkI f n = blkI g n
  | 0, _ => rfl
  | n + 1, h => by rw [blkI, blkI, blk_congr n (fun j hj => h j (by omega)), h n (by omega)]

theorem byt_cut (s : ByteArray) (a b j : Nat) (h : a + j < b) (hb : b ≤ s.size) : byt (s.extract a b) j = byt s (a + j) := by
  have hs : (s.extract a b).size = b - a := by rw [ByteArray.size_extract]; omega
  have e1 : (s.extract a b).data.getD j 0 = s.data.getD (a + j) 0 := by
    have h1 : j < (s.extract a b).data.size := by show j < (s.extract a b).size; omega
    have h2 : a + j < s.data.size := by show a + j < s.size; omega
    rw [Array.getD_eq_getD_getElem?, Array.getD_eq_getD_getElem?, ByteArray.data_extract, Array.getElem?_extract]
    simp only [show s.data.size = s.size from rfl]
    rw [if_pos (by omega)]
  rw [byt, byt, e1]

theorem blk_whole (s : ByteArray) (k : Nat) (h : 8 * k + 8 ≤ s.size) : blkI (byt ((s.extract (8 * k) s.size).extract 0 8)) ((s.extract (8 * k) s.size).extract 0 8).size = blkI (fun j => byt s (8 * k + j)) 8 := by
  have h1 : (s.extract (8 * k) s.size).size = s.size - 8 * k := by rw [ByteArray.size_extract]; omega
  have h2 : ((s.extract (8 * k) s.size).extract 0 8).size = 8 := by rw [ByteArray.size_extract]; omega
  rw [h2]
  refine blk_congr 8 fun j hj => ?_
  rw [byt_cut _ 0 8 j (by omega) (by omega), Nat.zero_add, byt_cut s _ _ j (by omega) (Nat.le_refl _)]
theorem blk_rest (s : ByteArray) (k : Nat) (h : 8 * k ≤ s.size) (h2 : ¬ 8 * k + 8 ≤ s.size) : blkI (byt (s.extract (8 * k) s.size)) (s.extract (8 * k) s.size).size = blkI (fun j => byt s (8 * (s.size / 8) + j)) (s.size % 8) := by
  have h1 : (s.extract (8 * k) s.size).size = s.size % 8 := by rw [ByteArray.size_extract]; omega
  have hk : s.size / 8 = k := by omega
  rw [h1, hk]
  refine blk_congr _ fun j hj => ?_
  rw [byt_cut s _ _ j (by omega) (Nat.le_refl _)]

def lenOf : Value → Nat | .string b => b.size | _ => 0

/-- The variable that holds the function of the rounds. -/
def Fat (w : World) (C B : Nat) : Prop := w.heap[C]? = some (.cells #[.func (.func 107) #[] #[.pointer (some ⟨B, 0, none⟩)]] 120 (0, 0))

set_option maxHeartbeats 4000000 in
theorem sum_any (k0 k1 : Int) (s : ByteArray) (w : World) (hs : s.size < 140737488355328) :
    Calls Tryd.prog 96 #[.agg #[.int .u64 k0, .int .u64 k1], .string s] w fun e w' => e = .returned (.int .u64 (sumI k0 k1 (byt s) s.size)) ∧ Below w.heap.size w w' := by
  have hmf : ∀ (fn : Fn) (first cap : Array Value) (w : World), (Instr.makeFunc fn first cap).run Tryd.prog w = .ok (.func fn first cap) w := fun _ _ _ _ => rfl
  go_enter Tryd.func96, Tryd.ntmps96
  go_wp2_with fail
  refine (start_any k0 k1 _).mono ?_
  rintro e w1 ⟨rfl, hb1⟩
  have hb0 : Below w.heap.size w w1 := ((Below.refl w.heap.size w).alloc (Nat.le_refl _) _).trans (hb1.mono (by simp))
  clear hb1
  simp only [V4.val]
  go_wp2
  go_loopw [8] (fun r wr => ∃ k : Nat, 8 * k ≤ s.size ∧ r = .string (s.extract (8 * k) s.size) ∧ Vat wr w1.heap.size (foldI (byt s) k (startI k0 k1)) ∧ Fat wr (w1.heap.size + 1) w1.heap.size ∧ Below w.heap.size w wr) (fun r _ => lenOf r)
  case atStart =>
    refine ⟨0, by omega, by rw [Nat.mul_zero, ByteArray.extract_zero_size], ?_, ?_, ?_⟩
    · unfold Vat
      rw [Below.heap_alloc _ _ _ (by simp), heap_alloc_new]; rfl
    · unfold Fat
      have := heap_alloc_new (w1.alloc (.cells #[.int .u64 (startI k0 k1).a, .int .u64 (startI k0 k1).b, .int .u64 (startI k0 k1).c, .int .u64 (startI k0 k1).d] 116)) (.cells #[.func (.func 107) #[] #[.pointer (some ⟨w1.heap.size, 0, none⟩)]] 120)
      simpa using this
    · exact ((hb0.alloc hb0.size _).alloc (Nat.le_trans hb0.size (by simp)) _)
  case round =>
    obtain ⟨k, hk, rfl, hv, hf, hb⟩ := hrel
    have hsz : (s.extract (8 * k) s.size).size = s.size - 8 * k := by rw [ByteArray.size_extract]; omega
    by_cases hlt : 8 * k + 8 ≤ s.size
    · go_wp2_with fail
      refine same_mono (block_any _ wr (by rw [ByteArray.size_extract]; omega)) ?_
      rw [blk_whole s k hlt]
      go_wp2_with fail
      refine (mix_any _ w1.heap.size (w1.heap.size + 1) _ wr hv (by omega) hf).mono ?_
      rintro e w2 ⟨rfl, hv2, ho2⟩
      have hf2 : Fat w2 (w1.heap.size + 1) w1.heap.size := by unfold Fat; rw [ho2.block _ (lt_of_block hf) (by omega)]; exact hf
      have hb2 := hb.trans (ho2.below hb0.size hb.size)
      clear hv hf hb ho2
      go_wp2_with fail
      refine ⟨⟨k + 1, hlt, ?_, hv2, hf2, hb2⟩, ?_⟩
      · rw [ByteArray.extract_extract]
        congr 2
        omega
      · simp only [lenOf]
        rw [ByteArray.size_extract]
        omega
    · have hkk : s.size / 8 = k := by omega
      go_wp2_with fail
      refine same_mono (block_any _ wr (by omega)) ?_
      rw [blk_rest s k hk hlt]
      go_wp2_with fail
      refine (mix_any _ w1.heap.size (w1.heap.size + 1) _ wr hv (by omega) hf).mono ?_
      rintro e w2 ⟨rfl, hv2, ho2⟩
      have hf2 : Fat w2 (w1.heap.size + 1) w1.heap.size := by unfold Fat; rw [ho2.block _ (lt_of_block hf) (by omega)]; exact hf
      have hb2 := hb.trans (ho2.below hb0.size hb.size)
      clear hv hf hb ho2
      have c2 := hv2.c2
      have f2 := hv2.free 2
      have hC := cell_of_one hf2
      go_wp2_with fail
      refine (rounds_any 4 _ _ _ (by decide) (hv2.s2 _)).mono ?_
      rintro e w3 ⟨rfl, hv3, ho3⟩
      have hb3 := (hb2.setCell (p := ⟨w1.heap.size, 2, none⟩) hb0.size _).trans (ho3.below hb0.size (Nat.le_trans hb2.size (by simp [World.setCell])))
      clear c2 f2 hC hf2 hv2 hb2 ho3
      have d0 := hv3.c0
      have d1 := hv3.c1
      have d2 := hv3.c2
      have d3 := hv3.c3
      go_wp2
      go_ret
      refine ⟨?_, hb3⟩
      unfold sumI
      rw [hkk]
      rfl
end Go.Proofs.YtkjnifipepiahaaDoor

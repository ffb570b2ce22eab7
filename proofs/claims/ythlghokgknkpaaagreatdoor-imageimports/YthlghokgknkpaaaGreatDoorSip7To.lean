import Derived.Test.YthlghokgknkpaaaGreatDoorSip2To
import Derived.ChangeKeysEq
import Derived.Laws.EntriesVeiled
import Derived.Test.YthlghokgknkpaaaGreatDoorBaseTo
/-
  '==' of two arrays of four words.
-/
namespace Go.Proofs.YthlghokgknkpaaaGreatDoor
open Go.RowKit

theorem info22 : (Tryz.prog.info? 22).isSome = true := by kernel_rfl
theorem cells22 : Tryz.prog.cellsOf 22 = 1 := by kernel_rfl
theorem plain22 : Tryz.prog.plainKey 22 = true := by kernel_rfl

theorem part22 (xs : Array Value) (i : Nat) (x : Int) (w : World) (h : xs[i]? = some (.int .u64 x)) : (part 22 xs (i * Tryz.prog.cellsOf 22)).run Tryz.prog w = .ok (.int .u64 x) w := by
  rw [cells22, Nat.mul_one]
  exact run_part_plain w plain22 h

theorem item22 (xs ys : Array Value) (i : Nat) (is : List Nat) (x y : Int) (w : World) (hx : xs[i]? = some (.int .u64 x)) (hy : ys[i]? = some (.int .u64 y)) :
    (Op.eqItems 9999 22 (Tryz.prog.cellsOf 22) xs ys (i :: is)).run Tryz.prog w = if x = y then (Op.eqItems 9999 22 (Tryz.prog.cellsOf 22) xs ys is).run Tryz.prog w else .ok false w := by
  have e : (Op.equalIn 9999 22 (.int .u64 x) (.int .u64 y)).run Tryz.prog w = .ok (x == y) w := run_equalIn_int w 9998 22 .u64 .u64 x y Tryz.underlying22
  simp only [Op.eqItems, Sem.run_bind, part22 xs i x w hx, part22 ys i y w hy, Result.andThen_ok, e]
  by_cases h : x = y
  · subst h; simp
  · simp [h]

theorem eq4 (a b c d a' b' c' d' : Int) (w : World) : ∃ r : Bool, (Op.equalIn 10000 137 (.agg #[.int .u64 a, .int .u64 b, .int .u64 c, .int .u64 d]) (.agg #[.int .u64 a', .int .u64 b', .int .u64 c', .int .u64 d'])).run Tryz.prog w = .ok r w ∧
    (r = true ↔ a = a' ∧ b = b' ∧ c = c' ∧ d = d') := by
  obtain ⟨i, hi⟩ := Option.isSome_iff_exists.1 info22
  rw [show (10000 : Nat) = 9999 + 1 from rfl, run_equalIn_array w 9999 _ _ Tryz.underlying137 hi, show List.range 4 = [0, 1, 2, 3] from rfl,
    item22 _ _ 0 _ a a' w rfl rfl, item22 _ _ 1 _ b b' w rfl rfl, item22 _ _ 2 _ c c' w rfl rfl, item22 _ _ 3 _ d d' w rfl rfl]
  by_cases h1 : a = a'
  · by_cases h2 : b = b'
    · by_cases h3 : c = c'
      · by_cases h4 : d = d'
        · exact ⟨true, by rw [if_pos h1, if_pos h2, if_pos h3, if_pos h4]; simp [Op.eqItems], by simp [h1, h2, h3, h4]⟩
        · exact ⟨false, by rw [if_pos h1, if_pos h2, if_pos h3, if_neg h4], by simp [h4]⟩
      · exact ⟨false, by rw [if_pos h1, if_pos h2, if_neg h3], by simp [h3]⟩
    · exact ⟨false, by rw [if_pos h1, if_neg h2], by simp [h2]⟩
  · exact ⟨false, by rw [if_neg h1], by simp [h1]⟩

theorem eq4_same (a b c d : Int) (w : World) : (Op.equalIn 10000 137 (.agg #[.int .u64 a, .int .u64 b, .int .u64 c, .int .u64 d]) (.agg #[.int .u64 a, .int .u64 b, .int .u64 c, .int .u64 d])).run Tryz.prog w = .ok true w := by
  obtain ⟨r, h1, h2⟩ := eq4 a b c d a b c d w
  rw [h1, h2.2 ⟨rfl, rfl, rfl, rfl⟩]
theorem eq4_other (u v : V4) (h : u ≠ v) (w : World) : (Op.equalIn 10000 137 (.agg #[.int .u64 u.a, .int .u64 u.b, .int .u64 u.c, .int .u64 u.d]) (.agg #[.int .u64 v.a, .int .u64 v.b, .int .u64 v.c, .int .u64 v.d])).run Tryz.prog w = .ok false w := by
  obtain ⟨r, h1, h2⟩ := eq4 u.a u.b u.c u.d v.a v.b v.c v.d w
  cases r with
  | false => exact h1
  | true =>
    obtain ⟨e1, e2, e3, e4⟩ := h2.1 rfl
    obtain ⟨_, _, _, _⟩ := u
    obtain ⟨_, _, _, _⟩ := v
    exact absurd (by simp only at e1 e2 e3 e4; rw [e1, e2, e3, e4]) h
end Go.Proofs.YthlghokgknkpaaaGreatDoor

/-
  A variable of four words in a block of its own; contracts of siphash.start and of the two functions inside siphash.Sum.
-/
namespace Go.Proofs.YthlghokgknkpaaaGreatDoor
open Go.RowKit

/-- Block B is a variable that holds the four words v. -/
def Vat (w : World) (B : Nat) (v : V4) : Prop := w.heap[B]? = some (.cells #[.int .u64 v.a, .int .u64 v.b, .int .u64 v.c, .int .u64 v.d] 137 (0, 0))

/-- Of what was there, block B alone may have turned. -/
structure Only (B : Nat) (w w' : World) : Prop where
  os : w'.os = w.os
  tape : w'.tape = w.tape
  output : w'.output = w.output
  size : w.heap.size ≤ w'.heap.size
  block : ∀ k, k < w.heap.size → k ≠ B → w'.heap[k]? = w.heap[k]?

theorem Only.refl (B : Nat) (w : World) : Only B w w := ⟨rfl, rfl, rfl, Nat.le_refl _, fun _ _ _ => rfl⟩
theorem Only.trans {B : Nat} {a b c : World} (h : Only B a b) (k : Only B b c) : Only B a c :=
  ⟨k.os.trans h.os, k.tape.trans h.tape, k.output.trans h.output, Nat.le_trans h.size k.size, fun i hi hn => (k.block i (Nat.lt_of_lt_of_le hi h.size) hn).trans (h.block i hi hn)⟩
theorem Only.below {B M : Nat} {w w' : World} (h : Only B w w') (hM : M ≤ B) (hs : M ≤ w.heap.size) : Below M w w' :=
  ⟨h.os, h.tape, h.output, h.size, fun k hk => h.block k (by omega) (by omega)⟩
theorem Only.of {B M : Nat} {w w' : World} (h : Below M w w') (hM : w.heap.size ≤ M) : Only B w w' :=
  ⟨h.os, h.tape, h.output, h.size, fun k hk _ => h.block k (by omega)⟩
theorem Only.alloc {B : Nat} {a w : World} (h : Only B a w) (o : Obj) : Only B a (w.alloc o) :=
  h.trans (Only.of ((Below.refl w.heap.size w).alloc (Nat.le_refl _) o) (Nat.le_refl _))
theorem Only.setCell {B : Nat} {a w : World} (h : Only B a w) (i : Nat) (u : Value) : Only B a (w.setCell ⟨B, i, none⟩ u) :=
  h.trans ⟨rfl, rfl, rfl, by simp [World.setCell], fun k _ hk => Below.heap_setCell _ _ _ _ hk⟩

theorem Vat.lt {w : World} {B : Nat} {v : V4} (h : Vat w B v) : B < w.heap.size := lt_of_block h
theorem Vat.below {w w' : World} {B M : Nat} {v : V4} (h : Vat w B v) (hb : Below M w w') (hM : w.heap.size ≤ M) : Vat w' B v := by
  unfold Vat; rw [hb.block B (Nat.lt_of_lt_of_le h.lt hM)]; exact h
theorem Vat.c0 {w : World} {B : Nat} {v : V4} (h : Vat w B v) : w.cell? ⟨B, 0, none⟩ = some (.int .u64 v.a) := by simp [World.cell?, show w.heap[B]? = _ from h]
theorem Vat.c1 {w : World} {B : Nat} {v : V4} (h : Vat w B v) : w.cell? ⟨B, 1, none⟩ = some (.int .u64 v.b) := by simp [World.cell?, show w.heap[B]? = _ from h]
theorem Vat.c2 {w : World} {B : Nat} {v : V4} (h : Vat w B v) : w.cell? ⟨B, 2, none⟩ = some (.int .u64 v.c) := by simp [World.cell?, show w.heap[B]? = _ from h]
theorem Vat.c3 {w : World} {B : Nat} {v : V4} (h : Vat w B v) : w.cell? ⟨B, 3, none⟩ = some (.int .u64 v.d) := by simp [World.cell?, show w.heap[B]? = _ from h]
theorem Vat.free {w : World} {B : Nat} {v : V4} (h : Vat w B v) (i : Nat) : w.frozen? ⟨B, i, none⟩ = false := by simp [World.frozen?, show w.heap[B]? = _ from h]

theorem Vat.s0 {w : World} {B : Nat} {v : V4} (h : Vat w B v) (x : Int) : Vat (w.setCell ⟨B, 0, none⟩ (.int .u64 x)) B ⟨x, v.b, v.c, v.d⟩ := by
  unfold Vat; simp [World.setCell, Array.getElem?_modify, show w.heap[B]? = _ from h]
theorem Vat.s1 {w : World} {B : Nat} {v : V4} (h : Vat w B v) (x : Int) : Vat (w.setCell ⟨B, 1, none⟩ (.int .u64 x)) B ⟨v.a, x, v.c, v.d⟩ := by
  unfold Vat; simp [World.setCell, Array.getElem?_modify, show w.heap[B]? = _ from h]
theorem Vat.s2 {w : World} {B : Nat} {v : V4} (h : Vat w B v) (x : Int) : Vat (w.setCell ⟨B, 2, none⟩ (.int .u64 x)) B ⟨v.a, v.b, x, v.d⟩ := by
  unfold Vat; simp [World.setCell, Array.getElem?_modify, show w.heap[B]? = _ from h]
theorem Vat.s3 {w : World} {B : Nat} {v : V4} (h : Vat w B v) (x : Int) : Vat (w.setCell ⟨B, 3, none⟩ (.int .u64 x)) B ⟨v.a, v.b, v.c, x⟩ := by
  unfold Vat; simp [World.setCell, Array.getElem?_modify, show w.heap[B]? = _ from h]

/-- n rounds. -/
def iterI : Nat → V4 → V4
  | 0, v => v
  | n + 1, v => iterI n (roundI v)
theorem iter_succ : ∀ (n : Nat) (v : V4), iterI (n + 1) v = roundI (iterI n v)
  | 0, _ => rfl
  | n + 1, v => iter_succ n (roundI v)
theorem iter_fix {v : V4} (h : roundI v = v) : ∀ n, iterI n v = v
  | 0 => rfl
  | n + 1 => by rw [iterI, h]; exact iter_fix h n
theorem iter_add : ∀ (m n : Nat) (v : V4), iterI (m + n) v = iterI n (iterI m v)
  | 0, n, v => by rw [Nat.zero_add]; rfl
  | m + 1, n, v => by rw [Nat.succ_add]; exact iter_add m n (roundI v)

/-- The state ahead of the first block. -/
def startI (k0 k1 : Int) : V4 := ⟨xorI k0 8317987319222330741, xorI k1 7237128888997146477, xorI k0 7816392313619706465, xorI k1 8387220255154660723⟩

set_option maxHeartbeats 1000000 in
theorem start_any (k0 k1 : Int) (w : World) :
    Calls Tryz.prog 133 #[.agg #[.int .u64 k0, .int .u64 k1]] w fun e w' => e = .returned (startI k0 k1).val ∧ Below w.heap.size w w' := by
  go_enter Tryz.func133, Tryz.ntmps133
  go_wp2
  refine bodyPost_ret (v := (startI k0 k1).val) (by simp [results, Tryz.results133, go_sem, startI, V4.val, xorI]) rfl ⟨rfl, ?_⟩
  exact ((Below.refl _ _).alloc (Nat.le_refl _) _).alloc (by simp) _

set_option maxHeartbeats 2000000 in
theorem rounds_any (n B : Nat) (v : V4) (w : World) (hn : n < 1000) (hv : Vat w B v) :
    Calls Tryz.prog 134 #[.int .i64 n, .pointer (some ⟨B, 0, none⟩)] w fun e w' => e = .returned (.tuple #[]) ∧ Vat w' B (iterI n v) ∧ Only B w w' := by
  go_enter Tryz.func134, Tryz.ntmps134
  go_wp2
  go_loopw [5] (fun i wr => ∃ j : Nat, j ≤ n ∧ i = .int .i64 j ∧ Vat wr B (iterI j v) ∧ Only B w wr) (fun i _ => n - (intOf i).toNat)
  case atStart => exact ⟨0, Nat.zero_le _, rfl, hv, Only.refl _ _⟩
  case round =>
    obtain ⟨j, hj, rfl, hr, ho⟩ := hrel
    by_cases hlt : j < n
    · have c0 := hr.c0
      have c1 := hr.c1
      have c2 := hr.c2
      have c3 := hr.c3
      go_wp2_with fail
      refine (round_any (iterI j v) wr).mono ?_
      rintro e w1 ⟨rfl, hb1⟩
      have hr1 := hr.below hb1 (Nat.le_refl _)
      have ho1 := ho.trans (Only.of (B := B) hb1 (Nat.le_refl _))
      clear c0 c1 c2 c3 hr ho hb1
      have hB := hr1.lt
      have c0 := hr1.c0
      have c1 := hr1.c1
      have c2 := hr1.c2
      have c3 := hr1.c3
      by_cases hf : roundI (iterI j v) = iterI j v
      · rw [hf]
        simp only [V4.val]
        have he := fun w => eq4_same (iterI j v).a (iterI j v).b (iterI j v).c (iterI j v).d w
        go_wp2_with fail
        refine bodyPost_ret (v := .tuple #[]) (by simp [results, Tryz.results134, go_sem]) rfl ⟨rfl, ?_, ho1.alloc _⟩
        rw [show n = j + (n - j) by omega, iter_add, iter_fix hf]
        exact hr1.below ((Below.refl _ _).alloc (Nat.le_refl _) _) (Nat.le_refl _)
      · have he := fun w => eq4_other _ _ hf w
        have f0 := hr1.free 0
        have f1 := hr1.free 1
        have f2 := hr1.free 2
        have f3 := hr1.free 3
        simp only [V4.val]
        go_wp2_with fail
        refine ⟨⟨j + 1, hlt, by congr 1, ?_, ?_⟩, by simp only [intOf]; omega⟩
        · rw [iter_succ]
          exact ((((hr1.s0 _).s1 _).s2 _).s3 _).below ((Below.refl _ _).alloc (Nat.le_refl _) _) (Nat.le_refl _)
        · exact ((((ho1.setCell 0 _).setCell 1 _).setCell 2 _).setCell 3 _).alloc _
    · go_wp2
      go_end0
      rw [show n = j by omega]
      exact ⟨rfl, hr, ho⟩

/-- One block goes in. -/
def mixI (v : V4) (m : Int) : V4 := let u := iterI 2 ⟨v.a, v.b, v.c, xorI v.d m⟩; ⟨xorI u.a m, u.b, u.c, u.d⟩

set_option maxHeartbeats 2000000 in
theorem mix_any (m : Int) (B C : Nat) (v : V4) (w : World) (hv : Vat w B v) (_hBC : B ≠ C)
    (hc : w.heap[C]? = some (.cells #[.func (.func 134) #[] #[.pointer (some ⟨B, 0, none⟩)]] 155 (0, 0))) :
    Calls Tryz.prog 136 #[.int .u64 m, .pointer (some ⟨B, 0, none⟩), .pointer (some ⟨C, 0, none⟩)] w fun e w' => e = .returned (.tuple #[]) ∧ Vat w' B (mixI v m) ∧ Only B w w' := by
  have hC := cell_of_one hc
  have c3 := hv.c3
  have f3 := hv.free 3
  go_enter Tryz.func136, Tryz.ntmps136
  go_wp2_with fail
  refine (rounds_any 2 B ⟨v.a, v.b, v.c, xorI v.d m⟩ _ (by decide) (hv.s3 _)).mono ?_
  rintro e w1 ⟨rfl, hv1, ho1⟩
  have ho := ((Only.refl B w).setCell 3 _).trans ho1
  have c0 := hv1.c0
  have f0 := hv1.free 0
  clear ho1 c3 f3
  go_wp2
  go_end0
  exact ⟨rfl, hv1.s0 _, ho.setCell 0 _⟩
end Go.Proofs.YthlghokgknkpaaaGreatDoor

/-
  Contract of siphash.block: up to 8 bytes as one number.
-/
namespace Go.Proofs.YthlghokgknkpaaaGreatDoor
open Go.RowKit

/-- The byte number j of a text. -/
def byt (s : ByteArray) (j : Nat) : Int := ((s.data.getD j 0).toNat : Int)

/-- Up to 8 bytes as one number, the lowest byte first, as the Go text reckons it. -/
def blkI (f : Nat → Int) : Nat → Int
  | 0 => 0
  | j + 1 => bits .or .u64 (blkI f j) (IntKind.u64.wrap (f j * 2 ^ (8 * j)))

theorem byt_at (s : ByteArray) (j : Nat) (h : j < s.size) : IntKind.u64.wrap ((s[j].toNat : Nat) : Int) = byt s j := by
  have hb : s[j].toNat < 256 := s[j].toNat_lt
  have e : s.data.getD j 0 = s[j] := by
    rw [Array.getD_eq_getD_getElem?, Array.getElem?_eq_getElem (show j < s.data.size from h)]; rfl
  rw [byt, e, IntKind.wrap_u64]
  omega

set_option maxHeartbeats 1000000 in
theorem block_any (s : ByteArray) (w : World) (hs : s.size ≤ 8) :
    Calls Tryz.prog 137 #[.string s] w fun e w' => e = .returned (.int .u64 (blkI (byt s) s.size)) ∧ w' = w := by
  go_enter Tryz.func137, Tryz.ntmps137
  go_wp2
  go_loopw [3, 7] (fun m i wr => ∃ j : Nat, j ≤ s.size ∧ i = .int .i64 j ∧ m = .int .u64 (blkI (byt s) j) ∧ wr = w) (fun _ i _ => s.size - (intOf i).toNat)
  case atStart => exact ⟨0, Nat.zero_le _, rfl, rfl, rfl⟩
  case round =>
    obtain ⟨j, hj, rfl, rfl, rfl⟩ := hrel
    by_cases hlt : j < s.size
    · go_wp2
      rw [byt_at s j hlt]
      exact ⟨⟨j + 1, hlt, rfl, rfl, trivial⟩, by simp only [intOf]; omega⟩
    · go_wp2
      go_ret
      rw [show s.size = j by omega]
      exact ⟨rfl, rfl⟩

/-- The state behind the first k whole blocks. -/
def foldI (f : Nat → Int) : Nat → V4 → V4
  | 0, v => v
  | k + 1, v => mixI (foldI f k v) (blkI (fun j => f (8 * k + j)) 8)

/-- The hash of n bytes, as the Go text reckons it. -/
def sumI (k0 k1 : Int) (f : Nat → Int) (n : Nat) : Int :=
  let u := mixI (foldI f (n / 8) (startI k0 k1)) (bits .or .u64 (blkI (fun j => f (8 * (n / 8) + j)) (n % 8)) (IntKind.u64.wrap ((n : Int) * 2 ^ 56)))
  let z := iterI 4 ⟨u.a, u.b, xorI u.c 255, u.d⟩
  xorI (xorI (xorI z.a z.b) z.c) z.d

theorem blk_congr {f g : Nat → Int} : ∀ n, (∀ j, j < n → f j = g j) → blkI f n = blkI g n
  | 0, _ => rfl
  | n + 1, h => by rw [blkI, blkI, blk_congr n (fun j hj => h j (by omega)), h n (by omega)]

theorem byt_cut (s : ByteArray) (a b j : Nat) (h : a + j < b) (hb : b ≤ s.size) : byt (s.extract a b) j = byt s (a + j) := by
  have hs : (s.extract a b).size = b - a := by rw [ByteArray.size_extract]; omega
  have e1 : (s.extract a b).data.getD j 0 = s.data.getD (a + j) 0 := by
    have h1 : j < (s.extract a b).data.size := by show j < (s.extract a b).size; omega
    have h2 : a + j < s.data.size := by show a + j < s.size; omega
    rw [Array.getD_eq_getD_getElem?, Array.getD_eq_getD_getElem?, ByteArray.data_extract, Array.getElem?_extract]
    simp only [show s.data.size = s.size from rfl]
    rw [if_pos (by omega)]
  rw [byt, byt, e1]

theorem blk_whole (s : ByteArray) (k : Nat) (h : 8 * k + 8 ≤ s.size) : blkI (byt ((s.extract (8 * k) s.size).extract 0 8)) ((s.extract (8 * k) s.size).extract 0 8).size = blkI (fun j => byt s (8 * k + j)) 8 := by
  have h1 : (s.extract (8 * k) s.size).size = s.size - 8 * k := by rw [ByteArray.size_extract]; omega
  have h2 : ((s.extract (8 * k) s.size).extract 0 8).size = 8 := by rw [ByteArray.size_extract]; omega
  rw [h2]
  refine blk_congr 8 fun j hj => ?_
  rw [byt_cut _ 0 8 j (by omega) (by omega), Nat.zero_add, byt_cut s _ _ j (by omega) (Nat.le_refl _)]
theorem blk_rest (s : ByteArray) (k : Nat) (h : 8 * k ≤ s.size) (h2 : ¬ 8 * k + 8 ≤ s.size) : blkI (byt (s.extract (8 * k) s.size)) (s.extract (8 * k) s.size).size = blkI (fun j => byt s (8 * (s.size / 8) + j)) (s.size % 8) := by
  have h1 : (s.extract (8 * k) s.size).size = s.size % 8 := by rw [ByteArray.size_extract]; omega
  have hk : s.size / 8 = k := by omega
  rw [h1, hk]
  refine blk_congr _ fun j hj => ?_
  rw [byt_cut s _ _ j (by omega) (Nat.le_refl _)]

def lenOf : Value → Nat | .string b => b.size | _ => 0

/-- The variable that holds the function of the rounds. -/
def Fat (w : World) (C B : Nat) : Prop := w.heap[C]? = some (.cells #[.func (.func 134) #[] #[.pointer (some ⟨B, 0, none⟩)]] 155 (0, 0))

set_option maxHeartbeats 4000000 in
theorem sum_any (k0 k1 : Int) (s : ByteArray) (w : World) (hs : s.size < 140737488355328) :
    Calls Tryz.prog 98 #[.agg #[.int .u64 k0, .int .u64 k1], .string s] w fun e w' => e = .returned (.int .u64 (sumI k0 k1 (byt s) s.size)) ∧ Below w.heap.size w w' := by
  have hmf : ∀ (fn : Fn) (first cap : Array Value) (w : World), (Instr.makeFunc fn first cap).run Tryz.prog w = .ok (.func fn first cap) w := fun _ _ _ _ => rfl
  go_enter Tryz.func98, Tryz.ntmps98
  go_wp2_with fail
  refine (start_any k0 k1 _).mono ?_
  rintro e w1 ⟨rfl, hb1⟩
  have hb0 : Below w.heap.size w w1 := ((Below.refl w.heap.size w).alloc (Nat.le_refl _) _).trans (hb1.mono (by simp))
  clear hb1
  simp only [V4.val]
  go_wp2
  go_loopw [8] (fun r wr => ∃ k : Nat, 8 * k ≤ s.size ∧ r = .string (s.extract (8 * k) s.size) ∧ Vat wr w1.heap.size (foldI (byt s) k (startI k0 k1)) ∧ Fat wr (w1.heap.size + 1) w1.heap.size ∧ Below w.heap.size w wr) (fun r _ => lenOf r)
  case atStart =>
    refine ⟨0, by omega, by rw [Nat.mul_zero, ByteArray.extract_zero_size], ?_, ?_, ?_⟩
    · unfold Vat
      rw [Below.heap_alloc _ _ _ (by simp), heap_alloc_new]; rfl
    · unfold Fat
      have := heap_alloc_new (w1.alloc (.cells #[.int .u64 (startI k0 k1).a, .int .u64 (startI k0 k1).b, .int .u64 (startI k0 k1).c, .int .u64 (startI k0 k1).d] 137)) (.cells #[.func (.func 134) #[] #[.pointer (some ⟨w1.heap.size, 0, none⟩)]] 155)
      simpa using this
    · exact ((hb0.alloc hb0.size _).alloc (Nat.le_trans hb0.size (by simp)) _)
  case round =>
    obtain ⟨k, hk, rfl, hv, hf, hb⟩ := hrel
    have hsz : (s.extract (8 * k) s.size).size = s.size - 8 * k := by rw [ByteArray.size_extract]; omega
    by_cases hlt : 8 * k + 8 ≤ s.size
    · go_wp2_with fail
      refine same_mono (block_any _ wr (by rw [ByteArray.size_extract]; omega)) ?_
      rw [blk_whole s k hlt]
      go_wp2_with fail
      refine (mix_any _ w1.heap.size (w1.heap.size + 1) _ wr hv (by omega) hf).mono ?_
      rintro e w2 ⟨rfl, hv2, ho2⟩
      have hf2 : Fat w2 (w1.heap.size + 1) w1.heap.size := by unfold Fat; rw [ho2.block _ (lt_of_block hf) (by omega)]; exact hf
      have hb2 := hb.trans (ho2.below hb0.size hb.size)
      clear hv hf hb ho2
      go_wp2_with fail
      refine ⟨⟨k + 1, hlt, ?_, hv2, hf2, hb2⟩, ?_⟩
      · rw [ByteArray.extract_extract]
        congr 2
        omega
      · simp only [lenOf]
        rw [ByteArray.size_extract]
        omega
    · have hkk : s.size / 8 = k := by omega
      go_wp2_with fail
      refine same_mono (block_any _ wr (by omega)) ?_
      rw [blk_rest s k hk hlt]
      go_wp2_with fail
      refine (mix_any _ w1.heap.size (w1.heap.size + 1) _ wr hv (by omega) hf).mono ?_
      rintro e w2 ⟨rfl, hv2, ho2⟩
      have hf2 : Fat w2 (w1.heap.size + 1) w1.heap.size := by unfold Fat; rw [ho2.block _ (lt_of_block hf) (by omega)]; exact hf
      have hb2 := hb.trans (ho2.below hb0.size hb.size)
      clear hv hf hb ho2
      have c2 := hv2.c2
      have f2 := hv2.free 2
      have hC := cell_of_one hf2
      go_wp2_with fail
      refine (rounds_any 4 _ _ _ (by decide) (hv2.s2 _)).mono ?_
      rintro e w3 ⟨rfl, hv3, ho3⟩
      have hb3 := (hb2.setCell (p := ⟨w1.heap.size, 2, none⟩) hb0.size _).trans (ho3.below hb0.size (Nat.le_trans hb2.size (by simp [World.setCell])))
      clear c2 f2 hC hf2 hv2 hb2 ho3
      have d0 := hv3.c0
      have d1 := hv3.c1
      have d2 := hv3.c2
      have d3 := hv3.c3
      go_wp2
      go_ret
      refine ⟨?_, hb3⟩
      unfold sumI
      rw [hkk]
      rfl
end Go.Proofs.YthlghokgknkpaaaGreatDoor

import Derived.WalkKit
import Derived.Laws.BitsAllLaws
import Derived.Test.YthlghokgknkpaaaGreatDoorChecked
import Derived.Below
import Derived.BigQuiet
import Derived.ProofKit
import Derived.Lib.BitFns
import Derived.Lib.AppendStr
import Derived.Laws.AppendOwnNone
import Derived.Laws.BytesArg
/-
  Plain mathematics: words of eight bytes, sets of eight slots. No program is named here.
-/
namespace Go.Proofs.YthlghokgknkpaaaGreatDoor
open Go.RowKit

/-- The number whose first k bytes are b's. -/
def pk : Nat → (Nat → Nat) → Nat
  | 0, _ => 0
  | k + 1, b => b 0 + 256 * pk k (fun i => b (i + 1))
/-- Byte i of a number. -/
def byteN (n i : Nat) : Nat := n / 256 ^ i % 256
/-- The set of the slots below k that m marks (by 1). -/
def st : Nat → (Nat → Nat) → Nat
  | 0, _ => 0
  | k + 1, m => st k m + m k * 2 ^ k

theorem byteN_lt (n i : Nat) : byteN n i < 256 := Nat.mod_lt _ (by decide)

theorem pk_congr : ∀ (k : Nat) (a b : Nat → Nat), (∀ i, i < k → a i = b i) → pk k a = pk k b
  | 0, _, _, _ => rfl
  | k + 1, a, b, h => by
    show a 0 + 256 * pk k _ = b 0 + 256 * pk k _
    rw [h 0 (by omega), pk_congr k _ _ (fun i hi => h (i + 1) (by omega))]
theorem pk_lt : ∀ (k : Nat) (b : Nat → Nat), (∀ i, b i < 256) → pk k b < 256 ^ k
  | 0, _, _ => Nat.zero_lt_one
  | k + 1, b, h => by
    have h1 := pk_lt k (fun i => b (i + 1)) (fun i => h _)
    have h2 := h 0
    show b 0 + 256 * pk k _ < 256 ^ (k + 1)
    rw [Nat.pow_succ]
    omega
theorem pk_bytes : ∀ (k n : Nat), n < 256 ^ k → pk k (byteN n) = n
  | 0, n, h => by have : n = 0 := by simpa using h
                  subst this; rfl
  | k + 1, n, h => by
    have h1 : n / 256 < 256 ^ k := by rw [Nat.pow_succ] at h; omega
    have h2 := pk_bytes k (n / 256) h1
    show byteN n 0 + 256 * pk k (fun i => byteN n (i + 1)) = n
    rw [pk_congr k (fun i => byteN n (i + 1)) (byteN (n / 256)) (fun i _ => by unfold byteN; rw [Nat.pow_succ, Nat.mul_comm, ← Nat.div_div_eq_div_mul]), h2]
    unfold byteN
    simp only [Nat.pow_zero, Nat.div_one]
    omega
theorem byte_pk : ∀ (k : Nat) (b : Nat → Nat), (∀ i, b i < 256) → ∀ i, i < k → byteN (pk k b) i = b i
  | 0, _, _, i, hi => by omega
  | k + 1, b, h, 0, _ => by
    have := h 0
    show (b 0 + 256 * pk k _) / 256 ^ 0 % 256 = b 0
    simp only [Nat.pow_zero, Nat.div_one]
    omega
  | k + 1, b, h, i + 1, hi => by
    have h1 := byte_pk k (fun i => b (i + 1)) (fun i => h _) i (by omega)
    have h2 := h 0
    show (b 0 + 256 * pk k _) / 256 ^ (i + 1) % 256 = b (i + 1)
    rw [Nat.pow_succ, Nat.mul_comm (256 ^ i) 256, ← Nat.div_div_eq_div_mul, show (b 0 + 256 * pk k (fun i => b (i + 1))) / 256 = pk k (fun i => b (i + 1)) by omega]
    exact h1
theorem pk_add : ∀ (k : Nat) (a b : Nat → Nat), pk k a + pk k b = pk k (fun i => a i + b i)
  | 0, _, _ => rfl
  | k + 1, a, b => by
    have h := pk_add k (fun i => a (i + 1)) (fun i => b (i + 1))
    show a 0 + 256 * pk k _ + (b 0 + 256 * pk k _) = a 0 + b 0 + 256 * pk k _
    rw [← h]; omega
theorem pk_mul : ∀ (k c : Nat) (a : Nat → Nat), pk k (fun i => c * a i) = c * pk k a
  | 0, _, _ => rfl
  | k + 1, c, a => by
    have h := pk_mul k c (fun i => a (i + 1))
    show c * a 0 + 256 * pk k _ = c * (a 0 + 256 * pk k _)
    rw [h, Nat.mul_add, Nat.mul_left_comm]
/-- What goes bit by bit goes byte by byte. -/
theorem pk_lane (f : Nat → Nat → Nat) (h0 : f 0 0 = 0) (hm : ∀ x y, f x y % 2 ^ 8 = f (x % 2 ^ 8) (y % 2 ^ 8)) (hd : ∀ x y, f x y / 2 ^ 8 = f (x / 2 ^ 8) (y / 2 ^ 8)) :
    ∀ (k : Nat) (a b : Nat → Nat), (∀ i, a i < 256) → (∀ i, b i < 256) → f (pk k a) (pk k b) = pk k (fun i => f (a i) (b i))
  | 0, _, _, _, _ => h0
  | k + 1, a, b, ha, hb => by
    have h := pk_lane f h0 hm hd k (fun i => a (i + 1)) (fun i => b (i + 1)) (fun i => ha _) (fun i => hb _)
    have a0 := ha 0
    have b0 := hb 0
    show f (a 0 + 256 * pk k _) (b 0 + 256 * pk k _) = f (a 0) (b 0) + 256 * pk k (fun i => f (a (i + 1)) (b (i + 1)))
    rw [← h]
    have e1 := hm (a 0 + 256 * pk k (fun i => a (i + 1))) (b 0 + 256 * pk k (fun i => b (i + 1)))
    have e2 := hd (a 0 + 256 * pk k (fun i => a (i + 1))) (b 0 + 256 * pk k (fun i => b (i + 1)))
    rw [show (a 0 + 256 * pk k (fun i => a (i + 1))) % 2 ^ 8 = a 0 by omega, show (b 0 + 256 * pk k (fun i => b (i + 1))) % 2 ^ 8 = b 0 by omega] at e1
    rw [show (a 0 + 256 * pk k (fun i => a (i + 1))) / 2 ^ 8 = pk k (fun i => a (i + 1)) by omega, show (b 0 + 256 * pk k (fun i => b (i + 1))) / 2 ^ 8 = pk k (fun i => b (i + 1)) by omega] at e2
    rw [← e1, ← e2]
    omega
theorem pk_and (k : Nat) (a b : Nat → Nat) (ha : ∀ i, a i < 256) (hb : ∀ i, b i < 256) : pk k a &&& pk k b = pk k (fun i => a i &&& b i) :=
  pk_lane (· &&& ·) rfl (fun _ _ => Nat.and_mod_two_pow) (fun _ _ => Nat.and_div_two_pow) k a b ha hb
theorem pk_or (k : Nat) (a b : Nat → Nat) (ha : ∀ i, a i < 256) (hb : ∀ i, b i < 256) : pk k a ||| pk k b = pk k (fun i => a i ||| b i) :=
  pk_lane (· ||| ·) rfl (fun _ _ => Nat.or_mod_two_pow) (fun _ _ => Nat.or_div_two_pow) k a b ha hb
theorem pk_xor (k : Nat) (a b : Nat → Nat) (ha : ∀ i, a i < 256) (hb : ∀ i, b i < 256) : pk k a ^^^ pk k b = pk k (fun i => a i ^^^ b i) :=
  pk_lane (· ^^^ ·) rfl (fun _ _ => Nat.xor_mod_two_pow) (fun _ _ => Nat.xor_div_two_pow) k a b ha hb
theorem pk_not (b : Nat → Nat) (h : ∀ i, b i < 256) : 18446744073709551615 - pk 8 b = pk 8 (fun i => 255 - b i) := by
  have h1 := pk_add 8 b (fun i => 255 - b i)
  rw [pk_congr 8 (fun i => b i + (255 - b i)) (fun _ => 255) (fun i _ => by have := h i; show b i + (255 - b i) = 255; omega), show pk 8 (fun _ => 255) = 18446744073709551615 by decide] at h1
  omega

/-- The marks of the bytes that are 0. -/
theorem noughts_pk (b : Nat → Nat) (h : ∀ i, b i < 256) :
    ((18446744073709551615 - ((pk 8 b &&& 9187201950435737471) + 9187201950435737471 ||| pk 8 b)) &&& 9259542123273814144) = 128 * pk 8 (fun i => if b i = 0 then 1 else 0) := by
  have h1 : ∀ x : Fin 256, (x.val &&& 127) + 127 < 256 ∧ ((x.val &&& 127) + 127 ||| x.val) < 256 ∧ 255 - ((x.val &&& 127) + 127 ||| x.val) < 256 ∧ ((255 - ((x.val &&& 127) + 127 ||| x.val)) &&& 128) = 128 * (if x.val = 0 then 1 else 0) := by decide +kernel
  have h2 := fun i => h1 ⟨b i, h i⟩
  rw [show 9187201950435737471 = pk 8 (fun _ => 127) by decide, show 9259542123273814144 = pk 8 (fun _ => 128) by decide,
    pk_and 8 b _ h (fun _ => by decide), pk_add, pk_or 8 _ b (fun i => (h2 i).1) h, pk_not _ (fun i => (h2 i).2.1), pk_and 8 _ _ (fun i => (h2 i).2.2.1) (fun _ => by decide), ← pk_mul]
  exact pk_congr 8 _ _ fun i _ => (h2 i).2.2.2

theorem fulls_pk (b : Nat → Nat) (h : ∀ i, b i < 256) :
    ((18446744073709551615 - pk 8 b) &&& 9259542123273814144) = 128 * pk 8 (fun i => if b i < 128 then 1 else 0) := by
  have h1 : ∀ x : Fin 256, 255 - x.val < 256 ∧ ((255 - x.val) &&& 128) = 128 * (if x.val < 128 then 1 else 0) := by decide +kernel
  have h2 := fun i => h1 ⟨b i, h i⟩
  rw [show 9259542123273814144 = pk 8 (fun _ => 128) by decide, pk_not _ h, pk_and 8 _ _ (fun i => (h2 i).1) (fun _ => by decide), ← pk_mul]
  exact pk_congr 8 _ _ fun i _ => (h2 i).2

theorem gather_all : ∀ a b c d e f g h : Fin 2,
    (a.val + 256 * (b.val + 256 * (c.val + 256 * (d.val + 256 * (e.val + 256 * (f.val + 256 * (g.val + 256 * (h.val + 256 * 0)))))))) * 72624976668147840 % 18446744073709551616 / 72057594037927936 % 256
      = 0 + a.val * 2 ^ 0 + b.val * 2 ^ 1 + c.val * 2 ^ 2 + d.val * 2 ^ 3 + e.val * 2 ^ 4 + f.val * 2 ^ 5 + g.val * 2 ^ 6 + h.val * 2 ^ 7 := by decide +kernel
theorem gather_pk (m : Nat → Nat) (h : ∀ i, m i < 2) : pk 8 m * 72624976668147840 % 18446744073709551616 / 72057594037927936 % 256 = st 8 m :=
  gather_all ⟨m 0, h 0⟩ ⟨m 1, h 1⟩ ⟨m 2, h 2⟩ ⟨m 3, h 3⟩ ⟨m 4, h 4⟩ ⟨m 5, h 5⟩ ⟨m 6, h 6⟩ ⟨m 7, h 7⟩

theorem st_lt : ∀ (k : Nat) (m : Nat → Nat), (∀ i, m i < 2) → st k m < 2 ^ k
  | 0, _, _ => Nat.zero_lt_one
  | k + 1, m, h => by
    have h1 := st_lt k m h
    have h2 : m k * 2 ^ k ≤ 1 * 2 ^ k := Nat.mul_le_mul_right _ (by have := h k; omega)
    show st k m + m k * 2 ^ k < 2 ^ (k + 1)
    rw [Nat.pow_succ]
    omega
theorem st_congr : ∀ (k : Nat) (a b : Nat → Nat), (∀ i, i < k → a i = b i) → st k a = st k b
  | 0, _, _, _ => rfl
  | k + 1, a, b, h => by
    show st k a + a k * 2 ^ k = st k b + b k * 2 ^ k
    rw [h k (by omega), st_congr k a b (fun i hi => h i (by omega))]
theorem st_or (k : Nat) (m : Nat → Nat) (h : ∀ i, m i < 2) (e : m k = 1) : st k m ||| 2 ^ k = st (k + 1) m := by
  show _ = st k m + m k * 2 ^ k
  rw [e, Nat.one_mul, Nat.or_comm, Nat.add_comm]
  have := Nat.two_pow_add_eq_or_of_lt (st_lt k m h) 1
  rw [Nat.mul_one] at this
  exact this.symm

/-- The slots of a byte; those that are full. -/
def matchN (n h : Nat) : Nat := st 8 (fun i => if byteN n i = h then 1 else 0)
def fullN (n : Nat) : Nat := st 8 (fun i => if byteN n i < 128 then 1 else 0)
/-- A word with another byte. -/
def putN (n k c : Nat) : Nat := pk 8 (fun j => if j = k then c else byteN n j)

theorem ite_lt2 (p : Prop) [Decidable p] : (if p then 1 else 0 : Nat) < 2 := by split <;> decide
theorem ite_lt256 (p : Prop) [Decidable p] : (if p then 1 else 0 : Nat) < 256 := by split <;> decide
theorem matchN_lt (n h : Nat) : matchN n h < 256 := st_lt 8 _ (fun _ => ite_lt2 _)
theorem fullN_lt (n : Nat) : fullN n < 256 := st_lt 8 _ (fun _ => ite_lt2 _)

def noughtsN (n : Nat) : Nat := 128 * pk 8 (fun i => if byteN n i = 0 then 1 else 0)
def markedN (x : Nat) : Nat := x / 128 * 72624976668147840 % 18446744073709551616 / 72057594037927936 % 256
theorem marked_pk (m : Nat → Nat) (h : ∀ i, m i < 2) : markedN (128 * pk 8 m) = st 8 m := by
  unfold markedN
  rw [Nat.mul_div_cancel_left _ (by decide : 0 < 128)]
  exact gather_pk m h
theorem xor_zero (a b : Nat) (h : a ^^^ b = 0) : a = b := by
  have := congrArg (· ^^^ b) h
  simp only [Nat.xor_assoc, Nat.xor_self, Nat.xor_zero, Nat.zero_xor] at this
  exact this
theorem match_eq (n h : Nat) (hn : n < 18446744073709551616) (hh : h < 256) : markedN (noughtsN (n ^^^ 72340172838076673 * h)) = matchN n h := by
  have e : n ^^^ 72340172838076673 * h = pk 8 (fun i => byteN n i ^^^ h) := by
    have e1 : 72340172838076673 * h = pk 8 (fun _ => h) := by
      have := pk_mul 8 h (fun _ => 1)
      rw [show pk 8 (fun _ => 1) = 72340172838076673 by decide] at this
      rw [Nat.mul_comm, ← this]
      exact pk_congr 8 _ _ fun _ _ => Nat.mul_one h
    have e2 : n ^^^ 72340172838076673 * h = pk 8 (byteN n) ^^^ pk 8 (fun _ => h) := by rw [pk_bytes 8 n hn, e1]
    rw [e2, pk_xor 8 _ _ (byteN_lt n) (fun _ => hh)]
  unfold noughtsN matchN
  rw [e, marked_pk _ (fun _ => ite_lt2 _)]
  refine st_congr 8 _ _ fun i hi => ?_
  rw [byte_pk 8 _ (fun i => Nat.xor_lt_two_pow (n := 8) (byteN_lt n i) hh) i hi]
  by_cases hx : byteN n i = h
  · rw [if_pos hx, if_pos (by rw [hx, Nat.xor_self])]
  · rw [if_neg hx, if_neg (fun h0 => hx (xor_zero _ _ h0))]
theorem noughts_eq (n : Nat) (hn : n < 18446744073709551616) :
    ((18446744073709551615 - ((n &&& 9187201950435737471) + 9187201950435737471 ||| n)) &&& 9259542123273814144) = noughtsN n := by
  have := noughts_pk (byteN n) (byteN_lt n)
  rw [pk_bytes 8 n hn] at this
  exact this
theorem full_eq (n : Nat) (hn : n < 18446744073709551616) : markedN ((18446744073709551615 - n) &&& 9259542123273814144) = fullN n := by
  have := fulls_pk (byteN n) (byteN_lt n)
  rw [pk_bytes 8 n hn] at this
  rw [this, marked_pk _ (fun _ => ite_lt2 _)]
  rfl

theorem put_lt (n k c : Nat) (hc : c < 256) : putN n k c < 18446744073709551616 :=
  pk_lt 8 _ fun i => by split; exact hc; exact byteN_lt n i
theorem put_byte (n k c : Nat) (hc : c < 256) (j : Nat) (hj : j < 8) : byteN (putN n k c) j = if j = k then c else byteN n j :=
  byte_pk 8 _ (fun i => by split; exact hc; exact byteN_lt n i) j hj
theorem put_back (n k c : Nat) (hn : n < 18446744073709551616) (hc : c < 256) : putN (putN n k c) k (byteN n k) = n := by
  rw [show n = pk 8 (byteN n) from (pk_bytes 8 n hn).symm] 
  unfold putN
  refine pk_congr 8 _ _ fun j hj => ?_
  rw [pk_bytes 8 n hn]
  by_cases e : j = k
  · rw [if_pos e, e]
  · rw [if_neg e]
    exact (put_byte n k c hc j hj).trans (if_neg e)
theorem one_pk : ∀ c : Fin 256, ∀ k : Fin 8, c.val * 256 ^ k.val = pk 8 (fun j => if j = k.val then c.val else 0) := by decide +kernel
theorem put_eq (n k c : Nat) (hn : n < 18446744073709551616) (hk : k < 8) (hc : c < 256) :
    ((n &&& (18446744073709551615 - 255 * 256 ^ k)) ||| c * 256 ^ k) = putN n k c := by
  have h1 := one_pk ⟨255, by decide⟩ ⟨k, hk⟩
  have h2 := one_pk ⟨c, hc⟩ ⟨k, hk⟩
  have g1 : ∀ i, (if i = k then 255 else 0 : Nat) < 256 := fun i => by split <;> decide
  have g2 : ∀ i, (if i = k then c else 0 : Nat) < 256 := fun i => by split; exact hc; decide
  have g3 : ∀ i, 255 - (if i = k then 255 else 0 : Nat) < 256 := fun i => by omega
  have hall : ∀ x : Fin 256, (x.val &&& (255 - 255)) = 0 ∧ (x.val &&& (255 - 0)) = x.val ∧ (0 ||| x.val) = x.val ∧ (x.val ||| 0) = x.val := by decide +kernel
  dsimp only at h1 h2
  rw [h1, h2, pk_not _ g1]
  conv => lhs; lhs; lhs; rw [← pk_bytes 8 n hn]
  rw [pk_and 8 _ _ (byteN_lt n) g3, pk_or 8 _ _ (fun i => Nat.and_lt_two_pow (n := 8) _ (g3 i)) g2]
  refine pk_congr 8 _ _ fun i _ => ?_
  have a := hall ⟨byteN n i, byteN_lt n i⟩
  have b := hall ⟨c, hc⟩
  dsimp only at a b
  by_cases e : i = k
  · rw [if_pos e, if_pos e, if_pos e, a.1, b.2.2.1]
  · rw [if_neg e, if_neg e, if_neg e, a.2.1, a.2.2.2]
end Go.Proofs.YthlghokgknkpaaaGreatDoor

/-
  Contracts: group.shift, Get, Set, noughts, marked, Match, Empties, Free, Full.
-/
namespace Go.Proofs.YthlghokgknkpaaaGreatDoor
open Go.RowKit

theorem i64_and7 (n : Int) : bits .and .i64 n 7 = n % 8 := by
  show IntKind.i64.wrap ((BitVec.ofInt 64 n &&& BitVec.ofInt 64 7).toNat : Int) = _
  have e : (BitVec.ofInt 64 n &&& BitVec.ofInt 64 7).toNat = (n % 8).toNat := by
    rw [BitVec.toNat_and, show (BitVec.ofInt 64 7).toNat = 2 ^ 3 - 1 by decide, Nat.and_two_pow_sub_one_eq_mod, BitVec.toNat_ofInt]
    omega
  rw [e]
  simp only [IntKind.wrap, IntKind.bits, IntKind.signed]
  simp
  omega
theorem not_u64 (n : Nat) (hn : n < 18446744073709551616) : bits .xor .u64 IntKind.u64.max (n : Int) = ((18446744073709551615 - n : Nat) : Int) := by
  have h1 : ∀ x : Fin 256, 255 ^^^ x.val = 255 - x.val := by decide +kernel
  have e : 18446744073709551615 ^^^ n = 18446744073709551615 - n := by
    have e2 : 18446744073709551615 ^^^ pk 8 (byteN n) = 18446744073709551615 - pk 8 (byteN n) := by
      rw [pk_not _ (byteN_lt n), show 18446744073709551615 = pk 8 (fun _ => 255) by decide, pk_xor 8 _ _ (fun _ => by decide) (byteN_lt n)]
      exact pk_congr 8 _ _ fun i _ => h1 ⟨byteN n i, byteN_lt n i⟩
    rwa [pk_bytes 8 n hn] at e2
  have := bits_xor_u64_nat 18446744073709551615 n (by decide) hn
  rw [e] at this
  exact this

set_option maxHeartbeats 1000000 in
theorem shift_any (i : Int) (w : World) : Calls Tryz.prog 78 #[.int .i64 i] w fun e w' => e = .returned (.int .i64 (i % 8 * 8)) ∧ w' = w := by
  go_enter Tryz.func78, Tryz.ntmps78
  go_wp2
  go_ret
  refine ⟨?_, rfl⟩
  rw [i64_and7]
  show Ending.returned (.int .i64 (wrap64 (i % 8 * 8))) = _
  rw [show wrap64 (i % 8 * 8) = i % 8 * 8 by unfold wrap64; omega]

set_option maxHeartbeats 1000000 in
theorem noughts_any (n : Nat) (w : World) (hn : n < 18446744073709551616) : Calls Tryz.prog 103 #[.int .u64 n] w fun e w' => e = .returned (.int .u64 (noughtsN n)) ∧ w' = w := by
  have e1 := bits_and_u64_nat n 9187201950435737471 hn (by decide)
  have l1 : (n &&& 9187201950435737471) ≤ 9187201950435737471 := Nat.and_le_right
  have e2 : IntKind.u64.wrap (((n &&& 9187201950435737471 : Nat) : Int) + 9187201950435737471) = (((n &&& 9187201950435737471) + 9187201950435737471 : Nat) : Int) := by rw [IntKind.wrap_u64]; omega
  have e3 := bits_or_u64_nat ((n &&& 9187201950435737471) + 9187201950435737471) n (by omega) hn
  have l3 : ((n &&& 9187201950435737471) + 9187201950435737471 ||| n) < 18446744073709551616 := Nat.or_lt_two_pow (n := 64) (by omega) hn
  have e4 := not_u64 _ l3
  have e5 := bits_and_u64_nat (18446744073709551615 - ((n &&& 9187201950435737471) + 9187201950435737471 ||| n)) 9259542123273814144 (by omega) (by decide)
  rw [noughts_eq n hn] at e5
  go_enter Tryz.func103, Tryz.ntmps103
  go_wp2
  go_ret
  refine ⟨?_, rfl⟩
  show Ending.returned (.int .u64 (bits .and .u64 (bits .xor .u64 IntKind.u64.max (bits .or .u64 (IntKind.u64.wrap (bits .and .u64 (n : Int) ((9187201950435737471 : Nat) : Int) + 9187201950435737471)) n)) ((9259542123273814144 : Nat) : Int))) = _
  rw [e1, e2, e3, e4, e5]

set_option maxHeartbeats 1000000 in
theorem marked_any (n : Nat) (w : World) : Calls Tryz.prog 102 #[.int .u64 n] w fun e w' => e = .returned (.int .u8 (markedN n)) ∧ w' = w := by
  go_enter Tryz.func102, Tryz.ntmps102
  go_wp2
  go_ret
  refine ⟨?_, rfl⟩
  show Ending.returned (.int .u8 (IntKind.u64.wrap ((n : Int) / 128 * 72624976668147840) / 72057594037927936 % 256)) = _
  rw [IntKind.wrap_u64]
  rfl
theorem noughtsN_lt (n : Nat) : noughtsN n < 18446744073709551616 := by
  have := pk_lt 8 (fun i => if byteN n i = 0 then 1 else 0) (fun i => ite_lt256 _)
  have h : ∀ m : Nat → Nat, (∀ i, m i < 2) → pk 8 m ≤ 72340172838076673 := fun m h => by
    have h0 := h 0; have h1 := h 1; have h2 := h 2; have h3 := h 3; have h4 := h 4; have h5 := h 5; have h6 := h 6; have h7 := h 7
    simp only [pk, Nat.zero_add, Nat.reduceAdd]
    omega
  have := h (fun i => if byteN n i = 0 then 1 else 0) (fun i => ite_lt2 _)
  unfold noughtsN
  omega

theorem noughts_at {x : Int} (n : Nat) (hx : x = n) (w : World) (hn : n < 18446744073709551616) : Calls Tryz.prog 103 #[.int .u64 x] w fun e w' => e = .returned (.int .u64 (noughtsN n)) ∧ w' = w := by
  subst hx; exact noughts_any n w hn
theorem marked_at {x : Int} (n : Nat) (hx : x = n) (w : World) : Calls Tryz.prog 102 #[.int .u64 x] w fun e w' => e = .returned (.int .u8 (markedN n)) ∧ w' = w := by
  subst hx; exact marked_any n w

set_option maxHeartbeats 1000000 in
theorem match_any (n h : Nat) (w : World) (hn : n < 18446744073709551616) (hh : h < 256) : Calls Tryz.prog 66 #[.int .u64 n, .int .u8 h] w fun e w' => e = .returned (.int .u8 (matchN n h)) ∧ w' = w := by
  have l0 : 72340172838076673 * h < 18446744073709551616 := by omega
  have e1 := bits_xor_u64_nat n (72340172838076673 * h) hn l0
  have l1 : n ^^^ 72340172838076673 * h < 18446744073709551616 := Nat.xor_lt_two_pow (n := 64) hn l0
  have e2 := match_eq n h hn hh
  go_enter Tryz.func66, Tryz.ntmps66
  go_wp2_with fail
  refine (noughts_at (n ^^^ 72340172838076673 * h) (by exact e1) _ l1).mono ?_
  rintro e w' ⟨rfl, rfl⟩
  go_wp2_with fail
  refine (marked_any _ _).mono ?_
  rintro e w' ⟨rfl, rfl⟩
  go_wp2
  go_ret
  exact ⟨by rw [← e2]; rfl, rfl⟩
theorem match_at {x : Int} (n h : Nat) (hx : x = n) (w : World) (hn : n < 18446744073709551616) (hh : h < 256) : Calls Tryz.prog 66 #[.int .u64 x, .int .u8 h] w fun e w' => e = .returned (.int .u8 (matchN n h)) ∧ w' = w := by
  subst hx; exact match_any n h w hn hh

set_option maxHeartbeats 1000000 in
theorem empties_any (n : Nat) (w : World) (hn : n < 18446744073709551616) : Calls Tryz.prog 41 #[.int .u64 n] w fun e w' => e = .returned (.int .u8 (matchN n 128)) ∧ w' = w := by
  go_enter Tryz.func41, Tryz.ntmps41
  go_wp2_with fail
  refine (match_any n 128 _ hn (by decide)).mono ?_
  rintro e w' ⟨rfl, rfl⟩
  go_wp2
  go_ret
  exact ⟨rfl, rfl⟩

/-- Those that are empty or deleted. -/
def freeN (n : Nat) : Nat := st 8 (fun i => if byteN n i = 128 ∨ byteN n i = 254 then 1 else 0)
theorem st_join : ∀ (k : Nat) (a b : Nat → Nat), (∀ i, a i < 2) → (∀ i, b i < 2) → (st k a ||| st k b) = st k (fun i => a i ||| b i)
  | 0, _, _, _, _ => by simp [st]
  | k + 1, a, b, ha, hb => by
    have h := st_join k a b ha hb
    have h2 : ∀ x y : Fin 2, (x.val ||| y.val) < 2 := by decide
    have hc : ∀ i, (a i ||| b i) < 2 := fun i => h2 ⟨a i, ha i⟩ ⟨b i, hb i⟩
    show (st k a + a k * 2 ^ k ||| st k b + b k * 2 ^ k) = st k (fun i => a i ||| b i) + (a k ||| b k) * 2 ^ k
    rw [← h]
    have e : ∀ (m : Nat → Nat), (∀ i, m i < 2) → st k m + m k * 2 ^ k = 2 ^ k * m k ||| st k m := fun m hm => by
      rw [← Nat.two_pow_add_eq_or_of_lt (st_lt k m hm), Nat.add_comm, Nat.mul_comm]
    have e3 := e _ hc
    rw [← h] at e3
    rw [e a ha, e b hb]
    rw [show (a k ||| b k) = (fun i => a i ||| b i) k from rfl, e3]
    have e4 : 2 ^ k * (a k ||| b k) = 2 ^ k * a k ||| 2 ^ k * b k := by
      simp only [← Nat.shiftLeft_eq, Nat.mul_comm (2 ^ k), Nat.shiftLeft_or_distrib]
    rw [e4]
    ac_rfl
theorem free_eq (n : Nat) : matchN n 128 ||| matchN n 254 = freeN n := by
  unfold matchN freeN
  rw [st_join 8 _ _ (fun _ => ite_lt2 _) (fun _ => ite_lt2 _)]
  refine st_congr 8 _ _ fun i _ => ?_
  by_cases h1 : byteN n i = 128
  · rw [if_pos h1, if_neg (by omega), if_pos (.inl h1)]; rfl
  · by_cases h2 : byteN n i = 254
    · rw [if_neg h1, if_pos h2, if_pos (.inr h2)]; rfl
    · rw [if_neg h1, if_neg h2, if_neg (by omega)]; rfl
theorem freeN_lt (n : Nat) : freeN n < 256 := st_lt 8 _ (fun _ => ite_lt2 _)

set_option maxHeartbeats 1000000 in
theorem free_any (n : Nat) (w : World) (hn : n < 18446744073709551616) : Calls Tryz.prog 70 #[.int .u64 n] w fun e w' => e = .returned (.int .u8 (freeN n)) ∧ w' = w := by
  have e1 := u8_or_nat _ _ (matchN_lt n 128) (matchN_lt n 254)
  rw [free_eq] at e1
  go_enter Tryz.func70, Tryz.ntmps70
  go_wp2_with fail
  refine (match_any n 128 _ hn (by decide)).mono ?_
  rintro e w' ⟨rfl, rfl⟩
  go_wp2_with fail
  refine (match_any n 254 _ hn (by decide)).mono ?_
  rintro e w' ⟨rfl, rfl⟩
  go_wp2
  go_ret
  exact ⟨rfl, rfl⟩

set_option maxHeartbeats 1000000 in
theorem full_any (n : Nat) (w : World) (hn : n < 18446744073709551616) : Calls Tryz.prog 104 #[.int .u64 n] w fun e w' => e = .returned (.int .u8 (fullN n)) ∧ w' = w := by
  have e4 := not_u64 n hn
  have e5 := bits_and_u64_nat (18446744073709551615 - n) 9259542123273814144 (by omega) (by decide)
  have e6 := full_eq n hn
  go_enter Tryz.func104, Tryz.ntmps104
  go_wp2_with fail
  refine (marked_at ((18446744073709551615 - n) &&& 9259542123273814144) (by exact e5) _).mono ?_
  rintro e w' ⟨rfl, rfl⟩
  go_wp2
  go_ret
  exact ⟨by rw [← e6]; rfl, rfl⟩

theorem mod8 (i : Int) : i % 8 = 0 ∨ i % 8 = 1 ∨ i % 8 = 2 ∨ i % 8 = 3 ∨ i % 8 = 4 ∨ i % 8 = 5 ∨ i % 8 = 6 ∨ i % 8 = 7 := by omega

set_option maxHeartbeats 1000000 in
theorem get_any (n : Nat) (i : Int) (k : Nat) (hk : i % 8 = k) (w : World) (hn : n < 18446744073709551616) : Calls Tryz.prog 71 #[.int .u64 n, .int .i64 i] w fun e w' => e = .returned (.int .u8 (byteN n k)) ∧ w' = w := by
  have h8 := mod8 i
  go_enter Tryz.func71, Tryz.ntmps71
  go_wp2_with fail
  refine (shift_any _ _).mono ?_
  rintro e w' ⟨rfl, rfl⟩
  rw [hk] at h8 ⊢
  clear hk
  obtain rfl | rfl | rfl | rfl | rfl | rfl | rfl | rfl : k = 0 ∨ k = 1 ∨ k = 2 ∨ k = 3 ∨ k = 4 ∨ k = 5 ∨ k = 6 ∨ k = 7 := by omega
  all_goals clear h8
  all_goals go_wp2
  all_goals go_ret
  all_goals refine ⟨?_, rfl⟩
  all_goals simp [byteN]
  all_goals omega
theorem get_at {i : Int} (n k : Nat) (hi : i = k) (hk : k < 8) (w : World) (hn : n < 18446744073709551616) : Calls Tryz.prog 71 #[.int .u64 n, .int .i64 i] w fun e w' => e = .returned (.int .u8 (byteN n k)) ∧ w' = w :=
  get_any n i k (by omega) w hn

theorem and_not_u64 (n k : Nat) (hn : n < 18446744073709551616) (hk : k < 8) : bits .andNot .u64 (n : Int) ((255 * 256 ^ k : Nat) : Int) = ((n &&& (18446744073709551615 - 255 * 256 ^ k) : Nat) : Int) :=
  u64_andNot_nat n _ hn ((by decide : ∀ k : Fin 8, 255 * 256 ^ k.val < 18446744073709551616) ⟨k, hk⟩)

theorem put_u64 (n k c : Nat) (hn : n < 18446744073709551616) (hk : k < 8) (hc : c < 256) : bits .or .u64 (bits .andNot .u64 (n : Int) ((255 * 256 ^ k : Nat) : Int)) ((c * 256 ^ k : Nat) : Int) = ((putN n k c : Nat) : Int) := by
  have h1 : c * 256 ^ k < 18446744073709551616 := by
    have h2 := (by decide : ∀ k : Fin 8, 256 * 256 ^ k.val ≤ 18446744073709551616) ⟨k, hk⟩
    exact Nat.lt_of_lt_of_le (Nat.mul_lt_mul_of_pos_right hc (Nat.pow_pos (by decide))) h2
  rw [and_not_u64 n k hn hk, bits_or_u64_nat _ _ (Nat.lt_of_le_of_lt Nat.and_le_left hn) h1, put_eq n k c hn hk hc]

set_option maxHeartbeats 1000000 in
theorem set_any (n : Nat) (i : Int) (k c : Nat) (hk : i % 8 = k) (w : World) (hn : n < 18446744073709551616) (hc : c < 256) : Calls Tryz.prog 42 #[.int .u64 n, .int .i64 i, .int .u8 c] w fun e w' => e = .returned (.int .u64 (putN n k c)) ∧ ∃ m, w' = w.drewN m := by
  have h8 := mod8 i
  go_enter Tryz.func42, Tryz.ntmps42
  go_wp2_with fail
  refine (shift_any _ _).mono ?_
  rintro e w' ⟨rfl, rfl⟩
  rw [hk] at h8 ⊢
  clear hk
  obtain rfl | rfl | rfl | rfl | rfl | rfl | rfl | rfl : k = 0 ∨ k = 1 ∨ k = 2 ∨ k = 3 ∨ k = 4 ∨ k = 5 ∨ k = 6 ∨ k = 7 := by omega
  all_goals clear h8
  · have e1 : bits .or .u64 (bits .andNot .u64 (n : Int) 255) (c : Int) = ((putN n 0 c : Nat) : Int) := by
      have e2 := put_u64 n 0 c hn (by decide) hc
      simp only [Nat.reducePow, Int.cast_ofNat_Int, Nat.mul_one] at e2
      exact e2
    go_wp2
    go_quiet (fail)
    go_wp2
    go_ret
    refine ⟨?_, _, rfl⟩
    first | rfl | (show Ending.returned (.int .u64 (bits .or .u64 (bits .andNot .u64 (n : Int) 255) (c : Int))) = _; rw [e1])
  · have e1 : bits .or .u64 (bits .andNot .u64 (n : Int) 65280) ((c : Int) * 256) = ((putN n 1 c : Nat) : Int) := by
      have e2 := put_u64 n 1 c hn (by decide) hc
      simp only [Nat.reducePow, Nat.reduceMul, Int.natCast_mul, Int.cast_ofNat_Int] at e2
      exact e2
    go_wp2
    go_quiet (fail)
    go_wp2
    go_ret
    refine ⟨?_, _, rfl⟩
    first | rfl | (show Ending.returned (.int .u64 (bits .or .u64 (bits .andNot .u64 (n : Int) 65280) ((c : Int) * 256))) = _; rw [e1])
  · have e1 : bits .or .u64 (bits .andNot .u64 (n : Int) 16711680) ((c : Int) * 65536) = ((putN n 2 c : Nat) : Int) := by
      have e2 := put_u64 n 2 c hn (by decide) hc
      simp only [Nat.reducePow, Nat.reduceMul, Int.natCast_mul, Int.cast_ofNat_Int] at e2
      exact e2
    go_wp2
    go_quiet (fail)
    go_wp2
    go_ret
    refine ⟨?_, _, rfl⟩
    first | rfl | (show Ending.returned (.int .u64 (bits .or .u64 (bits .andNot .u64 (n : Int) 16711680) ((c : Int) * 65536))) = _; rw [e1])
  · have e1 : bits .or .u64 (bits .andNot .u64 (n : Int) 4278190080) ((c : Int) * 16777216) = ((putN n 3 c : Nat) : Int) := by
      have e2 := put_u64 n 3 c hn (by decide) hc
      simp only [Nat.reducePow, Nat.reduceMul, Int.natCast_mul, Int.cast_ofNat_Int] at e2
      exact e2
    go_wp2
    go_quiet (fail)
    go_wp2
    go_ret
    refine ⟨?_, _, rfl⟩
    first | rfl | (show Ending.returned (.int .u64 (bits .or .u64 (bits .andNot .u64 (n : Int) 4278190080) ((c : Int) * 16777216))) = _; rw [e1])
  · have e1 : bits .or .u64 (bits .andNot .u64 (n : Int) 1095216660480) ((c : Int) * 4294967296) = ((putN n 4 c : Nat) : Int) := by
      have e2 := put_u64 n 4 c hn (by decide) hc
      simp only [Nat.reducePow, Nat.reduceMul, Int.natCast_mul, Int.cast_ofNat_Int] at e2
      exact e2
    go_wp2
    go_quiet (fail)
    go_wp2
    go_ret
    refine ⟨?_, _, rfl⟩
    first | rfl | (show Ending.returned (.int .u64 (bits .or .u64 (bits .andNot .u64 (n : Int) 1095216660480) ((c : Int) * 4294967296))) = _; rw [e1])
  · have e1 : bits .or .u64 (bits .andNot .u64 (n : Int) 280375465082880) ((c : Int) * 1099511627776) = ((putN n 5 c : Nat) : Int) := by
      have e2 := put_u64 n 5 c hn (by decide) hc
      simp only [Nat.reducePow, Nat.reduceMul, Int.natCast_mul, Int.cast_ofNat_Int] at e2
      exact e2
    go_wp2
    go_quiet (fail)
    go_wp2
    go_ret
    refine ⟨?_, _, rfl⟩
    first | rfl | (show Ending.returned (.int .u64 (bits .or .u64 (bits .andNot .u64 (n : Int) 280375465082880) ((c : Int) * 1099511627776))) = _; rw [e1])
  · have e1 : bits .or .u64 (bits .andNot .u64 (n : Int) 71776119061217280) ((c : Int) * 281474976710656) = ((putN n 6 c : Nat) : Int) := by
      have e2 := put_u64 n 6 c hn (by decide) hc
      simp only [Nat.reducePow, Nat.reduceMul, Int.natCast_mul, Int.cast_ofNat_Int] at e2
      exact e2
    go_wp2
    go_quiet (fail)
    go_wp2
    go_ret
    refine ⟨?_, _, rfl⟩
    first | rfl | (show Ending.returned (.int .u64 (bits .or .u64 (bits .andNot .u64 (n : Int) 71776119061217280) ((c : Int) * 281474976710656))) = _; rw [e1])
  · have e1 : bits .or .u64 (bits .andNot .u64 (n : Int) 18374686479671623680) ((c : Int) * 72057594037927936) = ((putN n 7 c : Nat) : Int) := by
      have e2 := put_u64 n 7 c hn (by decide) hc
      simp only [Nat.reducePow, Nat.reduceMul, Int.natCast_mul, Int.cast_ofNat_Int] at e2
      exact e2
    go_wp2
    go_quiet (fail)
    go_wp2
    go_ret
    refine ⟨?_, _, rfl⟩
    first | rfl | (show Ending.returned (.int .u64 (bits .or .u64 (bits .andNot .u64 (n : Int) 18374686479671623680) ((c : Int) * 72057594037927936))) = _; rw [e1])
end Go.Proofs.YthlghokgknkpaaaGreatDoor

/-
  Byte slices in memory: what a slice of bytes reads as ('Has'), a row of bytes that the call made ('Owns'), and the walk's laws for append, in these words. No program is named here.
-/
namespace Go.Proofs.YthlghokgknkpaaaGreatDoor
open Go.RowKit

def cellsB (xs : List Int) : List Value := xs.map (Value.int .u8)

/-- The value v is a slice that reads as the bytes xs. -/
def Has (w : World) (v : Value) (xs : List Int) : Prop :=
  ∃ p c, v = .slice p xs.length c ∧ xs.length ≤ c ∧ (p = none → c = 0) ∧
    (0 < xs.length → ∃ b o, p = some ⟨b, o, none⟩ ∧ b < w.heap.size ∧ ∀ i, i < xs.length → w.cell? ⟨b, o + i, none⟩ = some (.int .u8 (xs.getD i 0)))

/-- The value v is a slice that the call made, in a row from block B on; it reads as xs. -/
def Owns (w : World) (B : Nat) (e : TypeId) (v : Value) (xs : List Int) : Prop := w.ownsRow B e 1 v xs.length (cellsB xs)

theorem cellsB_length (xs : List Int) : (cellsB xs).length = xs.length := by simp [cellsB]
theorem cellsB_one (xs : List Int) : ∀ u ∈ cellsB xs, u.oneCell' = true := ints_oneCell .u8 xs

theorem Owns.has {w : World} {B : Nat} {e : TypeId} {v : Value} {xs : List Int} (h : Owns w B e v xs) : Has w v xs := by
  rcases h.2 with ⟨rfl, hn⟩ | ⟨g, cap, cur, rfl, hB, hg, hnc, _, _, _⟩
  · exact ⟨none, 0, by rw [hn], by omega, fun _ => rfl, fun h0 => by omega⟩
  · refine ⟨some ⟨g, 0, none⟩, cap, rfl, hnc, (fun h0 => by cases h0), fun _ => ⟨g, 0, rfl, (Array.getElem?_eq_some_iff.1 hg).1, fun i hi => ?_⟩⟩
    have hc := World.ownsRow.cells h (g := g) rfl i (.int .u8 (xs.getD i 0)) (by simp [cellsB, List.getElem?_eq_getElem hi])
    rw [Addr.add_lit] at hc
    exact hc

theorem Owns.nil (w : World) (B : Nat) (e : TypeId) : Owns w B e (.slice none 0 0) [] := World.ownsRow_nil w B e 1

theorem Has.nil (w : World) : Has w (.slice none 0 0) [] := ⟨none, 0, rfl, Nat.le_refl _, fun _ => rfl, fun h => absurd h (Nat.lt_irrefl 0)⟩

theorem Has.below {w w' : World} {B : Nat} {v : Value} {xs : List Int} (h : Has w v xs) (hb : Below B w w') (hB : w.heap.size ≤ B) : Has w' v xs := by
  obtain ⟨p, c, rfl, h1, h2, h3⟩ := h
  refine ⟨p, c, rfl, h1, h2, fun h0 => ?_⟩
  obtain ⟨b, o, rfl, hlt, hc⟩ := h3 h0
  exact ⟨b, o, rfl, Nat.lt_of_lt_of_le hlt hb.size, fun i hi => (hb.cell (p := ⟨b, o + i, none⟩) (by exact Nat.lt_of_lt_of_le hlt hB)).trans (hc i hi)⟩

theorem Owns.below {w w' : World} {B B' : Nat} {e : TypeId} {v : Value} {xs : List Int} (h : Owns w B e v xs) (hb : Below B' w w') (hB : w.heap.size ≤ B') : Owns w' B e v xs := by
  refine ⟨h.1, ?_⟩
  rcases h.2 with hn | ⟨g, cap, cur, rfl, hb1, hg, rest⟩
  · exact .inl hn
  · refine .inr ⟨g, cap, cur, rfl, hb1, ?_, rest⟩
    rw [hb.block g (Nat.lt_of_lt_of_le (Array.getElem?_eq_some_iff.1 hg).1 hB)]
    exact hg

theorem Owns.mono {w : World} {B B' : Nat} {e : TypeId} {v : Value} {xs : List Int} (h : Owns w B e v xs) (hB : B' ≤ B) : Owns w B' e v xs := by
  refine ⟨h.1, ?_⟩
  rcases h.2 with hn | ⟨g, cap, cur, rfl, hb1, rest⟩
  · exact .inl hn
  · exact .inr ⟨g, cap, cur, rfl, Nat.le_trans hB hb1, rest⟩

theorem below_grown {w w' : World} {B : Nat} {e : TypeId} {v : Value} {xs : List Int} (h : Owns w B e v xs) (hB : B ≤ w.heap.size) (hg : w.grownBy w' v.ownBlock) : Below B w w' :=
  (Below.refl _ _).grown hg hB fun k hk => (World.ownsRow.lt h k hk).1

/-- 'append(s, x)' of ONE byte: it has just been laid in a block of its own. -/
theorem ap_one {P : Program} {ops : Array Oper} {rest : List Oper} {o : Oper} {a : Act} {Q : Exit → Act → World → Prop} (w : World) (hgd : o.guard = none) (s x : Operand) (t : TypeId)
    (ho : o.op = .call { callee := .builtin .append, args := #[s, x], argTypes := #[t, t] })
    (B : Nat) (e : TypeId) (i : TypeInfo) (ht : P.underlying t = some (.slice e)) (hi : P.info? e = some i) (hz : i.zero = some (.int .u8 0)) (hsize : i.size = 1) (hby : i.bytes = 1)
    (v : Value) (xs : List Int) (z : Int) (hs : a.eval s = v) (hx : a.eval x = .slice (some ⟨w.heap.size, 0, none⟩) 1 1) (hown : Owns w B e v xs) (hlen : xs.length ≤ 1099511627776) (hB : B ≤ w.heap.size)
    (h : ∀ v' w', Owns w' B e v' (xs ++ [z]) → Below B w w' → wpList P ops Q rest (a.put o.dst v') w') :
    wpList P ops Q (o :: rest) a (w.alloc (.cells #[.int .u8 z] e)) := by
  refine wpList_append_own _ hgd s x t ho B e i (.int .u8 0) 1 1 ht hi hz hsize hby rfl (by decide) v xs.length (cellsB xs) hs (World.ownsRow.alloc hown _) ⟨w.heap.size, 0, none⟩ 1 1 [.int .u8 z] hx rfl ?_ ?_ ?_ ?_ ?_ ?_
  · intro j u hj
    match j, hj with
    | 0, hj => simp at hj; subst hj; simp [Addr.add]
  · intro u hu; simp at hu; subst hu; rfl
  · unfold maxLen; omega
  · omega
  · simp; omega
  · intro v' w' hown' hgrow _
    refine h v' w' ?_ ?_
    · unfold Owns
      simpa [cellsB] using hown'
    · exact ((Below.refl B w).alloc hB _).trans ((Below.refl _ _).grown hgrow (by simp; omega) fun k hk => (World.ownsRow.lt hown k hk).1)

/-- 'append(s, x...)', x any slice of bytes. -/
theorem ap_slice {P : Program} {ops : Array Oper} {rest : List Oper} {o : Oper} {a : Act} {Q : Exit → Act → World → Prop} (w : World) (hgd : o.guard = none) (s x : Operand) (t : TypeId)
    (ho : o.op = .call { callee := .builtin .append, args := #[s, x], argTypes := #[t, t] })
    (B : Nat) (e : TypeId) (i : TypeInfo) (ht : P.underlying t = some (.slice e)) (hi : P.info? e = some i) (hz : i.zero = some (.int .u8 0)) (hsize : i.size = 1) (hby : i.bytes = 1)
    (v : Value) (xs ys : List Int) (hs : a.eval s = v) (hx : Has w (a.eval x) ys) (hown : Owns w B e v xs) (hlen : xs.length ≤ 1099511627776) (hlen2 : ys.length ≤ 1099511627776) (hB : B ≤ w.heap.size)
    (h : ∀ v' w', Owns w' B e v' (xs ++ ys) → Below B w w' → wpList P ops Q rest (a.put o.dst v') w') :
    wpList P ops Q (o :: rest) a w := by
  obtain ⟨p, c, hv, hc, hnone, hcell⟩ := hx
  cases p with
  | none =>
    obtain rfl := hnone rfl
    have hy : ys = [] := List.eq_nil_of_length_eq_zero (by omega)
    subst hy
    refine wpList_append_own_none hgd s x t ho B e i 1 ht hi v xs.length (cellsB xs) hs hown (by simpa using hv) ?_
    refine h v w ?_ (Below.refl _ _)
    simpa using hown
  | some ad =>
    refine wpList_append_own _ hgd s x t ho B e i (.int .u8 0) 1 1 ht hi hz hsize hby rfl (by decide) v xs.length (cellsB xs) hs hown ad ys.length c (cellsB ys) hv (by simp [cellsB]) ?_ (cellsB_one ys) ?_ ?_ hB ?_
    · intro j u hj
      have hjl : j < ys.length := by
        have := (List.getElem?_eq_some_iff.1 hj).1
        simpa [cellsB] using this
      obtain ⟨b, o', hp, _, hcl⟩ := hcell (by omega)
      obtain rfl := Option.some.inj hp
      rw [Addr.add_lit, hcl j hjl]
      simp [cellsB, List.getElem?_eq_getElem hjl] at hj
      subst hj
      simp [List.getElem?_eq_getElem hjl]
    · unfold maxLen; omega
    · omega
    · intro v' w' hown' hgrow _
      refine h v' w' ?_ (below_grown hown hB hgrow)
      unfold Owns
      simpa [cellsB] using hown'

/-- The same, as a step of a region that draws its order. -/
theorem step_slice {P : Program} {ops : Array Oper} {o : Oper} {a : Act} {K : Act → World → Prop} {Q : Exit → Act → World → Prop} {E : Prop} (w : World) (hgd : o.guard = none) (s x : Operand) (t : TypeId)
    (ho : o.op = .call { callee := .builtin .append, args := #[s, x], argTypes := #[t, t] })
    (B : Nat) (e : TypeId) (i : TypeInfo) (ht : P.underlying t = some (.slice e)) (hi : P.info? e = some i) (hz : i.zero = some (.int .u8 0)) (hsize : i.size = 1) (hby : i.bytes = 1)
    (v : Value) (xs ys : List Int) (hs : a.eval s = v) (hx : Has w (a.eval x) ys) (hown : Owns w B e v xs) (hlen : xs.length ≤ 1099511627776) (hlen2 : ys.length ≤ 1099511627776) (hB : B ≤ w.heap.size)
    (h : ∀ v' w', Owns w' B e v' (xs ++ ys) → Below B w w' → K (a.put o.dst v') w') :
    if Region.wanted o (yielded ops a.tmps) = true then Oper.wp P o a w K Q else E := by
  have hw : Region.wanted o (yielded ops a.tmps) = true := by simp [Region.wanted, hgd]
  rw [if_pos hw]
  obtain ⟨p, c, hv, hc, hnone, hcell⟩ := hx
  cases p with
  | none =>
    obtain rfl := hnone rfl
    have hy : ys = [] := List.eq_nil_of_length_eq_zero (by omega)
    subst hy
    have hrun := run_append_owned_none (P := P) w B t o.type e i 1 ht hi v xs.length (cellsB xs) hown
    have hv' : a.eval x = .slice none 0 0 := by simpa using hv
    unfold Oper.wp
    simp [execOp, ho, resolve, invoke, builtin, hs, hv', hrun, Result.andThen]
    exact h v w (by simpa using hown) (Below.refl _ _)
  | some ad =>
    refine wp_append_own w s x t ho B e i (.int .u8 0) 1 1 ht hi hz hsize hby rfl (by decide) v xs.length (cellsB xs) hs hown ad ys.length c (cellsB ys) hv (by simp [cellsB]) ?_ (cellsB_one ys) ?_ ?_ hB ?_
    · intro j u hj
      have hjl : j < ys.length := by
        have := (List.getElem?_eq_some_iff.1 hj).1
        simpa [cellsB] using this
      obtain ⟨b, o', hp, _, hcl⟩ := hcell (by omega)
      obtain rfl := Option.some.inj hp
      rw [Addr.add_lit, hcl j hjl]
      simp [cellsB, List.getElem?_eq_getElem hjl] at hj
      subst hj
      simp [List.getElem?_eq_getElem hjl]
    · unfold maxLen; omega
    · omega
    · intro v' w' hown' hgrow _
      refine h v' w' ?_ (below_grown hown hB hgrow)
      unfold Owns
      simpa [cellsB] using hown'

/-- 'append(s, x...)', x a string. -/
theorem ap_text {P : Program} {ops : Array Oper} {rest : List Oper} {o : Oper} {a : Act} {Q : Exit → Act → World → Prop} (w : World) (hgd : o.guard = none) (s x : Operand) (t u : TypeId)
    (ho : o.op = .call { callee := .builtin .append, args := #[s, x], argTypes := #[t, u] })
    (B : Nat) (e : TypeId) (i : TypeInfo) (ht : P.underlying t = some (.slice e)) (hu : P.underlying u = some .string) (hi : P.info? e = some i) (hz : i.zero = some (.int .u8 0)) (hsize : i.size = 1) (hby : i.bytes = 1)
    (v : Value) (xs : List Int) (str : ByteArray) (hs : a.eval s = v) (hx : a.eval x = .string str) (hown : Owns w B e v xs) (hlen : xs.length ≤ 1099511627776) (hlen2 : str.size ≤ 1099511627776) (hB : B ≤ w.heap.size)
    (h : ∀ v' w', Owns w' B e v' (xs ++ str.data.toList.map fun b => (b.toNat : Int)) → Below B w w' → wpList P ops Q rest (a.put o.dst v') w') :
    wpList P ops Q (o :: rest) a w := by
  refine Lib.wpList_append_own_string _ hgd s x t u ho B e i ht hu hi hz hsize hby v xs.length (cellsB xs) hs hown str hx (by unfold maxLen; omega) (by omega) hB ?_
  intro v' w' hown' hgrow _
  refine h v' w' ?_ (below_grown hown hB hgrow)
  unfold Owns
  have e1 : (xs ++ str.data.toList.map fun b => (b.toNat : Int)).length = xs.length + str.size := by
    rw [List.length_append, List.length_map, Array.length_toList]; rfl
  have e2 : cellsB (xs ++ str.data.toList.map fun b => (b.toNat : Int)) = cellsB xs ++ Lib.strCells str := by simp [cellsB, Lib.strCells]
  rw [e1, e2]
  exact hown'

/-- 'string(b)'. -/
theorem Has.conv {P : Program} {w : World} {v : Value} {xs : List Int} (h : Has w v xs) (src e dst : TypeId) (hs : P.underlying src = some (.slice e)) (he : P.underlying e = some (.int .u8)) (hd : P.underlying dst = some .string) :
    (convert src dst v).run P w = .ok (.string (strOfNums xs)) w := by
  obtain ⟨p, c, rfl, hc, hnone, hcell⟩ := h
  rcases Nat.eq_zero_or_pos xs.length with hn | hn
  · obtain rfl : xs = [] := List.eq_nil_of_length_eq_zero hn
    cases p with
    | none => exact run_convert_bytes_nil w src e hs he _ _ dst hd
    | some a =>
      rw [run_convert_bytes_string w src dst e _ _ c hs he hd]
      simp [Conv.bytesToString, loadCells]
      rfl
  · obtain ⟨b, o, rfl, _, hc⟩ := hcell hn
    exact run_convert_bytes_arg w src e hs he b o _ c xs rfl hc dst hd

/-- A slice of bytes that has just been laid in a block of its own. -/
theorem Has.lit (w : World) (xs : List Int) (e : TypeId) (fr : Nat × Nat := (0, 0)) : Has (w.alloc (.cells (xs.map (Value.int .u8)).toArray e fr)) (.slice (some ⟨w.heap.size, 0, none⟩) xs.length xs.length) xs := by
  refine ⟨_, _, rfl, Nat.le_refl _, (fun h => by cases h), fun _ => ⟨w.heap.size, 0, rfl, by simp, fun i hi => ?_⟩⟩
  rw [Nat.zero_add, cell_of_row _ w.heap.size i _ e fr (heap_alloc_new w _)]
  simp [List.getElem?_eq_getElem hi]

/-- 'b[lo:lo+m]'. -/
theorem Has.cutAt {w : World} {b o c : Nat} {xs : List Int} (h : Has w (.slice (some ⟨b, o, none⟩) xs.length c) xs) (lo m : Nat) (hm : lo + m ≤ xs.length) : Has w (.slice (some ⟨b, o + lo, none⟩) m (c - lo)) ((xs.drop lo).take m) := by
  obtain ⟨p, c', hv, hc, _, hcell⟩ := h
  simp only [Value.slice.injEq] at hv
  obtain ⟨rfl, _, rfl⟩ := hv
  have hlen : ((xs.drop lo).take m).length = m := by simp; omega
  refine ⟨_, _, by rw [hlen], by rw [hlen]; omega, (fun h => by cases h), fun h0 => ?_⟩
  rw [hlen] at h0 ⊢
  obtain ⟨b', o', hp, hlt, hcl⟩ := hcell (by omega)
  simp only [Option.some.injEq, Addr.mk.injEq] at hp
  obtain ⟨rfl, rfl, _⟩ := hp
  refine ⟨b, o + lo, rfl, hlt, fun i hi => ?_⟩
  rw [Nat.add_assoc, hcl (lo + i) (by omega)]
  simp [hi]

theorem Has.takeN {w : World} {p : Option Addr} {c : Nat} {xs : List Int} {n : Nat} (h : Has w (.slice p n c) xs) (j : Nat) (hj : j ≤ xs.length) : Has w (.slice p j c) (xs.take j) := by
  obtain ⟨p', c', hv, hc, hnone, hcell⟩ := h
  simp only [Value.slice.injEq] at hv
  obtain ⟨rfl, _, rfl⟩ := hv
  have hlen : (xs.take j).length = j := by rw [List.length_take]; omega
  refine ⟨p, c, by rw [hlen], by rw [hlen]; omega, hnone, fun h0 => ?_⟩
  rw [hlen] at h0 ⊢
  obtain ⟨b, o, hp, hlt, hcl⟩ := hcell (by omega)
  exact ⟨b, o, hp, hlt, fun i hi => by rw [hcl i (by omega)]; simp [hi]⟩

/-- An empty slice, wherever it points. -/
theorem Has.empty (w : World) (p : Option Addr) (c : Nat) (h : p = none → c = 0) : Has w (.slice p 0 c) [] := ⟨p, c, rfl, Nat.zero_le _, h, fun h0 => absurd h0 (Nat.lt_irrefl 0)⟩

/-- 'T{}', just laid. -/
theorem Owns.empty (w : World) (B : Nat) (e : TypeId) (hB : B ≤ w.heap.size) : Owns (w.alloc (.cells #[] e)) B e (.slice (some ⟨w.heap.size, 0, none⟩) 0 0) [] :=
  World.ownsRow_made w #[] 0 hB (Nat.zero_le _) rfl

/-- A slice of bytes that has just been laid in a block of its own, as a row that the call made. -/
theorem Owns.lit (w : World) (B : Nat) (xs : List Int) (e : TypeId) (hB : B ≤ w.heap.size) (hl : xs.length ≤ 1099511627776) : Owns (w.alloc (.cells (xs.map (Value.int .u8)).toArray e)) B e (.slice (some ⟨w.heap.size, 0, none⟩) xs.length xs.length) xs := by
  refine ⟨by simp [cellsB], .inr ⟨w.heap.size, xs.length, _, rfl, hB, heap_alloc_new w _, Nat.le_refl _, by unfold maxLen; omega, by simp, ?_⟩⟩
  rw [Nat.mul_one]
  exact List.take_of_length_le (by simp)

/-- 'b[j] = z' on a row that the call made. -/
theorem Owns.store {w : World} {B g cap : Nat} {e : TypeId} {xs : List Int} (h : Owns w B e (.slice (some ⟨g, 0, none⟩) xs.length cap) xs) (j : Nat) (z : Int) :
    Owns (w.setCell ⟨g, j, none⟩ (.int .u8 z)) B e (.slice (some ⟨g, 0, none⟩) xs.length cap) (xs.set j z) ∧ w.grownBy (w.setCell ⟨g, j, none⟩ (.int .u8 z)) (some g) := by
  obtain ⟨h1, h2⟩ := World.ownsRow.stored h j (.int .u8 z)
  refine ⟨?_, h2⟩
  unfold Owns
  have e1 : (xs.set j z).length = xs.length := by simp
  have e2 : cellsB (xs.set j z) = (cellsB xs).set j (.int .u8 z) := by simp [cellsB, List.map_set]
  rw [e1, e2]
  exact h1

/-- A row of bytes that holds something, written out. -/
theorem Owns.form {w : World} {B : Nat} {e : TypeId} {v : Value} {xs : List Int} (h : Owns w B e v xs) (h0 : 0 < xs.length) :
    ∃ g cap, v = .slice (some ⟨g, 0, none⟩) xs.length cap ∧ B ≤ g ∧ g < w.heap.size ∧ xs.length ≤ cap ∧ (∀ i, i < xs.length → w.cell? ⟨g, i, none⟩ = some (.int .u8 (xs.getD i 0))) ∧ ∀ j, w.frozen? ⟨g, j, none⟩ = false := by
  rcases h.2 with ⟨_, hn⟩ | ⟨g, cap, cur, rfl, hB, hg, hnc, _, _, _⟩
  · omega
  · refine ⟨g, cap, rfl, hB, (Array.getElem?_eq_some_iff.1 hg).1, hnc, fun i hi => ?_, World.ownsRow.frozenAt h⟩
    rw [World.ownsRow.cellAt h i (by omega)]
    simp [cellsB, List.getElem?_eq_getElem hi]

/-- A callee that leaves the world as it is. -/
theorem same_mono {P : Program} {f : FuncId} {args : Array Value} {w : World} {v : Value} {Q : Ending → World → Prop} (h : Calls P f args w fun e w' => e = .returned v ∧ w' = w) (hQ : Q (.returned v) w) : Calls P f args w Q :=
  h.mono fun e w' h => by obtain ⟨rfl, rfl⟩ := h; exact hQ

end Go.Proofs.YthlghokgknkpaaaGreatDoor

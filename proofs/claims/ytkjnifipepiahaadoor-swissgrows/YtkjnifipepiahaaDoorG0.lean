/-
  Plain mathematics: words of eight bytes, sets of eight slots. No program is named here.
-/
import Derived.WalkKit
import Derived.Laws.BitsAllLaws
namespace Go.Proofs.YtkjnifipepiahaaDoor
open Go.RowKit

/-- The number whose first k bytes are b's. -/
def pk : Nat → (Nat → Nat) → Nat
  | 0, _ => 0
  | k + 1, b => b 0 + 256 * pk k (fun i => b (i + 1))
/-- Byte i of a number. -/
def byteN (n i : Nat) : Nat := n / 256 ^ i % 256
/-- The set of the slots below k that m marks (by 1). -/
def st : Nat → (Nat → Nat) → Nat
  | 0, _ => 0
  | k + 1, m => st k m + m k * 2 ^ k

theorem byteN_lt (n i : Nat) : byteN n i < 256 := Nat.mod_lt _ (by decide)

theorem pk_congr : ∀ (k : Nat) (a b : Nat → Nat), (∀ i, i < k → a i = b i) → pk k a = pk k b
  | 0, _, _, _ => rfl
  | k + 1, a, b, h => by
    show a 0 + 256 * pk k _ = b 0 + 256 * pk k _
    rw [h 0 (by omega), pk_congr k _ _ (fun i hi => h (i + 1) (by omega))]
theorem pk_lt : ∀ (k : Nat) (b : Nat → Nat), (∀ i, b i < 256) → pk k b < 256 ^ k
  | 0, _, _ => Nat.zero_lt_one
  | k + 1, b, h => by
    have h1 := pk_lt k (fun i => b (i + 1)) (fun i => h _)
    have h2 := h 0
    show b 0 + 256 * pk k _ < 256 ^ (k + 1)
    rw [Nat.pow_succ]
    omega
theorem pk_bytes : ∀ (k n : Nat), n < 256 ^ k → pk k (byteN n) = n
  | 0, n, h => by have : n = 0 := by simpa using h
                  subst this; rfl
  | k + 1, n, h => by
    have h1 : n / 256 < 256 ^ k := by rw [Nat.pow_succ] at h; omega
    have h2 := pk_bytes k (n / 256) h1
    show byteN n 0 + 256 * pk k (fun i => byteN n (i + 1)) = n
    rw [pk_congr k (fun i => byteN n (i + 1)) (byteN (n / 256)) (fun i _ => by unfold byteN; rw [Nat.pow_succ, Nat.mul_comm, ← Nat.div_div_eq_div_mul]), h2]
    unfold byteN
    simp only [Nat.pow_zero, Nat.div_one]
    omega
theorem byte_pk : ∀ (k : Nat) (b : Nat → Nat), (∀ i, b i < 256) → ∀ i, i < k → byteN (pk k b) i = b i
  | 0, _, _, i, hi => by omega
  | k + 1, b, h, 0, _ => by
    have := h 0
    show (b 0 + 256 * pk k _) / 256 ^ 0 % 256 = b 0
    simp only [Nat.pow_zero, Nat.div_one]
    omega
  | k + 1, b, h, i + 1, hi => by
    have h1 := byte_pk k (fun i => b (i + 1)) (fun i => h _) i (by omega)
    have h2 := h 0
    show (b 0 + 256 * pk k _) / 256 ^ (i + 1) % 256 = b (i + 1)
    rw [Nat.pow_succ, Nat.mul_comm (256 ^ i) 256, ← Nat.div_div_eq_div_mul, show (b 0 + 256 * pk k (fun i => b (i + 1))) / 256 = pk k (fun i => b (i + 1)) by omega]
    exact h1
theorem pk_add : ∀ (k : Nat) (a b : Nat → Nat), pk k a + pk k b = pk k (fun i => a i + b i)
  | 0, _, _ => rfl
  | k + 1, a, b => by
    have h := pk_add k (fun i => a (i + 1)) (fun i => b (i + 1))
    show a 0 + 256 * pk k _ + (b 0 + 256 * pk k _) = a 0 + b 0 + 256 * pk k _
    rw [← h]; omega
theorem pk_mul : ∀ (k c : Nat) (a : Nat → Nat), pk k (fun i => c * a i) = c * pk k a
  | 0, _, _ => rfl
  | k + 1, c, a => by
    have h := pk_mul k c (fun i => a (i + 1))
    show c * a 0 + 256 * pk k _ = c * (a 0 + 256 * pk k _)
    rw [h, Nat.mul_add, Nat.mul_left_comm]
/-- What goes bit by bit goes byte by byte. -/
theorem pk_lane (f : Nat → Nat → Nat) (h0 : f 0 0 = 0) (hm : ∀ x y, f x y % 2 ^ 8 = f (x % 2 ^ 8) (y % 2 ^ 8)) (hd : ∀ x y, f x y / 2 ^ 8 = f (x / 2 ^ 8) (y / 2 ^ 8)) :
    ∀ (k : Nat) (a b : Nat → Nat), (∀ i, a i < 256) → (∀ i, b i < 256) → f (pk k a) (pk k b) = pk k (fun i => f (a i) (b i))
  | 0, _, _, _, _ => h0
  | k + 1, a, b, ha, hb => by
    have h := pk_lane f h0 hm hd k (fun i => a (i + 1)) (fun i => b (i + 1)) (fun i => ha _) (fun i => hb _)
    have a0 := ha 0
    have b0 := hb 0
    show f (a 0 + 256 * pk k _) (b 0 + 256 * pk k _) = f (a 0) (b 0) + 256 * pk k (fun i => f (a (i + 1)) (b (i + 1)))
    rw [← h]
    have e1 := hm (a 0 + 256 * pk k (fun i => a (i + 1))) (b 0 + 256 * pk k (fun i => b (i + 1)))
    have e2 := hd (a 0 + 256 * pk k (fun i => a (i + 1))) (b 0 + 256 * pk k (fun i => b (i + 1)))
    rw [show (a 0 + 256 * pk k (fun i => a (i + 1))) % 2 ^ 8 = a 0 by omega, show (b 0 + 256 * pk k (fun i => b (i + 1))) % 2 ^ 8 = b 0 by omega] at e1
    rw [show (a 0 + 256 * pk k (fun i => a (i + 1))) / 2 ^ 8 = pk k (fun i => a (i + 1)) by omega, show (b 0 + 256 * pk k (fun i => b (i + 1))) / 2 ^ 8 = pk k (fun i => b (i + 1)) by omega] at e2
    rw [← e1, ← e2]
    omega
theorem pk_and (k : Nat) (a b : Nat → Nat) (ha : ∀ i, a i < 256) (hb : ∀ i, b i < 256) : pk k a &&& pk k b = pk k (fun i => a i &&& b i) :=
  pk_lane (· &&& ·) rfl (fun _ _ => Nat.and_mod_two_pow) (fun _ _ => Nat.and_div_two_pow) k a b ha hb
theorem pk_or (k : Nat) (a b : Nat → Nat) (ha : ∀ i, a i < 256) (hb : ∀ i, b i < 256) : pk k a ||| pk k b = pk k (fun i => a i ||| b i) :=
  pk_lane (· ||| ·) rfl (fun _ _ => Nat.or_mod_two_pow) (fun _ _ => Nat.or_div_two_pow) k a b ha hb
theorem pk_xor (k : Nat) (a b : Nat → Nat) (ha : ∀ i, a i < 256) (hb : ∀ i, b i < 256) : pk k a ^^^ pk k b = pk k (fun i => a i ^^^ b i) :=
  pk_lane (· ^^^ ·) rfl (fun _ _ => Nat.xor_mod_two_pow) (fun _ _ => Nat.xor_div_two_pow) k a b ha hb
theorem pk_not (b : Nat → Nat) (h : ∀ i, b i < 256) : 18446744073709551615 - pk 8 b = pk 8 (fun i => 255 - b i) := by
  have h1 := pk_add 8 b (fun i => 255 - b i)
  rw [pk_congr 8 (fun i => b i + (255 - b i)) (fun _ => 255) (fun i _ => by have := h i; show b i + (255 - b i) = 255; omega), show pk 8 (fun _ => 255) = 18446744073709551615 by decide] at h1
  omega

/-- The marks of the bytes that are 0. -/
theorem noughts_pk (b : Nat → Nat) (h : ∀ i, b i < 256) :
    ((18446744073709551615 - ((pk 8 b &&& 9187201950435737471) + 9187201950435737471 ||| pk 8 b)) &&& 9259542123273814144) = 128 * pk 8 (fun i => if b i = 0 then 1 else 0) := by
  have h1 : ∀ x : Fin 256, (x.val &&& 127) + 127 < 256 ∧ ((x.val &&& 127) + 127 ||| x.val) < 256 ∧ 255 - ((x.val &&& 127) + 127 ||| x.val) < 256 ∧ ((255 - ((x.val &&& 127) + 127 ||| x.val)) &&& 128) = 128 * (if x.val = 0 then 1 else 0) := by decide +kernel
  have h2 := fun i => h1 ⟨b i, h i⟩
  rw [show 9187201950435737471 = pk 8 (fun _ => 127) by decide, show 9259542123273814144 = pk 8 (fun _ => 128) by decide,
    pk_and 8 b _ h (fun _ => by decide), pk_add, pk_or 8 _ b (fun i => (h2 i).1) h, pk_not _ (fun i => (h2 i).2.1), pk_and 8 _ _ (fun i => (h2 i).2.2.1) (fun _ => by decide), ← pk_mul]
  exact pk_congr 8 _ _ fun i _ => (h2 i).2.2.2

theorem fulls_pk (b : Nat → Nat) (h : ∀ i, b i < 256) :
    ((18446744073709551615 - pk 8 b) &&& 9259542123273814144) = 128 * pk 8 (fun i => if b i < 128 then 1 else 0) := by
  have h1 : ∀ x : Fin 256, 255 - x.val < 256 ∧ ((255 - x.val) &&& 128) = 128 * (if x.val < 128 then 1 else 0) := by decide +kernel
  have h2 := fun i => h1 ⟨b i, h i⟩
  rw [show 9259542123273814144 = pk 8 (fun _ => 128) by decide, pk_not _ h, pk_and 8 _ _ (fun i => (h2 i).1) (fun _ => by decide), ← pk_mul]
  exact pk_congr 8 _ _ fun i _ => (h2 i).2

theorem gather_all : ∀ a b c d e f g h : Fin 2,
    (a.val + 256 * (b.val + 256 * (c.val + 256 * (d.val + 256 * (e.val + 256 * (f.val + 256 * (g.val + 256 * (h.val + 256 * 0)))))))) * 72624976668147840 % 18446744073709551616 / 72057594037927936 % 256
      = 0 + a.val * 2 ^ 0 + b.val * 2 ^ 1 + c.val * 2 ^ 2 + d.val * 2 ^ 3 + e.val * 2 ^ 4 + f.val * 2 ^ 5 + g.val * 2 ^ 6 + h.val * 2 ^ 7 := by decide +kernel
theorem gather_pk (m : Nat → Nat) (h : ∀ i, m i < 2) : pk 8 m * 72624976668147840 % 18446744073709551616 / 72057594037927936 % 256 = st 8 m :=
  gather_all ⟨m 0, h 0⟩ ⟨m 1, h 1⟩ ⟨m 2, h 2⟩ ⟨m 3, h 3⟩ ⟨m 4, h 4⟩ ⟨m 5, h 5⟩ ⟨m 6, h 6⟩ ⟨m 7, h 7⟩

theorem st_lt : ∀ (k : Nat) (m : Nat → Nat), (∀ i, m i < 2) → st k m < 2 ^ k
  | 0, _, _ => Nat.zero_lt_one
  | k + 1, m, h => by
    have h1 := st_lt k m h
    have h2 : m k * 2 ^ k ≤ 1 * 2 ^ k := Nat.mul_le_mul_right _ (by have := h k; omega)
    show st k m + m k * 2 ^ k < 2 ^ (k + 1)
    rw [Nat.pow_succ]
    omega
theorem st_congr : ∀ (k : Nat) (a b : Nat → Nat), (∀ i, i < k → a i = b i) → st k a = st k b
  | 0, _, _, _ => rfl
  | k + 1, a, b, h => by
    show st k a + a k * 2 ^ k = st k b + b k * 2 ^ k
    rw [h k (by omega), st_congr k a b (fun i hi => h i (by omega))]
theorem st_or (k : Nat) (m : Nat → Nat) (h : ∀ i, m i < 2) (e : m k = 1) : st k m ||| 2 ^ k = st (k + 1) m := by
  show _ = st k m + m k * 2 ^ k
  rw [e, Nat.one_mul, Nat.or_comm, Nat.add_comm]
  have := Nat.two_pow_add_eq_or_of_lt (st_lt k m h) 1
  rw [Nat.mul_one] at this
  exact this.symm

/-- The slots of a byte; those that are full. -/
def matchN (n h : Nat) : Nat := st 8 (fun i => if byteN n i = h then 1 else 0)
def fullN (n : Nat) : Nat := st 8 (fun i => if byteN n i < 128 then 1 else 0)
/-- A word with another byte. -/
def putN (n k c : Nat) : Nat := pk 8 (fun j => if j = k then c else byteN n j)

theorem ite_lt2 (p : Prop) [Decidable p] : (if p then 1 else 0 : Nat) < 2 := by split <;> decide
theorem ite_lt256 (p : Prop) [Decidable p] : (if p then 1 else 0 : Nat) < 256 := by split <;> decide
theorem matchN_lt (n h : Nat) : matchN n h < 256 := st_lt 8 _ (fun _ => ite_lt2 _)
theorem fullN_lt (n : Nat) : fullN n < 256 := st_lt 8 _ (fun _ => ite_lt2 _)

def noughtsN (n : Nat) : Nat := 128 * pk 8 (fun i => if byteN n i = 0 then 1 else 0)
def markedN (x : Nat) : Nat := x / 128 * 72624976668147840 % 18446744073709551616 / 72057594037927936 % 256
theorem marked_pk (m : Nat → Nat) (h : ∀ i, m i < 2) : markedN (128 * pk 8 m) = st 8 m := by
  unfold markedN
  rw [Nat.mul_div_cancel_left _ (by decide : 0 < 128)]
  exact gather_pk m h
theorem xor_zero (a b : Nat) (h : a ^^^ b = 0) : a = b := by
  have := congrArg (· ^^^ b) h
  simp only [Nat.xor_assoc, Nat.xor_self, Nat.xor_zero, Nat.zero_xor] at this
  exact this
theorem match_eq (n h : Nat) (hn : n < 18446744073709551616) (hh : h < 256) : markedN (noughtsN (n ^^^ 72340172838076673 * h)) = matchN n h := by
  have e : n ^^^ 72340172838076673 * h = pk 8 (fun i => byteN n i ^^^ h) := by
    have e1 : 72340172838076673 * h = pk 8 (fun _ => h) := by
      have := pk_mul 8 h (fun _ => 1)
      rw [show pk 8 (fun _ => 1) = 72340172838076673 by decide] at this
      rw [Nat.mul_comm, ← this]
      exact pk_congr 8 _ _ fun _ _ => Nat.mul_one h
    have e2 : n ^^^ 72340172838076673 * h = pk 8 (byteN n) ^^^ pk 8 (fun _ => h) := by rw [pk_bytes 8 n hn, e1]
    rw [e2, pk_xor 8 _ _ (byteN_lt n) (fun _ => hh)]
  unfold noughtsN matchN
  rw [e, marked_pk _ (fun _ => ite_lt2 _)]
  refine st_congr 8 _ _ fun i hi => ?_
  rw [byte_pk 8 _ (fun i => Nat.xor_lt_two_pow (n := 8) (byteN_lt n i) hh) i hi]
  by_cases hx : byteN n i = h
  · rw [if_pos hx, if_pos (by rw [hx, Nat.xor_self])]
  · rw [if_neg hx, if_neg (fun h0 => hx (xor_zero _ _ h0))]
theorem noughts_eq (n : Nat) (hn : n < 18446744073709551616) :
    ((18446744073709551615 - ((n &&& 9187201950435737471) + 9187201950435737471 ||| n)) &&& 9259542123273814144) = noughtsN n := by
  have := noughts_pk (byteN n) (byteN_lt n)
  rw [pk_bytes 8 n hn] at this
  exact this
theorem full_eq (n : Nat) (hn : n < 18446744073709551616) : markedN ((18446744073709551615 - n) &&& 9259542123273814144) = fullN n := by
  have := fulls_pk (byteN n) (byteN_lt n)
  rw [pk_bytes 8 n hn] at this
  rw [this, marked_pk _ (fun _ => ite_lt2 _)]
  rfl

theorem put_lt (n k c : Nat) (hc : c < 256) : putN n k c < 18446744073709551616 :=
  pk_lt 8 _ fun i => by split; exact hc; exact byteN_lt n i
theorem put_byte (n k c : Nat) (hc : c < 256) (j : Nat) (hj : j < 8) : byteN (putN n k c) j = if j = k then c else byteN n j :=
  byte_pk 8 _ (fun i => by split; exact hc; exact byteN_lt n i) j hj
theorem put_back (n k c : Nat) (hn : n < 18446744073709551616) (hc : c < 256) : putN (putN n k c) k (byteN n k) = n := by
  rw [show n = pk 8 (byteN n) from (pk_bytes 8 n hn).symm] 
  unfold putN
  refine pk_congr 8 _ _ fun j hj => ?_
  rw [pk_bytes 8 n hn]
  by_cases e : j = k
  · rw [if_pos e, e]
  · rw [if_neg e]
    exact (put_byte n k c hc j hj).trans (if_neg e)
theorem one_pk : ∀ c : Fin 256, ∀ k : Fin 8, c.val * 256 ^ k.val = pk 8 (fun j => if j = k.val then c.val else 0) := by decide +kernel
theorem put_eq (n k c : Nat) (hn : n < 18446744073709551616) (hk : k < 8) (hc : c < 256) :
    ((n &&& (18446744073709551615 - 255 * 256 ^ k)) ||| c * 256 ^ k) = putN n k c := by
  have h1 := one_pk ⟨255, by decide⟩ ⟨k, hk⟩
  have h2 := one_pk ⟨c, hc⟩ ⟨k, hk⟩
  have g1 : ∀ i, (if i = k then 255 else 0 : Nat) < 256 := fun i => by split <;> decide
  have g2 : ∀ i, (if i = k then c else 0 : Nat) < 256 := fun i => by split; exact hc; decide
  have g3 : ∀ i, 255 - (if i = k then 255 else 0 : Nat) < 256 := fun i => by omega
  have hall : ∀ x : Fin 256, (x.val &&& (255 - 255)) = 0 ∧ (x.val &&& (255 - 0)) = x.val ∧ (0 ||| x.val) = x.val ∧ (x.val ||| 0) = x.val := by decide +kernel
  dsimp only at h1 h2
  rw [h1, h2, pk_not _ g1]
  conv => lhs; lhs; lhs; rw [← pk_bytes 8 n hn]
  rw [pk_and 8 _ _ (byteN_lt n) g3, pk_or 8 _ _ (fun i => Nat.and_lt_two_pow (n := 8) _ (g3 i)) g2]
  refine pk_congr 8 _ _ fun i _ => ?_
  have a := hall ⟨byteN n i, byteN_lt n i⟩
  have b := hall ⟨c, hc⟩
  dsimp only at a b
  by_cases e : i = k
  · rw [if_pos e, if_pos e, if_pos e, a.1, b.2.2.1]
  · rw [if_neg e, if_neg e, if_neg e, a.2.1, a.2.2.2]
end Go.Proofs.YtkjnifipepiahaaDoor

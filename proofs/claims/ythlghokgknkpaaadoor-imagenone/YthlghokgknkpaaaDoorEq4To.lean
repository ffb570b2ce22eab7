import Derived.Test.YthlghokgknkpaaaDoorChecked
import Derived.WalkKit
import Derived.ProofKit
import Derived.Deep.RegionWith
import Derived.ChangeKeysEq
/-
  Words turned to the left and to the right (contracts of bits.RotateLeft64, corbelref02.rotl, corbellaw02.back); a round and its way back, as the Go text reckons them; a region whose every order ends at one place.
-/
namespace Go.Proofs.YthlghokgknkpaaaDoor
open Go.RowKit

/-- Turned to the left, turned to the right: as the Go text reckons them. -/
def rotI (x : Int) (r : Nat) : Int := bits .or .u64 (IntKind.u64.wrap (x * 2 ^ r)) (x / 2 ^ (64 - r))
def backI (x : Int) (r : Nat) : Int := bits .or .u64 (x / 2 ^ r) (IntKind.u64.wrap (x * 2 ^ (64 - r)))

theorem rot_any (x : Int) (n : Nat) (r : Int) (h : r = n) (w : World) (hr : 0 < r) (hr2 : r < 64) (hb : bits .and .u64 (n : Int) 63 = n) :
    Calls Tryd.prog 90 #[.int .u64 x, .int .i64 r] w fun e w' => e = .returned (.int .u64 (rotI x n)) ∧ w' = w := by
  go_enter Tryd.func90, Tryd.ntmps90
  go_wp2
  go_ret
  exact ⟨rfl, rfl⟩

theorem m13 : bits .and .u64 ((13 : Nat) : Int) 63 = ((13 : Nat) : Int) := by decide +kernel
theorem m16 : bits .and .u64 ((16 : Nat) : Int) 63 = ((16 : Nat) : Int) := by decide +kernel
theorem m17 : bits .and .u64 ((17 : Nat) : Int) 63 = ((17 : Nat) : Int) := by decide +kernel
theorem m21 : bits .and .u64 ((21 : Nat) : Int) 63 = ((21 : Nat) : Int) := by decide +kernel
theorem m32 : bits .and .u64 ((32 : Nat) : Int) 63 = ((32 : Nat) : Int) := by decide +kernel

/-- Four words. -/
structure V4 where
  (a b c d : Int)

def V4.val (v : V4) : Value := .agg #[.int .u64 v.a, .int .u64 v.b, .int .u64 v.c, .int .u64 v.d]

def addI (x y : Int) : Int := IntKind.u64.wrap (x + y)
def subI (x y : Int) : Int := IntKind.u64.wrap (x - y)
def xorI (x y : Int) : Int := bits .xor .u64 x y

/-- A round, as the Go text reckons it. -/
def roundI (v : V4) : V4 :=
  let a1 := addI v.a v.b
  let b1 := xorI (rotI v.b 13) a1
  let a2 := rotI a1 32
  let c1 := addI v.c v.d
  let d1 := xorI (rotI v.d 16) c1
  let a3 := addI a2 d1
  let d2 := xorI (rotI d1 21) a3
  let c2 := addI c1 b1
  let b2 := xorI (rotI b1 17) c2
  ⟨a3, b2, rotI c2 32, d2⟩

/-- A round's way back, as the Go text reckons it. -/
def undoI (v : V4) : V4 :=
  let c1 := backI v.c 32
  let b1 := backI (xorI v.b c1) 17
  let c2 := subI c1 b1
  let d1 := backI (xorI v.d v.a) 21
  let a1 := subI v.a d1
  let d2 := backI (xorI d1 c2) 16
  let c3 := subI c2 d2
  let a2 := backI a1 32
  let b2 := backI (xorI b1 a2) 13
  ⟨subI a2 b2, b2, c3, d2⟩

def EndAt (A : Act) (W : World) : Exit → Act → World → Prop
  | .normal, a, w => a = A ∧ w = W
  | _, _, _ => False
theorem EndAt.mk {A : Act} {W : World} : EndAt A W .normal A W := ⟨rfl, rfl⟩
/-- A region whose every order ends at one place. -/
theorem one_end {P : Program} {id : Nat} {ops : Array Oper} {b : Bool} {Q : Exit → Act → World → Prop} {a : Act} {w : World} {A : Act} {W : World}
    (h : (Code.region id ops b).wp P (EndAt A W) a w) (k : Q .normal A W) : (Code.region id ops b).wp P Q a w :=
  Code.wp_mono (fun e a w h => by cases e <;> first | (obtain ⟨rfl, rfl⟩ := h; exact k) | exact h.elim) h

end Go.Proofs.YthlghokgknkpaaaDoor

/-
  Contract of siphash.Round.
-/
namespace Go.Proofs.YthlghokgknkpaaaDoor
open Go.RowKit

set_option maxHeartbeats 4000000 in
set_option maxRecDepth 10000 in
theorem round_any (v : V4) (w : World) :
    Calls Tryd.prog 82 #[v.val] w fun e w' => e = .returned (roundI v).val ∧ Below w.heap.size w w' := by
  obtain ⟨a, b, c, d⟩ := v
  unfold V4.val
  dsimp only
  go_enter Tryd.func82, Tryd.ntmps82
  go_wp2
  apply one_end
  · go_region_with (go_at_call 90; refine (rot_any _ 13 _ rfl _ (by decide) (by decide) m13).mono ?_; rintro e w' ⟨rfl, rfl⟩)
    all_goals exact EndAt.mk
  go_wp2_with (go_at_call 90; refine (rot_any _ 32 _ rfl _ (by decide) (by decide) m32).mono ?_; rintro e w' ⟨rfl, rfl⟩)
  apply one_end
  · go_region_with (go_at_call 90; refine (rot_any _ 16 _ rfl _ (by decide) (by decide) m16).mono ?_; rintro e w' ⟨rfl, rfl⟩)
    all_goals exact EndAt.mk
  go_wp2
  apply one_end
  · go_region_with (go_at_call 90; refine (rot_any _ 21 _ rfl _ (by decide) (by decide) m21).mono ?_; rintro e w' ⟨rfl, rfl⟩)
    all_goals exact EndAt.mk
  go_wp2
  apply one_end
  · go_region_with (go_at_call 90; refine (rot_any _ 17 _ rfl _ (by decide) (by decide) m17).mono ?_; rintro e w' ⟨rfl, rfl⟩)
    all_goals exact EndAt.mk
  go_wp2_with (go_at_call 90; refine (rot_any _ 32 _ rfl _ (by decide) (by decide) m32).mono ?_; rintro e w' ⟨rfl, rfl⟩)
  refine bodyPost_ret (v := (roundI ⟨a, b, c, d⟩).val) (by simp [results, Tryd.results82, go_sem, roundI, V4.val, addI, xorI]) rfl ⟨rfl, ?_⟩
  exact (((Below.refl _ _).alloc (Nat.le_refl _) _).alloc (by simp) _).drew.drew.drew.drew
end Go.Proofs.YthlghokgknkpaaaDoor

/-
  '==' of two arrays of four words.
-/
namespace Go.Proofs.YthlghokgknkpaaaDoor
open Go.RowKit

theorem info22 : (Tryd.prog.info? 22).isSome = true := by kernel_rfl
theorem cells22 : Tryd.prog.cellsOf 22 = 1 := by kernel_rfl
theorem plain22 : Tryd.prog.plainKey 22 = true := by kernel_rfl

theorem part22 (xs : Array Value) (i : Nat) (x : Int) (w : World) (h : xs[i]? = some (.int .u64 x)) : (part 22 xs (i * Tryd.prog.cellsOf 22)).run Tryd.prog w = .ok (.int .u64 x) w := by
  rw [cells22, Nat.mul_one]
  exact run_part_plain w plain22 h

theorem item22 (xs ys : Array Value) (i : Nat) (is : List Nat) (x y : Int) (w : World) (hx : xs[i]? = some (.int .u64 x)) (hy : ys[i]? = some (.int .u64 y)) :
    (Op.eqItems 9999 22 (Tryd.prog.cellsOf 22) xs ys (i :: is)).run Tryd.prog w = if x = y then (Op.eqItems 9999 22 (Tryd.prog.cellsOf 22) xs ys is).run Tryd.prog w else .ok false w := by
  have e : (Op.equalIn 9999 22 (.int .u64 x) (.int .u64 y)).run Tryd.prog w = .ok (x == y) w := run_equalIn_int w 9998 22 .u64 .u64 x y Tryd.underlying22
  simp only [Op.eqItems, Sem.run_bind, part22 xs i x w hx, part22 ys i y w hy, Result.andThen_ok, e]
  by_cases h : x = y
  · subst h; simp
  · simp [h]

theorem eq4 (a b c d a' b' c' d' : Int) (w : World) : ∃ r : Bool, (Op.equalIn 10000 117 (.agg #[.int .u64 a, .int .u64 b, .int .u64 c, .int .u64 d]) (.agg #[.int .u64 a', .int .u64 b', .int .u64 c', .int .u64 d'])).run Tryd.prog w = .ok r w ∧
    (r = true ↔ a = a' ∧ b = b' ∧ c = c' ∧ d = d') := by
  obtain ⟨i, hi⟩ := Option.isSome_iff_exists.1 info22
  rw [show (10000 : Nat) = 9999 + 1 from rfl, run_equalIn_array w 9999 _ _ Tryd.underlying117 hi, show List.range 4 = [0, 1, 2, 3] from rfl,
    item22 _ _ 0 _ a a' w rfl rfl, item22 _ _ 1 _ b b' w rfl rfl, item22 _ _ 2 _ c c' w rfl rfl, item22 _ _ 3 _ d d' w rfl rfl]
  by_cases h1 : a = a'
  · by_cases h2 : b = b'
    · by_cases h3 : c = c'
      · by_cases h4 : d = d'
        · exact ⟨true, by rw [if_pos h1, if_pos h2, if_pos h3, if_pos h4]; simp [Op.eqItems], by simp [h1, h2, h3, h4]⟩
        · exact ⟨false, by rw [if_pos h1, if_pos h2, if_pos h3, if_neg h4], by simp [h4]⟩
      · exact ⟨false, by rw [if_pos h1, if_pos h2, if_neg h3], by simp [h3]⟩
    · exact ⟨false, by rw [if_pos h1, if_neg h2], by simp [h2]⟩
  · exact ⟨false, by rw [if_neg h1], by simp [h1]⟩

theorem eq4_same (a b c d : Int) (w : World) : (Op.equalIn 10000 117 (.agg #[.int .u64 a, .int .u64 b, .int .u64 c, .int .u64 d]) (.agg #[.int .u64 a, .int .u64 b, .int .u64 c, .int .u64 d])).run Tryd.prog w = .ok true w := by
  obtain ⟨r, h1, h2⟩ := eq4 a b c d a b c d w
  rw [h1, h2.2 ⟨rfl, rfl, rfl, rfl⟩]
theorem eq4_other (u v : V4) (h : u ≠ v) (w : World) : (Op.equalIn 10000 117 (.agg #[.int .u64 u.a, .int .u64 u.b, .int .u64 u.c, .int .u64 u.d]) (.agg #[.int .u64 v.a, .int .u64 v.b, .int .u64 v.c, .int .u64 v.d])).run Tryd.prog w = .ok false w := by
  obtain ⟨r, h1, h2⟩ := eq4 u.a u.b u.c u.d v.a v.b v.c v.d w
  cases r with
  | false => exact h1
  | true =>
    obtain ⟨e1, e2, e3, e4⟩ := h2.1 rfl
    obtain ⟨_, _, _, _⟩ := u
    obtain ⟨_, _, _, _⟩ := v
    exact absurd (by simp only at e1 e2 e3 e4; rw [e1, e2, e3, e4]) h
end Go.Proofs.YthlghokgknkpaaaDoor

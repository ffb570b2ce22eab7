/-
  A map of groups of slots as lists: what is found, placed, laid anew, put and deleted, by the bytes of the words alone. No function of the program is named here.
-/
import Derived.Test.YtkjnifipepiahaaDoorT8
import Derived.Test.YtkjnifipepiahaaDoorP3
import Derived.Test.YtkjnifipepiahaaDoorH2
namespace Go.Proofs.YtkjnifipepiahaaDoor
open Go.RowKit Go.Shelf

/-- A map: its seed, a word for each group, eight slots for each word, how many keys and how many deleted slots it counts. -/
structure SM where
  (k0 k1 : Int)
  ws : List Nat
  ss : List (ByteArray × Value)
  (n t : Nat)

def SM.w (M : SM) (g : Nat) : Nat := M.ws.getD g 0
def SM.s (M : SM) (p : Nat) : ByteArray × Value := M.ss.getD p (ByteArray.empty, .bool false)
def SM.hash (M : SM) (key : ByteArray) : Int := sumI M.k0 M.k1 (byt key) key.size
def SM.what (M : SM) (key : ByteArray) : Nat := (M.hash key % 128).toNat
/-- A key's groups, in their order. -/
def SM.gs (M : SM) (key : ByteArray) : List Nat := (grpL (M.hash key / 128) M.ws.length).map Int.toNat

/-- The slot of a group that has the key. -/
def SM.hit (M : SM) (key : ByteArray) (g : Nat) : Option Nat := (List.range 8).find? fun i => decide (byteN (M.w g) i = M.what key ∧ (M.s (8 * g + i)).1 = key)
/-- Has a word an empty slot? -/
def hasE (w : Nat) : Bool := (List.range 8).any fun i => decide (byteN w i = 128)
def SM.findG (M : SM) (key : ByteArray) : List Nat → Option Nat
  | [] => none
  | g :: r => match M.hit key g with
    | some i => some (8 * g + i)
    | none => if hasE (M.w g) then none else M.findG key r
def SM.find (M : SM) (key : ByteArray) : Option Nat := M.findG key (M.gs key)

/-- The lowest free slot of a word. -/
def freeI (w : Nat) : Option Nat := (List.range 8).find? fun i => decide (byteN w i = 128 ∨ byteN w i = 254)
def SM.spot (M : SM) : List Nat → Option (Nat × Nat)
  | [] => none
  | g :: r => match freeI (M.w g) with
    | some i => some (g, i)
    | none => M.spot r
/-- A key laid in a slot. -/
def SM.lay (M : SM) (key : ByteArray) (v : Value) (g i : Nat) : SM :=
  { M with ws := M.ws.set g (putN (M.w g) i (M.what key)), ss := M.ss.set (8 * g + i) (key, v), n := M.n + 1, t := if byteN (M.w g) i = 254 then M.t - 1 else M.t }
def SM.place (M : SM) (key : ByteArray) (v : Value) : SM :=
  match M.spot (M.gs key) with
  | none => M
  | some (g, i) => M.lay key v g i

/-- The places of all keys, in the order of slots. -/
def SM.full (M : SM) : List Nat := (List.range (8 * M.ws.length)).filter fun p => decide (byteN (M.w (p / 8)) (p % 8) < 128)
def SM.keys (M : SM) : List ByteArray := M.full.map fun p => (M.s p).1
def noneW : Nat := 9259542123273814144
def SM.empty (k0 k1 : Int) (z : Value) (g : Nat) : SM := ⟨k0, k1, List.replicate g noneW, List.replicate (8 * g) (ByteArray.empty, z), 0, 0⟩
def SM.size' (M : SM) : Nat := if M.t = 0 ∨ 7 * M.ws.length < 2 * M.n then 2 * M.ws.length else M.ws.length
def SM.rehash (M : SM) (z : Value) : SM := M.full.foldl (fun N p => N.place (M.s p).1 (M.s p).2) (SM.empty M.k0 M.k1 z M.size')

/-- Put: was it there, which error, and the map. -/
def SM.put (M : SM) (key : ByteArray) (v z : Value) : Bool × Nat × SM :=
  match M.find key with
  | some p => (true, 0, { M with ss := M.ss.set p ((M.s p).1, v) })
  | none => if 2000 ≤ M.n then (false, 7, M) else (false, 0, (if 7 * M.ws.length ≤ M.n + M.t then M.rehash z else M).place key v)
def SM.del (M : SM) (key : ByteArray) (z : Value) : Bool × SM :=
  match M.find key with
  | none => (false, M)
  | some p => (true, { M with ws := M.ws.set (p / 8) (putN (M.w (p / 8)) (p % 8) (if hasE (M.w (p / 8)) then 128 else 254)), ss := M.ss.set p (ByteArray.empty, z), n := M.n - 1, t := if hasE (M.w (p / 8)) then M.t else M.t + 1 })
def SM.get (M : SM) (key : ByteArray) (z : Value) : Value × Bool :=
  match M.find key with
  | none => (z, false)
  | some p => ((M.s p).2, true)

/-- What every map that a call made is: as far as the calls ask for it. -/
structure SM.Fit (M : SM) : Prop where
  good : isGood (M.ws.length : Int) = true
  slots : M.ss.length = 8 * M.ws.length
  words : ∀ g, g < M.ws.length → M.w g < 18446744073709551616
  few : M.n ≤ 1099511627776 ∧ M.t ≤ 1099511627776
  texts : ∀ p, p < M.ss.length → (M.s p).1.size < 140737488355328

theorem wd_xorI (x y : Int) : Wd (xorI x y) := by
  unfold xorI
  show Wd (IntKind.u64.wrap _)
  unfold Wd
  rw [IntKind.wrap_u64]
  omega
theorem SM.wd_hash (M : SM) (key : ByteArray) : Wd (M.hash key) := by unfold SM.hash sumI; exact wd_xorI _ _
theorem SM.what_lt (M : SM) (key : ByteArray) : M.what key < 128 := by unfold SM.what; omega
theorem SM.what_eq (M : SM) (key : ByteArray) : ((M.what key : Nat) : Int) = M.hash key % 128 := by unfold SM.what; omega
theorem grp_range {x g : Int} (hg : isGood g = true) : ∀ y ∈ grpL x g, 0 ≤ y ∧ y < g := by
  intro y hy
  unfold grpL endI at hy
  rw [if_pos hg] at hy
  obtain ⟨i, hi, e⟩ := List.mem_map.1 hy
  have hi := List.mem_range.1 hi
  have hr := good_range hg
  subst e
  unfold atI
  rw [if_pos ⟨hg, by omega, by omega⟩]
  have : atN x.toNat ((i : Int)).toNat g.toNat < g.toNat := Nat.mod_lt _ (by omega)
  omega
theorem map_back : ∀ (l : List Int), (∀ y ∈ l, 0 ≤ y) → l = (l.map Int.toNat).map fun g : Nat => (g : Int)
  | [], _ => rfl
  | y :: r, h => by
    have h1 := map_back r fun z hz => h z (List.mem_cons_of_mem _ hz)
    have h2 := h y List.mem_cons_self
    rw [List.map_cons, List.map_cons, ← h1]
    congr 1
    omega
theorem SM.gs_lt {M : SM} (h : M.Fit) (key : ByteArray) : ∀ g ∈ M.gs key, g < M.ws.length := by
  intro g hg
  have hr := grp_range (x := M.hash key / 128) h.good
  unfold SM.gs at hg
  generalize M.hash key / 128 = x at *
  obtain ⟨y, hy, rfl⟩ := List.mem_map.1 hg
  have := hr y hy
  omega
theorem SM.gs_eq {M : SM} (h : M.Fit) (key : ByteArray) : grpL (M.hash key / 128) M.ws.length = (M.gs key).map fun g : Nat => (g : Int) := by
  have hr := grp_range (x := M.hash key / 128) h.good
  unfold SM.gs
  generalize M.hash key / 128 = x at *
  exact map_back _ fun y hy => (hr y hy).1

/-- The bit of a set. -/
theorem st_bit : ∀ (k : Nat) (m : Nat → Nat), (∀ i, m i < 2) → ∀ i, i < k → st k m / 2 ^ i % 2 = m i
  | 0, _, _, _, h => by omega
  | k + 1, m, hm, i, hi => by
    show (st k m + m k * 2 ^ k) / 2 ^ i % 2 = m i
    by_cases e : i = k
    · subst e
      rw [Nat.add_mul_div_right _ _ (Nat.two_pow_pos _), Nat.div_eq_of_lt (st_lt i m hm), Nat.zero_add, Nat.mod_eq_of_lt (hm i)]
    · have hik : i < k := by omega
      rw [← st_bit k m hm i hik, show m k * 2 ^ k = m k * 2 ^ (k - i) * 2 ^ i by rw [Nat.mul_assoc, ← Nat.pow_add]; congr 2; omega, Nat.add_mul_div_right _ _ (Nat.two_pow_pos _)]
      have : m k * 2 ^ (k - i) % 2 = 0 := by
        rw [show k - i = (k - i - 1) + 1 by omega, Nat.pow_succ, ← Nat.mul_assoc]; omega
      omega
theorem slots_st (m : Nat → Nat) (hm : ∀ i, m i < 2) : slotsL (st 8 m) = (List.range 8).filter fun i => decide (m i = 1) := by
  unfold slotsL
  refine List.filter_congr fun i hi => ?_
  rw [st_bit 8 m hm i (List.mem_range.1 hi)]
theorem ite_one (p : Prop) [Decidable p] : ((if p then 1 else 0 : Nat) = 1) ↔ p := by by_cases h : p <;> simp [h]
theorem slots_match (n h : Nat) : slotsL (matchN n h) = (List.range 8).filter fun i => decide (byteN n i = h) := by
  unfold matchN
  rw [slots_st _ (fun _ => ite_lt2 _)]
  simp only [ite_one]
theorem slots_full (n : Nat) : slotsL (fullN n) = (List.range 8).filter fun i => decide (byteN n i < 128) := by
  unfold fullN
  rw [slots_st _ (fun _ => ite_lt2 _)]
  simp only [ite_one]
theorem slots_free (n : Nat) : slotsL (freeN n) = (List.range 8).filter fun i => decide (byteN n i = 128 ∨ byteN n i = 254) := by
  unfold freeN
  rw [slots_st _ (fun _ => ite_lt2 _)]
  simp only [ite_one]
theorem slots_nil : ∀ s : Fin 256, slotsL s.val = [] → s.val = 0 := by decide +kernel
theorem hasE_match (n : Nat) : hasE n = !decide (matchN n 128 = 0) := by
  unfold hasE
  have h1 := slots_match n 128
  have h2 := slots_nil ⟨matchN n 128, matchN_lt n 128⟩
  by_cases h : matchN n 128 = 0
  · rw [h, slots_zero] at h1
    rw [decide_eq_true h, Bool.not_true, List.any_eq_false]
    intro x hx hq
    have : x ∈ (List.range 8).filter fun i => decide (byteN n i = 128) := List.mem_filter.2 ⟨hx, hq⟩
    rw [← h1] at this
    cases this
  · rw [decide_eq_false h, Bool.not_false, List.any_eq_true]
    cases hf : (List.range 8).filter fun i => decide (byteN n i = 128) with
    | nil => exact absurd (h2 (h1.trans hf)) h
    | cons a r =>
      have : a ∈ (List.range 8).filter fun i => decide (byteN n i = 128) := by rw [hf]; exact List.mem_cons_self
      obtain ⟨h3, h4⟩ := List.mem_filter.1 this
      exact ⟨a, h3, h4⟩
theorem free_none {n : Nat} (h : freeN n = 0) : freeI n = none := by
  have h1 := slots_free n
  rw [h, slots_zero] at h1
  unfold freeI
  rw [List.find?_eq_none]
  intro x hx hq
  have : x ∈ (List.range 8).filter fun i => decide (byteN n i = 128 ∨ byteN n i = 254) := List.mem_filter.2 ⟨hx, hq⟩
  rw [← h1] at this
  cases this
theorem free_some {n : Nat} (h : freeN n ≠ 0) : freeI n = some (firstN (freeN n)) ∧ firstN (freeN n) < 8 := by
  have h1 := slots_free n
  have h2 := slots_step ⟨freeN n, freeN_lt n⟩ h
  dsimp only at h2
  rw [h1] at h2
  unfold freeI
  rw [← List.head?_filter, h2]
  refine ⟨rfl, ?_⟩
  have : firstN (freeN n) ∈ (List.range 8).filter fun i => decide (byteN n i = 128 ∨ byteN n i = 254) := by rw [h2]; exact List.mem_cons_self
  exact List.mem_range.1 (List.mem_filter.1 this).1
theorem hit_eq (M : SM) (key : ByteArray) (g : Nat) : M.hit key g = (slotsL (matchN (M.w g) (M.what key))).find? fun i => decide ((M.s (8 * g + i)).1 = key) := by
  rw [slots_match, List.find?_filter]
  unfold SM.hit
  congr 1
  funext i
  simp

/-- The places of keys below a place. -/
def SM.fullTo (M : SM) (k : Nat) : List Nat := (List.range k).filter fun p => decide (byteN (M.w (p / 8)) (p % 8) < 128)
theorem full_to (M : SM) : M.full = M.fullTo (8 * M.ws.length) := rfl
theorem fullTo_pre (M : SM) {j k : Nat} (h : j ≤ k) : M.fullTo j <+: M.fullTo k := (range_pre j k h).filter _
theorem range8_add (g : Nat) : List.range (8 * (g + 1)) = List.range (8 * g) ++ (List.range 8).map (8 * g + ·) := by
  rw [show 8 * (g + 1) = 8 * g + 8 by omega, List.range_add]
theorem fullTo_step (M : SM) (g : Nat) : M.fullTo (8 * (g + 1)) = M.fullTo (8 * g) ++ (slotsL (fullN (M.w g))).map (8 * g + ·) := by
  unfold SM.fullTo
  rw [range8_add, List.filter_append, slots_full]
  congr 1
  rw [List.filter_map]
  congr 1
  refine List.filter_congr fun i hi => ?_
  have hi := List.mem_range.1 hi
  show decide (byteN (M.w ((8 * g + i) / 8)) ((8 * g + i) % 8) < 128) = _
  rw [show (8 * g + i) / 8 = g by omega, show (8 * g + i) % 8 = i by omega]
theorem need_good (n : Int) : needI n = 0 ∨ isGood (needI n) = true := by
  unfold needI
  repeat' split
  all_goals first | exact .inl rfl | exact .inr (by decide)
end Go.Proofs.YtkjnifipepiahaaDoor

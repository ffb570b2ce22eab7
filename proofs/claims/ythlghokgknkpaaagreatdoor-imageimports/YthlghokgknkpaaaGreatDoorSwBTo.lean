import Derived.Test.YthlghokgknkpaaaGreatDoorRngTo
import Derived.Test.YthlghokgknkpaaaGreatDoorP3To
import Derived.Test.YthlghokgknkpaaaGreatDoorAgg2To
import Derived.Test.YthlghokgknkpaaaGreatDoorChecked
import Derived.Laws.OwnMore
import Derived.Maps.AppendAt
import Derived.Laws.MakeOwn
/-
  A map of groups of slots as lists: what is found, placed, laid anew, put and deleted, by the bytes of the words alone. No function of the program is named here.
-/
namespace Go.Proofs.YthlghokgknkpaaaGreatDoor
open Go.RowKit Go.Shelf

/-- A map: its seed, a word for each group, eight slots for each word, how many keys and how many deleted slots it counts. -/
structure SM where
  (k0 k1 : Int)
  ws : List Nat
  ss : List (ByteArray × Value)
  (n t : Nat)

def SM.w (M : SM) (g : Nat) : Nat := M.ws.getD g 0
def SM.s (M : SM) (p : Nat) : ByteArray × Value := M.ss.getD p (ByteArray.empty, .bool false)
def SM.hash (M : SM) (key : ByteArray) : Int := sumI M.k0 M.k1 (byt key) key.size
def SM.what (M : SM) (key : ByteArray) : Nat := (M.hash key % 128).toNat
/-- A key's groups, in their order. -/
def SM.gs (M : SM) (key : ByteArray) : List Nat := (grpL (M.hash key / 128) M.ws.length).map Int.toNat

/-- The slot of a group that has the key. -/
def SM.hit (M : SM) (key : ByteArray) (g : Nat) : Option Nat := (List.range 8).find? fun i => decide (byteN (M.w g) i = M.what key ∧ (M.s (8 * g + i)).1 = key)
/-- Has a word an empty slot? -/
def hasE (w : Nat) : Bool := (List.range 8).any fun i => decide (byteN w i = 128)
def SM.findG (M : SM) (key : ByteArray) : List Nat → Option Nat
  | [] => none
  | g :: r => match M.hit key g with
    | some i => some (8 * g + i)
    | none => if hasE (M.w g) then none else M.findG key r
def SM.find (M : SM) (key : ByteArray) : Option Nat := M.findG key (M.gs key)

/-- The lowest free slot of a word. -/
def freeI (w : Nat) : Option Nat := (List.range 8).find? fun i => decide (byteN w i = 128 ∨ byteN w i = 254)
def SM.spot (M : SM) : List Nat → Option (Nat × Nat)
  | [] => none
  | g :: r => match freeI (M.w g) with
    | some i => some (g, i)
    | none => M.spot r
/-- A key laid in a slot. -/
def SM.lay (M : SM) (key : ByteArray) (v : Value) (g i : Nat) : SM :=
  { M with ws := M.ws.set g (putN (M.w g) i (M.what key)), ss := M.ss.set (8 * g + i) (key, v), n := M.n + 1, t := if byteN (M.w g) i = 254 then M.t - 1 else M.t }
def SM.place (M : SM) (key : ByteArray) (v : Value) : SM :=
  match M.spot (M.gs key) with
  | none => M
  | some (g, i) => M.lay key v g i

/-- The places of all keys, in the order of slots. -/
def SM.full (M : SM) : List Nat := (List.range (8 * M.ws.length)).filter fun p => decide (byteN (M.w (p / 8)) (p % 8) < 128)
def SM.keys (M : SM) : List ByteArray := M.full.map fun p => (M.s p).1
def noneW : Nat := 9259542123273814144
def SM.empty (k0 k1 : Int) (z : Value) (g : Nat) : SM := ⟨k0, k1, List.replicate g noneW, List.replicate (8 * g) (ByteArray.empty, z), 0, 0⟩
def SM.size' (M : SM) : Nat := if M.t = 0 ∨ 7 * M.ws.length < 2 * M.n then 2 * M.ws.length else M.ws.length
def SM.rehash (M : SM) (z : Value) : SM := M.full.foldl (fun N p => N.place (M.s p).1 (M.s p).2) (SM.empty M.k0 M.k1 z M.size')

/-- Put: was it there, which error, and the map. -/
def SM.put (M : SM) (key : ByteArray) (v z : Value) : Bool × Nat × SM :=
  match M.find key with
  | some p => (true, 0, { M with ss := M.ss.set p ((M.s p).1, v) })
  | none => if 2000 ≤ M.n then (false, 7, M) else (false, 0, (if 7 * M.ws.length ≤ M.n + M.t then M.rehash z else M).place key v)
def SM.del (M : SM) (key : ByteArray) (z : Value) : Bool × SM :=
  match M.find key with
  | none => (false, M)
  | some p => (true, { M with ws := M.ws.set (p / 8) (putN (M.w (p / 8)) (p % 8) (if hasE (M.w (p / 8)) then 128 else 254)), ss := M.ss.set p (ByteArray.empty, z), n := M.n - 1, t := if hasE (M.w (p / 8)) then M.t else M.t + 1 })
def SM.get (M : SM) (key : ByteArray) (z : Value) : Value × Bool :=
  match M.find key with
  | none => (z, false)
  | some p => ((M.s p).2, true)

/-- What every map that a call made is: as far as the calls ask for it. -/
structure SM.Fit (M : SM) : Prop where
  good : isGood (M.ws.length : Int) = true
  slots : M.ss.length = 8 * M.ws.length
  words : ∀ g, g < M.ws.length → M.w g < 18446744073709551616
  few : M.n ≤ 1099511627776 ∧ M.t ≤ 1099511627776
  texts : ∀ p, p < M.ss.length → (M.s p).1.size < 140737488355328

theorem wd_xorI (x y : Int) : Wd (xorI x y) := by
  unfold xorI
  show Wd (IntKind.u64.wrap _)
  unfold Wd
  rw [IntKind.wrap_u64]
  omega
theorem SM.wd_hash (M : SM) (key : ByteArray) : Wd (M.hash key) := by unfold SM.hash sumI; exact wd_xorI _ _
theorem SM.what_lt (M : SM) (key : ByteArray) : M.what key < 128 := by unfold SM.what; omega
theorem SM.what_eq (M : SM) (key : ByteArray) : ((M.what key : Nat) : Int) = M.hash key % 128 := by unfold SM.what; omega
theorem grp_range {x g : Int} (hg : isGood g = true) : ∀ y ∈ grpL x g, 0 ≤ y ∧ y < g := by
  intro y hy
  unfold grpL endI at hy
  rw [if_pos hg] at hy
  obtain ⟨i, hi, e⟩ := List.mem_map.1 hy
  have hi := List.mem_range.1 hi
  have hr := good_range hg
  subst e
  unfold atI
  rw [if_pos ⟨hg, by omega, by omega⟩]
  have : atN x.toNat ((i : Int)).toNat g.toNat < g.toNat := Nat.mod_lt _ (by omega)
  omega
theorem map_back : ∀ (l : List Int), (∀ y ∈ l, 0 ≤ y) → l = (l.map Int.toNat).map fun g : Nat => (g : Int)
  | [], _ => rfl
  | y :: r, h => by
    have h1 := map_back r fun z hz => h z (List.mem_cons_of_mem _ hz)
    have h2 := h y List.mem_cons_self
    rw [List.map_cons, List.map_cons, ← h1]
    congr 1
    omega
theorem SM.gs_lt {M : SM} (h : M.Fit) (key : ByteArray) : ∀ g ∈ M.gs key, g < M.ws.length := by
  intro g hg
  have hr := grp_range (x := M.hash key / 128) h.good
  unfold SM.gs at hg
  generalize M.hash key / 128 = x at *
  obtain ⟨y, hy, rfl⟩ := List.mem_map.1 hg
  have := hr y hy
  omega
theorem SM.gs_eq {M : SM} (h : M.Fit) (key : ByteArray) : grpL (M.hash key / 128) M.ws.length = (M.gs key).map fun g : Nat => (g : Int) := by
  have hr := grp_range (x := M.hash key / 128) h.good
  unfold SM.gs
  generalize M.hash key / 128 = x at *
  exact map_back _ fun y hy => (hr y hy).1

/-- The bit of a set. -/
theorem st_bit : ∀ (k : Nat) (m : Nat → Nat), (∀ i, m i < 2) → ∀ i, i < k → st k m / 2 ^ i % 2 = m i
  | 0, _, _, _, h => by omega
  | k + 1, m, hm, i, hi => by
    show (st k m + m k * 2 ^ k) / 2 ^ i % 2 = m i
    by_cases e : i = k
    · subst e
      rw [Nat.add_mul_div_right _ _ (Nat.two_pow_pos _), Nat.div_eq_of_lt (st_lt i m hm), Nat.zero_add, Nat.mod_eq_of_lt (hm i)]
    · have hik : i < k := by omega
      rw [← st_bit k m hm i hik, show m k * 2 ^ k = m k * 2 ^ (k - i) * 2 ^ i by rw [Nat.mul_assoc, ← Nat.pow_add]; congr 2; omega, Nat.add_mul_div_right _ _ (Nat.two_pow_pos _)]
      have : m k * 2 ^ (k - i) % 2 = 0 := by
        rw [show k - i = (k - i - 1) + 1 by omega, Nat.pow_succ, ← Nat.mul_assoc]; omega
      omega
theorem slots_st (m : Nat → Nat) (hm : ∀ i, m i < 2) : slotsL (st 8 m) = (List.range 8).filter fun i => decide (m i = 1) := by
  unfold slotsL
  refine List.filter_congr fun i hi => ?_
  rw [st_bit 8 m hm i (List.mem_range.1 hi)]
theorem ite_one (p : Prop) [Decidable p] : ((if p then 1 else 0 : Nat) = 1) ↔ p := by by_cases h : p <;> simp [h]
theorem slots_match (n h : Nat) : slotsL (matchN n h) = (List.range 8).filter fun i => decide (byteN n i = h) := by
  unfold matchN
  rw [slots_st _ (fun _ => ite_lt2 _)]
  simp only [ite_one]
theorem slots_full (n : Nat) : slotsL (fullN n) = (List.range 8).filter fun i => decide (byteN n i < 128) := by
  unfold fullN
  rw [slots_st _ (fun _ => ite_lt2 _)]
  simp only [ite_one]
theorem slots_free (n : Nat) : slotsL (freeN n) = (List.range 8).filter fun i => decide (byteN n i = 128 ∨ byteN n i = 254) := by
  unfold freeN
  rw [slots_st _ (fun _ => ite_lt2 _)]
  simp only [ite_one]
theorem slots_nil : ∀ s : Fin 256, slotsL s.val = [] → s.val = 0 := by decide +kernel
theorem hasE_match (n : Nat) : hasE n = !decide (matchN n 128 = 0) := by
  unfold hasE
  have h1 := slots_match n 128
  have h2 := slots_nil ⟨matchN n 128, matchN_lt n 128⟩
  by_cases h : matchN n 128 = 0
  · rw [h, slots_zero] at h1
    rw [decide_eq_true h, Bool.not_true, List.any_eq_false]
    intro x hx hq
    have : x ∈ (List.range 8).filter fun i => decide (byteN n i = 128) := List.mem_filter.2 ⟨hx, hq⟩
    rw [← h1] at this
    cases this
  · rw [decide_eq_false h, Bool.not_false, List.any_eq_true]
    cases hf : (List.range 8).filter fun i => decide (byteN n i = 128) with
    | nil => exact absurd (h2 (h1.trans hf)) h
    | cons a r =>
      have : a ∈ (List.range 8).filter fun i => decide (byteN n i = 128) := by rw [hf]; exact List.mem_cons_self
      obtain ⟨h3, h4⟩ := List.mem_filter.1 this
      exact ⟨a, h3, h4⟩
theorem free_none {n : Nat} (h : freeN n = 0) : freeI n = none := by
  have h1 := slots_free n
  rw [h, slots_zero] at h1
  unfold freeI
  rw [List.find?_eq_none]
  intro x hx hq
  have : x ∈ (List.range 8).filter fun i => decide (byteN n i = 128 ∨ byteN n i = 254) := List.mem_filter.2 ⟨hx, hq⟩
  rw [← h1] at this
  cases this
theorem free_some {n : Nat} (h : freeN n ≠ 0) : freeI n = some (firstN (freeN n)) ∧ firstN (freeN n) < 8 := by
  have h1 := slots_free n
  have h2 := slots_step ⟨freeN n, freeN_lt n⟩ h
  dsimp only at h2
  rw [h1] at h2
  unfold freeI
  rw [← List.head?_filter, h2]
  refine ⟨rfl, ?_⟩
  have : firstN (freeN n) ∈ (List.range 8).filter fun i => decide (byteN n i = 128 ∨ byteN n i = 254) := by rw [h2]; exact List.mem_cons_self
  exact List.mem_range.1 (List.mem_filter.1 this).1
theorem hit_eq (M : SM) (key : ByteArray) (g : Nat) : M.hit key g = (slotsL (matchN (M.w g) (M.what key))).find? fun i => decide ((M.s (8 * g + i)).1 = key) := by
  rw [slots_match, List.find?_filter]
  unfold SM.hit
  congr 1
  funext i
  simp

/-- The places of keys below a place. -/
def SM.fullTo (M : SM) (k : Nat) : List Nat := (List.range k).filter fun p => decide (byteN (M.w (p / 8)) (p % 8) < 128)
theorem full_to (M : SM) : M.full = M.fullTo (8 * M.ws.length) := rfl
theorem fullTo_pre (M : SM) {j k : Nat} (h : j ≤ k) : M.fullTo j <+: M.fullTo k := (range_pre j k h).filter _
theorem range8_add (g : Nat) : List.range (8 * (g + 1)) = List.range (8 * g) ++ (List.range 8).map (8 * g + ·) := by
  rw [show 8 * (g + 1) = 8 * g + 8 by omega, List.range_add]
theorem fullTo_step (M : SM) (g : Nat) : M.fullTo (8 * (g + 1)) = M.fullTo (8 * g) ++ (slotsL (fullN (M.w g))).map (8 * g + ·) := by
  unfold SM.fullTo
  rw [range8_add, List.filter_append, slots_full]
  congr 1
  rw [List.filter_map]
  congr 1
  refine List.filter_congr fun i hi => ?_
  have hi := List.mem_range.1 hi
  show decide (byteN (M.w ((8 * g + i) / 8)) ((8 * g + i) % 8) < 128) = _
  rw [show (8 * g + i) / 8 = g by omega, show (8 * g + i) % 8 = i by omega]
theorem need_good (n : Int) : needI n = 0 ∨ isGood (needI n) = true := by
  unfold needI
  repeat' split
  all_goals first | exact .inl rfl | exact .inr (by decide)
end Go.Proofs.YthlghokgknkpaaaGreatDoor

/-
  Slices of ints in memory: what one reads as (HasI), a row of ints that the call made (OwnsI); a box that holds such a row, behind an append.
-/
namespace Go.Proofs.YthlghokgknkpaaaGreatDoor
open Go.RowKit Go.Shelf

/-- The value v is a slice that reads as the ints xs. -/
def HasI (w : World) (v : Value) (xs : List Int) : Prop :=
  ∃ p c, v = .slice p xs.length c ∧ xs.length ≤ c ∧ (p = none → c = 0) ∧
    (0 < xs.length → ∃ b o, p = some ⟨b, o, none⟩ ∧ b < w.heap.size ∧ ∀ i, i < xs.length → w.cell? ⟨b, o + i, none⟩ = some (.int .i64 (xs.getD i 0)))

/-- The value v is a slice that the call made, in a row from block B on; it reads as xs. -/
def OwnsI (w : World) (B : Nat) (v : Value) (xs : List Int) : Prop := w.ownsRow B 3 1 v xs.length (xs.map (Value.int .i64))

theorem OwnsI.has {w : World} {B : Nat} {v : Value} {xs : List Int} (h : OwnsI w B v xs) : HasI w v xs := by
  rcases h.2 with ⟨rfl, hn⟩ | ⟨g, cap, cur, rfl, hB, hg, hnc, _, _, _⟩
  · exact ⟨none, 0, by rw [hn], by omega, fun _ => rfl, fun h0 => by omega⟩
  · refine ⟨some ⟨g, 0, none⟩, cap, rfl, hnc, (fun h0 => by cases h0), fun _ => ⟨g, 0, rfl, (Array.getElem?_eq_some_iff.1 hg).1, fun i hi => ?_⟩⟩
    have hc := World.ownsRow.cells h (g := g) rfl i (.int .i64 (xs.getD i 0)) (by simp [List.getElem?_eq_getElem hi])
    rw [Addr.add_lit] at hc
    exact hc

theorem HasI.nil (w : World) : HasI w (.slice none 0 0) [] := ⟨none, 0, rfl, Nat.le_refl _, fun _ => rfl, fun h => absurd h (Nat.lt_irrefl 0)⟩
theorem HasI.below {w w' : World} {B : Nat} {v : Value} {xs : List Int} (h : HasI w v xs) (hb : Below B w w') (hB : w.heap.size ≤ B) : HasI w' v xs := by
  obtain ⟨p, c, rfl, h1, h2, h3⟩ := h
  refine ⟨p, c, rfl, h1, h2, fun h0 => ?_⟩
  obtain ⟨b, o, rfl, hlt, hc⟩ := h3 h0
  exact ⟨b, o, rfl, Nat.lt_of_lt_of_le hlt hb.size, fun i hi => (hb.cell (p := ⟨b, o + i, none⟩) (by exact Nat.lt_of_lt_of_le hlt hB)).trans (hc i hi)⟩
theorem HasI.takeN {w : World} {p : Option Addr} {c : Nat} {xs : List Int} {n : Nat} (h : HasI w (.slice p n c) xs) (j : Nat) (hj : j ≤ xs.length) : HasI w (.slice p j c) (xs.take j) := by
  obtain ⟨p', c', hv, hc, hnone, hcell⟩ := h
  simp only [Value.slice.injEq] at hv
  obtain ⟨rfl, _, rfl⟩ := hv
  have hlen : (xs.take j).length = j := by rw [List.length_take]; omega
  refine ⟨p, c, by rw [hlen], by rw [hlen]; omega, hnone, fun h0 => ?_⟩
  rw [hlen] at h0 ⊢
  obtain ⟨b, o, hp, hlt, hcl⟩ := hcell (by omega)
  exact ⟨b, o, hp, hlt, fun i hi => by rw [hcl i (by omega)]; simp [hi]⟩
theorem HasI.lit (w : World) (xs : List Int) (e : TypeId) (fr : Nat × Nat := (0, 0)) : HasI (w.alloc (.cells (xs.map (Value.int .i64)).toArray e fr)) (.slice (some ⟨w.heap.size, 0, none⟩) xs.length xs.length) xs := by
  refine ⟨_, _, rfl, Nat.le_refl _, (fun h => by cases h), fun _ => ⟨w.heap.size, 0, rfl, by simp, fun i hi => ?_⟩⟩
  rw [Nat.zero_add, cell_of_row _ w.heap.size i _ e fr (heap_alloc_new w _)]
  simp [List.getElem?_eq_getElem hi]

theorem OwnsI.nil (w : World) (B : Nat) : OwnsI w B (.slice none 0 0) [] := World.ownsRow_nil w B _ 1
theorem OwnsI.mono {w : World} {B B' : Nat} {v : Value} {xs : List Int} (h : OwnsI w B v xs) (hB : B' ≤ B) : OwnsI w B' v xs := by
  refine ⟨h.1, ?_⟩
  rcases h.2 with hn | ⟨g, cap, cur, rfl, hb1, rest⟩
  · exact .inl hn
  · exact .inr ⟨g, cap, cur, rfl, Nat.le_trans hB hb1, rest⟩
theorem OwnsI.below {w w' : World} {B B' : Nat} {v : Value} {xs : List Int} (h : OwnsI w B v xs) (hb : Below B' w w') (hB : w.heap.size ≤ B') : OwnsI w' B v xs := by
  refine ⟨h.1, ?_⟩
  rcases h.2 with hn | ⟨g, cap, cur, rfl, hb1, hg, rest⟩
  · exact .inl hn
  · refine .inr ⟨g, cap, cur, rfl, hb1, ?_, rest⟩
    rw [hb.block g (Nat.lt_of_lt_of_le (Array.getElem?_eq_some_iff.1 hg).1 hB)]
    exact hg
/-- A row beyond the window lies on. -/
theorem OwnsI.outside {A B : Nat} {X Y : World} {v : Value} {xs : List Int} (h : OwnsI X B v xs) (ho : Outside A B X Y) : OwnsI Y B v xs := by
  refine ⟨h.1, ?_⟩
  rcases h.2 with hn | ⟨g, cap, cur, rfl, hb1, hg, rest⟩
  · exact .inl hn
  · exact .inr ⟨g, cap, cur, rfl, hb1, ho.block g _ hg (.inr ⟨hb1, rfl⟩), rest⟩

theorem Tryz.infoInt : (Tryz.prog.info? 3).map (fun i => (i.zero, i.size, i.bytes)) = some (some (.int .i64 0), 1, 8) := by kernel_rfl

/-- A box that holds a row, behind 'box = append(box, ..)'. -/
theorem boxed_append {X w1 : World} {B k : Nat} {t e : TypeId} {v v' : Value} {n m : Nat} {xs ys : List Value} {tmp : Obj}
    (hv : Boxed X k t v) (hte : t ≠ e) (hrow : X.ownsRow B e 1 v n xs) (hB : B ≤ X.heap.size) (hown' : w1.ownsRow B e 1 v' m ys) (hgrow : (X.alloc tmp).grownBy w1 v.ownBlock) :
    Boxed w1 k t v ∧ Boxed (w1.setCell ⟨k, 0, none⟩ v') k t v' ∧ (w1.setCell ⟨k, 0, none⟩ v').ownsRow B e 1 v' m ys ∧
      (∀ C, C ≤ k → C ≤ B → Below C X (w1.setCell ⟨k, 0, none⟩ v')) ∧ (∀ lo hi, hi ≤ B → k < lo ∨ hi ≤ k → Keeps lo hi X (w1.setCell ⟨k, 0, none⟩ v')) := by
  have hv1 : Boxed w1 k t v := (hv.alloc tmp).kept hgrow (hv.not_row hte hrow)
  have hr : ∀ j, v.ownBlock = some j → B ≤ j := fun j ej => (World.ownsRow.lt hrow j ej).1
  refine ⟨hv1, hv1.set v', hown'.kept (grownBy_setCell' w1 k v') (.inr (hv1.not_row hte hown').symm), fun C h1 h2 => ?_, fun lo hi h1 h2 => ?_⟩
  · exact (((Below.refl C X).alloc (by omega) tmp).grown hgrow (by simp; omega) fun j ej => by have := hr j ej; omega).setCell (p := ⟨k, 0, none⟩) h1 v'
  · exact ((((Keeps.refl lo hi X).alloc (by omega) tmp)).trans (Keeps.grown hgrow (by simp; omega) fun j ej => by have := hr j ej; omega)).setCell (p := ⟨k, 0, none⟩) h2 v'
end Go.Proofs.YthlghokgknkpaaaGreatDoor

/-
  A map in memory: the object of six cells, the row of its words, the row of its slots (two cells each). Which blocks of old memory a call may turn ('But').
-/
namespace Go.Proofs.YthlghokgknkpaaaGreatDoor
open Go.RowKit Go.Shelf

theorem str_ne {a b : ByteArray} (h : ¬ a = b) : (a.toList == b.toList) = false := by
  rw [beq_eq_false_iff_ne]
  intro e
  exact h (ByteArray.ext (by simpa [ByteArray.toList_eq] using e))

/-- Of what was there, only the blocks of S may have turned. -/
structure But (S : List Nat) (X Y : World) : Prop where
  os : Y.os = X.os
  tape : Y.tape = X.tape
  output : Y.output = X.output
  size : X.heap.size ≤ Y.heap.size
  block : ∀ k, k < X.heap.size → k ∉ S → Y.heap[k]? = X.heap[k]?

theorem But.refl (S : List Nat) (X : World) : But S X X := ⟨rfl, rfl, rfl, Nat.le_refl _, fun _ _ _ => rfl⟩
theorem But.trans {S : List Nat} {X Y Z : World} (h : But S X Y) (k : But S Y Z) : But S X Z :=
  ⟨k.os.trans h.os, k.tape.trans h.tape, k.output.trans h.output, Nat.le_trans h.size k.size, fun i hi hn => (k.block i (Nat.lt_of_lt_of_le hi h.size) hn).trans (h.block i hi hn)⟩
theorem But.mono {S S' : List Nat} {X Y : World} (h : But S X Y) (hs : ∀ k ∈ S, k ∈ S' ∨ X.heap.size ≤ k) : But S' X Y :=
  ⟨h.os, h.tape, h.output, h.size, fun i hi hn => h.block i hi fun hm => by rcases hs i hm with h' | h'; exact hn h'; omega⟩
theorem But.wide {S S' : List Nat} {X Y Z : World} (h : But S X Y) (k : But S' Y Z) (hs : ∀ i ∈ S', i ∈ S ∨ X.heap.size ≤ i) : But S X Z :=
  ⟨k.os.trans h.os, k.tape.trans h.tape, k.output.trans h.output, Nat.le_trans h.size k.size, fun i hi hn => (k.block i (Nat.lt_of_lt_of_le hi h.size) fun hm => by rcases hs i hm with h' | h'; exact hn h'; omega).trans (h.block i hi hn)⟩
theorem But.of_below {S : List Nat} {B : Nat} {X Y : World} (h : Below B X Y) (hB : X.heap.size ≤ B) : But S X Y := ⟨h.os, h.tape, h.output, h.size, fun k hk _ => h.block k (by omega)⟩
theorem But.below {S : List Nat} {B : Nat} {X Y : World} (h : But S X Y) (hS : ∀ k ∈ S, B ≤ k) (hB : B ≤ X.heap.size) : Below B X Y :=
  ⟨h.os, h.tape, h.output, h.size, fun k hk => h.block k (by omega) fun hm => by have := hS k hm; omega⟩
theorem But.alloc {S : List Nat} {X Y : World} (h : But S X Y) (o : Obj) : But S X (Y.alloc o) :=
  h.trans ⟨rfl, rfl, rfl, by simp, fun k hk _ => Below.heap_alloc _ _ _ hk⟩
theorem But.setCell {S : List Nat} {X Y : World} (h : But S X Y) {p : Addr} (hp : p.block ∈ S ∨ X.heap.size ≤ p.block) (u : Value) : But S X (Y.setCell p u) :=
  ⟨h.os, h.tape, h.output, Nat.le_trans h.size (KeepsWalks.setCell Y p u).size, fun i hi hn => (Below.heap_setCell _ _ _ _ (fun e => by subst e; rcases hp with hp | hp; exact hn hp; omega)).trans (h.block i hi hn)⟩
theorem But.drew {S : List Nat} {X Y : World} (h : But S X Y) : But S X Y.drew := ⟨h.os, h.tape, h.output, h.size, h.block⟩
theorem But.drewN {S : List Nat} {X Y : World} (h : But S X Y) : ∀ m, But S X (Y.drewN m)
  | 0 => h
  | m + 1 => (But.drewN h m).drew
theorem Keeps.drewN {A B : Nat} {X Y : World} (h : Keeps A B X Y) (m : Nat) : Keeps A B X (Y.drewN m) := ⟨h.size, h.same⟩
theorem But.keeps {S : List Nat} {A C : Nat} {X Y : World} (h : But S X Y) (hS : ∀ k ∈ S, k < A ∨ C ≤ k) (hC : C ≤ X.heap.size) : Keeps A C X Y :=
  ⟨h.size, fun i h1 h2 => h.block i (by omega) fun hm => by have := hS i hm; omega⟩
theorem But.putObj {S : List Nat} {X Y : World} (h : But S X Y) {r : Nat} (hr : r ∈ S ∨ X.heap.size ≤ r) (o : Obj) : But S X (Y.putObj r o) :=
  ⟨h.os, h.tape, h.output, by simpa using h.size, fun i hi hn => (World.putObj_heap_other (fun e => by subst e; rcases hr with h' | h'; exact hn h'; omega)).trans (h.block i hi hn)⟩
theorem But.outside {S : List Nat} {A B : Nat} {X Y Z : World} (h : But S X Y) (ho : Outside A B Y Z) (hA : X.heap.size ≤ A) : But S X Z :=
  ⟨ho.os.trans h.os, ho.tape.trans h.tape, ho.output.trans h.output, Nat.le_trans h.size ho.size, fun i hi hn => by
    have hy := h.block i hi hn
    rw [Array.getElem?_eq_getElem hi] at hy ⊢
    exact ho.block i _ hy (.inl (by omega))⟩
theorem But.tab {S : List Nat} {X Y : World} (h : But S X Y) (hT : Tab X) (hS : 0 ∉ S) : Tab Y :=
  ⟨Nat.lt_of_lt_of_le hT.1 h.size, fun i hi => (World.cell?_of_block (a := ⟨0, i, none⟩) (h.block 0 hT.1 hS)).trans (hT.2 i hi)⟩

def cellsW (ws : List Nat) : List Value := ws.map fun n : Nat => .int .u64 (n : Int)
def cellsS : List (ByteArray × Value) → List Value
  | [] => []
  | s :: r => .string s.1 :: s.2 :: cellsS r

theorem cellsW_len (ws : List Nat) : (cellsW ws).length = ws.length := by simp [cellsW]
theorem cellsW_at (ws : List Nat) (g : Nat) (h : g < ws.length) : (cellsW ws)[g]? = some (.int .u64 ((ws.getD g 0 : Nat) : Int)) := by
  simp [cellsW, h]
theorem cellsW_set (ws : List Nat) (g x : Nat) : cellsW (ws.set g x) = (cellsW ws).set g (.int .u64 (x : Int)) := by simp [cellsW, List.map_set]
theorem cellsS_len : ∀ ss, (cellsS ss).length = ss.length * 2
  | [] => rfl
  | _ :: r => by simp only [cellsS, List.length_cons, cellsS_len r]; omega
theorem cellsS_key : ∀ (ss : List (ByteArray × Value)) (p : Nat) (d : ByteArray × Value), p < ss.length → (cellsS ss)[p * 2]? = some (.string (ss.getD p d).1)
  | _ :: r, 0, _, _ => rfl
  | _ :: r, p + 1, d, h => by
    rw [show (p + 1) * 2 = p * 2 + 1 + 1 by omega]
    exact cellsS_key r p d (by simpa using h)
theorem cellsS_val : ∀ (ss : List (ByteArray × Value)) (p : Nat) (d : ByteArray × Value), p < ss.length → (cellsS ss)[p * 2 + 1]? = some (ss.getD p d).2
  | _ :: r, 0, _, _ => rfl
  | _ :: r, p + 1, d, h => by
    rw [show (p + 1) * 2 + 1 = p * 2 + 1 + 1 + 1 by omega]
    exact cellsS_val r p d (by simpa using h)
theorem cellsS_set : ∀ (ss : List (ByteArray × Value)) (p : Nat) (k : ByteArray) (v : Value), cellsS (ss.set p (k, v)) = ((cellsS ss).set (p * 2) (.string k)).set (p * 2 + 1) v
  | [], _, _, _ => by simp [cellsS]
  | _ :: r, 0, _, _ => rfl
  | s :: r, p + 1, k, v => by
    rw [show (p + 1) * 2 = p * 2 + 1 + 1 by omega]
    simp only [cellsS, List.set_cons_succ, cellsS_set r p k v]
theorem cellsS_setV : ∀ (ss : List (ByteArray × Value)) (p : Nat) (d : ByteArray × Value) (v : Value), p < ss.length → cellsS (ss.set p ((ss.getD p d).1, v)) = (cellsS ss).set (p * 2 + 1) v
  | _ :: r, 0, _, _, _ => rfl
  | s :: r, p + 1, d, v, h => by
    rw [show (p + 1) * 2 = p * 2 + 1 + 1 by omega]
    have := cellsS_setV r p d v (by simpa using h)
    simp only [cellsS, List.set_cons_succ, List.getD_cons_succ, this]

theorem made_two (x y : Value) (k : ByteArray) (n : Nat) (hx : x = .string k) : (madeCells #[x, y] (n * 2)).toList = cellsS (List.replicate n (k, y)) := by
  subst hx
  apply List.ext_getElem?
  intro j
  by_cases hj : j < n * 2
  · have h1 : (madeCells #[.string k, y] (n * 2)).toList[j]? = some (#[.string k, y][j % 2]!) := by simp [madeCells, hj]
    rw [h1]
    rcases Nat.mod_two_eq_zero_or_one j with h | h
    · rw [h]
      have h2 := cellsS_key (List.replicate n (k, y)) (j / 2) (k, y) (by simp; omega)
      rw [show j / 2 * 2 = j by omega] at h2
      rw [h2]
      simp [show j / 2 < n by omega]
    · rw [h]
      have h2 := cellsS_val (List.replicate n (k, y)) (j / 2) (k, y) (by simp; omega)
      rw [show j / 2 * 2 + 1 = j by omega] at h2
      rw [h2]
      simp [show j / 2 < n by omega]
  · rw [List.getElem?_eq_none (by simp [madeCells]; omega), List.getElem?_eq_none (by rw [cellsS_len]; simp; omega)]

theorem three_new (U : World) (N : Nat) (hN : U.heap.size = N) (o1 o2 o3 : Obj) : (((U.alloc o1).alloc o2).alloc o3).heap[N]? = some o1 ∧ (((U.alloc o1).alloc o2).alloc o3).heap[N + 1]? = some o2 ∧ (((U.alloc o1).alloc o2).alloc o3).heap[N + 1 + 1]? = some o3 ∧
    Below N U (((U.alloc o1).alloc o2).alloc o3) := by
  subst hN
  have h1 := heap_alloc_new U o1
  have h2 := heap_alloc_new (U.alloc o1) o2
  have h3 := heap_alloc_new ((U.alloc o1).alloc o2) o3
  rw [World.size_alloc] at h2
  rw [World.size_alloc, World.size_alloc] at h3
  refine ⟨?_, ?_, h3, (((Below.refl _ U).alloc (Nat.le_refl _) _).alloc (by simp) _).alloc (by simp; omega) _⟩
  · rw [Below.heap_alloc _ _ _ (by simp; omega), Below.heap_alloc _ _ _ (by simp)]; exact h1
  · rw [Below.heap_alloc _ _ _ (by simp)]; exact h2

/-- The map M lies in memory: the object in block b, its words in block bw, its slots in block bs. -/
structure Lies (tM tS : TypeId) (w : World) (b bw bs : Nat) (M : SM) : Prop where
  row : ∃ cw cs, w.heap[b]? = some (.cells #[.int .u64 M.k0, .int .u64 M.k1, .slice (some ⟨bw, 0, none⟩) M.ws.length cw, .slice (some ⟨bs, 0, none⟩) M.ss.length cs, .int .i64 (M.n : Int), .int .i64 (M.t : Int)] tM (0, 0)) ∧
    w.ownsRow 0 22 1 (.slice (some ⟨bw, 0, none⟩) M.ws.length cw) M.ws.length (cellsW M.ws) ∧ w.ownsRow 0 tS 2 (.slice (some ⟨bs, 0, none⟩) M.ss.length cs) M.ss.length (cellsS M.ss)
  ne : b ≠ bw ∧ b ≠ bs ∧ bw ≠ bs
  pos : 0 < b ∧ 0 < bw ∧ 0 < bs

variable {tM tS : TypeId} {w w' : World} {b bw bs : Nat} {M : SM}

theorem Lies.lt (h : Lies tM tS w b bw bs M) : b < w.heap.size ∧ bw < w.heap.size ∧ bs < w.heap.size := by
  obtain ⟨cw, cs, h1, h2, h3⟩ := h.row
  exact ⟨(Array.getElem?_eq_some_iff.1 h1).1, (World.ownsRow.lt h2 bw rfl).2, (World.ownsRow.lt h3 bs rfl).2⟩
theorem ownsRow_block {base : Nat} {e : TypeId} {size g n cap : Nat} {xs : List Value} (h : w.ownsRow base e size (.slice (some ⟨g, 0, none⟩) n cap) n xs) (hb : w'.heap[g]? = w.heap[g]?) : w'.ownsRow base e size (.slice (some ⟨g, 0, none⟩) n cap) n xs := by
  refine ⟨h.1, ?_⟩
  rcases h.2 with hn | ⟨g', cap', cur, e1, hb1, hg, rest⟩
  · exact .inl hn
  · refine .inr ⟨g', cap', cur, e1, hb1, ?_, rest⟩
    simp only [Value.slice.injEq, Option.some.injEq, Addr.mk.injEq, and_true, true_and] at e1
    obtain ⟨rfl, rfl⟩ := e1
    rw [hb]; exact hg
theorem Lies.same (h : Lies tM tS w b bw bs M) (h0 : w'.heap[b]? = w.heap[b]?) (h1 : w'.heap[bw]? = w.heap[bw]?) (h2 : w'.heap[bs]? = w.heap[bs]?) : Lies tM tS w' b bw bs M := by
  obtain ⟨cw, cs, g1, g2, g3⟩ := h.row
  exact ⟨⟨cw, cs, h0.trans g1, ownsRow_block g2 h1, ownsRow_block g3 h2⟩, h.ne, h.pos⟩
theorem Lies.but {S : List Nat} (h : Lies tM tS w b bw bs M) (hb : But S w w') (h1 : b ∉ S) (h2 : bw ∉ S) (h3 : bs ∉ S) : Lies tM tS w' b bw bs M :=
  h.same (hb.block _ h.lt.1 h1) (hb.block _ h.lt.2.1 h2) (hb.block _ h.lt.2.2 h3)
theorem Lies.below {B : Nat} (h : Lies tM tS w b bw bs M) (hb : Below B w w') (hB : w.heap.size ≤ B) : Lies tM tS w' b bw bs M :=
  h.but (But.of_below (S := []) hb hB) (fun h => by cases h) (fun h => by cases h) (fun h => by cases h)
theorem Lies.outside {A B : Nat} (h : Lies tM tS w b bw bs M) (ho : Outside A B w w') (hA : b < A ∧ bw < A ∧ bs < A) : Lies tM tS w' b bw bs M := by
  have hl := h.lt
  refine h.same ?_ ?_ ?_
  · rw [ho.block b _ (Array.getElem?_eq_getElem hl.1) (.inl hA.1), Array.getElem?_eq_getElem hl.1]
  · rw [ho.block bw _ (Array.getElem?_eq_getElem hl.2.1) (.inl hA.2.1), Array.getElem?_eq_getElem hl.2.1]
  · rw [ho.block bs _ (Array.getElem?_eq_getElem hl.2.2) (.inl hA.2.2), Array.getElem?_eq_getElem hl.2.2]
theorem Lies.keeps {N : Nat} (h : Lies tM tS w b bw bs M) (hk : Keeps 0 N w w') (hN : b < N ∧ bw < N ∧ bs < N) : Lies tM tS w' b bw bs M :=
  h.same (hk.same b (Nat.zero_le _) hN.1) (hk.same bw (Nat.zero_le _) hN.2.1) (hk.same bs (Nat.zero_le _) hN.2.2)
theorem Tab.keeps {N : Nat} (hT : Tab w) (hk : Keeps 0 N w w') (hN : 0 < N) : Tab w' :=
  ⟨Nat.lt_of_lt_of_le hT.1 hk.size, fun i hi => (World.cell?_of_block (a := ⟨0, i, none⟩) (hk.same 0 (Nat.le_refl _) hN)).trans (hT.2 i hi)⟩
theorem Lies.drewN (h : Lies tM tS w b bw bs M) (m : Nat) : Lies tM tS (w.drewN m) b bw bs M := h.same rfl rfl rfl
theorem Lies.drew (h : Lies tM tS w b bw bs M) : Lies tM tS w.drew b bw bs M := h.same rfl rfl rfl
theorem Lies.cells (h : Lies tM tS w b bw bs M) : ∃ cw cs, w.cell? ⟨b, 0, none⟩ = some (.int .u64 M.k0) ∧ w.cell? ⟨b, 1, none⟩ = some (.int .u64 M.k1) ∧ w.cell? ⟨b, 2, none⟩ = some (.slice (some ⟨bw, 0, none⟩) M.ws.length cw) ∧
    w.cell? ⟨b, 3, none⟩ = some (.slice (some ⟨bs, 0, none⟩) M.ss.length cs) ∧ w.cell? ⟨b, 4, none⟩ = some (.int .i64 (M.n : Int)) ∧ w.cell? ⟨b, 5, none⟩ = some (.int .i64 (M.t : Int)) ∧ M.ws.length ≤ cw ∧ M.ss.length ≤ cs := by
  obtain ⟨cw, cs, h1, h2, h3⟩ := h.row
  refine ⟨cw, cs, by simp [World.cell?, h1], by simp [World.cell?, h1], by simp [World.cell?, h1], by simp [World.cell?, h1], by simp [World.cell?, h1], by simp [World.cell?, h1], ?_, ?_⟩
  · rcases h2.2 with ⟨h', _⟩ | ⟨g', cap', cur, h', _, _, hn, _⟩
    · simp at h'
    · simp only [Value.slice.injEq] at h'; omega
  · rcases h3.2 with ⟨h', _⟩ | ⟨g', cap', cur, h', _, _, hn, _⟩
    · simp at h'
    · simp only [Value.slice.injEq] at h'; omega
theorem Lies.free (h : Lies tM tS w b bw bs M) (i : Nat) : w.frozen? ⟨b, i, none⟩ = false := by
  obtain ⟨cw, cs, h1, h2, h3⟩ := h.row
  simp [World.frozen?, h1]
theorem Lies.word (h : Lies tM tS w b bw bs M) (g : Nat) (hg : g < M.ws.length) : w.cell? ⟨bw, g, none⟩ = some (.int .u64 (M.w g : Int)) := by
  obtain ⟨cw, cs, h1, h2, h3⟩ := h.row
  rw [World.ownsRow.cellAt h2 g (by omega)]
  exact cellsW_at _ _ hg
theorem Lies.freeW (h : Lies tM tS w b bw bs M) (i : Nat) : w.frozen? ⟨bw, i, none⟩ = false := by
  obtain ⟨cw, cs, h1, h2, h3⟩ := h.row
  exact World.ownsRow.frozenAt h2 i
theorem Lies.key (h : Lies tM tS w b bw bs M) (p : Nat) (hp : p < M.ss.length) : w.cell? ⟨bs, p * 2, none⟩ = some (.string (M.s p).1) := by
  obtain ⟨cw, cs, h1, h2, h3⟩ := h.row
  rw [World.ownsRow.cellAt h3 (p * 2) (by omega)]
  exact cellsS_key _ _ _ hp
theorem Lies.val (h : Lies tM tS w b bw bs M) (p : Nat) (hp : p < M.ss.length) : w.cell? ⟨bs, p * 2 + 1, none⟩ = some (M.s p).2 := by
  obtain ⟨cw, cs, h1, h2, h3⟩ := h.row
  rw [World.ownsRow.cellAt h3 (p * 2 + 1) (by omega)]
  exact cellsS_val _ _ _ hp
theorem Lies.freeS (h : Lies tM tS w b bw bs M) (i : Nat) : w.frozen? ⟨bs, i, none⟩ = false := by
  obtain ⟨cw, cs, h1, h2, h3⟩ := h.row
  exact World.ownsRow.frozenAt h3 i

theorem Lies.tab (h : Lies tM tS w b bw bs M) (hT : Tab w) (hb : But [b, bw, bs] w w') : Tab w' :=
  hb.tab hT (by have := h.pos; simp; omega)
theorem Lies.setW (h : Lies tM tS w b bw bs M) (g x : Nat) : Lies tM tS (w.setCell ⟨bw, g, none⟩ (.int .u64 (x : Int))) b bw bs { M with ws := M.ws.set g x } := by
  obtain ⟨cw, cs, h1, h2, h3⟩ := h.row
  have hne := h.ne
  refine ⟨⟨cw, cs, ?_, ?_, ownsRow_block h3 (Below.heap_setCell _ _ _ _ (fun e => hne.2.2 e.symm))⟩, hne, h.pos⟩
  · rw [Below.heap_setCell _ _ _ _ hne.1, h1, List.length_set]
  · have := (World.ownsRow.stored h2 g (.int .u64 (x : Int))).1
    rw [List.length_set, cellsW_set]
    exact this
theorem Lies.setS (h : Lies tM tS w b bw bs M) (p : Nat) (k : ByteArray) (v : Value) : Lies tM tS ((w.setCell ⟨bs, p * 2, none⟩ (.string k)).setCell ⟨bs, p * 2 + 1, none⟩ v) b bw bs { M with ss := M.ss.set p (k, v) } := by
  obtain ⟨cw, cs, h1, h2, h3⟩ := h.row
  have hne := h.ne
  refine ⟨⟨cw, cs, ?_, ownsRow_block h2 ((Below.heap_setCell _ _ _ _ hne.2.2).trans (Below.heap_setCell _ _ _ _ hne.2.2)), ?_⟩, hne, h.pos⟩
  · rw [Below.heap_setCell _ _ _ _ hne.2.1, Below.heap_setCell _ _ _ _ hne.2.1, h1, List.length_set]
  · have := (World.ownsRow.stored (World.ownsRow.stored h3 (p * 2) (.string k)).1 (p * 2 + 1) v).1
    rw [List.length_set, cellsS_set]
    exact this
theorem Lies.setV (h : Lies tM tS w b bw bs M) (p : Nat) (v : Value) (hp : p < M.ss.length) : Lies tM tS (w.setCell ⟨bs, p * 2 + 1, none⟩ v) b bw bs { M with ss := M.ss.set p ((M.s p).1, v) } := by
  obtain ⟨cw, cs, h1, h2, h3⟩ := h.row
  have hne := h.ne
  refine ⟨⟨cw, cs, ?_, ownsRow_block h2 (Below.heap_setCell _ _ _ _ hne.2.2), ?_⟩, hne, h.pos⟩
  · rw [Below.heap_setCell _ _ _ _ hne.2.1, h1, List.length_set]
  · have := (World.ownsRow.stored h3 (p * 2 + 1) v).1
    rw [List.length_set]
    unfold SM.s
    rw [cellsS_setV _ _ _ _ hp]
    exact this
theorem Lies.setN (h : Lies tM tS w b bw bs M) (n : Nat) : Lies tM tS (w.setCell ⟨b, 4, none⟩ (.int .i64 (n : Int))) b bw bs { M with n := n } := by
  obtain ⟨cw, cs, h1, h2, h3⟩ := h.row
  have hne := h.ne
  refine ⟨⟨cw, cs, ?_, ownsRow_block h2 (Below.heap_setCell _ _ _ _ (fun e => hne.1 e.symm)), ownsRow_block h3 (Below.heap_setCell _ _ _ _ (fun e => hne.2.1 e.symm))⟩, hne, h.pos⟩
  simp [World.setCell, Array.getElem?_modify, h1]
theorem Lies.setT (h : Lies tM tS w b bw bs M) (t : Nat) : Lies tM tS (w.setCell ⟨b, 5, none⟩ (.int .i64 (t : Int))) b bw bs { M with t := t } := by
  obtain ⟨cw, cs, h1, h2, h3⟩ := h.row
  have hne := h.ne
  refine ⟨⟨cw, cs, ?_, ownsRow_block h2 (Below.heap_setCell _ _ _ _ (fun e => hne.1 e.symm)), ownsRow_block h3 (Below.heap_setCell _ _ _ _ (fun e => hne.2.1 e.symm))⟩, hne, h.pos⟩
  simp [World.setCell, Array.getElem?_modify, h1]
end Go.Proofs.YthlghokgknkpaaaGreatDoor

import Derived.Test.YthlghokgknkpaaaGreatDoorSwSTo
import Derived.Deep.QuietTactic
import Derived.BigQuiet
/-
  Plain mathematics: how a map grows. Slices of texts in memory.
-/
namespace Go.Proofs.YthlghokgknkpaaaGreatDoor
open Go.RowKit

/-- As few groups as the keys need, and nothing deleted. -/
def SM.Tight (M : SM) : Prop := M.t = 0 ∧ (M.ws.length = 1 ∨ 7 * (M.ws.length / 2) < M.n)
theorem tight_put {M : SM} {K : Value → Prop} (h : M.Inv K) (hG : M.Tight) {key : ByteArray} {v z : Value} (hv : K v) (hz : K z) (hk : key.size < 140737488355328) (hn : M.n < 2000) : (M.put key v z).2.2.Tight := by
  obtain ⟨ht, hl⟩ := hG
  cases hf : M.find key with
  | some p =>
    have e : M.put key v z = (true, 0, { M with ss := M.ss.set p ((M.s p).1, v) }) := by unfold SM.put; rw [hf]
    rw [e]
    exact ⟨ht, hl⟩
  | none =>
    by_cases hroom : 7 * M.ws.length ≤ M.n + M.t
    · have e : M.put key v z = (false, 0, (M.rehash z).place key v) := by unfold SM.put; rw [hf]; simp only; rw [if_neg (by omega), if_pos hroom]
      rw [e]
      obtain ⟨g1, g2⟩ := size_good h (by omega) hroom
      obtain ⟨r1, r2, r3, r4, r5, r6, r7⟩ := inv_rehash h hz g1 (by omega)
      have hf' : (M.rehash z).find key = none := (find_none_iff r1).2 fun v' hv' => (find_none_iff h).1 hf v' ((r2 _ _).1 hv')
      obtain ⟨i1, i2, i3, i4, i5, i6, i7⟩ := inv_place r1 hf' (by omega) hv hk
      have hs : M.size' = 2 * M.ws.length := by unfold SM.size'; rw [if_pos (.inl ht)]
      refine ⟨by show ((M.rehash z).place key v).t = 0; omega, .inr ?_⟩
      show 7 * (((M.rehash z).place key v).ws.length / 2) < ((M.rehash z).place key v).n
      rw [i5, r5, hs, i3, r3]
      omega
    · have e : M.put key v z = (false, 0, M.place key v) := by unfold SM.put; rw [hf]; simp only; rw [if_neg (by omega), if_neg hroom]
      rw [e]
      obtain ⟨i1, i2, i3, i4, i5, i6, i7⟩ := inv_place h hf (by omega) hv hk
      refine ⟨by show (M.place key v).t = 0; omega, ?_⟩
      show (M.place key v).ws.length = 1 ∨ 7 * ((M.place key v).ws.length / 2) < (M.place key v).n
      rw [i5, i3]
      omega
theorem none_full {M : SM} {K : Value → Prop} (h : M.Inv K) (hn : ∀ k v, ¬ M.Has k v) : M.full = [] ∧ M.n = 0 := by
  have e : M.full = [] := by
    refine List.eq_nil_iff_forall_not_mem.2 fun p hp => ?_
    obtain ⟨p1, p2⟩ := full_mem.1 hp
    exact hn _ _ ⟨p, p1, p2, rfl⟩
  refine ⟨e, ?_⟩
  rw [← full_n h, e]
  rfl

/-- The value v is a slice that reads as the texts xs. -/
def HasT (w : World) (v : Value) (xs : List ByteArray) : Prop :=
  ∃ p c, v = .slice p xs.length c ∧ xs.length ≤ c ∧ (p = none → c = 0) ∧
    (0 < xs.length → ∃ b o, p = some ⟨b, o, none⟩ ∧ b < w.heap.size ∧ ∀ i, i < xs.length → w.cell? ⟨b, o + i, none⟩ = some (.string (xs.getD i ByteArray.empty)))
theorem HasT.below {w w' : World} {B : Nat} {v : Value} {xs : List ByteArray} (h : HasT w v xs) (hb : Below B w w') (hB : w.heap.size ≤ B) : HasT w' v xs := by
  obtain ⟨p, c, rfl, h1, h2, h3⟩ := h
  refine ⟨p, c, rfl, h1, h2, fun h0 => ?_⟩
  obtain ⟨b, o, rfl, hlt, hc⟩ := h3 h0
  exact ⟨b, o, rfl, Nat.lt_of_lt_of_le hlt hb.size, fun i hi => (hb.cell (p := ⟨b, o + i, none⟩) (by exact Nat.lt_of_lt_of_le hlt hB)).trans (hc i hi)⟩
end Go.Proofs.YthlghokgknkpaaaGreatDoor

/-
  A slice of acts that came in; few of the statements' package.
-/
namespace Go.Proofs.YthlghokgknkpaaaGreatDoor
open Go.RowKit

/-- An act: its kind, its key, its value. -/
structure Act' where
  kind : Int
  key : ByteArray
  value : ByteArray
instance : Inhabited Act' := ⟨⟨0, ByteArray.empty, ByteArray.empty⟩⟩

/-- A slice of acts, as it lies in memory. -/
def HasA (w : World) (v : Value) (xs : List Act') : Prop :=
  ∃ p c, v = .slice p xs.length c ∧ xs.length ≤ c ∧ (p = none → c = 0) ∧
    (0 < xs.length → ∃ b o, p = some ⟨b, o, none⟩ ∧ b < w.heap.size ∧ ∀ i, i < xs.length →
      w.cell? ⟨b, o + i * 3, none⟩ = some (.int .i64 (xs.getD i default).kind) ∧ w.cell? ⟨b, o + i * 3 + 1, none⟩ = some (.string (xs.getD i default).key) ∧ w.cell? ⟨b, o + i * 3 + 2, none⟩ = some (.string (xs.getD i default).value) ∧
      (xs.getD i default).key.size ≤ 140737488351232 ∧ (xs.getD i default).value.size ≤ 140737488351232)
theorem HasA.below {w w' : World} {B : Nat} {v : Value} {xs : List Act'} (h : HasA w v xs) (hb : Below B w w') (hB : w.heap.size ≤ B) : HasA w' v xs := by
  obtain ⟨p, c, rfl, h1, h2, h3⟩ := h
  refine ⟨p, c, rfl, h1, h2, fun h0 => ?_⟩
  obtain ⟨b, o, rfl, hlt, hc⟩ := h3 h0
  refine ⟨b, o, rfl, Nat.lt_of_lt_of_le hlt hb.size, fun i hi => ?_⟩
  obtain ⟨h4, h5, h6, h7⟩ := hc i hi
  exact ⟨(hb.cell (p := ⟨b, o + i * 3, none⟩) (by exact Nat.lt_of_lt_of_le hlt hB)).trans h4, (hb.cell (p := ⟨b, o + i * 3 + 1, none⟩) (by exact Nat.lt_of_lt_of_le hlt hB)).trans h5, (hb.cell (p := ⟨b, o + i * 3 + 2, none⟩) (by exact Nat.lt_of_lt_of_le hlt hB)).trans h6, h7⟩

/-- What few reckons of a row of acts. -/
def costA (a : Act') : Nat := 1 + (a.key.size + a.value.size) / 50
def Few (xs : List Act') : Prop := (xs.map costA).sum ≤ 600

theorem few_len {xs : List Act'} (h : Few xs) : xs.length ≤ 600 := by
  have : ∀ l : List Act', l.length ≤ (l.map costA).sum := by
    intro l
    induction l with
    | nil => exact Nat.le_refl _
    | cons a l ih => rw [List.map_cons, List.sum_cons, List.length_cons]; unfold costA; unfold costA at ih; omega
  exact Nat.le_trans (this xs) h
theorem few_key {xs : List Act'} (h : Few xs) {a : Act'} (ha : a ∈ xs) : a.key.size + a.value.size ≤ 30000 := by
  have : ∀ l : List Act', a ∈ l → costA a ≤ (l.map costA).sum := by
    intro l
    induction l with
    | nil => exact fun h => by cases h
    | cons b l ih =>
      intro hm
      rw [List.map_cons, List.sum_cons]
      rcases List.mem_cons.1 hm with rfl | hm
      · omega
      · have := ih hm; omega
  have h1 := this xs ha
  unfold Few at h
  unfold costA at h1 h
  omega

theorem few_step (k ks vs : Nat) (hk : k ≤ 300) (h1 : ks ≤ 140737488351232) (h2 : vs ≤ 140737488351232) :
    wrap64 ((k : Int) + wrap64 (1 + wrap64 ((wrap64 ((ks : Int) + vs)).tdiv 50))) = ((k + (1 + (ks + vs) / 50) : Nat) : Int) := by
  rw [IntWalk.wrap64_in ((ks : Int) + vs) (by omega), Int.tdiv_eq_ediv_of_nonneg (by omega)]
  obtain ⟨q, hq⟩ : ∃ q : Nat, q = (ks + vs) / 50 := ⟨_, rfl⟩
  have e : ((ks : Int) + vs) / 50 = q := by omega
  have hq' : q ≤ 281474976710656 := by omega
  rw [e, ← hq, IntWalk.wrap64_in (q : Int) (by omega), IntWalk.wrap64_in (1 + (q : Int)) (by omega), IntWalk.wrap64_in _ (by omega)]
  omega
end Go.Proofs.YthlghokgknkpaaaGreatDoor

/-
  Contracts: corbelref01.Words, corbelref01.Texts.
-/
namespace Go.Proofs.YthlghokgknkpaaaGreatDoor
open Go.RowKit Go.Shelf

/-- A slice of words, as it lies in memory. -/
def HasW (w : World) (v : Value) (xs : List Nat) : Prop :=
  ∃ p c, v = .slice p xs.length c ∧ xs.length ≤ c ∧ (p = none → c = 0) ∧
    (0 < xs.length → ∃ b o, p = some ⟨b, o, none⟩ ∧ b < w.heap.size ∧ ∀ i, i < xs.length → w.cell? ⟨b, o + i, none⟩ = some (.int .u64 ((xs.getD i 0 : Nat) : Int)))
theorem HasW.below {w w' : World} {B : Nat} {v : Value} {xs : List Nat} (h : HasW w v xs) (hb : Below B w w') (hB : w.heap.size ≤ B) : HasW w' v xs := by
  obtain ⟨p, c, rfl, h1, h2, h3⟩ := h
  refine ⟨p, c, rfl, h1, h2, fun h0 => ?_⟩
  obtain ⟨b, o, rfl, hlt, hc⟩ := h3 h0
  exact ⟨b, o, rfl, Nat.lt_of_lt_of_le hlt hb.size, fun i hi => (hb.cell (p := ⟨b, o + i, none⟩) (by exact Nat.lt_of_lt_of_le hlt hB)).trans (hc i hi)⟩

set_option maxRecDepth 10000 in
set_option maxHeartbeats 2000000 in
theorem words_any (u v : Value) (xs ys : List Nat) (w : World) (hx : HasW w u xs) (hy : HasW w v ys) (lx : xs.length ≤ 1099511627776) (ly : ys.length ≤ 1099511627776) :
    Calls Tryz.prog 26 #[u, v] w fun e w' => e = .returned (.bool (decide (xs = ys))) ∧ Below w.heap.size w w' := by
  obtain ⟨p, c, rfl, hc, _, hcx⟩ := hx
  obtain ⟨q, d, rfl, hd, _, hcy⟩ := hy
  by_cases hl : xs.length = ys.length
  · rcases Nat.eq_zero_or_pos xs.length with h0 | h0
    · obtain rfl : xs = [] := List.eq_nil_of_length_eq_zero h0
      obtain rfl : ys = [] := List.eq_nil_of_length_eq_zero (by simpa using hl.symm)
      go_enter Tryz.func26, Tryz.ntmps26
      go_wp2
      go_loop [13] (fun t => t = .int .i64 0) (fun _ => 0)
      case atStart => rfl
      case round =>
        obtain rfl := hrel
        go_wp2
        go_ret
        exact ⟨rfl, Below.refl _ _⟩
    · obtain ⟨b, o, rfl, hbl, hcx⟩ := hcx h0
      obtain ⟨b', o', rfl, hbl', hcy⟩ := hcy (by omega)
      have hl' : ((xs.length : Int) == (ys.length : Int)) = true := by rw [hl]; simp
      go_enter Tryz.func26, Tryz.ntmps26
      go_wp2
      go_loopw [13] (fun t wr => ∃ j : Nat, j ≤ xs.length ∧ t = .int .i64 j ∧ Hid (∀ i, i < j → xs.getD i 0 = ys.getD i 0) ∧ Below w.heap.size w wr) (fun t _ => xs.length - (intOf t).toNat)
      case atStart => exact ⟨0, by omega, rfl, fun i hi => by omega, Below.refl _ _⟩
      case round =>
        obtain ⟨j, hj, rfl, hs, hb⟩ := hrel
        by_cases hlt : j < xs.length
        · have c1 : wr.cell? ⟨b, o + j, none⟩ = some (.int .u64 ((xs.getD j 0 : Nat) : Int)) := (hb.cell (p := ⟨b, o + j, none⟩) hbl).trans (hcx j hlt)
          have c2 : wr.cell? ⟨b', o' + j, none⟩ = some (.int .u64 ((ys.getD j 0 : Nat) : Int)) := (hb.cell (p := ⟨b', o' + j, none⟩) hbl').trans (hcy j (by omega))
          have hj1 : (j : Int) < (xs.length : Int) := by omega
          have hj2 : (j : Int) < (ys.length : Int) := by omega
          by_cases he : xs.getD j 0 = ys.getD j 0
          · have he' : (((xs.getD j 0 : Nat) : Int) == ((ys.getD j 0 : Nat) : Int)) = true := by rw [he]; exact beq_self_eq_true _
            have hs' : Hid (∀ i, i < j + 1 → xs.getD i 0 = ys.getD i 0) := fun i hi => by
              by_cases e : i = j
              · rw [e]; exact he
              · exact hs.out i (by omega)
            clear hs he hcx hcy
            generalize xs.getD j 0 = x at *
            generalize ys.getD j 0 = y at *
            go_wp2
            go_quiet (fail)
            go_wp2
            go_roundw
            case rel => exact ⟨j + 1, by omega, by simp, hs', below_drewN hb _⟩
            case measure => simp only [intOf]; omega
          · have he' : (((xs.getD j 0 : Nat) : Int) == ((ys.getD j 0 : Nat) : Int)) = false := beq_eq_false_iff_ne.2 (by omega)
            have hd0 : Hid (decide (xs = ys) = false) := decide_eq_false fun e => he (by rw [e])
            clear hs he hcx hcy
            generalize xs.getD j 0 = x at *
            generalize ys.getD j 0 = y at *
            go_wp2
            go_quiet (fail)
            go_wp2
            go_ret
            exact ⟨by rw [hd0.out]; rfl, below_drewN hb _⟩
        · obtain rfl : j = xs.length := by omega
          have he : Hid (decide (xs = ys) = true) := decide_eq_true (List.ext_getElem hl fun i h1 h2 => by
            have := hs.out i h1
            simpa [List.getD_eq_getElem?_getD, List.getElem?_eq_getElem h1, List.getElem?_eq_getElem h2] using this)
          clear hs hcx hcy
          go_wp2
          go_ret
          exact ⟨by rw [he.out]; rfl, hb⟩
  · have hne : xs ≠ ys := fun e => hl (by rw [e])
    have hd0 : decide (xs = ys) = false := decide_eq_false hne
    have hl' : ((xs.length : Int) == (ys.length : Int)) = false := by
      rw [beq_eq_false_iff_ne]; omega
    clear hcx hcy
    rw [hd0]
    go_enter Tryz.func26, Tryz.ntmps26
    go_wp2
    go_ret
    exact ⟨rfl, Below.refl _ _⟩

end Go.Proofs.YthlghokgknkpaaaGreatDoor

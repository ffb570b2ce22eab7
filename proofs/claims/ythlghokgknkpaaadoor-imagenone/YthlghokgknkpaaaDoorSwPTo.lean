import Derived.Test.YthlghokgknkpaaaDoorP1To
import Derived.Test.YthlghokgknkpaaaDoorChecked
import Derived.Laws.OwnMore
import Derived.Maps.AppendAt
import Derived.Test.YthlghokgknkpaaaDoorSwATo
import Derived.Laws.MakeOwn
/-
  Slices of ints in memory: what one reads as (HasI), a row of ints that the call made (OwnsI); a box that holds such a row, behind an append.
-/
namespace Go.Proofs.YthlghokgknkpaaaDoor
open Go.RowKit Go.Shelf

/-- The value v is a slice that reads as the ints xs. -/
def HasI (w : World) (v : Value) (xs : List Int) : Prop :=
  ∃ p c, v = .slice p xs.length c ∧ xs.length ≤ c ∧ (p = none → c = 0) ∧
    (0 < xs.length → ∃ b o, p = some ⟨b, o, none⟩ ∧ b < w.heap.size ∧ ∀ i, i < xs.length → w.cell? ⟨b, o + i, none⟩ = some (.int .i64 (xs.getD i 0)))

/-- The value v is a slice that the call made, in a row from block B on; it reads as xs. -/
def OwnsI (w : World) (B : Nat) (v : Value) (xs : List Int) : Prop := w.ownsRow B 3 1 v xs.length (xs.map (Value.int .i64))

theorem OwnsI.has {w : World} {B : Nat} {v : Value} {xs : List Int} (h : OwnsI w B v xs) : HasI w v xs := by
  rcases h.2 with ⟨rfl, hn⟩ | ⟨g, cap, cur, rfl, hB, hg, hnc, _, _, _⟩
  · exact ⟨none, 0, by rw [hn], by omega, fun _ => rfl, fun h0 => by omega⟩
  · refine ⟨some ⟨g, 0, none⟩, cap, rfl, hnc, (fun h0 => by cases h0), fun _ => ⟨g, 0, rfl, (Array.getElem?_eq_some_iff.1 hg).1, fun i hi => ?_⟩⟩
    have hc := World.ownsRow.cells h (g := g) rfl i (.int .i64 (xs.getD i 0)) (by simp [List.getElem?_eq_getElem hi])
    rw [Addr.add_lit] at hc
    exact hc

theorem HasI.nil (w : World) : HasI w (.slice none 0 0) [] := ⟨none, 0, rfl, Nat.le_refl _, fun _ => rfl, fun h => absurd h (Nat.lt_irrefl 0)⟩
theorem HasI.below {w w' : World} {B : Nat} {v : Value} {xs : List Int} (h : HasI w v xs) (hb : Below B w w') (hB : w.heap.size ≤ B) : HasI w' v xs := by
  obtain ⟨p, c, rfl, h1, h2, h3⟩ := h
  refine ⟨p, c, rfl, h1, h2, fun h0 => ?_⟩
  obtain ⟨b, o, rfl, hlt, hc⟩ := h3 h0
  exact ⟨b, o, rfl, Nat.lt_of_lt_of_le hlt hb.size, fun i hi => (hb.cell (p := ⟨b, o + i, none⟩) (by exact Nat.lt_of_lt_of_le hlt hB)).trans (hc i hi)⟩
theorem HasI.takeN {w : World} {p : Option Addr} {c : Nat} {xs : List Int} {n : Nat} (h : HasI w (.slice p n c) xs) (j : Nat) (hj : j ≤ xs.length) : HasI w (.slice p j c) (xs.take j) := by
  obtain ⟨p', c', hv, hc, hnone, hcell⟩ := h
  simp only [Value.slice.injEq] at hv
  obtain ⟨rfl, _, rfl⟩ := hv
  have hlen : (xs.take j).length = j := by rw [List.length_take]; omega
  refine ⟨p, c, by rw [hlen], by rw [hlen]; omega, hnone, fun h0 => ?_⟩
  rw [hlen] at h0 ⊢
  obtain ⟨b, o, hp, hlt, hcl⟩ := hcell (by omega)
  exact ⟨b, o, hp, hlt, fun i hi => by rw [hcl i (by omega)]; simp [hi]⟩
theorem HasI.lit (w : World) (xs : List Int) (e : TypeId) (fr : Nat × Nat := (0, 0)) : HasI (w.alloc (.cells (xs.map (Value.int .i64)).toArray e fr)) (.slice (some ⟨w.heap.size, 0, none⟩) xs.length xs.length) xs := by
  refine ⟨_, _, rfl, Nat.le_refl _, (fun h => by cases h), fun _ => ⟨w.heap.size, 0, rfl, by simp, fun i hi => ?_⟩⟩
  rw [Nat.zero_add, cell_of_row _ w.heap.size i _ e fr (heap_alloc_new w _)]
  simp [List.getElem?_eq_getElem hi]

theorem OwnsI.nil (w : World) (B : Nat) : OwnsI w B (.slice none 0 0) [] := World.ownsRow_nil w B _ 1
theorem OwnsI.mono {w : World} {B B' : Nat} {v : Value} {xs : List Int} (h : OwnsI w B v xs) (hB : B' ≤ B) : OwnsI w B' v xs := by
  refine ⟨h.1, ?_⟩
  rcases h.2 with hn | ⟨g, cap, cur, rfl, hb1, rest⟩
  · exact .inl hn
  · exact .inr ⟨g, cap, cur, rfl, Nat.le_trans hB hb1, rest⟩
theorem OwnsI.below {w w' : World} {B B' : Nat} {v : Value} {xs : List Int} (h : OwnsI w B v xs) (hb : Below B' w w') (hB : w.heap.size ≤ B') : OwnsI w' B v xs := by
  refine ⟨h.1, ?_⟩
  rcases h.2 with hn | ⟨g, cap, cur, rfl, hb1, hg, rest⟩
  · exact .inl hn
  · refine .inr ⟨g, cap, cur, rfl, hb1, ?_, rest⟩
    rw [hb.block g (Nat.lt_of_lt_of_le (Array.getElem?_eq_some_iff.1 hg).1 hB)]
    exact hg
/-- A row beyond the window lies on. -/
theorem OwnsI.outside {A B : Nat} {X Y : World} {v : Value} {xs : List Int} (h : OwnsI X B v xs) (ho : Outside A B X Y) : OwnsI Y B v xs := by
  refine ⟨h.1, ?_⟩
  rcases h.2 with hn | ⟨g, cap, cur, rfl, hb1, hg, rest⟩
  · exact .inl hn
  · exact .inr ⟨g, cap, cur, rfl, hb1, ho.block g _ hg (.inr ⟨hb1, rfl⟩), rest⟩

theorem Tryd.infoInt : (Tryd.prog.info? 3).map (fun i => (i.zero, i.size, i.bytes)) = some (some (.int .i64 0), 1, 8) := by kernel_rfl

/-- A box that holds a row, behind 'box = append(box, ..)'. -/
theorem boxed_append {X w1 : World} {B k : Nat} {t e : TypeId} {v v' : Value} {n m : Nat} {xs ys : List Value} {tmp : Obj}
    (hv : Boxed X k t v) (hte : t ≠ e) (hrow : X.ownsRow B e 1 v n xs) (hB : B ≤ X.heap.size) (hown' : w1.ownsRow B e 1 v' m ys) (hgrow : (X.alloc tmp).grownBy w1 v.ownBlock) :
    Boxed w1 k t v ∧ Boxed (w1.setCell ⟨k, 0, none⟩ v') k t v' ∧ (w1.setCell ⟨k, 0, none⟩ v').ownsRow B e 1 v' m ys ∧
      (∀ C, C ≤ k → C ≤ B → Below C X (w1.setCell ⟨k, 0, none⟩ v')) ∧ (∀ lo hi, hi ≤ B → k < lo ∨ hi ≤ k → Keeps lo hi X (w1.setCell ⟨k, 0, none⟩ v')) := by
  have hv1 : Boxed w1 k t v := (hv.alloc tmp).kept hgrow (hv.not_row hte hrow)
  have hr : ∀ j, v.ownBlock = some j → B ≤ j := fun j ej => (World.ownsRow.lt hrow j ej).1
  refine ⟨hv1, hv1.set v', hown'.kept (grownBy_setCell' w1 k v') (.inr (hv1.not_row hte hown').symm), fun C h1 h2 => ?_, fun lo hi h1 h2 => ?_⟩
  · exact (((Below.refl C X).alloc (by omega) tmp).grown hgrow (by simp; omega) fun j ej => by have := hr j ej; omega).setCell (p := ⟨k, 0, none⟩) h1 v'
  · exact ((((Keeps.refl lo hi X).alloc (by omega) tmp)).trans (Keeps.grown hgrow (by simp; omega) fun j ej => by have := hr j ej; omega)).setCell (p := ⟨k, 0, none⟩) h2 v'
end Go.Proofs.YthlghokgknkpaaaDoor

/-
  A map in memory: the object of six cells, the row of its words, the row of its slots (two cells each). Which blocks of old memory a call may turn ('But').
-/
namespace Go.Proofs.YthlghokgknkpaaaDoor
open Go.RowKit Go.Shelf

theorem str_ne {a b : ByteArray} (h : ¬ a = b) : (a.toList == b.toList) = false := by
  rw [beq_eq_false_iff_ne]
  intro e
  exact h (ByteArray.ext (by simpa [ByteArray.toList_eq] using e))

/-- Of what was there, only the blocks of S may have turned. -/
structure But (S : List Nat) (X Y : World) : Prop where
  os : Y.os = X.os
  tape : Y.tape = X.tape
  output : Y.output = X.output
  size : X.heap.size ≤ Y.heap.size
  block : ∀ k, k < X.heap.size → k ∉ S → Y.heap[k]? = X.heap[k]?

theorem But.refl (S : List Nat) (X : World) : But S X X := ⟨rfl, rfl, rfl, Nat.le_refl _, fun _ _ _ => rfl⟩
theorem But.trans {S : List Nat} {X Y Z : World} (h : But S X Y) (k : But S Y Z) : But S X Z :=
  ⟨k.os.trans h.os, k.tape.trans h.tape, k.output.trans h.output, Nat.le_trans h.size k.size, fun i hi hn => (k.block i (Nat.lt_of_lt_of_le hi h.size) hn).trans (h.block i hi hn)⟩
theorem But.mono {S S' : List Nat} {X Y : World} (h : But S X Y) (hs : ∀ k ∈ S, k ∈ S' ∨ X.heap.size ≤ k) : But S' X Y :=
  ⟨h.os, h.tape, h.output, h.size, fun i hi hn => h.block i hi fun hm => by rcases hs i hm with h' | h'; exact hn h'; omega⟩
theorem But.wide {S S' : List Nat} {X Y Z : World} (h : But S X Y) (k : But S' Y Z) (hs : ∀ i ∈ S', i ∈ S ∨ X.heap.size ≤ i) : But S X Z :=
  ⟨k.os.trans h.os, k.tape.trans h.tape, k.output.trans h.output, Nat.le_trans h.size k.size, fun i hi hn => (k.block i (Nat.lt_of_lt_of_le hi h.size) fun hm => by rcases hs i hm with h' | h'; exact hn h'; omega).trans (h.block i hi hn)⟩
theorem But.of_below {S : List Nat} {B : Nat} {X Y : World} (h : Below B X Y) (hB : X.heap.size ≤ B) : But S X Y := ⟨h.os, h.tape, h.output, h.size, fun k hk _ => h.block k (by omega)⟩
theorem But.below {S : List Nat} {B : Nat} {X Y : World} (h : But S X Y) (hS : ∀ k ∈ S, B ≤ k) (hB : B ≤ X.heap.size) : Below B X Y :=
  ⟨h.os, h.tape, h.output, h.size, fun k hk => h.block k (by omega) fun hm => by have := hS k hm; omega⟩
theorem But.alloc {S : List Nat} {X Y : World} (h : But S X Y) (o : Obj) : But S X (Y.alloc o) :=
  h.trans ⟨rfl, rfl, rfl, by simp, fun k hk _ => Below.heap_alloc _ _ _ hk⟩
theorem But.setCell {S : List Nat} {X Y : World} (h : But S X Y) {p : Addr} (hp : p.block ∈ S ∨ X.heap.size ≤ p.block) (u : Value) : But S X (Y.setCell p u) :=
  ⟨h.os, h.tape, h.output, Nat.le_trans h.size (KeepsWalks.setCell Y p u).size, fun i hi hn => (Below.heap_setCell _ _ _ _ (fun e => by subst e; rcases hp with hp | hp; exact hn hp; omega)).trans (h.block i hi hn)⟩
theorem But.drew {S : List Nat} {X Y : World} (h : But S X Y) : But S X Y.drew := ⟨h.os, h.tape, h.output, h.size, h.block⟩
theorem But.drewN {S : List Nat} {X Y : World} (h : But S X Y) : ∀ m, But S X (Y.drewN m)
  | 0 => h
  | m + 1 => (But.drewN h m).drew
theorem Keeps.drewN {A B : Nat} {X Y : World} (h : Keeps A B X Y) (m : Nat) : Keeps A B X (Y.drewN m) := ⟨h.size, h.same⟩
theorem But.keeps {S : List Nat} {A C : Nat} {X Y : World} (h : But S X Y) (hS : ∀ k ∈ S, k < A ∨ C ≤ k) (hC : C ≤ X.heap.size) : Keeps A C X Y :=
  ⟨h.size, fun i h1 h2 => h.block i (by omega) fun hm => by have := hS i hm; omega⟩
theorem But.putObj {S : List Nat} {X Y : World} (h : But S X Y) {r : Nat} (hr : r ∈ S ∨ X.heap.size ≤ r) (o : Obj) : But S X (Y.putObj r o) :=
  ⟨h.os, h.tape, h.output, by simpa using h.size, fun i hi hn => (World.putObj_heap_other (fun e => by subst e; rcases hr with h' | h'; exact hn h'; omega)).trans (h.block i hi hn)⟩
theorem But.outside {S : List Nat} {A B : Nat} {X Y Z : World} (h : But S X Y) (ho : Outside A B Y Z) (hA : X.heap.size ≤ A) : But S X Z :=
  ⟨ho.os.trans h.os, ho.tape.trans h.tape, ho.output.trans h.output, Nat.le_trans h.size ho.size, fun i hi hn => by
    have hy := h.block i hi hn
    rw [Array.getElem?_eq_getElem hi] at hy ⊢
    exact ho.block i _ hy (.inl (by omega))⟩
theorem But.tab {S : List Nat} {X Y : World} (h : But S X Y) (hT : Tab X) (hS : 0 ∉ S) : Tab Y :=
  ⟨Nat.lt_of_lt_of_le hT.1 h.size, fun i hi => (World.cell?_of_block (a := ⟨0, i, none⟩) (h.block 0 hT.1 hS)).trans (hT.2 i hi)⟩

def cellsW (ws : List Nat) : List Value := ws.map fun n : Nat => .int .u64 (n : Int)
def cellsS : List (ByteArray × Value) → List Value
  | [] => []
  | s :: r => .string s.1 :: s.2 :: cellsS r

theorem cellsW_len (ws : List Nat) : (cellsW ws).length = ws.length := by simp [cellsW]
theorem cellsW_at (ws : List Nat) (g : Nat) (h : g < ws.length) : (cellsW ws)[g]? = some (.int .u64 ((ws.getD g 0 : Nat) : Int)) := by
  simp [cellsW, h]
theorem cellsW_set (ws : List Nat) (g x : Nat) : cellsW (ws.set g x) = (cellsW ws).set g (.int .u64 (x : Int)) := by simp [cellsW, List.map_set]
theorem cellsS_len : ∀ ss, (cellsS ss).length = ss.length * 2
  | [] => rfl
  | _ :: r => by simp only [cellsS, List.length_cons, cellsS_len r]; omega
theorem cellsS_key : ∀ (ss : List (ByteArray × Value)) (p : Nat) (d : ByteArray × Value), p < ss.length → (cellsS ss)[p * 2]? = some (.string (ss.getD p d).1)
  | _ :: r, 0, _, _ => rfl
  | _ :: r, p + 1, d, h => by
    rw [show (p + 1) * 2 = p * 2 + 1 + 1 by omega]
    exact cellsS_key r p d (by simpa using h)
theorem cellsS_val : ∀ (ss : List (ByteArray × Value)) (p : Nat) (d : ByteArray × Value), p < ss.length → (cellsS ss)[p * 2 + 1]? = some (ss.getD p d).2
  | _ :: r, 0, _, _ => rfl
  | _ :: r, p + 1, d, h => by
    rw [show (p + 1) * 2 + 1 = p * 2 + 1 + 1 + 1 by omega]
    exact cellsS_val r p d (by simpa using h)
theorem cellsS_set : ∀ (ss : List (ByteArray × Value)) (p : Nat) (k : ByteArray) (v : Value), cellsS (ss.set p (k, v)) = ((cellsS ss).set (p * 2) (.string k)).set (p * 2 + 1) v
  | [], _, _, _ => by simp [cellsS]
  | _ :: r, 0, _, _ => rfl
  | s :: r, p + 1, k, v => by
    rw [show (p + 1) * 2 = p * 2 + 1 + 1 by omega]
    simp only [cellsS, List.set_cons_succ, cellsS_set r p k v]
theorem cellsS_setV : ∀ (ss : List (ByteArray × Value)) (p : Nat) (d : ByteArray × Value) (v : Value), p < ss.length → cellsS (ss.set p ((ss.getD p d).1, v)) = (cellsS ss).set (p * 2 + 1) v
  | _ :: r, 0, _, _, _ => rfl
  | s :: r, p + 1, d, v, h => by
    rw [show (p + 1) * 2 = p * 2 + 1 + 1 by omega]
    have := cellsS_setV r p d v (by simpa using h)
    simp only [cellsS, List.set_cons_succ, List.getD_cons_succ, this]

theorem made_two (x y : Value) (k : ByteArray) (n : Nat) (hx : x = .string k) : (madeCells #[x, y] (n * 2)).toList = cellsS (List.replicate n (k, y)) := by
  subst hx
  apply List.ext_getElem?
  intro j
  by_cases hj : j < n * 2
  · have h1 : (madeCells #[.string k, y] (n * 2)).toList[j]? = some (#[.string k, y][j % 2]!) := by simp [madeCells, hj]
    rw [h1]
    rcases Nat.mod_two_eq_zero_or_one j with h | h
    · rw [h]
      have h2 := cellsS_key (List.replicate n (k, y)) (j / 2) (k, y) (by simp; omega)
      rw [show j / 2 * 2 = j by omega] at h2
      rw [h2]
      simp [show j / 2 < n by omega]
    · rw [h]
      have h2 := cellsS_val (List.replicate n (k, y)) (j / 2) (k, y) (by simp; omega)
      rw [show j / 2 * 2 + 1 = j by omega] at h2
      rw [h2]
      simp [show j / 2 < n by omega]
  · rw [List.getElem?_eq_none (by simp [madeCells]; omega), List.getElem?_eq_none (by rw [cellsS_len]; simp; omega)]

theorem three_new (U : World) (N : Nat) (hN : U.heap.size = N) (o1 o2 o3 : Obj) : (((U.alloc o1).alloc o2).alloc o3).heap[N]? = some o1 ∧ (((U.alloc o1).alloc o2).alloc o3).heap[N + 1]? = some o2 ∧ (((U.alloc o1).alloc o2).alloc o3).heap[N + 1 + 1]? = some o3 ∧
    Below N U (((U.alloc o1).alloc o2).alloc o3) := by
  subst hN
  have h1 := heap_alloc_new U o1
  have h2 := heap_alloc_new (U.alloc o1) o2
  have h3 := heap_alloc_new ((U.alloc o1).alloc o2) o3
  rw [World.size_alloc] at h2
  rw [World.size_alloc, World.size_alloc] at h3
  refine ⟨?_, ?_, h3, (((Below.refl _ U).alloc (Nat.le_refl _) _).alloc (by simp) _).alloc (by simp; omega) _⟩
  · rw [Below.heap_alloc _ _ _ (by simp; omega), Below.heap_alloc _ _ _ (by simp)]; exact h1
  · rw [Below.heap_alloc _ _ _ (by simp)]; exact h2

/-- The map M lies in memory: the object in block b, its words in block bw, its slots in block bs. -/
structure Lies (tM tS : TypeId) (w : World) (b bw bs : Nat) (M : SM) : Prop where
  row : ∃ cw cs, w.heap[b]? = some (.cells #[.int .u64 M.k0, .int .u64 M.k1, .slice (some ⟨bw, 0, none⟩) M.ws.length cw, .slice (some ⟨bs, 0, none⟩) M.ss.length cs, .int .i64 (M.n : Int), .int .i64 (M.t : Int)] tM (0, 0)) ∧
    w.ownsRow 0 22 1 (.slice (some ⟨bw, 0, none⟩) M.ws.length cw) M.ws.length (cellsW M.ws) ∧ w.ownsRow 0 tS 2 (.slice (some ⟨bs, 0, none⟩) M.ss.length cs) M.ss.length (cellsS M.ss)
  ne : b ≠ bw ∧ b ≠ bs ∧ bw ≠ bs
  pos : 0 < b ∧ 0 < bw ∧ 0 < bs

variable {tM tS : TypeId} {w w' : World} {b bw bs : Nat} {M : SM}

theorem Lies.lt (h : Lies tM tS w b bw bs M) : b < w.heap.size ∧ bw < w.heap.size ∧ bs < w.heap.size := by
  obtain ⟨cw, cs, h1, h2, h3⟩ := h.row
  exact ⟨(Array.getElem?_eq_some_iff.1 h1).1, (World.ownsRow.lt h2 bw rfl).2, (World.ownsRow.lt h3 bs rfl).2⟩
theorem ownsRow_block {base : Nat} {e : TypeId} {size g n cap : Nat} {xs : List Value} (h : w.ownsRow base e size (.slice (some ⟨g, 0, none⟩) n cap) n xs) (hb : w'.heap[g]? = w.heap[g]?) : w'.ownsRow base e size (.slice (some ⟨g, 0, none⟩) n cap) n xs := by
  refine ⟨h.1, ?_⟩
  rcases h.2 with hn | ⟨g', cap', cur, e1, hb1, hg, rest⟩
  · exact .inl hn
  · refine .inr ⟨g', cap', cur, e1, hb1, ?_, rest⟩
    simp only [Value.slice.injEq, Option.some.injEq, Addr.mk.injEq, and_true, true_and] at e1
    obtain ⟨rfl, rfl⟩ := e1
    rw [hb]; exact hg
theorem Lies.same (h : Lies tM tS w b bw bs M) (h0 : w'.heap[b]? = w.heap[b]?) (h1 : w'.heap[bw]? = w.heap[bw]?) (h2 : w'.heap[bs]? = w.heap[bs]?) : Lies tM tS w' b bw bs M := by
  obtain ⟨cw, cs, g1, g2, g3⟩ := h.row
  exact ⟨⟨cw, cs, h0.trans g1, ownsRow_block g2 h1, ownsRow_block g3 h2⟩, h.ne, h.pos⟩
theorem Lies.but {S : List Nat} (h : Lies tM tS w b bw bs M) (hb : But S w w') (h1 : b ∉ S) (h2 : bw ∉ S) (h3 : bs ∉ S) : Lies tM tS w' b bw bs M :=
  h.same (hb.block _ h.lt.1 h1) (hb.block _ h.lt.2.1 h2) (hb.block _ h.lt.2.2 h3)
theorem Lies.below {B : Nat} (h : Lies tM tS w b bw bs M) (hb : Below B w w') (hB : w.heap.size ≤ B) : Lies tM tS w' b bw bs M :=
  h.but (But.of_below (S := []) hb hB) (fun h => by cases h) (fun h => by cases h) (fun h => by cases h)
theorem Lies.outside {A B : Nat} (h : Lies tM tS w b bw bs M) (ho : Outside A B w w') (hA : b < A ∧ bw < A ∧ bs < A) : Lies tM tS w' b bw bs M := by
  have hl := h.lt
  refine h.same ?_ ?_ ?_
  · rw [ho.block b _ (Array.getElem?_eq_getElem hl.1) (.inl hA.1), Array.getElem?_eq_getElem hl.1]
  · rw [ho.block bw _ (Array.getElem?_eq_getElem hl.2.1) (.inl hA.2.1), Array.getElem?_eq_getElem hl.2.1]
  · rw [ho.block bs _ (Array.getElem?_eq_getElem hl.2.2) (.inl hA.2.2), Array.getElem?_eq_getElem hl.2.2]
theorem Lies.keeps {N : Nat} (h : Lies tM tS w b bw bs M) (hk : Keeps 0 N w w') (hN : b < N ∧ bw < N ∧ bs < N) : Lies tM tS w' b bw bs M :=
  h.same (hk.same b (Nat.zero_le _) hN.1) (hk.same bw (Nat.zero_le _) hN.2.1) (hk.same bs (Nat.zero_le _) hN.2.2)
theorem Tab.keeps {N : Nat} (hT : Tab w) (hk : Keeps 0 N w w') (hN : 0 < N) : Tab w' :=
  ⟨Nat.lt_of_lt_of_le hT.1 hk.size, fun i hi => (World.cell?_of_block (a := ⟨0, i, none⟩) (hk.same 0 (Nat.le_refl _) hN)).trans (hT.2 i hi)⟩
theorem Lies.drewN (h : Lies tM tS w b bw bs M) (m : Nat) : Lies tM tS (w.drewN m) b bw bs M := h.same rfl rfl rfl
theorem Lies.drew (h : Lies tM tS w b bw bs M) : Lies tM tS w.drew b bw bs M := h.same rfl rfl rfl
theorem Lies.cells (h : Lies tM tS w b bw bs M) : ∃ cw cs, w.cell? ⟨b, 0, none⟩ = some (.int .u64 M.k0) ∧ w.cell? ⟨b, 1, none⟩ = some (.int .u64 M.k1) ∧ w.cell? ⟨b, 2, none⟩ = some (.slice (some ⟨bw, 0, none⟩) M.ws.length cw) ∧
    w.cell? ⟨b, 3, none⟩ = some (.slice (some ⟨bs, 0, none⟩) M.ss.length cs) ∧ w.cell? ⟨b, 4, none⟩ = some (.int .i64 (M.n : Int)) ∧ w.cell? ⟨b, 5, none⟩ = some (.int .i64 (M.t : Int)) ∧ M.ws.length ≤ cw ∧ M.ss.length ≤ cs := by
  obtain ⟨cw, cs, h1, h2, h3⟩ := h.row
  refine ⟨cw, cs, by simp [World.cell?, h1], by simp [World.cell?, h1], by simp [World.cell?, h1], by simp [World.cell?, h1], by simp [World.cell?, h1], by simp [World.cell?, h1], ?_, ?_⟩
  · rcases h2.2 with ⟨h', _⟩ | ⟨g', cap', cur, h', _, _, hn, _⟩
    · simp at h'
    · simp only [Value.slice.injEq] at h'; omega
  · rcases h3.2 with ⟨h', _⟩ | ⟨g', cap', cur, h', _, _, hn, _⟩
    · simp at h'
    · simp only [Value.slice.injEq] at h'; omega
theorem Lies.free (h : Lies tM tS w b bw bs M) (i : Nat) : w.frozen? ⟨b, i, none⟩ = false := by
  obtain ⟨cw, cs, h1, h2, h3⟩ := h.row
  simp [World.frozen?, h1]
theorem Lies.word (h : Lies tM tS w b bw bs M) (g : Nat) (hg : g < M.ws.length) : w.cell? ⟨bw, g, none⟩ = some (.int .u64 (M.w g : Int)) := by
  obtain ⟨cw, cs, h1, h2, h3⟩ := h.row
  rw [World.ownsRow.cellAt h2 g (by omega)]
  exact cellsW_at _ _ hg
theorem Lies.freeW (h : Lies tM tS w b bw bs M) (i : Nat) : w.frozen? ⟨bw, i, none⟩ = false := by
  obtain ⟨cw, cs, h1, h2, h3⟩ := h.row
  exact World.ownsRow.frozenAt h2 i
theorem Lies.key (h : Lies tM tS w b bw bs M) (p : Nat) (hp : p < M.ss.length) : w.cell? ⟨bs, p * 2, none⟩ = some (.string (M.s p).1) := by
  obtain ⟨cw, cs, h1, h2, h3⟩ := h.row
  rw [World.ownsRow.cellAt h3 (p * 2) (by omega)]
  exact cellsS_key _ _ _ hp
theorem Lies.val (h : Lies tM tS w b bw bs M) (p : Nat) (hp : p < M.ss.length) : w.cell? ⟨bs, p * 2 + 1, none⟩ = some (M.s p).2 := by
  obtain ⟨cw, cs, h1, h2, h3⟩ := h.row
  rw [World.ownsRow.cellAt h3 (p * 2 + 1) (by omega)]
  exact cellsS_val _ _ _ hp
theorem Lies.freeS (h : Lies tM tS w b bw bs M) (i : Nat) : w.frozen? ⟨bs, i, none⟩ = false := by
  obtain ⟨cw, cs, h1, h2, h3⟩ := h.row
  exact World.ownsRow.frozenAt h3 i

theorem Lies.tab (h : Lies tM tS w b bw bs M) (hT : Tab w) (hb : But [b, bw, bs] w w') : Tab w' :=
  hb.tab hT (by have := h.pos; simp; omega)
theorem Lies.setW (h : Lies tM tS w b bw bs M) (g x : Nat) : Lies tM tS (w.setCell ⟨bw, g, none⟩ (.int .u64 (x : Int))) b bw bs { M with ws := M.ws.set g x } := by
  obtain ⟨cw, cs, h1, h2, h3⟩ := h.row
  have hne := h.ne
  refine ⟨⟨cw, cs, ?_, ?_, ownsRow_block h3 (Below.heap_setCell _ _ _ _ (fun e => hne.2.2 e.symm))⟩, hne, h.pos⟩
  · rw [Below.heap_setCell _ _ _ _ hne.1, h1, List.length_set]
  · have := (World.ownsRow.stored h2 g (.int .u64 (x : Int))).1
    rw [List.length_set, cellsW_set]
    exact this
theorem Lies.setS (h : Lies tM tS w b bw bs M) (p : Nat) (k : ByteArray) (v : Value) : Lies tM tS ((w.setCell ⟨bs, p * 2, none⟩ (.string k)).setCell ⟨bs, p * 2 + 1, none⟩ v) b bw bs { M with ss := M.ss.set p (k, v) } := by
  obtain ⟨cw, cs, h1, h2, h3⟩ := h.row
  have hne := h.ne
  refine ⟨⟨cw, cs, ?_, ownsRow_block h2 ((Below.heap_setCell _ _ _ _ hne.2.2).trans (Below.heap_setCell _ _ _ _ hne.2.2)), ?_⟩, hne, h.pos⟩
  · rw [Below.heap_setCell _ _ _ _ hne.2.1, Below.heap_setCell _ _ _ _ hne.2.1, h1, List.length_set]
  · have := (World.ownsRow.stored (World.ownsRow.stored h3 (p * 2) (.string k)).1 (p * 2 + 1) v).1
    rw [List.length_set, cellsS_set]
    exact this
theorem Lies.setV (h : Lies tM tS w b bw bs M) (p : Nat) (v : Value) (hp : p < M.ss.length) : Lies tM tS (w.setCell ⟨bs, p * 2 + 1, none⟩ v) b bw bs { M with ss := M.ss.set p ((M.s p).1, v) } := by
  obtain ⟨cw, cs, h1, h2, h3⟩ := h.row
  have hne := h.ne
  refine ⟨⟨cw, cs, ?_, ownsRow_block h2 (Below.heap_setCell _ _ _ _ hne.2.2), ?_⟩, hne, h.pos⟩
  · rw [Below.heap_setCell _ _ _ _ hne.2.1, h1, List.length_set]
  · have := (World.ownsRow.stored h3 (p * 2 + 1) v).1
    rw [List.length_set]
    unfold SM.s
    rw [cellsS_setV _ _ _ _ hp]
    exact this
theorem Lies.setN (h : Lies tM tS w b bw bs M) (n : Nat) : Lies tM tS (w.setCell ⟨b, 4, none⟩ (.int .i64 (n : Int))) b bw bs { M with n := n } := by
  obtain ⟨cw, cs, h1, h2, h3⟩ := h.row
  have hne := h.ne
  refine ⟨⟨cw, cs, ?_, ownsRow_block h2 (Below.heap_setCell _ _ _ _ (fun e => hne.1 e.symm)), ownsRow_block h3 (Below.heap_setCell _ _ _ _ (fun e => hne.2.1 e.symm))⟩, hne, h.pos⟩
  simp [World.setCell, Array.getElem?_modify, h1]
theorem Lies.setT (h : Lies tM tS w b bw bs M) (t : Nat) : Lies tM tS (w.setCell ⟨b, 5, none⟩ (.int .i64 (t : Int))) b bw bs { M with t := t } := by
  obtain ⟨cw, cs, h1, h2, h3⟩ := h.row
  have hne := h.ne
  refine ⟨⟨cw, cs, ?_, ownsRow_block h2 (Below.heap_setCell _ _ _ _ (fun e => hne.1 e.symm)), ownsRow_block h3 (Below.heap_setCell _ _ _ _ (fun e => hne.2.1 e.symm))⟩, hne, h.pos⟩
  simp [World.setCell, Array.getElem?_modify, h1]
end Go.Proofs.YthlghokgknkpaaaDoor

/-
  Plain mathematics of the map: what placing keeps. No function of the program is named here.
-/
namespace Go.Proofs.YthlghokgknkpaaaDoor
open Go.RowKit

theorem getD_set {α : Type} (l : List α) (i j : Nat) (x d : α) : (l.set i x).getD j d = if j = i ∧ i < l.length then x else l.getD j d := by
  rw [List.getD_eq_getElem?_getD, List.getD_eq_getElem?_getD, List.getElem?_set]
  by_cases h : i = j
  · subst h
    by_cases h2 : i < l.length
    · simp [h2]
    · simp [h2]
  · rw [if_neg h, if_neg (fun e => h e.1.symm)]

theorem spot_mem {M : SM} : ∀ {l : List Nat} {g i : Nat}, M.spot l = some (g, i) → g ∈ l ∧ freeI (M.w g) = some i
  | [], _, _, h => by cases h
  | x :: r, g, i, h => by
    unfold SM.spot at h
    cases hf : freeI (M.w x) with
    | none =>
      rw [hf] at h
      obtain ⟨h1, h2⟩ := spot_mem h
      exact ⟨List.mem_cons_of_mem _ h1, h2⟩
    | some j =>
      rw [hf] at h
      simp only [Option.some.injEq, Prod.mk.injEq] at h
      obtain ⟨rfl, rfl⟩ := h
      exact ⟨List.mem_cons_self, hf⟩
theorem freeI_lt {w i : Nat} (h : freeI w = some i) : i < 8 ∧ (byteN w i = 128 ∨ byteN w i = 254) := by
  unfold freeI at h
  exact ⟨List.mem_range.1 (List.mem_of_find?_eq_some h), of_decide_eq_true (List.find?_some (p := fun i => decide (byteN w i = 128 ∨ byteN w i = 254)) h)⟩

/-- No slot is deleted. -/
def SM.NoDel (M : SM) : Prop := ∀ g i, g < M.ws.length → i < 8 → byteN (M.w g) i ≠ 254

theorem lay_w (M : SM) (key : ByteArray) (v : Value) (g i j : Nat) (hg : g < M.ws.length) : (M.lay key v g i).w j = if j = g then putN (M.w g) i (M.what key) else M.w j := by
  show (M.ws.set g (putN (M.w g) i (M.what key))).getD j 0 = _
  rw [getD_set]
  by_cases h : j = g
  · rw [if_pos ⟨h, hg⟩, if_pos h]
  · rw [if_neg (fun e => h e.1), if_neg h]
    rfl
theorem lay_s (M : SM) (key : ByteArray) (v : Value) (g i p : Nat) (hg : 8 * g + i < M.ss.length) : (M.lay key v g i).s p = if p = 8 * g + i then (key, v) else M.s p := by
  show (M.ss.set (8 * g + i) (key, v)).getD p _ = _
  rw [getD_set]
  by_cases h : p = 8 * g + i
  · rw [if_pos ⟨h, hg⟩, if_pos h]
  · rw [if_neg (fun e => h e.1), if_neg h]
    rfl

theorem fit_lay {M : SM} (hF : M.Fit) (key : ByteArray) (v : Value) (g i : Nat) (hg : g < M.ws.length) (hi : i < 8) (hk : key.size < 140737488355328) (hn : M.n + 1 ≤ 1099511627776) : (M.lay key v g i).Fit := by
  have hl : (M.lay key v g i).ws.length = M.ws.length := by simp [SM.lay]
  have hl2 : (M.lay key v g i).ss.length = M.ss.length := by simp [SM.lay]
  refine ⟨by rw [hl]; exact hF.good, by rw [hl, hl2]; exact hF.slots, fun j hj => ?_, ⟨hn, ?_⟩, fun p hp => ?_⟩
  · rw [lay_w M key v g i j hg]
    split
    · exact put_lt _ _ _ (by have := M.what_lt key; omega)
    · exact hF.words j (by rwa [hl] at hj)
  · show (if byteN (M.w g) i = 254 then M.t - 1 else M.t) ≤ _
    have := hF.few.2
    split <;> omega
  · rw [lay_s M key v g i p (by have := hF.slots; omega)]
    split
    · exact hk
    · exact hF.texts p (by rwa [hl2] at hp)

theorem place_cases (M : SM) (key : ByteArray) (v : Value) (hF : M.Fit) : M.place key v = M ∨ ∃ g i, g < M.ws.length ∧ i < 8 ∧ freeI (M.w g) = some i ∧ M.spot (M.gs key) = some (g, i) ∧ M.place key v = M.lay key v g i := by
  unfold SM.place
  cases h : M.spot (M.gs key) with
  | none => exact .inl rfl
  | some p =>
    obtain ⟨g, i⟩ := p
    obtain ⟨h1, h2⟩ := spot_mem h
    exact .inr ⟨g, i, SM.gs_lt hF key g h1, (freeI_lt h2).1, h2, rfl, rfl⟩

theorem fit_place {M : SM} (hF : M.Fit) (key : ByteArray) (v : Value) (hk : key.size < 140737488355328) (hn : M.n + 1 ≤ 1099511627776) : (M.place key v).Fit ∧ (M.place key v).n ≤ M.n + 1 ∧ (M.place key v).ws.length = M.ws.length := by
  rcases place_cases M key v hF with h | ⟨g, i, hg, hi, _, _, h⟩
  · rw [h]; exact ⟨hF, by omega, rfl⟩
  · rw [h]
    exact ⟨fit_lay hF key v g i hg hi hk hn, Nat.le_refl _, by simp [SM.lay]⟩
theorem noDel_place {M : SM} (hF : M.Fit) (hD : M.NoDel) (key : ByteArray) (v : Value) : (M.place key v).NoDel := by
  rcases place_cases M key v hF with h | ⟨g, i, hg, hi, _, _, h⟩
  · rw [h]; exact hD
  · rw [h]
    intro g' i' hg' hi'
    rw [lay_w M key v g i g' hg]
    split
    · rw [put_byte _ _ _ (by have := M.what_lt key; omega) _ hi']
      have := M.what_lt key
      split
      · omega
      · exact hD g i' hg hi'
    · exact hD g' i' (by simpa [SM.lay] using hg') hi'

theorem noneW_byte : ∀ i : Fin 8, byteN noneW i.val = 128 := by decide +kernel
theorem empty_w (k0 k1 : Int) (z : Value) (g j : Nat) (hj : j < g) : (SM.empty k0 k1 z g).w j = noneW := by
  show (List.replicate g noneW).getD j 0 = _
  simp [hj]
theorem fit_empty (k0 k1 : Int) (z : Value) (g : Nat) (hg : isGood (g : Int) = true) : (SM.empty k0 k1 z g).Fit := by
  refine ⟨by simpa [SM.empty] using hg, by simp [SM.empty], fun j hj => ?_, ⟨Nat.zero_le _, Nat.zero_le _⟩, fun p hp => ?_⟩
  · rw [empty_w _ _ _ _ _ (by simpa [SM.empty] using hj)]; decide
  · have hp' : p < 8 * g := by simpa [SM.empty] using hp
    show ((List.replicate (8 * g) (ByteArray.empty, z)).getD p _).1.size < _
    simp [hp']
theorem noDel_empty (k0 k1 : Int) (z : Value) (g : Nat) : (SM.empty k0 k1 z g).NoDel := by
  intro j i hj hi
  rw [empty_w _ _ _ _ _ (by simpa [SM.empty] using hj), noneW_byte ⟨i, hi⟩]
  decide

/-- The keys at the places of a list, placed one behind the other. -/
def SM.re (M : SM) (z : Value) (l : List Nat) : SM := l.foldl (fun N p => N.place (M.s p).1 (M.s p).2) (SM.empty M.k0 M.k1 z M.size')
theorem re_snoc (M : SM) (z : Value) (l : List Nat) (p : Nat) : M.re z (l ++ [p]) = (M.re z l).place (M.s p).1 (M.s p).2 := by simp [SM.re, List.foldl_append]
theorem re_full (M : SM) (z : Value) : M.rehash z = M.re z M.full := rfl
theorem fold_fit {M : SM} (hF : M.Fit) : ∀ (l : List Nat) (N : SM), (∀ p ∈ l, p < M.ss.length) → N.n + l.length ≤ 100000 → N.Fit → N.NoDel →
    (l.foldl (fun N p => N.place (M.s p).1 (M.s p).2) N).Fit ∧ (l.foldl (fun N p => N.place (M.s p).1 (M.s p).2) N).NoDel ∧ (l.foldl (fun N p => N.place (M.s p).1 (M.s p).2) N).n ≤ N.n + l.length
  | [], _, _, _, h1, h2 => ⟨h1, h2, Nat.le_refl _⟩
  | p :: r, N, hp, hl, h1, h2 => by
    rw [List.length_cons] at hl
    have ht := hF.texts p (hp p List.mem_cons_self)
    obtain ⟨f1, f2, _⟩ := fit_place h1 (M.s p).1 (M.s p).2 ht (by omega)
    obtain ⟨g1, g2, g3⟩ := fold_fit hF r (N.place (M.s p).1 (M.s p).2) (fun q hq => hp q (List.mem_cons_of_mem _ hq)) (by omega) f1 (noDel_place h1 h2 _ _)
    exact ⟨g1, g2, Nat.le_trans g3 (by rw [List.length_cons]; omega)⟩
theorem re_fit {M : SM} (hF : M.Fit) (hg : isGood (M.size' : Int) = true) (z : Value) (l : List Nat) (hp : ∀ p ∈ l, p < M.ss.length) (hl : l.length ≤ 100000) : (M.re z l).Fit ∧ (M.re z l).NoDel ∧ (M.re z l).n ≤ l.length := by
  have := fold_fit hF l (SM.empty M.k0 M.k1 z M.size') hp (by show 0 + _ ≤ _; omega) (fit_empty _ _ _ _ hg) (noDel_empty _ _ _ _)
  exact ⟨this.1, this.2.1, by have h := this.2.2; show _ ≤ _; rw [show (SM.empty M.k0 M.k1 z M.size').n = 0 from rfl, Nat.zero_add] at h; exact h⟩
theorem full_lt {M : SM} (hF : M.Fit) : ∀ p ∈ M.full, p < M.ss.length := fun p hp => by
  have := List.mem_range.1 (List.mem_filter.1 hp).1
  rw [hF.slots]
  exact this
theorem full_len {M : SM} (hF : M.Fit) : M.full.length ≤ 8192 := by
  have h1 := List.length_filter_le (fun p => decide (byteN (M.w (p / 8)) (p % 8) < 128)) (List.range (8 * M.ws.length))
  rw [List.length_range] at h1
  have := good_range hF.good
  unfold SM.full
  omega
end Go.Proofs.YthlghokgknkpaaaDoor

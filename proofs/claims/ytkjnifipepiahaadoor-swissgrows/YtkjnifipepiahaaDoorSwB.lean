/-
  A map in memory: the object of six cells, the row of its words, the row of its slots (two cells each). Which blocks of old memory a call may turn ('But').
-/
import Derived.Test.YtkjnifipepiahaaDoorSwA
import Derived.Test.YtkjnifipepiahaaDoorIRow
import Derived.Laws.MakeOwn
namespace Go.Proofs.YtkjnifipepiahaaDoor
open Go.RowKit Go.Shelf

theorem str_ne {a b : ByteArray} (h : ¬ a = b) : (a.toList == b.toList) = false := by
  rw [beq_eq_false_iff_ne]
  intro e
  exact h (ByteArray.ext (by simpa [ByteArray.toList_eq] using e))

/-- Of what was there, only the blocks of S may have turned. -/
structure But (S : List Nat) (X Y : World) : Prop where
  os : Y.os = X.os
  tape : Y.tape = X.tape
  output : Y.output = X.output
  size : X.heap.size ≤ Y.heap.size
  block : ∀ k, k < X.heap.size → k ∉ S → Y.heap[k]? = X.heap[k]?

theorem But.refl (S : List Nat) (X : World) : But S X X := ⟨rfl, rfl, rfl, Nat.le_refl _, fun _ _ _ => rfl⟩
theorem But.trans {S : List Nat} {X Y Z : World} (h : But S X Y) (k : But S Y Z) : But S X Z :=
  ⟨k.os.trans h.os, k.tape.trans h.tape, k.output.trans h.output, Nat.le_trans h.size k.size, fun i hi hn => (k.block i (Nat.lt_of_lt_of_le hi h.size) hn).trans (h.block i hi hn)⟩
theorem But.mono {S S' : List Nat} {X Y : World} (h : But S X Y) (hs : ∀ k ∈ S, k ∈ S' ∨ X.heap.size ≤ k) : But S' X Y :=
  ⟨h.os, h.tape, h.output, h.size, fun i hi hn => h.block i hi fun hm => by rcases hs i hm with h' | h'; exact hn h'; omega⟩
theorem But.wide {S S' : List Nat} {X Y Z : World} (h : But S X Y) (k : But S' Y Z) (hs : ∀ i ∈ S', i ∈ S ∨ X.heap.size ≤ i) : But S X Z :=
  ⟨k.os.trans h.os, k.tape.trans h.tape, k.output.trans h.output, Nat.le_trans h.size k.size, fun i hi hn => (k.block i (Nat.lt_of_lt_of_le hi h.size) fun hm => by rcases hs i hm with h' | h'; exact hn h'; omega).trans (h.block i hi hn)⟩
theorem But.of_below {S : List Nat} {B : Nat} {X Y : World} (h : Below B X Y) (hB : X.heap.size ≤ B) : But S X Y := ⟨h.os, h.tape, h.output, h.size, fun k hk _ => h.block k (by omega)⟩
theorem But.below {S : List Nat} {B : Nat} {X Y : World} (h : But S X Y) (hS : ∀ k ∈ S, B ≤ k) (hB : B ≤ X.heap.size) : Below B X Y :=
  ⟨h.os, h.tape, h.output, h.size, fun k hk => h.block k (by omega) fun hm => by have := hS k hm; omega⟩
theorem But.alloc {S : List Nat} {X Y : World} (h : But S X Y) (o : Obj) : But S X (Y.alloc o) :=
  h.trans ⟨rfl, rfl, rfl, by simp, fun k hk _ => Below.heap_alloc _ _ _ hk⟩
theorem But.setCell {S : List Nat} {X Y : World} (h : But S X Y) {p : Addr} (hp : p.block ∈ S ∨ X.heap.size ≤ p.block) (u : Value) : But S X (Y.setCell p u) :=
  ⟨h.os, h.tape, h.output, Nat.le_trans h.size (KeepsWalks.setCell Y p u).size, fun i hi hn => (Below.heap_setCell _ _ _ _ (fun e => by subst e; rcases hp with hp | hp; exact hn hp; omega)).trans (h.block i hi hn)⟩
theorem But.drew {S : List Nat} {X Y : World} (h : But S X Y) : But S X Y.drew := ⟨h.os, h.tape, h.output, h.size, h.block⟩
theorem But.drewN {S : List Nat} {X Y : World} (h : But S X Y) : ∀ m, But S X (Y.drewN m)
  | 0 => h
  | m + 1 => (But.drewN h m).drew
theorem Keeps.drewN {A B : Nat} {X Y : World} (h : Keeps A B X Y) (m : Nat) : Keeps A B X (Y.drewN m) := ⟨h.size, h.same⟩
theorem But.keeps {S : List Nat} {A C : Nat} {X Y : World} (h : But S X Y) (hS : ∀ k ∈ S, k < A ∨ C ≤ k) (hC : C ≤ X.heap.size) : Keeps A C X Y :=
  ⟨h.size, fun i h1 h2 => h.block i (by omega) fun hm => by have := hS i hm; omega⟩
theorem But.putObj {S : List Nat} {X Y : World} (h : But S X Y) {r : Nat} (hr : r ∈ S ∨ X.heap.size ≤ r) (o : Obj) : But S X (Y.putObj r o) :=
  ⟨h.os, h.tape, h.output, by simpa using h.size, fun i hi hn => (World.putObj_heap_other (fun e => by subst e; rcases hr with h' | h'; exact hn h'; omega)).trans (h.block i hi hn)⟩
theorem But.outside {S : List Nat} {A B : Nat} {X Y Z : World} (h : But S X Y) (ho : Outside A B Y Z) (hA : X.heap.size ≤ A) : But S X Z :=
  ⟨ho.os.trans h.os, ho.tape.trans h.tape, ho.output.trans h.output, Nat.le_trans h.size ho.size, fun i hi hn => by
    have hy := h.block i hi hn
    rw [Array.getElem?_eq_getElem hi] at hy ⊢
    exact ho.block i _ hy (.inl (by omega))⟩
theorem But.tab {S : List Nat} {X Y : World} (h : But S X Y) (hT : Tab X) (hS : 0 ∉ S) : Tab Y :=
  ⟨Nat.lt_of_lt_of_le hT.1 h.size, fun i hi => (World.cell?_of_block (a := ⟨0, i, none⟩) (h.block 0 hT.1 hS)).trans (hT.2 i hi)⟩

def cellsW (ws : List Nat) : List Value := ws.map fun n : Nat => .int .u64 (n : Int)
def cellsS : List (ByteArray × Value) → List Value
  | [] => []
  | s :: r => .string s.1 :: s.2 :: cellsS r

theorem cellsW_len (ws : List Nat) : (cellsW ws).length = ws.length := by simp [cellsW]
theorem cellsW_at (ws : List Nat) (g : Nat) (h : g < ws.length) : (cellsW ws)[g]? = some (.int .u64 ((ws.getD g 0 : Nat) : Int)) := by
  simp [cellsW, h]
theorem cellsW_set (ws : List Nat) (g x : Nat) : cellsW (ws.set g x) = (cellsW ws).set g (.int .u64 (x : Int)) := by simp [cellsW, List.map_set]
theorem cellsS_len : ∀ ss, (cellsS ss).length = ss.length * 2
  | [] => rfl
  | _ :: r => by simp only [cellsS, List.length_cons, cellsS_len r]; omega
theorem cellsS_key : ∀ (ss : List (ByteArray × Value)) (p : Nat) (d : ByteArray × Value), p < ss.length → (cellsS ss)[p * 2]? = some (.string (ss.getD p d).1)
  | _ :: r, 0, _, _ => rfl
  | _ :: r, p + 1, d, h => by
    rw [show (p + 1) * 2 = p * 2 + 1 + 1 by omega]
    exact cellsS_key r p d (by simpa using h)
theorem cellsS_val : ∀ (ss : List (ByteArray × Value)) (p : Nat) (d : ByteArray × Value), p < ss.length → (cellsS ss)[p * 2 + 1]? = some (ss.getD p d).2
  | _ :: r, 0, _, _ => rfl
  | _ :: r, p + 1, d, h => by
    rw [show (p + 1) * 2 + 1 = p * 2 + 1 + 1 + 1 by omega]
    exact cellsS_val r p d (by simpa using h)
theorem cellsS_set : ∀ (ss : List (ByteArray × Value)) (p : Nat) (k : ByteArray) (v : Value), cellsS (ss.set p (k, v)) = ((cellsS ss).set (p * 2) (.string k)).set (p * 2 + 1) v
  | [], _, _, _ => by simp [cellsS]
  | _ :: r, 0, _, _ => rfl
  | s :: r, p + 1, k, v => by
    rw [show (p + 1) * 2 = p * 2 + 1 + 1 by omega]
    simp only [cellsS, List.set_cons_succ, cellsS_set r p k v]
theorem cellsS_setV : ∀ (ss : List (ByteArray × Value)) (p : Nat) (d : ByteArray × Value) (v : Value), p < ss.length → cellsS (ss.set p ((ss.getD p d).1, v)) = (cellsS ss).set (p * 2 + 1) v
  | _ :: r, 0, _, _, _ => rfl
  | s :: r, p + 1, d, v, h => by
    rw [show (p + 1) * 2 = p * 2 + 1 + 1 by omega]
    have := cellsS_setV r p d v (by simpa using h)
    simp only [cellsS, List.set_cons_succ, List.getD_cons_succ, this]

theorem made_two (x y : Value) (k : ByteArray) (n : Nat) (hx : x = .string k) : (madeCells #[x, y] (n * 2)).toList = cellsS (List.replicate n (k, y)) := by
  subst hx
  apply List.ext_getElem?
  intro j
  by_cases hj : j < n * 2
  · have h1 : (madeCells #[.string k, y] (n * 2)).toList[j]? = some (#[.string k, y][j % 2]!) := by simp [madeCells, hj]
    rw [h1]
    rcases Nat.mod_two_eq_zero_or_one j with h | h
    · rw [h]
      have h2 := cellsS_key (List.replicate n (k, y)) (j / 2) (k, y) (by simp; omega)
      rw [show j / 2 * 2 = j by omega] at h2
      rw [h2]
      simp [show j / 2 < n by omega]
    · rw [h]
      have h2 := cellsS_val (List.replicate n (k, y)) (j / 2) (k, y) (by simp; omega)
      rw [show j / 2 * 2 + 1 = j by omega] at h2
      rw [h2]
      simp [show j / 2 < n by omega]
  · rw [List.getElem?_eq_none (by simp [madeCells]; omega), List.getElem?_eq_none (by rw [cellsS_len]; simp; omega)]

theorem three_new (U : World) (N : Nat) (hN : U.heap.size = N) (o1 o2 o3 : Obj) : (((U.alloc o1).alloc o2).alloc o3).heap[N]? = some o1 ∧ (((U.alloc o1).alloc o2).alloc o3).heap[N + 1]? = some o2 ∧ (((U.alloc o1).alloc o2).alloc o3).heap[N + 1 + 1]? = some o3 ∧
    Below N U (((U.alloc o1).alloc o2).alloc o3) := by
  subst hN
  have h1 := heap_alloc_new U o1
  have h2 := heap_alloc_new (U.alloc o1) o2
  have h3 := heap_alloc_new ((U.alloc o1).alloc o2) o3
  rw [World.size_alloc] at h2
  rw [World.size_alloc, World.size_alloc] at h3
  refine ⟨?_, ?_, h3, (((Below.refl _ U).alloc (Nat.le_refl _) _).alloc (by simp) _).alloc (by simp; omega) _⟩
  · rw [Below.heap_alloc _ _ _ (by simp; omega), Below.heap_alloc _ _ _ (by simp)]; exact h1
  · rw [Below.heap_alloc _ _ _ (by simp)]; exact h2

/-- The map M lies in memory: the object in block b, its words in block bw, its slots in block bs. -/
structure Lies (tM tS : TypeId) (w : World) (b bw bs : Nat) (M : SM) : Prop where
  row : ∃ cw cs, w.heap[b]? = some (.cells #[.int .u64 M.k0, .int .u64 M.k1, .slice (some ⟨bw, 0, none⟩) M.ws.length cw, .slice (some ⟨bs, 0, none⟩) M.ss.length cs, .int .i64 (M.n : Int), .int .i64 (M.t : Int)] tM (0, 0)) ∧
    w.ownsRow 0 22 1 (.slice (some ⟨bw, 0, none⟩) M.ws.length cw) M.ws.length (cellsW M.ws) ∧ w.ownsRow 0 tS 2 (.slice (some ⟨bs, 0, none⟩) M.ss.length cs) M.ss.length (cellsS M.ss)
  ne : b ≠ bw ∧ b ≠ bs ∧ bw ≠ bs
  pos : 0 < b ∧ 0 < bw ∧ 0 < bs

variable {tM tS : TypeId} {w w' : World} {b bw bs : Nat} {M : SM}

theorem Lies.lt (h : Lies tM tS w b bw bs M) : b < w.heap.size ∧ bw < w.heap.size ∧ bs < w.heap.size := by
  obtain ⟨cw, cs, h1, h2, h3⟩ := h.row
  exact ⟨(Array.getElem?_eq_some_iff.1 h1).1, (World.ownsRow.lt h2 bw rfl).2, (World.ownsRow.lt h3 bs rfl).2⟩
theorem ownsRow_block {base : Nat} {e : TypeId} {size g n cap : Nat} {xs : List Value} (h : w.ownsRow base e size (.slice (some ⟨g, 0, none⟩) n cap) n xs) (hb : w'.heap[g]? = w.heap[g]?) : w'.ownsRow base e size (.slice (some ⟨g, 0, none⟩) n cap) n xs := by
  refine ⟨h.1, ?_⟩
  rcases h.2 with hn | ⟨g', cap', cur, e1, hb1, hg, rest⟩
  · exact .inl hn
  · refine .inr ⟨g', cap', cur, e1, hb1, ?_, rest⟩
    simp only [Value.slice.injEq, Option.some.injEq, Addr.mk.injEq, and_true, true_and] at e1
    obtain ⟨rfl, rfl⟩ := e1
    rw [hb]; exact hg
theorem Lies.same (h : Lies tM tS w b bw bs M) (h0 : w'.heap[b]? = w.heap[b]?) (h1 : w'.heap[bw]? = w.heap[bw]?) (h2 : w'.heap[bs]? = w.heap[bs]?) : Lies tM tS w' b bw bs M := by
  obtain ⟨cw, cs, g1, g2, g3⟩ := h.row
  exact ⟨⟨cw, cs, h0.trans g1, ownsRow_block g2 h1, ownsRow_block g3 h2⟩, h.ne, h.pos⟩
theorem Lies.but {S : List Nat} (h : Lies tM tS w b bw bs M) (hb : But S w w') (h1 : b ∉ S) (h2 : bw ∉ S) (h3 : bs ∉ S) : Lies tM tS w' b bw bs M :=
  h.same (hb.block _ h.lt.1 h1) (hb.block _ h.lt.2.1 h2) (hb.block _ h.lt.2.2 h3)
theorem Lies.below {B : Nat} (h : Lies tM tS w b bw bs M) (hb : Below B w w') (hB : w.heap.size ≤ B) : Lies tM tS w' b bw bs M :=
  h.but (But.of_below (S := []) hb hB) (fun h => by cases h) (fun h => by cases h) (fun h => by cases h)
theorem Lies.outside {A B : Nat} (h : Lies tM tS w b bw bs M) (ho : Outside A B w w') (hA : b < A ∧ bw < A ∧ bs < A) : Lies tM tS w' b bw bs M := by
  have hl := h.lt
  refine h.same ?_ ?_ ?_
  · rw [ho.block b _ (Array.getElem?_eq_getElem hl.1) (.inl hA.1), Array.getElem?_eq_getElem hl.1]
  · rw [ho.block bw _ (Array.getElem?_eq_getElem hl.2.1) (.inl hA.2.1), Array.getElem?_eq_getElem hl.2.1]
  · rw [ho.block bs _ (Array.getElem?_eq_getElem hl.2.2) (.inl hA.2.2), Array.getElem?_eq_getElem hl.2.2]
theorem Lies.keeps {N : Nat} (h : Lies tM tS w b bw bs M) (hk : Keeps 0 N w w') (hN : b < N ∧ bw < N ∧ bs < N) : Lies tM tS w' b bw bs M :=
  h.same (hk.same b (Nat.zero_le _) hN.1) (hk.same bw (Nat.zero_le _) hN.2.1) (hk.same bs (Nat.zero_le _) hN.2.2)
theorem Tab.keeps {N : Nat} (hT : Tab w) (hk : Keeps 0 N w w') (hN : 0 < N) : Tab w' :=
  ⟨Nat.lt_of_lt_of_le hT.1 hk.size, fun i hi => (World.cell?_of_block (a := ⟨0, i, none⟩) (hk.same 0 (Nat.le_refl _) hN)).trans (hT.2 i hi)⟩
theorem Lies.drewN (h : Lies tM tS w b bw bs M) (m : Nat) : Lies tM tS (w.drewN m) b bw bs M := h.same rfl rfl rfl
theorem Lies.drew (h : Lies tM tS w b bw bs M) : Lies tM tS w.drew b bw bs M := h.same rfl rfl rfl
theorem Lies.cells (h : Lies tM tS w b bw bs M) : ∃ cw cs, w.cell? ⟨b, 0, none⟩ = some (.int .u64 M.k0) ∧ w.cell? ⟨b, 1, none⟩ = some (.int .u64 M.k1) ∧ w.cell? ⟨b, 2, none⟩ = some (.slice (some ⟨bw, 0, none⟩) M.ws.length cw) ∧
    w.cell? ⟨b, 3, none⟩ = some (.slice (some ⟨bs, 0, none⟩) M.ss.length cs) ∧ w.cell? ⟨b, 4, none⟩ = some (.int .i64 (M.n : Int)) ∧ w.cell? ⟨b, 5, none⟩ = some (.int .i64 (M.t : Int)) ∧ M.ws.length ≤ cw ∧ M.ss.length ≤ cs := by
  obtain ⟨cw, cs, h1, h2, h3⟩ := h.row
  refine ⟨cw, cs, by simp [World.cell?, h1], by simp [World.cell?, h1], by simp [World.cell?, h1], by simp [World.cell?, h1], by simp [World.cell?, h1], by simp [World.cell?, h1], ?_, ?_⟩
  · rcases h2.2 with ⟨h', _⟩ | ⟨g', cap', cur, h', _, _, hn, _⟩
    · simp at h'
    · simp only [Value.slice.injEq] at h'; omega
  · rcases h3.2 with ⟨h', _⟩ | ⟨g', cap', cur, h', _, _, hn, _⟩
    · simp at h'
    · simp only [Value.slice.injEq] at h'; omega
theorem Lies.free (h : Lies tM tS w b bw bs M) (i : Nat) : w.frozen? ⟨b, i, none⟩ = false := by
  obtain ⟨cw, cs, h1, h2, h3⟩ := h.row
  simp [World.frozen?, h1]
theorem Lies.word (h : Lies tM tS w b bw bs M) (g : Nat) (hg : g < M.ws.length) : w.cell? ⟨bw, g, none⟩ = some (.int .u64 (M.w g : Int)) := by
  obtain ⟨cw, cs, h1, h2, h3⟩ := h.row
  rw [World.ownsRow.cellAt h2 g (by omega)]
  exact cellsW_at _ _ hg
theorem Lies.freeW (h : Lies tM tS w b bw bs M) (i : Nat) : w.frozen? ⟨bw, i, none⟩ = false := by
  obtain ⟨cw, cs, h1, h2, h3⟩ := h.row
  exact World.ownsRow.frozenAt h2 i
theorem Lies.key (h : Lies tM tS w b bw bs M) (p : Nat) (hp : p < M.ss.length) : w.cell? ⟨bs, p * 2, none⟩ = some (.string (M.s p).1) := by
  obtain ⟨cw, cs, h1, h2, h3⟩ := h.row
  rw [World.ownsRow.cellAt h3 (p * 2) (by omega)]
  exact cellsS_key _ _ _ hp
theorem Lies.val (h : Lies tM tS w b bw bs M) (p : Nat) (hp : p < M.ss.length) : w.cell? ⟨bs, p * 2 + 1, none⟩ = some (M.s p).2 := by
  obtain ⟨cw, cs, h1, h2, h3⟩ := h.row
  rw [World.ownsRow.cellAt h3 (p * 2 + 1) (by omega)]
  exact cellsS_val _ _ _ hp
theorem Lies.freeS (h : Lies tM tS w b bw bs M) (i : Nat) : w.frozen? ⟨bs, i, none⟩ = false := by
  obtain ⟨cw, cs, h1, h2, h3⟩ := h.row
  exact World.ownsRow.frozenAt h3 i

theorem Lies.tab (h : Lies tM tS w b bw bs M) (hT : Tab w) (hb : But [b, bw, bs] w w') : Tab w' :=
  hb.tab hT (by have := h.pos; simp; omega)
theorem Lies.setW (h : Lies tM tS w b bw bs M) (g x : Nat) : Lies tM tS (w.setCell ⟨bw, g, none⟩ (.int .u64 (x : Int))) b bw bs { M with ws := M.ws.set g x } := by
  obtain ⟨cw, cs, h1, h2, h3⟩ := h.row
  have hne := h.ne
  refine ⟨⟨cw, cs, ?_, ?_, ownsRow_block h3 (Below.heap_setCell _ _ _ _ (fun e => hne.2.2 e.symm))⟩, hne, h.pos⟩
  · rw [Below.heap_setCell _ _ _ _ hne.1, h1, List.length_set]
  · have := (World.ownsRow.stored h2 g (.int .u64 (x : Int))).1
    rw [List.length_set, cellsW_set]
    exact this
theorem Lies.setS (h : Lies tM tS w b bw bs M) (p : Nat) (k : ByteArray) (v : Value) : Lies tM tS ((w.setCell ⟨bs, p * 2, none⟩ (.string k)).setCell ⟨bs, p * 2 + 1, none⟩ v) b bw bs { M with ss := M.ss.set p (k, v) } := by
  obtain ⟨cw, cs, h1, h2, h3⟩ := h.row
  have hne := h.ne
  refine ⟨⟨cw, cs, ?_, ownsRow_block h2 ((Below.heap_setCell _ _ _ _ hne.2.2).trans (Below.heap_setCell _ _ _ _ hne.2.2)), ?_⟩, hne, h.pos⟩
  · rw [Below.heap_setCell _ _ _ _ hne.2.1, Below.heap_setCell _ _ _ _ hne.2.1, h1, List.length_set]
  · have := (World.ownsRow.stored (World.ownsRow.stored h3 (p * 2) (.string k)).1 (p * 2 + 1) v).1
    rw [List.length_set, cellsS_set]
    exact this
theorem Lies.setV (h : Lies tM tS w b bw bs M) (p : Nat) (v : Value) (hp : p < M.ss.length) : Lies tM tS (w.setCell ⟨bs, p * 2 + 1, none⟩ v) b bw bs { M with ss := M.ss.set p ((M.s p).1, v) } := by
  obtain ⟨cw, cs, h1, h2, h3⟩ := h.row
  have hne := h.ne
  refine ⟨⟨cw, cs, ?_, ownsRow_block h2 (Below.heap_setCell _ _ _ _ hne.2.2), ?_⟩, hne, h.pos⟩
  · rw [Below.heap_setCell _ _ _ _ hne.2.1, h1, List.length_set]
  · have := (World.ownsRow.stored h3 (p * 2 + 1) v).1
    rw [List.length_set]
    unfold SM.s
    rw [cellsS_setV _ _ _ _ hp]
    exact this
theorem Lies.setN (h : Lies tM tS w b bw bs M) (n : Nat) : Lies tM tS (w.setCell ⟨b, 4, none⟩ (.int .i64 (n : Int))) b bw bs { M with n := n } := by
  obtain ⟨cw, cs, h1, h2, h3⟩ := h.row
  have hne := h.ne
  refine ⟨⟨cw, cs, ?_, ownsRow_block h2 (Below.heap_setCell _ _ _ _ (fun e => hne.1 e.symm)), ownsRow_block h3 (Below.heap_setCell _ _ _ _ (fun e => hne.2.1 e.symm))⟩, hne, h.pos⟩
  simp [World.setCell, Array.getElem?_modify, h1]
theorem Lies.setT (h : Lies tM tS w b bw bs M) (t : Nat) : Lies tM tS (w.setCell ⟨b, 5, none⟩ (.int .i64 (t : Int))) b bw bs { M with t := t } := by
  obtain ⟨cw, cs, h1, h2, h3⟩ := h.row
  have hne := h.ne
  refine ⟨⟨cw, cs, ?_, ownsRow_block h2 (Below.heap_setCell _ _ _ _ (fun e => hne.1 e.symm)), ownsRow_block h3 (Below.heap_setCell _ _ _ _ (fun e => hne.2.1 e.symm))⟩, hne, h.pos⟩
  simp [World.setCell, Array.getElem?_modify, h1]
end Go.Proofs.YtkjnifipepiahaaDoor

import Derived.Test.YtgjjbnnojmighaaBase
import Derived.Test.YtgjjbnnojmighaaChecked
import Derived.Deep.QuietTactic
import Derived.Deep.RegionLaw
import Derived.BigQuiet
import Derived.WalkSmall
namespace Go.Proofs.Ytgjjbnnojmighaa
open Go.RowKit

def cnt16 (n : Int) : Int := if n < 0 then 0 else if 1125899906842624 < n then 1125899906842624 else n
theorem cnt16_in (n : Int) : 0 ≤ cnt16 n ∧ cnt16 n ≤ 1125899906842624 := by
  unfold cnt16
  split
  · omega
  · split <;> omega
theorem cnt16_id {n : Int} (h0 : 0 ≤ n) (h1 : n ≤ 1125899906842624) : cnt16 n = n := by
  unfold cnt16
  rw [if_neg (by omega), if_neg (by omega)]
theorem cnt16_min (n : Int) : min (max n 0) 1125899906842624 = cnt16 n := by
  unfold cnt16
  split
  · omega
  · split <;> omega
structure PP where
  next : Int
  m : Int
  mode : Int
  snap : Int
  busy : Bool
structure PP.Inv (p : PP) : Prop where
  n1 : p.next ≤ 1125899906842625
  m0 : 0 ≤ p.m
  m1 : p.m ≤ 1125899906842624
  mode : p.mode = 1 ∨ p.mode = 2 ∨ p.mode = 3
  s0 : 0 ≤ p.snap
  s1 : p.snap ≤ 1125899906842624
  up : p.m < p.next
def pnew16 (n : Int) : PP := ⟨max (cnt16 n) 1, 0, 1, 0, false⟩
def PP.may (p : PP) : Bool := decide (p.mode = 2) || decide (p.mode = 1) && !p.busy
def PP.turn (p : PP) (k n : Int) : PP := ⟨n, p.m, k, 0, false⟩
def PP.sent (p : PP) (n : Int) : PP := if p.mode = 1 then ⟨p.next, p.m, p.mode, p.snap, true⟩ else if p.mode = 2 then ⟨max p.next (min (p.next + cnt16 n) 1125899906842624), p.m, p.mode, p.snap, p.busy⟩ else p
def PP.up16 (p : PP) (i : Int) : PP := ⟨max p.next (i + 1), i, p.mode, p.snap, p.busy⟩
def PP.said (p : PP) (n : Int) : Bool × PP :=
  if cnt16 n < p.m then (false, p)
  else (decide (p.m < cnt16 n), if p.mode = 1 ∨ p.mode = 3 ∧ p.snap ≤ cnt16 n then (p.up16 (cnt16 n)).turn 2 (cnt16 n + 1) else p.up16 (cnt16 n))
def PP.refusedN (p : PP) (i h : Int) : Int := max (min (cnt16 i) (cnt16 h + 1)) (p.m + 1)
def PP.refused (p : PP) (i h : Int) : Bool × PP :=
  if cnt16 i ≤ p.m ∨ p.mode ≠ 2 ∧ cnt16 i ≠ p.next - 1 then (false, p)
  else (true, p.turn 1 (p.refusedN i h))
theorem pnew_inv16 (n : Int) : (pnew16 n).Inv := by
  have h := cnt16_in n
  unfold pnew16
  exact ⟨by dsimp only; omega, Int.le_refl _, by dsimp only; omega, .inl rfl, Int.le_refl _, by dsimp only; omega, by dsimp only; omega⟩
theorem PP.Inv.sent {p : PP} (h : p.Inv) (n : Int) : (p.sent n).Inv ∧ (p.sent n).m = p.m := by
  obtain ⟨n1, m0, m1, hm, s0, s1, up⟩ := h
  have h1 := cnt16_in n
  unfold PP.sent
  split
  · exact ⟨⟨n1, m0, m1, hm, s0, s1, up⟩, rfl⟩
  split
  · exact ⟨⟨by dsimp only; omega, m0, m1, hm, s0, s1, by dsimp only; omega⟩, rfl⟩
  · exact ⟨⟨n1, m0, m1, hm, s0, s1, up⟩, rfl⟩
theorem PP.Inv.said {p : PP} (h : p.Inv) (n : Int) : (p.said n).2.Inv ∧ p.m ≤ (p.said n).2.m ∧ (p.said n).1 = decide (p.m < (p.said n).2.m) := by
  obtain ⟨n1, m0, m1, hm, s0, s1, up⟩ := h
  have h1 := cnt16_in n
  unfold PP.said
  split
  · exact ⟨⟨n1, m0, m1, hm, s0, s1, up⟩, Int.le_refl _, by simp⟩
  rename_i h2
  split
  · exact ⟨⟨by show cnt16 n + 1 ≤ _; omega, h1.1, h1.2, .inr (.inl rfl), Int.le_refl _, (by show (0 : Int) ≤ _; omega), by show cnt16 n < cnt16 n + 1; omega⟩, by show p.m ≤ cnt16 n; omega, rfl⟩
  · exact ⟨⟨by show max p.next (cnt16 n + 1) ≤ _; omega, h1.1, h1.2, hm, s0, s1, by show cnt16 n < max p.next (cnt16 n + 1); omega⟩, by show p.m ≤ cnt16 n; omega, rfl⟩
theorem PP.Inv.refused {p : PP} (h : p.Inv) (i g : Int) : (p.refused i g).2.Inv ∧ (p.refused i g).2.m = p.m ∧ ((p.refused i g).1 = true → (p.refused i g).2.mode = 1) := by
  have h1 := cnt16_in i
  have h2 := cnt16_in g
  unfold PP.refused
  split
  · exact ⟨h, rfl, fun h => by cases h⟩
  · rename_i hc
    obtain ⟨n1, m0, m1, hm, s0, s1, up⟩ := h
    have h3 : ¬ cnt16 i ≤ p.m := fun h => hc (.inl h)
    have h4 : p.refusedN i g = max (min (cnt16 i) (cnt16 g + 1)) (p.m + 1) := rfl
    exact ⟨⟨by show p.refusedN i g ≤ _; omega, m0, m1, .inl rfl, Int.le_refl _, (by show (0 : Int) ≤ _; omega), by show p.m < p.refusedN i g; omega⟩, rfl, fun _ => rfl⟩
section
variable {w w' : World} {b : Nat} {p : PP}
theorem box_below16 {o : Obj} (h : w.heap[b]? = some o) (hb : Below w.heap.size w w') : w'.heap[b]? = some o := (hb.block b (Array.getElem?_eq_some_iff.1 h).1).trans h
theorem box_lt16 {o : Obj} (h : w.heap[b]? = some o) : b < w.heap.size := (Array.getElem?_eq_some_iff.1 h).1
theorem box_cell16 {a : Array Value} {t : TypeId} {fr : Nat × Nat} (h : w.heap[b]? = some (.cells a t fr)) (j : Nat) : w.cell? ⟨b, j, none⟩ = a[j]? := by
  unfold World.cell?
  dsimp only
  rw [h]
  rfl
theorem frozen16 {c : Array Value} {t : TypeId} (h : w.heap[b]? = some (.cells c t (0, 0))) (j : Nat) : w.frozen? ⟨b, j, none⟩ = false := by simp [World.frozen?, h]
theorem set_block16 {c : Array Value} {t : TypeId} (h : w.heap[b]? = some (.cells c t (0, 0))) (i : Nat) (v : Value) (hi : i < c.size) : (w.setCell ⟨b, i, none⟩ v).heap[b]? = some (.cells (c.set i v hi) t (0, 0)) := by
  have hlt := (Array.getElem?_eq_some_iff.1 h).1
  have hg := (Array.getElem?_eq_some_iff.1 h).2
  simp only [World.setCell, Array.getElem?_modify, hlt, Array.getElem?_eq_getElem, hg]
  simp [Array.setIfInBounds, hi]
theorem below_drewN16 {B : Nat} {a w : World} (h : Below B a w) : ∀ m, Below B a (w.drewN m)
  | 0 => h
  | m + 1 => (below_drewN16 h m).drew

def PP.arr (p : PP) : Array Value := #[.int .i64 p.next, .int .i64 p.m, .int .i64 p.mode, .int .i64 p.snap, .bool p.busy]
structure PAt (w : World) (b : Nat) (p : PP) : Prop where
  obj : w.heap[b]? = some (.cells p.arr 37 (0, 0))
  inv : p.Inv
theorem PAt.lt (h : PAt w b p) : b < w.heap.size := box_lt16 h.obj
theorem PAt.cells (h : PAt w b p) : w.cell? ⟨b, 0, none⟩ = some (.int .i64 p.next) ∧ w.cell? ⟨b, 1, none⟩ = some (.int .i64 p.m) ∧ w.cell? ⟨b, 2, none⟩ = some (.int .i64 p.mode) ∧ w.cell? ⟨b, 3, none⟩ = some (.int .i64 p.snap) ∧ w.cell? ⟨b, 4, none⟩ = some (.bool p.busy) :=
  ⟨box_cell16 h.obj 0, box_cell16 h.obj 1, box_cell16 h.obj 2, box_cell16 h.obj 3, box_cell16 h.obj 4⟩
theorem PAt.frozen (h : PAt w b p) (j : Nat) : w.frozen? ⟨b, j, none⟩ = false := frozen16 h.obj j
end

set_option maxRecDepth 100000 in
set_option maxHeartbeats 1000000 in
theorem counted16 (n : Int) (w : World) : Calls Try.prog 18 #[.int .i64 n] w fun e w' => e = .returned (.int .i64 (cnt16 n)) ∧ w' = w := by
  have HC : Hid (min (max n 0) 1125899906842624 = cnt16 n) := cnt16_min n
  generalize cnt16 n = c at *
  go_enter Try.func18, Try.ntmps18
  go_wp2 <;> go_ret <;> refine ⟨congrArg (fun z => Ending.returned (Value.int .i64 z)) (?_ : (_ : Int) = c), rfl⟩
  all_goals (have := HC.out; omega)
section
variable {w w' : World} {b : Nat} {p : PP}
set_option maxRecDepth 100000 in
set_option maxHeartbeats 1000000 in
theorem made16 (h : PAt w b p) : Calls Try.prog 19 #[.pointer (some ⟨b, 0, none⟩)] w fun e w' => e = .returned (.bool true) ∧ w' = w := by
  obtain ⟨-, -, c2, -⟩ := h.cells
  have hlt := h.lt
  have hm : (p.mode != 0) = true := by rcases h.inv.mode with h | h | h <;> rw [h] <;> decide
  clear h
  go_enter Try.func19, Try.ntmps19
  go_wp2
  go_ret
  exact ⟨rfl, rfl⟩
set_option maxRecDepth 100000 in
set_option maxHeartbeats 1000000 in
theorem next16 (h : PAt w b p) : Calls Try.prog 8 #[.pointer (some ⟨b, 0, none⟩)] w fun e w' => e = .returned (.int .i64 p.next) ∧ w' = w := by
  obtain ⟨c0, -⟩ := h.cells
  have hlt := h.lt
  have km := made16 h
  clear h
  go_enter Try.func8, Try.ntmps8
  go_wp2_with fail
  refine same_mono km ?_
  go_wp2
  go_ret
  exact ⟨rfl, rfl⟩
set_option maxRecDepth 100000 in
set_option maxHeartbeats 1000000 in
theorem match16 (h : PAt w b p) : Calls Try.prog 10 #[.pointer (some ⟨b, 0, none⟩)] w fun e w' => e = .returned (.int .i64 p.m) ∧ w' = w := by
  obtain ⟨-, c0, -⟩ := h.cells
  have hlt := h.lt
  have km := made16 h
  clear h
  go_enter Try.func10, Try.ntmps10
  go_wp2_with fail
  refine same_mono km ?_
  go_wp2
  go_ret
  exact ⟨rfl, rfl⟩
set_option maxRecDepth 100000 in
set_option maxHeartbeats 1000000 in
theorem mode16 (h : PAt w b p) : Calls Try.prog 14 #[.pointer (some ⟨b, 0, none⟩)] w fun e w' => e = .returned (.int .i64 p.mode) ∧ w' = w := by
  obtain ⟨-, -, c0, -⟩ := h.cells
  have hlt := h.lt
  have km := made16 h
  have hw : IntKind.i64.wrap p.mode = p.mode := by
    rw [IntKind.wrap_i64]
    rcases h.inv.mode with h | h | h <;> rw [h] <;> rfl
  clear h
  go_enter Try.func14, Try.ntmps14
  go_wp2_with fail
  refine same_mono km ?_
  go_wp2
  go_ret
  exact ⟨rfl, rfl⟩
structure PTurn (w : World) (b : Nat) (p : PP) (w' : World) : Prop where
  at' : PAt w' b p
  bel : Below b w w'
end
set_option maxRecDepth 100000 in
set_option maxHeartbeats 1000000 in
theorem new16_any (n : Int) (w : World) : Calls Try.prog 7 #[.int .i64 n] w fun e w' => e = .returned (.pointer (some ⟨w.heap.size, 0, none⟩)) ∧ PAt w' w.heap.size (pnew16 n) ∧ Below w.heap.size w w' ∧ w.heap.size < w'.heap.size := by
  have kc := counted16 n w
  have HF : Hid (pnew16 n = ⟨max (cnt16 n) 1, 0, 1, 0, false⟩) := rfl
  have HI : Hid _ := pnew_inv16 n
  rw [HF.out] at HI ⊢
  generalize cnt16 n = c at *
  go_enter Try.func7, Try.ntmps7
  go_wp2_with fail
  refine same_mono kc ?_
  go_wp2 <;> go_ret
  all_goals first
    | (rw [show max c 1 = c by omega] at HI ⊢; exact ⟨rfl, ⟨heap_alloc_new w _, HI.out⟩, (Below.refl _ _).alloc (Nat.le_refl _) _, by simp⟩)
    | (rw [show max c 1 = 1 by omega] at HI ⊢; exact ⟨rfl, ⟨heap_alloc_new w _, HI.out⟩, (Below.refl _ _).alloc (Nat.le_refl _) _, by simp⟩)

def Ob16 (w : World) (b : Nat) (p : PP) : Prop := w.heap[b]? = some (.cells p.arr 37 (0, 0))
section
variable {w w' : World} {b : Nat} {p : PP}
theorem Ob16.next (h : Ob16 w b p) (v : Int) : Ob16 (w.setCell ⟨b, 0, none⟩ (.int .i64 v)) b ⟨v, p.m, p.mode, p.snap, p.busy⟩ := set_block16 h 0 _ (by show 0 < 5; decide)
theorem Ob16.m (h : Ob16 w b p) (v : Int) : Ob16 (w.setCell ⟨b, 1, none⟩ (.int .i64 v)) b ⟨p.next, v, p.mode, p.snap, p.busy⟩ := set_block16 h 1 _ (by show 1 < 5; decide)
theorem Ob16.mode (h : Ob16 w b p) (v : Int) : Ob16 (w.setCell ⟨b, 2, none⟩ (.int .i64 v)) b ⟨p.next, p.m, v, p.snap, p.busy⟩ := set_block16 h 2 _ (by show 2 < 5; decide)
theorem Ob16.snap (h : Ob16 w b p) (v : Int) : Ob16 (w.setCell ⟨b, 3, none⟩ (.int .i64 v)) b ⟨p.next, p.m, p.mode, v, p.busy⟩ := set_block16 h 3 _ (by show 3 < 5; decide)
theorem Ob16.busy (h : Ob16 w b p) (v : Bool) : Ob16 (w.setCell ⟨b, 4, none⟩ (.bool v)) b ⟨p.next, p.m, p.mode, p.snap, v⟩ := set_block16 h 4 _ (by show 4 < 5; decide)
theorem Ob16.cell (h : Ob16 w b p) (j : Nat) : w.cell? ⟨b, j, none⟩ = p.arr[j]? := box_cell16 h j
theorem Ob16.cells (h : Ob16 w b p) : w.cell? ⟨b, 0, none⟩ = some (.int .i64 p.next) ∧ w.cell? ⟨b, 1, none⟩ = some (.int .i64 p.m) ∧ w.cell? ⟨b, 2, none⟩ = some (.int .i64 p.mode) ∧ w.cell? ⟨b, 3, none⟩ = some (.int .i64 p.snap) ∧ w.cell? ⟨b, 4, none⟩ = some (.bool p.busy) :=
  ⟨h.cell 0, h.cell 1, h.cell 2, h.cell 3, h.cell 4⟩
theorem Ob16.frozen (h : Ob16 w b p) (j : Nat) : w.frozen? ⟨b, j, none⟩ = false := frozen16 h j
theorem Ob16.lt (h : Ob16 w b p) : b < w.heap.size := box_lt16 h
theorem below_set16 {B : Nat} (w : World) (hB : B ≤ b) (j : Nat) (v : Value) : Below B w (w.setCell ⟨b, j, none⟩ v) := (Below.refl B w).setCell (p := ⟨b, j, none⟩) hB v
set_option maxRecDepth 100000 in
set_option maxHeartbeats 1000000 in
theorem turn16 (h : Ob16 w b p) (k n : Int) : Calls Try.prog 20 #[.pointer (some ⟨b, 0, none⟩), .int .i64 k, .int .i64 n] w fun e w' => e = .returned (.tuple #[]) ∧ Ob16 w' b (p.turn k n) ∧ Below b w w' := by
  obtain ⟨c0, c1, c2, c3, c4⟩ := h.cells
  have hlt := h.lt
  have f0 := h.frozen 0
  have f2 := h.frozen 2
  have f3 := h.frozen 3
  have f4 := h.frozen 4
  have HH : Hid (Ob16 w b p) := h
  clear h
  go_enter Try.func20, Try.ntmps20
  go_wp2
  go_end0
  exact ⟨rfl, (((HH.out.mode k).next n).snap 0).busy false, (((below_set16 w (Nat.le_refl b) _ _).trans (below_set16 _ (Nat.le_refl b) _ _)).trans (below_set16 _ (Nat.le_refl b) _ _)).trans (below_set16 _ (Nat.le_refl b) _ _)⟩
end
end Go.Proofs.Ytgjjbnnojmighaa

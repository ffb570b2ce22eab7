import Derived.Test.YthlghokgknkpaaaGreatDoorSwBTo
import Derived.Test.YthlghokgknkpaaaGreatDoorImITo
import Derived.Deep.RegionHeld3
/-
  Regions whose every order ends in one way, but for some numbers.
-/
namespace Go.Proofs.YthlghokgknkpaaaGreatDoor
open Go.RowKit Go.Shelf

/-- A region whose every order ends in one way, but for two numbers. -/
def EndIn (R : Nat → Nat → World → Prop) (A : Nat → Nat → Act) : Exit → Act → World → Prop
  | .normal, a, w => ∃ x y, a = A x y ∧ R x y w
  | _, _, _ => False
theorem EndIn.mk {R : Nat → Nat → World → Prop} {A : Nat → Nat → Act} {w : World} (x y : Nat) (h : R x y w) : EndIn R A .normal (A x y) w := ⟨x, y, rfl, h⟩
theorem some_end {P : Program} {id : Nat} {ops : Array Oper} {b : Bool} {Q : Exit → Act → World → Prop} {a : Act} {w : World} (R : Nat → Nat → World → Prop) {A : Nat → Nat → Act}
    (h : (Code.region id ops b).wp P (EndIn R A) a w) (k : ∀ x y W, R x y W → Q .normal (A x y) W) : (Code.region id ops b).wp P Q a w :=
  Code.wp_mono (fun e a w h => by cases e <;> first | (obtain ⟨x, y, rfl, hr⟩ := h; exact k x y w hr) | exact h.elim) h
/-- The same, but for one number. -/
def EndN (R : Nat → World → Prop) (A : Nat → Act) : Exit → Act → World → Prop
  | .normal, a, w => ∃ x, a = A x ∧ R x w
  | _, _, _ => False
theorem EndN.mk {R : Nat → World → Prop} {A : Nat → Act} {w : World} (x : Nat) (h : R x w) : EndN R A .normal (A x) w := ⟨x, rfl, h⟩
theorem num_end {P : Program} {id : Nat} {ops : Array Oper} {b : Bool} {Q : Exit → Act → World → Prop} {a : Act} {w : World} (R : Nat → World → Prop) {A : Nat → Act}
    (h : (Code.region id ops b).wp P (EndN R A) a w) (k : ∀ x W, R x W → Q .normal (A x) W) : (Code.region id ops b).wp P Q a w :=
  Code.wp_mono (fun e a w h => by cases e <;> first | (obtain ⟨x, rfl, hr⟩ := h; exact k x w hr) | exact h.elim) h
end Go.Proofs.YthlghokgknkpaaaGreatDoor

/-
  The walk of corbellaw07.ImageSame.
-/
namespace Go.Proofs.YthlghokgknkpaaaGreatDoor
open Go.RowKit Go.Shelf Go.Lib

theorem new7 (k0 k1 hint : Int) (w : World) (h : hint = 0 ∨ hint = 20 ∨ hint = 50) :
    Calls Tryz.prog 6 #[.agg #[.int .u64 k0, .int .u64 k1], .int .i64 hint] w fun e w' => ∃ b bw bs g, e = .returned (.pointer (some ⟨b, 0, none⟩)) ∧
      Lies 74 71 w' b bw bs (SM.empty k0 k1 (.string ⟨#[]⟩) g) ∧ isGood (g : Int) = true ∧ w.heap.size ≤ b ∧ w.heap.size ≤ bw ∧ w.heap.size ≤ bs ∧ Below w.heap.size w w' := by
  have hne : needI hint ≠ 0 := by rcases h with rfl | rfl | rfl <;> decide
  have hgd : isGood (((needI hint).toNat : Nat) : Int) = true := by rcases h with rfl | rfl | rfl <;> decide
  refine (new_any_s k0 k1 hint w (by omega) (by omega) hne).mono ?_
  rintro e w' ⟨b, bw, bs, h1, h2, h3, h4, h5, h6⟩
  exact ⟨b, bw, bs, _, h1, h2, hgd, h3, h4, h5, h6⟩
theorem Two7.put2 {w wr : World} {b c d e : Nat} {M N : SM} (h : Two7 w wr b c M d e N) (hT : Tab w) (hc : c < 2000) (p : ByteArray × ByteArray) (hp : p.1.size ≤ 131072 ∧ p.2.size ≤ 131072) :
    Calls Tryz.prog 10 #[.pointer (some ⟨b, 0, none⟩), .string p.1, .string p.2] wr fun e' w' => (∃ x y, e' = .returned (.tuple #[.bool x, .int .i64 y])) ∧ Two7 w w' b (c + 1) (putP M p) d e N ∧ Kinds [74, 22, 71] wr w' := by
  obtain ⟨⟨bw, bs, dw, ds, h1, h2, h3⟩, h4, h5, h6⟩ := h
  refine (put_any_s b bw bs M p.1 p.2 wr (hT.below h6 hT.1) h1 (sane_of_inv h4.inv) (by omega)).mono ?_
  rintro e w' ⟨rfl, bw', bs', f1, f2, f3, f4⟩
  have := h6.size
  have hl2 := h2.lt
  unfold Apart6 at h3
  refine ⟨⟨_, _, rfl⟩, ⟨⟨bw', bs', dw, ds, f1, h2.but f2 (by simp; omega) (by simp; omega) (by simp; omega), ?_⟩, fine_putP h4 hc p hp, h5, h6.trans (f2.below (by simp; omega) h6.size)⟩, Kinds.of h1 f2⟩
  unfold Apart6
  omega
theorem two7_new {w W0 u u2 : World} {c1 cw1 cs1 g b bw bs g2 : Nat} {k0 k1 l0 l1 : Int} (hB0 : Below w.heap.size w W0) (hl1 : Lies 74 71 u c1 cw1 cs1 (SM.empty k0 k1 (.string ⟨#[]⟩) g)) (hz : isGood (g : Int) = true) (f1 : W0.heap.size ≤ c1) (f2 : W0.heap.size ≤ cw1) (f3 : W0.heap.size ≤ cs1) (hb1 : Below W0.heap.size W0 u)
    (hl : Lies 74 71 u2 b bw bs (SM.empty l0 l1 (.string ⟨#[]⟩) g2)) (hz2 : isGood (g2 : Int) = true) (g1 : u.heap.size ≤ b) (h2 : u.heap.size ≤ bw) (g3 : u.heap.size ≤ bs) (hb : Below u.heap.size u u2) :
    Two7 w u2 c1 0 (SM.empty k0 k1 (.string ⟨#[]⟩) g) b 0 (SM.empty l0 l1 (.string ⟨#[]⟩) g2) :=
  (one7_new hB0 hl1 hz f1 f2 f3 hb1).more hl (fine_empty l0 l1 g2 hz2) g1 h2 g3 hb
/-- Two maps that have just been made, and a box beside them. -/
def New2 (w : World) (s : Nat) (c0 c1 : Value) (t : TypeId) (k0 k1 l0 l1 : Int) (b1 b2 : Nat) (Y : World) : Prop :=
  (∃ g g2 : Nat, isGood (g : Int) = true ∧ isGood (g2 : Int) = true ∧ Two7 w Y b1 0 (SM.empty k0 k1 (.string ⟨#[]⟩) g) b2 0 (SM.empty l0 l1 (.string ⟨#[]⟩) g2)) ∧ Y.heap[s]? = some (.cells #[c0, c1] t (0, 0))
theorem boxes7 (w : World) (k0 k1 l0 l1 : Int) (x y : Value) (t : TypeId) : ∃ W, (((w.alloc (.cells #[.int .u64 k0, .int .u64 k1] 24)).alloc (.cells #[.int .u64 l0, .int .u64 l1] 24)).alloc (.cells #[x, y] t)) = W ∧ W.cell? ⟨w.heap.size, 0, none⟩ = some (.int .u64 k0) ∧ W.cell? ⟨w.heap.size, 1, none⟩ = some (.int .u64 k1) ∧ W.cell? ⟨w.heap.size + 1, 0, none⟩ = some (.int .u64 l0) ∧ W.cell? ⟨w.heap.size + 1, 1, none⟩ = some (.int .u64 l1) ∧
    W.heap[w.heap.size + 2]? = some (.cells #[x, y] t (0, 0)) ∧ W.heap.size = w.heap.size + 3 ∧ Below w.heap.size w W := by
  refine ⟨_, rfl, ?_⟩
  have h0 := heap_alloc_new w (.cells #[.int .u64 k0, .int .u64 k1] 24)
  have h1 := heap_alloc_new (w.alloc (.cells #[.int .u64 k0, .int .u64 k1] 24)) (.cells #[.int .u64 l0, .int .u64 l1] 24)
  have h2 := heap_alloc_new ((w.alloc (.cells #[.int .u64 k0, .int .u64 k1] 24)).alloc (.cells #[.int .u64 l0, .int .u64 l1] 24)) (.cells #[x, y] t)
  rw [World.size_alloc] at h1
  rw [World.size_alloc, World.size_alloc] at h2
  have g1 := (Below.heap_alloc ((w.alloc (.cells #[.int .u64 k0, .int .u64 k1] 24)).alloc (.cells #[.int .u64 l0, .int .u64 l1] 24)) (.cells #[x, y] t) (w.heap.size + 1) (by simp)).trans h1
  have g0 := ((Below.heap_alloc ((w.alloc (.cells #[.int .u64 k0, .int .u64 k1] 24)).alloc (.cells #[.int .u64 l0, .int .u64 l1] 24)) (.cells #[x, y] t) w.heap.size (by simp; omega)).trans (Below.heap_alloc (w.alloc (.cells #[.int .u64 k0, .int .u64 k1] 24)) (.cells #[.int .u64 l0, .int .u64 l1] 24) w.heap.size (by simp))).trans h0
  refine ⟨?_, ?_, ?_, ?_, h2, by simp, (((Below.refl _ _).alloc (Nat.le_refl _) _).alloc (by simp) _).alloc (by simp; omega) _⟩
  · unfold World.cell?; dsimp only; rw [g0]; rfl
  · unfold World.cell?; dsimp only; rw [g0]; rfl
  · unfold World.cell?; dsimp only; rw [g1]; rfl
  · unfold World.cell?; dsimp only; rw [g1]; rfl
end Go.Proofs.YthlghokgknkpaaaGreatDoor

/-
  The walk of corbellaw07.ImageBack.
-/
namespace Go.Proofs.YthlghokgknkpaaaGreatDoor
open Go.RowKit Go.Shelf Go.Lib

def delP (M : SM) (k : ByteArray) : SM := (M.del k (.string ⟨#[]⟩)).2
def delL (M : SM) (ks : List ByteArray) : SM := ks.foldl delP M
theorem delL_snoc (M : SM) (l : List ByteArray) (k : ByteArray) : delL M (l ++ [k]) = delP (delL M l) k := by unfold delL; rw [List.foldl_append]; rfl
theorem has_delP {M : SM} {c : Nat} (h : Fine c M) (key k s : ByteArray) : (delP M key).Has k (.string s) ↔ k ≠ key ∧ M.Has k (.string s) := by
  obtain ⟨_, _, _, _, _, _, h7⟩ := inv_del h.inv (key := key) (z := .string ⟨#[]⟩) (isV_string _)
  exact h7 k (.string s)
theorem fine_delP {M : SM} {c : Nat} (h : Fine c M) (key : ByteArray) : Fine c (delP M key) := by
  obtain ⟨h1, _, _, _, _, h6, _⟩ := inv_del h.inv (key := key) (z := .string ⟨#[]⟩) (isV_string _)
  refine ⟨h1, ?_, fun k s hk => h.sz k s ((has_delP h key k s).1 hk).2⟩
  have := h.n
  unfold delP
  omega
theorem fine_delL : ∀ (ks : List ByteArray) {M : SM} {c : Nat}, Fine c M → Fine c (delL M ks)
  | [], _, _, h => h
  | k :: ks, _, _, h => fine_delL ks (fine_delP h k)
theorem has_delL : ∀ (ks : List ByteArray) {M : SM} {c : Nat}, Fine c M → ∀ k s, (delL M ks).Has k (.string s) ↔ k ∉ ks ∧ M.Has k (.string s)
  | [], M, c, h, k, s => by simp [delL]
  | key :: ks, M, c, h, k, s => by
    have ih := has_delL ks (fine_delP h key) k s
    show (delL (delP M key) ks).Has k (.string s) ↔ _
    rw [ih, has_delP h, List.mem_cons, not_or]
    constructor
    · rintro ⟨h1, h2, h3⟩; exact ⟨⟨h2, h1⟩, h3⟩
    · rintro ⟨⟨h2, h1⟩, h3⟩; exact ⟨h1, h2, h3⟩
theorem Two7.del2 {w wr : World} {b c d e : Nat} {M N : SM} (h : Two7 w wr b c M d e N) (hT : Tab w) (k : ByteArray) (hk : k.size ≤ 131072) :
    Calls Tryz.prog 12 #[.pointer (some ⟨b, 0, none⟩), .string k] wr fun e' w' => (∃ x, e' = .returned (.bool x)) ∧ Two7 w w' b c (delP M k) d e N ∧ Kinds [74, 22, 71] wr w' := by
  obtain ⟨⟨bw, bs, dw, ds, h1, h2, h3⟩, h4, h5, h6⟩ := h
  refine (delete_any_s b bw bs M k wr (hT.below h6 hT.1) h1 (sane_of_inv h4.inv) (by omega)).mono ?_
  rintro e w' ⟨rfl, f1, f2⟩
  have := h6.size
  have hl2 := h2.lt
  unfold Apart6 at h3
  refine ⟨⟨_, rfl⟩, ⟨⟨bw, bs, dw, ds, f1, h2.but f2 (by simp; omega) (by simp; omega) (by simp; omega), ?_⟩, fine_delP h4 k, h5, h6.trans (f2.below (by simp; omega) h6.size)⟩, Kinds.of h1 f2⟩
  unfold Apart6
  omega

theorem boxes2 (w : World) (k0 k1 l0 l1 : Int) : ∃ W, ((w.alloc (.cells #[.int .u64 k0, .int .u64 k1] 24)).alloc (.cells #[.int .u64 l0, .int .u64 l1] 24)) = W ∧ W.cell? ⟨w.heap.size, 0, none⟩ = some (.int .u64 k0) ∧ W.cell? ⟨w.heap.size, 1, none⟩ = some (.int .u64 k1) ∧ W.cell? ⟨w.heap.size + 1, 0, none⟩ = some (.int .u64 l0) ∧ W.cell? ⟨w.heap.size + 1, 1, none⟩ = some (.int .u64 l1) ∧
    W.heap[w.heap.size + 1]? = some (.cells #[.int .u64 l0, .int .u64 l1] 24 (0, 0)) ∧ W.heap.size = w.heap.size + 2 ∧ Below w.heap.size w W := by
  refine ⟨_, rfl, ?_⟩
  have h0 := heap_alloc_new w (.cells #[.int .u64 k0, .int .u64 k1] 24)
  have h1 := heap_alloc_new (w.alloc (.cells #[.int .u64 k0, .int .u64 k1] 24)) (.cells #[.int .u64 l0, .int .u64 l1] 24)
  rw [World.size_alloc] at h1
  have g0 := (Below.heap_alloc (w.alloc (.cells #[.int .u64 k0, .int .u64 k1] 24)) (.cells #[.int .u64 l0, .int .u64 l1] 24) w.heap.size (by simp)).trans h0
  refine ⟨?_, ?_, ?_, ?_, h1, by simp, ((Below.refl _ _).alloc (Nat.le_refl _) _).alloc (by simp) _⟩
  · unfold World.cell?; dsimp only; rw [g0]; rfl
  · unfold World.cell?; dsimp only; rw [g0]; rfl
  · unfold World.cell?; dsimp only; rw [h1]; rfl
  · unfold World.cell?; dsimp only; rw [h1]; rfl
/-- A key with a sign behind it. -/
def ask (k : ByteArray) : ByteArray := k ++ ⟨#[63]⟩
theorem ask_size (k : ByteArray) : (ask k).size = k.size + 1 := by unfold ask; rw [ByteArray.size_append]; rfl
def askL (l : List (ByteArray × ByteArray)) : List (ByteArray × ByteArray) := l.map fun p => (ask p.1, ⟨#[]⟩)
def askK (l : List (ByteArray × ByteArray)) : List ByteArray := l.map fun p => ask p.1
def elderL (l : List (ByteArray × ByteArray)) : List (ByteArray × ByteArray) := l.map fun p => (p.1, ⟨#[101, 108, 100, 101, 114]⟩)
theorem ask_run (k : ByteArray) (hk : k.size ≤ 15000) (W : World) : (binOp .add 9 (.string k) (.string ⟨#[63]⟩)).run Tryz.prog W = .ok (.string (ask k)) W := by
  rw [binOp_string_add]
  unfold Op.stringOp ask
  simp only
  rw [if_neg (by show ¬ (((k.size + 1 : Nat) : Int) > 9223372036854775807); omega)]
  rfl
/-- What was put, taken away and put again is as if it had been put once. -/
theorem back_img {l : List (ByteArray × ByteArray)} (hl : l.length ≤ 300) (hs : ∀ p ∈ l, p.1.size + p.2.size ≤ 15000) {M N : SM} (hM : Fine 0 M) (hN : Fine 0 N) (m0 : ∀ k s, ¬ M.Has k (.string s)) (n0 : ∀ k s, ¬ N.Has k (.string s)) :
    (putL (putL (delL (putL N (askL l)) (askK l)) (elderL l)) l).img = (putL M l).img := by
  have s1 : ∀ p ∈ askL l, p.1.size ≤ 131072 ∧ p.2.size ≤ 131072 := by
    intro p hp
    obtain ⟨q, hq, rfl⟩ := List.mem_map.1 hp
    have := hs q hq
    exact ⟨by rw [ask_size]; omega, by show 0 ≤ _; omega⟩
  have s2 : ∀ p ∈ elderL l, p.1.size ≤ 131072 ∧ p.2.size ≤ 131072 := by
    intro p hp
    obtain ⟨q, hq, rfl⟩ := List.mem_map.1 hp
    have := hs q hq
    exact ⟨by show q.1.size ≤ _; omega, by show 5 ≤ _; omega⟩
  have s3 : ∀ p ∈ l, p.1.size ≤ 131072 ∧ p.2.size ≤ 131072 := fun p hp => by have := hs p hp; omega
  have l1 : (askL l).length = l.length := List.length_map _
  have l2 : (elderL l).length = l.length := List.length_map _
  have F1 := fine_putL (askL l) hN (by omega) s1
  have F2 := fine_delL (askK l) F1
  have F3 := fine_putL (elderL l) F2 (by omega) s2
  have F4 := fine_putL l F3 (by omega) s3
  have FM := fine_putL l hM (by omega) s3
  have e1 : (askL l).map Prod.fst = askK l := by unfold askL askK; rw [List.map_map]; rfl
  have e2 : (elderL l).map Prod.fst = l.map Prod.fst := by unfold elderL; rw [List.map_map]; rfl
  refine img_eq F4.inv FM.inv fun k s => ?_
  rw [has_putL l F3 (by omega) s3, has_putL l hM (by omega) s3, has_putL (elderL l) F2 (by omega) s2, has_delL (askK l) F1, has_putL (askL l) hN (by omega) s1]
  constructor
  · rintro (h | ⟨h, h2⟩)
    · exact .inl h
    · exfalso
      have hno : lastV (elderL l) k = none := lastV_none.2 (by rw [e2]; exact lastV_none.1 h)
      rw [hno] at h2
      rcases h2 with h2 | ⟨_, h3, h4 | ⟨_, h4⟩⟩
      · cases h2
      · have : lastV (askL l) k = none := lastV_none.2 (by rw [e1]; exact h3)
        rw [this] at h4
        cases h4
      · exact n0 k s h4
  · rintro (h | ⟨_, h⟩)
    · exact .inl h
    · exact absurd h (m0 k s)

/-- Two cells of a box, and all that is old, as it was. -/
theorem keepC {X w1 w2 : World} {s : Nat} {v0 v1 : Value} (hs : s < X.heap.size) (hb : Below w1.heap.size w1 w2) (h : w1.cell? ⟨s, 0, none⟩ = some v0 ∧ w1.cell? ⟨s, 1, none⟩ = some v1 ∧ Below X.heap.size X w1) : w2.cell? ⟨s, 0, none⟩ = some v0 ∧ w2.cell? ⟨s, 1, none⟩ = some v1 ∧ Below X.heap.size X w2 := by
  obtain ⟨h1, h2, h4⟩ := h
  have := h4.size
  exact ⟨(hb.cell (p := ⟨s, 0, none⟩) (by show s < _; omega)).trans h1, (hb.cell (p := ⟨s, 1, none⟩) (by show s < _; omega)).trans h2, h4.trans (hb.mono h4.size)⟩
theorem heldC {a b c : Prop} (h : a ∧ b ∧ c) : c := h.2.2

set_option maxRecDepth 100000 in
set_option maxHeartbeats 4000000 in
theorem imageBack_any (k0 k1 l0 l1 : Int) (p : Option Addr) (n c : Nat) (xs : List (ByteArray × ByteArray)) (w : World) (hT : Tab w)
    (_hk0 : 0 ≤ k0 ∧ k0 ≤ 18446744073709551615) (_hk1 : 0 ≤ k1 ∧ k1 ≤ 18446744073709551615) (_hl0 : 0 ≤ l0 ∧ l0 ≤ 18446744073709551615) (_hl1 : 0 ≤ l1 ∧ l1 ≤ 18446744073709551615)
    (hX : HasP w (.slice p n c) xs) (hXi : InP xs) (hn : (n : Int) ≤ 9223372036854775807) :
    Calls Tryz.prog 5 #[.agg #[.int .u64 k0, .int .u64 k1], .agg #[.int .u64 l0, .int .u64 l1], .slice p n c] w fun e w' => e = .returned (.bool true) ∧ Below w.heap.size w w' := by
  have hw0 := hT.1
  obtain ⟨W0, hW0, a0, a1, b0, b1, q0, hz0, hB0⟩ := boxes2 w k0 k1 l0 l1
  go_enter Tryz.func5, Tryz.ntmps5
  go_wp2_with fail
  clear hW0
  apply some_end (New2 w (w.heap.size + 1) (.int .u64 l0) (.int .u64 l1) 24 k0 k1 l0 l1)
  · have hlt1 : w.heap.size + 1 < W0.heap.size := by omega
    go_region_with (go_at_call 6; refine (new7 _ _ _ _ (by first | exact .inl rfl | exact .inr (.inr rfl))).mono ?_; rintro e u ⟨b, bw, bs, z, rfl, hl, hz, g1, g2, g3, hb⟩; try (have d0 := (hb.cell (p := ⟨w.heap.size + 1, 0, none⟩) hlt1).trans b0; have d1 := (hb.cell (p := ⟨w.heap.size + 1, 1, none⟩) hlt1).trans b1))
    all_goals
      rename_i u1 c1 cw1 cs1 z1 hl1 hz1 f1 f2 f3 hb1
      have e1 := hb1.size
      exact EndIn.mk c1 b ⟨⟨z1, z, hz1, hz, two7_new (W0 := W0.drew) ⟨hB0.os, hB0.tape, hB0.output, hB0.size, hB0.block⟩ hl1 hz1 f1 f2 f3 hb1 hl hz g1 g2 g3 hb⟩, ((hb.block _ (by have : W0.drew.heap.size = W0.heap.size := rfl; omega)).trans ((hb1.block _ (by have : W0.drew.heap.size = W0.heap.size := rfl; omega)).trans q0))⟩
  · clear a0 a1 b0 b1 q0 hz0 hB0
    rintro b d W ⟨⟨g, g2, hg, hg2, hD⟩, q⟩
    generalize hs : w.heap.size + 1 = s at *
    have Hs : Hid (w.heap.size + 1 = s) := hs
    clear hs
    have hql : ∀ V : World, V.heap[s]? = some (.cells #[.int .u64 l0, .int .u64 l1] 24 (0, 0)) → s < V.heap.size := fun V hV => (Array.getElem?_eq_some_iff.1 hV).1
    have hlives := fun (W : World) (hW : Below w.heap.size w W) => lives7_any W (hT.below hW hw0)
    have hfew := fewL_any p n c xs W (hX.below hD.bel (Nat.le_refl _)) hXi hn
    go_wp2_with fail
    refine hfew.mono ?_
    rintro e w1 ⟨r1, rfl, hr1, hb1⟩
    replace hD := hD.below hb1
    replace q := (hb1.block s (hql _ q)).trans q
    clear hfew hb1
    cases r1 with
    | false =>
      go_wp2_with fail
      refine (hlives w1 hD.bel).mono ?_
      rintro e w2 ⟨rfl, hb2⟩
      go_wp2
      go_ret
      exact ⟨rfl, hD.bel.trans (hb2.mono hD.bel.size)⟩
    | true =>
      have Fx : Hid (FewL xs) := hr1 rfl
      clear hr1
      have Lx : Hid (xs.length = n) := hX.len.1.symm
      have hnx : n ≤ 300 := by rw [← Lx.out]; exact fewL_len Fx.out
      have FM0 := hD.one.fine
      have FN0 := hD.swap.one.fine
      have HM0 : Hid (∀ k s, ¬ (SM.empty k0 k1 (.string ⟨#[]⟩) g).Has k (.string s)) := empty_has k0 k1 g hg
      have HN0 : Hid (∀ k s, ¬ (SM.empty l0 l1 (.string ⟨#[]⟩) g2).Has k (.string s)) := empty_has l0 l1 g2 hg2
      have HF0 : Hid (Fine 0 (SM.empty k0 k1 (.string ⟨#[]⟩) g) ∧ Fine 0 (SM.empty l0 l1 (.string ⟨#[]⟩) g2)) := ⟨FM0, FN0⟩
      clear FM0 FN0 hg hg2
      generalize SM.empty k0 k1 (.string ⟨#[]⟩) g = M0 at *
      generalize SM.empty l0 l1 (.string ⟨#[]⟩) g2 = N0 at *
      go_wp2
      go_loopw [47] (fun i wr => ∃ j1 : Nat, j1 ≤ n ∧ i = .int .i64 (j1 : Nat) ∧ Two7 w wr b j1 (putL M0 (xs.take j1)) d 0 N0 ∧ wr.heap[s]? = some (.cells #[.int .u64 l0, .int .u64 l1] 24 (0, 0))) (fun i _ => n - (intOf i).toNat)
      case atStart => exact ⟨0, Nat.zero_le _, rfl, by rw [List.take_zero]; exact hD, q⟩
      case round =>
        clear hD q
        obtain ⟨j1, hj, rfl, hD, q⟩ := hrel
        by_cases hlt : j1 < n
        · obtain ⟨bb, oo, rfl, hbb, hcc, -, c1, c2⟩ := (hX.below hD.bel (Nat.le_refl _)).at (j := j1) hlt
          have hjx : j1 < xs.length := by rw [Lx.out]; exact hlt
          have Ht : Hid (xs.take j1 ++ [xs.getD j1 default] = xs.take (j1 + 1)) := ptake_snoc hjx
          have hsz := fewL_size Fx.out (pgetD_mem hjx)
          clear hjx
          generalize xs.getD j1 default = x at *
          have hba : Below wr.heap.size wr (wr.alloc (.cells #[.string x.1, .string x.2] 35)) := (Below.refl _ _).alloc (Nat.le_refl _) _
          have hput := (hD.below hba).put2 hT (by omega) x ⟨by omega, by omega⟩
          have q' := (hba.block s (hql _ q)).trans q
          go_wp2_with fail
          generalize wr.alloc (.cells #[.string x.1, .string x.2] 35) = wa at *
          refine hput.mono ?_
          rintro e w3 ⟨⟨y1, y2, rfl⟩, hD3, hk3⟩
          have q3 := hk3 _ s _ _ (by decide) q'
          clear hput hD q q' hba c1 c2
          go_wp2
          go_roundw
          case rel => exact ⟨j1 + 1, by omega, by go_num, by rw [← Ht.out, putL_snoc]; exact hD3, q3⟩
          case measure => simp only [intOf]; omega
        · have hjn : n = j1 := by omega
          clear hlt hj
          subst hjn
          rw [show xs.take n = xs by rw [← Lx.out, List.take_length]] at hD
          replace hD := hD.swap
          go_wp2
          go_loopw [60] (fun i wr => ∃ j2 : Nat, j2 ≤ n ∧ i = .int .i64 (j2 : Nat) ∧ Two7 w wr d j2 (putL N0 (askL (xs.take j2))) b n (putL M0 xs) ∧ wr.heap[s]? = some (.cells #[.int .u64 l0, .int .u64 l1] 24 (0, 0))) (fun i _ => n - (intOf i).toNat)
          case atStart => exact ⟨0, Nat.zero_le _, rfl, by rw [List.take_zero]; exact hD, q⟩
          case round =>
            clear hD q
            obtain ⟨j2, hj, rfl, hD, q⟩ := hrel
            by_cases hlt : j2 < n
            · obtain ⟨bb, oo, rfl, hbb, hcc, -, c1, c2⟩ := (hX.below hD.bel (Nat.le_refl _)).at (j := j2) hlt
              have hjx : j2 < xs.length := by rw [Lx.out]; exact hlt
              have Ht : Hid (xs.take j2 ++ [xs.getD j2 default] = xs.take (j2 + 1)) := ptake_snoc hjx
              have hsz := fewL_size Fx.out (pgetD_mem hjx)
              clear hjx
              generalize xs.getD j2 default = x at *
              have hba : Below wr.heap.size wr (wr.alloc (.cells #[.string x.1, .string x.2] 35)) := (Below.refl _ _).alloc (Nat.le_refl _) _
              have hput := (hD.below hba).put2 hT (by omega) (ask x.1, (⟨#[]⟩ : ByteArray)) ⟨by show (ask x.1).size ≤ _; rw [ask_size]; omega, by show 0 ≤ _; omega⟩
              have q' := (hba.block s (hql _ q)).trans q
              have hcat := ask_run x.1 (by omega)
              go_wp2_with fail
              generalize wr.alloc (.cells #[.string x.1, .string x.2] 35) = wa at *
              refine hput.mono ?_
              rintro e w3 ⟨⟨y1, y2, rfl⟩, hD3, hk3⟩
              have q3 := hk3 _ s _ _ (by decide) q'
              clear hput hD q q' hba c1 c2
              go_wp2
              go_roundw
              case rel => exact ⟨j2 + 1, by omega, by go_num, by rw [← Ht.out, show askL (xs.take j2 ++ [x]) = askL (xs.take j2) ++ [(ask x.1, ⟨#[]⟩)] by simp [askL], putL_snoc]; exact hD3, q3⟩
              case measure => simp only [intOf]; omega
            · have hjn : n = j2 := by omega
              clear hlt hj
              subst hjn
              rw [show xs.take n = xs by rw [← Lx.out, List.take_length]] at hD
              go_wp2
              go_loopw [72] (fun i wr => ∃ j3 : Nat, j3 ≤ n ∧ i = .int .i64 (j3 : Nat) ∧ Two7 w wr d n (delL (putL N0 (askL xs)) (askK (xs.take j3))) b n (putL M0 xs) ∧ wr.heap[s]? = some (.cells #[.int .u64 l0, .int .u64 l1] 24 (0, 0))) (fun i _ => n - (intOf i).toNat)
              case atStart => exact ⟨0, Nat.zero_le _, rfl, by rw [List.take_zero]; exact hD, q⟩
              case round =>
                clear hD q
                obtain ⟨j3, hj, rfl, hD, q⟩ := hrel
                by_cases hlt : j3 < n
                · obtain ⟨bb, oo, rfl, hbb, hcc, -, c1, c2⟩ := (hX.below hD.bel (Nat.le_refl _)).at (j := j3) hlt
                  have hjx : j3 < xs.length := by rw [Lx.out]; exact hlt
                  have Ht : Hid (xs.take j3 ++ [xs.getD j3 default] = xs.take (j3 + 1)) := ptake_snoc hjx
                  have hsz := fewL_size Fx.out (pgetD_mem hjx)
                  clear hjx
                  generalize xs.getD j3 default = x at *
                  have hba : Below wr.heap.size wr (wr.alloc (.cells #[.string x.1, .string x.2] 35)) := (Below.refl _ _).alloc (Nat.le_refl _) _
                  have hput := (hD.below hba).del2 hT (ask x.1) (by rw [ask_size]; omega)
                  have q' := (hba.block s (hql _ q)).trans q
                  have hcat := ask_run x.1 (by omega)
                  go_wp2_with fail
                  generalize wr.alloc (.cells #[.string x.1, .string x.2] 35) = wa at *
                  refine hput.mono ?_
                  rintro e w3 ⟨⟨y1, rfl⟩, hD3, hk3⟩
                  have q3 := hk3 _ s _ _ (by decide) q'
                  clear hput hD q q' hba c1 c2
                  go_wp2
                  go_roundw
                  case rel => exact ⟨j3 + 1, by omega, by go_num, by rw [← Ht.out, show askK (xs.take j3 ++ [x]) = askK (xs.take j3) ++ [ask x.1] by simp [askK], delL_snoc]; exact hD3, q3⟩
                  case measure => simp only [intOf]; omega
                · have hjn : n = j3 := by omega
                  clear hlt hj
                  subst hjn
                  rw [show xs.take n = xs by rw [← Lx.out, List.take_length]] at hD
                  go_wp2
                  go_loopw [84] (fun i wr => ∃ j4 : Nat, j4 ≤ n ∧ i = .int .i64 (j4 : Nat) ∧ Two7 w wr d (n + j4) (putL (delL (putL N0 (askL xs)) (askK xs)) (elderL (xs.take j4))) b n (putL M0 xs) ∧ wr.heap[s]? = some (.cells #[.int .u64 l0, .int .u64 l1] 24 (0, 0))) (fun i _ => n - (intOf i).toNat)
                  case atStart => exact ⟨0, Nat.zero_le _, rfl, by rw [List.take_zero]; exact hD, q⟩
                  case round =>
                    clear hD q
                    obtain ⟨j4, hj, rfl, hD, q⟩ := hrel
                    by_cases hlt : j4 < n
                    · obtain ⟨bb, oo, rfl, hbb, hcc, -, c1, c2⟩ := (hX.below hD.bel (Nat.le_refl _)).at (j := j4) hlt
                      have hjx : j4 < xs.length := by rw [Lx.out]; exact hlt
                      have Ht : Hid (xs.take j4 ++ [xs.getD j4 default] = xs.take (j4 + 1)) := ptake_snoc hjx
                      have hsz := fewL_size Fx.out (pgetD_mem hjx)
                      clear hjx
                      generalize xs.getD j4 default = x at *
                      have hba : Below wr.heap.size wr (wr.alloc (.cells #[.string x.1, .string x.2] 35)) := (Below.refl _ _).alloc (Nat.le_refl _) _
                      have hput := (hD.below hba).put2 hT (by omega) (x.1, (⟨#[101, 108, 100, 101, 114]⟩ : ByteArray)) ⟨by show x.1.size ≤ _; omega, by show 5 ≤ _; omega⟩
                      have q' := (hba.block s (hql _ q)).trans q
                      go_wp2_with fail
                      generalize wr.alloc (.cells #[.string x.1, .string x.2] 35) = wa at *
                      refine hput.mono ?_
                      rintro e w3 ⟨⟨y1, y2, rfl⟩, hD3, hk3⟩
                      have q3 := hk3 _ s _ _ (by decide) q'
                      clear hput hD q q' hba c1 c2
                      go_wp2
                      go_roundw
                      case rel => exact ⟨j4 + 1, by omega, by go_num, by rw [← Ht.out, show elderL (xs.take j4 ++ [x]) = elderL (xs.take j4) ++ [(x.1, ⟨#[101, 108, 100, 101, 114]⟩)] by simp [elderL], putL_snoc]; exact hD3, q3⟩
                      case measure => simp only [intOf]; omega
                    · have hjn : n = j4 := by omega
                      clear hlt hj
                      subst hjn
                      rw [show xs.take n = xs by rw [← Lx.out, List.take_length]] at hD
                      go_wp2
                      go_loopw [95] (fun i wr => ∃ j5 : Nat, j5 ≤ n ∧ i = .int .i64 (j5 : Nat) ∧ Two7 w wr d (n + n + j5) (putL (putL (delL (putL N0 (askL xs)) (askK xs)) (elderL xs)) (xs.take j5)) b n (putL M0 xs) ∧ wr.heap[s]? = some (.cells #[.int .u64 l0, .int .u64 l1] 24 (0, 0))) (fun i _ => n - (intOf i).toNat)
                      case atStart => exact ⟨0, Nat.zero_le _, rfl, by rw [List.take_zero]; exact hD, q⟩
                      case round =>
                        clear hD q
                        obtain ⟨j5, hj, rfl, hD, q⟩ := hrel
                        by_cases hlt : j5 < n
                        · obtain ⟨bb, oo, rfl, hbb, hcc, -, c1, c2⟩ := (hX.below hD.bel (Nat.le_refl _)).at (j := j5) hlt
                          have hjx : j5 < xs.length := by rw [Lx.out]; exact hlt
                          have Ht : Hid (xs.take j5 ++ [xs.getD j5 default] = xs.take (j5 + 1)) := ptake_snoc hjx
                          have hsz := fewL_size Fx.out (pgetD_mem hjx)
                          clear hjx
                          generalize xs.getD j5 default = x at *
                          have hba : Below wr.heap.size wr (wr.alloc (.cells #[.string x.1, .string x.2] 35)) := (Below.refl _ _).alloc (Nat.le_refl _) _
                          have hput := (hD.below hba).put2 hT (by omega) x ⟨by omega, by omega⟩
                          have q' := (hba.block s (hql _ q)).trans q
                          go_wp2_with fail
                          generalize wr.alloc (.cells #[.string x.1, .string x.2] 35) = wa at *
                          refine hput.mono ?_
                          rintro e w3 ⟨⟨y1, y2, rfl⟩, hD3, hk3⟩
                          have q3 := hk3 _ s _ _ (by decide) q'
                          clear hput hD q q' hba c1 c2
                          go_wp2
                          go_roundw
                          case rel => exact ⟨j5 + 1, by omega, by go_num, by rw [← Ht.out, putL_snoc]; exact hD3, q3⟩
                          case measure => simp only [intOf]; omega
                        · have hjn : n = j5 := by omega
                          clear hlt hj
                          subst hjn
                          rw [show xs.take n = xs by rw [← Lx.out, List.take_length]] at hD
                          have HI := back_img (l := xs) (by rw [Lx.out]; exact hnx) (fun p hp => fewL_size Fx.out hp) HF0.out.1 HF0.out.2 HM0.out HN0.out
                          replace hD := hD.swap
                          generalize putL (putL (delL (putL N0 (askL xs)) (askK xs)) (elderL xs)) xs = N at *
                          generalize putL M0 xs = M at *
                          have F1 := hD.one.fine
                          have hP1 := F1.few (by omega)
                          have hl1 := hP1.1
                          have hRise := img_rise F1.inv
                          have hLen := img_len F1.inv
                          have hMn := F1.n
                          have Hrb : Hid (rdE (expB M.img) = (M.img, ([], false)) ∧ rdOk (expB M.img) = true) := read_back (by rw [hLen]; omega) hP1.small hRise
                          have Hxl : Hid ((expB M.img).length ≤ 1099511627776) := by
                            have h1 := hP1.take M.img.length
                            rw [List.take_length] at h1
                            have h2 := numB_le M.img.length
                            show _ ≤ _
                            unfold expB
                            rw [List.length_append]
                            omega
                          have Hsz : Hid (∀ p ∈ M.img, p.1.size ≤ 131072 ∧ p.2.size ≤ 131072) := hP1.2
                          have Hpl : Hid (∀ b, isGood ((b : Nat) : Int) = true → (putL (SM.empty l0 l1 (.string ⟨#[]⟩) b) M.img).img = M.img) := fun b hb => img_putL hRise (by rw [hLen]; omega) hP1.2 l0 l1 b hb
                          have Hll : Hid (M.img.length ≤ 300) := by rw [Hid, hLen]; omega
                          clear hX hXi Fx Lx HM0 HN0 HF0 hP1 hRise hLen
                          have hE1 := hD.one.exp hT (by omega)
                          go_wp2_with fail
                          refine hE1.mono ?_
                          rintro e w4 ⟨v4, rfl, ho4, hb4⟩
                          have hD4 := hD.below hb4
                          have q4 := (hb4.block s (hql _ q)).trans q
                          have hE2 := hD4.swap.one.exp hT (by omega)
                          rw [HI] at hE2
                          clear hE1 hD q
                          go_wp2_with fail
                          refine hE2.mono ?_
                          rintro e w5 ⟨v5, rfl, ho5, hb5⟩
                          have hD5 := hD4.below hb5
                          have q5 := (hb5.block s (hql _ q4)).trans q4
                          have hS5 := same_any v4 v5 _ _ w5 (ho4.has.below hb5 (Nat.le_refl _)) ho5.has (expB_isB _) (expB_isB _)
                          rw [show (expB M.img == expB M.img) = true by simp] at hS5
                          clear hE2 hD4 q4 hb4 hb5 ho4 ho5
                          go_wp2_with fail
                          refine same_mono hS5 ?_
                          have hS6 := hD5.one.same hD5.swap.one hT (by omega) (by omega)
                          rw [HI, decide_eq_true rfl] at hS6
                          clear hS5
                          go_wp2_with fail
                          refine hS6.mono ?_
                          rintro e w6 ⟨rfl, hb6⟩
                          have hD6 := hD5.below hb6
                          have q6 := (hb6.block s (hql _ q5)).trans q5
                          clear hS6 hD5 q5 hb6 HI
                          have c0 : w6.cell? ⟨s, 0, none⟩ = some (.int .u64 l0) := by unfold World.cell?; dsimp only; rw [q6]; rfl
                          have c1 : w6.cell? ⟨s, 1, none⟩ = some (.int .u64 l1) := by unfold World.cell?; dsimp only; rw [q6]; rfl
                          have s0 : w6.drew.cell? ⟨s, 0, none⟩ = some (.int .u64 l0) ∧ w6.drew.cell? ⟨s, 1, none⟩ = some (.int .u64 l1) ∧ Below w6.heap.size w6 w6.drew := ⟨c0, c1, ⟨rfl, rfl, rfl, Nat.le_refl _, fun _ _ => rfl⟩⟩
                          have hsl : s < w6.heap.size := hql _ q6
                          have HD6 : Hid (Two7 w w6 b n M d (n + n + n) N) := hD6
                          have hEx : ∀ W, Below w6.heap.size w6 W → Calls Tryz.prog 20 #[.pointer (some ⟨b, 0, none⟩)] W fun e w' => ∃ v, e = .returned v ∧ Owns w' W.heap.size 5 v (expB M.img) ∧ Below W.heap.size W w' := fun W hW => (HD6.out.below hW).one.exp hT (by omega)
                          have hIm : ∀ W v, Below w6.heap.size w6 W → Has W v (expB M.img) → Calls Tryz.prog 23 #[v, .agg #[.int .u64 l0, .int .u64 l1]] W fun e w' => ∃ b, e = .returned (.tuple #[.pointer (some ⟨b, 0, none⟩), .int .i64 0]) ∧ One7 W w' b M.img.length (putL (SM.empty l0 l1 (.string ⟨#[]⟩) (needI (M.img.length : Int)).toNat) M.img) ∧ Below W.heap.size W w' := fun W v hW hv => by
                            refine (import_any v (expB M.img) l0 l1 W (hT.below (HD6.out.below hW).bel hw0) hv (expB_isB _) Hxl.out (fun _ => by rw [Hrb.out.1]; exact Hsz.out)).mono ?_
                            rintro e w' (⟨h, _⟩ | ⟨_, b', rfl, h⟩)
                            · rw [Hrb.out.2] at h; cases h
                            · rw [Hrb.out.1] at h
                              exact ⟨b', rfl, h, h.bel⟩
                          clear hD6 q6
                          go_wp2_with fail
                          go_region_held3 (fun w' => w'.cell? ⟨s, 0, none⟩ = some (.int .u64 l0) ∧ w'.cell? ⟨s, 1, none⟩ = some (.int .u64 l1) ∧ Below w6.heap.size w6 w')
                            (first | exact s0 | assumption | exact keepC hsl (by assumption) (by assumption))
                            (first
                              | (go_at_call 20; refine Calls.mono (hEx _ (heldC (by assumption))) ?_; rintro e w7 ⟨v7, rfl, ho7, hb7⟩)
                              | (go_at_call 23; refine Calls.mono (hIm _ _ (heldC (by assumption)) ho7.has) ?_; rintro e w8 ⟨b8, rfl, ho8, hb8⟩))
                          have hbw : Below w6.heap.size w6 w8 := heldC (by assumption)
                          have hD8 := (HD6.out.below hbw).one
                          have h68 := hbw.size
                          have hw67 : Below w6.heap.size w6 w7 := by
                            refine (show Below w6.heap.size w6 w6.drew from ⟨rfl, rfl, rfl, Nat.le_refl _, fun _ _ => rfl⟩).trans (hb7.mono ?_)
                            exact Nat.le_refl _
                          have hz7 : One7 w w8 b8 M.img.length (putL (SM.empty l0 l1 (.string ⟨#[]⟩) (needI (M.img.length : Int)).toNat) M.img) := by
                            obtain ⟨⟨bw, bs, e1, e2, e3, e4⟩, e5, e6⟩ := ho8
                            have := (HD6.out.below hw67).bel.size
                            exact ⟨⟨bw, bs, e1, by omega, by omega, by omega⟩, e5, hD8.bel⟩
                          have hSz := hD8.same hz7 hT (by omega) (by have := Hll.out; omega)
                          rw [Hpl.out _ (need7 M.img.length (by have := Hll.out; omega)).2, decide_eq_true rfl] at hSz
                          clear hEx hIm ho7 ho8 hz7 s0 c0 c1
                          go_wp2_with fail
                          refine hSz.mono ?_
                          rintro e w9 ⟨rfl, hb9⟩
                          have hD9 := hD8.below hb9
                          go_wp2_with fail
                          refine (hlives w9 hD9.bel).mono ?_
                          rintro e w10 ⟨rfl, hb10⟩
                          go_wp2
                          go_ret
                          exact ⟨rfl, hD9.bel.trans (hb10.mono hD9.bel.size)⟩
end Go.Proofs.YthlghokgknkpaaaGreatDoor

import Derived.Test.YtnbaoimjcaeeaaaGreatRngTo
import Derived.Test.YtnbaoimjcaeeaaaGreatChecked
import Derived.Laws.OwnMore
import Derived.Maps.AppendAt
import Derived.Test.YtnbaoimjcaeeaaaGreatHRowCTo
/-
  Slices of ints in memory: what one reads as (HasI), a row of ints that the call made (OwnsI); a box that holds such a row, behind an append.
-/
namespace Go.Proofs.YtnbaoimjcaeeaaaGreat
open Go.RowKit Go.Shelf

/-- The value v is a slice that reads as the ints xs. -/
def HasI (w : World) (v : Value) (xs : List Int) : Prop :=
  ∃ p c, v = .slice p xs.length c ∧ xs.length ≤ c ∧ (p = none → c = 0) ∧
    (0 < xs.length → ∃ b o, p = some ⟨b, o, none⟩ ∧ b < w.heap.size ∧ ∀ i, i < xs.length → w.cell? ⟨b, o + i, none⟩ = some (.int .i64 (xs.getD i 0)))

/-- The value v is a slice that the call made, in a row from block B on; it reads as xs. -/
def OwnsI (w : World) (B : Nat) (v : Value) (xs : List Int) : Prop := w.ownsRow B 3 1 v xs.length (xs.map (Value.int .i64))

theorem OwnsI.has {w : World} {B : Nat} {v : Value} {xs : List Int} (h : OwnsI w B v xs) : HasI w v xs := by
  rcases h.2 with ⟨rfl, hn⟩ | ⟨g, cap, cur, rfl, hB, hg, hnc, _, _, _⟩
  · exact ⟨none, 0, by rw [hn], by omega, fun _ => rfl, fun h0 => by omega⟩
  · refine ⟨some ⟨g, 0, none⟩, cap, rfl, hnc, (fun h0 => by cases h0), fun _ => ⟨g, 0, rfl, (Array.getElem?_eq_some_iff.1 hg).1, fun i hi => ?_⟩⟩
    have hc := World.ownsRow.cells h (g := g) rfl i (.int .i64 (xs.getD i 0)) (by simp [List.getElem?_eq_getElem hi])
    rw [Addr.add_lit] at hc
    exact hc

theorem HasI.nil (w : World) : HasI w (.slice none 0 0) [] := ⟨none, 0, rfl, Nat.le_refl _, fun _ => rfl, fun h => absurd h (Nat.lt_irrefl 0)⟩
theorem HasI.below {w w' : World} {B : Nat} {v : Value} {xs : List Int} (h : HasI w v xs) (hb : Below B w w') (hB : w.heap.size ≤ B) : HasI w' v xs := by
  obtain ⟨p, c, rfl, h1, h2, h3⟩ := h
  refine ⟨p, c, rfl, h1, h2, fun h0 => ?_⟩
  obtain ⟨b, o, rfl, hlt, hc⟩ := h3 h0
  exact ⟨b, o, rfl, Nat.lt_of_lt_of_le hlt hb.size, fun i hi => (hb.cell (p := ⟨b, o + i, none⟩) (by exact Nat.lt_of_lt_of_le hlt hB)).trans (hc i hi)⟩
theorem HasI.takeN {w : World} {p : Option Addr} {c : Nat} {xs : List Int} {n : Nat} (h : HasI w (.slice p n c) xs) (j : Nat) (hj : j ≤ xs.length) : HasI w (.slice p j c) (xs.take j) := by
  obtain ⟨p', c', hv, hc, hnone, hcell⟩ := h
  simp only [Value.slice.injEq] at hv
  obtain ⟨rfl, _, rfl⟩ := hv
  have hlen : (xs.take j).length = j := by rw [List.length_take]; omega
  refine ⟨p, c, by rw [hlen], by rw [hlen]; omega, hnone, fun h0 => ?_⟩
  rw [hlen] at h0 ⊢
  obtain ⟨b, o, hp, hlt, hcl⟩ := hcell (by omega)
  exact ⟨b, o, hp, hlt, fun i hi => by rw [hcl i (by omega)]; simp [hi]⟩
theorem HasI.lit (w : World) (xs : List Int) (e : TypeId) (fr : Nat × Nat := (0, 0)) : HasI (w.alloc (.cells (xs.map (Value.int .i64)).toArray e fr)) (.slice (some ⟨w.heap.size, 0, none⟩) xs.length xs.length) xs := by
  refine ⟨_, _, rfl, Nat.le_refl _, (fun h => by cases h), fun _ => ⟨w.heap.size, 0, rfl, by simp, fun i hi => ?_⟩⟩
  rw [Nat.zero_add, cell_of_row _ w.heap.size i _ e fr (heap_alloc_new w _)]
  simp [List.getElem?_eq_getElem hi]

theorem OwnsI.nil (w : World) (B : Nat) : OwnsI w B (.slice none 0 0) [] := World.ownsRow_nil w B _ 1
theorem OwnsI.mono {w : World} {B B' : Nat} {v : Value} {xs : List Int} (h : OwnsI w B v xs) (hB : B' ≤ B) : OwnsI w B' v xs := by
  refine ⟨h.1, ?_⟩
  rcases h.2 with hn | ⟨g, cap, cur, rfl, hb1, rest⟩
  · exact .inl hn
  · exact .inr ⟨g, cap, cur, rfl, Nat.le_trans hB hb1, rest⟩
theorem OwnsI.below {w w' : World} {B B' : Nat} {v : Value} {xs : List Int} (h : OwnsI w B v xs) (hb : Below B' w w') (hB : w.heap.size ≤ B') : OwnsI w' B v xs := by
  refine ⟨h.1, ?_⟩
  rcases h.2 with hn | ⟨g, cap, cur, rfl, hb1, hg, rest⟩
  · exact .inl hn
  · refine .inr ⟨g, cap, cur, rfl, hb1, ?_, rest⟩
    rw [hb.block g (Nat.lt_of_lt_of_le (Array.getElem?_eq_some_iff.1 hg).1 hB)]
    exact hg
/-- A row beyond the window lies on. -/
theorem OwnsI.outside {A B : Nat} {X Y : World} {v : Value} {xs : List Int} (h : OwnsI X B v xs) (ho : Outside A B X Y) : OwnsI Y B v xs := by
  refine ⟨h.1, ?_⟩
  rcases h.2 with hn | ⟨g, cap, cur, rfl, hb1, hg, rest⟩
  · exact .inl hn
  · exact .inr ⟨g, cap, cur, rfl, hb1, ho.block g _ hg (.inr ⟨hb1, rfl⟩), rest⟩

theorem Tryz.infoInt : (Tryz.prog.info? 3).map (fun i => (i.zero, i.size, i.bytes)) = some (some (.int .i64 0), 1, 8) := by kernel_rfl

/-- A box that holds a row, behind 'box = append(box, ..)'. -/
theorem boxed_append {X w1 : World} {B k : Nat} {t e : TypeId} {v v' : Value} {n m : Nat} {xs ys : List Value} {tmp : Obj}
    (hv : Boxed X k t v) (hte : t ≠ e) (hrow : X.ownsRow B e 1 v n xs) (hB : B ≤ X.heap.size) (hown' : w1.ownsRow B e 1 v' m ys) (hgrow : (X.alloc tmp).grownBy w1 v.ownBlock) :
    Boxed w1 k t v ∧ Boxed (w1.setCell ⟨k, 0, none⟩ v') k t v' ∧ (w1.setCell ⟨k, 0, none⟩ v').ownsRow B e 1 v' m ys ∧
      (∀ C, C ≤ k → C ≤ B → Below C X (w1.setCell ⟨k, 0, none⟩ v')) ∧ (∀ lo hi, hi ≤ B → k < lo ∨ hi ≤ k → Keeps lo hi X (w1.setCell ⟨k, 0, none⟩ v')) := by
  have hv1 : Boxed w1 k t v := (hv.alloc tmp).kept hgrow (hv.not_row hte hrow)
  have hr : ∀ j, v.ownBlock = some j → B ≤ j := fun j ej => (World.ownsRow.lt hrow j ej).1
  refine ⟨hv1, hv1.set v', hown'.kept (grownBy_setCell' w1 k v') (.inr (hv1.not_row hte hown').symm), fun C h1 h2 => ?_, fun lo hi h1 h2 => ?_⟩
  · exact (((Below.refl C X).alloc (by omega) tmp).grown hgrow (by simp; omega) fun j ej => by have := hr j ej; omega).setCell (p := ⟨k, 0, none⟩) h1 v'
  · exact ((((Keeps.refl lo hi X).alloc (by omega) tmp)).trans (Keeps.grown hgrow (by simp; omega) fun j ej => by have := hr j ej; omega)).setCell (p := ⟨k, 0, none⟩) h2 v'
end Go.Proofs.YtnbaoimjcaeeaaaGreat

/-
  Members, entries, snapshots and messages as they lie in memory.
-/
namespace Go.Proofs.YtnbaoimjcaeeaaaGreat
open Go.RowKit

/-- A cell of a slice of ints. -/
theorem HasI.at {w : World} {p : Option Addr} {n c : Nat} {xs : List Int} (h : HasI w (.slice p n c) xs) {j : Nat} (hj : j < n) : ∃ b o, p = some ⟨b, o, none⟩ ∧ b < w.heap.size ∧ w.cell? ⟨b, o + j, none⟩ = some (.int .i64 (xs.getD j 0)) := by
  obtain ⟨q, d, hv, _, _, hc⟩ := h
  simp only [Value.slice.injEq] at hv
  obtain ⟨rfl, rfl, rfl⟩ := hv
  obtain ⟨b, o, hp, hlt, hcl⟩ := hc (by omega)
  exact ⟨b, o, hp, hlt, hcl j hj⟩
theorem HasI.len {w : World} {p : Option Addr} {n c : Nat} {xs : List Int} (h : HasI w (.slice p n c) xs) : xs.length = n ∧ n ≤ c ∧ (p = none → c = 0) := by
  obtain ⟨q, d, hv, h1, h2, _⟩ := h
  simp only [Value.slice.injEq] at hv
  obtain ⟨rfl, rfl, rfl⟩ := hv
  exact ⟨rfl, h1, h2⟩

/-- A slice: where it points, how long it is, its room. -/
structure Sl10 where
  p : Option Addr
  n : Nat
  c : Nat
def nilS10 : Sl10 := ⟨none, 0, 0⟩

structure ConfV where
  u : Sl10
  v : Sl10
  f : Conf10
def noFV : ConfV := ⟨nilS10, nilS10, noF10⟩
def ConfV.arr (x : ConfV) : Array Value := #[.slice x.u.p x.u.n x.u.c, .slice x.v.p x.v.n x.v.c]
structure EntV where
  i : Int
  t : Int
  k : Int
  c : Cmd9
  f : ConfV
def EntV.e (x : EntV) : Ent10 := ⟨x.i, x.t, x.k, x.c, x.f.f⟩
def noEV : EntV := ⟨0, 0, 0, zeroC9, noFV⟩
def EntV.arr (x : EntV) : Array Value := #[.int .i64 x.i, .int .i64 x.t, .int .i64 x.k, .int .i64 x.c.k, .int .i64 x.c.s, .int .i64 x.c.q, .string x.c.key, .string x.c.old, .string x.c.val, .string x.c.unt, .int .i64 x.c.lim, .slice x.f.u.p x.f.u.n x.f.u.c, .slice x.f.v.p x.f.v.n x.f.v.c]
def Hard10.arr (h : Hard10) : Array Value := #[.int .i64 h.t, .int .i64 h.v, .int .i64 h.c]
structure SnapV where
  i : Int
  t : Int
  f : ConfV
  w : Sl10
  d : List Int
def SnapV.s (x : SnapV) : Snap10 := ⟨x.i, x.t, x.f.f, x.d⟩
def noSV : SnapV := ⟨0, 0, noFV, nilS10, []⟩
def SnapV.arr (x : SnapV) : Array Value := #[.int .i64 x.i, .int .i64 x.t, .slice x.f.u.p x.f.u.n x.f.u.c, .slice x.f.v.p x.f.v.n x.f.v.c, .slice x.w.p x.w.n x.w.c]
structure MsgV where
  k : Int
  fr : Int
  to : Int
  t : Int
  i : Int
  lt : Int
  cm : Int
  ro : Int
  rej : Bool
  hint : Int
  w : Sl10
  es : List EntV
  sn : SnapV
def MsgV.m (x : MsgV) : Msg10 := ⟨x.k, x.fr, x.to, x.t, x.i, x.lt, x.cm, x.ro, x.rej, x.hint, x.es.map EntV.e, x.sn.s⟩
def MsgV.arr (x : MsgV) : Array Value := #[.int .i64 x.k, .int .i64 x.fr, .int .i64 x.to, .int .i64 x.t, .int .i64 x.i, .int .i64 x.lt, .int .i64 x.cm, .int .i64 x.ro, .bool x.rej, .int .i64 x.hint, .slice x.w.p x.w.n x.w.c, .int .i64 x.sn.i, .int .i64 x.sn.t, .slice x.sn.f.u.p x.sn.f.u.n x.sn.f.u.c, .slice x.sn.f.v.p x.sn.f.v.n x.sn.f.v.c, .slice x.sn.w.p x.sn.w.n x.sn.w.c]

/-- What came in, as it lies there. -/
structure FitsF (W : World) (x : ConfV) : Prop where
  u : HasI W (.slice x.u.p x.u.n x.u.c) x.f.vs
  v : HasI W (.slice x.v.p x.v.n x.v.c) x.f.ls
  iu : inL x.f.vs
  iv : inL x.f.ls
  lu : x.f.vs.length ≤ 17592186044416
  lv : x.f.ls.length ≤ 17592186044416
structure FitsE (W : World) (x : EntV) : Prop where
  i : inI x.i
  t : inI x.t
  k : inI x.k
  c : Fits9 x.c
  f : FitsF W x.f
structure FitsS (W : World) (x : SnapV) : Prop where
  i : inI x.i
  t : inI x.t
  f : FitsF W x.f
  w : Has W (.slice x.w.p x.w.n x.w.c) x.d
  b : IsB x.d
  l : x.d.length ≤ 140737488351232
def FitsH (h : Hard10) : Prop := inI h.t ∧ inI h.v ∧ inI h.c
/-- The value v is a slice that reads as these entries. -/
structure HasE (W : World) (s : Sl10) (es : List EntV) : Prop where
  n : es.length = s.n
  c : s.n ≤ s.c
  nl : s.p = none → s.c = 0
  at' : 0 < s.n → ∃ b o, s.p = some ⟨b, o, none⟩ ∧ b < W.heap.size ∧ ∀ i, i < s.n → ∀ j, j < 13 → W.cell? ⟨b, o + i * 13 + j, none⟩ = (es.getD i noEV).arr[j]?
  all : ∀ e ∈ es, FitsE W e
structure FitsM (W : World) (x : MsgV) : Prop where
  k : inI x.k
  fr : inI x.fr
  to : inI x.to
  t : inI x.t
  i : inI x.i
  lt : inI x.lt
  cm : inI x.cm
  ro : inI x.ro
  hint : inI x.hint
  es : HasE W x.w x.es
  len : (x.w.n : Int) ≤ 9223372036854775807
  sn : FitsS W x.sn

theorem FitsF.below {W W' : World} {x : ConfV} (h : FitsF W x) (hb : Below W.heap.size W W') : FitsF W' x :=
  ⟨h.u.below hb (Nat.le_refl _), h.v.below hb (Nat.le_refl _), h.iu, h.iv, h.lu, h.lv⟩
theorem FitsE.below {W W' : World} {x : EntV} (h : FitsE W x) (hb : Below W.heap.size W W') : FitsE W' x := ⟨h.i, h.t, h.k, h.c, h.f.below hb⟩
theorem FitsS.below {W W' : World} {x : SnapV} (h : FitsS W x) (hb : Below W.heap.size W W') : FitsS W' x := ⟨h.i, h.t, h.f.below hb, h.w.below hb (Nat.le_refl _), h.b, h.l⟩
theorem HasE.below {W W' : World} {s : Sl10} {es : List EntV} (h : HasE W s es) (hb : Below W.heap.size W W') : HasE W' s es :=
  ⟨h.n, h.c, h.nl, fun h0 => by
    obtain ⟨b, o, hp, hlt, hc⟩ := h.at' h0
    exact ⟨b, o, hp, Nat.lt_of_lt_of_le hlt hb.size, fun i hi j hj => (hb.cell (p := ⟨b, o + i * 13 + j, none⟩) hlt).trans (hc i hi j hj)⟩, fun e he => (h.all e he).below hb⟩
theorem FitsM.below {W W' : World} {x : MsgV} (h : FitsM W x) (hb : Below W.heap.size W W') : FitsM W' x :=
  ⟨h.k, h.fr, h.to, h.t, h.i, h.lt, h.cm, h.ro, h.hint, h.es.below hb, h.len, h.sn.below hb⟩
theorem FitsF.nil (W : World) : FitsF W noFV := ⟨HasI.nil W, HasI.nil W, (fun _ h => by cases h), (fun _ h => by cases h), Nat.zero_le _, Nat.zero_le _⟩
theorem HasE.nil (W : World) : HasE W nilS10 [] := ⟨rfl, Nat.le_refl _, fun _ => rfl, fun h => absurd h (Nat.lt_irrefl 0), fun _ h => by cases h⟩
theorem FitsS.nil (W : World) : FitsS W noSV := ⟨by unfold inI; exact ⟨by decide, by decide⟩, by unfold inI; exact ⟨by decide, by decide⟩, FitsF.nil W, Has.nil W, IsB.nil, Nat.zero_le _⟩
theorem noEV_e : noEV.e = noE10 := rfl
theorem noSV_s : noSV.s = noS10 := rfl

theorem box_below {w w' : World} {b : Nat} {o : Obj} (h : w.heap[b]? = some o) (hb : Below w.heap.size w w') : w'.heap[b]? = some o := (hb.block b (Array.getElem?_eq_some_iff.1 h).1).trans h
theorem box_lt {w : World} {b : Nat} {o : Obj} (h : w.heap[b]? = some o) : b < w.heap.size := (Array.getElem?_eq_some_iff.1 h).1
theorem box_cell {w : World} {b : Nat} {a : Array Value} {t : TypeId} {fr : Nat × Nat} (h : w.heap[b]? = some (.cells a t fr)) (j : Nat) : w.cell? ⟨b, j, none⟩ = a[j]? := by
  unfold World.cell?
  dsimp only
  rw [h]
  rfl


/-- A box of its own. -/
def ConfAt (w : World) (b : Nat) (x : ConfV) : Prop := w.heap[b]? = some (.cells x.arr 28 (0, 0))
theorem ConfAt.cells {w : World} {b : Nat} {x : ConfV} (h : ConfAt w b x) : w.cell? ⟨b, 0, none⟩ = some (.slice x.u.p x.u.n x.u.c) ∧ w.cell? ⟨b, 1, none⟩ = some (.slice x.v.p x.v.n x.v.c) := ⟨box_cell h 0, box_cell h 1⟩

/-- A box of its own. -/
def EntAt (w : World) (b : Nat) (x : EntV) : Prop := w.heap[b]? = some (.cells x.arr 30 (0, 0))
theorem EntAt.cells {w : World} {b : Nat} {x : EntV} (h : EntAt w b x) :
    w.cell? ⟨b, 0, none⟩ = some (.int .i64 x.i) ∧ w.cell? ⟨b, 1, none⟩ = some (.int .i64 x.t) ∧ w.cell? ⟨b, 2, none⟩ = some (.int .i64 x.k) ∧
    w.cell? ⟨b, 3, none⟩ = some (.int .i64 x.c.k) ∧ w.cell? ⟨b, 4, none⟩ = some (.int .i64 x.c.s) ∧ w.cell? ⟨b, 5, none⟩ = some (.int .i64 x.c.q) ∧ w.cell? ⟨b, 6, none⟩ = some (.string x.c.key) ∧
    w.cell? ⟨b, 7, none⟩ = some (.string x.c.old) ∧ w.cell? ⟨b, 8, none⟩ = some (.string x.c.val) ∧ w.cell? ⟨b, 9, none⟩ = some (.string x.c.unt) ∧ w.cell? ⟨b, 10, none⟩ = some (.int .i64 x.c.lim) ∧
    w.cell? ⟨b, 11, none⟩ = some (.slice x.f.u.p x.f.u.n x.f.u.c) ∧ w.cell? ⟨b, 12, none⟩ = some (.slice x.f.v.p x.f.v.n x.f.v.c) :=
  ⟨box_cell h 0, box_cell h 1, box_cell h 2, box_cell h 3, box_cell h 4, box_cell h 5, box_cell h 6, box_cell h 7, box_cell h 8, box_cell h 9, box_cell h 10, box_cell h 11, box_cell h 12⟩

/-- A box of its own. -/
def SnapAt (w : World) (b : Nat) (x : SnapV) : Prop := w.heap[b]? = some (.cells x.arr 43 (0, 0))
theorem SnapAt.cells {w : World} {b : Nat} {x : SnapV} (h : SnapAt w b x) :
    w.cell? ⟨b, 0, none⟩ = some (.int .i64 x.i) ∧ w.cell? ⟨b, 1, none⟩ = some (.int .i64 x.t) ∧ w.cell? ⟨b, 2, none⟩ = some (.slice x.f.u.p x.f.u.n x.f.u.c) ∧ w.cell? ⟨b, 3, none⟩ = some (.slice x.f.v.p x.f.v.n x.f.v.c) ∧ w.cell? ⟨b, 4, none⟩ = some (.slice x.w.p x.w.n x.w.c) :=
  ⟨box_cell h 0, box_cell h 1, box_cell h 2, box_cell h 3, box_cell h 4⟩

/-- A box of its own. -/
def HardAt (w : World) (b : Nat) (x : Hard10) : Prop := w.heap[b]? = some (.cells x.arr 37 (0, 0))
theorem HardAt.cells {w : World} {b : Nat} {x : Hard10} (h : HardAt w b x) : w.cell? ⟨b, 0, none⟩ = some (.int .i64 x.t) ∧ w.cell? ⟨b, 1, none⟩ = some (.int .i64 x.v) ∧ w.cell? ⟨b, 2, none⟩ = some (.int .i64 x.c) := ⟨box_cell h 0, box_cell h 1, box_cell h 2⟩

/-- A box of its own. -/
def MsgAt (w : World) (b : Nat) (x : MsgV) : Prop := w.heap[b]? = some (.cells x.arr 53 (0, 0))
theorem MsgAt.cells {w : World} {b : Nat} {x : MsgV} (h : MsgAt w b x) :
    w.cell? ⟨b, 0, none⟩ = some (.int .i64 x.k) ∧ w.cell? ⟨b, 1, none⟩ = some (.int .i64 x.fr) ∧ w.cell? ⟨b, 2, none⟩ = some (.int .i64 x.to) ∧ w.cell? ⟨b, 3, none⟩ = some (.int .i64 x.t) ∧
    w.cell? ⟨b, 4, none⟩ = some (.int .i64 x.i) ∧ w.cell? ⟨b, 5, none⟩ = some (.int .i64 x.lt) ∧ w.cell? ⟨b, 6, none⟩ = some (.int .i64 x.cm) ∧ w.cell? ⟨b, 7, none⟩ = some (.int .i64 x.ro) ∧
    w.cell? ⟨b, 8, none⟩ = some (.bool x.rej) ∧ w.cell? ⟨b, 9, none⟩ = some (.int .i64 x.hint) ∧ w.cell? ⟨b, 10, none⟩ = some (.slice x.w.p x.w.n x.w.c) ∧
    w.cell? ⟨b, 11, none⟩ = some (.int .i64 x.sn.i) ∧ w.cell? ⟨b, 12, none⟩ = some (.int .i64 x.sn.t) ∧ w.cell? ⟨b, 13, none⟩ = some (.slice x.sn.f.u.p x.sn.f.u.n x.sn.f.u.c) ∧
    w.cell? ⟨b, 14, none⟩ = some (.slice x.sn.f.v.p x.sn.f.v.n x.sn.f.v.c) ∧ w.cell? ⟨b, 15, none⟩ = some (.slice x.sn.w.p x.sn.w.n x.sn.w.c) :=
  ⟨box_cell h 0, box_cell h 1, box_cell h 2, box_cell h 3, box_cell h 4, box_cell h 5, box_cell h 6, box_cell h 7, box_cell h 8, box_cell h 9, box_cell h 10, box_cell h 11, box_cell h 12, box_cell h 13, box_cell h 14, box_cell h 15⟩

end Go.Proofs.YtnbaoimjcaeeaaaGreat

import Derived.Test.YtephoegcpjdglaaEo2
import Derived.Test.YtephoegcpjdglaaLxTo
import Derived.Test.YtephoegcpjdglaaLd
import Derived.Deep.RegionLaw
import Derived.Test.YtephoegcpjdglaaHRowETo
import Derived.Deep.RegionHeld3
namespace Go.Proofs.Ytephoegcpjdglaa
open Go.RowKit Go.Shelf
attribute [local go_sem ↓] ldE_exec ldE_run stE_exec ldC_exec ldC_run stC_exec stC_run oc_int oc_bool oc_string oc_slice oc_pointer
structure OwnsE (w : World) (B : Nat) (x : EntV) : Prop where
  i : inI x.i
  t : inI x.t
  k : inI x.k
  c : Fits9 x.c
  f : OwnsF w B x.f
theorem OwnsE.fits {w : World} {B : Nat} {x : EntV} (h : OwnsE w B x) : FitsE w x := ⟨h.i, h.t, h.k, h.c, h.f.fits⟩
theorem OwnsE.mono {w : World} {B B' : Nat} {x : EntV} (h : OwnsE w B x) (hB : B' ≤ B) : OwnsE w B' x := ⟨h.i, h.t, h.k, h.c, h.f.mono hB⟩
theorem OwnsE.kept {w w' : World} {B r : Nat} {x : EntV} (h : OwnsE w B x) (hg : w.grownBy w' (some r)) (hr : r < B) : OwnsE w' B x := ⟨h.i, h.t, h.k, h.c, h.f.kept hg hr⟩
theorem OwnsE.below {w w' : World} {B : Nat} {x : EntV} (h : OwnsE w B x) (hb : Below w.heap.size w w') : OwnsE w' B x := ⟨h.i, h.t, h.k, h.c, h.f.below hb⟩
def entsV (l : List EntV) : List Value := (l.map fun x => x.arr.toList).flatten
theorem entsV_cons (x : EntV) (l : List EntV) : entsV (x :: l) = x.arr.toList ++ entsV l := by simp [entsV]
theorem entsV_append (l m : List EntV) : entsV (l ++ m) = entsV l ++ entsV m := by simp [entsV]
theorem entsV_one (x : EntV) : entsV [x] = x.arr.toList := by simp [entsV]
theorem arr_len (x : EntV) : x.arr.toList.length = 13 := rfl
theorem entsV_len : ∀ l : List EntV, (entsV l).length = l.length * 13
  | [] => rfl
  | x :: l => by rw [entsV_cons, List.length_append, entsV_len l, arr_len, List.length_cons]; omega
theorem entsV_at : ∀ {l : List EntV} {i k : Nat}, i < l.length → k < 13 → (entsV l)[i * 13 + k]? = (l.getD i noEV).arr[k]?
  | [], _, _, h, _ => by cases h
  | x :: l, 0, k, _, hk => by
    rw [entsV_cons, List.getElem?_append_left (by rw [arr_len]; omega), List.getD_cons_zero, Nat.zero_mul, Nat.zero_add, Array.getElem?_toList]
  | x :: l, i + 1, k, h, hk => by
    rw [entsV_cons, List.getElem?_append_right (by rw [arr_len]; omega), List.getD_cons_succ, arr_len, show (i + 1) * 13 + k - 13 = i * 13 + k by omega]
    exact entsV_at (by simpa using h) hk
theorem entsV_cell (l : List EntV) : ∀ u ∈ entsV l, u.oneCell' = true := by
  intro u hu
  unfold entsV at hu
  rw [List.mem_flatten] at hu
  obtain ⟨a, ha, hu⟩ := hu
  obtain ⟨x, _, rfl⟩ := List.mem_map.1 ha
  simp only [EntV.arr, List.mem_cons, List.not_mem_nil, or_false] at hu
  rcases hu with rfl | rfl | rfl | rfl | rfl | rfl | rfl | rfl | rfl | rfl | rfl | rfl | rfl <;> rfl

structure OwnsEs (w : World) (B : Nat) (s : Sl10) (es : List EntV) : Prop where
  row : w.ownsRow B 51 13 (.slice s.p s.n s.c) es.length (entsV es)
  all : ∀ e ∈ es, OwnsE w B e
theorem OwnsEs.fits {w : World} {B : Nat} {s : Sl10} {es : List EntV} (h : OwnsEs w B s es) : HasE w s es := by
  obtain ⟨p, n, c⟩ := s
  rcases h.row.2 with ⟨hv, hn⟩ | ⟨g, cap, cur, hv, hB, hg, hnc, _, _, _⟩
  · simp only [Value.slice.injEq] at hv
    obtain ⟨rfl, rfl, rfl⟩ := hv
    exact ⟨hn, Nat.le_refl _, fun _ => rfl, fun h0 => absurd h0 (Nat.lt_irrefl 0), fun e he => (h.all e he).fits⟩
  · simp only [Value.slice.injEq] at hv
    obtain ⟨rfl, rfl, rfl⟩ := hv
    refine ⟨rfl, hnc, (fun h0 => by cases h0), fun _ => ⟨g, 0, rfl, (Array.getElem?_eq_some_iff.1 hg).1, fun i hi j hj => ?_⟩, fun e he => (h.all e he).fits⟩
    have hi' : i < es.length := hi
    have hk := entsV_at hi' hj
    have hjj : j < ((es.getD i noEV).arr).size := hj
    rw [Array.getElem?_eq_getElem hjj] at hk ⊢
    have hc := World.ownsRow.cells h.row (g := g) rfl (i * 13 + j) _ hk
    rw [Addr.add_lit] at hc
    rw [Nat.zero_add] at hc ⊢
    exact hc
theorem OwnsEs.kept {w w' : World} {B r : Nat} {s : Sl10} {es : List EntV} (h : OwnsEs w B s es) (hg : w.grownBy w' (some r)) (hr : r < B) : OwnsEs w' B s es := by
  refine ⟨World.ownsRow.kept h.row hg ?_, fun e he => (h.all e he).kept hg hr⟩
  cases hv : Value.ownBlock (.slice s.p s.n s.c) with
  | none => exact .inl rfl
  | some k =>
    have := (World.ownsRow.lt h.row k hv).1
    exact .inr (fun e => by cases e; omega)
theorem OwnsEs.cell {w : World} {B b : Nat} {s : Sl10} {es : List EntV} (h : OwnsEs w B s es) (hb : b < B) (i : Nat) (v : Value) : OwnsEs (w.setCell ⟨b, i, none⟩ v) B s es := h.kept (grown_set w b i v) hb
theorem row_below {w w' : World} {B B' : Nat} {e : TypeId} {s n : Nat} {v : Value} {xs : List Value} (h : w.ownsRow B e s v n xs) (hb : Below B' w w') (hB : w.heap.size ≤ B') : w'.ownsRow B e s v n xs := by
  refine ⟨h.1, ?_⟩
  rcases h.2 with hn | ⟨g, cap, cur, rfl, hb1, hg, rest⟩
  · exact .inl hn
  · refine .inr ⟨g, cap, cur, rfl, hb1, ?_, rest⟩
    rw [hb.block g (Nat.lt_of_lt_of_le (Array.getElem?_eq_some_iff.1 hg).1 hB)]
    exact hg
theorem OwnsEs.below {w w' : World} {B : Nat} {s : Sl10} {es : List EntV} (h : OwnsEs w B s es) (hb : Below w.heap.size w w') : OwnsEs w' B s es := ⟨row_below h.row hb (Nat.le_refl _), fun e he => (h.all e he).below hb⟩
theorem OwnsEs.mono {w : World} {B B' : Nat} {s : Sl10} {es : List EntV} (h : OwnsEs w B s es) (hB : B' ≤ B) : OwnsEs w B' s es := ⟨row_mono h.row hB, fun e he => (h.all e he).mono hB⟩
theorem OwnsEs.nil (w : World) (B : Nat) : OwnsEs w B nilS10 [] := ⟨World.ownsRow_nil w B _ 13, fun _ h => by cases h⟩
theorem infoE10 : (Try.prog.info? 51).map (fun i => (i.zero, i.size, i.bytes)) = some (some (.agg noEV.arr), 13, 168) := by kernel_rfl

theorem mapE_getD (es : List EntV) (j : Nat) : (es.map EntV.e).getD j noE10 = (es.getD j noEV).e := by
  rw [← noEV_e, List.getD_eq_getElem?_getD, List.getD_eq_getElem?_getD, List.getElem?_map]
  cases es[j]? <;> rfl
theorem keepL {w1 wA wB : World} {b1 o1 b2 o2 j : Nat} {u0 u1 u2 u3 u4 u5 u6 u7 u8 u9 u10 u11 u12 u13 u14 u15 u16 u17 u18 u19 u20 u21 u22 u23 u24 u25 : Value} (l1 : b1 < w1.heap.size) (l2 : b2 < w1.heap.size) (h : wA.cell? ⟨b1, o1 + j * 13, none⟩ = some u0 ∧ wA.cell? ⟨b1, o1 + j * 13 + 1, none⟩ = some u1 ∧ wA.cell? ⟨b1, o1 + j * 13 + 2, none⟩ = some u2 ∧ wA.cell? ⟨b1, o1 + j * 13 + 3, none⟩ = some u3 ∧ wA.cell? ⟨b1, o1 + j * 13 + 4, none⟩ = some u4 ∧ wA.cell? ⟨b1, o1 + j * 13 + 5, none⟩ = some u5 ∧ wA.cell? ⟨b1, o1 + j * 13 + 6, none⟩ = some u6 ∧ wA.cell? ⟨b1, o1 + j * 13 + 7, none⟩ = some u7 ∧ wA.cell? ⟨b1, o1 + j * 13 + 8, none⟩ = some u8 ∧ wA.cell? ⟨b1, o1 + j * 13 + 9, none⟩ = some u9 ∧ wA.cell? ⟨b1, o1 + j * 13 + 10, none⟩ = some u10 ∧ wA.cell? ⟨b1, o1 + j * 13 + 11, none⟩ = some u11 ∧ wA.cell? ⟨b1, o1 + j * 13 + 12, none⟩ = some u12 ∧ wA.cell? ⟨b2, o2 + j * 13, none⟩ = some u13 ∧ wA.cell? ⟨b2, o2 + j * 13 + 1, none⟩ = some u14 ∧ wA.cell? ⟨b2, o2 + j * 13 + 2, none⟩ = some u15 ∧ wA.cell? ⟨b2, o2 + j * 13 + 3, none⟩ = some u16 ∧ wA.cell? ⟨b2, o2 + j * 13 + 4, none⟩ = some u17 ∧ wA.cell? ⟨b2, o2 + j * 13 + 5, none⟩ = some u18 ∧ wA.cell? ⟨b2, o2 + j * 13 + 6, none⟩ = some u19 ∧ wA.cell? ⟨b2, o2 + j * 13 + 7, none⟩ = some u20 ∧ wA.cell? ⟨b2, o2 + j * 13 + 8, none⟩ = some u21 ∧ wA.cell? ⟨b2, o2 + j * 13 + 9, none⟩ = some u22 ∧ wA.cell? ⟨b2, o2 + j * 13 + 10, none⟩ = some u23 ∧ wA.cell? ⟨b2, o2 + j * 13 + 11, none⟩ = some u24 ∧ wA.cell? ⟨b2, o2 + j * 13 + 12, none⟩ = some u25 ∧ Below w1.heap.size w1 wA) (hb : Below wA.heap.size wA wB) :
    wB.cell? ⟨b1, o1 + j * 13, none⟩ = some u0 ∧ wB.cell? ⟨b1, o1 + j * 13 + 1, none⟩ = some u1 ∧ wB.cell? ⟨b1, o1 + j * 13 + 2, none⟩ = some u2 ∧ wB.cell? ⟨b1, o1 + j * 13 + 3, none⟩ = some u3 ∧ wB.cell? ⟨b1, o1 + j * 13 + 4, none⟩ = some u4 ∧ wB.cell? ⟨b1, o1 + j * 13 + 5, none⟩ = some u5 ∧ wB.cell? ⟨b1, o1 + j * 13 + 6, none⟩ = some u6 ∧ wB.cell? ⟨b1, o1 + j * 13 + 7, none⟩ = some u7 ∧ wB.cell? ⟨b1, o1 + j * 13 + 8, none⟩ = some u8 ∧ wB.cell? ⟨b1, o1 + j * 13 + 9, none⟩ = some u9 ∧ wB.cell? ⟨b1, o1 + j * 13 + 10, none⟩ = some u10 ∧ wB.cell? ⟨b1, o1 + j * 13 + 11, none⟩ = some u11 ∧ wB.cell? ⟨b1, o1 + j * 13 + 12, none⟩ = some u12 ∧ wB.cell? ⟨b2, o2 + j * 13, none⟩ = some u13 ∧ wB.cell? ⟨b2, o2 + j * 13 + 1, none⟩ = some u14 ∧ wB.cell? ⟨b2, o2 + j * 13 + 2, none⟩ = some u15 ∧ wB.cell? ⟨b2, o2 + j * 13 + 3, none⟩ = some u16 ∧ wB.cell? ⟨b2, o2 + j * 13 + 4, none⟩ = some u17 ∧ wB.cell? ⟨b2, o2 + j * 13 + 5, none⟩ = some u18 ∧ wB.cell? ⟨b2, o2 + j * 13 + 6, none⟩ = some u19 ∧ wB.cell? ⟨b2, o2 + j * 13 + 7, none⟩ = some u20 ∧ wB.cell? ⟨b2, o2 + j * 13 + 8, none⟩ = some u21 ∧ wB.cell? ⟨b2, o2 + j * 13 + 9, none⟩ = some u22 ∧ wB.cell? ⟨b2, o2 + j * 13 + 10, none⟩ = some u23 ∧ wB.cell? ⟨b2, o2 + j * 13 + 11, none⟩ = some u24 ∧ wB.cell? ⟨b2, o2 + j * 13 + 12, none⟩ = some u25 ∧ Below w1.heap.size w1 wB := by
  obtain ⟨h0, h1, h2, h3, h4, h5, h6, h7, h8, h9, h10, h11, h12, h13, h14, h15, h16, h17, h18, h19, h20, h21, h22, h23, h24, h25, hz⟩ := h
  have hs := hz.size
  exact ⟨(hb.cell (p := ⟨b1, o1 + j * 13, none⟩) (by exact Nat.lt_of_lt_of_le l1 hs)).trans h0, (hb.cell (p := ⟨b1, o1 + j * 13 + 1, none⟩) (by exact Nat.lt_of_lt_of_le l1 hs)).trans h1, (hb.cell (p := ⟨b1, o1 + j * 13 + 2, none⟩) (by exact Nat.lt_of_lt_of_le l1 hs)).trans h2, (hb.cell (p := ⟨b1, o1 + j * 13 + 3, none⟩) (by exact Nat.lt_of_lt_of_le l1 hs)).trans h3, (hb.cell (p := ⟨b1, o1 + j * 13 + 4, none⟩) (by exact Nat.lt_of_lt_of_le l1 hs)).trans h4, (hb.cell (p := ⟨b1, o1 + j * 13 + 5, none⟩) (by exact Nat.lt_of_lt_of_le l1 hs)).trans h5, (hb.cell (p := ⟨b1, o1 + j * 13 + 6, none⟩) (by exact Nat.lt_of_lt_of_le l1 hs)).trans h6, (hb.cell (p := ⟨b1, o1 + j * 13 + 7, none⟩) (by exact Nat.lt_of_lt_of_le l1 hs)).trans h7, (hb.cell (p := ⟨b1, o1 + j * 13 + 8, none⟩) (by exact Nat.lt_of_lt_of_le l1 hs)).trans h8, (hb.cell (p := ⟨b1, o1 + j * 13 + 9, none⟩) (by exact Nat.lt_of_lt_of_le l1 hs)).trans h9, (hb.cell (p := ⟨b1, o1 + j * 13 + 10, none⟩) (by exact Nat.lt_of_lt_of_le l1 hs)).trans h10, (hb.cell (p := ⟨b1, o1 + j * 13 + 11, none⟩) (by exact Nat.lt_of_lt_of_le l1 hs)).trans h11, (hb.cell (p := ⟨b1, o1 + j * 13 + 12, none⟩) (by exact Nat.lt_of_lt_of_le l1 hs)).trans h12, (hb.cell (p := ⟨b2, o2 + j * 13, none⟩) (by exact Nat.lt_of_lt_of_le l2 hs)).trans h13, (hb.cell (p := ⟨b2, o2 + j * 13 + 1, none⟩) (by exact Nat.lt_of_lt_of_le l2 hs)).trans h14, (hb.cell (p := ⟨b2, o2 + j * 13 + 2, none⟩) (by exact Nat.lt_of_lt_of_le l2 hs)).trans h15, (hb.cell (p := ⟨b2, o2 + j * 13 + 3, none⟩) (by exact Nat.lt_of_lt_of_le l2 hs)).trans h16, (hb.cell (p := ⟨b2, o2 + j * 13 + 4, none⟩) (by exact Nat.lt_of_lt_of_le l2 hs)).trans h17, (hb.cell (p := ⟨b2, o2 + j * 13 + 5, none⟩) (by exact Nat.lt_of_lt_of_le l2 hs)).trans h18, (hb.cell (p := ⟨b2, o2 + j * 13 + 6, none⟩) (by exact Nat.lt_of_lt_of_le l2 hs)).trans h19, (hb.cell (p := ⟨b2, o2 + j * 13 + 7, none⟩) (by exact Nat.lt_of_lt_of_le l2 hs)).trans h20, (hb.cell (p := ⟨b2, o2 + j * 13 + 8, none⟩) (by exact Nat.lt_of_lt_of_le l2 hs)).trans h21, (hb.cell (p := ⟨b2, o2 + j * 13 + 9, none⟩) (by exact Nat.lt_of_lt_of_le l2 hs)).trans h22, (hb.cell (p := ⟨b2, o2 + j * 13 + 10, none⟩) (by exact Nat.lt_of_lt_of_le l2 hs)).trans h23, (hb.cell (p := ⟨b2, o2 + j * 13 + 11, none⟩) (by exact Nat.lt_of_lt_of_le l2 hs)).trans h24, (hb.cell (p := ⟨b2, o2 + j * 13 + 12, none⟩) (by exact Nat.lt_of_lt_of_le l2 hs)).trans h25, hz.trans (hb.mono hs)⟩
theorem keepL0 {w1 : World} {b1 o1 b2 o2 j : Nat} {u0 u1 u2 u3 u4 u5 u6 u7 u8 u9 u10 u11 u12 u13 u14 u15 u16 u17 u18 u19 u20 u21 u22 u23 u24 u25 : Value} (h0 : w1.cell? ⟨b1, o1 + j * 13, none⟩ = some u0) (h1 : w1.cell? ⟨b1, o1 + j * 13 + 1, none⟩ = some u1) (h2 : w1.cell? ⟨b1, o1 + j * 13 + 2, none⟩ = some u2) (h3 : w1.cell? ⟨b1, o1 + j * 13 + 3, none⟩ = some u3) (h4 : w1.cell? ⟨b1, o1 + j * 13 + 4, none⟩ = some u4) (h5 : w1.cell? ⟨b1, o1 + j * 13 + 5, none⟩ = some u5) (h6 : w1.cell? ⟨b1, o1 + j * 13 + 6, none⟩ = some u6) (h7 : w1.cell? ⟨b1, o1 + j * 13 + 7, none⟩ = some u7) (h8 : w1.cell? ⟨b1, o1 + j * 13 + 8, none⟩ = some u8) (h9 : w1.cell? ⟨b1, o1 + j * 13 + 9, none⟩ = some u9) (h10 : w1.cell? ⟨b1, o1 + j * 13 + 10, none⟩ = some u10) (h11 : w1.cell? ⟨b1, o1 + j * 13 + 11, none⟩ = some u11) (h12 : w1.cell? ⟨b1, o1 + j * 13 + 12, none⟩ = some u12) (h13 : w1.cell? ⟨b2, o2 + j * 13, none⟩ = some u13) (h14 : w1.cell? ⟨b2, o2 + j * 13 + 1, none⟩ = some u14) (h15 : w1.cell? ⟨b2, o2 + j * 13 + 2, none⟩ = some u15) (h16 : w1.cell? ⟨b2, o2 + j * 13 + 3, none⟩ = some u16) (h17 : w1.cell? ⟨b2, o2 + j * 13 + 4, none⟩ = some u17) (h18 : w1.cell? ⟨b2, o2 + j * 13 + 5, none⟩ = some u18) (h19 : w1.cell? ⟨b2, o2 + j * 13 + 6, none⟩ = some u19) (h20 : w1.cell? ⟨b2, o2 + j * 13 + 7, none⟩ = some u20) (h21 : w1.cell? ⟨b2, o2 + j * 13 + 8, none⟩ = some u21) (h22 : w1.cell? ⟨b2, o2 + j * 13 + 9, none⟩ = some u22) (h23 : w1.cell? ⟨b2, o2 + j * 13 + 10, none⟩ = some u23) (h24 : w1.cell? ⟨b2, o2 + j * 13 + 11, none⟩ = some u24) (h25 : w1.cell? ⟨b2, o2 + j * 13 + 12, none⟩ = some u25) : w1.drew.cell? ⟨b1, o1 + j * 13, none⟩ = some u0 ∧ w1.drew.cell? ⟨b1, o1 + j * 13 + 1, none⟩ = some u1 ∧ w1.drew.cell? ⟨b1, o1 + j * 13 + 2, none⟩ = some u2 ∧ w1.drew.cell? ⟨b1, o1 + j * 13 + 3, none⟩ = some u3 ∧ w1.drew.cell? ⟨b1, o1 + j * 13 + 4, none⟩ = some u4 ∧ w1.drew.cell? ⟨b1, o1 + j * 13 + 5, none⟩ = some u5 ∧ w1.drew.cell? ⟨b1, o1 + j * 13 + 6, none⟩ = some u6 ∧ w1.drew.cell? ⟨b1, o1 + j * 13 + 7, none⟩ = some u7 ∧ w1.drew.cell? ⟨b1, o1 + j * 13 + 8, none⟩ = some u8 ∧ w1.drew.cell? ⟨b1, o1 + j * 13 + 9, none⟩ = some u9 ∧ w1.drew.cell? ⟨b1, o1 + j * 13 + 10, none⟩ = some u10 ∧ w1.drew.cell? ⟨b1, o1 + j * 13 + 11, none⟩ = some u11 ∧ w1.drew.cell? ⟨b1, o1 + j * 13 + 12, none⟩ = some u12 ∧ w1.drew.cell? ⟨b2, o2 + j * 13, none⟩ = some u13 ∧ w1.drew.cell? ⟨b2, o2 + j * 13 + 1, none⟩ = some u14 ∧ w1.drew.cell? ⟨b2, o2 + j * 13 + 2, none⟩ = some u15 ∧ w1.drew.cell? ⟨b2, o2 + j * 13 + 3, none⟩ = some u16 ∧ w1.drew.cell? ⟨b2, o2 + j * 13 + 4, none⟩ = some u17 ∧ w1.drew.cell? ⟨b2, o2 + j * 13 + 5, none⟩ = some u18 ∧ w1.drew.cell? ⟨b2, o2 + j * 13 + 6, none⟩ = some u19 ∧ w1.drew.cell? ⟨b2, o2 + j * 13 + 7, none⟩ = some u20 ∧ w1.drew.cell? ⟨b2, o2 + j * 13 + 8, none⟩ = some u21 ∧ w1.drew.cell? ⟨b2, o2 + j * 13 + 9, none⟩ = some u22 ∧ w1.drew.cell? ⟨b2, o2 + j * 13 + 10, none⟩ = some u23 ∧ w1.drew.cell? ⟨b2, o2 + j * 13 + 11, none⟩ = some u24 ∧ w1.drew.cell? ⟨b2, o2 + j * 13 + 12, none⟩ = some u25 ∧ Below w1.heap.size w1 w1.drew :=
  ⟨h0, h1, h2, h3, h4, h5, h6, h7, h8, h9, h10, h11, h12, h13, h14, h15, h16, h17, h18, h19, h20, h21, h22, h23, h24, h25, ⟨rfl, rfl, rfl, Nat.le_refl _, fun _ _ => rfl⟩⟩
theorem keepLB {w1 wA : World} {b1 o1 b2 o2 j : Nat} {u0 u1 u2 u3 u4 u5 u6 u7 u8 u9 u10 u11 u12 u13 u14 u15 u16 u17 u18 u19 u20 u21 u22 u23 u24 u25 : Value} (h : wA.cell? ⟨b1, o1 + j * 13, none⟩ = some u0 ∧ wA.cell? ⟨b1, o1 + j * 13 + 1, none⟩ = some u1 ∧ wA.cell? ⟨b1, o1 + j * 13 + 2, none⟩ = some u2 ∧ wA.cell? ⟨b1, o1 + j * 13 + 3, none⟩ = some u3 ∧ wA.cell? ⟨b1, o1 + j * 13 + 4, none⟩ = some u4 ∧ wA.cell? ⟨b1, o1 + j * 13 + 5, none⟩ = some u5 ∧ wA.cell? ⟨b1, o1 + j * 13 + 6, none⟩ = some u6 ∧ wA.cell? ⟨b1, o1 + j * 13 + 7, none⟩ = some u7 ∧ wA.cell? ⟨b1, o1 + j * 13 + 8, none⟩ = some u8 ∧ wA.cell? ⟨b1, o1 + j * 13 + 9, none⟩ = some u9 ∧ wA.cell? ⟨b1, o1 + j * 13 + 10, none⟩ = some u10 ∧ wA.cell? ⟨b1, o1 + j * 13 + 11, none⟩ = some u11 ∧ wA.cell? ⟨b1, o1 + j * 13 + 12, none⟩ = some u12 ∧ wA.cell? ⟨b2, o2 + j * 13, none⟩ = some u13 ∧ wA.cell? ⟨b2, o2 + j * 13 + 1, none⟩ = some u14 ∧ wA.cell? ⟨b2, o2 + j * 13 + 2, none⟩ = some u15 ∧ wA.cell? ⟨b2, o2 + j * 13 + 3, none⟩ = some u16 ∧ wA.cell? ⟨b2, o2 + j * 13 + 4, none⟩ = some u17 ∧ wA.cell? ⟨b2, o2 + j * 13 + 5, none⟩ = some u18 ∧ wA.cell? ⟨b2, o2 + j * 13 + 6, none⟩ = some u19 ∧ wA.cell? ⟨b2, o2 + j * 13 + 7, none⟩ = some u20 ∧ wA.cell? ⟨b2, o2 + j * 13 + 8, none⟩ = some u21 ∧ wA.cell? ⟨b2, o2 + j * 13 + 9, none⟩ = some u22 ∧ wA.cell? ⟨b2, o2 + j * 13 + 10, none⟩ = some u23 ∧ wA.cell? ⟨b2, o2 + j * 13 + 11, none⟩ = some u24 ∧ wA.cell? ⟨b2, o2 + j * 13 + 12, none⟩ = some u25 ∧ Below w1.heap.size w1 wA) : Below w1.heap.size w1 wA := h.2.2.2.2.2.2.2.2.2.2.2.2.2.2.2.2.2.2.2.2.2.2.2.2.2.2

set_option maxRecDepth 100000 in
set_option maxHeartbeats 4000000 in
theorem like_eq (p q : Option Addr) (n c m d : Nat) (es fs : List EntV) (w : World) (hx : HasE w ⟨p, n, c⟩ es) (hy : HasE w ⟨q, m, d⟩ fs) (he : es.map EntV.e = fs.map EntV.e) (hlen : (n : Int) ≤ 9223372036854775807) :
    Calls Try.prog 33 #[.slice p n c, .slice q m d] w fun e w' => e = .returned (.bool true) ∧ Below w.heap.size w w' := by
  have hn : n = m := by
    have h1 : es.length = n := hx.n
    have h2 : fs.length = m := hy.n
    have := congrArg List.length he
    rw [List.length_map, List.length_map] at this
    omega
  subst hn
  have HX : Hid (∀ W, Below w.heap.size w W → HasE W ⟨p, n, c⟩ es) := fun W h => hx.below h
  have HY : Hid (∀ W, Below w.heap.size w W → HasE W ⟨q, n, d⟩ fs) := fun W h => hy.below h
  have HS : Hid (∀ j, sameE10 (es.getD j noEV).e (fs.getD j noEV).e = true) := fun j => by rw [← mapE_getD, ← mapE_getD, he, sameE10_iff]
  clear hx hy he
  go_enter Try.func33, Try.ntmps33
  go_wp2
  go_loopw [13] (fun s13 wr => ∃ j : Nat, j ≤ n ∧ s13 = .int .i64 (j : Nat) ∧ Below w.heap.size w wr) (fun s13 _ => n - (intOf s13).toNat)
  case atStart => exact ⟨0, Nat.zero_le _, rfl, Below.refl _ _⟩
  case round =>
    obtain ⟨j, hj, rfl, hb⟩ := hrel
    by_cases hlt : j < n
    · obtain ⟨b1, o1, x, hp, hl1, Hx, -, fx, g0, g1, g2, g3, g4, g5, g6, g7, g8, g9, g10, g11, g12⟩ := (HX.out wr hb).at (j := j) hlt
      obtain ⟨b2, o2, y, hq, hl2, Hy, -, fy, k0, k1, k2, k3, k4, k5, k6, k7, k8, k9, k10, k11, k12⟩ := (HY.out wr hb).at (j := j) hlt
      dsimp only at hp hq
      subst hp
      subst hq
      have HE : Hid (sameE10 x.e y.e = true) := by rw [Hid, Hx, Hy]; exact HS.out j
      have KS : Hid (∀ W, Below wr.heap.size wr W → Calls Try.prog 17 #[.agg x.arr, .agg y.arr] W fun e w' => e = .returned (.bool true) ∧ Below W.heap.size W w') := fun W h => by
        have := rsameE_any x y W (fx.f.below h) (fy.f.below h)
        rwa [HE.out] at this
      clear fx fy Hx Hy HE
      obtain ⟨xi, xt, xk, ⟨ck, cs, cq, ckey, cold, cval, cunt, clim⟩, ⟨⟨p1, n1, c1⟩, ⟨q1, m1, d1⟩, f1⟩⟩ := x
      obtain ⟨yi, yt, yk, ⟨dk, ds, dq, dkey, dold, dval, dunt, dlim⟩, ⟨⟨p2, n2, c2⟩, ⟨q2, m2, d2⟩, f2⟩⟩ := y
      unfold EntV.arr at *
      dsimp only at *
      go_wp2_with fail
      have s0 := keepL0 g0 g1 g2 g3 g4 g5 g6 g7 g8 g9 g10 g11 g12 k0 k1 k2 k3 k4 k5 k6 k7 k8 k9 k10 k11 k12
      go_region_held3 (fun w' => w'.cell? ⟨b1, o1 + j * 13, none⟩ = some (.int .i64 xi) ∧ w'.cell? ⟨b1, o1 + j * 13 + 1, none⟩ = some (.int .i64 xt) ∧ w'.cell? ⟨b1, o1 + j * 13 + 2, none⟩ = some (.int .i64 xk) ∧ w'.cell? ⟨b1, o1 + j * 13 + 3, none⟩ = some (.int .i64 ck) ∧ w'.cell? ⟨b1, o1 + j * 13 + 4, none⟩ = some (.int .i64 cs) ∧ w'.cell? ⟨b1, o1 + j * 13 + 5, none⟩ = some (.int .i64 cq) ∧ w'.cell? ⟨b1, o1 + j * 13 + 6, none⟩ = some (.string ckey) ∧ w'.cell? ⟨b1, o1 + j * 13 + 7, none⟩ = some (.string cold) ∧ w'.cell? ⟨b1, o1 + j * 13 + 8, none⟩ = some (.string cval) ∧ w'.cell? ⟨b1, o1 + j * 13 + 9, none⟩ = some (.string cunt) ∧ w'.cell? ⟨b1, o1 + j * 13 + 10, none⟩ = some (.int .i64 clim) ∧ w'.cell? ⟨b1, o1 + j * 13 + 11, none⟩ = some (.slice p1 n1 c1) ∧ w'.cell? ⟨b1, o1 + j * 13 + 12, none⟩ = some (.slice q1 m1 d1) ∧ w'.cell? ⟨b2, o2 + j * 13, none⟩ = some (.int .i64 yi) ∧ w'.cell? ⟨b2, o2 + j * 13 + 1, none⟩ = some (.int .i64 yt) ∧ w'.cell? ⟨b2, o2 + j * 13 + 2, none⟩ = some (.int .i64 yk) ∧ w'.cell? ⟨b2, o2 + j * 13 + 3, none⟩ = some (.int .i64 dk) ∧ w'.cell? ⟨b2, o2 + j * 13 + 4, none⟩ = some (.int .i64 ds) ∧ w'.cell? ⟨b2, o2 + j * 13 + 5, none⟩ = some (.int .i64 dq) ∧ w'.cell? ⟨b2, o2 + j * 13 + 6, none⟩ = some (.string dkey) ∧ w'.cell? ⟨b2, o2 + j * 13 + 7, none⟩ = some (.string dold) ∧ w'.cell? ⟨b2, o2 + j * 13 + 8, none⟩ = some (.string dval) ∧ w'.cell? ⟨b2, o2 + j * 13 + 9, none⟩ = some (.string dunt) ∧ w'.cell? ⟨b2, o2 + j * 13 + 10, none⟩ = some (.int .i64 dlim) ∧ w'.cell? ⟨b2, o2 + j * 13 + 11, none⟩ = some (.slice p2 n2 c2) ∧ w'.cell? ⟨b2, o2 + j * 13 + 12, none⟩ = some (.slice q2 m2 d2) ∧ Below wr.heap.size wr w')
        (first | exact s0 | assumption | exact keepL hl1 hl2 (by assumption) (by assumption))
        (first
          | (go_at_call 17; refine Calls.mono (KS.out _ (keepLB (by assumption))) ?_; rintro e w2 ⟨rfl, hb2⟩))
      all_goals
        have hW : Below wr.heap.size wr w2 := keepLB (by assumption)
        have hB2 := hb.trans (hW.mono hb.size)
        go_wp2
        go_roundw
        case rel => exact ⟨j + 1, by omega, by go_num, hB2⟩
        case measure => simp only [intOf]; omega
    · go_wp2
      go_ret
      exact ⟨rfl, hb⟩

end Go.Proofs.Ytephoegcpjdglaa

import Derived.Test.YtkfejicgabdflaaEo2
import Derived.Test.YtkfejicgabdflaaLxTo
import Derived.Test.YtkfejicgabdflaaLd
import Derived.Deep.RegionLaw
namespace Go.Proofs.Ytkfejicgabdflaa
open Go.RowKit Go.Shelf
attribute [local go_sem ↓] ldE_exec stE_exec ldC_exec ldC_run stC_exec stC_run oc_int oc_bool oc_string oc_slice oc_pointer
structure OwnsE (w : World) (B : Nat) (x : EntV) : Prop where
  i : inI x.i
  t : inI x.t
  k : inI x.k
  c : Fits9 x.c
  f : OwnsF w B x.f
theorem OwnsE.fits {w : World} {B : Nat} {x : EntV} (h : OwnsE w B x) : FitsE w x := ⟨h.i, h.t, h.k, h.c, h.f.fits⟩
theorem OwnsE.mono {w : World} {B B' : Nat} {x : EntV} (h : OwnsE w B x) (hB : B' ≤ B) : OwnsE w B' x := ⟨h.i, h.t, h.k, h.c, h.f.mono hB⟩
theorem OwnsE.kept {w w' : World} {B r : Nat} {x : EntV} (h : OwnsE w B x) (hg : w.grownBy w' (some r)) (hr : r < B) : OwnsE w' B x := ⟨h.i, h.t, h.k, h.c, h.f.kept hg hr⟩
theorem OwnsE.below {w w' : World} {B : Nat} {x : EntV} (h : OwnsE w B x) (hb : Below w.heap.size w w') : OwnsE w' B x := ⟨h.i, h.t, h.k, h.c, h.f.below hb⟩
def entsV (l : List EntV) : List Value := (l.map fun x => x.arr.toList).flatten
theorem entsV_cons (x : EntV) (l : List EntV) : entsV (x :: l) = x.arr.toList ++ entsV l := by simp [entsV]
theorem entsV_append (l m : List EntV) : entsV (l ++ m) = entsV l ++ entsV m := by simp [entsV]
theorem entsV_one (x : EntV) : entsV [x] = x.arr.toList := by simp [entsV]
theorem arr_len (x : EntV) : x.arr.toList.length = 13 := rfl
theorem entsV_len : ∀ l : List EntV, (entsV l).length = l.length * 13
  | [] => rfl
  | x :: l => by rw [entsV_cons, List.length_append, entsV_len l, arr_len, List.length_cons]; omega
theorem entsV_at : ∀ {l : List EntV} {i k : Nat}, i < l.length → k < 13 → (entsV l)[i * 13 + k]? = (l.getD i noEV).arr[k]?
  | [], _, _, h, _ => by cases h
  | x :: l, 0, k, _, hk => by
    rw [entsV_cons, List.getElem?_append_left (by rw [arr_len]; omega), List.getD_cons_zero, Nat.zero_mul, Nat.zero_add, Array.getElem?_toList]
  | x :: l, i + 1, k, h, hk => by
    rw [entsV_cons, List.getElem?_append_right (by rw [arr_len]; omega), List.getD_cons_succ, arr_len, show (i + 1) * 13 + k - 13 = i * 13 + k by omega]
    exact entsV_at (by simpa using h) hk
theorem entsV_cell (l : List EntV) : ∀ u ∈ entsV l, u.oneCell' = true := by
  intro u hu
  unfold entsV at hu
  rw [List.mem_flatten] at hu
  obtain ⟨a, ha, hu⟩ := hu
  obtain ⟨x, _, rfl⟩ := List.mem_map.1 ha
  simp only [EntV.arr, List.mem_cons, List.not_mem_nil, or_false] at hu
  rcases hu with rfl | rfl | rfl | rfl | rfl | rfl | rfl | rfl | rfl | rfl | rfl | rfl | rfl <;> rfl

structure OwnsEs (w : World) (B : Nat) (s : Sl10) (es : List EntV) : Prop where
  row : w.ownsRow B 51 13 (.slice s.p s.n s.c) es.length (entsV es)
  all : ∀ e ∈ es, OwnsE w B e
theorem OwnsEs.fits {w : World} {B : Nat} {s : Sl10} {es : List EntV} (h : OwnsEs w B s es) : HasE w s es := by
  obtain ⟨p, n, c⟩ := s
  rcases h.row.2 with ⟨hv, hn⟩ | ⟨g, cap, cur, hv, hB, hg, hnc, _, _, _⟩
  · simp only [Value.slice.injEq] at hv
    obtain ⟨rfl, rfl, rfl⟩ := hv
    exact ⟨hn, Nat.le_refl _, fun _ => rfl, fun h0 => absurd h0 (Nat.lt_irrefl 0), fun e he => (h.all e he).fits⟩
  · simp only [Value.slice.injEq] at hv
    obtain ⟨rfl, rfl, rfl⟩ := hv
    refine ⟨rfl, hnc, (fun h0 => by cases h0), fun _ => ⟨g, 0, rfl, (Array.getElem?_eq_some_iff.1 hg).1, fun i hi j hj => ?_⟩, fun e he => (h.all e he).fits⟩
    have hi' : i < es.length := hi
    have hk := entsV_at hi' hj
    have hjj : j < ((es.getD i noEV).arr).size := hj
    rw [Array.getElem?_eq_getElem hjj] at hk ⊢
    have hc := World.ownsRow.cells h.row (g := g) rfl (i * 13 + j) _ hk
    rw [Addr.add_lit] at hc
    rw [Nat.zero_add] at hc ⊢
    exact hc
theorem OwnsEs.kept {w w' : World} {B r : Nat} {s : Sl10} {es : List EntV} (h : OwnsEs w B s es) (hg : w.grownBy w' (some r)) (hr : r < B) : OwnsEs w' B s es := by
  refine ⟨World.ownsRow.kept h.row hg ?_, fun e he => (h.all e he).kept hg hr⟩
  cases hv : Value.ownBlock (.slice s.p s.n s.c) with
  | none => exact .inl rfl
  | some k =>
    have := (World.ownsRow.lt h.row k hv).1
    exact .inr (fun e => by cases e; omega)
theorem OwnsEs.cell {w : World} {B b : Nat} {s : Sl10} {es : List EntV} (h : OwnsEs w B s es) (hb : b < B) (i : Nat) (v : Value) : OwnsEs (w.setCell ⟨b, i, none⟩ v) B s es := h.kept (grown_set w b i v) hb
theorem row_below {w w' : World} {B B' : Nat} {e : TypeId} {s n : Nat} {v : Value} {xs : List Value} (h : w.ownsRow B e s v n xs) (hb : Below B' w w') (hB : w.heap.size ≤ B') : w'.ownsRow B e s v n xs := by
  refine ⟨h.1, ?_⟩
  rcases h.2 with hn | ⟨g, cap, cur, rfl, hb1, hg, rest⟩
  · exact .inl hn
  · refine .inr ⟨g, cap, cur, rfl, hb1, ?_, rest⟩
    rw [hb.block g (Nat.lt_of_lt_of_le (Array.getElem?_eq_some_iff.1 hg).1 hB)]
    exact hg
theorem OwnsEs.below {w w' : World} {B : Nat} {s : Sl10} {es : List EntV} (h : OwnsEs w B s es) (hb : Below w.heap.size w w') : OwnsEs w' B s es := ⟨row_below h.row hb (Nat.le_refl _), fun e he => (h.all e he).below hb⟩
theorem OwnsEs.mono {w : World} {B B' : Nat} {s : Sl10} {es : List EntV} (h : OwnsEs w B s es) (hB : B' ≤ B) : OwnsEs w B' s es := ⟨row_mono h.row hB, fun e he => (h.all e he).mono hB⟩
theorem OwnsEs.nil (w : World) (B : Nat) : OwnsEs w B nilS10 [] := ⟨World.ownsRow_nil w B _ 13, fun _ h => by cases h⟩
theorem infoE10 : (Try.prog.info? 51).map (fun i => (i.zero, i.size, i.bytes)) = some (some (.agg noEV.arr), 13, 168) := by kernel_rfl

end Go.Proofs.Ytkfejicgabdflaa

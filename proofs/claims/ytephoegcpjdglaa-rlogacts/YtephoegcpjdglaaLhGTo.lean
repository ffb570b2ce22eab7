import Derived.Test.YtephoegcpjdglaaEnQTo
import Derived.Test.YtephoegcpjdglaaWc5To
import Derived.Deep.RegionLaw
import Derived.Deep.Upon
namespace Go.Proofs.Ytephoegcpjdglaa
open Go.RowKit Go.Shelf
attribute [local go_sem ↓] ldE_exec stE_exec ldE_execI stE_execI ldE_run ldE_box ldC_exec stC_exec ldC_execI stC_execI ldC_run oc_int oc_bool oc_string oc_slice oc_pointer
theorem goodE_few {e : Ent10} (h : goodE10 e = true) : FewF e.f := by
  unfold goodE10 at h
  simp only [Bool.and_eq_true] at h
  have h2 := h.2
  have emp : emptyF10 e.f = true → FewF e.f := fun h => by
    unfold emptyF10 at h
    simp only [Bool.and_eq_true, List.isEmpty_iff] at h
    exact ⟨by rw [h.1]; exact Nat.zero_le _, by rw [h.2]; exact Nat.zero_le _⟩
  split at h2
  · exact emp (Bool.and_eq_true _ _ |>.mp h2).1
  split at h2
  · exact emp (Bool.and_eq_true _ _ |>.mp h2).1
  split at h2
  · obtain ⟨a, b, -⟩ := goodF10_parts (Bool.and_eq_true _ _ |>.mp h2).1
    have := rises10_len a
    have := rises10_len b
    exact ⟨by omega, by omega⟩
  · cases h2
theorem chain_few : ∀ {ix t : Int} {l : List Ent10}, chain13 ix t l = true → ∀ e ∈ l, goodE10 e = true
  | _, _, [], _, e, he => by cases he
  | ix, t, x :: l, h, e, he => by
    obtain ⟨h1, -, -, h4⟩ := chain_cons13 h
    rcases List.mem_cons.1 he with rfl | he
    · exact h1
    · exact chain_few h4 e he

def logArr (L : LG) (s : Sl10) (g : Int) : Array Value := #[.bool true, .int .i64 L.ix, .int .i64 L.t0, .slice s.p s.n s.c, .int .i64 L.done, .int .i64 L.used, .int .i64 L.safe, .int .i64 g]
structure LogG (w : World) (b : Nat) (G : Nat → Prop) (s : Sl10) (es : List EntV) (g : Int) (L : LG) : Prop where
  obj : w.heap[b]? = some (.cells (logArr L s g) 62 (0, 0))
  row : RowG w G s es
  map : es.map EntV.e = L.l
  inv : L.Inv
  top : L.end ≤ 1125899906842624
  sz : s.n ≤ 837723144948
  g0 : 0 ≤ g
  g1 : g ≤ 1125899906842624
section
variable {w w' : World} {b : Nat} {G : Nat → Prop} {s : Sl10} {es : List EntV} {g : Int} {L : LG}
theorem LogG.below (h : LogG w b G s es g L) (hb : Below w.heap.size w w') : LogG w' b G s es g L := ⟨box_below h.obj hb, h.row.stay (.of_below hb) (.of_below hb), h.map, h.inv, h.top, h.sz, h.g0, h.g1⟩
theorem LogG.lt (h : LogG w b G s es g L) : b < w.heap.size := box_lt h.obj
theorem LogG.len (h : LogG w b G s es g L) : es.length = L.l.length := by rw [← h.map, List.length_map]
theorem LogG.n (h : LogG w b G s es g L) : L.l.length = s.n := by rw [← h.len]; exact h.row.n
theorem LogG.few (h : LogG w b G s es g L) : ∀ e ∈ es, FewF e.f.f := fun e he => goodE_few (chain_few h.inv.row e.e (by rw [← h.map]; exact List.mem_map_of_mem he))
theorem LogG.cells (h : LogG w b G s es g L) : w.cell? ⟨b, 0, none⟩ = some (.bool true) ∧ w.cell? ⟨b, 1, none⟩ = some (.int .i64 L.ix) ∧ w.cell? ⟨b, 2, none⟩ = some (.int .i64 L.t0) ∧ w.cell? ⟨b, 3, none⟩ = some (.slice s.p s.n s.c) ∧ w.cell? ⟨b, 4, none⟩ = some (.int .i64 L.done) ∧ w.cell? ⟨b, 5, none⟩ = some (.int .i64 L.used) ∧ w.cell? ⟨b, 6, none⟩ = some (.int .i64 L.safe) ∧ w.cell? ⟨b, 7, none⟩ = some (.int .i64 g) :=
  ⟨box_cell h.obj 0, box_cell h.obj 1, box_cell h.obj 2, box_cell h.obj 3, box_cell h.obj 4, box_cell h.obj 5, box_cell h.obj 6, box_cell h.obj 7⟩
structure Nums13 (L : LG) (n : Nat) : Prop where
  x0 : 0 ≤ L.ix
  x1 : L.ix ≤ 1125899906842624
  end' : L.end = L.ix + n
  e1 : L.end ≤ 1125899906842624
  n1 : n ≤ 837723144948
  d0 : L.ix ≤ L.done
  d1 : L.done ≤ L.end
  u0 : L.ix ≤ L.used
  u1 : L.used ≤ L.done
  s0 : L.ix ≤ L.safe
  s1 : L.safe ≤ L.end
theorem LogG.nums (h : LogG w b G s es g L) : Nums13 L s.n := by
  have h1 := h.inv.x0
  have h2 := h.top
  have h3 := h.n
  have h4 : L.end = L.ix + L.l.length := rfl
  have h5 := h.inv.used
  have h6 := h.inv.done
  have h7 := h.inv.most
  have h8 := h.inv.sx
  have h9 := h.inv.safe
  exact ⟨h1, by omega, by omega, h2, h.sz, by omega, h7, h5, h6, h8, h9⟩
end
theorem RowG.at {w : World} {G : Nat → Prop} {s : Sl10} {es : List EntV} (h : RowG w G s es) {i : Nat} (hi : i < s.n) : ∃ b o, s.p = some ⟨b, o, none⟩ ∧ b < w.heap.size ∧ (∀ j, j < 13 → w.cell? ⟨b, o + i * 13 + j, none⟩ = (es.getD i noEV).arr[j]?) := by
  obtain ⟨b, o, hp, hlt, hc⟩ := h.has.at' (by omega)
  exact ⟨b, o, hp, hlt, hc i hi⟩
theorem entGet13 {es : List EntV} {l : List Ent10} (hm : es.map EntV.e = l) {j : Nat} (hj : j < l.length) : (es.getD j noEV).e = l[j] := by
  subst hm
  have hj' : j < es.length := by rwa [List.length_map] at hj
  rw [List.getD_eq_getElem?_getD, List.getElem?_eq_getElem hj', Option.getD_some, List.getElem_map]

set_option maxRecDepth 100000 in
set_option maxHeartbeats 1000000 in
theorem none13_any {w : World} {b : Nat} {G : Nat → Prop} {s : Sl10} {es : List EntV} {g : Int} {L : LG} (h : LogG w b G s es g L) :
    Calls Try.prog 51 #[.pointer (some ⟨b, 0, none⟩)] w fun e w' => e = .returned (.bool false) ∧ w' = w := by
  obtain ⟨c0, -⟩ := h.cells
  have hlt := h.lt
  clear h
  go_enter Try.func51, Try.ntmps51
  go_wp2
  go_ret
  exact ⟨rfl, rfl⟩

set_option maxRecDepth 100000 in
set_option maxHeartbeats 1000000 in
theorem last13q {w : World} {b : Nat} {G : Nat → Prop} {s : Sl10} {es : List EntV} {g : Int} {L : LG} (h : LogG w b G s es g L) :
    Calls Try.prog 52 #[.pointer (some ⟨b, 0, none⟩)] w fun e w' => e = .returned (.int .i64 L.end) ∧ ∃ m, w' = w.drewN m := by
  obtain ⟨-, c1, -, c3, -⟩ := h.cells
  have hlt := h.lt
  obtain ⟨x0, x1, he, e1, n1, -⟩ := h.nums
  have HE : Hid (L.ix + s.n = L.end) := he.symm
  have hw : IntKind.i64.wrap (L.ix + (s.n : Int)) = L.ix + (s.n : Int) := by rw [IntKind.wrap_i64]; omega
  clear h he e1
  go_enter Try.func52, Try.ntmps52
  go_wp2
  go_quiet (fail)
  go_wp2
  go_ret
  exact ⟨by rw [← HE.out]; rfl, _, rfl⟩
theorem below_q13 {w w' : World} (h : ∃ m, w' = w.drewN m) : Below w.heap.size w w' := by
  obtain ⟨m, rfl⟩ := h
  exact below_drewN (Below.refl _ _) _
theorem last13_any {w : World} {b : Nat} {G : Nat → Prop} {s : Sl10} {es : List EntV} {g : Int} {L : LG} (h : LogG w b G s es g L) :
    Calls Try.prog 52 #[.pointer (some ⟨b, 0, none⟩)] w fun e w' => e = .returned (.int .i64 L.end) ∧ Below w.heap.size w w' := (last13q h).mono fun _ _ ⟨a, b⟩ => ⟨a, below_q13 b⟩
theorem LogG.drewN {w : World} {b : Nat} {G : Nat → Prop} {s : Sl10} {es : List EntV} {g : Int} {L : LG} (h : LogG w b G s es g L) (m : Nat) : LogG (w.drewN m) b G s es g L := h.below (below_drewN (Below.refl _ _) _)
section
variable {w : World} {b : Nat} {G : Nat → Prop} {s : Sl10} {es : List EntV} {g : Int} {L : LG}
set_option maxRecDepth 100000 in
set_option maxHeartbeats 1000000 in
theorem termAt13_any (h : LogG w b G s es g L) (i : Int) (h1 : L.ix ≤ i) (h2 : i ≤ L.end) :
    Calls Try.prog 61 #[.pointer (some ⟨b, 0, none⟩), .int .i64 i] w fun e w' => e = .returned (.int .i64 (L.term i).1) ∧ Below w.heap.size w w' := by
  obtain ⟨-, c1, c2, c3, -⟩ := h.cells
  have hlt := h.lt
  obtain ⟨x0, x1, he, e1, n1, -⟩ := h.nums
  by_cases hi : i = L.ix
  · subst hi
    have HF : Hid ((L.term L.ix).1 = L.t0) := by rw [Hid, LG.term_base]
    generalize (L.term L.ix).1 = tt at *
    clear h
    go_enter Try.func61, Try.ntmps61
    go_wp2
    go_ret
    exact ⟨by rw [HF.out]; rfl, Below.refl _ _⟩
  · obtain ⟨j, rfl⟩ : ∃ j : Nat, i = L.ix + j + 1 := ⟨(i - L.ix - 1).toNat, by omega⟩
    have hj : j < L.l.length := by have := h.n; omega
    have hjn : j < s.n := by have := h.n; omega
    have HF : Hid ((L.term (L.ix + j + 1)).1 = (es.getD j noEV).t) := by
      rw [Hid, LG.term_at hj, ← entGet13 h.map hj]
      rfl
    obtain ⟨g', o, hp, hg, hc⟩ := h.row.at hjn
    have hcell : w.cell? ⟨g', o + j * 13 + 1, none⟩ = some (.int .i64 (es.getD j noEV).t) := hc 1 (by decide)
    have e1' : (L.ix + (j : Int) + 1 == L.ix) = false := by rw [beq_eq_false_iff_ne]; omega
    have w1 : IntKind.i64.wrap (L.ix + (j : Int) + 1 - L.ix) = (j : Int) + 1 := by rw [IntKind.wrap_i64]; omega
    have w2 : IntKind.i64.wrap ((j : Int) + 1 - 1) = (j : Int) := by rw [IntKind.wrap_i64]; omega
    have hcc := h.row.c
    generalize (L.term (L.ix + j + 1)).1 = tt at *
    generalize (es.getD j noEV).t = u at *
    rw [hp] at c3
    clear h hc hp hi h1 h2 hj
    generalize hI : L.ix + (j : Int) + 1 = I at *
    have HI : Hid _ := hI
    clear hI
    go_enter Try.func61, Try.ntmps61
    go_wp2
    go_quiet (fail)
    go_wp2
    go_ret
    exact ⟨by rw [HF.out]; rfl, below_drewN (Below.refl _ _) _⟩

set_option maxRecDepth 100000 in
set_option maxHeartbeats 1000000 in
theorem base13_any (h : LogG w b G s es g L) :
    Calls Try.prog 12 #[.pointer (some ⟨b, 0, none⟩)] w fun e w' => e = .returned (.tuple #[.int .i64 L.ix, .int .i64 L.t0]) ∧ Below w.heap.size w w' := by
  obtain ⟨-, c1, c2, -⟩ := h.cells
  have hlt := h.lt
  have kn := none13_any h
  clear h
  go_enter Try.func12, Try.ntmps12
  go_wp2_with fail
  refine same_mono kn ?_
  go_wp2
  go_quiet (fail)
  go_wp2
  go_ret2
  exact ⟨rfl, below_drewN (Below.refl _ _) _⟩

set_option maxRecDepth 100000 in
set_option maxHeartbeats 1000000 in
theorem lastT13_any (h : LogG w b G s es g L) :
    Calls Try.prog 21 #[.pointer (some ⟨b, 0, none⟩)] w fun e w' => e = .returned (.tuple #[.int .i64 L.end, .int .i64 L.endT]) ∧ Below w.heap.size w w' := by
  have kn := none13_any h
  have k1 := last13_any h
  have he : L.ix ≤ L.end := by have := h.nums.d0; have := h.nums.d1; omega
  have HF : Hid ((L.term L.end).1 = L.endT) := by
    have h3 := h.nums
    rcases Int.lt_or_eq_of_le he with hl | hl
    · have hn := h.n
      have hen := h3.end'
      have e1 : L.end = L.ix + ((L.l.length - 1 : Nat) : Int) + 1 := by omega
      rw [Hid, e1, LG.term_at (by omega)]
      exact (lastT_last13 (by omega)).symm
    · have hl0 : L.l = [] := List.eq_nil_of_length_eq_zero (by have : L.end = L.ix + L.l.length := rfl; omega)
      rw [Hid, ← hl, LG.term_base]
      show L.t0 = lastT13 L.t0 L.l
      rw [hl0]; rfl
  go_enter Try.func21, Try.ntmps21
  go_wp2_with fail
  refine same_mono kn ?_
  go_wp2_with fail
  refine k1.mono ?_
  rintro _ w1 ⟨rfl, hb1⟩
  have h1 := h.below hb1
  have k2 := last13_any h1
  clear kn k1
  go_wp2_with fail
  refine k2.mono ?_
  rintro _ w2 ⟨rfl, hb2⟩
  have h2 := h1.below hb2
  have k3 := termAt13_any h2 L.end he (Int.le_refl _)
  have hB2 := hb1.trans (hb2.mono hb1.size)
  clear k2 h1 hb1 hb2
  generalize (L.term L.end).1 = tt at *
  go_wp2_with fail
  refine k3.mono ?_
  rintro _ w3 ⟨rfl, hb3⟩
  have hB3 := hB2.trans (hb3.mono hB2.size)
  clear k3
  go_wp2
  go_ret2
  exact ⟨by rw [HF.out]; rfl, hB3⟩

set_option maxRecDepth 100000 in
set_option maxHeartbeats 1000000 in
theorem term13_any (h : LogG w b G s es g L) (i : Int) :
    Calls Try.prog 40 #[.pointer (some ⟨b, 0, none⟩), .int .i64 i] w fun e w' => e = .returned (.tuple #[.int .i64 (L.term i).1, .int .i64 (L.term i).2]) ∧ Below w.heap.size w w' := by
  have kn := none13_any h
  obtain ⟨-, c1, -⟩ := h.cells
  have hlt := h.lt
  by_cases h1 : i < L.ix
  · have HF : Hid (L.term i = (0, 11)) := if_pos h1
    rw [HF.out]
    clear h
    go_enter Try.func40, Try.ntmps40
    go_wp2_with fail
    refine same_mono kn ?_
    go_wp2
    go_ret2
    exact ⟨rfl, Below.refl _ _⟩
  have k1 := last13_any h
  by_cases h2 : L.end < i
  · have HF : Hid (L.term i = (0, 6)) := (if_neg h1).trans (if_pos h2)
    rw [HF.out]
    clear h
    go_enter Try.func40, Try.ntmps40
    go_wp2_with fail
    refine same_mono kn ?_
    go_wp2_with fail
    refine k1.mono ?_
    rintro _ w1 ⟨rfl, hb1⟩
    clear k1 kn
    go_wp2
    go_ret2
    exact ⟨rfl, hb1⟩
  have HF : Hid ((L.term i).2 = 0) := by
    rw [Hid]
    unfold LG.term
    rw [if_neg h1, if_neg h2]
    split <;> rfl
  rw [HF.out]
  go_enter Try.func40, Try.ntmps40
  go_wp2_with fail
  refine same_mono kn ?_
  go_wp2_with fail
  refine k1.mono ?_
  rintro _ w1 ⟨rfl, hb1⟩
  have k3 := termAt13_any (h.below hb1) i (by omega) (by omega)
  clear k1 kn h
  go_wp2_with fail
  refine k3.mono ?_
  rintro _ w3 ⟨rfl, hb3⟩
  have hB3 := hb1.trans (hb3.mono hb1.size)
  clear k3
  go_wp2
  go_ret2
  exact ⟨rfl, hB3⟩

set_option maxRecDepth 100000 in
set_option maxHeartbeats 1000000 in
theorem newer13_any (h : LogG w b G s es g L) (i t : Int) :
    Calls Try.prog 43 #[.pointer (some ⟨b, 0, none⟩), .int .i64 i, .int .i64 t] w fun e w' => e = .returned (.bool (L.newer i t)) ∧ Below w.heap.size w w' := by
  have kn := none13_any h
  have k1 := lastT13_any h
  have HF : Hid (L.newer i t = (decide (L.endT < t) || (decide (t = L.endT) && decide (L.end ≤ i)))) := rfl
  clear h
  generalize L.newer i t = r at *
  generalize L.endT = et at *
  generalize L.end = ee at *
  go_enter Try.func43, Try.ntmps43
  go_wp2_with fail
  refine same_mono kn ?_
  go_wp2_with fail
  refine k1.mono ?_
  rintro _ w1 ⟨rfl, hb1⟩
  clear k1 kn
  by_cases h1 : et < t
  · go_wp2
    go_ret
    exact ⟨by rw [HF.out]; simp [h1], hb1⟩
  · by_cases h2 : t = et
    · subst h2
      go_wp2
      go_ret
      exact ⟨by rw [HF.out]; simp, hb1⟩
    · have h2' : (t == et) = false := by simpa using h2
      go_wp2
      go_ret
      exact ⟨by rw [HF.out]; simp [h2], hb1⟩

set_option maxRecDepth 100000 in
set_option maxHeartbeats 1000000 in
theorem done13_any (h : LogG w b G s es g L) :
    Calls Try.prog 11 #[.pointer (some ⟨b, 0, none⟩)] w fun e w' => e = .returned (.int .i64 L.done) ∧ w' = w := by
  have kn := none13_any h
  have c := box_cell h.obj 4
  have hlt := h.lt
  dsimp only [logArr] at c
  replace c : w.cell? ⟨b, 4, none⟩ = some (.int .i64 L.done) := c
  clear h
  go_enter Try.func11, Try.ntmps11
  go_wp2_with fail
  refine same_mono kn ?_
  go_wp2
  go_ret
  exact ⟨rfl, rfl⟩

set_option maxRecDepth 100000 in
set_option maxHeartbeats 1000000 in
theorem safe13_any (h : LogG w b G s es g L) :
    Calls Try.prog 22 #[.pointer (some ⟨b, 0, none⟩)] w fun e w' => e = .returned (.int .i64 L.safe) ∧ w' = w := by
  have kn := none13_any h
  have c := box_cell h.obj 6
  have hlt := h.lt
  dsimp only [logArr] at c
  replace c : w.cell? ⟨b, 6, none⟩ = some (.int .i64 L.safe) := c
  clear h
  go_enter Try.func22, Try.ntmps22
  go_wp2_with fail
  refine same_mono kn ?_
  go_wp2
  go_ret
  exact ⟨rfl, rfl⟩

set_option maxRecDepth 100000 in
set_option maxHeartbeats 1000000 in
theorem used13_any (h : LogG w b G s es g L) :
    Calls Try.prog 16 #[.pointer (some ⟨b, 0, none⟩)] w fun e w' => e = .returned (.int .i64 L.used) ∧ w' = w := by
  have kn := none13_any h
  have c := box_cell h.obj 5
  have hlt := h.lt
  dsimp only [logArr] at c
  replace c : w.cell? ⟨b, 5, none⟩ = some (.int .i64 L.used) := c
  clear h
  go_enter Try.func16, Try.ntmps16
  go_wp2_with fail
  refine same_mono kn ?_
  go_wp2
  go_ret
  exact ⟨rfl, rfl⟩
end
set_option maxRecDepth 100000 in
set_option maxHeartbeats 1000000 in
theorem copyE13_any (w : World) (x : EntV) (hF : FitsE w x) (hf : FewF x.f.f) : Calls Try.prog 58 #[.agg x.arr] w fun e w' => ∃ y : EntV, e = .returned (.agg y.arr) ∧ y.e = x.e ∧ OwnsE w' w.heap.size y ∧ Below w.heap.size w w' := by
  have hB1 : Below w.heap.size w ((w.alloc (.cells x.arr 51)).alloc (.cells #[.int .i64 0, .int .i64 0, .int .i64 0, .int .i64 0, .int .i64 0, .int .i64 0, .string ⟨#[]⟩, .string ⟨#[]⟩, .string ⟨#[]⟩, .string ⟨#[]⟩, .int .i64 0, .slice none 0 0, .slice none 0 0] 51)) := ((Below.refl _ w).alloc (Nat.le_refl _) _).alloc (by simp) _
  have hz1 : ((w.alloc (.cells x.arr 51)).alloc (.cells #[.int .i64 0, .int .i64 0, .int .i64 0, .int .i64 0, .int .i64 0, .int .i64 0, .string ⟨#[]⟩, .string ⟨#[]⟩, .string ⟨#[]⟩, .string ⟨#[]⟩, .int .i64 0, .slice none 0 0, .slice none 0 0] 51)).heap.size = w.heap.size + 2 := by simp
  have hbx : ((w.alloc (.cells x.arr 51)).alloc (.cells #[.int .i64 0, .int .i64 0, .int .i64 0, .int .i64 0, .int .i64 0, .int .i64 0, .string ⟨#[]⟩, .string ⟨#[]⟩, .string ⟨#[]⟩, .string ⟨#[]⟩, .int .i64 0, .slice none 0 0, .slice none 0 0] 51)).heap[w.heap.size]? = some (.cells x.arr 51 (0, 0)) := box_below (heap_alloc_new w _) ((Below.refl _ _).alloc (Nat.le_refl _) _)
  have hby : ((w.alloc (.cells x.arr 51)).alloc (.cells #[.int .i64 0, .int .i64 0, .int .i64 0, .int .i64 0, .int .i64 0, .int .i64 0, .string ⟨#[]⟩, .string ⟨#[]⟩, .string ⟨#[]⟩, .string ⟨#[]⟩, .int .i64 0, .slice none 0 0, .slice none 0 0] 51)).heap[w.heap.size + 1]? = some (.cells #[.int .i64 0, .int .i64 0, .int .i64 0, .int .i64 0, .int .i64 0, .int .i64 0, .string ⟨#[]⟩, .string ⟨#[]⟩, .string ⟨#[]⟩, .string ⟨#[]⟩, .int .i64 0, .slice none 0 0, .slice none 0 0] 51 (0, 0)) := by
    have := heap_alloc_new (w.alloc (.cells x.arr 51)) (.cells #[.int .i64 0, .int .i64 0, .int .i64 0, .int .i64 0, .int .i64 0, .int .i64 0, .string ⟨#[]⟩, .string ⟨#[]⟩, .string ⟨#[]⟩, .string ⟨#[]⟩, .int .i64 0, .slice none 0 0, .slice none 0 0] 51)
    rwa [World.size_alloc] at this
  have y11 : ((w.alloc (.cells x.arr 51)).alloc (.cells #[.int .i64 0, .int .i64 0, .int .i64 0, .int .i64 0, .int .i64 0, .int .i64 0, .string ⟨#[]⟩, .string ⟨#[]⟩, .string ⟨#[]⟩, .string ⟨#[]⟩, .int .i64 0, .slice none 0 0, .slice none 0 0] 51)).cell? ⟨w.heap.size, 11, none⟩ = some (.slice x.f.u.p x.f.u.n x.f.u.c) := box_cell hbx 11
  have hu := hF.f.u.below hB1 (Nat.le_refl _)
  have k1 := clone11 _ hu (by have := hf.1; omega)
  have HI : Hid (inI x.i ∧ inI x.t ∧ inI x.k ∧ Fits9 x.c ∧ inL x.f.f.vs ∧ inL x.f.f.ls ∧ x.f.f.vs.length ≤ 1000 ∧ x.f.f.ls.length ≤ 1000) := ⟨hF.i, hF.t, hF.k, hF.c, hF.f.iu, hF.f.iv, hf.1, hf.2⟩
  have HV : Hid (HasI w (.slice x.f.v.p x.f.v.n x.f.v.c) x.f.f.ls) := hF.f.v
  have HB : Hid _ := hB1
  clear hu hF hf hB1
  go_enter Try.func58, Try.ntmps58
  go_wp2_with fail
  refine k1.mono ?_
  rintro _ w2 ⟨⟨p1, c1, rfl, ho1⟩, hb2⟩
  have hbx2 := box_below hbx hb2
  have hby2 := box_below hby hb2
  have HB2 : Hid (Below w.heap.size w w2) := HB.out.trans (hb2.mono HB.out.size)
  rw [hz1] at ho1
  have hlt2 : w.heap.size + 2 ≤ w2.heap.size := by have := hb2.size; omega
  have HO1 : Hid (OwnsI w2 (w.heap.size + 2) (.slice p1 x.f.f.vs.length c1) x.f.f.vs) := ho1
  clear k1 y11 hbx hby HB hb2 hz1 ho1
  generalize (w.alloc (.cells x.arr 51)).alloc (.cells #[.int .i64 0, .int .i64 0, .int .i64 0, .int .i64 0, .int .i64 0, .int .i64 0, .string ⟨#[]⟩, .string ⟨#[]⟩, .string ⟨#[]⟩, .string ⟨#[]⟩, .int .i64 0, .slice none 0 0, .slice none 0 0] 51) = W1 at *
  have y11 : w2.cell? ⟨w.heap.size, 11, none⟩ = some (.slice x.f.u.p x.f.u.n x.f.u.c) := box_cell hbx2 11
  have f11 := frozen9 hbx2 11
  have hbx3 : (w2.setCell ⟨w.heap.size, 11, none⟩ (.slice p1 x.f.f.vs.length c1)).heap[w.heap.size]? = some (.cells (EntV.arr ⟨x.i, x.t, x.k, x.c, ⟨⟨p1, x.f.f.vs.length, c1⟩, x.f.v, x.f.f⟩⟩) 51 (0, 0)) := set_block9 hbx2 11 _ (by show 11 < 13; decide)
  have hby3 : (w2.setCell ⟨w.heap.size, 11, none⟩ (.slice p1 x.f.f.vs.length c1)).heap[w.heap.size + 1]? = some (.cells #[.int .i64 0, .int .i64 0, .int .i64 0, .int .i64 0, .int .i64 0, .int .i64 0, .string ⟨#[]⟩, .string ⟨#[]⟩, .string ⟨#[]⟩, .string ⟨#[]⟩, .int .i64 0, .slice none 0 0, .slice none 0 0] 51 (0, 0)) := (Below.heap_setCell _ _ _ _ (by show w.heap.size + 1 ≠ w.heap.size; omega)).trans hby2
  have hg3 := grown_set w2 w.heap.size 11 (.slice p1 x.f.f.vs.length c1)
  have hlt3 := hg3.size
  have HB3 : Hid (Below w.heap.size w (w2.setCell ⟨w.heap.size, 11, none⟩ (.slice p1 x.f.f.vs.length c1))) := HB2.out.setCell (Nat.le_refl _) _
  have HO3 : Hid (OwnsI (w2.setCell ⟨w.heap.size, 11, none⟩ (.slice p1 x.f.f.vs.length c1)) (w.heap.size + 2) (.slice p1 x.f.f.vs.length c1) x.f.f.vs) := row_left11 HO1.out hg3 (by omega)
  have y12 : (w2.setCell ⟨w.heap.size, 11, none⟩ (.slice p1 x.f.f.vs.length c1)).cell? ⟨w.heap.size, 12, none⟩ = some (.slice x.f.v.p x.f.v.n x.f.v.c) := box_cell hbx3 12
  have k3 := clone11 _ (HV.out.below HB3.out (Nat.le_refl _)) (by have := HI.out.2.2.2.2.2.2.2; omega)
  go_wp2_with fail
  clear y11 f11
  generalize w2.setCell ⟨w.heap.size, 11, none⟩ (.slice p1 x.f.f.vs.length c1) = W3 at *
  refine k3.mono ?_
  rintro _ w4 ⟨⟨p2, c2, rfl, ho2⟩, hb4⟩
  have hbx4 := box_below hbx3 hb4
  have hby4 := box_below hby3 hb4
  have hB4 : Below w.heap.size w w4 := HB3.out.trans (hb4.mono HB3.out.size)
  have hO4 : OwnsI w4 (w.heap.size + 2) (.slice p1 x.f.f.vs.length c1) x.f.f.vs := row_below HO3.out hb4 (Nat.le_refl _)
  have hO5 : OwnsI w4 (w.heap.size + 2) (.slice p2 x.f.f.ls.length c2) x.f.f.ls := row_mono ho2 (by omega)
  have hlt4 := hb4.size
  clear k3 y12 hbx3 hby3 hb4 ho2
  have y12 : w4.cell? ⟨w.heap.size, 12, none⟩ = some (.slice x.f.v.p x.f.v.n x.f.v.c) := box_cell hbx4 12
  have f12 := frozen9 hbx4 12
  have hbx5 : (w4.setCell ⟨w.heap.size, 12, none⟩ (.slice p2 x.f.f.ls.length c2)).heap[w.heap.size]? = some (.cells (EntV.arr ⟨x.i, x.t, x.k, x.c, ⟨⟨p1, x.f.f.vs.length, c1⟩, ⟨p2, x.f.f.ls.length, c2⟩, x.f.f⟩⟩) 51 (0, 0)) := set_block9 hbx4 12 _ (by show 12 < 13; decide)
  have hby5 : (w4.setCell ⟨w.heap.size, 12, none⟩ (.slice p2 x.f.f.ls.length c2)).heap[w.heap.size + 1]? = some (.cells #[.int .i64 0, .int .i64 0, .int .i64 0, .int .i64 0, .int .i64 0, .int .i64 0, .string ⟨#[]⟩, .string ⟨#[]⟩, .string ⟨#[]⟩, .string ⟨#[]⟩, .int .i64 0, .slice none 0 0, .slice none 0 0] 51 (0, 0)) := (Below.heap_setCell _ _ _ _ (by show w.heap.size + 1 ≠ w.heap.size; omega)).trans hby4
  have hg5 := grown_set w4 w.heap.size 12 (.slice p2 x.f.f.ls.length c2)
  have hB5 : Below w.heap.size w (w4.setCell ⟨w.heap.size, 12, none⟩ (.slice p2 x.f.f.ls.length c2)) := hB4.setCell (Nat.le_refl _) _
  have hP5 := row_left11 hO4 hg5 (by omega)
  have hQ5 := row_left11 hO5 hg5 (by omega)
  have hlt5 := hg5.size
  have hld5 := ldE_box _ _ _ _ _ hbx5 rfl
  have hth5 := there_box hby5 0 13 (Nat.le_refl _)
  have hst5 := stE_arr 0 ⟨x.i, x.t, x.k, x.c, ⟨⟨p1, x.f.f.vs.length, c1⟩, ⟨p2, x.f.f.ls.length, c2⟩, x.f.f⟩⟩ hth5
  have hres := setE_box ⟨x.i, x.t, x.k, x.c, ⟨⟨p1, x.f.f.vs.length, c1⟩, ⟨p2, x.f.f.ls.length, c2⟩, x.f.f⟩⟩ hby5 rfl
  have hB6 : Below w.heap.size w ((w4.setCell ⟨w.heap.size, 12, none⟩ (.slice p2 x.f.f.ls.length c2)).setCells (w.heap.size + 1) 0 (EntV.arr ⟨x.i, x.t, x.k, x.c, ⟨⟨p1, x.f.f.vs.length, c1⟩, ⟨p2, x.f.f.ls.length, c2⟩, x.f.f⟩⟩).toList) := setCells_below (by omega) _ _ hB5
  have hg6 := setCells_grown (w.heap.size + 1) (EntV.arr ⟨x.i, x.t, x.k, x.c, ⟨⟨p1, x.f.f.vs.length, c1⟩, ⟨p2, x.f.f.ls.length, c2⟩, x.f.f⟩⟩).toList 0 (w4.setCell ⟨w.heap.size, 12, none⟩ (.slice p2 x.f.f.ls.length c2))
  have hP6 := row_left11 hP5 hg6 (by omega)
  have hQ6 := row_left11 hQ5 hg6 (by omega)
  obtain ⟨j1, j2, j3, j4, j5, j6, j7, j8⟩ := HI.out
  have hOE : OwnsE _ w.heap.size ⟨x.i, x.t, x.k, x.c, ⟨⟨p1, x.f.f.vs.length, c1⟩, ⟨p2, x.f.f.ls.length, c2⟩, x.f.f⟩⟩ := ⟨j1, j2, j3, j4, ⟨row_mono hP6 (by omega), row_mono hQ6 (by omega), j5, j6, by show x.f.f.vs.length ≤ 1000000; omega, by show x.f.f.ls.length ≤ 1000000; omega⟩⟩
  have HOE : Hid _ := hOE
  have HB6 : Hid _ := hB6
  have HRes : Hid _ := hres
  clear hbx4 hby4 hB4 hO4 hO5 hbx5 hby5 hg5 hB5 hP5 hQ5 hg6 hP6 hQ6 hOE hB6 hres j1 j2 j3 j4 j5 j6 j7 j8 HI HV
  go_wp2
  refine bodyPost_ret (ret_one rfl _ _ (w.heap.size + 1) _ _ _ _ rfl HRes.out Try.underlying51 rfl (by kernel_rfl)) rfl ⟨_, rfl, rfl, HOE.out, HB6.out⟩

def RowB (w : World) (k : Nat) (ys : List EntV) : Prop := w.heap[k]? = some (.cells (entsV ys).toArray 51 (0, 0))
theorem made13 (n : Nat) : (madeCells noEV.arr (n * 13)).toList = entsV (List.replicate n noEV) := by
  refine List.ext_getElem? fun j => ?_
  by_cases hj : j < n * 13
  · have e : j = j / 13 * 13 + j % 13 := by omega
    have h1 := entsV_at (l := List.replicate n noEV) (i := j / 13) (k := j % 13) (by rw [List.length_replicate]; omega) (by omega)
    rw [← e] at h1
    have hm : j % 13 < 13 := by omega
    rw [h1, Array.getElem?_toList, show (List.replicate n noEV).getD (j / 13) noEV = noEV by rw [List.getD_eq_getElem?_getD, List.getElem?_replicate]; split <;> rfl, Array.getElem?_eq_getElem (by rw [size_madeCells]; exact hj), Array.getElem?_eq_getElem (show j % 13 < noEV.arr.size from hm)]
    unfold madeCells
    rw [Array.getElem_map, Array.getElem_range]
    exact congrArg some (getElem!_pos noEV.arr (j % 13) hm)
  · rw [List.getElem?_eq_none (by rw [Array.length_toList, size_madeCells]; omega), List.getElem?_eq_none (by rw [entsV_len, List.length_replicate]; omega)]
theorem entsV_set {ys : List EntV} {j : Nat} (hj : j < ys.length) (x : EntV) : entsV (ys.set j x) = (entsV ys).take (j * 13) ++ x.arr.toList ++ (entsV ys).drop (j * 13 + x.arr.toList.length) := by
  have h1 : ys = ys.take j ++ ys[j] :: ys.drop (j + 1) := by rw [← List.drop_eq_getElem_cons hj, List.take_append_drop]
  have h2 : ys.set j x = ys.take j ++ x :: ys.drop (j + 1) := by
    rw [List.set_eq_take_append_cons_drop, if_pos hj]
  have hl : (entsV (ys.take j)).length = j * 13 := by rw [entsV_len, List.length_take]; congr 1; omega
  rw [h2]
  conv => rhs; rw [h1]
  rw [entsV_append, entsV_cons, entsV_append, entsV_cons, List.take_left' hl, List.append_assoc, arr_len]
  congr 2
  rw [← List.append_assoc, List.drop_left' (by rw [List.length_append, hl, arr_len])]
theorem RowB.set {w : World} {k : Nat} {ys : List EntV} (h : RowB w k ys) {j : Nat} (hj : j < ys.length) (x : EntV) : RowB (w.setCells k (j * 13) x.arr.toList) k (ys.set j x) := by
  refine setCells_box h _ _ _ ?_ ?_
  · rw [List.size_toArray, entsV_len, arr_len]; omega
  · exact entsV_set hj x
theorem RowB.there {w : World} {k : Nat} {ys : List EntV} (h : RowB w k ys) {j : Nat} (hj : j < ys.length) : w.there k (j * 13) 13 := there_box h _ _ (by rw [List.size_toArray, entsV_len]; omega)
theorem RowB.owns {w : World} {k n : Nat} {ys : List EntV} (h : RowB w k ys) {B : Nat} (hB : B ≤ k) (hn : ys.length = n) (hm : n ≤ maxLen) : w.ownsRow B 51 13 (.slice (some ⟨k, 0, none⟩) n n) n (entsV ys) := by
  refine ⟨by rw [entsV_len, hn], .inr ⟨k, n, _, rfl, hB, h, Nat.le_refl _, hm, by rw [List.size_toArray, entsV_len, hn], ?_⟩⟩
  exact List.take_of_length_le (by show (entsV ys).length ≤ _; rw [entsV_len, hn]; exact Nat.le_refl _)
theorem RowB.below {w w' : World} {k : Nat} {ys : List EntV} (h : RowB w k ys) (hb : Below w.heap.size w w') : RowB w' k ys := box_below h hb
set_option maxRecDepth 100000 in
set_option maxHeartbeats 1000000 in
theorem copyAll13_any (w : World) (s : Sl10) (es : List EntV) (hE : HasE w s es) (hf : ∀ e ∈ es, FewF e.f.f) (hl : s.n ≤ 837723144948) :
    Calls Try.prog 25 #[.slice s.p s.n s.c] w fun e w' => ∃ (k : Nat) (ys : List EntV), e = .returned (.slice (some ⟨k, 0, none⟩) s.n s.n) ∧ ys.map EntV.e = es.map EntV.e ∧ OwnsEs w' w.heap.size ⟨some ⟨k, 0, none⟩, s.n, s.n⟩ ys ∧ Below w.heap.size w w' := by
  obtain ⟨i1, hi1, hz1, hs1, hy1⟩ := info_parts infoE10
  have hmk := fun W : World => run_make (P := Try.prog) W 22 51 i1 _ Try.underlying22 hi1 hz1 .i64 .i64 (s.n : Int) (s.n : Int) (by omega) (by omega) (by rw [hy1]; omega) (by omega)
  rw [hs1] at hmk
  simp only [Int.toNat_natCast] at hmk
  have hA : (madeCells (Value.agg noEV.arr).cells (s.n * 13)) = (entsV (List.replicate s.n noEV)).toArray := Array.toList_inj.1 (made13 s.n)
  rw [hA] at hmk
  have hnn : Hid (es.length = s.n) := hE.n
  have hcc := hE.c
  have hB1 : Below w.heap.size w (w.alloc (.cells (entsV (List.replicate s.n noEV)).toArray 51)) := (Below.refl _ w).alloc (Nat.le_refl _) _
  have hR1 : RowB (w.alloc (.cells (entsV (List.replicate s.n noEV)).toArray 51)) w.heap.size (List.replicate s.n noEV) := heap_alloc_new w _
  have hz1 : (w.alloc (.cells (entsV (List.replicate s.n noEV)).toArray 51)).heap.size = w.heap.size + 1 := by simp
  have HE : Hid (HasE w s es) := hE
  have HF : Hid (∀ e ∈ es, FewF e.f.f) := hf
  generalize (entsV (List.replicate s.n noEV)).toArray = A0 at *
  clear hE hf hA hi1 hs1 hy1
  go_enter Try.func25, Try.ntmps25
  go_wp2
  generalize w.alloc (.cells A0 51) = W1 at *
  clear hmk
  go_loopw [4, 5, 11] (fun s4 s5 s11 wr => ∃ (j : Nat) (ys : List EntV), s11 = .int .i64 (j : Nat) ∧ j ≤ s.n ∧ Hid (RowB wr w.heap.size (ys ++ List.replicate (s.n - j) noEV)) ∧ Hid (ys.map EntV.e = (es.take j).map EntV.e) ∧ Hid (ys.length = j) ∧ Hid (∀ y ∈ ys, OwnsE wr (w.heap.size + 1) y) ∧ Below w.heap.size w wr ∧ w.heap.size + 1 ≤ wr.heap.size) (fun s4 s5 s11 _ => s.n - (intOf s11).toNat)
  case atStart => exact ⟨0, [], rfl, Nat.zero_le _, hR1, rfl, rfl, (fun _ h => by cases h), hB1, Nat.le_of_eq hz1.symm⟩
  case round =>
    obtain ⟨j, ys, rfl, hj, HR, HM, HL, HO, hb, hsz⟩ := hrel
    by_cases hjn : j < s.n
    · have hEr := HE.out.below hb
      obtain ⟨g, o, hp, hg, hld⟩ := hEr.ld hjn
      have hej : es.getD j noEV ∈ es := getD_memE (by rw [hnn.out]; exact hjn)
      have hFe := hEr.all _ hej
      have hfe := HF.out _ hej
      have HM2 : Hid ((es.take (j + 1)).map EntV.e = (es.take j).map EntV.e ++ [(es.getD j noEV).e]) := by
        rw [Hid, take_snocE (by rw [hnn.out]; exact hjn), List.map_append]
        rfl
      clear hEr
      generalize es.getD j noEV = e at *
      rw [hp] at *
      have hbE := heap_alloc_new wr (.cells #[.int .i64 0, .int .i64 0, .int .i64 0, .int .i64 0, .int .i64 0, .int .i64 0, .string ⟨#[]⟩, .string ⟨#[]⟩, .string ⟨#[]⟩, .string ⟨#[]⟩, .int .i64 0, .slice none 0 0, .slice none 0 0] 51)
      have hth := there_box hbE 0 13 (Nat.le_refl _)
      have hst := stE_arr 0 e hth
      have hbE2 := setE_box e hbE rfl
      have hB2 : Below wr.heap.size wr ((wr.alloc (.cells #[.int .i64 0, .int .i64 0, .int .i64 0, .int .i64 0, .int .i64 0, .int .i64 0, .string ⟨#[]⟩, .string ⟨#[]⟩, .string ⟨#[]⟩, .string ⟨#[]⟩, .int .i64 0, .slice none 0 0, .slice none 0 0] 51)).setCells wr.heap.size 0 e.arr.toList) := setCells_below (Nat.le_refl _) _ _ ((Below.refl _ _).alloc (Nat.le_refl _) _)
      have hld2 := ldE_box _ _ _ _ _ hbE2 rfl
      have kc := copyE13_any _ e (hFe.below hB2) hfe
      have HB2 : Hid _ := hB2
      have hl2 := box_lt hbE2
      clear hbE hbE2 hB2 hFe hfe hej
      go_wp2_with fail
      generalize (wr.alloc (.cells #[.int .i64 0, .int .i64 0, .int .i64 0, .int .i64 0, .int .i64 0, .int .i64 0, .string ⟨#[]⟩, .string ⟨#[]⟩, .string ⟨#[]⟩, .string ⟨#[]⟩, .int .i64 0, .slice none 0 0, .slice none 0 0] 51)).setCells wr.heap.size 0 e.arr.toList = W2 at *
      clear hld hth hst hld2
      refine kc.mono ?_
      rintro _ w3 ⟨y, rfl, hy, hO3, hb3⟩
      have hB3 : Below wr.heap.size wr w3 := HB2.out.trans (hb3.mono HB2.out.size)
      have hlen : (ys ++ List.replicate (s.n - j) noEV).length = s.n := by rw [List.length_append, HL.out, List.length_replicate]; omega
      have hR3 := HR.out.below hB3
      have hth3 := hR3.there (j := j) (by omega)
      have hst3 := stE_arr (j * 13) y hth3
      have hR4 := hR3.set (j := j) (by omega) y
      have hsplit : (ys ++ List.replicate (s.n - j) noEV).set j y = (ys ++ [y]) ++ List.replicate (s.n - (j + 1)) noEV := by
        rw [List.set_append_right _ _ (by rw [HL.out]; exact Nat.le_refl _), HL.out, Nat.sub_self, show s.n - j = (s.n - (j + 1)) + 1 by omega, List.replicate_succ, List.set_cons_zero, List.append_assoc]
        rfl
      rw [hsplit] at hR4
      have HR4 : Hid _ := hR4
      have hg4 := setCells_grown w.heap.size y.arr.toList (j * 13) w3
      have HO4 : Hid (∀ z ∈ ys ++ [y], OwnsE (w3.setCells w.heap.size (j * 13) y.arr.toList) (w.heap.size + 1) z) := fun z hz => by
        have hz1 := hB3.size
        rcases List.mem_append.1 hz with hz | hz
        · exact ((HO.out z hz).below hB3).kept hg4 (by omega)
        · rw [List.mem_singleton.1 hz]
          have := HB2.out.size
          exact (hO3.mono (by omega)).kept hg4 (by omega)
      have HBf : Hid (Below w.heap.size w (w3.setCells w.heap.size (j * 13) y.arr.toList)) := setCells_below (Nat.le_refl _) _ _ (hb.trans (hB3.mono hb.size))
      have hsz4 : w.heap.size + 1 ≤ (w3.setCells w.heap.size (j * 13) y.arr.toList).heap.size := by have := hg4.size; have := hB3.size; omega
      have hlt3 := box_lt hR3
      clear kc HB2 hO3 hb3 hB3 hR3 hth3 hR4 hsplit hlen hg4
      go_wp2
      go_roundw
      case rel =>
        refine ⟨j + 1, ys ++ [y], by go_num, by omega, HR4, ?_, ?_, HO4, HBf.out, hsz4⟩
        · rw [Hid, List.map_append, HM.out, HM2.out, ← hy]; rfl
        · rw [Hid, List.length_append, HL.out]; rfl
      case measure => simp only [intOf]; omega
    · obtain rfl : j = s.n := by omega
      have hM2 : ys.map EntV.e = es.map EntV.e := by
        have := HM.out
        rwa [← hnn.out, List.take_length] at this
      have hR := HR.out
      rw [Nat.sub_self, List.replicate_zero, List.append_nil] at hR
      have hO : OwnsEs wr w.heap.size ⟨some ⟨w.heap.size, 0, none⟩, s.n, s.n⟩ ys := ⟨by
        rw [HL.out]
        exact hR.owns (Nat.le_refl _) HL.out (show s.n ≤ maxLen by unfold maxLen; omega), fun y hy => (HO.out y hy).mono (by omega)⟩
      have HOf : Hid _ := hO
      have HMf : Hid _ := hM2
      have HBf : Hid _ := hb
      clear hO hM2 hR hb HR HM HO HE HF hB1 hR1
      go_wp2
      go_ret
      exact ⟨w.heap.size, ys, rfl, HMf.out, HOf.out, HBf.out⟩

theorem map_getE {es : List EntV} {j : Nat} (hj : j < es.length) : (es.getD j noEV).e = (es.map EntV.e)[j]'(by rwa [List.length_map]) := by
  rw [List.getD_eq_getElem?_getD, List.getElem?_eq_getElem hj, Option.getD_some, List.getElem_map]

set_option maxRecDepth 100000 in
set_option maxHeartbeats 1000000 in
theorem follow13_any (w : World) (ix t : Int) (s : Sl10) (es : List EntV) (hE : HasE w s es) (hl : s.n ≤ 1099511627776) (hx0 : -9223372036854775808 ≤ ix) (hx1 : ix ≤ 9223372036854775807) :
    Calls Try.prog 24 #[.int .i64 ix, .int .i64 t, .slice s.p s.n s.c] w fun e w' => e = .returned (.bool (chain13 ix t (es.map EntV.e))) ∧ Below w.heap.size w w' := by
  have hnn : Hid (es.length = s.n) := hE.n
  have hcc := hE.c
  have HE : Hid (HasE w s es) := hE
  obtain ⟨r, HR⟩ : ∃ r, Hid (chain13 ix t (es.map EntV.e) = r) := ⟨_, rfl⟩
  rw [HR.out]
  clear hE
  go_enter Try.func24, Try.ntmps24
  go_wp2
  go_loopw [0, 1, 8, 11] (fun s0 s1 s8 s11 wr => ∃ (j : Nat) (x u : Int), s0 = .int .i64 x ∧ s1 = .int .i64 u ∧ s11 = .int .i64 (j : Nat) ∧ j ≤ s.n ∧ Hid (chain13 x u ((es.drop j).map EntV.e) = r) ∧ (-9223372036854775808 ≤ x ∧ x ≤ 9223372036854775807) ∧ Below w.heap.size w wr) (fun _ _ _ s11 _ => s.n - (intOf s11).toNat)
  case atStart => exact ⟨0, ix, t, rfl, rfl, rfl, Nat.zero_le _, HR, ⟨hx0, hx1⟩, Below.refl _ _⟩
  case round =>
    clear HR hx0 hx1
    obtain ⟨j, x, u, rfl, rfl, rfl, hj, HC, ⟨hx0, hx1⟩, hb⟩ := hrel
    by_cases hjn : j < s.n
    · have hEr := HE.out.below hb
      obtain ⟨g, o, hp, hg, hld⟩ := hEr.ld hjn
      have hej : es.getD j noEV ∈ es := getD_memE (by rw [hnn.out]; exact hjn)
      have hFe := hEr.all _ hej
      have HD : Hid ((es.drop j).map EntV.e = (es.getD j noEV).e :: (es.drop (j + 1)).map EntV.e) := by
        have hjl : j < es.length := by rw [hnn.out]; exact hjn
        rw [Hid, List.drop_eq_getElem_cons hjl, List.map_cons, List.getD_eq_getElem?_getD, List.getElem?_eq_getElem hjl]
        rfl
      have HC2 : Hid (((goodE10 (es.getD j noEV).e && decide ((es.getD j noEV).i = x + 1) && decide (u ≤ (es.getD j noEV).t)) && chain13 (x + 1) (es.getD j noEV).t ((es.drop (j + 1)).map EntV.e)) = r) := by
        rw [Hid, ← HC.out, HD.out]
        rfl
      clear hEr HC HD hej
      generalize es.getD j noEV = e at *
      rw [hp] at *
      have hbE := heap_alloc_new wr (.cells #[.int .i64 0, .int .i64 0, .int .i64 0, .int .i64 0, .int .i64 0, .int .i64 0, .string ⟨#[]⟩, .string ⟨#[]⟩, .string ⟨#[]⟩, .string ⟨#[]⟩, .int .i64 0, .slice none 0 0, .slice none 0 0] 51)
      have hth := there_box hbE 0 13 (Nat.le_refl _)
      have hst := stE_arr 0 e hth
      have hbE2 := setE_box e hbE rfl
      have hB2 : Below wr.heap.size wr ((wr.alloc (.cells #[.int .i64 0, .int .i64 0, .int .i64 0, .int .i64 0, .int .i64 0, .int .i64 0, .string ⟨#[]⟩, .string ⟨#[]⟩, .string ⟨#[]⟩, .string ⟨#[]⟩, .int .i64 0, .slice none 0 0, .slice none 0 0] 51)).setCells wr.heap.size 0 e.arr.toList) := setCells_below (Nat.le_refl _) _ _ ((Below.refl _ _).alloc (Nat.le_refl _) _)
      have hld2 := ldE_box _ _ _ _ _ hbE2 rfl
      have kg := goodE_any e _ (hFe.below hB2)
      have HB2 : Hid _ := hB2
      have hl2 := box_lt hbE2
      have HI : Hid (inI e.i ∧ inI e.t) := ⟨hFe.i, hFe.t⟩
      have hbE3 : Hid _ := hbE2
      clear hbE hbE2 hB2 hFe
      generalize hgg : goodE10 e.e = gd at *
      have HG : Hid (goodE10 e.e = gd) := hgg
      clear hgg
      go_wp2_with fail
      generalize (wr.alloc (.cells #[.int .i64 0, .int .i64 0, .int .i64 0, .int .i64 0, .int .i64 0, .int .i64 0, .string ⟨#[]⟩, .string ⟨#[]⟩, .string ⟨#[]⟩, .string ⟨#[]⟩, .int .i64 0, .slice none 0 0, .slice none 0 0] 51)).setCells wr.heap.size 0 e.arr.toList = W2 at *
      clear hld hth hst hld2
      refine kg.mono ?_
      rintro _ w3 ⟨rfl, hb3⟩
      have hB3 : Below wr.heap.size wr w3 := HB2.out.trans (hb3.mono HB2.out.size)
      have hbx3 := box_below hbE3.out hb3
      have HBf : Hid (Below w.heap.size w w3) := hb.trans (hB3.mono hb.size)
      have y0 : w3.cell? ⟨wr.heap.size, 0, none⟩ = some (.int .i64 e.i) := box_cell hbx3 0
      have y1 : w3.cell? ⟨wr.heap.size, 1, none⟩ = some (.int .i64 e.t) := box_cell hbx3 1
      have hl3 := box_lt hbx3
      clear kg HB2 hb3 hB3 hbE3 hbx3
      cases gd with
      | false =>
        have HF : Hid (r = false) := by rw [Hid, ← HC2.out]; rfl
        clear HC2
        go_wp2
        go_ret
        exact ⟨by rw [HF.out]; rfl, HBf.out⟩
      | true =>
        have hi1 : 1 ≤ e.i := by
          have := HG.out
          unfold goodE10 at this
          simp only [Bool.and_eq_true, decide_eq_true_eq] at this
          exact this.1.1
        have hIi := HI.out.1.2
        have w1 : IntKind.i64.wrap (e.i - 1) = e.i - 1 := by rw [IntKind.wrap_i64]; unfold inI at *; omega
        by_cases h1 : e.i = x + 1
        · have h1' : (e.i - 1 != x) = false := by rw [bne_eq_false_iff_eq]; omega
          by_cases h2 : u ≤ e.t
          · have HC3 : Hid (chain13 e.i e.t ((es.drop (j + 1)).map EntV.e) = r) := by
              have := HC2.out
              rw [decide_eq_true h1, decide_eq_true h2, Bool.true_and, Bool.true_and, Bool.true_and] at this
              rw [Hid, h1]
              exact this
            have hxi : -9223372036854775808 ≤ e.i ∧ e.i ≤ 9223372036854775807 := by have := HI.out.1; unfold inI at this; omega
            have h2' : ¬ e.t < u := by omega
            clear HC2 h1 h2
            go_wp2
            go_quiet (fail)
            go_wp2
            go_roundw
            case rel => exact ⟨j + 1, e.i, e.t, rfl, rfl, by go_num, by omega, HC3, hxi, below_drewN HBf.out _⟩
            case measure => simp only [intOf]; omega
          · have HF : Hid (r = false) := by rw [Hid, ← HC2.out, decide_eq_false h2, Bool.and_false, Bool.false_and]
            clear HC2
            go_wp2
            go_ret
            exact ⟨by rw [HF.out]; rfl, HBf.out⟩
        · have HF : Hid (r = false) := by rw [Hid, ← HC2.out, decide_eq_false h1, Bool.and_false, Bool.false_and, Bool.false_and]
          have h1' : (e.i - 1 != x) = true := by rw [bne_iff_ne]; omega
          clear HC2
          go_wp2
          go_ret
          exact ⟨by rw [HF.out]; rfl, HBf.out⟩
    · obtain rfl : j = s.n := by omega
      have HF : Hid (r = true) := by
        have := HC.out
        rw [← hnn.out, List.drop_length] at this
        exact this.symm
      clear HC
      go_wp2
      go_ret
      exact ⟨by rw [HF.out]; rfl, hb⟩
theorem RowG.cut {w : World} {G : Nat → Prop} {s : Sl10} {es : List EntV} (h : RowG w G s es) {j n g o : Nat} (hn : 1 ≤ n) (hj : j + n ≤ s.n) (hp : s.p = some ⟨g, o, none⟩) : RowG w G ⟨some ⟨g, o + j * 13, none⟩, n, n⟩ ((es.drop j).take n) := by
  have hc := h.c
  obtain ⟨g', o', a, hp', hGg, hg, hfit, hat⟩ := h.at' (by omega)
  rw [hp] at hp'
  cases hp'
  have hnn := h.n
  have hlen : ((es.drop j).take n).length = n := by rw [List.length_take, List.length_drop]; omega
  refine ⟨hlen, Nat.le_refl _, (fun h => by cases h), fun _ => ⟨g, o + j * 13, a, rfl, hGg, hg, by show o + j * 13 + n * 13 ≤ a.size; omega, fun i hi k hk => ?_⟩, fun e he => h.all e (List.mem_of_mem_drop (List.mem_of_mem_take he))⟩
  have hi' : i < n := hi
  have e1 : ((es.drop j).take n).getD i noEV = es.getD (j + i) noEV := by
    rw [List.getD_eq_getElem?_getD, List.getD_eq_getElem?_getD, List.getElem?_take_of_lt hi', List.getElem?_drop]
  rw [e1, ← hat (j + i) (by omega) k hk]
  congr 1
  omega
def cutS13 (s : Sl10) (ix f t : Int) : Sl10 := if t < f then nilS10 else ⟨s.p.map fun a => ⟨a.block, a.off + (f - ix - 1).toNat * 13, none⟩, (t - f + 1).toNat, (t - f + 1).toNat⟩
section
variable {w : World} {b : Nat} {G : Nat → Prop} {s : Sl10} {es : List EntV} {g : Int} {L : LG}
structure Cut13 (w : World) (G : Nat → Prop) (s : Sl10) (es : List EntV) (L : LG) (f t : Int) (s' : Sl10) : Prop where
  row : RowG w G s' ((es.drop (f - L.ix - 1).toNat).take (t - f + 1).toNat)
  c : s'.c = s'.n
  n : s'.n = (t - f + 1).toNat
  blk : 0 < s'.n → s'.blk = s.blk
theorem LogG.cut (h : LogG w b G s es g L) (f t : Int) (hf : L.ix < f) (ht : t ≤ L.end) : Cut13 w G s es L f t (cutS13 s L.ix f t) := by
  unfold cutS13
  have hnn := h.n
  have he := h.nums.end'
  by_cases htf : t < f
  · rw [if_pos htf]
    refine ⟨?_, rfl, by show 0 = _; omega, fun h => absurd h (Nat.lt_irrefl 0)⟩
    rw [show (t - f + 1).toNat = 0 by omega, List.take_zero]
    exact RowG.nil _ _
  · rw [if_neg htf]
    obtain ⟨g', o, a, hp, hG', hg, hfit, hat⟩ := h.row.at' (by have := h.row.c; omega)
    rw [hp]
    refine ⟨h.row.cut (by omega) (by omega) hp, rfl, rfl, fun h0 => ?_⟩
    have h0' : 0 < (t - f + 1).toNat := h0
    rw [blk_eq (s := s) hp (by have := h.row.c; omega)]
    exact blk_eq rfl h0'
set_option maxRecDepth 100000 in
set_option maxHeartbeats 1000000 in
theorem cut13q (h : LogG w b G s es g L) (f t : Int) (hf : L.ix < f) (hf1 : f ≤ 2251799813685248) (ht0 : -9223372036854775808 ≤ t) (ht : t ≤ L.end) :
    Calls Try.prog 53 #[.pointer (some ⟨b, 0, none⟩), .int .i64 f, .int .i64 t] w fun e w' => e = .returned (.slice (cutS13 s L.ix f t).p (cutS13 s L.ix f t).n (cutS13 s L.ix f t).c) ∧ ∃ m, w' = w.drewN m := by
  obtain ⟨-, c1, c2, c3, -⟩ := h.cells
  have hlt := h.lt
  obtain ⟨x0, x1, he, e1, n1, -⟩ := h.nums
  have hnn := h.n
  by_cases htf : t < f
  · have HF : Hid (cutS13 s L.ix f t = nilS10) := if_pos htf
    generalize cutS13 s L.ix f t = r at *
    clear h
    go_enter Try.func53, Try.ntmps53
    go_wp2
    go_ret
    exact ⟨by rw [HF.out]; rfl, 0, rfl⟩
  · obtain ⟨j, rfl⟩ : ∃ j : Nat, f = L.ix + j + 1 := ⟨(f - L.ix - 1).toNat, by omega⟩
    obtain ⟨m, rfl⟩ : ∃ m : Nat, t = L.ix + j + m + 1 := ⟨(t - L.ix - j - 1).toNat, by omega⟩
    have hcc := h.row.c
    have hjm : j + (m + 1) ≤ s.n := by omega
    obtain ⟨g', o, a, hp, hG', hg, hfit, hat⟩ := h.row.at' (by omega)
    have HF : Hid (cutS13 s L.ix (L.ix + j + 1) (L.ix + j + m + 1) = ⟨some ⟨g', o + j * 13, none⟩, m + 1, m + 1⟩) := by
      rw [Hid]
      unfold cutS13
      rw [if_neg htf, hp, show (L.ix + (j : Int) + 1 - L.ix - 1).toNat = j by omega, show (L.ix + (j : Int) + m + 1 - (L.ix + j + 1) + 1).toNat = m + 1 by omega]
      rfl
    have w1 : IntKind.i64.wrap (L.ix + (j : Int) + 1 - L.ix) = (j : Int) + 1 := by rw [IntKind.wrap_i64]; omega
    have w2 : IntKind.i64.wrap ((j : Int) + 1 - 1) = (j : Int) := by rw [IntKind.wrap_i64]; omega
    have w3 : IntKind.i64.wrap (L.ix + (j : Int) + m + 1 - L.ix) = ((j + m + 1 : Nat) : Int) := by rw [IntKind.wrap_i64]; omega
    have hlf : ¬ (L.ix + (j : Int) + m + 1 < L.ix + j + 1) := by omega
    rw [hp] at c3
    have hlj : j + m + 1 ≤ s.c := by omega
    obtain ⟨ff, HFf⟩ : ∃ ff, Hid (L.ix + (j : Int) + 1 = ff) := ⟨_, rfl⟩
    obtain ⟨tt, HTt⟩ : ∃ tt, Hid (L.ix + (j : Int) + m + 1 = tt) := ⟨_, rfl⟩
    rw [HFf.out] at w1 hlf HF ⊢
    rw [HTt.out] at w3 hlf HF ⊢
    generalize cutS13 s L.ix ff tt = r at *
    clear h hp hat hfit hg hf ht ht0 hf1 htf he e1 hnn
    go_enter Try.func53, Try.ntmps53
    go_wp2
    go_quiet (fail)
    go_wp2
    go_ret
    exact ⟨by
      show Ending.returned (.slice (some ⟨g', o + j * 13, none⟩) (j + m + 1 - j) (j + m + 1 - j)) = _
      rw [show j + m + 1 - j = m + 1 by omega, HF.out], _, rfl⟩
theorem cut13_any (h : LogG w b G s es g L) (f t : Int) (hf : L.ix < f) (hf1 : f ≤ 2251799813685248) (ht0 : -9223372036854775808 ≤ t) (ht : t ≤ L.end) :
    Calls Try.prog 53 #[.pointer (some ⟨b, 0, none⟩), .int .i64 f, .int .i64 t] w fun e w' => ∃ s' : Sl10, e = .returned (.slice s'.p s'.n s'.c) ∧ RowG w' G s' ((es.drop (f - L.ix - 1).toNat).take (t - f + 1).toNat) ∧ s'.c = s'.n ∧ s'.n = (t - f + 1).toNat ∧ (0 < s'.n → s'.blk = s.blk) ∧ Below w.heap.size w w' := by
  refine (cut13q h f t hf hf1 ht0 ht).mono ?_
  rintro _ w' ⟨rfl, hq⟩
  have hb := below_q13 hq
  have hc := (h.below hb).cut f t hf ht
  exact ⟨_, rfl, hc.row, hc.c, hc.n, hc.blk, hb⟩

theorem LogG.le_end (h : LogG w b G s es g L) : L.ix ≤ L.end := by have := h.nums.d0; have := h.nums.d1; omega
theorem slice_map13 {j n : Nat} (hm : es.map EntV.e = L.l) : ((es.drop j).take n).map EntV.e = (L.l.drop j).take n := by rw [List.map_take, List.map_drop, hm]
set_option maxRecDepth 100000 in
set_option maxHeartbeats 1000000 in
theorem slice13_any (h : LogG w b G s es g L) (f m : Int) :
    Calls Try.prog 13 #[.pointer (some ⟨b, 0, none⟩), .int .i64 f, .int .i64 m] w fun e w' => ∃ (s' : Sl10) (ys : List EntV), e = .returned (.slice s'.p s'.n s'.c) ∧ OwnsEs w' w.heap.size s' ys ∧ ys.map EntV.e = L.slice f m ∧ Below w.heap.size w w' := by
  obtain ⟨-, c1, -⟩ := h.cells
  have hlt := h.lt
  have kn := none13_any h
  by_cases h1 : f ≤ L.ix
  · have HF : Hid (L.slice f m = []) := if_pos h1
    rw [HF.out]
    clear h
    go_enter Try.func13, Try.ntmps13
    go_wp2_with fail
    refine same_mono kn ?_
    go_wp2
    go_ret
    exact ⟨nilS10, [], rfl, OwnsEs.nil _ _, rfl, Below.refl _ _⟩
  have k1 := last13_any h
  have HD : Hid (L.slice f m = (L.l.drop (f - L.ix - 1).toNat).take m.toNat) := if_neg h1
  have HN : Hid (Nums13 L s.n) := h.nums
  have hnn := h.n
  by_cases h2 : L.end < f
  · have HF : Hid (L.slice f m = []) := by
      have he := HN.out.end'
      rw [Hid, HD.out, List.drop_of_length_le (by omega), List.take_nil]
    rw [HF.out]
    clear h
    go_enter Try.func13, Try.ntmps13
    go_wp2_with fail
    refine same_mono kn ?_
    go_wp2_with fail
    refine k1.mono ?_
    rintro _ w1 ⟨rfl, hb1⟩
    go_wp2
    go_ret
    exact ⟨nilS10, [], rfl, OwnsEs.nil _ _, rfl, hb1⟩
  by_cases h3 : m < 1
  · have HF : Hid (L.slice f m = []) := by rw [Hid, HD.out, show m.toNat = 0 by omega, List.take_zero]
    rw [HF.out]
    clear h
    go_enter Try.func13, Try.ntmps13
    go_wp2_with fail
    refine same_mono kn ?_
    go_wp2_with fail
    refine k1.mono ?_
    rintro _ w1 ⟨rfl, hb1⟩
    go_wp2
    go_ret
    exact ⟨nilS10, [], rfl, OwnsEs.nil _ _, rfl, hb1⟩
  have HF : Hid (L.slice f m = (L.l.drop (f - L.ix - 1).toNat).take (f + min m (L.end - f + 1) - 1 - f + 1).toNat) := by
    have he := HN.out.end'
    rw [Hid, HD.out]
    by_cases e : m ≤ L.end - f + 1
    · rw [show f + min m (L.end - f + 1) - 1 - f + 1 = m by omega]
    · rw [List.take_of_length_le (by rw [List.length_drop]; omega), List.take_of_length_le (by rw [List.length_drop]; omega)]
  have hx := HN.out.x0
  have hee := HN.out.e1
  have w1 : IntKind.i64.wrap (L.end - f) = L.end - f := by rw [IntKind.wrap_i64]; omega
  have w2 : IntKind.i64.wrap (L.end - f + 1) = L.end - f + 1 := by rw [IntKind.wrap_i64]; omega
  have hH : LogG w b G s es g L := h
  go_enter Try.func13, Try.ntmps13
  go_wp2_with fail
  refine same_mono kn ?_
  go_wp2_with fail
  refine k1.mono ?_
  rintro _ w1' ⟨rfl, hb1⟩
  have hL1 := h.below hb1
  have k2 := last13_any hL1
  clear k1 kn
  go_wp2_with fail
  refine k2.mono ?_
  rintro _ w2' ⟨rfl, hb2⟩
  have hL2 := hL1.below hb2
  have hB2 := hb1.trans (hb2.mono hb1.size)
  have k3 := cut13_any hL2 f (f + min m (L.end - f + 1) - 1) (by omega) (by omega) (by omega) (by omega)
  have HFW : Hid (∀ e ∈ es, FewF e.f.f) := h.few
  have HMp : Hid (es.map EntV.e = L.l) := h.map
  clear k2 hL1 hb1 hb2
  go_wp2_with fail
  refine k3.mono ?_
  rintro _ w3 ⟨s3, rfl, hr3, hc3, hn3, -, hb3⟩
  have hB3 := hB2.trans (hb3.mono hB2.size)
  have k4 := copyAll13_any w3 s3 _ hr3.has (fun e he => HFW.out e (List.mem_of_mem_drop (List.mem_of_mem_take he))) (by have := HN.out.end'; have := HN.out.n1; omega)
  have HB3 : Hid _ := hB3
  clear k3 hr3 hb3 hB2 hB3 hc3 hn3
  go_wp2_with fail
  refine k4.mono ?_
  rintro _ w4 ⟨k, ys, rfl, hm4, ho4, hb4⟩
  have HM4 : Hid _ := hm4
  have HO4 : Hid _ := ho4
  have HB4 : Hid (Below w.heap.size w w4) := HB3.out.trans (hb4.mono HB3.out.size)
  clear k4 hm4 ho4 hb4
  go_wp2
  go_ret
  refine ⟨_, ys, rfl, HO4.out.mono HB3.out.size, ?_, HB4.out⟩
  rw [HM4.out, HF.out]
  exact slice_map13 HMp.out
theorem kp13 {w wA wB : World} {b i : Nat} {v : Value} (hl : b < w.heap.size) (h : wA.cell? ⟨b, i, none⟩ = some v ∧ Below w.heap.size w wA) (hb : Below wA.heap.size wA wB) : wB.cell? ⟨b, i, none⟩ = some v ∧ Below w.heap.size w wB :=
  ⟨(hb.cell (p := ⟨b, i, none⟩) (Nat.lt_of_lt_of_le hl h.2.size)).trans h.1, h.2.trans (hb.mono h.2.size)⟩
theorem kp13b {w wA : World} {b i : Nat} {v : Value} (h : wA.cell? ⟨b, i, none⟩ = some v ∧ Below w.heap.size w wA) : Below w.heap.size w wA := h.2
theorem below_drew13 (w : World) : Below w.heap.size w w.drew := below_drewN (Below.refl _ _) 1
theorem unsure_is13 (h : LogG w b G s es g L) : L.unsure = (L.l.drop (L.safe + 1 - L.ix - 1).toNat).take (L.end - (L.safe + 1) + 1).toNat := by
  have h1 := h.nums.s0
  have h2 := h.nums.end'
  have h3 := h.n
  unfold LG.unsure LG.slice
  rw [if_neg (by omega), List.take_of_length_le (by rw [List.length_drop]; omega), List.take_of_length_le (by rw [List.length_drop]; omega)]
set_option maxRecDepth 100000 in
set_option maxHeartbeats 1000000 in
theorem unsure13_any (h : LogG w b G s es g L) :
    Calls Try.prog 23 #[.pointer (some ⟨b, 0, none⟩)] w fun e w' => ∃ (s' : Sl10) (ys : List EntV), e = .returned (.slice s'.p s'.n s'.c) ∧ OwnsEs w' w.heap.size s' ys ∧ ys.map EntV.e = L.unsure ∧ Below w.heap.size w w' := by
  have c6 : w.cell? ⟨b, 6, none⟩ = some (.int .i64 L.safe) := box_cell h.obj 6
  have hlt := h.lt
  have kn := none13_any h
  have HN : Hid (Nums13 L s.n) := h.nums
  have w1 : IntKind.i64.wrap (L.safe + 1) = L.safe + 1 := by rw [IntKind.wrap_i64]; have := HN.out.s0; have := HN.out.s1; have := HN.out.e1; have := HN.out.x0; omega
  have HFW : Hid (∀ e ∈ es, FewF e.f.f) := h.few
  have HMp : Hid (es.map EntV.e = L.l) := h.map
  have HF : Hid (L.unsure = (L.l.drop (L.safe + 1 - L.ix - 1).toNat).take (L.end - (L.safe + 1) + 1).toNat) := unsure_is13 h
  have HH : Hid (∀ W, Below w.heap.size w W → LogG W b G s es g L) := fun W hb => h.below hb
  have kl : ∀ W, Below w.heap.size w W → _ := fun W hb => last13q (h.below hb)
  have kc : ∀ W, Below w.heap.size w W → _ := fun W hb => cut13q (h.below hb) (L.safe + 1) L.end (by have := HN.out.s0; omega) (by have := HN.out.s1; have := HN.out.e1; omega) (by have := HN.out.d0; have := HN.out.d1; have := HN.out.x0; omega) (Int.le_refl _)
  have ka : ∀ W, Below w.heap.size w W → _ := fun W hb => copyAll13_any W (cutS13 s L.ix (L.safe + 1) L.end) _ ((h.below hb).cut (L.safe + 1) L.end (by have := HN.out.s0; omega) (Int.le_refl _)).row.has (fun e he => HFW.out e (List.mem_of_mem_drop (List.mem_of_mem_take he))) (by rw [((h.below hb).cut (L.safe + 1) L.end (by have := HN.out.s0; omega) (Int.le_refl _)).n]; have := HN.out.end'; have := HN.out.n1; have := HN.out.s0; omega)
  have HL : Hid _ := kl
  have HC : Hid _ := kc
  have HA : Hid _ := ka
  clear h kl kc ka
  generalize cutS13 s L.ix (L.safe + 1) L.end = cs at *
  go_enter Try.func23, Try.ntmps23
  go_wp2_with fail
  refine same_mono kn ?_
  go_wp2_with fail
  have s0 : w.drew.cell? ⟨b, 6, none⟩ = some (.int .i64 L.safe) ∧ Below w.heap.size w w.drew := ⟨c6, below_drew13 w⟩
  go_region_held3 (fun w' => w'.cell? ⟨b, 6, none⟩ = some (.int .i64 L.safe) ∧ Below w.heap.size w w')
    (first | exact s0 | assumption | exact kp13 hlt (by assumption) (by assumption))
    (first
      | (go_at_call 52; (with_reducible refine Calls.mono (HL.out _ (kp13b (by assumption))) ?_); rintro e4 w4 ⟨rfl, hq4⟩; have hb4 := below_q13 hq4)
      | (go_at_call 53; (with_reducible refine Calls.mono (HC.out _ (kp13b (by assumption))) ?_); rintro e5 w5 ⟨rfl, hq5⟩; have hb5 := below_q13 hq5)
      | (go_at_call 25; (with_reducible refine Calls.mono (HA.out _ (kp13b (by assumption))) ?_); rintro e6 w6 ⟨k6, ys6, rfl, hm6, ho6, hb6⟩))
  have hs5 : w.heap.size ≤ w5.heap.size := Nat.le_trans (below_drew13 w).size (Nat.le_trans hb4.size hb5.size)
  have HB6 : Hid (Below w.heap.size w w6) := kp13b (by assumption)
  have HO : Hid (OwnsEs w6 w.heap.size ⟨some ⟨k6, 0, none⟩, cs.n, cs.n⟩ ys6) := ho6.mono hs5
  have HM : Hid _ := hm6
  clear hb4 hb5 hb6 ho6 hm6 s0 HL HC HA HH
  go_wp2
  go_ret
  exact ⟨⟨some ⟨k6, 0, none⟩, cs.n, cs.n⟩, ys6, rfl, HO.out, by rw [HM.out, HF.out]; exact slice_map13 HMp.out, HB6.out⟩
end
section
variable {w w' : World} {b : Nat} {G : Nat → Prop} {s : Sl10} {es : List EntV} {g : Int} {L : LG}
theorem LogG.upd (h : LogG w b G s es g L) (hg : w.grownBy w' (some b)) {L' : LG} {g' : Int} (ho : w'.heap[b]? = some (.cells (logArr L' s g') 62 (0, 0))) (hl : L'.l = L.l) (hI : L'.Inv) (ht : L'.end ≤ 1125899906842624) (h0 : 0 ≤ g') (h1 : g' ≤ 1125899906842624) : LogG w' b G s es g' L' := by
  have hst : ∀ t, t ≠ 62 → Stay G t w w' := fun t hne => Stay.of_grown hg fun k hk a fr he => by
    cases hk
    rw [h.obj] at he
    simp only [Option.some.injEq, Obj.cells.injEq] at he
    exact hne he.2.1.symm
  exact ⟨ho, h.row.stay (hst _ (by decide)) (hst _ (by decide)), by rw [hl]; exact h.map, hI, ht, h.sz, h0, h1⟩
def Log13 (w : World) (b : Nat) (G : Nat → Prop) (L : LG) : Prop := ∃ s es g, LogG w b G s es g L
theorem LogG.log (h : LogG w b G s es g L) : Log13 w b G L := ⟨s, es, g, h⟩
theorem LogG.mono {H : Nat → Prop} (h : LogG w b G s es g L) (hg : ∀ k, G k → H k) : LogG w b H s es g L := ⟨h.obj, h.row.mono hg, h.map, h.inv, h.top, h.sz, h.g0, h.g1⟩
theorem Log13.mono {H : Nat → Prop} (h : Log13 w b G L) (hg : ∀ k, G k → H k) : Log13 w b H L := by
  obtain ⟨s, es, g, h⟩ := h
  exact ⟨s, es, g, h.mono hg⟩
theorem Log13.below (h : Log13 w b G L) (hb : Below w.heap.size w w') : Log13 w' b G L := by
  obtain ⟨s, es, g, h⟩ := h
  exact ⟨s, es, g, h.below hb⟩
structure Turns13 (w : World) (b : Nat) (G : Nat → Prop) (L' : LG) (w' : World) : Prop where
  log : Log13 w' b (more8 G w w') L'
  turn : Turn (fun k => k = b ∨ G k) w w'
theorem Turns13.of_below (h : Log13 w b G L) (hb : Below w.heap.size w w') : Turns13 w b G L w' := ⟨(h.below hb).mono fun _ h => .inl h, Turn.of_below hb (Nat.le_refl _)⟩
theorem Turns13.of_grown (h : Log13 w' b G L) (hg : w.grownBy w' (some b)) : Turns13 w b G L w' := ⟨h.mono fun _ h => .inl h, (Turn.refl _ _).grown hg fun _ hk => .inl (.inl (Option.some.inj hk).symm)⟩

set_option maxRecDepth 100000 in
set_option maxHeartbeats 1000000 in
theorem commit13_any (h : LogG w b G s es g L) (i : Int) :
    Calls Try.prog 29 #[.pointer (some ⟨b, 0, none⟩), .int .i64 i] w fun e w' => e = .returned (.bool (L.commit i).1) ∧ Turns13 w b G (L.commit i).2 w' := by
  have c4 : w.cell? ⟨b, 4, none⟩ = some (.int .i64 L.done) := box_cell h.obj 4
  have hlt := h.lt
  have kn := none13_any h
  by_cases h1 : i ≤ L.done
  · have HF : Hid (L.commit i = (false, L)) := if_neg (by omega)
    have HH : Hid (Log13 w b G L) := h.log
    clear h
    rw [HF.out]
    go_enter Try.func29, Try.ntmps29
    go_wp2_with fail
    refine same_mono kn ?_
    go_wp2
    go_ret
    exact ⟨rfl, .of_below HH.out (Below.refl _ _)⟩
  have kl := last13_any h
  by_cases h2 : L.end < i
  · have HF : Hid (L.commit i = (false, L)) := if_neg (by omega)
    have HH : Hid (Log13 w b G L) := h.log
    clear h
    rw [HF.out]
    go_enter Try.func29, Try.ntmps29
    go_wp2_with fail
    refine same_mono kn ?_
    go_wp2_with fail
    refine kl.mono ?_
    rintro _ w1 ⟨rfl, hb1⟩
    go_wp2
    go_ret
    exact ⟨rfl, .of_below HH.out hb1⟩
  have HF : Hid (L.commit i = (true, { L with done := i })) := if_pos ⟨by omega, by omega⟩
  have hI := h.inv.commit i
  rw [HF.out] at hI ⊢
  have HI : Hid _ := hI
  have HH : Hid (LogG w b G s es g L) := h
  clear hI h
  go_enter Try.func29, Try.ntmps29
  go_wp2_with fail
  refine same_mono kn ?_
  go_wp2_with fail
  refine kl.mono ?_
  rintro _ w1 ⟨rfl, hb1⟩
  have hL1 := HH.out.below hb1
  have c4' : w1.cell? ⟨b, 4, none⟩ = some (.int .i64 L.done) := box_cell hL1.obj 4
  have f4 := frozen9 hL1.obj 4
  have hlt1 := hL1.lt
  have hg := grown_set w1 b 4 (.int .i64 i)
  have hob : (w1.setCell ⟨b, 4, none⟩ (.int .i64 i)).heap[b]? = some (.cells (logArr { L with done := i } s g) 62 (0, 0)) := set_block9 hL1.obj 4 _ (by show 4 < 8; decide)
  have hL2 := hL1.upd hg hob rfl HI.out hL1.top hL1.g0 hL1.g1
  have HT : Hid (Turns13 w b G { L with done := i } (w1.setCell ⟨b, 4, none⟩ (.int .i64 i))) := .of_grown hL2.log ⟨hb1.os, hb1.tape, hb1.output, Nat.le_trans hb1.size hg.size, fun k hk hne => (hg.block k (Nat.lt_of_lt_of_le hk hb1.size) hne).trans (hb1.block k hk)⟩
  clear hL1 hL2 hg hob kl kn
  go_wp2
  go_ret
  exact ⟨rfl, HT.out⟩
theorem grown_below13 {w w1 w2 : World} {r : Option Nat} (hb : Below w.heap.size w w1) (hg : w1.grownBy w2 r) : w.grownBy w2 r := ⟨hg.os.trans hb.os, hg.tape.trans hb.tape, hg.output.trans hb.output, Nat.le_trans hb.size hg.size, fun k hk hne => (hg.block k (Nat.lt_of_lt_of_le hk hb.size) hne).trans (hb.block k hk)⟩
theorem sure_is13 (L : LG) (i : Int) : L.sure i = { L with safe := max L.safe (min i L.end) } := by
  unfold LG.sure
  by_cases h1 : L.end < i
  · rw [if_pos h1, show min i L.end = L.end by omega]
    split
    · rw [show max L.safe L.end = L.end by omega]
    · rw [show max L.safe L.end = L.safe by omega]
  · rw [if_neg h1, show min i L.end = i by omega]
    split
    · rw [show max L.safe i = i by omega]
    · rw [show max L.safe i = L.safe by omega]

set_option maxRecDepth 100000 in
set_option maxHeartbeats 1000000 in
theorem sure13_any (h : LogG w b G s es g L) (i : Int) :
    Calls Try.prog 31 #[.pointer (some ⟨b, 0, none⟩), .int .i64 i] w fun e w' => e = .returned (.tuple #[]) ∧ Turns13 w b G (L.sure i) w' := by
  have c6 : w.cell? ⟨b, 6, none⟩ = some (.int .i64 L.safe) := box_cell h.obj 6
  have f6 := frozen9 h.obj 6
  have hlt := h.lt
  have kn := none13_any h
  have hI := h.inv.sure i
  have HF : Hid (L.sure i = { L with safe := max L.safe (min i L.end) }) := sure_is13 L i
  rw [HF.out] at hI ⊢
  have HI : Hid _ := hI
  have HH : Hid (LogG w b G s es g L) := h
  have hq : ∀ m, Calls Try.prog 52 #[.pointer (some ⟨b, 0, none⟩)] (w.drewN m) fun e w' => e = .returned (.int .i64 L.end) ∧ ∃ m', w' = (w.drewN m).drewN m' := fun m => last13q (h.drewN m)
  clear hI h
  go_enter Try.func31, Try.ntmps31
  go_wp2_with fail
  refine same_mono kn ?_
  go_wp2_with fail
  refine wp_last (by kernel_rfl) (by kernel_rfl) ?_
  dsimp only [initL, lastL]
  repeat (go_big_quiet_step ((go_at_call 52; exact Calls.quiet_of (hq _))))
  refine wpQuiet_nil ?_
  rintro _ ⟨nr, rfl⟩
  have hL1 := HH.out.drewN nr
  have hg := grown_set (w.drewN nr) b 6 (.int .i64 (max L.safe (min i L.end)))
  have hob : ((w.drewN nr).setCell ⟨b, 6, none⟩ (.int .i64 (max L.safe (min i L.end)))).heap[b]? = some (.cells (logArr { L with safe := max L.safe (min i L.end) } s g) 62 (0, 0)) := set_block9 hL1.obj 6 _ (by show 6 < 8; decide)
  have hL2 := hL1.upd hg hob rfl HI.out hL1.top hL1.g0 hL1.g1
  have HT : Hid (Turns13 w b G { L with safe := max L.safe (min i L.end) } _) := .of_grown hL2.log (grown_below13 (below_drewN (Below.refl _ _) nr) hg)
  clear hL1 hL2 hg hob
  gi_wp2
  go_end0
  exact ⟨rfl, HT.out⟩
theorem kq13 {w wA wB : World} {b i j : Nat} {u v : Value} (hl : b < w.heap.size) (h : wA.cell? ⟨b, i, none⟩ = some u ∧ wA.cell? ⟨b, j, none⟩ = some v ∧ Below w.heap.size w wA) (hb : Below wA.heap.size wA wB) : wB.cell? ⟨b, i, none⟩ = some u ∧ wB.cell? ⟨b, j, none⟩ = some v ∧ Below w.heap.size w wB :=
  ⟨(hb.cell (p := ⟨b, i, none⟩) (Nat.lt_of_lt_of_le hl h.2.2.size)).trans h.1, (hb.cell (p := ⟨b, j, none⟩) (Nat.lt_of_lt_of_le hl h.2.2.size)).trans h.2.1, h.2.2.trans (hb.mono h.2.2.size)⟩
theorem kq13b {w wA : World} {b i j : Nat} {u v : Value} (h : wA.cell? ⟨b, i, none⟩ = some u ∧ wA.cell? ⟨b, j, none⟩ = some v ∧ Below w.heap.size w wA) : Below w.heap.size w wA := h.2.2
theorem apply_is13 (h : LogG w b G s es g L) (m : Int) : (L.apply m).1 = L.slice (L.used + 1) (min m (L.done - L.used)) ∧ (L.apply m).2 = { L with used := L.used + ((L.slice (L.used + 1) (min m (L.done - L.used))).length : Nat) } := by
  have h1 := h.nums
  have h2 := h.n
  obtain ⟨x0, x1, he, e1, n1, d0, d1, u0, u1, s0, s1⟩ := h1
  have hm : L.applyN m = min m (L.done - L.used) := by
    unfold LG.applyN
    split <;> omega
  unfold LG.apply
  rw [hm]
  by_cases hc : min m (L.done - L.used) < 1
  · rw [if_pos hc]
    have : L.slice (L.used + 1) (min m (L.done - L.used)) = [] := by
      unfold LG.slice
      rw [if_neg (by omega), show (min m (L.done - L.used)).toNat = 0 by omega, List.take_zero]
    rw [this]
    refine ⟨rfl, ?_⟩
    show L = { L with used := L.used + 0 }
    rw [Int.add_zero]
  · rw [if_neg hc]
    refine ⟨rfl, ?_⟩
    have hl : ((L.slice (L.used + 1) (min m (L.done - L.used))).length : Int) = min m (L.done - L.used) := by
      unfold LG.slice
      rw [if_neg (by omega), List.length_take, List.length_drop]
      omega
    rw [hl]

set_option maxRecDepth 100000 in
set_option maxHeartbeats 1000000 in
theorem apply13_any (h : LogG w b G s es g L) (m : Int) :
    Calls Try.prog 34 #[.pointer (some ⟨b, 0, none⟩), .int .i64 m] w fun e w' => ∃ (s' : Sl10) (ys : List EntV), e = .returned (.slice s'.p s'.n s'.c) ∧ OwnsEs w' w.heap.size s' ys ∧ ys.map EntV.e = (L.apply m).1 ∧ Turns13 w b G (L.apply m).2 w' := by
  have c4 : w.cell? ⟨b, 4, none⟩ = some (.int .i64 L.done) := box_cell h.obj 4
  have c5 : w.cell? ⟨b, 5, none⟩ = some (.int .i64 L.used) := box_cell h.obj 5
  have hlt := h.lt
  have kn := none13_any h
  have hI := h.inv.apply m
  obtain ⟨hf1, hf2⟩ := apply_is13 h m
  rw [hf2] at hI
  rw [hf1, hf2]
  have HN : Hid (Nums13 L s.n) := h.nums
  have w1 : IntKind.i64.wrap (L.used + 1) = L.used + 1 := by rw [IntKind.wrap_i64]; have := HN.out.u0; have := HN.out.u1; have := HN.out.d1; have := HN.out.e1; have := HN.out.x0; omega
  have w2 : IntKind.i64.wrap (L.done - L.used) = L.done - L.used := by rw [IntKind.wrap_i64]; have := HN.out.u0; have := HN.out.u1; have := HN.out.d1; have := HN.out.e1; have := HN.out.x0; omega
  have ks : ∀ W, Below w.heap.size w W → _ := fun W hb => slice13_any (h.below hb) (L.used + 1) (min m (L.done - L.used))
  have HLn : Hid ((L.slice (L.used + 1) (min m (L.done - L.used))).length ≤ 837723144948) := by
    rw [Hid]
    unfold LG.slice
    have h2 := h.n
    have := HN.out.n1
    split
    · exact Nat.zero_le _
    · rw [List.length_take, List.length_drop]; omega
  generalize L.slice (L.used + 1) (min m (L.done - L.used)) = R at *
  have HI : Hid _ := hI
  have HH : Hid (LogG w b G s es g L) := h
  clear hI h hf1 hf2
  go_enter Try.func34, Try.ntmps34
  go_wp2_with fail
  refine same_mono kn ?_
  go_wp2_with fail
  have s0 : w.drew.cell? ⟨b, 5, none⟩ = some (.int .i64 L.used) ∧ w.drew.cell? ⟨b, 4, none⟩ = some (.int .i64 L.done) ∧ Below w.heap.size w w.drew := ⟨c5, c4, below_drew13 w⟩
  go_region_held3 (fun w' => w'.cell? ⟨b, 5, none⟩ = some (.int .i64 L.used) ∧ w'.cell? ⟨b, 4, none⟩ = some (.int .i64 L.done) ∧ Below w.heap.size w w')
    (first | exact s0 | assumption | exact kq13 hlt (by assumption) (by assumption))
    (first
      | (go_at_call 13; (with_reducible refine Calls.mono (ks _ (kq13b (by assumption))) ?_); rintro e3 w3 ⟨s3, ys, rfl, ho3', hm3, hb3'⟩))
  have hb3 : Below w.heap.size w w3 := kq13b (by assumption)
  have ho3 : OwnsEs w3 w.heap.size s3 ys := ho3'
  clear s0 ho3' hb3' c4 c5
  have hL3 := HH.out.below hb3
  have hn3 : R.length = s3.n := by rw [← hm3, List.length_map]; exact ho3.fits.n
  have c5' : w3.cell? ⟨b, 5, none⟩ = some (.int .i64 L.used) := box_cell hL3.obj 5
  have f5 := frozen9 hL3.obj 5
  have hlt3 := hL3.lt
  have hg := grown_set w3 b 5 (.int .i64 (L.used + (R.length : Nat)))
  have hob : (w3.setCell ⟨b, 5, none⟩ (.int .i64 (L.used + (R.length : Nat)))).heap[b]? = some (.cells (logArr { L with used := L.used + (R.length : Nat) } s g) 62 (0, 0)) := set_block9 hL3.obj 5 _ (by show 5 < 8; decide)
  have hL4 := hL3.upd hg hob rfl HI.out hL3.top hL3.g0 hL3.g1
  have HT : Hid (Turns13 w b G { L with used := L.used + (R.length : Nat) } (w3.setCell ⟨b, 5, none⟩ (.int .i64 (L.used + (R.length : Nat))))) := .of_grown hL4.log (grown_below13 hb3 hg)
  have HO : Hid (OwnsEs (w3.setCell ⟨b, 5, none⟩ (.int .i64 (L.used + (R.length : Nat)))) w.heap.size s3 ys) := ho3.cell hlt 5 _
  have w5 : IntKind.i64.wrap (L.used + (s3.n : Int)) = L.used + (s3.n : Int) := by rw [IntKind.wrap_i64]; have := HN.out.u0; have := HN.out.u1; have := HN.out.d1; have := HN.out.e1; have := HN.out.x0; have := HLn.out; omega
  have HM3 : Hid _ := hm3
  rw [hn3] at HT HO
  have HN3 : Hid _ := hn3
  clear hL3 hL4 hg hob ks kn ho3 hb3 hm3 hn3 w1 w2
  go_wp2
  go_ret
  refine ⟨s3, ys, rfl, HO.out, HM3.out, ?_⟩
  rw [HN3.out]
  exact HT.out
end
structure NewE13 (w : World) (o : Option LG) (e : Ending) (w' : World) : Prop where
  bel : Below w.heap.size w w'
  no : o = none → e = .returned (.pointer none)
  yes : ∀ L, o = some L → ∃ b, e = .returned (.pointer (some ⟨b, 0, none⟩)) ∧ w.heap.size ≤ b ∧ b < w'.heap.size ∧ Log13 w' b (fun k => w.heap.size ≤ k ∧ k < w'.heap.size) L
set_option maxRecDepth 100000 in
set_option maxHeartbeats 1000000 in
theorem new13_any (w : World) (ix t : Int) (s : Sl10) (es : List EntV) (hE : HasE w s es) (hl : s.n ≤ 837723144948) (hx : inI ix) :
    Calls Try.prog 7 #[.int .i64 ix, .int .i64 t, .slice s.p s.n s.c] w (NewE13 w (new13 ix t (es.map EntV.e))) := by
  unfold inI at hx
  by_cases h1 : ix < 0
  · have HF : Hid (new13 ix t (es.map EntV.e) = none) := if_neg (by omega)
    rw [HF.out]
    go_enter Try.func7, Try.ntmps7
    go_wp2
    go_ret
    exact ⟨Below.refl _ _, fun _ => rfl, fun _ h => by cases h⟩
  by_cases h2 : 1099511627776 < ix
  · have HF : Hid (new13 ix t (es.map EntV.e) = none) := if_neg (by omega)
    rw [HF.out]
    go_enter Try.func7, Try.ntmps7
    go_wp2
    go_ret
    exact ⟨Below.refl _ _, fun _ => rfl, fun _ h => by cases h⟩
  by_cases h3 : t < 0
  · have HF : Hid (new13 ix t (es.map EntV.e) = none) := if_neg (by omega)
    rw [HF.out]
    go_enter Try.func7, Try.ntmps7
    go_wp2
    go_ret
    exact ⟨Below.refl _ _, fun _ => rfl, fun _ h => by cases h⟩
  have kf := follow13_any w ix t s es hE (by omega) hx.1 hx.2
  have hnn := hE.n
  have HE : Hid (HasE w s es) := hE
  have hcc := hE.c
  cases hch : chain13 ix t (es.map EntV.e) with
  | false =>
    have HF : Hid (new13 ix t (es.map EntV.e) = none) := if_neg (by rw [hch]; intro h; exact Bool.noConfusion h.2.2.2)
    rw [HF.out]
    rw [hch] at kf
    go_enter Try.func7, Try.ntmps7
    go_wp2_with fail
    refine kf.mono ?_
    rintro _ w1 ⟨rfl, hb1⟩
    go_wp2
    go_ret
    exact ⟨hb1, fun _ => rfl, fun _ h => by cases h⟩
  | true =>
    have HF : Hid (new13 ix t (es.map EntV.e) = some ⟨ix, t, es.map EntV.e, ix, ix, ix + (es.map EntV.e).length⟩) := if_pos ⟨by omega, by omega, by omega, hch⟩
    have HI : Hid _ := (new_inv13 HF.out).1
    rw [HF.out]
    rw [hch] at kf
    have HFW : Hid (∀ e ∈ es, FewF e.f.f) := fun e he => goodE_few (chain_few hch e.e (List.mem_map_of_mem he))
    clear hch hE
    go_enter Try.func7, Try.ntmps7
    go_wp2_with fail
    refine kf.mono ?_
    rintro _ w1 ⟨rfl, hb1⟩
    have kc := copyAll13_any w1 s es (HE.out.below hb1) HFW.out hl
    have HB1 : Hid _ := hb1
    clear kf hb1
    go_wp2_with fail
    refine kc.mono ?_
    rintro _ w2 ⟨k, ys, rfl, hm, ho, hb2⟩
    have hz1 := HB1.out.size
    have hz2 := hb2.size
    have hB2 := HB1.out.trans (hb2.mono hz1)
    have hwr : IntKind.i64.wrap (ix + (s.n : Int)) = ix + (s.n : Int) := by rw [IntKind.wrap_i64]; omega
    have HM : Hid _ := hm
    have HO : Hid _ := ho
    have HB2 : Hid _ := hB2
    clear kc hm ho hb2 hB2 HB1
    go_wp2
    go_ret
    have hba : Below w2.heap.size w2 (w2.alloc (.cells #[.bool true, .int .i64 ix, .int .i64 t, .slice (some ⟨k, 0, none⟩) s.n s.n, .int .i64 ix, .int .i64 ix, .int .i64 (ix + (s.n : Int)), .int .i64 0] 62)) := (Below.refl _ _).alloc (Nat.le_refl _) _
    have hbox := heap_alloc_new w2 (.cells #[.bool true, .int .i64 ix, .int .i64 t, .slice (some ⟨k, 0, none⟩) s.n s.n, .int .i64 ix, .int .i64 ix, .int .i64 (ix + (s.n : Int)), .int .i64 0] 62)
    refine ⟨HB2.out.trans (hba.mono HB2.out.size), fun h => (by cases h), fun L hL => ⟨w2.heap.size, rfl, by omega, by simp, ⟨⟨some ⟨k, 0, none⟩, s.n, s.n⟩, ys, 0, ?_⟩⟩⟩
    obtain rfl := (Option.some.inj hL).symm
    have hO' := HO.out.below hba
    have hlm : (es.map EntV.e).length = s.n := by rw [List.length_map, hnn]
    refine ⟨?_, ?_, HM.out, HI.out, ?_, hl, Int.le_refl _, by decide⟩
    · rw [hbox]
      unfold logArr
      rw [hlm]
    · refine RowG.of_owns hO'.row (fun j h1 h2 => ⟨by omega, h2⟩) fun e he => ?_
      exact EntG.of_owns (hO'.all e he) fun j h1 h2 => ⟨by omega, h2⟩
    · show ix + ((es.map EntV.e).length : Int) ≤ _
      rw [hlm]; omega

set_option maxRecDepth 100000 in
set_option maxHeartbeats 1000000 in
theorem restore13_any {w : World} {b : Nat} {G : Nat → Prop} {s : Sl10} {es : List EntV} {g : Int} {L : LG} (h : LogG w b G s es g L) (i t : Int) (hi : inI i) :
    Calls Try.prog 38 #[.pointer (some ⟨b, 0, none⟩), .int .i64 i, .int .i64 t] w fun e w' => e = .returned (.tuple #[]) ∧ Turns13 w b G (L.restore i t) w' := by
  have kn := none13_any h
  have HH : Hid (LogG w b G s es g L) := h
  by_cases h1 : i < 1
  · have HF : Hid (L.restore i t = L) := if_neg (by omega)
    rw [HF.out]
    clear h
    go_enter Try.func38, Try.ntmps38
    go_wp2_with fail
    refine same_mono kn ?_
    go_wp2
    refine bodyPost_ret (results_none rfl _ _ _) rfl ?_
    exact ⟨rfl, .of_below HH.out.log (Below.refl _ _)⟩
  by_cases h2 : t < 1
  · have HF : Hid (L.restore i t = L) := if_neg (by omega)
    rw [HF.out]
    clear h
    go_enter Try.func38, Try.ntmps38
    go_wp2_with fail
    refine same_mono kn ?_
    go_wp2
    refine bodyPost_ret (results_none rfl _ _ _) rfl ?_
    exact ⟨rfl, .of_below HH.out.log (Below.refl _ _)⟩
  by_cases h3 : 1099511627776 < i
  · have HF : Hid (L.restore i t = L) := if_neg (by omega)
    rw [HF.out]
    clear h
    go_enter Try.func38, Try.ntmps38
    go_wp2_with fail
    refine same_mono kn ?_
    go_wp2
    refine bodyPost_ret (results_none rfl _ _ _) rfl ?_
    exact ⟨rfl, .of_below HH.out.log (Below.refl _ _)⟩
  have HF : Hid (L.restore i t = ⟨i, t, [], i, i, i⟩) := if_pos ⟨by omega, by omega, by omega⟩
  have hI := h.inv.restore i t
  rw [HF.out] at hI ⊢
  have HI : Hid _ := hI
  have knw := new13_any w i t nilS10 [] (HasE.nil w) (Nat.zero_le _) hi
  have hN : new13 i t (([] : List EntV).map EntV.e) = some ⟨i, t, [], i, i, i⟩ := by
    have : new13 i t (([] : List EntV).map EntV.e) = some ⟨i, t, [], i, i, i + (([] : List Ent10).length : Nat)⟩ := if_pos ⟨by omega, by omega, by omega, rfl⟩
    rw [this]
    simp
  rw [hN] at knw
  have hlt := h.lt
  clear h hI hN
  go_enter Try.func38, Try.ntmps38
  go_wp2_with fail
  refine same_mono kn ?_
  go_wp2_with fail
  refine knw.mono ?_
  rintro e w2 ⟨hb, -, hy⟩
  obtain ⟨b2, rfl, hb1, hb2, s2, es2, g2, hL2⟩ := hy _ rfl
  have hL1 := HH.out.below hb
  have c0 : w2.cell? ⟨b2, 0, none⟩ = some (.bool true) := box_cell hL2.obj 0
  have c1 : w2.cell? ⟨b2, 1, none⟩ = some (.int .i64 i) := box_cell hL2.obj 1
  have c2 : w2.cell? ⟨b2, 2, none⟩ = some (.int .i64 t) := box_cell hL2.obj 2
  have c3 : w2.cell? ⟨b2, 3, none⟩ = some (.slice s2.p s2.n s2.c) := box_cell hL2.obj 3
  have c4 : w2.cell? ⟨b2, 4, none⟩ = some (.int .i64 i) := box_cell hL2.obj 4
  have c5 : w2.cell? ⟨b2, 5, none⟩ = some (.int .i64 i) := box_cell hL2.obj 5
  have c6 : w2.cell? ⟨b2, 6, none⟩ = some (.int .i64 i) := box_cell hL2.obj 6
  have c7 : w2.cell? ⟨b2, 7, none⟩ = some (.int .i64 g2) := box_cell hL2.obj 7
  have d0 := box_cell hL1.obj 0
  have d1 := box_cell hL1.obj 1
  have d2 := box_cell hL1.obj 2
  have d3 := box_cell hL1.obj 3
  have d4 := box_cell hL1.obj 4
  have d5 := box_cell hL1.obj 5
  have d6 := box_cell hL1.obj 6
  have d7 := box_cell hL1.obj 7
  dsimp only [logArr] at d0 d1 d2 d3 d4 d5 d6 d7
  have ff := frozen9 hL1.obj
  have hlt1 := hL1.lt
  have HL2 : Hid _ := hL2
  have HL1 : Hid _ := hL1
  clear hL1 hL2 knw hy
  go_wp2
  have hg := setCells_grown b (logArr ⟨i, t, [], i, i, i⟩ s2 g2).toList 0 w2
  have hob : (w2.setCells b 0 (logArr ⟨i, t, [], i, i, i⟩ s2 g2).toList).heap[b]? = some (.cells (logArr ⟨i, t, [], i, i, i⟩ s2 g2) 62 (0, 0)) := setCells_box HL1.out.obj 0 _ _ (Nat.le_refl _) rfl
  have hst : ∀ t', t' ≠ 62 → Stay (fun k => w.heap.size ≤ k ∧ k < w2.heap.size) t' w2 (w2.setCells b 0 (logArr ⟨i, t, [], i, i, i⟩ s2 g2).toList) := fun t' hne => Stay.of_grown hg fun k hk a fr he => by
    cases hk
    rw [HL1.out.obj] at he
    simp only [Option.some.injEq, Obj.cells.injEq] at he
    exact hne he.2.1.symm
  have hz := hg.size
  have hT : Turns13 w b G ⟨i, t, [], i, i, i⟩ (w2.setCells b 0 (logArr ⟨i, t, [], i, i, i⟩ s2 g2).toList) := by
    refine ⟨⟨s2, es2, g2, hob, ?_, HL2.out.map, HI.out, HL2.out.top, HL2.out.sz, HL2.out.g0, HL2.out.g1⟩, (Turn.refl _ _).grown (grown_below13 hb hg) fun _ hk => .inl (.inl (Option.some.inj hk).symm)⟩
    refine (HL2.out.row.stay (hst _ (by decide)) (hst _ (by decide))).mono fun k hk => .inr ⟨hk.1, by omega⟩
  go_end0
  exact ⟨rfl, hT⟩
end Go.Proofs.Ytephoegcpjdglaa

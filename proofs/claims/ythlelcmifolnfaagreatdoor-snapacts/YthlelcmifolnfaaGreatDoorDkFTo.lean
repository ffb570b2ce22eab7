import Derived.Test.YthlelcmifolnfaaGreatDoorDkCTo
import Derived.Lib.SliceRun
import Derived.LaidEqlPtr
namespace Go.Proofs.YthlelcmifolnfaaGreatDoor
open Go.RowKit Go.Maps
def rowV (l : List (Nat × Nat)) : List Value := (l.map fun w => [Value.pointer (some ⟨w.1, 0, none⟩), .int .i64 (w.2 : Nat)]).flatten
theorem rowV_cons (w : Nat × Nat) (l : List (Nat × Nat)) : rowV (w :: l) = .pointer (some ⟨w.1, 0, none⟩) :: .int .i64 (w.2 : Nat) :: rowV l := rfl
theorem rowV_writes (φ : ByteArray → Nat) (l : List (ByteArray × Nat)) : writesV φ l = rowV (l.map fun w => (φ w.1, w.2)) := by
  unfold writesV rowV
  rw [List.map_map]
  rfl
theorem rowV_length : ∀ l : List (Nat × Nat), (rowV l).length = l.length * 2
  | [] => rfl
  | w :: l => by rw [rowV_cons, List.length_cons, List.length_cons, rowV_length l, List.length_cons]; omega
theorem rowV_file : ∀ {l : List (Nat × Nat)} {i : Nat}, i < l.length → (rowV l)[i * 2]? = some (.pointer (some ⟨(l.getD i default).1, 0, none⟩))
  | [], i, h => by cases h
  | w :: l, 0, _ => rfl
  | w :: l, i + 1, h => by
    rw [rowV_cons, show (i + 1) * 2 = i * 2 + 1 + 1 by omega, List.getElem?_cons_succ, List.getElem?_cons_succ, rowV_file (by simpa using h), List.getD_cons_succ]
theorem rowV_size : ∀ {l : List (Nat × Nat)} {i : Nat}, i < l.length → (rowV l)[i * 2 + 1]? = some (.int .i64 ((l.getD i default).2 : Nat))
  | [], i, h => by cases h
  | w :: l, 0, _ => rfl
  | w :: l, i + 1, h => by
    rw [rowV_cons, show (i + 1) * 2 + 1 = i * 2 + 1 + 1 + 1 by omega, List.getElem?_cons_succ, List.getElem?_cons_succ, rowV_size (by simpa using h), List.getD_cons_succ]
theorem rowV_set : ∀ (l : List (Nat × Nat)) (i : Nat) (x : Nat × Nat), ((rowV l).set (i * 2) (.pointer (some ⟨x.1, 0, none⟩))).set (i * 2 + 1) (.int .i64 (x.2 : Nat)) = rowV (l.set i x)
  | [], i, x => by simp [rowV]
  | p :: l, 0, x => rfl
  | p :: l, i + 1, x => by
    rw [rowV_cons, show (i + 1) * 2 = i * 2 + 1 + 1 by omega, List.set_cons_succ, List.set_cons_succ, List.set_cons_succ, List.set_cons_succ, rowV_set l i x, List.set_cons_succ, rowV_cons]
theorem rowV_take (l : List (Nat × Nat)) : ∀ k, rowV (l.take k) = (rowV l).take (k * 2) := by
  induction l with
  | nil => intro k; simp [rowV]
  | cons p l ih =>
    intro k
    cases k with
    | zero => simp [rowV]
    | succ k => rw [List.take_succ_cons, rowV_cons, ih k, rowV_cons, show (k + 1) * 2 = k * 2 + 1 + 1 by omega, List.take_succ_cons, List.take_succ_cons]

def OwnsW (w : World) (v : Value) (l : List (Nat × Nat)) : Prop := w.ownsRow 0 117 2 v l.length (rowV l)
theorem OwnsW.form {w : World} {v : Value} {l : List (Nat × Nat)} (h : OwnsW w v l) (h0 : 0 < l.length) : ∃ g cap, v = .slice (some ⟨g, 0, none⟩) l.length cap ∧ g < w.heap.size ∧ l.length ≤ cap ∧ (∀ i, i < l.length → w.cell? ⟨g, i * 2, none⟩ = some (.pointer (some ⟨(l.getD i default).1, 0, none⟩)) ∧ w.cell? ⟨g, i * 2 + 1, none⟩ = some (.int .i64 ((l.getD i default).2 : Nat))) ∧ (∀ j, w.frozen? ⟨g, j, none⟩ = false) ∧ (l.length : Int) ≤ 9223372036854775807 := by
  rcases h.2 with ⟨_, hn⟩ | ⟨g, cap, cur, rfl, hB, hg, hnc, hm, _, _⟩
  · omega
  · unfold maxLen at hm
    refine ⟨g, cap, rfl, (Array.getElem?_eq_some_iff.1 hg).1, hnc, fun i hi => ?_, World.ownsRow.frozenAt h, by omega⟩
    have hc := fun j u hj => World.ownsRow.cells h (g := g) rfl j u hj
    have h1 := hc _ _ (rowV_file hi)
    have h2 := hc _ _ (rowV_size hi)
    rw [Addr.add_lit, Nat.zero_add] at h1 h2
    exact ⟨h1, h2⟩
theorem OwnsW.len {w : World} {p : Option Addr} {n c : Nat} {l : List (Nat × Nat)} (h : OwnsW w (.slice p n c) l) : n = l.length := by
  rcases h.2 with ⟨e, hn⟩ | ⟨g, cap, cur, e, _⟩
  · simp only [Value.slice.injEq] at e; omega
  · simp only [Value.slice.injEq] at e; exact e.2.1
theorem OwnsW.set {w : World} {g n c : Nat} {l : List (Nat × Nat)} (h : OwnsW w (.slice (some ⟨g, 0, none⟩) n c) l) (i : Nat) (x : Nat × Nat) :
    OwnsW ((w.setCell ⟨g, i * 2, none⟩ (.pointer (some ⟨x.1, 0, none⟩))).setCell ⟨g, i * 2 + 1, none⟩ (.int .i64 (x.2 : Nat))) (.slice (some ⟨g, 0, none⟩) n c) (l.set i x) := by
  have hn := h.len
  subst hn
  obtain ⟨h1, g1⟩ := World.ownsRow.stored h (i * 2) (.pointer (some ⟨x.1, 0, none⟩))
  obtain ⟨h2, g2⟩ := World.ownsRow.stored h1 (i * 2 + 1) (.int .i64 (x.2 : Nat))
  unfold OwnsW
  rw [List.length_set, ← rowV_set]
  exact h2
theorem OwnsW.below {w w' : World} {v : Value} {l : List (Nat × Nat)} (h : OwnsW w v l) (hb : Below w.heap.size w w') : OwnsW w' v l := row_same h fun g hg => hb.block g (World.ownsRow.lt h g hg).2
theorem row_take {w : World} {B g n c k size : Nat} {e : TypeId} {xs : List Value} (h : w.ownsRow B e size (.slice (some ⟨g, 0, none⟩) n c) n xs) (hk : k ≤ n) : w.ownsRow B e size (.slice (some ⟨g, 0, none⟩) k c) k (xs.take (k * size)) := by
  have hkn : k * size ≤ n * size := Nat.mul_le_mul_right _ hk
  refine ⟨by rw [List.length_take, h.1]; omega, .inr ?_⟩
  rcases h.2 with ⟨e, _⟩ | ⟨g', cap, cur, e, hB, hg, hnc, hm, hs, ht⟩
  · cases e
  · simp only [Value.slice.injEq, Option.some.injEq, Addr.mk.injEq, and_true] at e
    obtain ⟨rfl, _, rfl⟩ := e
    refine ⟨g, c, cur, rfl, hB, hg, by omega, hm, hs, ?_⟩
    rw [← ht, List.take_take, Nat.min_eq_left hkn]
theorem row_clear {B g k c size : Nat} {e : TypeId} {xs : List Value} : ∀ (zs : List Value) (o : Nat) (w : World), w.ownsRow B e size (.slice (some ⟨g, 0, none⟩) k c) k xs → k * size ≤ o → (w.setCells g o zs).ownsRow B e size (.slice (some ⟨g, 0, none⟩) k c) k xs ∧ w.grownBy (w.setCells g o zs) (some g)
  | [], o, w, h, _ => ⟨h, rfl, rfl, rfl, Nat.le_refl _, fun _ _ _ => rfl⟩
  | z :: zs, o, w, h, ho => by
    obtain ⟨h1, g1⟩ := World.ownsRow.stored h o z
    rw [List.set_eq_of_length_le (by rw [h.1]; exact ho)] at h1
    obtain ⟨h2, g2⟩ := row_clear zs (o + 1) _ h1 (by omega)
    exact ⟨h2, ⟨g2.os.trans g1.os, g2.tape.trans g1.tape, g2.output.trans g1.output, Nat.le_trans g1.size g2.size, fun i hi hn => (g2.block i (Nat.lt_of_lt_of_le hi g1.size) hn).trans (g1.block i hi hn)⟩⟩
theorem clear_row {w : World} {g n c k : Nat} {l : List (Nat × Nat)} (h : OwnsW w (.slice (some ⟨g, 0, none⟩) n c) l) (hk : k ≤ n) (ty : TypeId) :
    ∃ w', (Builtin.clear_ #[103] ty #[.slice (some ⟨g, k * 2, none⟩) (n - k) (c - k)]).run Tryz.prog w = .ok (.tuple #[]) w' ∧ OwnsW w' (.slice (some ⟨g, 0, none⟩) k c) (l.take k) ∧ w.grownBy w' (some g) := by
  have hn := h.len
  subst hn
  have ht := row_take h hk
  have hl : (l.take k).length = k := by rw [List.length_take]; omega
  rcases Nat.eq_zero_or_pos (l.length - k) with h0 | h0
  · refine ⟨w, ?_, ?_, rfl, rfl, rfl, Nat.le_refl _, fun _ _ _ => rfl⟩
    · rw [h0]
      simp [Builtin.clear_, run_underlying Tryz.underlying103]
    · unfold OwnsW
      rw [hl, rowV_take]
      exact ht
  · obtain ⟨m, hm⟩ : ∃ m, l.length - k = m + 1 := ⟨l.length - k - 1, by omega⟩
    have hzl : (Builtin.zeroCells #[.pointer none, .int .i64 0] (l.length - k)).toList.length = (l.length - k) * 2 := by simp [Builtin.zeroCells]
    have hcell : ∀ j, j < (l.length - k) * 2 → (w.cell? ⟨g, k * 2 + j, none⟩).isSome = true := by
      intro j hj
      have hj' : k * 2 + j < (rowV l).length := by rw [rowV_length]; omega
      have := World.ownsRow.cells h (g := g) rfl (k * 2 + j) _ (List.getElem?_eq_getElem hj')
      rw [Addr.add_lit, Nat.zero_add] at this
      rw [this]
      rfl
    have hst := run_storeCells_cells (P := Tryz.prog) g (k * 2) (Builtin.zeroCells #[.pointer none, .int .i64 0] (l.length - k)).toList 0 w (by rw [hzl]; simpa using hcell) (fun j _ => World.ownsRow.frozenAt h _) (by
      intro v hv
      obtain ⟨i, hi, rfl⟩ := List.mem_iff_getElem.1 hv
      simp only [Builtin.zeroCells]
      rcases Nat.mod_two_eq_zero_or_one i with e | e <;> simp [e, Value.oneCell'])
    simp only [Nat.add_zero] at hst
    obtain ⟨r1, r2⟩ := row_clear (Builtin.zeroCells #[.pointer none, .int .i64 0] (l.length - k)).toList (k * 2) w ht (Nat.le_refl _)
    refine ⟨_, ?_, ?_, r2⟩
    · rw [hm] at hst ⊢
      simp [Builtin.clear_, run_underlying Tryz.underlying103, Value.cells, hst]
    · unfold OwnsW
      rw [hl, rowV_take]
      exact r1
def IsF (w : World) (k : Nat) : Prop := ∃ c, w.heap[k]? = some (.cells c 122 (0, 0))
theorem IsF.below {w w' : World} {k : Nat} (h : IsF w k) (hb : Below w.heap.size w w') : IsF w' k := by
  obtain ⟨c, hc⟩ := h
  exact ⟨c, (hb.block k (Array.getElem?_eq_some_iff.1 hc).1).trans hc⟩
theorem ptr_eq {W : World} {j k : Nat} (hj : IsF W j) (hk : IsF W k) : (binOp .eql 115 (.pointer (some ⟨j, 0, none⟩)) (.pointer (some ⟨k, 0, none⟩))).run Tryz.prog W = .ok (.bool (decide (j = k))) W := by
  obtain ⟨cj, hj⟩ := hj
  obtain ⟨ck, hk⟩ := hk
  obtain ⟨i, hi, hz, hs, hb⟩ := info_parts (show (Tryz.prog.info? 122).map (fun i => (i.zero, i.size, i.bytes)) = some (some (.agg #[.slice none 0 0, .int .i64 0]), 2, 32) by kernel_rfl)
  by_cases h : j = k
  · subst h
    rw [decide_eq_true rfl]
    exact run_eql_ptr_same W _ Tryz.underlying115 hi
  · rw [decide_eq_false h]
    exact run_eql_ptr_other W Tryz.underlying115 hi (by rw [hs]; decide) (by intro e; simp only [Addr.mk.injEq, and_true] at e; exact h e) hj hk
set_option maxRecDepth 10000 in
theorem drop1_any (j s k fb : Nat) (w : World) (hf : w.cell? ⟨fb, 0, none⟩ = some (.pointer (some ⟨k, 0, none⟩))) (hl : fb < w.heap.size) (hj : IsF w j) (hk : IsF w k) :
    Calls Tryz.prog 134 #[.agg #[.pointer (some ⟨j, 0, none⟩), .int .i64 (s : Nat)], .pointer (some ⟨fb, 0, none⟩)] w fun e w' => e = .returned (.bool (decide (j = k))) ∧ Below w.heap.size w w' := by
  have hpe := ptr_eq (hj.below ((Below.refl _ w).alloc (Nat.le_refl _) (.cells #[.pointer (some ⟨j, 0, none⟩), .int .i64 (s : Nat)] 117))) (hk.below ((Below.refl _ w).alloc (Nat.le_refl _) (.cells #[.pointer (some ⟨j, 0, none⟩), .int .i64 (s : Nat)] 117)))
  go_enter Tryz.func134, Tryz.ntmps134
  go_wp2
  go_ret
  exact ⟨rfl, (Below.refl _ _).alloc (Nat.le_refl _) _⟩
def IdxP (l : List (Nat × Nat)) (k : Nat) (e : Ending) : Prop := e = .returned (.int .i64 (-1)) ∧ (∀ x ∈ l, x.1 ≠ k) ∨ ∃ i, i < l.length ∧ e = .returned (.int .i64 (i : Nat)) ∧ (∀ x ∈ l.take i, x.1 ≠ k) ∧ (l.getD i default).1 = k

set_option maxRecDepth 10000 in
set_option maxHeartbeats 1000000 in
theorem index8 (l : List (Nat × Nat)) (v : Value) (k fb : Nat) (w : World) (h : OwnsW w v l) (hf : w.cell? ⟨fb, 0, none⟩ = some (.pointer (some ⟨k, 0, none⟩))) (hl : fb < w.heap.size) (hk : IsF w k) (hF : ∀ x ∈ l, IsF w x.1) :
    Calls Tryz.prog 167 #[v, .func (.func 134) #[] #[.pointer (some ⟨fb, 0, none⟩)]] w fun e w' => IdxP l k e ∧ Below w.heap.size w w' := by
  rcases Nat.eq_zero_or_pos l.length with h0 | h0
  · obtain rfl : l = [] := List.eq_nil_of_length_eq_zero h0
    obtain ⟨p, n, c, rfl, rfl⟩ : ∃ p n c, v = .slice p n c ∧ n = 0 := by
      rcases h.2 with ⟨rfl, _⟩ | ⟨g, cap, cur, rfl, _⟩
      · exact ⟨_, _, _, rfl, rfl⟩
      · exact ⟨_, _, _, rfl, rfl⟩
    go_enter Tryz.func167, Tryz.ntmps167
    go_wp2
    go_loop [8] (fun i => i = .int .i64 0) (fun _ => 0)
    case atStart => rfl
    case round =>
      subst hrel
      go_wp2
      go_ret
      exact ⟨.inl ⟨rfl, fun x hx => by cases hx⟩, Below.refl _ _⟩
  · obtain ⟨g, cap, rfl, hg, hc, -, -, hmax⟩ := h.form h0
    obtain ⟨n, Hn⟩ : ∃ n, Hid (l.length = n) := ⟨_, rfl⟩
    have h' := h
    rw [Hn.out] at h' hc hmax
    go_enter Tryz.func167, Tryz.ntmps167
    rw [Hn.out]
    go_wp2
    go_loopw [8] (fun i wr => ∃ j : Nat, j ≤ n ∧ i = .int .i64 (j : Nat) ∧ (∀ x ∈ l.take j, x.1 ≠ k) ∧ Below w.heap.size w wr) (fun i _ => n - (intOf i).toNat)
    case atStart => exact ⟨0, Nat.zero_le _, rfl, (fun x hx => by simp at hx), Below.refl _ _⟩
    case round =>
      obtain ⟨j, hj, rfl, hno, hb⟩ := hrel
      by_cases hlt : j < n
      · have hjl : j < l.length := by rw [Hn.out]; exact hlt
        obtain ⟨g', cap', e, -, -, hcell, -⟩ := (h.below hb).form h0
        simp only [Value.slice.injEq, Option.some.injEq, Addr.mk.injEq, and_true, true_and] at e
        obtain ⟨rfl, rfl⟩ := e
        obtain ⟨c1, c2⟩ := hcell j hjl
        have Ht : Hid (l.take (j + 1) = l.take j ++ [l.getD j default]) := by
          show _ = _
          rw [List.take_succ_eq_append_getElem hjl]
          simp [List.getD_eq_getElem?_getD, List.getElem?_eq_getElem hjl]
        have hfr : wr.cell? ⟨fb, 0, none⟩ = some (.pointer (some ⟨k, 0, none⟩)) := (hb.cell (p := ⟨fb, 0, none⟩) hl).trans hf
        have hlr : fb < wr.heap.size := Nat.lt_of_lt_of_le hl hb.size
        obtain ⟨x, Hx⟩ : ∃ x, Hid (l.getD j default = x) := ⟨_, rfl⟩
        rw [Hx.out] at c1 c2 Ht
        have hxF : IsF w x.1 := by rw [← Hx.out]; exact hF _ (by rw [List.getD_eq_getElem?_getD, List.getElem?_eq_getElem hjl]; exact List.getElem_mem hjl)
        obtain ⟨xf, xs⟩ := x
        dsimp only at c1 c2 hxF
        clear hcell
        go_wp2_with fail
        refine (drop1_any xf xs k fb _ hfr hlr (hxF.below hb) (hk.below hb)).mono ?_
        rintro e w1 ⟨rfl, hb1⟩
        by_cases hxk : xf = k
        · rw [decide_eq_true hxk]
          go_wp2
          go_ret
          exact ⟨.inr ⟨j, hjl, rfl, hno, by rw [Hx.out]; exact hxk⟩, hb.trans (hb1.mono hb.size)⟩
        · rw [decide_eq_false hxk]
          go_wp2
          go_roundw
          case rel =>
            refine ⟨j + 1, by omega, by go_num, fun x hx => ?_, hb.trans (hb1.mono hb.size)⟩
            rw [Ht.out] at hx
            rcases List.mem_append.1 hx with hx | hx
            · exact hno x hx
            · rw [List.mem_singleton.1 hx]; exact hxk
          case measure => simp only [intOf]; omega
      · have hjn : j = n := by omega
        subst hjn
        rw [← Hn.out, List.take_length] at hno
        go_wp2
        go_ret
        exact ⟨.inl ⟨rfl, hno⟩, hb⟩
def dropW (l : List (Nat × Nat)) (k : Nat) : List (Nat × Nat) := l.filter fun x => decide (x.1 ≠ k)
theorem dropW_append (l m : List (Nat × Nat)) (k : Nat) : dropW (l ++ m) k = dropW l k ++ dropW m k := List.filter_append ..
theorem dropW_none {l : List (Nat × Nat)} {k : Nat} (h : ∀ x ∈ l, x.1 ≠ k) : dropW l k = l := List.filter_eq_self.2 fun x hx => by simpa using h x hx
structure MidW (l cs : List (Nat × Nat)) (k i j : Nat) : Prop where
  len : cs.length = l.length
  lt : i < j
  le : j ≤ l.length
  head : cs.take i = dropW (l.take j) k
  tail : cs.drop j = l.drop j
theorem MidW.start {l : List (Nat × Nat)} {k i : Nat} (hi : i < l.length) (hno : ∀ x ∈ l.take i, x.1 ≠ k) (hk : (l.getD i default).1 = k) : MidW l l k i (i + 1) := by
  refine ⟨rfl, Nat.lt_succ_self _, hi, ?_, rfl⟩
  rw [List.take_succ_eq_append_getElem hi, dropW_append, dropW_none hno]
  have : (l[i]).1 = k := by rw [List.getD_eq_getElem?_getD, List.getElem?_eq_getElem hi] at hk; exact hk
  simp [dropW, this]
theorem MidW.at {l cs : List (Nat × Nat)} {k i j : Nat} (h : MidW l cs k i j) : cs.getD j default = l.getD j default := by
  have h1 : (cs.drop j)[0]? = (l.drop j)[0]? := by rw [h.tail]
  rw [List.getElem?_drop, List.getElem?_drop, Nat.add_zero] at h1
  rw [List.getD_eq_getElem?_getD, List.getD_eq_getElem?_getD, h1]
theorem MidW.stay {l cs : List (Nat × Nat)} {k i j : Nat} (h : MidW l cs k i j) (hj : j < l.length) {x : Nat × Nat} (hx : l.getD j default = x) (hk : x.1 ≠ k) : MidW l (cs.set i x) k (i + 1) (j + 1) := by
  have hlt := h.lt
  have hlen := h.len
  have hil : i < cs.length := by omega
  refine ⟨by rw [List.length_set]; exact h.len, by omega, hj, ?_, ?_⟩
  · have e1 : (cs.set i x).take (i + 1) = cs.take i ++ [x] := by
      rw [List.take_succ_eq_append_getElem (by rw [List.length_set]; exact hil), List.getElem_set_self, List.take_set_of_le (Nat.le_refl _)]
    have e2 : l[j] = x := by rw [List.getD_eq_getElem?_getD, List.getElem?_eq_getElem hj] at hx; exact hx
    rw [e1, h.head, List.take_succ_eq_append_getElem hj, dropW_append, e2]
    simp [dropW, hk]
  · rw [List.drop_set_of_lt (by omega)]
    have := congrArg (List.drop 1) h.tail
    rwa [List.drop_drop, List.drop_drop] at this
theorem MidW.goes {l cs : List (Nat × Nat)} {k i j : Nat} (h : MidW l cs k i j) (hj : j < l.length) {x : Nat × Nat} (hx : l.getD j default = x) (hk : x.1 = k) : MidW l cs k i (j + 1) := by
  have hlt := h.lt
  refine ⟨h.len, by omega, hj, ?_, ?_⟩
  · have e2 : l[j] = x := by rw [List.getD_eq_getElem?_getD, List.getElem?_eq_getElem hj] at hx; exact hx
    rw [h.head, List.take_succ_eq_append_getElem hj, dropW_append, e2]
    simp [dropW, hk]
  · have := congrArg (List.drop 1) h.tail
    rwa [List.drop_drop, List.drop_drop] at this
theorem IsF.turn {w w' : World} {k g : Nat} {v : Value} {l : List (Nat × Nat)} (h : IsF w k) (ho : OwnsW w v l) (hv : v.ownBlock = some g) (ht : Turn (fun b => b = g) w w') : IsF w' k := by
  obtain ⟨c, hc⟩ := h
  refine ⟨c, (ht.block k (Array.getElem?_eq_some_iff.1 hc).1 fun e => ?_).trans hc⟩
  exact row_apart ho hc (by decide) (by rw [hv, e])

set_option maxRecDepth 10000 in
set_option maxHeartbeats 2000000 in
theorem delete8 (l : List (Nat × Nat)) (v : Value) (k fb : Nat) (w : World) (h : OwnsW w v l) (hf : w.cell? ⟨fb, 0, none⟩ = some (.pointer (some ⟨k, 0, none⟩))) (hl : fb < w.heap.size) (hfb : v.ownBlock ≠ some fb) (hk : IsF w k) (hF : ∀ x ∈ l, IsF w x.1) :
    Calls Tryz.prog 133 #[v, .func (.func 134) #[] #[.pointer (some ⟨fb, 0, none⟩)]] w fun e w' => ∃ v', e = .returned v' ∧ OwnsW w' v' (dropW l k) ∧ v'.ownBlock = v.ownBlock ∧ w.grownBy w' v.ownBlock := by
  have hgb : ∀ {w' : World} {row : Option Nat}, Below w.heap.size w w' → w.grownBy w' row := fun hb => ⟨hb.os, hb.tape, hb.output, hb.size, fun i hi _ => hb.block i hi⟩
  rcases Nat.eq_zero_or_pos l.length with h0 | h0
  · obtain rfl : l = [] := List.eq_nil_of_length_eq_zero h0
    go_enter Tryz.func133, Tryz.ntmps133
    go_wp2_with fail
    refine (index8 [] v k fb _ h hf hl hk hF).mono ?_
    rintro e w1 ⟨hi, hb⟩
    rcases hi with ⟨rfl, _⟩ | ⟨i, hi, _⟩
    · go_wp2
      go_ret
      exact ⟨v, rfl, h.below hb, rfl, hgb hb⟩
    · cases hi
  · obtain ⟨g, cap, rfl, hg, hc, -, -, hmax⟩ := h.form h0
    obtain ⟨n, Hn⟩ : ∃ n, Hid (l.length = n) := ⟨_, rfl⟩
    have hidx := index8 l _ k fb w h hf hl hk hF
    rw [Hn.out] at hc hmax hidx
    have h' := h
    rw [Hn.out] at h'
    have hgfb : fb ≠ g := fun e => hfb (by rw [e]; rfl)
    go_enter Tryz.func133, Tryz.ntmps133
    rw [Hn.out]
    go_wp2_with fail
    refine hidx.mono ?_
    rintro e w1 ⟨hi, hb⟩
    rcases hi with ⟨rfl, hno⟩ | ⟨i, hi, rfl, hno, hik⟩
    · go_wp2
      go_ret
      refine ⟨_, rfl, ?_, rfl, hgb hb⟩
      rw [dropW_none hno]
      exact h'.below hb
    · have hmid := MidW.start hi hno hik
      rw [Hn.out] at hi
      have hii : ((i : Int) == -1) = false := by rw [beq_eq_false_iff_ne]; omega
      have ht0 : Turn (fun b => b = g) w w1 := Turn.of_below hb (Nat.le_refl _)
      have ho0 : OwnsW w1 (.slice (some ⟨g, 0, none⟩) n cap) l := h'.below hb
      clear hidx hno hik
      go_wp2
      go_loopw [5, 6] (fun a b wr => ∃ (i j : Nat) (cs : List (Nat × Nat)), a = .int .i64 (i : Nat) ∧ b = .int .i64 (j : Nat) ∧ Hid (MidW l cs k i j) ∧ OwnsW wr (.slice (some ⟨g, 0, none⟩) n cap) cs ∧ Turn (fun b => b = g) w wr) (fun _ b _ => n - (intOf b).toNat)
      case atStart => exact ⟨i, i + 1, l, rfl, by go_num, hmid, ho0, ht0⟩
      case round =>
        clear hmid ho0 ht0 hi hb hii
        obtain ⟨i, j, cs, rfl, rfl, hm, ho, ht⟩ := hrel
        have hjn : j ≤ n := by rw [← Hn.out]; exact hm.out.le
        have hij := hm.out.lt
        have hcl : Hid (cs.length = n) := hm.out.len.trans Hn.out
        by_cases hlt : j < n
        · have hjl : j < l.length := by rw [Hn.out]; exact hlt
          have hcs0 : 0 < cs.length := by rw [hcl.out]; omega
          obtain ⟨g', cap', e, -, -, hcell, hfz, -⟩ := ho.form hcs0
          simp only [Value.slice.injEq, Option.some.injEq, Addr.mk.injEq, and_true] at e
          obtain ⟨rfl, -, rfl⟩ := e
          obtain ⟨c1, c2⟩ := hcell j (by rw [hcl.out]; exact hlt)
          have hi1 : (wr.cell? ⟨g, i * 2, none⟩).isSome = true := by rw [(hcell i (by rw [hcl.out]; omega)).1]; rfl
          have hi2 : (wr.cell? ⟨g, i * 2 + 1, none⟩).isSome = true := by rw [(hcell i (by rw [hcl.out]; omega)).2]; rfl
          rw [hm.out.at] at c1 c2
          obtain ⟨x, Hx⟩ : ∃ x, Hid (l.getD j default = x) := ⟨_, rfl⟩
          rw [Hx.out] at c1 c2
          have hxF : IsF w x.1 := by rw [← Hx.out]; exact hF _ (by rw [List.getD_eq_getElem?_getD, List.getElem?_eq_getElem hjl]; exact List.getElem_mem hjl)
          obtain ⟨xf, xs⟩ := x
          dsimp only at c1 c2 hxF
          have hgw : g < wr.heap.size := Nat.lt_of_lt_of_le hg ht.size
          have hfr : wr.cell? ⟨fb, 0, none⟩ = some (.pointer (some ⟨k, 0, none⟩)) := (ht.cell (p := ⟨fb, 0, none⟩) hl hgfb).trans hf
          have hlr : fb < wr.heap.size := Nat.lt_of_lt_of_le hl ht.size
          have hxF' := hxF.turn h rfl ht
          have hkF' := hk.turn h rfl ht
          have hA := heap_alloc_new wr (.cells #[.pointer (some ⟨xf, 0, none⟩), .int .i64 (xs : Nat)] 117)
          have hba : Below wr.heap.size wr (wr.alloc (.cells #[.pointer (some ⟨xf, 0, none⟩), .int .i64 (xs : Nat)] 117)) := (Below.refl _ _).alloc (Nat.le_refl _) _
          have hza : (wr.alloc (.cells #[.pointer (some ⟨xf, 0, none⟩), .int .i64 (xs : Nat)] 117)).heap.size = wr.heap.size + 1 := by simp
          clear hcell
          go_wp2_with fail
          generalize wr.alloc (.cells #[.pointer (some ⟨xf, 0, none⟩), .int .i64 (xs : Nat)] 117) = wa at *
          refine (drop1_any xf xs k fb _ ((hba.cell (p := ⟨fb, 0, none⟩) hlr).trans hfr) (by omega) (hxF'.below hba) (hkF'.below hba)).mono ?_
          rintro e w2 ⟨rfl, hb2⟩
          have hA2 := (hb2.block _ (by omega)).trans hA
          have hb3 : Below wr.heap.size wr w2 := hba.trans (hb2.mono (by omega))
          clear hba hb2 hA hza
          have ho2 : OwnsW w2 (.slice (some ⟨g, 0, none⟩) n cap) cs := ho.below hb3
          have ht2 : Turn (fun b => b = g) w w2 := ht.trans (Turn.of_below hb3 (Nat.le_refl _))
          obtain ⟨g', cap', e, -, -, hcell, hfz2, -⟩ := ho2.form hcs0
          simp only [Value.slice.injEq, Option.some.injEq, Addr.mk.injEq, and_true] at e
          obtain ⟨rfl, -, rfl⟩ := e
          obtain ⟨d1, d2⟩ := hcell i (by rw [hcl.out]; omega)
          have b1 : w2.cell? ⟨wr.heap.size, 0, none⟩ = some (.pointer (some ⟨xf, 0, none⟩)) := cell_of hA2 rfl
          have b2 : w2.cell? ⟨wr.heap.size, 1, none⟩ = some (.int .i64 (xs : Nat)) := cell_of hA2 rfl
          generalize wr.heap.size = ab at *
          clear hA2 hb3 hcell c1 c2 hi1 hi2 hfz hfr hxF' hkF' ho ht
          by_cases hxk : xf = k
          · rw [decide_eq_true hxk]
            go_wp2
            go_roundw
            case rel => exact ⟨i, j + 1, cs, rfl, by go_num, hm.out.goes hjl Hx.out hxk, ho2, ht2⟩
            case measure => simp only [intOf]; omega
          · rw [decide_eq_false hxk]
            have hi64 : (i : Int) + 1 ≤ 9223372036854775807 := by omega
            go_wp2
            go_roundw
            case rel => exact ⟨i + 1, j + 1, cs.set i (xf, xs), by go_num, by go_num, hm.out.stay hjl Hx.out hxk, ho2.set i (xf, xs), (ht2.setCell (.inl rfl) _).setCell (.inl rfl) _⟩
            case measure => simp only [intOf]; omega
        · have hjn' : j = n := by omega
          subst hjn'
          have hin : i ≤ j := by omega
          have hcl2 := fun ty => clear_row ho (k := i) hin ty
          have Hd : Hid (cs.take i = dropW l k) := by
            show _ = _
            rw [hm.out.head, ← Hn.out, List.take_length]
          have hic : i < cap := by omega
          obtain ⟨w2, hrun, ho2, hg2⟩ := hcl2 0
          go_wp2
          go_ret
          refine ⟨_, rfl, by rw [← Hd.out]; exact ho2, rfl, ?_⟩
          exact ⟨hg2.os.trans ht.os, hg2.tape.trans ht.tape, hg2.output.trans ht.output, Nat.le_trans ht.size hg2.size, fun b hb hn => (hg2.block b (Nat.lt_of_lt_of_le hb ht.size) hn).trans (ht.block b hb fun e => hn (by rw [e]; rfl))⟩
end Go.Proofs.YthlelcmifolnfaaGreatDoor

import Derived.Test.YthlelcmifolnfaaGreatDoorDs1To
import Derived.Lib.SlBytesConst
import Derived.Test.YthlelcmifolnfaaGreatDoorDs0To
namespace Go.Proofs.YthlelcmifolnfaaGreatDoor
open Go.RowKit Go.Maps
theorem chN_cases {c : Nat} (h : chN c = true) : (97 ≤ c ∧ c ≤ 122) ∨ (48 ≤ c ∧ c ≤ 57) ∨ c = 46 ∨ c = 45 := by
  unfold chN letN digN at h
  simp only [Bool.or_eq_true, Bool.and_eq_true, decide_eq_true_eq, beq_iff_eq] at h
  omega
theorem chN_not {c : Nat} (h : chN c = false) : c < 45 ∨ c = 47 ∨ (57 < c ∧ c < 97) ∨ 122 < c := by
  unfold chN letN digN at h
  simp only [Bool.or_eq_false_iff, Bool.and_eq_false_iff, decide_eq_false_iff_not, beq_eq_false_iff_ne] at h
  omega
set_option maxRecDepth 10000 in
set_option maxHeartbeats 2000000 in
theorem rgood_dk (x : ByteArray) (hs : x.size ≤ maxLen) (w : World) : Calls Tryz.prog 89 #[.string x] w fun e w' => e = .returned (.bool (goodN x)) ∧ w' = w := by
  unfold maxLen at hs
  by_cases h0 : x.size = 0
  · have hg : goodN x = false := by unfold goodN; rw [h0]; rfl
    have h0' : (x.size : Int) < 1 := by omega
    rw [hg]
    go_enter Tryz.func89, Tryz.ntmps89
    go_wp2
    go_ret
    exact ⟨rfl, rfl⟩
  by_cases h24 : 24 < x.size
  · have hg : goodN x = false := by unfold goodN; rw [decide_eq_false (by omega : ¬ x.size ≤ 24)]; simp
    have h0' : ¬ (x.size : Int) < 1 := by omega
    have h24' : (24 : Int) < x.size := by omega
    rw [hg]
    go_enter Tryz.func89, Tryz.ntmps89
    go_wp2
    go_ret
    exact ⟨rfl, rfl⟩
  have hp : 0 < x.size := by omega
  have h0' : (1 : Int) ≤ x.size := by omega
  have h24' : (x.size : Int) ≤ 24 := by omega
  have he : goodN x = (letN x[0].toNat && x.data.toList.all fun c => chN c.toNat) := by
    unfold goodN
    rw [decide_eq_true (by omega : 1 ≤ x.size), decide_eq_true (by omega : x.size ≤ 24)]
    simp [List.getD_eq_getElem?_getD, List.getElem?_eq_getElem (by simpa using hp : 0 < x.data.toList.length)]
    rfl
  have hlt : (x[0].toNat : Int) < 97 ∨ (122 : Int) < x[0].toNat ∨ ((97 : Int) ≤ x[0].toNat ∧ (x[0].toNat : Int) ≤ 122) := by omega
  rcases hlt with hlt | hlt | ⟨hl1, hl2⟩
  · have hlet : letN x[0].toNat = false := by unfold letN; rw [decide_eq_false (by omega)]; rfl
    rw [hlet, Bool.false_and] at he
    rw [he]
    clear he hlet
    go_enter Tryz.func89, Tryz.ntmps89
    go_wp2
    go_ret
    exact ⟨rfl, rfl⟩
  · have hlet : letN x[0].toNat = false := by unfold letN; rw [decide_eq_false (by omega : ¬ x[0].toNat ≤ 122), Bool.and_false]
    have hl1 : (97 : Int) ≤ x[0].toNat := by omega
    rw [hlet, Bool.false_and] at he
    rw [he]
    clear he hlet
    go_enter Tryz.func89, Tryz.ntmps89
    go_wp2
    go_ret
    exact ⟨rfl, rfl⟩
  · have hlet : letN x[0].toNat = true := by unfold letN; rw [decide_eq_true (by omega), decide_eq_true (by omega)]; rfl
    rw [hlet, Bool.true_and] at he
    have he' : Hid (goodN x = x.data.toList.all fun c => chN c.toNat) := he
    clear he hlet
    go_enter Tryz.func89, Tryz.ntmps89
    go_wp2
    go_loop [3] (fun i => ∃ k : Nat, k ≤ x.size ∧ i = .int .i64 k ∧ Hid (((x.data.toList.take k).all fun c => chN c.toNat) = true)) (fun i => x.size - (intOf i).toNat)
    case atStart => exact ⟨0, Nat.zero_le _, rfl, rfl⟩
    case round =>
      obtain ⟨k, hk, rfl, ha⟩ := hrel
      by_cases hlt : k < x.size
      · have HS : Hid (((x.data.toList.take (k + 1)).all fun c => chN c.toNat) = chN x[k].toNat) := by
          show _ = _
          rw [take_snoc8 x k hlt, List.all_append, ha.out]
          simp
        have HF : Hid (chN x[k].toNat = false → goodN x = false) := by
          intro hc
          rw [he'.out, ← List.take_append_drop (k + 1) x.data.toList, List.all_append, HS.out, hc, Bool.false_and]
        clear he'
        generalize hxc : x[k].toNat = c at *
        cases hc : chN c with
        | true =>
          have HS' : Hid (((x.data.toList.take (k + 1)).all fun c => chN c.toNat) = true) := HS.out.trans hc
          have Hc := chN_cases hc
          clear HS HF hc
          rcases Hc with ⟨q1, q2⟩ | ⟨q1, q2⟩ | q | q
          · have p1 : (97 : Int) ≤ c := by omega
            have p2 : (c : Int) ≤ 122 := by omega
            go_wp2
            go_round
            case rel => exact ⟨k + 1, by omega, by go_num, HS'⟩
            case measure => simp only [intOf]; omega
          · have p1 : (c : Int) < 97 := by omega
            have p2 : (48 : Int) ≤ c := by omega
            have p3 : (c : Int) ≤ 57 := by omega
            go_wp2
            go_round
            case rel => exact ⟨k + 1, by omega, by go_num, HS'⟩
            case measure => simp only [intOf]; omega
          · subst q
            go_wp2
            go_round
            case rel => exact ⟨k + 1, by omega, by go_num, HS'⟩
            case measure => simp only [intOf]; omega
          · subst q
            go_wp2
            go_round
            case rel => exact ⟨k + 1, by omega, by go_num, HS'⟩
            case measure => simp only [intOf]; omega
        | false =>
          have Hg : Hid (goodN x = false) := HF.out hc
          have Hc := chN_not hc
          clear HS HF hc
          rcases Hc with q | q | ⟨q1, q2⟩ | q
          · have p1 : (c : Int) < 48 := by omega
            have p2 : (c : Int) < 97 := by omega
            have e46 : ((c : Int) == 46) = false := by rw [beq_eq_false_iff_ne]; omega
            have e45 : ((c : Int) == 45) = false := by rw [beq_eq_false_iff_ne]; omega
            go_wp2
            go_ret
            refine ⟨?_, rfl⟩
            rw [Hg.out]
            rfl
          · subst q
            go_wp2
            go_ret
            refine ⟨?_, rfl⟩
            rw [Hg.out]
            rfl
          · have p1 : (c : Int) < 97 := by omega
            have p2 : (48 : Int) ≤ c := by omega
            have p3 : decide ((c : Int) ≤ 57) = false := decide_eq_false (by omega)
            have e46 : ((c : Int) == 46) = false := by rw [beq_eq_false_iff_ne]; omega
            have e45 : ((c : Int) == 45) = false := by rw [beq_eq_false_iff_ne]; omega
            go_wp2
            go_ret
            refine ⟨?_, rfl⟩
            rw [Hg.out]
            rfl
          · have p1 : decide ((c : Int) ≤ 122) = false := decide_eq_false (by omega)
            have p2 : (97 : Int) ≤ c := by omega
            have p3 : (48 : Int) ≤ c := by omega
            have p4 : decide ((c : Int) ≤ 57) = false := decide_eq_false (by omega)
            have e46 : ((c : Int) == 46) = false := by rw [beq_eq_false_iff_ne]; omega
            have e45 : ((c : Int) == 45) = false := by rw [beq_eq_false_iff_ne]; omega
            go_wp2
            go_ret
            refine ⟨?_, rfl⟩
            rw [Hg.out]
            rfl
      · have hkn : k = x.size := by omega
        have hg : goodN x = true := by
          rw [he'.out, ← List.take_of_length_le (l := x.data.toList) (i := k) (by rw [hkn]; exact Nat.le_refl _)]
          exact ha.out
        have Hg : Hid (goodN x = true) := hg
        clear ha he' hg
        go_wp2
        go_ret
        refine ⟨?_, rfl⟩
        rw [Hg.out]
        rfl
section
variable {w w' : World} {S T T' : Nat → Prop} {g : Nat} {us : List Value} {bs : List (List Int)}
end
section
variable {w0 w w' : World} {d ga gs : Nat} {S : Nat → Prop} {M M' : DM} {us vs : List Value} {A B : List (List Int)}
end
theorem oneB (xs : List Int) : ∀ u ∈ cellsB xs, u.oneCell' = true := fun u hu => by
  obtain ⟨x, _, rfl⟩ := List.mem_map.1 hu
  rfl
theorem below_grown8 {B0 B : Nat} {w W w' : World} {e : TypeId} {size n : Nat} {v : Value} {xs : List Value} (h : Below B0 w W) (hown : W.ownsRow B e size v n xs) (hg : W.grownBy w' v.ownBlock) (hB : B0 ≤ B) (hB0 : B0 ≤ W.heap.size) : Below B0 w w' :=
  h.trans ⟨hg.os, hg.tape, hg.output, hg.size, fun k hk => hg.block k (by omega) fun e => by
    have := (World.ownsRow.lt hown k e.symm).1
    omega⟩
theorem step_fresh8 {ops : Array Oper} {o : Oper} {a : Act} {K : Act → World → Prop} {Q : Exit → Act → World → Prop} {E : Prop} (W : World) (hgd : o.guard = none) (s x : Operand)
    (ho : o.op = .call { callee := .builtin .append, args := #[s, x], argTypes := #[25, 25] })
    {w6 : World} (hx : Below w6.heap.size w6 W) (v u : Value) (xs ys : List Int) (hs : a.eval s = v) (hu : a.eval x = u) (hz : Has w6 u ys) (hown : Owns W w6.heap.size 5 v xs) (hlen : xs.length + ys.length ≤ 1099511627776)
    (h : ∀ v' w', Owns w' w6.heap.size 5 v' (xs ++ ys) → Below w6.heap.size w6 w' → K (a.put o.dst v') w') :
    if Region.wanted o (yielded ops a.tmps) = true then Oper.wp Tryz.prog o a W K Q else E := by
  have hw : Region.wanted o (yielded ops a.tmps) = true := by simp [Region.wanted, hgd]
  rw [if_pos hw]
  obtain ⟨v', w', hr, h1, h2, _⟩ := run_row elemB W o.type w6.heap.size v u xs.length ys.length (cellsB xs) (cellsB ys) (hasR_of_has (hz.below hx (Nat.le_refl _))) (oneB ys) hown (by omega) (by omega) hx.size
  unfold Oper.wp execOp
  simp only [ho, resolve, invoke, builtin, Sem.run_bind, Sem.run_pure, Result.andThen_ok, List.map_toArray, List.map_cons, List.map_nil, hs, hu, hr]
  refine h v' w' ?_ (below_grown8 hx hown h2 (Nat.le_refl _) hx.size)
  unfold Owns
  rw [List.length_append, show cellsB (xs ++ ys) = cellsB xs ++ cellsB ys by simp [cellsB]]
  exact h1
theorem owns_none8 (w : World) : Owns (w.alloc (.cells #[] 5)).drew w.heap.size 5 (.slice (some ⟨w.heap.size, 0, none⟩) 0 0) [] := World.ownsRow_made w #[] 0 (Nat.le_refl _) (by decide) rfl
theorem ext_drew8 (w : World) : Below w.heap.size w w.drew := ⟨rfl, rfl, rfl, Nat.le_refl _, fun _ _ => rfl⟩
theorem ext_alloc8 {w W : World} (h : Below w.heap.size w W) (o : Obj) : Below w.heap.size w (W.alloc o) := h.alloc h.size o
theorem ext_on8 {w W : World} (h : Below w.heap.size w W) : Below w.heap.size w W.drew := ⟨h.os, h.tape, h.output, h.size, h.block⟩
abbrev Tr := ByteArray × Value × List Int
instance : Inhabited Tr := ⟨(ByteArray.empty, undef, [])⟩
def trs : List Tr → List Value
  | [] => []
  | f :: r => .string f.1 :: f.2.1 :: trs r
def trM (t : List Tr) : List (ByteArray × List Int) := t.map fun f => (f.1, f.2.2)
theorem trs_length : ∀ t : List Tr, (trs t).length = t.length * 2
  | [] => rfl
  | f :: r => by rw [trs, List.length_cons, List.length_cons, trs_length r, List.length_cons]; omega
theorem trs_append (s t : List Tr) : trs (s ++ t) = trs s ++ trs t := by
  induction s with
  | nil => rfl
  | cons f r ih => rw [List.cons_append, trs, trs, ih]; rfl
theorem trs_at : ∀ {t : List Tr} {i : Nat}, i < t.length → (trs t)[i * 2]? = some (.string (t.getD i default).1) ∧ (trs t)[i * 2 + 1]? = some (t.getD i default).2.1
  | [], i, h => by simp at h
  | f :: r, 0, _ => ⟨rfl, rfl⟩
  | f :: r, i + 1, h => by
    have := trs_at (t := r) (i := i) (by simpa using h)
    rw [show (i + 1) * 2 = i * 2 + 1 + 1 by omega, trs]
    simpa using this
structure RefLies (w : World) (r : Nat) (S : Nat → Prop) (vl vb : Value) (tl tb : List Tr) (blocks : Nat) (off : Bool) (ops : Nat) (n keep : Int) : Prop where
  blk : w.heap[r]? = some (.cells #[.int .i64 (blocks : Nat), vl, vb, .bool off, .int .i64 (ops : Nat), .int .i64 n, .int .i64 keep] 75 (0, 0))
  rowL : w.ownsRow 0 125 2 vl tl.length (trs tl)
  rowB : w.ownsRow 0 126 2 vb tb.length (trs tb)
  sR : S r
  sL : ∀ g, vl.ownBlock = some g → S g
  sB : ∀ g, vb.ownBlock = some g → S g
  byL : ∀ f ∈ tl, Owns w 0 5 f.2.1 f.2.2 ∧ ∀ g, f.2.1.ownBlock = some g → S g
  byB : ∀ f ∈ tb, Owns w 0 5 f.2.1 f.2.2 ∧ ∀ g, f.2.1.ownBlock = some g → S g
section
variable {w w' : World} {r : Nat} {S S' : Nat → Prop} {vl vb : Value} {tl tb : List Tr} {blocks : Nat} {off : Bool} {ops : Nat} {n keep : Int}
theorem RefLies.lt (h : RefLies w r S vl vb tl tb blocks off ops n keep) : r < w.heap.size := (Array.getElem?_eq_some_iff.1 h.blk).1
theorem RefLies.cells (h : RefLies w r S vl vb tl tb blocks off ops n keep) : w.cell? ⟨r, 0, none⟩ = some (.int .i64 (blocks : Nat)) ∧ w.cell? ⟨r, 1, none⟩ = some vl ∧ w.cell? ⟨r, 2, none⟩ = some vb ∧ w.cell? ⟨r, 3, none⟩ = some (.bool off) ∧ w.cell? ⟨r, 4, none⟩ = some (.int .i64 (ops : Nat)) ∧ w.cell? ⟨r, 5, none⟩ = some (.int .i64 n) ∧ w.cell? ⟨r, 6, none⟩ = some (.int .i64 keep) := by
  have hb := h.blk
  refine ⟨?_, ?_, ?_, ?_, ?_, ?_, ?_⟩ <;> simp [World.cell?, hb]
theorem RefLies.free (h : RefLies w r S vl vb tl tb blocks off ops n keep) (i : Nat) : w.frozen? ⟨r, i, none⟩ = false := by simp [World.frozen?, h.blk]
theorem RefLies.same (h : RefLies w r S vl vb tl tb blocks off ops n keep) (hs : ∀ k, k < w.heap.size → S k → w'.heap[k]? = w.heap[k]?) : RefLies w' r S vl vb tl tb blocks off ops n keep :=
  ⟨(hs r h.lt h.sR).trans h.blk, row_same h.rowL fun g hg => hs g (World.ownsRow.lt h.rowL g hg).2 (h.sL g hg), row_same h.rowB fun g hg => hs g (World.ownsRow.lt h.rowB g hg).2 (h.sB g hg), h.sR, h.sL, h.sB,
    fun f hf => ⟨row_same (h.byL f hf).1 fun g hg => hs g (World.ownsRow.lt (h.byL f hf).1 g hg).2 ((h.byL f hf).2 g hg), (h.byL f hf).2⟩,
    fun f hf => ⟨row_same (h.byB f hf).1 fun g hg => hs g (World.ownsRow.lt (h.byB f hf).1 g hg).2 ((h.byB f hf).2 g hg), (h.byB f hf).2⟩⟩
theorem RefLies.below (h : RefLies w r S vl vb tl tb blocks off ops n keep) (hb : Below w.heap.size w w') : RefLies w' r S vl vb tl tb blocks off ops n keep := h.same fun k hk _ => hb.block k hk
theorem RefLies.mono (h : RefLies w r S vl vb tl tb blocks off ops n keep) (hS : ∀ k, k < w.heap.size → S k → S' k) : RefLies w r S' vl vb tl tb blocks off ops n keep :=
  ⟨h.blk, h.rowL, h.rowB, hS r h.lt h.sR, fun g hg => hS g (World.ownsRow.lt h.rowL g hg).2 (h.sL g hg), fun g hg => hS g (World.ownsRow.lt h.rowB g hg).2 (h.sB g hg),
    fun f hf => ⟨(h.byL f hf).1, fun g hg => hS g (World.ownsRow.lt (h.byL f hf).1 g hg).2 ((h.byL f hf).2 g hg)⟩,
    fun f hf => ⟨(h.byB f hf).1, fun g hg => hS g (World.ownsRow.lt (h.byB f hf).1 g hg).2 ((h.byB f hf).2 g hg)⟩⟩
end
def RefAt (w : World) (r : Nat) (S : Nat → Prop) (M : DM) : Prop :=
  ∃ vl vb tl tb n, RefLies w r S vl vb tl tb M.blocks M.off M.ops n M.keep ∧ trM tl = M.L ∧ trM tb = M.buf ∧ n.toNat = M.n
theorem tr_at {w : World} {e : TypeId} {v : Value} {t : List Tr} (h : w.ownsRow 0 e 2 v t.length (trs t)) {i : Nat} (hi : i < t.length) :
    ∃ g c, v = .slice (some ⟨g, 0, none⟩) t.length c ∧ t.length ≤ c ∧ g < w.heap.size ∧ w.cell? ⟨g, i * 2, none⟩ = some (.string (t.getD i default).1) ∧ w.cell? ⟨g, i * 2 + 1, none⟩ = some (t.getD i default).2.1 := by
  rcases id h.2 with ⟨rfl, hn⟩ | ⟨g, cap, cur, rfl, hB, hg, hnc, _, _, _⟩
  · omega
  · have h1 := trs_at hi
    refine ⟨g, cap, rfl, hnc, (World.ownsRow.lt h g rfl).2, ?_, ?_⟩
    · rw [World.ownsRow.cellAt h (i * 2) (by omega)]
      exact h1.1
    · rw [World.ownsRow.cellAt h (i * 2 + 1) (by omega)]
      exact h1.2
theorem tr_shape {w : World} {e : TypeId} {v : Value} {t : List Tr} (h : w.ownsRow 0 e 2 v t.length (trs t)) : ∃ p c, v = .slice p t.length c ∧ t.length ≤ c := by
  rcases id h.2 with ⟨rfl, hn⟩ | ⟨g, cap, cur, rfl, hB, hg, hnc, _, _, _⟩
  · exact ⟨none, 0, by rw [hn], by omega⟩
  · exact ⟨_, _, rfl, hnc⟩

theorem needs_any (m : Nat) (w : World) (hm : m ≤ 140737488355328) : Calls Tryz.prog 95 #[.int .i64 (m : Nat)] w fun e w' => e = .returned (.int .i64 (need m : Nat)) ∧ w' = w := by
  have hq : ((m : Int).tdiv 64) = ((m / 64 : Nat) : Int) := by rw [Int.tdiv_eq_ediv_of_nonneg (by omega)]; omega
  obtain ⟨q, hq'⟩ : ∃ q : Nat, q = m / 64 := ⟨_, rfl⟩
  have hqb : (q : Int) ≤ 140737488355328 := by omega
  rw [← hq'] at hq
  unfold need
  rw [← hq']
  clear hq'
  go_enter Tryz.func95, Tryz.ntmps95
  go_wp2
  go_ret
  refine ⟨?_, rfl⟩
  simp
set_option maxRecDepth 10000 in
set_option maxHeartbeats 1000000 in
theorem rfind_any {w : World} {r : Nat} {S : Nat → Prop} {vl vb : Value} {tl tb : List Tr} {blocks : Nat} {off : Bool} {ops : Nat} {n keep : Int} (h : RefLies w r S vl vb tl tb blocks off ops n keep) (hl : tl.length ≤ 1099511627776) (x : ByteArray) :
    Calls Tryz.prog 83 #[.pointer (some ⟨r, 0, none⟩), .string x] w fun e w' => (∃ z : Int, e = .returned (.int .i64 z) ∧ ((z = -1 ∧ x ∉ nms (trM tl)) ∨ ∃ i : Nat, z = (i : Int) ∧ i < tl.length ∧ (tl.getD i default).1 = x ∧ x ∉ nms (trM (tl.take i)))) ∧ Below w.heap.size w w' := by
  obtain ⟨-, c1, -⟩ := h.cells
  have hlt := h.lt
  obtain ⟨p, c, rfl, hc⟩ := tr_shape h.rowL
  go_enter Tryz.func83, Tryz.ntmps83
  go_wp2
  go_loopw [12] (fun t wr => ∃ j : Nat, j ≤ tl.length ∧ t = .int .i64 (j : Nat) ∧ Hid (x ∉ nms (trM (tl.take j))) ∧ Below w.heap.size w wr) (fun t _ => tl.length - (intOf t).toNat)
  case atStart => exact ⟨0, by omega, rfl, (by show x ∉ ([] : List ByteArray); simp), Below.refl _ _⟩
  case round =>
    obtain ⟨j, hj, rfl, hno, hb⟩ := hrel
    by_cases hjl : j < tl.length
    · obtain ⟨g, c', e, _, hg, d0, d1⟩ := tr_at (h.below hb).rowL hjl
      simp only [Value.slice.injEq] at e
      obtain ⟨rfl, -, rfl⟩ := e
      have htk : Hid (nms (trM (tl.take (j + 1))) = nms (trM (tl.take j)) ++ [(tl.getD j default).1]) := by
        show _ = _
        rw [List.take_succ_eq_append_getElem hjl, List.getD_eq_getElem?_getD, List.getElem?_eq_getElem hjl]
        unfold nms trM
        rw [List.map_append, List.map_append]
        rfl
      obtain ⟨pu, cu, hu⟩ := (h.byL (tl.getD j default) (by rw [List.getD_eq_getElem?_getD, List.getElem?_eq_getElem hjl]; exact List.getElem_mem hjl)).1.shape
      rw [hu] at d1
      generalize (tl.getD j default).2.2.length = lu at *
      clear hu
      by_cases hx : (tl.getD j default).1 = x
      · have hfound : Hid ((tl.getD j default).1 = x) := hx
        rw [hx] at d0
        clear htk hx c1
        go_wp2
        go_ret
        exact ⟨⟨j, rfl, .inr ⟨j, rfl, hjl, hfound.out, hno.out⟩⟩, hb.alloc (by have := hb.size; omega) _⟩
      · have hne := str_ne8 hx
        have hno' : Hid (x ∉ nms (trM (tl.take (j + 1)))) := by
          show _ ∉ _
          rw [htk.out]
          exact fun h => (List.mem_append.1 h).elim hno.out fun h => hx (List.mem_singleton.1 h).symm
        clear htk hx c1 hno
        generalize (tl.getD j default).1 = y at *
        go_wp2
        go_roundw
        case rel => exact ⟨j + 1, by omega, by simp, hno', hb.alloc (by have := hb.size; omega) _⟩
        case measure => simp only [intOf]; omega
    · obtain rfl : j = tl.length := by omega
      have hno' : Hid (x ∉ nms (trM tl)) := by
        have := hno.out
        rwa [List.take_length] at this
      clear hno
      go_wp2
      go_ret
      exact ⟨⟨-1, rfl, .inl ⟨rfl, hno'.out⟩⟩, hb⟩
theorem tot_take {t : List Tr} {j : Nat} (h : j < t.length) : tot (trM (t.take (j + 1))) = tot (trM (t.take j)) + (t.getD j default).2.2.length := by
  rw [List.take_succ_eq_append_getElem h, List.getD_eq_getElem?_getD, List.getElem?_eq_getElem h]
  unfold trM
  rw [List.map_append, tot_append]
  rfl
theorem tot_take_le (t : List Tr) (j : Nat) : tot (trM (t.take j)) ≤ tot (trM t) := by
  conv => rhs; rw [← List.take_append_drop j t]
  unfold trM
  rw [List.map_append, tot_append]
  omega
section
variable {w : World} {r : Nat} {S : Nat → Prop} {vl vb : Value} {tl tb : List Tr} {blocks : Nat} {off : Bool} {ops : Nat} {n keep : Int}
set_option maxRecDepth 10000 in
set_option maxHeartbeats 1000000 in
theorem rpending_any (h : RefLies w r S vl vb tl tb blocks off ops n keep) (hl : tb.length ≤ 1099511627776) (ht : tot (trM tb) ≤ 1099511627776) :
    Calls Tryz.prog 129 #[.pointer (some ⟨r, 0, none⟩)] w fun e w' => e = .returned (.int .i64 (tot (trM tb) : Nat)) ∧ Below w.heap.size w w' := by
  obtain ⟨-, -, c2, -⟩ := h.cells
  have hlt := h.lt
  obtain ⟨p, c, rfl, hc⟩ := tr_shape h.rowB
  have ht' : Hid (tot (trM tb) ≤ 1099511627776) := ht
  clear ht
  go_enter Tryz.func129, Tryz.ntmps129
  go_wp2
  go_loopw [11, 3] (fun t s wr => ∃ j : Nat, j ≤ tb.length ∧ t = .int .i64 (j : Nat) ∧ s = .int .i64 ((tot (trM (tb.take j)) : Nat) : Int) ∧ Below w.heap.size w wr) (fun t _ _ => tb.length - (intOf t).toNat)
  case atStart => exact ⟨0, by omega, rfl, rfl, Below.refl _ _⟩
  case round =>
    obtain ⟨j, hj, rfl, rfl, hb⟩ := hrel
    by_cases hjl : j < tb.length
    · obtain ⟨g, c', e, _, hg, d0, d1⟩ := tr_at (h.below hb).rowB hjl
      simp only [Value.slice.injEq] at e
      obtain ⟨rfl, -, rfl⟩ := e
      obtain ⟨pu, cu, hu⟩ := (h.byB (tb.getD j default) (by rw [List.getD_eq_getElem?_getD, List.getElem?_eq_getElem hjl]; exact List.getElem_mem hjl)).1.shape
      rw [hu] at d1
      have hst : Hid (tot (trM (tb.take (j + 1))) = tot (trM (tb.take j)) + (tb.getD j default).2.2.length) := tot_take hjl
      have hb1 : tot (trM (tb.take j)) + (tb.getD j default).2.2.length ≤ 1099511627776 := by
        have := tot_take_le tb (j + 1)
        have := ht'.out
        have := hst.out
        omega
      generalize (tb.getD j default).2.2.length = lu at *
      generalize (tb.getD j default).1 = y at *
      generalize tot (trM (tb.take j)) = tj at *
      clear hu c2
      go_wp2
      go_roundw
      case rel => exact ⟨j + 1, by omega, by simp, by rw [hst.out]; simp, hb.alloc (by have := hb.size; omega) _⟩
      case measure => simp only [intOf]; omega
    · obtain rfl : j = tb.length := by omega
      rw [List.take_length]
      clear c2
      go_wp2
      go_ret
      exact ⟨rfl, hb⟩
end
theorem pend_take {t : List Tr} {j : Nat} (h : j < t.length) (x : ByteArray) : pend (trM (t.take (j + 1))) x = pend (trM (t.take j)) x ++ (if (t.getD j default).1 = x then (t.getD j default).2.2 else []) := by
  rw [List.take_succ_eq_append_getElem h, List.getD_eq_getElem?_getD, List.getElem?_eq_getElem h]
  unfold trM
  rw [List.map_append, pend_append]
  simp [pend]
theorem getD_mem8 {t : List Tr} {j : Nat} (h : j < t.length) : t.getD j default ∈ t := by
  rw [List.getD_eq_getElem?_getD, List.getElem?_eq_getElem h]
  exact List.getElem_mem h
theorem cellsB_one8 (xs : List Int) : ∀ u ∈ cellsB xs, u.oneCell' = true := oneB xs
section
variable {w : World} {r : Nat} {S : Nat → Prop} {vl vb : Value} {tl tb : List Tr} {blocks : Nat} {off : Bool} {ops : Nat} {n keep : Int}
set_option maxRecDepth 10000 in
set_option maxHeartbeats 2000000 in
theorem rall_any (h : RefLies w r S vl vb tl tb blocks off ops n keep) {i : Nat} (hi : i < tl.length) (hlb : tb.length ≤ 1099511627776) (ht : (tl.getD i default).2.2.length + tot (trM tb) ≤ 1099511627776) :
    Calls Tryz.prog 84 #[.pointer (some ⟨r, 0, none⟩), .int .i64 (i : Nat)] w fun e w' => (∃ v', e = .returned v' ∧ Owns w' w.heap.size 5 v' ((tl.getD i default).2.2 ++ pend (trM tb) (tl.getD i default).1)) ∧ Below w.heap.size w w' := by
  obtain ⟨-, c1, c2, -⟩ := h.cells
  have hlt := h.lt
  obtain ⟨g, c, rfl, hc, hg, a0, a1⟩ := tr_at h.rowL hi
  obtain ⟨pb, cb, rfl, hcb⟩ := tr_shape h.rowB
  have hown := (h.byL _ (getD_mem8 hi)).1
  have ht' : Hid ((tl.getD i default).2.2.length + tot (trM tb) ≤ 1099511627776) := ht
  clear ht
  generalize hX : tl.getD i default = X at *
  obtain ⟨nm, u, bs⟩ := X
  dsimp only at a0 a1 hown ht' ⊢
  have he := Owns.empty w w.heap.size 5 (Nat.le_refl _)
  have hba : Below w.heap.size w (w.alloc (.cells #[] 5)) := (Below.refl _ _).alloc (Nat.le_refl _) _
  have hR' := hasR_of_has (hown.has.below hba (Nat.le_refl _))
  obtain ⟨pu, cu, rfl⟩ := hown.shape
  have h0n : 0 + bs.length ≤ 1099511627776 := by have := ht'.out; omega
  have h0m : (0 + bs.length) * 1 ≤ 140737488355328 := by omega
  have hi' : (i : Int) < (tl.length : Int) := by omega
  go_enter Tryz.func84, Tryz.ntmps84
  go_wp2_with (at_builtin; refine ap_row elemB _ rfl _ _ rfl w.heap.size _ _ 0 bs.length [] (cellsB bs) rfl rfl hR' (cellsB_one8 _) he h0n h0m hba.size ?_; intro v' w' hown' hgrow hwh; refine Halt8.out ?_)
  rw [Nat.zero_add, List.nil_append] at hown'
  have hb : Below w.heap.size w w' := hba.trans ((Below.refl _ _).grown hgrow hba.size fun k hk => (World.ownsRow.lt he k hk).1)
  have ho : Owns w' w.heap.size 5 v' bs := hown'
  have d1 := (hb.cell (p := ⟨r, 2, none⟩) hlt).trans c2
  clear hgrow hwh hown' hR' he hba h0n h0m hown
  have hst : ∃ vo, v' = vo ∧ Owns w' w.heap.size 5 vo (bs ++ pend (trM (tb.take 0)) nm) := ⟨_, rfl, by rw [List.take_zero]; show Owns _ _ _ _ (bs ++ []); rw [List.append_nil]; exact ho⟩
  obtain ⟨pv, cv, rfl⟩ := ho.shape
  clear ho
  constructor
  go_wp2
  go_loopw [23, 5] (fun t s wr => ∃ j : Nat, j ≤ tb.length ∧ t = .int .i64 (j : Nat) ∧ Owns wr w.heap.size 5 s (bs ++ pend (trM (tb.take j)) nm) ∧ Below w.heap.size w wr) (fun t _ _ => tb.length - (intOf t).toNat)
  case atStart =>
    obtain ⟨vo, rfl, ho⟩ := hst
    exact ⟨0, by omega, rfl, ho, hb⟩
  case round =>
    clear hst hb d1
    obtain ⟨j, hj, rfl, ho, hb⟩ := hrel
    by_cases hjl : j < tb.length
    · obtain ⟨gb, c', e, _, hgb, d0, d1⟩ := tr_at (h.below hb).rowB hjl
      simp only [Value.slice.injEq] at e
      obtain ⟨rfl, -, rfl⟩ := e
      have hw0 := ((h.below hb).byB _ (getD_mem8 hjl)).1
      have hpt : Hid (pend (trM (tb.take (j + 1))) nm = pend (trM (tb.take j)) nm ++ (if (tb.getD j default).1 = nm then (tb.getD j default).2.2 else [])) := pend_take hjl nm
      have htot : Hid ((pend (trM (tb.take (j + 1))) nm).length ≤ tot (trM tb)) := Nat.le_trans (pend_le_tot _ _) (tot_take_le tb (j + 1))
      have e1 := (hb.cell (p := ⟨r, 1, none⟩) hlt).trans c1
      have b0 := (hb.cell (p := ⟨g, i * 2, none⟩) hg).trans a0
      have hr2 : r < wr.heap.size := Nat.lt_of_lt_of_le hlt hb.size
      have hg2 : g < wr.heap.size := Nat.lt_of_lt_of_le hg hb.size
      generalize tb.getD j default = Y at *
      obtain ⟨y, uy, by_⟩ := Y
      dsimp only at d0 d1 hw0 hpt
      obtain ⟨py, cy, rfl⟩ := hw0.shape
      have hal := (Below.refl wr.heap.size wr).alloc (Nat.le_refl _) (.cells #[.string y, .slice py by_.length cy] 126)
      have ho2 := ho.below hal (Nat.le_refl _)
      have hb2 := hb.trans (hal.mono hb.size)
      obtain ⟨po, co, rfl⟩ := ho.shape
      by_cases hx : y = nm
      · subst hx
        rw [if_pos rfl] at hpt
        have hlen : (bs ++ pend (trM (tb.take j)) y).length + by_.length ≤ 1099511627776 := by
          have h1 := ht'.out
          have h2 := htot.out
          rw [hpt.out, List.length_append] at h2
          rw [List.length_append]
          omega
        have hlen2 : ((bs ++ pend (trM (tb.take j)) y).length + by_.length) * 1 ≤ 140737488355328 := by omega
        have hRN := fun k => hasR_of_has ((hw0.has.below hal (Nat.le_refl _)).below (below_drewN8 (Below.refl _ _) k) (Nat.le_refl _))
        have hoN : ∀ k, Owns ((wr.alloc (.cells #[.string y, .slice py by_.length cy] 126)).drewN k) w.heap.size 5 _ (bs ++ pend (trM (tb.take j)) y) := fun k => ho2.below (below_drewN8 (Below.refl _ _) k) (Nat.le_refl _)
        have hbN := fun k => below_drewN8 hb2 k
        clear ho ho2 hw0 c1 c2 a0 a1 htot
        go_wp2_with fail
        go_quiet (fail)
        go_wp2_with (at_builtin; refine ap_row elemB _ rfl _ _ rfl w.heap.size _ _ (bs ++ pend (trM (tb.take j)) y).length by_.length (cellsB (bs ++ pend (trM (tb.take j)) y)) (cellsB by_) rfl rfl (hRN nq) (cellsB_one8 _) (hoN nq) hlen hlen2 (hbN nq).size ?_; intro v2 w2 hown2 hgrow2 hwh2; refine Halt8.out ?_)
        have hb3 := (hbN nq).trans ((Below.refl _ _).grown hgrow2 (hbN nq).size fun k hk => (World.ownsRow.lt (hoN nq) k hk).1)
        have ho3 : Owns w2 w.heap.size 5 v2 (bs ++ pend (trM (tb.take (j + 1))) y) := by
          unfold Owns
          rw [hpt.out, ← List.append_assoc, List.length_append, show cellsB ((bs ++ pend (trM (tb.take j)) y) ++ by_) = cellsB (bs ++ pend (trM (tb.take j)) y) ++ cellsB by_ by simp [cellsB]]
          exact hown2
        have HO3 : Hid (Owns w2 w.heap.size 5 v2 (bs ++ pend (trM (tb.take (j + 1))) y)) := ho3
        have HB3 : Hid (Below w.heap.size w w2) := hb3
        obtain ⟨p3, c3, rfl⟩ := ho3.shape
        clear hgrow2 hwh2 hown2 hRN hoN hbN ho3 hb3
        constructor
        go_wp2
        go_roundw
        case rel => exact ⟨j + 1, by omega, by simp, HO3.out, HB3.out⟩
        case measure => simp only [intOf]; omega
      · have hne := str_ne8 hx
        rw [if_neg hx, List.append_nil] at hpt
        have HO : Hid (∀ k, Owns ((wr.alloc (.cells #[.string y, .slice py by_.length cy] 126)).drewN k) w.heap.size 5 _ (bs ++ pend (trM (tb.take j)) nm)) := fun k => ho2.below (below_drewN8 (Below.refl _ _) k) (Nat.le_refl _)
        clear ho ho2 hx hw0 c1 c2 a0 a1
        go_wp2_with fail
        go_quiet (fail)
        go_wp2
        go_roundw
        case rel => exact ⟨j + 1, by omega, by simp, by rw [hpt.out]; exact HO.out _, below_drewN8 hb2 _⟩
        case measure => simp only [intOf]; omega
    · obtain rfl : j = tb.length := by omega
      rw [List.take_length] at ho
      have HO : Hid _ := ho
      obtain ⟨po, co, rfl⟩ := ho.shape
      clear ho c1 c2 a0 a1
      go_wp2
      go_ret
      exact ⟨⟨_, rfl, HO.out⟩, hb⟩
end
theorem usedL_append (buf : List (ByteArray × List Int)) : ∀ l m : List (ByteArray × List Int), usedL buf (l ++ m) = usedL buf l + usedL buf m
  | [], m => by rw [List.nil_append, usedL]; omega
  | f :: l, m => by rw [List.cons_append, usedL, usedL, usedL_append buf l m]; omega
theorem used_take {t : List Tr} {j : Nat} (h : j < t.length) (buf : List (ByteArray × List Int)) : usedL buf (trM (t.take (j + 1))) = usedL buf (trM (t.take j)) + need ((t.getD j default).2.2 ++ pend buf (t.getD j default).1).length := by
  rw [List.take_succ_eq_append_getElem h, List.getD_eq_getElem?_getD, List.getElem?_eq_getElem h]
  unfold trM
  rw [List.map_append, usedL_append]
  simp [usedL]
theorem used_take_le (t : List Tr) (j : Nat) (buf : List (ByteArray × List Int)) : usedL buf (trM (t.take j)) ≤ usedL buf (trM t) := by
  conv => rhs; rw [← List.take_append_drop j t]
  unfold trM
  rw [List.map_append, usedL_append]
  omega
section
variable {w : World} {r : Nat} {S : Nat → Prop} {vl vb : Value} {tl tb : List Tr} {blocks : Nat} {off : Bool} {ops : Nat} {n keep : Int}
set_option maxRecDepth 10000 in
set_option maxHeartbeats 2000000 in
theorem rused_any (h : RefLies w r S vl vb tl tb blocks off ops n keep) (hl : tl.length ≤ 1099511627776) (hlb : tb.length ≤ 1099511627776) (ht : ∀ f ∈ tl, f.2.2.length + tot (trM tb) ≤ 1099511627776) (hu : usedL (trM tb) (trM tl) ≤ 1099511627776) :
    Calls Tryz.prog 92 #[.pointer (some ⟨r, 0, none⟩)] w fun e w' => e = .returned (.int .i64 ((if off = true then 0 else usedL (trM tb) (trM tl) : Nat) : Int)) ∧ Below w.heap.size w w' := by
  obtain ⟨-, c1, -, c3, -⟩ := h.cells
  have hlt := h.lt
  obtain ⟨p, c, rfl, hc⟩ := tr_shape h.rowL
  have ht' : Hid (∀ f ∈ tl, f.2.2.length + tot (trM tb) ≤ 1099511627776) := ht
  have hu' : Hid (usedL (trM tb) (trM tl) ≤ 1099511627776) := hu
  clear ht hu
  go_enter Tryz.func92, Tryz.ntmps92
  go_wp2
  go_loopw [10, 3] (fun t s wr => ∃ j : Nat, j ≤ tl.length ∧ t = .int .i64 (j : Nat) ∧ s = .int .i64 ((usedL (trM tb) (trM (tl.take j)) : Nat) : Int) ∧ Below w.heap.size w wr) (fun t _ _ => tl.length - (intOf t).toNat)
  case atStart => exact ⟨0, by omega, rfl, rfl, Below.refl _ _⟩
  case round =>
    obtain ⟨j, hj, rfl, rfl, hb⟩ := hrel
    by_cases hjl : j < tl.length
    · have hc := rall_any (h.below hb) hjl hlb (ht'.out _ (getD_mem8 hjl))
      have hst : Hid (usedL (trM tb) (trM (tl.take (j + 1))) = usedL (trM tb) (trM (tl.take j)) + need ((tl.getD j default).2.2 ++ pend (trM tb) (tl.getD j default).1).length) := used_take hjl _
      have hb1 : usedL (trM tb) (trM (tl.take j)) + need ((tl.getD j default).2.2 ++ pend (trM tb) (tl.getD j default).1).length ≤ 1099511627776 := by
        have h1 := used_take_le tl (j + 1) (trM tb)
        have h2 := hu'.out
        have h3 := hst.out
        omega
      have hbl : ((tl.getD j default).2.2 ++ pend (trM tb) (tl.getD j default).1).length ≤ 140737488355328 := by
        have h1 := ht'.out _ (getD_mem8 hjl)
        have h2 := pend_le_tot (trM tb) (tl.getD j default).1
        rw [List.length_append]
        omega
      generalize usedL (trM tb) (trM (tl.take j)) = uj at *
      generalize (tl.getD j default).2.2 ++ pend (trM tb) (tl.getD j default).1 = bs at *
      clear c1
      go_wp2_with fail
      refine hc.mono ?_
      clear hc
      rintro e w2 ⟨⟨v', rfl, ho⟩, hb2⟩
      have hn := needs_any bs.length w2 hbl
      have hb3 := hb.trans (hb2.mono hb.size)
      obtain ⟨po, co, rfl⟩ := ho.shape
      clear ho hb2
      generalize bs.length = lb at *
      generalize need lb = nl at *
      go_wp2_with fail
      refine same_mono hn ?_
      clear hn
      go_wp2
      go_roundw
      case rel => exact ⟨j + 1, by omega, by simp, by rw [hst.out]; simp, hb3⟩
      case measure => simp only [intOf]; omega
    · obtain rfl : j = tl.length := by omega
      rw [List.take_length]
      have d3 := (hb.cell (p := ⟨r, 3, none⟩) hlt).trans c3
      clear c1 c3
      cases off
      · go_wp2
        go_ret
        exact ⟨rfl, hb⟩
      · go_wp2
        go_ret
        exact ⟨rfl, hb⟩
end
section
variable {w : World} {r : Nat} {S : Nat → Prop} {vl vb : Value} {tl tb : List Tr} {blocks : Nat} {off : Bool} {ops : Nat} {n keep : Int}
theorem RefLies.apart (h : RefLies w r S vl vb tl tb blocks off ops n keep) : vl.ownBlock ≠ some r ∧ vb.ownBlock ≠ some r ∧ (∀ f ∈ tl, f.2.1.ownBlock ≠ some r) ∧ ∀ f ∈ tb, f.2.1.ownBlock ≠ some r :=
  ⟨row_apart h.rowL h.blk (by decide), row_apart h.rowB h.blk (by decide), fun f hf => row_apart (h.byL f hf).1 h.blk (by decide), fun f hf => row_apart (h.byB f hf).1 h.blk (by decide)⟩
theorem RefLies.setD (h : RefLies w r S vl vb tl tb blocks off ops n keep) (i : Nat) (u : Value) {blocks' : Nat} {off' : Bool} {ops' : Nat} {n' keep' : Int}
    (hc : (#[.int .i64 (blocks : Nat), vl, vb, .bool off, .int .i64 (ops : Nat), .int .i64 n, .int .i64 keep] : Array Value).setIfInBounds i u = #[.int .i64 (blocks' : Nat), vl, vb, .bool off', .int .i64 (ops' : Nat), .int .i64 n', .int .i64 keep']) :
    RefLies (w.setCell ⟨r, i, none⟩ u) r S vl vb tl tb blocks' off' ops' n' keep' := by
  obtain ⟨q1, q2, q3, q4⟩ := h.apart
  have hs : ∀ (v : Value), v.ownBlock ≠ some r → ∀ g, v.ownBlock = some g → (w.setCell ⟨r, i, none⟩ u).heap[g]? = w.heap[g]? := fun v hv g hg => Below.heap_setCell _ _ _ _ (fun e => hv (by rw [hg]; exact congrArg some e))
  refine ⟨?_, row_same h.rowL (hs _ q1), row_same h.rowB (hs _ q2), h.sR, h.sL, h.sB, fun f hf => ⟨row_same (h.byL f hf).1 (hs _ (q3 f hf)), (h.byL f hf).2⟩, fun f hf => ⟨row_same (h.byB f hf).1 (hs _ (q4 f hf)), (h.byB f hf).2⟩⟩
  rw [← hc]
  have hb := h.blk
  simp [World.setCell, Array.getElem?_modify, hb]
end
section
variable {w w' : World} {r : Nat} {S S' : Nat → Prop} {M : DM}
theorem RefAt.same (h : RefAt w r S M) (hs : ∀ k, k < w.heap.size → S k → w'.heap[k]? = w.heap[k]?) : RefAt w' r S M := by
  obtain ⟨vl, vb, tl, tb, n, h1, h2⟩ := h
  exact ⟨vl, vb, tl, tb, n, h1.same hs, h2⟩
theorem RefAt.below (h : RefAt w r S M) (hb : Below w.heap.size w w') : RefAt w' r S M := h.same fun k hk _ => hb.block k hk
theorem RefAt.mono (h : RefAt w r S M) (hS : ∀ k, k < w.heap.size → S k → S' k) : RefAt w r S' M := by
  obtain ⟨vl, vb, tl, tb, n, h1, h2⟩ := h
  exact ⟨vl, vb, tl, tb, n, h1.mono hS, h2⟩
set_option maxRecDepth 10000 in
theorem rarm_any (h : RefAt w r S M) (n k : Int) : Calls Tryz.prog 22 #[.pointer (some ⟨r, 0, none⟩), .int .i64 n, .int .i64 k] w fun e w' => e = .returned (.int .i64 ((M.arm n k).1 : Nat)) ∧ RefAt w' r S (M.arm n k).2 ∧ Turn S w w' := by
  obtain ⟨vl, vb, tl, tb, n0, h1, hL, hB, hn⟩ := h
  obtain ⟨-, -, -, c3, -, c5, c6⟩ := h1.cells
  have f5 := h1.free 5
  have f6 := h1.free 6
  cases hf : M.off with
  | true =>
    have e1 : M.arm n k = (9, M) := by unfold DM.arm; rw [if_pos hf]
    rw [e1]
    have hD : Hid (RefAt w r S M) := ⟨vl, vb, tl, tb, n0, h1, hL, hB, hn⟩
    rw [hf] at c3
    go_enter Tryz.func22, Tryz.ntmps22
    go_wp2
    go_ret
    exact ⟨rfl, hD.out, Turn.refl _ _⟩
  | false =>
    have e1 : M.arm n k = (0, { M with n := n.toNat, keep := k }) := by unfold DM.arm; rw [if_neg (by rw [hf]; decide)]
    rw [e1]
    have h2 := h1.setD 5 (.int .i64 n) (blocks' := M.blocks) (off' := M.off) (ops' := M.ops) (n' := n) (keep' := M.keep) rfl
    have h3 := h2.setD 6 (.int .i64 k) (blocks' := M.blocks) (off' := M.off) (ops' := M.ops) (n' := n) (keep' := k) rfl
    have t3 := ((Turn.refl S w).setCell (p := ⟨r, 5, none⟩) (.inl h1.sR) (.int .i64 n)).setCell (p := ⟨r, 6, none⟩) (.inl h1.sR) (.int .i64 k)
    have hD : Hid (RefAt ((w.setCell ⟨r, 5, none⟩ (.int .i64 n)).setCell ⟨r, 6, none⟩ (.int .i64 k)) r S { M with n := n.toNat, keep := k }) := ⟨vl, vb, tl, tb, n, h3, hL, hB, rfl⟩
    rw [hf] at c3
    clear h1 h2 h3
    go_enter Tryz.func22, Tryz.ntmps22
    go_wp2
    go_ret
    exact ⟨rfl, hD.out, t3⟩
set_option maxRecDepth 10000 in
theorem rstart_any (h : RefAt w r S M) : Calls Tryz.prog 26 #[.pointer (some ⟨r, 0, none⟩)] w fun e w' => (∃ v, e = .returned v) ∧ RefAt w' r S M.start ∧ Turn S w w' := by
  obtain ⟨vl, vb, tl, tb, n0, h1, hL, hB, hn⟩ := h
  obtain ⟨-, -, -, c3, -, c5, c6⟩ := h1.cells
  have f3 := h1.free 3
  have f5 := h1.free 5
  have h2 := h1.setD 3 (.bool false) (blocks' := M.blocks) (off' := false) (ops' := M.ops) (n' := n0) (keep' := M.keep) rfl
  have h3 := h2.setD 5 (.int .i64 0) (blocks' := M.blocks) (off' := false) (ops' := M.ops) (n' := 0) (keep' := M.keep) rfl
  have t3 := ((Turn.refl S w).setCell (p := ⟨r, 3, none⟩) (.inl h1.sR) (.bool false)).setCell (p := ⟨r, 5, none⟩) (.inl h1.sR) (.int .i64 0)
  have hD : Hid (RefAt ((w.setCell ⟨r, 3, none⟩ (.bool false)).setCell ⟨r, 5, none⟩ (.int .i64 0)) r S M.start) := ⟨vl, vb, tl, tb, 0, h3, hL, hB, rfl⟩
  clear h1 h2 h3
  go_enter Tryz.func26, Tryz.ntmps26
  go_wp2
  go_end0
  exact ⟨⟨_, rfl⟩, hD.out, t3⟩
end
theorem elemS8 : Elem8 Tryz.prog 69 9 1 16 := elem8 Tryz.underlying69 (z := .string ⟨#[]⟩) (by kernel_rfl) rfl (by decide)
theorem names_take {t : List Tr} {j : Nat} (h : j < t.length) : nms (trM (t.take (j + 1))) = nms (trM (t.take j)) ++ [(t.getD j default).1] := by
  rw [List.take_succ_eq_append_getElem h, List.getD_eq_getElem?_getD, List.getElem?_eq_getElem h]
  unfold nms trM
  rw [List.map_append, List.map_append]
  rfl
def OwnsT8 (w : World) (B : Nat) (v : Value) (xs : List ByteArray) : Prop := w.ownsRow B 9 1 v xs.length (textsV8 xs)
theorem OwnsT8.below {w w' : World} {B : Nat} {v : Value} {xs : List ByteArray} (h : OwnsT8 w B v xs) (hb : Below w.heap.size w w') : OwnsT8 w' B v xs := row_same h fun g hg => hb.block g (World.ownsRow.lt h g hg).2
theorem OwnsT8.shape {w : World} {B : Nat} {v : Value} {xs : List ByteArray} (h : OwnsT8 w B v xs) : ∃ p c, v = .slice p xs.length c := by
  rcases h.2 with ⟨rfl, hn⟩ | ⟨g, cap, cur, rfl, _⟩
  · exact ⟨none, 0, by rw [hn]⟩
  · exact ⟨_, _, rfl⟩
section
variable {w : World} {r : Nat} {S : Nat → Prop} {vl vb : Value} {tl tb : List Tr} {blocks : Nat} {off : Bool} {ops : Nat} {n keep : Int}
set_option maxRecDepth 10000 in
set_option maxHeartbeats 2000000 in
theorem rlist_on (h : RefLies w r S vl vb tl tb blocks false ops n keep) (hl : tl.length ≤ 16777216) :
    Calls Tryz.prog 39 #[.pointer (some ⟨r, 0, none⟩)] w fun e w' => (∃ v, e = .returned v ∧ OwnsT8 w' w.heap.size v (nms (trM tl))) ∧ Below w.heap.size w w' := by
  obtain ⟨-, c1, -, c3, -⟩ := h.cells
  have hlt := h.lt
  obtain ⟨p, c, rfl, hc⟩ := tr_shape h.rowL
  go_enter Tryz.func39, Tryz.ntmps39
  go_wp2
  go_loopw [11, 3] (fun t s wr => ∃ j : Nat, j ≤ tl.length ∧ t = .int .i64 (j : Nat) ∧ OwnsT8 wr w.heap.size s (nms (trM (tl.take j))) ∧ Below w.heap.size w wr) (fun t _ _ => tl.length - (intOf t).toNat)
  case atStart => exact ⟨0, by omega, rfl, World.ownsRow_nil _ _ _ _, Below.refl _ _⟩
  case round =>
    obtain ⟨j, hj, rfl, ho, hb⟩ := hrel
    by_cases hjl : j < tl.length
    · obtain ⟨g, c', e, _, hg, d0, d1⟩ := tr_at (h.below hb).rowL hjl
      simp only [Value.slice.injEq] at e
      obtain ⟨rfl, -, rfl⟩ := e
      obtain ⟨pu, cu, hu⟩ := (h.byL _ (getD_mem8 hjl)).1.shape
      rw [hu] at d1
      have hnt : Hid (nms (trM (tl.take (j + 1))) = nms (trM (tl.take j)) ++ [(tl.getD j default).1]) := names_take hjl
      have hnl : (nms (trM (tl.take j))).length = j := by simp [nms, trM]; omega
      have d3 := (hb.cell (p := ⟨r, 3, none⟩) hlt).trans c3
      have hr2 : r < wr.heap.size := Nat.lt_of_lt_of_le hlt hb.size
      generalize (tl.getD j default).2.2.length = lu at *
      generalize (tl.getD j default).1 = y at *
      clear hu c1 c3
      have hb2 := (hb.alloc hb.size (.cells #[.string y, .slice pu lu cu] 125)).alloc (Nat.le_trans hb.size (by simp)) (.cells #[.string y] 9)
      have hal := ((Below.refl wr.heap.size wr).alloc (Nat.le_refl _) (.cells #[.string y, .slice pu lu cu] 125)).alloc (by simp) (.cells #[.string y] 9)
      have ho2 := ho.below hal
      have hR := hasR_lit (w := (wr.alloc (.cells #[.string y, .slice pu lu cu] 125)).alloc (.cells #[.string y] 9)) (k := wr.heap.size + 1) (size := 1) (xs := [.string y]) (e := 9) (f := (0, 0)) (by
        show ((wr.heap.push _).push _)[wr.heap.size + 1]? = _
        rw [show wr.heap.size + 1 = (wr.heap.push (Obj.cells #[.string y, .slice pu lu cu] 125)).size from (Array.size_push _).symm, Array.getElem?_push_size]) 1 1 rfl (Nat.le_refl _)
      obtain ⟨po, co, rfl⟩ := ho.shape
      have h1 : (nms (trM (tl.take j))).length + 1 ≤ 1099511627776 := by omega
      have h2 : ((nms (trM (tl.take j))).length + 1) * 16 ≤ 140737488355328 := by omega
      clear ho hnl
      go_wp2_with (at_builtin; refine ap_row elemS8 _ rfl _ _ rfl w.heap.size _ _ (nms (trM (tl.take j))).length 1 (textsV8 (nms (trM (tl.take j)))) [.string y] rfl rfl hR (fun u hu => by rw [List.mem_singleton.1 hu]; rfl) ho2 h1 h2 hb2.size ?_; intro v2 w2 hown2 hgrow2 hwh2; refine Halt8.out ?_)
      have HB3 : Hid (Below w.heap.size w w2) := hb2.trans ((Below.refl _ _).grown hgrow2 hb2.size fun k hk => (World.ownsRow.lt ho2 k hk).1)
      have ho3 : OwnsT8 w2 w.heap.size v2 (nms (trM (tl.take (j + 1)))) := by
        unfold OwnsT8
        rw [hnt.out, List.length_append, show textsV8 (nms (trM (tl.take j)) ++ [y]) = textsV8 (nms (trM (tl.take j))) ++ [.string y] by simp [textsV8]]
        exact hown2
      have HO3 : Hid (OwnsT8 w2 w.heap.size v2 (nms (trM (tl.take (j + 1))))) := ho3
      obtain ⟨p3, c3, rfl⟩ := ho3.shape
      clear hgrow2 hwh2 hown2 hR ho2 ho3 hb2 hal
      constructor
      go_wp2
      go_roundw
      case rel => exact ⟨j + 1, by omega, by simp, HO3.out, HB3.out⟩
      case measure => simp only [intOf]; omega
    · obtain rfl : j = tl.length := by omega
      rw [List.take_length] at ho
      have HO : Hid (OwnsT8 wr w.heap.size _ (nms (trM tl))) := ho
      obtain ⟨po, co, rfl⟩ := ho.shape
      clear ho c1 c3
      go_wp2
      go_ret
      exact ⟨⟨_, rfl, HO.out⟩, hb⟩
set_option maxRecDepth 10000 in
set_option maxHeartbeats 2000000 in
theorem rlist_off (h : RefLies w r S vl vb tl tb blocks true ops n keep) (hl : tl.length ≤ 16777216) :
    Calls Tryz.prog 39 #[.pointer (some ⟨r, 0, none⟩)] w fun e w' => e = .returned (.slice none 0 0) ∧ Below w.heap.size w w' := by
  obtain ⟨-, c1, -, c3, -⟩ := h.cells
  have hlt := h.lt
  obtain ⟨p, c, rfl, hc⟩ := tr_shape h.rowL
  go_enter Tryz.func39, Tryz.ntmps39
  go_wp2
  go_loopw [11, 3] (fun t s wr => ∃ j : Nat, j ≤ tl.length ∧ t = .int .i64 (j : Nat) ∧ s = .slice none 0 0 ∧ Below w.heap.size w wr) (fun t _ _ => tl.length - (intOf t).toNat)
  case atStart => exact ⟨0, by omega, rfl, rfl, Below.refl _ _⟩
  case round =>
    obtain ⟨j, hj, rfl, rfl, hb⟩ := hrel
    by_cases hjl : j < tl.length
    · obtain ⟨g, c', e, _, hg, d0, d1⟩ := tr_at (h.below hb).rowL hjl
      simp only [Value.slice.injEq] at e
      obtain ⟨rfl, -, rfl⟩ := e
      obtain ⟨pu, cu, hu⟩ := (h.byL _ (getD_mem8 hjl)).1.shape
      rw [hu] at d1
      have d3 := (hb.cell (p := ⟨r, 3, none⟩) hlt).trans c3
      have hr2 : r < wr.heap.size := Nat.lt_of_lt_of_le hlt hb.size
      generalize (tl.getD j default).2.2.length = lu at *
      generalize (tl.getD j default).1 = y at *
      clear hu c1 c3
      go_wp2
      go_roundw
      case rel => exact ⟨j + 1, by omega, by simp, rfl, hb.alloc hb.size _⟩
      case measure => simp only [intOf]; omega
    · obtain rfl : j = tl.length := by omega
      clear c1 c3
      go_wp2
      go_ret
      exact ⟨rfl, hb⟩
end
theorem trs_set : ∀ (t : List Tr) (i : Nat) (v : Value) (xs : List Int), trs (t.set i ((t.getD i default).1, v, xs)) = (trs t).set (i * 2 + 1) v
  | [], i, v, xs => rfl
  | f :: t, 0, v, xs => rfl
  | f :: t, i + 1, v, xs => by
    rw [List.set_cons_succ, trs, show (i + 1) * 2 + 1 = (i * 2 + 1) + 1 + 1 by omega, trs, List.set_cons_succ, List.set_cons_succ]
    have := trs_set t i v xs
    rw [show (f :: t).getD (i + 1) default = t.getD i default from rfl, this]
theorem trM_set (t : List Tr) (i : Nat) (v : Value) (xs : List Int) : trM (t.set i ((t.getD i default).1, v, xs)) = (trM t).set i ((t.getD i default).1, xs) := by
  unfold trM
  rw [List.map_set]
section
variable {w : World} {r : Nat} {S : Nat → Prop} {vb : Value} {tl tb : List Tr} {blocks : Nat} {off : Bool} {ops : Nat} {n keep : Int}
theorem RefLies.setF {g c : Nat} (h : RefLies w r S (.slice (some ⟨g, 0, none⟩) tl.length c) vb tl tb blocks off ops n keep) (i : Nat) {v : Value} {xs : List Int} (ho : Owns w 0 5 v xs) (hS : ∀ k, v.ownBlock = some k → S k) :
    RefLies (w.setCell ⟨g, i * 2 + 1, none⟩ v) r S (.slice (some ⟨g, 0, none⟩) tl.length c) vb (tl.set i ((tl.getD i default).1, v, xs)) tb blocks off ops n keep := by
  have hgk : ∃ cur, w.heap[g]? = some (.cells cur 125 (0, 0)) := by
    rcases h.rowL.2 with ⟨h0, _⟩ | ⟨g', cap, cur, e, _, hg, _⟩
    · cases h0
    · simp only [Value.slice.injEq, Option.some.injEq, Addr.mk.injEq, and_true, true_and] at e
      obtain ⟨rfl, _⟩ := e
      exact ⟨cur, hg⟩
  obtain ⟨cur, hgk⟩ := hgk
  have hne : ∀ k, k ≠ g → (w.setCell ⟨g, i * 2 + 1, none⟩ v).heap[k]? = w.heap[k]? := fun k hk => Below.heap_setCell _ _ _ _ (fun e => hk e)
  have hrow : ∀ (e : TypeId) (size m : Nat) (u : Value) (ys : List Value), e ≠ 125 → w.ownsRow 0 e size u m ys → (w.setCell ⟨g, i * 2 + 1, none⟩ v).ownsRow 0 e size u m ys := fun e size m u ys he hr =>
    row_same hr fun k hk => hne k fun e2 => row_apart hr hgk (fun e3 => he e3.symm) (by rw [hk, e2])
  have hrg : r ≠ g := fun e => by
    have := h.blk
    rw [e, hgk] at this
    simp only [Option.some.injEq, Obj.cells.injEq] at this
    exact absurd this.2.1 (by decide)
  refine ⟨(hne r hrg).trans h.blk, ?_, hrow _ _ _ _ _ (by decide) h.rowB, h.sR, h.sL, h.sB, fun f hf => ?_, fun f hf => ⟨hrow _ _ _ _ _ (by decide) (h.byB f hf).1, (h.byB f hf).2⟩⟩
  · rw [List.length_set, trs_set]
    exact (World.ownsRow.stored h.rowL (i * 2 + 1) v).1
  · rcases List.mem_or_eq_of_mem_set hf with hf | rfl
    · exact ⟨hrow _ _ _ _ _ (by decide) (h.byL f hf).1, (h.byL f hf).2⟩
    · exact ⟨hrow _ _ _ _ _ (by decide) ho, hS⟩
end
def fallL (N : Nat) (buf l : List (ByteArray × List Int)) : List (ByteArray × List Int) := l.map fun f => (f.1, f.2 ++ left N buf f.1)
theorem fall_one (N : Nat) (buf : List (ByteArray × List Int)) (y : ByteArray) (b : List Int) (x : ByteArray) : left N (buf ++ [(y, b)]) x = left N buf x ++ if y = x then b.take (N - tot buf) else [] := by
  rw [left_append, left, left, List.append_nil]
theorem fallL_other (N : Nat) (buf : List (ByteArray × List Int)) (y : ByteArray) (b : List Int) {l : List (ByteArray × List Int)} (h : y ∉ nms l) : fallL N (buf ++ [(y, b)]) l = fallL N buf l := by
  unfold fallL
  refine List.map_congr_left fun f hf => ?_
  rw [fall_one, if_neg (fun e => h (by rw [e]; exact List.mem_map.2 ⟨f, hf, rfl⟩)), List.append_nil]
theorem fallL_step (N : Nat) (buf : List (ByteArray × List Int)) (y : ByteArray) (b : List Int) : ∀ {l : List (ByteArray × List Int)} {i : Nat} {zs : List Int}, (nms l).Nodup → (fallL N buf l)[i]? = some (y, zs) →
    fallL N (buf ++ [(y, b)]) l = (fallL N buf l).set i (y, zs ++ b.take (N - tot buf))
  | [], i, zs, _, hi => by simp [fallL] at hi
  | f :: l, 0, zs, hn, hi => by
    have hd := List.nodup_cons.1 hn
    have e : (f.1, f.2 ++ left N buf f.1) = (y, zs) := by simpa [fallL] using hi
    simp only [Prod.mk.injEq] at e
    obtain ⟨e1, e2⟩ := e
    have ht := fallL_other N buf y b (l := l) (by rw [← e1]; exact hd.1)
    show (f.1, f.2 ++ left N (buf ++ [(y, b)]) f.1) :: fallL N (buf ++ [(y, b)]) l = (y, zs ++ b.take (N - tot buf)) :: fallL N buf l
    rw [ht, fall_one, if_pos e1.symm, ← List.append_assoc, e2, e1]
  | f :: l, i + 1, zs, hn, hi => by
    have hd := List.nodup_cons.1 hn
    have hi' : (fallL N buf l)[i]? = some (y, zs) := by simpa [fallL] using hi
    have hy : y ∈ nms l := by
      have hm := List.mem_of_getElem? hi'
      unfold fallL at hm
      obtain ⟨g, hg, e⟩ := List.mem_map.1 hm
      simp only [Prod.mk.injEq] at e
      exact List.mem_map.2 ⟨g, hg, e.1⟩
    have hne : ¬ y = f.1 := fun e => hd.1 (by rw [← e]; exact hy)
    show (f.1, f.2 ++ left N (buf ++ [(y, b)]) f.1) :: fallL N (buf ++ [(y, b)]) l = (f.1, f.2 ++ left N buf f.1) :: (fallL N buf l).set i (y, zs ++ b.take (N - tot buf))
    rw [fall_one, if_neg hne, List.append_nil, fallL_step N buf y b hd.2 hi']
theorem fallL_nil (N : Nat) (l : List (ByteArray × List Int)) : fallL N [] l = l := by
  unfold fallL
  conv => rhs; rw [← List.map_id l]
  refine List.map_congr_left fun f _ => ?_
  rw [left, List.append_nil]
  rfl
theorem fallL_names (N : Nat) (buf l : List (ByteArray × List Int)) : nms (fallL N buf l) = nms l := DM.nms_map l _
theorem HasT8.of_owns {w : World} {B : Nat} {v : Value} {xs : List ByteArray} (h : w.ownsRow B 9 1 v xs.length (textsV8 xs)) : HasT8 w v xs := by
  rcases id h.2 with ⟨rfl, hn⟩ | ⟨g, cap, cur, rfl, hB, hg, hnc, _, _, _⟩
  · exact ⟨none, 0, by rw [hn], by omega, fun _ => rfl, fun h0 => by omega⟩
  · refine ⟨_, _, rfl, hnc, fun h => (by cases h), fun h0 => ⟨g, 0, rfl, (World.ownsRow.lt h g rfl).2, fun i hi => ?_⟩⟩
    rw [Nat.zero_add, World.ownsRow.cellAt h i (by omega)]
    unfold textsV8
    rw [List.getElem?_map, List.getElem?_eq_getElem hi, List.getD_eq_getElem?_getD, List.getElem?_eq_getElem hi]
    rfl
end Go.Proofs.YthlelcmifolnfaaGreatDoor

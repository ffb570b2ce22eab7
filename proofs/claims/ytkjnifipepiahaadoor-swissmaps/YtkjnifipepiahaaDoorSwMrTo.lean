import Derived.Test.YtkjnifipepiahaaDoorSwMpTo
import Derived.Laws.OwnMore
import Derived.Test.YtkjnifipepiahaaDoorSwB3To
/-
  Rows of texts that the call made: appended to as a step of a region that draws, cut, stored into, and how they lie to a map.
-/
namespace Go.Proofs.YtkjnifipepiahaaDoor
open Go.RowKit Go.Shelf

/-- The row of an append lies in its own block, or in a new one. -/
theorem append_where {P : Program} {w : World} {base : Nat} {t ty e : TypeId} {i : TypeInfo} {z : Value} {size bytes : Nat} (ht : P.underlying t = some (.slice e)) (hi : P.info? e = some i) (hz : i.zero = some z)
    (hsize : i.size = size) (hby : i.bytes = bytes) (hzs : z.cells.size = size) (hsz : 0 < size) {v : Value} {n : Nat} {xs : List Value} (hown : w.ownsRow base e size v n xs)
    {a : Addr} {m c : Nat} {news : List Value} (hl : news.length = m * size) (hnews : ∀ j u, news[j]? = some u → w.cell? (a.add j) = some u) (h1 : ∀ u ∈ news, u.oneCell' = true)
    (h63 : n + m ≤ maxLen) (hbytes : (n + m) * bytes ≤ 140737488355328) {v' : Value} {w' : World} (hr : (Builtin.append_ #[t, t] ty #[v, .slice (some a) m c]).run P w = .ok v' w') :
    v'.ownBlock = v.ownBlock ∨ ∃ k, v'.ownBlock = some k ∧ w.heap.size ≤ k := by
  have hsmall : n + m ≤ 9223372036854775807 := by simp only [maxLen] at h63; omega
  rcases hown.2 with ⟨rfl, rfl⟩ | ⟨g, cap, cur, rfl, hbg, hg, hnc, hcm, hcs, htake⟩
  · have hx : xs = [] := List.eq_nil_of_length_eq_zero (by simpa using hown.1)
    subst hx
    obtain ⟨v2, w2, hr2, ho2, _, _⟩ := run_append_own (P := P) w w.heap.size t ty e i z size bytes ht hi hz hsize hby hzs hsz (.slice none 0 0) 0 [] (World.ownsRow_nil _ _ _ _) a m c news hl hnews h1 h63 hbytes (Nat.le_refl _)
    rw [hr] at hr2
    simp only [Result.ok.injEq] at hr2
    obtain ⟨rfl, rfl⟩ := hr2
    cases hk : v'.ownBlock with
    | none => exact .inl rfl
    | some k => exact .inr ⟨k, rfl, (World.ownsRow.lt ho2 k hk).1⟩
  · subst hsize
    subst hby
    by_cases hroom : n + m ≤ cap
    · have hfit : n * i.size + news.length ≤ cur.size := by rw [hl, hcs, ← Nat.add_mul]; exact Nat.mul_le_mul_right _ hroom
      rw [run_append_room (P := P) w t ty e i ht hi g n cap cur hg a m c news hl hnews h1 hroom hfit] at hr
      simp only [Result.ok.injEq] at hr
      rw [← hr.1]
      exact .inl rfl
    · have holds : ∀ j u, xs[j]? = some u → w.cell? ((⟨g, 0, none⟩ : Addr).add j) = some u := hown.cells (g := g) rfl
      rw [run_append_grow (P := P) w t ty e i z ht hi hz ⟨g, 0, none⟩ n cap xs hown.1 holds a m c news hl hnews (by omega) (by omega) (growslice_fits (by omega) hbytes)] at hr
      simp only [Result.ok.injEq] at hr
      rw [← hr.1]
      exact .inr ⟨_, rfl, Nat.le_refl _⟩

theorem textsV_one (xs : List ByteArray) : ∀ u ∈ textsV xs, u.oneCell' = true := fun u hu => by
  obtain ⟨x, _, rfl⟩ := List.mem_map.1 hu
  rfl
/-- 'append(s, x...)' of texts. -/
theorem run_texts (w : World) (ty : TypeId) (B : Nat) (v x : Value) (xs ys : List ByteArray) (hx : HasT w x ys) (hown : OwnsT w B v xs) (hlen : xs.length ≤ 1099511627776) (hlen2 : ys.length ≤ 1099511627776) (hB : B ≤ w.heap.size) :
    ∃ v' w', (Builtin.append_ #[45, 45] ty #[v, x]).run Tryd.prog w = .ok v' w' ∧ OwnsT w' B v' (xs ++ ys) ∧ w.grownBy w' v.ownBlock ∧ (v'.ownBlock = v.ownBlock ∨ ∃ k, v'.ownBlock = some k ∧ w.heap.size ≤ k) := by
  obtain ⟨i, hi, hz, hsize, hby⟩ := info_parts infoT_s
  obtain ⟨p, c, hv, hc, hnone, hcell⟩ := hx
  cases p with
  | none =>
    obtain rfl := hnone rfl
    have hy : ys = [] := List.eq_nil_of_length_eq_zero (by omega)
    subst hy
    have hrun := run_append_owned_none (P := Tryd.prog) w B 45 ty 9 i 1 Tryd.underlying45 hi v xs.length (textsV xs) hown
    refine ⟨v, w, by rw [hv]; exact hrun, by rw [List.append_nil]; exact hown, ⟨rfl, rfl, rfl, Nat.le_refl _, fun _ _ _ => rfl⟩, .inl rfl⟩
  | some ad =>
    have hl : (textsV ys).length = ys.length * 1 := by simp [textsV]
    have hnews : ∀ j u, (textsV ys)[j]? = some u → w.cell? (ad.add j) = some u := by
      intro j u hj
      have hjl : j < ys.length := by
        have := (List.getElem?_eq_some_iff.1 hj).1
        simpa [textsV] using this
      obtain ⟨b, o', hp, _, hcl⟩ := hcell (by omega)
      obtain rfl := Option.some.inj hp
      rw [Addr.add_lit, hcl j hjl]
      simp [textsV, List.getElem?_eq_getElem hjl] at hj
      subst hj
      simp [List.getElem?_eq_getElem hjl]
    have h63 : xs.length + ys.length ≤ maxLen := by unfold maxLen; omega
    obtain ⟨v', w', hr, ho, hg, _⟩ := run_append_own (P := Tryd.prog) w B 45 ty 9 i (.string ⟨#[]⟩) 1 16 Tryd.underlying45 hi hz hsize hby rfl (by decide) v xs.length (textsV xs) hown ad ys.length c (textsV ys) hl hnews (textsV_one ys) h63 (by omega) hB
    refine ⟨v', w', by rw [hv]; exact hr, ?_, hg, append_where Tryd.underlying45 hi hz hsize hby rfl (by decide) hown hl hnews (textsV_one ys) h63 (by omega) hr⟩
    unfold OwnsT
    rw [List.length_append, show textsV (xs ++ ys) = textsV xs ++ textsV ys by simp [textsV]]
    exact ho
/-- The same as a step of a region that draws its order. -/
theorem step_texts {ops : Array Oper} {o : Oper} {a : Act} {K : Act → World → Prop} {Q : Exit → Act → World → Prop} {E : Prop} (w : World) (hgd : o.guard = none) (s x : Operand)
    (ho : o.op = .call { callee := .builtin .append, args := #[s, x], argTypes := #[45, 45] })
    (B : Nat) (v u : Value) (xs ys : List ByteArray) (hs : a.eval s = v) (hu : a.eval x = u) (hx : HasT w u ys) (hown : OwnsT w B v xs) (hlen : xs.length ≤ 1099511627776) (hlen2 : ys.length ≤ 1099511627776) (hB : B ≤ w.heap.size)
    (h : ∀ v' w', OwnsT w' B v' (xs ++ ys) → w.grownBy w' v.ownBlock → (v'.ownBlock = v.ownBlock ∨ ∃ k, v'.ownBlock = some k ∧ w.heap.size ≤ k) → K (a.put o.dst v') w') :
    if Region.wanted o (yielded ops a.tmps) = true then Oper.wp Tryd.prog o a w K Q else E := by
  have hw : Region.wanted o (yielded ops a.tmps) = true := by simp [Region.wanted, hgd]
  rw [if_pos hw]
  obtain ⟨v', w', hr, h1, h2, h3⟩ := run_texts w o.type B v u xs ys hx hown hlen hlen2 hB
  unfold Oper.wp execOp
  simp only [ho, resolve, invoke, builtin, Sem.run_bind, Sem.run_pure, Result.andThen_ok, List.map_toArray, List.map_cons, List.map_nil, hs, hu, hr]
  exact h v' w' h1 h2 h3

theorem HasT.one {w : World} {k : Nat} {z : ByteArray} {t : TypeId} (h : w.heap[k]? = some (.cells #[.string z] t (0, 0))) : HasT w (.slice (some ⟨k, 0, none⟩) 1 1) [z] := by
  refine ⟨some ⟨k, 0, none⟩, 1, rfl, Nat.le_refl _, (fun h => by cases h), fun _ => ⟨k, 0, rfl, (Array.getElem?_eq_some_iff.1 h).1, fun i hi => ?_⟩⟩
  obtain rfl : i = 0 := by simp at hi; exact hi
  simp [World.cell?, h]
theorem HasT.nil {w : World} (p : Addr) (c : Nat) : HasT w (.slice (some p) 0 c) [] := ⟨some p, c, rfl, Nat.zero_le _, (fun h => by cases h), fun h => by simp at h⟩
theorem HasT.kept {w w' : World} {v : Value} {xs : List ByteArray} {row : Option Nat} (h : HasT w v xs) (hg : w.grownBy w' row) (hne : v.ownBlock = none ∨ v.ownBlock ≠ row) : HasT w' v xs := by
  obtain ⟨p, c, rfl, h1, h2, h3⟩ := h
  refine ⟨p, c, rfl, h1, h2, fun h0 => ?_⟩
  obtain ⟨b, o, rfl, hlt, hc⟩ := h3 h0
  refine ⟨b, o, rfl, Nat.lt_of_lt_of_le hlt hg.size, fun i hi => (World.cell?_of_block (a := ⟨b, o + i, none⟩) (hg.block b hlt ?_)).trans (hc i hi)⟩
  rcases hne with hn | hn
  · cases hn
  · exact hn
theorem HasT.take {w : World} {g n c : Nat} {xs : List ByteArray} (h : HasT w (.slice (some ⟨g, 0, none⟩) n c) xs) {k : Nat} (hk : k ≤ n) : HasT w (.slice (some ⟨g, 0, none⟩) k c) (xs.take k) := by
  obtain ⟨p, c', e, h1, h2, h3⟩ := h
  simp only [Value.slice.injEq] at e
  obtain ⟨rfl, rfl, rfl⟩ := e
  have hl : (xs.take k).length = k := by rw [List.length_take]; omega
  refine ⟨some ⟨g, 0, none⟩, c, by rw [hl], by omega, (fun h => by cases h), fun h0 => ?_⟩
  obtain ⟨b, o, e, hlt, hc⟩ := h3 (by omega)
  simp only [Option.some.injEq, Addr.mk.injEq] at e
  obtain ⟨rfl, rfl, _⟩ := e
  refine ⟨g, 0, rfl, hlt, fun i hi => ?_⟩
  rw [hc i (by omega)]
  simp only [List.getD_eq_getElem?_getD]
  rw [List.getElem?_take, if_pos (by omega)]
theorem HasT.drop {w : World} {g n c : Nat} {xs : List ByteArray} (h : HasT w (.slice (some ⟨g, 0, none⟩) n c) xs) {k : Nat} (hk : k ≤ n) : HasT w (.slice (some ⟨g, k, none⟩) (n - k) (c - k)) (xs.drop k) := by
  obtain ⟨p, c', e, h1, h2, h3⟩ := h
  simp only [Value.slice.injEq] at e
  obtain ⟨rfl, rfl, rfl⟩ := e
  have hl : (xs.drop k).length = xs.length - k := by rw [List.length_drop]
  refine ⟨some ⟨g, k, none⟩, c - k, by rw [hl], by omega, (fun h => by cases h), fun h0 => ?_⟩
  obtain ⟨b, o, e, hlt, hc⟩ := h3 (by omega)
  simp only [Option.some.injEq, Addr.mk.injEq] at e
  obtain ⟨rfl, rfl, _⟩ := e
  refine ⟨g, k, rfl, hlt, fun i hi => ?_⟩
  have := hc (k + i) (by omega)
  rw [Nat.zero_add] at this
  rw [this]
  simp only [List.getD_eq_getElem?_getD, List.getElem?_drop]
theorem OwnsT.has {w : World} {B : Nat} {v : Value} {xs : List ByteArray} (h : OwnsT w B v xs) : HasT w v xs := hasT_owns h
theorem OwnsT.mono {w : World} {B B' : Nat} {v : Value} {xs : List ByteArray} (h : OwnsT w B v xs) (hB : B' ≤ B) : OwnsT w B' v xs := row_mono h hB
theorem OwnsT.off {w w' : World} {B : Nat} {v : Value} {xs : List ByteArray} {S : List Nat} (h : OwnsT w B v xs) (hb : But S w w') (hS : ∀ k ∈ S, v.ownBlock ≠ some k) : OwnsT w' B v xs := by
  refine ⟨h.1, ?_⟩
  rcases h.2 with hn | ⟨g, cap, cur, rfl, hb1, hg, rest⟩
  · exact .inl hn
  · refine .inr ⟨g, cap, cur, rfl, hb1, ?_, rest⟩
    rw [hb.block g (Array.getElem?_eq_some_iff.1 hg).1 (fun hm => hS g hm rfl)]
    exact hg
theorem OwnsT.kept {w w' : World} {B : Nat} {v : Value} {xs : List ByteArray} {row : Option Nat} (h : OwnsT w B v xs) (hg : w.grownBy w' row) (hne : v.ownBlock = none ∨ v.ownBlock ≠ row) : OwnsT w' B v xs := World.ownsRow.kept h hg hne
/-- A row of texts and a block of another type are apart. -/
theorem OwnsT.apart {w : World} {B : Nat} {v : Value} {xs : List ByteArray} (h : OwnsT w B v xs) {k : Nat} {c : Array Value} {e : TypeId} {f : Nat × Nat} (hk : w.heap[k]? = some (.cells c e f)) (he : e ≠ 9) : v.ownBlock ≠ some k := by
  rcases h.2 with ⟨rfl, _⟩ | ⟨g, cap, cur, rfl, _, hg, _⟩
  · intro e; cases e
  · intro e1
    simp only [Value.ownBlock, Option.some.injEq] at e1
    subst e1
    rw [hk] at hg
    simp only [Option.some.injEq, Obj.cells.injEq] at hg
    exact he hg.2.1
theorem OwnsT.lies {w : World} {B : Nat} {v : Value} {xs : List ByteArray} (h : OwnsT w B v xs) {b bw bs : Nat} {M : SM} (hL : Lies 79 76 w b bw bs M) : ∀ k ∈ [b, bw, bs], v.ownBlock ≠ some k := by
  obtain ⟨cw, cs, h1, h2, h3⟩ := hL.row
  intro k hk
  simp only [List.mem_cons, List.not_mem_nil, or_false] at hk
  rcases hk with rfl | rfl | rfl
  · exact h.apart h1 (by decide)
  · rcases h2.2 with ⟨hn, _⟩ | ⟨g, cap, cur, e, _, hg, _⟩
    · cases hn
    · simp only [Value.slice.injEq, Option.some.injEq, Addr.mk.injEq] at e
      obtain ⟨⟨rfl, _, _⟩, _, _⟩ := e
      exact h.apart hg (by decide)
  · rcases h3.2 with ⟨hn, _⟩ | ⟨g, cap, cur, e, _, hg, _⟩
    · cases hn
    · simp only [Value.slice.injEq, Option.some.injEq, Addr.mk.injEq] at e
      obtain ⟨⟨rfl, _, _⟩, _, _⟩ := e
      exact h.apart hg (by decide)
theorem Lies.kept {w w' : World} {B : Nat} {v : Value} {xs : List ByteArray} {b bw bs : Nat} {M : SM} (hL : Lies 79 76 w b bw bs M) (h : OwnsT w B v xs) (hg : w.grownBy w' v.ownBlock) : Lies 79 76 w' b bw bs M := by
  have hl := hL.lt
  have hn := h.lies hL
  exact hL.same (hg.block b hl.1 (fun e => hn b (by simp) e.symm)) (hg.block bw hl.2.1 (fun e => hn bw (by simp) e.symm)) (hg.block bs hl.2.2 (fun e => hn bs (by simp) e.symm))
theorem below_grownT {w0 w w' : World} {B C : Nat} {v : Value} {xs : List ByteArray} (hb : Below B w0 w) (h : OwnsT w C v xs) (hg : w.grownBy w' v.ownBlock) (hB : B ≤ w.heap.size) (hC : B ≤ C) : Below B w0 w' :=
  hb.grown hg hB fun k hk => Nat.le_trans hC (World.ownsRow.lt h k hk).1
/-- A text stored into a row. -/
theorem OwnsT.set {w : World} {B g n c : Nat} {xs : List ByteArray} (h : OwnsT w B (.slice (some ⟨g, 0, none⟩) n c) xs) (i : Nat) (z : ByteArray) : OwnsT (w.setCell ⟨g, i, none⟩ (.string z)) B (.slice (some ⟨g, 0, none⟩) n c) (xs.set i z) := by
  have hn : n = xs.length := by
    rcases h.2 with ⟨e, _⟩ | ⟨g', cap, cur, e, _⟩
    · cases e
    · simp only [Value.slice.injEq] at e
      exact e.2.1
  subst hn
  have := (World.ownsRow.stored h i (.string z)).1
  unfold OwnsT
  rw [List.length_set, show textsV (xs.set i z) = (textsV xs).set i (.string z) by simp [textsV, List.map_set]]
  exact this
end Go.Proofs.YtkjnifipepiahaaDoor

/-
  Contract: Map[string].Get.
-/
namespace Go.Proofs.YtkjnifipepiahaaDoor
open Go.RowKit Go.Shelf

set_option maxHeartbeats 1000000 in
theorem get_map_s (b bw bs : Nat) (M : SM) (key : ByteArray) (w : World) (hT : Tab w) (h : Lies 79 76 w b bw bs M) (hF : M.Fit) (hV : M.Typed IsV_s) (hk : key.size < 140737488355328) :
    Calls Tryd.prog 17 #[.pointer (some ⟨b, 0, none⟩), .string key] w fun e w' => e = .returned (.tuple #[(M.get key (.string ⟨#[]⟩)).1, .bool (M.get key (.string ⟨#[]⟩)).2]) ∧ Below w.heap.size w w' := by
  have hfind := find_any_s b bw bs M key w hT h hF hk
  unfold SM.get
  cases hfd : M.find key with
  | some p =>
    obtain ⟨hp1, _, _, _⟩ := find_some hF hfd
    obtain ⟨x, hx⟩ := hV p hp1
    rw [hfd] at hfind
    simp only
    rw [hx]
    clear hfd
    go_enter Tryd.func17, Tryd.ntmps17
    go_wp2_with fail
    refine hfind.mono ?_
    rintro e w1 ⟨rfl, hb⟩
    have hl := h.below hb (Nat.le_refl _)
    obtain ⟨dw, ds, _, _, _, k3, _, _, _, hds⟩ := hl.cells
    have kv := hl.val p hp1
    rw [hx] at kv
    have hp2 : (p : Int) < M.ss.length := by omega
    have hp3 : (p : Int) ≠ -1 := by omega
    clear hx hfind
    go_wp2
    go_ret2
    exact ⟨rfl, hb⟩
  | none =>
    rw [hfd] at hfind
    simp only
    clear hfd
    go_enter Tryd.func17, Tryd.ntmps17
    go_wp2_with fail
    refine hfind.mono ?_
    rintro e w1 ⟨rfl, hb⟩
    clear hfind
    go_wp2
    go_ret2
    exact ⟨rfl, hb⟩
end Go.Proofs.YtkjnifipepiahaaDoor

/-
  Two maps and two rows of texts side by side in memory: what Put, Delete, Get, Len, an append and a store leave of them.
-/
namespace Go.Proofs.YtkjnifipepiahaaDoor
open Go.RowKit Go.Shelf

def Six (B b1 bw1 bs1 b2 bw2 bs2 : Nat) : Prop := B ≤ b1 ∧ B ≤ bw1 ∧ B ≤ bs1 ∧ B ≤ b2 ∧ B ≤ bw2 ∧ B ≤ bs2 ∧ b1 ≠ b2 ∧ b1 ≠ bw2 ∧ b1 ≠ bs2 ∧ bw1 ≠ b2 ∧ bw1 ≠ bw2 ∧ bw1 ≠ bs2 ∧ bs1 ≠ b2 ∧ bs1 ≠ bw2 ∧ bs1 ≠ bs2
/-- Two maps that tell px and py, two rows that read as ks and vs, all of them the call's own and apart from each other. -/
def Hold (w wr : World) (b1 b2 : Nat) (vk vv : Value) (px py : List (ByteArray × ByteArray)) (ks vs : List ByteArray) : Prop :=
  (∃ bw1 bs1 bw2 bs2 Mx My, Lies 79 76 wr b1 bw1 bs1 Mx ∧ Lies 79 76 wr b2 bw2 bs2 My ∧ Mx.Inv IsV_s ∧ My.Inv IsV_s ∧ Tells Mx px ∧ Tells My py ∧ Six w.heap.size b1 bw1 bs1 b2 bw2 bs2) ∧
    OwnsT wr w.heap.size vk ks ∧ OwnsT wr w.heap.size vv vs ∧ (vk.ownBlock = none ∨ vk.ownBlock ≠ vv.ownBlock) ∧ Below w.heap.size w wr

/-- An act's block is as it was. -/
def Acts (X Y : World) : Prop := ∀ (k : Nat) (c : Array Value) (f : Nat × Nat), X.heap[k]? = some (Obj.cells c 33 f) → Y.heap[k]? = some (Obj.cells c 33 f)
theorem Acts.of {X Y : World} {b bw bs : Nat} {M : SM} (hL : Lies 79 76 X b bw bs M) (hb : But [b, bw, bs] X Y) : Acts X Y := by
  intro k c f hk
  refine (hb.block k (Array.getElem?_eq_some_iff.1 hk).1 fun hm => ?_).trans hk
  obtain ⟨cw, cs, h1, h2, h3⟩ := hL.row
  simp only [List.mem_cons, List.not_mem_nil, or_false] at hm
  rcases hm with rfl | rfl | rfl
  · rw [hk] at h1
    simp at h1
  · rcases h2.2 with ⟨hn, _⟩ | ⟨g, cap, cur, e, _, hg, _⟩
    · cases hn
    · simp only [Value.slice.injEq, Option.some.injEq, Addr.mk.injEq] at e
      obtain ⟨⟨rfl, _, _⟩, _, _⟩ := e
      rw [hk] at hg
      simp at hg
  · rcases h3.2 with ⟨hn, _⟩ | ⟨g, cap, cur, e, _, hg, _⟩
    · cases hn
    · simp only [Value.slice.injEq, Option.some.injEq, Addr.mk.injEq] at e
      obtain ⟨⟨rfl, _, _⟩, _, _⟩ := e
      rw [hk] at hg
      simp at hg
variable {w wr w' : World} {b1 b2 : Nat} {vk vv vk' vv' : Value} {px py : List (ByteArray × ByteArray)} {ks vs ks' vs' : List ByteArray}

theorem Hold.bel (h : Hold w wr b1 b2 vk vv px py ks vs) : Below w.heap.size w wr := h.2.2.2.2
theorem Hold.swap (h : Hold w wr b1 b2 vk vv px py ks vs) : Hold w wr b2 b1 vk vv py px ks vs := by
  obtain ⟨⟨bw1, bs1, bw2, bs2, Mx, My, h1, h2, h3, h4, h5, h6, h7⟩, rest⟩ := h
  refine ⟨⟨bw2, bs2, bw1, bs1, My, Mx, h2, h1, h4, h3, h6, h5, ?_⟩, rest⟩
  unfold Six at *
  omega
theorem Hold.turn (h : Hold w wr b1 b2 vk vv px py ks vs) : Hold w wr b1 b2 vv vk px py vs ks := by
  obtain ⟨h1, h2, h3, h4, h5⟩ := h
  refine ⟨h1, h3, h2, ?_, h5⟩
  rcases h4 with h4 | h4
  · cases hv : vv.ownBlock with
    | none => exact .inl rfl
    | some k => rw [h4]; exact .inr (by simp)
  · exact .inr (Ne.symm h4)
theorem Hold.below (h : Hold w wr b1 b2 vk vv px py ks vs) (hb : Below wr.heap.size wr w') : Hold w w' b1 b2 vk vv px py ks vs := by
  obtain ⟨⟨bw1, bs1, bw2, bs2, Mx, My, h1, h2, h3⟩, h4, h5, h6, h7⟩ := h
  exact ⟨⟨bw1, bs1, bw2, bs2, Mx, My, h1.below hb (Nat.le_refl _), h2.below hb (Nat.le_refl _), h3⟩, h4.below hb (Nat.le_refl _), h5.below hb (Nat.le_refl _), h6, h7.trans (hb.mono h7.size)⟩
/-- Put of a key that stands at place i. -/
theorem Hold.over (h : Hold w wr b1 b2 vk vv px py ks vs) (hT : Tab w) {i : Nat} {key old v : ByteArray} (hi : px[i]? = some (key, old)) (hk : key.size < 140737488355328) (hn : px.length < 2000) :
    Calls Tryd.prog 13 #[.pointer (some ⟨b1, 0, none⟩), .string key, .string v] wr fun e w' => e = .returned (.tuple #[.bool true, .int .i64 0]) ∧ Hold w w' b1 b2 vk vv (px.set i (key, v)) py ks vs ∧ Acts wr w' := by
  obtain ⟨⟨bw1, bs1, bw2, bs2, Mx, My, h1, h2, h3, h4, h5, h6, h7⟩, q1, q2, q3, q4⟩ := h
  obtain ⟨t1, t2, t3, t4⟩ := tells_over h3 h5 (v := v) hi hk (by rw [h5.2.1]; exact hn)
  refine (put_any_s b1 bw1 bs1 Mx key v wr (hT.below q4 hT.1) h1 (sane_of_inv h3) hk).mono ?_
  rintro e w' ⟨rfl, bw', bs', g1, g2, g3, g4⟩
  have hl2 := h2.lt
  unfold Six at h7
  refine ⟨by rw [t1, t2]; rfl, ⟨⟨bw', bs', bw2, bs2, _, My, g1, h2.but g2 (by simp; omega) (by simp; omega) (by simp; omega), t3, h4, t4, h6, ?_⟩, q1.off g2 (q1.lies h1), q2.off g2 (q2.lies h1), q3, q4.trans (g2.below (by simp; omega) q4.size)⟩, Acts.of h1 g2⟩
  have := q4.size
  unfold Six
  omega
/-- Put of a new key. -/
theorem Hold.more (h : Hold w wr b1 b2 vk vv px py ks vs) (hT : Tab w) {key v : ByteArray} (hno : key ∉ px.map Prod.fst) (hk : key.size < 140737488355328) (hn : px.length < 2000) :
    Calls Tryd.prog 13 #[.pointer (some ⟨b1, 0, none⟩), .string key, .string v] wr fun e w' => e = .returned (.tuple #[.bool false, .int .i64 0]) ∧ Hold w w' b1 b2 vk vv (px ++ [(key, v)]) py ks vs ∧ Acts wr w' := by
  obtain ⟨⟨bw1, bs1, bw2, bs2, Mx, My, h1, h2, h3, h4, h5, h6, h7⟩, q1, q2, q3, q4⟩ := h
  obtain ⟨t1, t2, t3, t4⟩ := tells_more h3 h5 (v := v) hno hk (by rw [h5.2.1]; exact hn)
  refine (put_any_s b1 bw1 bs1 Mx key v wr (hT.below q4 hT.1) h1 (sane_of_inv h3) hk).mono ?_
  rintro e w' ⟨rfl, bw', bs', g1, g2, g3, g4⟩
  have hl2 := h2.lt
  unfold Six at h7
  refine ⟨by rw [t1, t2]; rfl, ⟨⟨bw', bs', bw2, bs2, _, My, g1, h2.but g2 (by simp; omega) (by simp; omega) (by simp; omega), t3, h4, t4, h6, ?_⟩, q1.off g2 (q1.lies h1), q2.off g2 (q2.lies h1), q3, q4.trans (g2.below (by simp; omega) q4.size)⟩, Acts.of h1 g2⟩
  have := q4.size
  unfold Six
  omega
/-- Delete of the key at place i. -/
theorem Hold.gone (h : Hold w wr b1 b2 vk vv px py ks vs) (hT : Tab w) {i : Nat} {key old : ByteArray} (hi : px[i]? = some (key, old)) (hk : key.size < 140737488355328) :
    Calls Tryd.prog 15 #[.pointer (some ⟨b1, 0, none⟩), .string key] wr fun e w' => e = .returned (.bool true) ∧ Hold w w' b1 b2 vk vv (px.take i ++ px.drop (i + 1)) py ks vs ∧ Acts wr w' := by
  obtain ⟨⟨bw1, bs1, bw2, bs2, Mx, My, h1, h2, h3, h4, h5, h6, h7⟩, q1, q2, q3, q4⟩ := h
  obtain ⟨t1, t3, t4⟩ := tells_gone h3 h5 hi
  refine (delete_any_s b1 bw1 bs1 Mx key wr (hT.below q4 hT.1) h1 (sane_of_inv h3) hk).mono ?_
  rintro e w' ⟨rfl, g1, g2⟩
  unfold Six at h7
  refine ⟨by rw [t1], ⟨⟨bw1, bs1, bw2, bs2, _, My, g1, h2.but g2 (by simp; omega) (by simp; omega) (by simp; omega), t3, h4, t4, h6, h7⟩, q1.off g2 (q1.lies h1), q2.off g2 (q2.lies h1), q3, q4.trans (g2.below (by simp; omega) q4.size)⟩, Acts.of h1 g2⟩
/-- Delete of a key that is not there. -/
theorem Hold.keep (h : Hold w wr b1 b2 vk vv px py ks vs) (hT : Tab w) {key : ByteArray} (hno : key ∉ px.map Prod.fst) (hk : key.size < 140737488355328) :
    Calls Tryd.prog 15 #[.pointer (some ⟨b1, 0, none⟩), .string key] wr fun e w' => e = .returned (.bool false) ∧ Hold w w' b1 b2 vk vv px py ks vs ∧ Acts wr w' := by
  obtain ⟨⟨bw1, bs1, bw2, bs2, Mx, My, h1, h2, h3, h4, h5, h6, h7⟩, q1, q2, q3, q4⟩ := h
  obtain ⟨t1, t3, t4⟩ := tells_keep h3 h5 hno
  refine (delete_any_s b1 bw1 bs1 Mx key wr (hT.below q4 hT.1) h1 (sane_of_inv h3) hk).mono ?_
  rintro e w' ⟨rfl, g1, g2⟩
  unfold Six at h7
  refine ⟨by rw [t1], ⟨⟨bw1, bs1, bw2, bs2, _, My, g1, h2.but g2 (by simp; omega) (by simp; omega) (by simp; omega), t3, h4, t4, h6, h7⟩, q1.off g2 (q1.lies h1), q2.off g2 (q2.lies h1), q3, q4.trans (g2.below (by simp; omega) q4.size)⟩, Acts.of h1 g2⟩
theorem Hold.len (h : Hold w wr b1 b2 vk vv px py ks vs) : Calls Tryd.prog 21 #[.pointer (some ⟨b1, 0, none⟩)] wr fun e w' => e = .returned (.int .i64 (px.length : Nat)) ∧ w' = wr := by
  obtain ⟨⟨bw1, bs1, bw2, bs2, Mx, My, h1, h2, h3, h4, h5, h6, h7⟩, q1, q2, q3, q4⟩ := h
  rw [← h5.2.1]
  exact len_any_s b1 bw1 bs1 Mx wr h1 h3.fit
theorem Hold.get (h : Hold w wr b1 b2 vk vv px py ks vs) (hT : Tab w) {key v : ByteArray} (hm : (key, v) ∈ px) (hk : key.size < 140737488355328) :
    Calls Tryd.prog 17 #[.pointer (some ⟨b1, 0, none⟩), .string key] wr fun e w' => e = .returned (.tuple #[.string v, .bool true]) ∧ Hold w w' b1 b2 vk vv px py ks vs := by
  have h0 := h
  obtain ⟨⟨bw1, bs1, bw2, bs2, Mx, My, h1, h2, h3, h4, h5, h6, h7⟩, q1, q2, q3, q4⟩ := h
  have := get_map_s b1 bw1 bs1 Mx key wr (hT.below q4 hT.1) h1 h3.fit h3.typed hk
  rw [tells_get h3 h5 hm] at this
  refine this.mono ?_
  rintro e w' ⟨rfl, hb⟩
  exact ⟨rfl, h0.below hb⟩
theorem Hold.size (h : Hold w wr b1 b2 vk vv px py ks vs) {k : ByteArray} (hk : k ∈ px.map Prod.fst) : k.size < 140737488355328 := by
  obtain ⟨⟨bw1, bs1, bw2, bs2, Mx, My, h1, h2, h3, h4, h5, h6, h7⟩, _⟩ := h
  obtain ⟨s, hs⟩ := fst_mem.1 hk
  obtain ⟨p, hp, hb, he⟩ := (h5.2.2 k (.string s)).2 ⟨s, rfl, hs⟩
  have := h3.fit.texts p (by rw [h3.fit.slots]; exact hp)
  rw [he] at this
  exact this
theorem Hold.nodup (h : Hold w wr b1 b2 vk vv px py ks vs) : (px.map Prod.fst).Nodup := by
  obtain ⟨⟨bw1, bs1, bw2, bs2, Mx, My, h1, h2, h3, h4, h5, h6, h7⟩, _⟩ := h
  exact h5.1
/-- The row of keys was appended to. -/
theorem Hold.app (h : Hold w wr b1 b2 vk vv px py ks vs) (hg : wr.grownBy w' vk.ownBlock) (ho : OwnsT w' w.heap.size vk' ks') (hw : vk'.ownBlock = vk.ownBlock ∨ ∃ k, vk'.ownBlock = some k ∧ wr.heap.size ≤ k) : Hold w w' b1 b2 vk' vv px py ks' vs := by
  have ht := h.turn.2.2.2.1
  obtain ⟨⟨bw1, bs1, bw2, bs2, Mx, My, h1, h2, h3⟩, h4, h5, h6, h7⟩ := h
  refine ⟨⟨bw1, bs1, bw2, bs2, Mx, My, h1.kept h4 hg, h2.kept h4 hg, h3⟩, ho, h5.kept hg ht, ?_, below_grownT h7 h4 hg h7.size (Nat.le_refl _)⟩
  rcases hw with hw | ⟨k, hk, hle⟩
  · rw [hw]; exact h6
  · refine .inr fun e => ?_
    have := (World.ownsRow.lt h5 k (e.symm.trans hk)).2
    omega
/-- The row of keys was made anew. -/
theorem Hold.new (h : Hold w wr b1 b2 vk vv px py ks vs) (hb : Below wr.heap.size wr w') (ho : OwnsT w' wr.heap.size vk' ks') : Hold w w' b1 b2 vk' vv px py ks' vs := by
  obtain ⟨h1, h4, h5, h6, h7⟩ := h
  have h' := Hold.below (w' := w') ⟨h1, h4, h5, h6, h7⟩ hb
  refine ⟨h'.1, ho.mono h7.size, h'.2.2.1, ?_, h'.bel⟩
  cases hv : vk'.ownBlock with
  | none => exact .inl rfl
  | some k =>
    refine .inr fun e => ?_
    have e1 := (World.ownsRow.lt h5 k e.symm).2
    have e2 := (World.ownsRow.lt ho k hv).1
    omega
/-- A text was stored into the row of keys. -/
theorem Hold.store {g n c : Nat} (h : Hold w wr b1 b2 (.slice (some ⟨g, 0, none⟩) n c) vv px py ks vs) (i : Nat) (z : ByteArray) : Hold w (wr.setCell ⟨g, i, none⟩ (.string z)) b1 b2 (.slice (some ⟨g, 0, none⟩) n c) vv px py (ks.set i z) vs := by
  have hg : wr.grownBy (wr.setCell ⟨g, i, none⟩ (.string z)) (Value.ownBlock (.slice (some ⟨g, 0, none⟩) n c)) := by
    refine ⟨rfl, rfl, rfl, ?_, fun k hk hne => ?_⟩
    · simp [World.setCell]
    · exact Below.heap_setCell _ _ _ _ (fun e => hne (by simp [Value.ownBlock, e]))
  exact h.app hg (h.2.1.set i z) (.inl rfl)
end Go.Proofs.YtkjnifipepiahaaDoor

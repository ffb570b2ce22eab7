import Derived.Test.YthlghokgknkpaaaGreatDoorSwMpTo
import Derived.Laws.OwnMore
import Derived.Test.YthlghokgknkpaaaGreatDoorSwB3To
/-
  Rows of texts that the call made: appended to as a step of a region that draws, cut, stored into, and how they lie to a map.
-/
namespace Go.Proofs.YthlghokgknkpaaaGreatDoor
open Go.RowKit Go.Shelf

/-- The row of an append lies in its own block, or in a new one. -/
theorem append_where {P : Program} {w : World} {base : Nat} {t ty e : TypeId} {i : TypeInfo} {z : Value} {size bytes : Nat} (ht : P.underlying t = some (.slice e)) (hi : P.info? e = some i) (hz : i.zero = some z)
    (hsize : i.size = size) (hby : i.bytes = bytes) (hzs : z.cells.size = size) (hsz : 0 < size) {v : Value} {n : Nat} {xs : List Value} (hown : w.ownsRow base e size v n xs)
    {a : Addr} {m c : Nat} {news : List Value} (hl : news.length = m * size) (hnews : ∀ j u, news[j]? = some u → w.cell? (a.add j) = some u) (h1 : ∀ u ∈ news, u.oneCell' = true)
    (h63 : n + m ≤ maxLen) (hbytes : (n + m) * bytes ≤ 140737488355328) {v' : Value} {w' : World} (hr : (Builtin.append_ #[t, t] ty #[v, .slice (some a) m c]).run P w = .ok v' w') :
    v'.ownBlock = v.ownBlock ∨ ∃ k, v'.ownBlock = some k ∧ w.heap.size ≤ k := by
  have hsmall : n + m ≤ 9223372036854775807 := by simp only [maxLen] at h63; omega
  rcases hown.2 with ⟨rfl, rfl⟩ | ⟨g, cap, cur, rfl, hbg, hg, hnc, hcm, hcs, htake⟩
  · have hx : xs = [] := List.eq_nil_of_length_eq_zero (by simpa using hown.1)
    subst hx
    obtain ⟨v2, w2, hr2, ho2, _, _⟩ := run_append_own (P := P) w w.heap.size t ty e i z size bytes ht hi hz hsize hby hzs hsz (.slice none 0 0) 0 [] (World.ownsRow_nil _ _ _ _) a m c news hl hnews h1 h63 hbytes (Nat.le_refl _)
    rw [hr] at hr2
    simp only [Result.ok.injEq] at hr2
    obtain ⟨rfl, rfl⟩ := hr2
    cases hk : v'.ownBlock with
    | none => exact .inl rfl
    | some k => exact .inr ⟨k, rfl, (World.ownsRow.lt ho2 k hk).1⟩
  · subst hsize
    subst hby
    by_cases hroom : n + m ≤ cap
    · have hfit : n * i.size + news.length ≤ cur.size := by rw [hl, hcs, ← Nat.add_mul]; exact Nat.mul_le_mul_right _ hroom
      rw [run_append_room (P := P) w t ty e i ht hi g n cap cur hg a m c news hl hnews h1 hroom hfit] at hr
      simp only [Result.ok.injEq] at hr
      rw [← hr.1]
      exact .inl rfl
    · have holds : ∀ j u, xs[j]? = some u → w.cell? ((⟨g, 0, none⟩ : Addr).add j) = some u := hown.cells (g := g) rfl
      rw [run_append_grow (P := P) w t ty e i z ht hi hz ⟨g, 0, none⟩ n cap xs hown.1 holds a m c news hl hnews (by omega) (by omega) (growslice_fits (by omega) hbytes)] at hr
      simp only [Result.ok.injEq] at hr
      rw [← hr.1]
      exact .inr ⟨_, rfl, Nat.le_refl _⟩

theorem textsV_one (xs : List ByteArray) : ∀ u ∈ textsV xs, u.oneCell' = true := fun u hu => by
  obtain ⟨x, _, rfl⟩ := List.mem_map.1 hu
  rfl
/-- 'append(s, x...)' of texts. -/
theorem run_texts (w : World) (ty : TypeId) (B : Nat) (v x : Value) (xs ys : List ByteArray) (hx : HasT w x ys) (hown : OwnsT w B v xs) (hlen : xs.length ≤ 1099511627776) (hlen2 : ys.length ≤ 1099511627776) (hB : B ≤ w.heap.size) :
    ∃ v' w', (Builtin.append_ #[80, 80] ty #[v, x]).run Tryz.prog w = .ok v' w' ∧ OwnsT w' B v' (xs ++ ys) ∧ w.grownBy w' v.ownBlock ∧ (v'.ownBlock = v.ownBlock ∨ ∃ k, v'.ownBlock = some k ∧ w.heap.size ≤ k) := by
  obtain ⟨i, hi, hz, hsize, hby⟩ := info_parts infoT_s
  obtain ⟨p, c, hv, hc, hnone, hcell⟩ := hx
  cases p with
  | none =>
    obtain rfl := hnone rfl
    have hy : ys = [] := List.eq_nil_of_length_eq_zero (by omega)
    subst hy
    have hrun := run_append_owned_none (P := Tryz.prog) w B 80 ty 9 i 1 Tryz.underlying80 hi v xs.length (textsV xs) hown
    refine ⟨v, w, by rw [hv]; exact hrun, by rw [List.append_nil]; exact hown, ⟨rfl, rfl, rfl, Nat.le_refl _, fun _ _ _ => rfl⟩, .inl rfl⟩
  | some ad =>
    have hl : (textsV ys).length = ys.length * 1 := by simp [textsV]
    have hnews : ∀ j u, (textsV ys)[j]? = some u → w.cell? (ad.add j) = some u := by
      intro j u hj
      have hjl : j < ys.length := by
        have := (List.getElem?_eq_some_iff.1 hj).1
        simpa [textsV] using this
      obtain ⟨b, o', hp, _, hcl⟩ := hcell (by omega)
      obtain rfl := Option.some.inj hp
      rw [Addr.add_lit, hcl j hjl]
      simp [textsV, List.getElem?_eq_getElem hjl] at hj
      subst hj
      simp [List.getElem?_eq_getElem hjl]
    have h63 : xs.length + ys.length ≤ maxLen := by unfold maxLen; omega
    obtain ⟨v', w', hr, ho, hg, _⟩ := run_append_own (P := Tryz.prog) w B 80 ty 9 i (.string ⟨#[]⟩) 1 16 Tryz.underlying80 hi hz hsize hby rfl (by decide) v xs.length (textsV xs) hown ad ys.length c (textsV ys) hl hnews (textsV_one ys) h63 (by omega) hB
    refine ⟨v', w', by rw [hv]; exact hr, ?_, hg, append_where Tryz.underlying80 hi hz hsize hby rfl (by decide) hown hl hnews (textsV_one ys) h63 (by omega) hr⟩
    unfold OwnsT
    rw [List.length_append, show textsV (xs ++ ys) = textsV xs ++ textsV ys by simp [textsV]]
    exact ho
/-- The same as a step of a region that draws its order. -/
theorem step_texts {ops : Array Oper} {o : Oper} {a : Act} {K : Act → World → Prop} {Q : Exit → Act → World → Prop} {E : Prop} (w : World) (hgd : o.guard = none) (s x : Operand)
    (ho : o.op = .call { callee := .builtin .append, args := #[s, x], argTypes := #[80, 80] })
    (B : Nat) (v u : Value) (xs ys : List ByteArray) (hs : a.eval s = v) (hu : a.eval x = u) (hx : HasT w u ys) (hown : OwnsT w B v xs) (hlen : xs.length ≤ 1099511627776) (hlen2 : ys.length ≤ 1099511627776) (hB : B ≤ w.heap.size)
    (h : ∀ v' w', OwnsT w' B v' (xs ++ ys) → w.grownBy w' v.ownBlock → (v'.ownBlock = v.ownBlock ∨ ∃ k, v'.ownBlock = some k ∧ w.heap.size ≤ k) → K (a.put o.dst v') w') :
    if Region.wanted o (yielded ops a.tmps) = true then Oper.wp Tryz.prog o a w K Q else E := by
  have hw : Region.wanted o (yielded ops a.tmps) = true := by simp [Region.wanted, hgd]
  rw [if_pos hw]
  obtain ⟨v', w', hr, h1, h2, h3⟩ := run_texts w o.type B v u xs ys hx hown hlen hlen2 hB
  unfold Oper.wp execOp
  simp only [ho, resolve, invoke, builtin, Sem.run_bind, Sem.run_pure, Result.andThen_ok, List.map_toArray, List.map_cons, List.map_nil, hs, hu, hr]
  exact h v' w' h1 h2 h3

theorem HasT.one {w : World} {k : Nat} {z : ByteArray} {t : TypeId} (h : w.heap[k]? = some (.cells #[.string z] t (0, 0))) : HasT w (.slice (some ⟨k, 0, none⟩) 1 1) [z] := by
  refine ⟨some ⟨k, 0, none⟩, 1, rfl, Nat.le_refl _, (fun h => by cases h), fun _ => ⟨k, 0, rfl, (Array.getElem?_eq_some_iff.1 h).1, fun i hi => ?_⟩⟩
  obtain rfl : i = 0 := by simp at hi; exact hi
  simp [World.cell?, h]
theorem HasT.nil {w : World} (p : Addr) (c : Nat) : HasT w (.slice (some p) 0 c) [] := ⟨some p, c, rfl, Nat.zero_le _, (fun h => by cases h), fun h => by simp at h⟩
theorem HasT.kept {w w' : World} {v : Value} {xs : List ByteArray} {row : Option Nat} (h : HasT w v xs) (hg : w.grownBy w' row) (hne : v.ownBlock = none ∨ v.ownBlock ≠ row) : HasT w' v xs := by
  obtain ⟨p, c, rfl, h1, h2, h3⟩ := h
  refine ⟨p, c, rfl, h1, h2, fun h0 => ?_⟩
  obtain ⟨b, o, rfl, hlt, hc⟩ := h3 h0
  refine ⟨b, o, rfl, Nat.lt_of_lt_of_le hlt hg.size, fun i hi => (World.cell?_of_block (a := ⟨b, o + i, none⟩) (hg.block b hlt ?_)).trans (hc i hi)⟩
  rcases hne with hn | hn
  · cases hn
  · exact hn
theorem HasT.take {w : World} {g n c : Nat} {xs : List ByteArray} (h : HasT w (.slice (some ⟨g, 0, none⟩) n c) xs) {k : Nat} (hk : k ≤ n) : HasT w (.slice (some ⟨g, 0, none⟩) k c) (xs.take k) := by
  obtain ⟨p, c', e, h1, h2, h3⟩ := h
  simp only [Value.slice.injEq] at e
  obtain ⟨rfl, rfl, rfl⟩ := e
  have hl : (xs.take k).length = k := by rw [List.length_take]; omega
  refine ⟨some ⟨g, 0, none⟩, c, by rw [hl], by omega, (fun h => by cases h), fun h0 => ?_⟩
  obtain ⟨b, o, e, hlt, hc⟩ := h3 (by omega)
  simp only [Option.some.injEq, Addr.mk.injEq] at e
  obtain ⟨rfl, rfl, _⟩ := e
  refine ⟨g, 0, rfl, hlt, fun i hi => ?_⟩
  rw [hc i (by omega)]
  simp only [List.getD_eq_getElem?_getD]
  rw [List.getElem?_take, if_pos (by omega)]
theorem HasT.drop {w : World} {g n c : Nat} {xs : List ByteArray} (h : HasT w (.slice (some ⟨g, 0, none⟩) n c) xs) {k : Nat} (hk : k ≤ n) : HasT w (.slice (some ⟨g, k, none⟩) (n - k) (c - k)) (xs.drop k) := by
  obtain ⟨p, c', e, h1, h2, h3⟩ := h
  simp only [Value.slice.injEq] at e
  obtain ⟨rfl, rfl, rfl⟩ := e
  have hl : (xs.drop k).length = xs.length - k := by rw [List.length_drop]
  refine ⟨some ⟨g, k, none⟩, c - k, by rw [hl], by omega, (fun h => by cases h), fun h0 => ?_⟩
  obtain ⟨b, o, e, hlt, hc⟩ := h3 (by omega)
  simp only [Option.some.injEq, Addr.mk.injEq] at e
  obtain ⟨rfl, rfl, _⟩ := e
  refine ⟨g, k, rfl, hlt, fun i hi => ?_⟩
  have := hc (k + i) (by omega)
  rw [Nat.zero_add] at this
  rw [this]
  simp only [List.getD_eq_getElem?_getD, List.getElem?_drop]
theorem OwnsT.has {w : World} {B : Nat} {v : Value} {xs : List ByteArray} (h : OwnsT w B v xs) : HasT w v xs := hasT_owns h
theorem OwnsT.mono {w : World} {B B' : Nat} {v : Value} {xs : List ByteArray} (h : OwnsT w B v xs) (hB : B' ≤ B) : OwnsT w B' v xs := row_mono h hB
theorem OwnsT.off {w w' : World} {B : Nat} {v : Value} {xs : List ByteArray} {S : List Nat} (h : OwnsT w B v xs) (hb : But S w w') (hS : ∀ k ∈ S, v.ownBlock ≠ some k) : OwnsT w' B v xs := by
  refine ⟨h.1, ?_⟩
  rcases h.2 with hn | ⟨g, cap, cur, rfl, hb1, hg, rest⟩
  · exact .inl hn
  · refine .inr ⟨g, cap, cur, rfl, hb1, ?_, rest⟩
    rw [hb.block g (Array.getElem?_eq_some_iff.1 hg).1 (fun hm => hS g hm rfl)]
    exact hg
theorem OwnsT.kept {w w' : World} {B : Nat} {v : Value} {xs : List ByteArray} {row : Option Nat} (h : OwnsT w B v xs) (hg : w.grownBy w' row) (hne : v.ownBlock = none ∨ v.ownBlock ≠ row) : OwnsT w' B v xs := World.ownsRow.kept h hg hne
/-- A row of texts and a block of another type are apart. -/
theorem OwnsT.apart {w : World} {B : Nat} {v : Value} {xs : List ByteArray} (h : OwnsT w B v xs) {k : Nat} {c : Array Value} {e : TypeId} {f : Nat × Nat} (hk : w.heap[k]? = some (.cells c e f)) (he : e ≠ 9) : v.ownBlock ≠ some k := by
  rcases h.2 with ⟨rfl, _⟩ | ⟨g, cap, cur, rfl, _, hg, _⟩
  · intro e; cases e
  · intro e1
    simp only [Value.ownBlock, Option.some.injEq] at e1
    subst e1
    rw [hk] at hg
    simp only [Option.some.injEq, Obj.cells.injEq] at hg
    exact he hg.2.1
theorem OwnsT.lies {w : World} {B : Nat} {v : Value} {xs : List ByteArray} (h : OwnsT w B v xs) {b bw bs : Nat} {M : SM} (hL : Lies 74 71 w b bw bs M) : ∀ k ∈ [b, bw, bs], v.ownBlock ≠ some k := by
  obtain ⟨cw, cs, h1, h2, h3⟩ := hL.row
  intro k hk
  simp only [List.mem_cons, List.not_mem_nil, or_false] at hk
  rcases hk with rfl | rfl | rfl
  · exact h.apart h1 (by decide)
  · rcases h2.2 with ⟨hn, _⟩ | ⟨g, cap, cur, e, _, hg, _⟩
    · cases hn
    · simp only [Value.slice.injEq, Option.some.injEq, Addr.mk.injEq] at e
      obtain ⟨⟨rfl, _, _⟩, _, _⟩ := e
      exact h.apart hg (by decide)
  · rcases h3.2 with ⟨hn, _⟩ | ⟨g, cap, cur, e, _, hg, _⟩
    · cases hn
    · simp only [Value.slice.injEq, Option.some.injEq, Addr.mk.injEq] at e
      obtain ⟨⟨rfl, _, _⟩, _, _⟩ := e
      exact h.apart hg (by decide)
theorem Lies.kept {w w' : World} {B : Nat} {v : Value} {xs : List ByteArray} {b bw bs : Nat} {M : SM} (hL : Lies 74 71 w b bw bs M) (h : OwnsT w B v xs) (hg : w.grownBy w' v.ownBlock) : Lies 74 71 w' b bw bs M := by
  have hl := hL.lt
  have hn := h.lies hL
  exact hL.same (hg.block b hl.1 (fun e => hn b (by simp) e.symm)) (hg.block bw hl.2.1 (fun e => hn bw (by simp) e.symm)) (hg.block bs hl.2.2 (fun e => hn bs (by simp) e.symm))
theorem below_grownT {w0 w w' : World} {B C : Nat} {v : Value} {xs : List ByteArray} (hb : Below B w0 w) (h : OwnsT w C v xs) (hg : w.grownBy w' v.ownBlock) (hB : B ≤ w.heap.size) (hC : B ≤ C) : Below B w0 w' :=
  hb.grown hg hB fun k hk => Nat.le_trans hC (World.ownsRow.lt h k hk).1
/-- A text stored into a row. -/
theorem OwnsT.set {w : World} {B g n c : Nat} {xs : List ByteArray} (h : OwnsT w B (.slice (some ⟨g, 0, none⟩) n c) xs) (i : Nat) (z : ByteArray) : OwnsT (w.setCell ⟨g, i, none⟩ (.string z)) B (.slice (some ⟨g, 0, none⟩) n c) (xs.set i z) := by
  have hn : n = xs.length := by
    rcases h.2 with ⟨e, _⟩ | ⟨g', cap, cur, e, _⟩
    · cases e
    · simp only [Value.slice.injEq] at e
      exact e.2.1
  subst hn
  have := (World.ownsRow.stored h i (.string z)).1
  unfold OwnsT
  rw [List.length_set, show textsV (xs.set i z) = (textsV xs).set i (.string z) by simp [textsV, List.map_set]]
  exact this
end Go.Proofs.YthlghokgknkpaaaGreatDoor

/-
  Contract: Map[string].Get.
-/
namespace Go.Proofs.YthlghokgknkpaaaGreatDoor
open Go.RowKit Go.Shelf

set_option maxHeartbeats 1000000 in
theorem get_map_s (b bw bs : Nat) (M : SM) (key : ByteArray) (w : World) (hT : Tab w) (h : Lies 74 71 w b bw bs M) (hF : M.Fit) (hV : M.Typed IsV_s) (hk : key.size < 140737488355328) :
    Calls Tryz.prog 111 #[.pointer (some ⟨b, 0, none⟩), .string key] w fun e w' => e = .returned (.tuple #[(M.get key (.string ⟨#[]⟩)).1, .bool (M.get key (.string ⟨#[]⟩)).2]) ∧ Below w.heap.size w w' := by
  have hfind := find_any_s b bw bs M key w hT h hF hk
  unfold SM.get
  cases hfd : M.find key with
  | some p =>
    obtain ⟨hp1, _, _, _⟩ := find_some hF hfd
    obtain ⟨x, hx⟩ := hV p hp1
    rw [hfd] at hfind
    simp only
    rw [hx]
    clear hfd
    go_enter Tryz.func111, Tryz.ntmps111
    go_wp2_with fail
    refine hfind.mono ?_
    rintro e w1 ⟨rfl, hb⟩
    have hl := h.below hb (Nat.le_refl _)
    obtain ⟨dw, ds, _, _, _, k3, _, _, _, hds⟩ := hl.cells
    have kv := hl.val p hp1
    rw [hx] at kv
    have hp2 : (p : Int) < M.ss.length := by omega
    have hp3 : (p : Int) ≠ -1 := by omega
    clear hx hfind
    go_wp2
    go_ret2
    exact ⟨rfl, hb⟩
  | none =>
    rw [hfd] at hfind
    simp only
    clear hfd
    go_enter Tryz.func111, Tryz.ntmps111
    go_wp2_with fail
    refine hfind.mono ?_
    rintro e w1 ⟨rfl, hb⟩
    clear hfind
    go_wp2
    go_ret2
    exact ⟨rfl, hb⟩
end Go.Proofs.YthlghokgknkpaaaGreatDoor

/-
  Which blocks a map's calls leave as they were, by the kind that stands in them; a row of texts that is only read; a walk in memory; what Next does to what is ahead.
-/
namespace Go.Proofs.YthlghokgknkpaaaGreatDoor
open Go.RowKit Go.Shelf

/-- Blocks of all kinds but those of T are as they were. -/
def Kinds (T : List TypeId) (X Y : World) : Prop := ∀ (t : TypeId) (k : Nat) (c : Array Value) (f : Nat × Nat), t ∉ T → X.heap[k]? = some (Obj.cells c t f) → Y.heap[k]? = some (Obj.cells c t f)
theorem Kinds.refl (T : List TypeId) (X : World) : Kinds T X X := fun _ _ _ _ _ h => h
theorem Kinds.trans {T : List TypeId} {X Y Z : World} (h : Kinds T X Y) (k : Kinds T Y Z) : Kinds T X Z := fun t i c f ht hi => k t i c f ht (h t i c f ht hi)
theorem Kinds.below {T : List TypeId} {X Y : World} (h : Below X.heap.size X Y) : Kinds T X Y := fun _ k _ _ _ hk => (h.block k (Array.getElem?_eq_some_iff.1 hk).1).trans hk
theorem Kinds.mono {T T' : List TypeId} {X Y : World} (h : Kinds T X Y) (hs : ∀ t ∈ T, t ∈ T') : Kinds T' X Y := fun t k c f ht hk => h t k c f (fun hm => ht (hs t hm)) hk
theorem Kinds.of {tM tS : TypeId} {X Y : World} {b bw bs : Nat} {M : SM} (hL : Lies tM tS X b bw bs M) (hb : But [b, bw, bs] X Y) : Kinds [tM, 22, tS] X Y := by
  intro t k c f ht hk
  refine (hb.block k (Array.getElem?_eq_some_iff.1 hk).1 fun hm => ?_).trans hk
  obtain ⟨cw, cs, h1, h2, h3⟩ := hL.row
  simp only [List.mem_cons, List.not_mem_nil, or_false, not_or] at hm ht
  rcases hm with rfl | rfl | rfl
  · rw [hk] at h1
    simp only [Option.some.injEq, Obj.cells.injEq] at h1
    exact ht.1 h1.2.1
  · rcases h2.2 with ⟨hn, _⟩ | ⟨g, cap, cur, e, _, hg, _⟩
    · cases hn
    · simp only [Value.slice.injEq, Option.some.injEq, Addr.mk.injEq] at e
      obtain ⟨⟨rfl, _, _⟩, _, _⟩ := e
      rw [hk] at hg
      simp only [Option.some.injEq, Obj.cells.injEq] at hg
      exact ht.2.1 hg.2.1
  · rcases h3.2 with ⟨hn, _⟩ | ⟨g, cap, cur, e, _, hg, _⟩
    · cases hn
    · simp only [Value.slice.injEq, Option.some.injEq, Addr.mk.injEq] at e
      obtain ⟨⟨rfl, _, _⟩, _, _⟩ := e
      rw [hk] at hg
      simp only [Option.some.injEq, Obj.cells.injEq] at hg
      exact ht.2.2 hg.2.1
/-- A block whose kind is not one of a map's is apart from the map. -/
theorem Lies.apart {tM tS : TypeId} {X : World} {b bw bs : Nat} {M : SM} (hL : Lies tM tS X b bw bs M) {t : TypeId} {k : Nat} {c : Array Value} {f : Nat × Nat} (ht : t ∉ [tM, 22, tS]) (hk : X.heap[k]? = some (Obj.cells c t f)) : k ∉ [b, bw, bs] := by
  intro hm
  obtain ⟨cw, cs, h1, h2, h3⟩ := hL.row
  simp only [List.mem_cons, List.not_mem_nil, or_false, not_or] at hm ht
  rcases hm with rfl | rfl | rfl
  · rw [hk] at h1
    simp only [Option.some.injEq, Obj.cells.injEq] at h1
    exact ht.1 h1.2.1
  · rcases h2.2 with ⟨hn, _⟩ | ⟨g, cap, cur, e, _, hg, _⟩
    · cases hn
    · simp only [Value.slice.injEq, Option.some.injEq, Addr.mk.injEq] at e
      obtain ⟨⟨rfl, _, _⟩, _, _⟩ := e
      rw [hk] at hg
      simp only [Option.some.injEq, Obj.cells.injEq] at hg
      exact ht.2.1 hg.2.1
  · rcases h3.2 with ⟨hn, _⟩ | ⟨g, cap, cur, e, _, hg, _⟩
    · cases hn
    · simp only [Value.slice.injEq, Option.some.injEq, Addr.mk.injEq] at e
      obtain ⟨⟨rfl, _, _⟩, _, _⟩ := e
      rw [hk] at hg
      simp only [Option.some.injEq, Obj.cells.injEq] at hg
      exact ht.2.2 hg.2.1
/-- A block of another kind is turned: the map lies as it lay. -/
theorem Lies.other {tM tS : TypeId} {X Y : World} {b bw bs : Nat} {M : SM} (hL : Lies tM tS X b bw bs M) {t : TypeId} {k : Nat} {c : Array Value} {f : Nat × Nat} (ht : t ∉ [tM, 22, tS]) (hk : X.heap[k]? = some (Obj.cells c t f)) (hb : But [k] X Y) : Lies tM tS Y b bw bs M := by
  have hn := hL.apart ht hk
  simp only [List.mem_cons, List.not_mem_nil, or_false, not_or] at hn
  exact hL.but hb (by simp; omega) (by simp; omega) (by simp; omega)
theorem Kinds.one {X Y : World} {t : TypeId} {k : Nat} {c : Array Value} {f : Nat × Nat} (hk : X.heap[k]? = some (Obj.cells c t f)) (hb : But [k] X Y) : Kinds [t] X Y := by
  intro t' k' c' f' ht hk'
  refine (hb.block k' (Array.getElem?_eq_some_iff.1 hk').1 fun hm => ?_).trans hk'
  simp only [List.mem_cons, List.not_mem_nil, or_false] at hm ht
  subst hm
  rw [hk] at hk'
  simp only [Option.some.injEq, Obj.cells.injEq] at hk'
  exact ht hk'.2.1.symm

/-- A row of texts, in a block of its kind. -/
def RowT (w : World) (v : Value) (xs : List ByteArray) : Prop :=
  ∃ p c, v = .slice p xs.length c ∧ xs.length ≤ c ∧ (p = none → c = 0) ∧
    (0 < xs.length → ∃ g o cur f, p = some ⟨g, o, none⟩ ∧ w.heap[g]? = some (Obj.cells cur 9 f) ∧ ∀ i, i < xs.length → w.cell? ⟨g, o + i, none⟩ = some (.string (xs.getD i ByteArray.empty)))
theorem RowT.has {w : World} {v : Value} {xs : List ByteArray} (h : RowT w v xs) : HasT w v xs := by
  obtain ⟨p, c, rfl, h1, h2, h3⟩ := h
  refine ⟨p, c, rfl, h1, h2, fun h0 => ?_⟩
  obtain ⟨g, o, cur, f, rfl, hg, hc⟩ := h3 h0
  exact ⟨g, o, rfl, (Array.getElem?_eq_some_iff.1 hg).1, hc⟩
theorem RowT.kinds {T : List TypeId} {w w' : World} {v : Value} {xs : List ByteArray} (h : RowT w v xs) (hk : Kinds T w w') (hT : 9 ∉ T) : RowT w' v xs := by
  obtain ⟨p, c, rfl, h1, h2, h3⟩ := h
  refine ⟨p, c, rfl, h1, h2, fun h0 => ?_⟩
  obtain ⟨g, o, cur, f, rfl, hg, hc⟩ := h3 h0
  have hg' := hk _ g cur f hT hg
  exact ⟨g, o, cur, f, rfl, hg', fun i hi => (World.cell?_of_block (a := ⟨g, o + i, none⟩) (hg'.trans hg.symm)).trans (hc i hi)⟩
theorem RowT.below {w w' : World} {v : Value} {xs : List ByteArray} (h : RowT w v xs) (hb : Below w.heap.size w w') : RowT w' v xs := h.kinds (T := []) (Kinds.below hb) (by simp)
theorem RowT.nil0 (w : World) : RowT w (.slice none 0 0) [] := ⟨_, _, rfl, Nat.le_refl _, fun _ => rfl, fun h => by simp at h⟩
theorem RowT.of_owns {w : World} {B : Nat} {v : Value} {xs : List ByteArray} (h : OwnsT w B v xs) : RowT w v xs := by
  obtain ⟨p, c, hv, h1, h2, h3⟩ := h.has
  refine ⟨p, c, hv, h1, h2, fun h0 => ?_⟩
  obtain ⟨b, o, rfl, hb, hc⟩ := h3 h0
  rcases h.2 with ⟨rfl, hn⟩ | ⟨g, cap, cur, rfl, hB, hg, _⟩
  · omega
  · simp only [Value.slice.injEq, Option.some.injEq, Addr.mk.injEq] at hv
    obtain ⟨⟨rfl, rfl, _⟩, _, _⟩ := hv
    exact ⟨g, 0, cur, _, rfl, hg, hc⟩
/-- The row behind its first text. -/
theorem RowT.tail {w : World} {p : Option Addr} {n c : Nat} {x : ByteArray} {xs : List ByteArray} (h : RowT w (.slice p n c) (x :: xs)) : ∃ (g o : Nat) (q : Addr), p = some ⟨g, o, none⟩ ∧ n = xs.length + 1 ∧ xs.length + 1 ≤ c ∧ w.cell? ⟨g, o, none⟩ = some (.string x) ∧ (∃ cur f, w.heap[g]? = some (Obj.cells cur 9 f)) ∧
    (if c = 1 then some (⟨g, o, none⟩ : Addr) else some ⟨g, o + 1, none⟩) = some q ∧ RowT w (.slice (some q) xs.length (c - 1)) xs := by
  obtain ⟨p', c', e, h1, h2, h3⟩ := h
  simp only [Value.slice.injEq, List.length_cons] at e
  obtain ⟨rfl, rfl, rfl⟩ := e
  obtain ⟨g, o, cur, f, rfl, hg, hc⟩ := h3 (by simp)
  have hc0 := hc 0 (by simp)
  rw [Nat.add_zero] at hc0
  rw [List.length_cons] at h1
  have hrest : ∀ q : Addr, xs = [] ∨ q = ⟨g, o + 1, none⟩ → RowT w (.slice (some q) xs.length (c - 1)) xs := by
    intro q hq
    refine ⟨some q, c - 1, rfl, by omega, (fun h => by cases h), fun h0 => ?_⟩
    rcases hq with rfl | rfl
    · simp at h0
    · refine ⟨g, o + 1, cur, f, rfl, hg, fun i hi => ?_⟩
      have := hc (i + 1) (by simp; omega)
      rw [show o + (i + 1) = o + 1 + i by omega] at this
      rw [this]
      rfl
  by_cases hcc : c = 1
  · have hx : xs = [] := List.eq_nil_of_length_eq_zero (by omega)
    exact ⟨g, o, ⟨g, o, none⟩, rfl, rfl, h1, hc0, ⟨cur, f, hg⟩, by rw [if_pos hcc], hrest _ (.inl hx)⟩
  · exact ⟨g, o, ⟨g, o + 1, none⟩, rfl, rfl, h1, hc0, ⟨cur, f, hg⟩, by rw [if_neg hcc], hrest _ (.inr rfl)⟩

/-- A walk in block x, over the map m; what is ahead reads as xs. -/
def Wk (tW : TypeId) (w : World) (x : Nat) (m : Value) (xs : List ByteArray) : Prop := ∃ v, w.heap[x]? = some (Obj.cells #[m, v] tW (0, 0)) ∧ RowT w v xs
theorem Wk.kinds {T : List TypeId} {tW : TypeId} {w w' : World} {x : Nat} {m : Value} {xs : List ByteArray} (h : Wk tW w x m xs) (hk : Kinds T w w') (hT : 9 ∉ T) (hW : tW ∉ T) : Wk tW w' x m xs := by
  obtain ⟨v, h1, h2⟩ := h
  exact ⟨v, hk _ _ _ _ hW h1, h2.kinds hk hT⟩
theorem Wk.below {tW : TypeId} {w w' : World} {x : Nat} {m : Value} {xs : List ByteArray} (h : Wk tW w x m xs) (hb : Below w.heap.size w w') : Wk tW w' x m xs := h.kinds (T := []) (Kinds.below hb) (by simp) (by simp)
theorem Wk.cells {tW : TypeId} {w : World} {x : Nat} {m : Value} {xs : List ByteArray} (h : Wk tW w x m xs) : ∃ v, w.cell? ⟨x, 0, none⟩ = some m ∧ w.cell? ⟨x, 1, none⟩ = some v ∧ w.frozen? ⟨x, 1, none⟩ = false ∧ RowT w v xs ∧ w.heap[x]? = some (Obj.cells #[m, v] tW (0, 0)) := by
  obtain ⟨v, h1, h2⟩ := h
  refine ⟨v, ?_, ?_, ?_, h2, h1⟩
  · unfold World.cell?; dsimp only; rw [h1]; rfl
  · unfold World.cell?; dsimp only; rw [h1]; rfl
  · simp [World.frozen?, h1]
theorem Wk.set {tW : TypeId} {w : World} {x : Nat} {m v v' : Value} {xs : List ByteArray} (hW : tW ≠ 9) (h1 : w.heap[x]? = some (Obj.cells #[m, v] tW (0, 0))) (h2 : RowT w v' xs) : Wk tW (w.setCell ⟨x, 1, none⟩ v') x m xs := by
  refine ⟨v', ?_, ?_⟩
  · simp [World.setCell, Array.getElem?_modify, h1]
  · exact h2.kinds (T := [tW]) (Kinds.one h1 ((But.refl [x] w).setCell (.inl (by simp)) _)) (by simpa using Ne.symm hW)

/-- What is ahead, from the next key on that is there. -/
def SM.skip (M : SM) : List ByteArray → List ByteArray
  | [] => []
  | k :: r => if (M.find k).isSome then k :: r else M.skip r
theorem skip_here {M : SM} {k : ByteArray} {r : List ByteArray} (h : (M.find k).isSome = true) : M.skip (k :: r) = k :: r := by unfold SM.skip; rw [if_pos h]
theorem skip_gone {M : SM} {k : ByteArray} {r : List ByteArray} (h : (M.find k).isSome = false) : M.skip (k :: r) = M.skip r := by rw [SM.skip, if_neg (by rw [h]; decide)]
theorem get_is (M : SM) (k : ByteArray) (z : Value) : (M.get k z).2 = (M.find k).isSome := by unfold SM.get; cases M.find k <;> rfl
theorem get_not {M : SM} {k : ByteArray} {z : Value} (h : (M.find k).isSome = false) : M.get k z = (z, false) := by
  unfold SM.get
  cases hf : M.find k with
  | none => rfl
  | some p => rw [hf] at h; cases h
/-- The keys that are passed over, and the first that is there. -/
theorem skip_split (M : SM) : ∀ xs : List ByteArray, ∃ pre, xs = pre ++ M.skip xs ∧ (∀ k ∈ pre, (M.find k).isSome = false) ∧ ∀ k r, M.skip xs = k :: r → (M.find k).isSome = true
  | [] => ⟨[], rfl, (fun _ h => by cases h), fun k r h => by cases h⟩
  | x :: xs => by
    by_cases h : (M.find x).isSome = true
    · refine ⟨[], by rw [skip_here h]; rfl, (fun _ h => by cases h), fun k r e => ?_⟩
      rw [skip_here h] at e
      cases e
      exact h
    · have h' : (M.find x).isSome = false := by simpa using h
      obtain ⟨pre, e, hp, hk⟩ := skip_split M xs
      refine ⟨x :: pre, by rw [skip_gone h', List.cons_append, ← e], fun k hm => ?_, fun k r e' => hk k r (by rw [skip_gone h'] at e'; exact e')⟩
      rcases List.mem_cons.1 hm with rfl | hm
      · exact h'
      · exact hp k hm
def headK (l : List ByteArray) : ByteArray := l.headD ByteArray.empty
/-- What Next tells: the key, its value, whether there is one. -/
def SM.nk (M : SM) (xs : List ByteArray) : ByteArray := (M.skip xs).headD ⟨#[]⟩
def SM.nv (M : SM) (xs : List ByteArray) : ByteArray := match M.skip xs with | [] => ⟨#[]⟩ | k :: _ => valK M k
def SM.nb (M : SM) (xs : List ByteArray) : Bool := match M.skip xs with | [] => false | _ :: _ => true
end Go.Proofs.YthlghokgknkpaaaGreatDoor

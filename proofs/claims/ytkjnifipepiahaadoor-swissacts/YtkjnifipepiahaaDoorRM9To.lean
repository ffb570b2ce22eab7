import Derived.Test.YtkjnifipepiahaaDoorSwIgsTo
import Derived.Test.YtkjnifipepiahaaDoorSwIsTo
import Derived.Test.YtkjnifipepiahaaDoorRaTo
import Derived.Test.YtkjnifipepiahaaDoorRM8To
/-
  Two maps and two rows of texts side by side in memory: what Put, Delete, Get, Len, an append and a store leave of them.
-/
namespace Go.Proofs.YtkjnifipepiahaaDoor
open Go.RowKit Go.Shelf

def Six (B b1 bw1 bs1 b2 bw2 bs2 : Nat) : Prop := B ≤ b1 ∧ B ≤ bw1 ∧ B ≤ bs1 ∧ B ≤ b2 ∧ B ≤ bw2 ∧ B ≤ bs2 ∧ b1 ≠ b2 ∧ b1 ≠ bw2 ∧ b1 ≠ bs2 ∧ bw1 ≠ b2 ∧ bw1 ≠ bw2 ∧ bw1 ≠ bs2 ∧ bs1 ≠ b2 ∧ bs1 ≠ bw2 ∧ bs1 ≠ bs2
/-- Two maps that tell px and py, two rows that read as ks and vs, all of them the call's own and apart from each other. -/
def Hold (w wr : World) (b1 b2 : Nat) (vk vv : Value) (px py : List (ByteArray × ByteArray)) (ks vs : List ByteArray) : Prop :=
  (∃ bw1 bs1 bw2 bs2 Mx My, Lies 79 76 wr b1 bw1 bs1 Mx ∧ Lies 79 76 wr b2 bw2 bs2 My ∧ Mx.Inv IsV_s ∧ My.Inv IsV_s ∧ Tells Mx px ∧ Tells My py ∧ Six w.heap.size b1 bw1 bs1 b2 bw2 bs2) ∧
    OwnsT wr w.heap.size vk ks ∧ OwnsT wr w.heap.size vv vs ∧ (vk.ownBlock = none ∨ vk.ownBlock ≠ vv.ownBlock) ∧ Below w.heap.size w wr

/-- An act's block is as it was. -/
def Acts (X Y : World) : Prop := ∀ (k : Nat) (c : Array Value) (f : Nat × Nat), X.heap[k]? = some (Obj.cells c 33 f) → Y.heap[k]? = some (Obj.cells c 33 f)
theorem Acts.of {X Y : World} {b bw bs : Nat} {M : SM} (hL : Lies 79 76 X b bw bs M) (hb : But [b, bw, bs] X Y) : Acts X Y := by
  intro k c f hk
  refine (hb.block k (Array.getElem?_eq_some_iff.1 hk).1 fun hm => ?_).trans hk
  obtain ⟨cw, cs, h1, h2, h3⟩ := hL.row
  simp only [List.mem_cons, List.not_mem_nil, or_false] at hm
  rcases hm with rfl | rfl | rfl
  · rw [hk] at h1
    simp at h1
  · rcases h2.2 with ⟨hn, _⟩ | ⟨g, cap, cur, e, _, hg, _⟩
    · cases hn
    · simp only [Value.slice.injEq, Option.some.injEq, Addr.mk.injEq] at e
      obtain ⟨⟨rfl, _, _⟩, _, _⟩ := e
      rw [hk] at hg
      simp at hg
  · rcases h3.2 with ⟨hn, _⟩ | ⟨g, cap, cur, e, _, hg, _⟩
    · cases hn
    · simp only [Value.slice.injEq, Option.some.injEq, Addr.mk.injEq] at e
      obtain ⟨⟨rfl, _, _⟩, _, _⟩ := e
      rw [hk] at hg
      simp at hg
variable {w wr w' : World} {b1 b2 : Nat} {vk vv vk' vv' : Value} {px py : List (ByteArray × ByteArray)} {ks vs ks' vs' : List ByteArray}

theorem Hold.bel (h : Hold w wr b1 b2 vk vv px py ks vs) : Below w.heap.size w wr := h.2.2.2.2
theorem Hold.swap (h : Hold w wr b1 b2 vk vv px py ks vs) : Hold w wr b2 b1 vk vv py px ks vs := by
  obtain ⟨⟨bw1, bs1, bw2, bs2, Mx, My, h1, h2, h3, h4, h5, h6, h7⟩, rest⟩ := h
  refine ⟨⟨bw2, bs2, bw1, bs1, My, Mx, h2, h1, h4, h3, h6, h5, ?_⟩, rest⟩
  unfold Six at *
  omega
theorem Hold.turn (h : Hold w wr b1 b2 vk vv px py ks vs) : Hold w wr b1 b2 vv vk px py vs ks := by
  obtain ⟨h1, h2, h3, h4, h5⟩ := h
  refine ⟨h1, h3, h2, ?_, h5⟩
  rcases h4 with h4 | h4
  · cases hv : vv.ownBlock with
    | none => exact .inl rfl
    | some k => rw [h4]; exact .inr (by simp)
  · exact .inr (Ne.symm h4)
theorem Hold.below (h : Hold w wr b1 b2 vk vv px py ks vs) (hb : Below wr.heap.size wr w') : Hold w w' b1 b2 vk vv px py ks vs := by
  obtain ⟨⟨bw1, bs1, bw2, bs2, Mx, My, h1, h2, h3⟩, h4, h5, h6, h7⟩ := h
  exact ⟨⟨bw1, bs1, bw2, bs2, Mx, My, h1.below hb (Nat.le_refl _), h2.below hb (Nat.le_refl _), h3⟩, h4.below hb (Nat.le_refl _), h5.below hb (Nat.le_refl _), h6, h7.trans (hb.mono h7.size)⟩
/-- Put of a key that stands at place i. -/
theorem Hold.over (h : Hold w wr b1 b2 vk vv px py ks vs) (hT : Tab w) {i : Nat} {key old v : ByteArray} (hi : px[i]? = some (key, old)) (hk : key.size < 140737488355328) (hn : px.length < 2000) :
    Calls Tryd.prog 13 #[.pointer (some ⟨b1, 0, none⟩), .string key, .string v] wr fun e w' => e = .returned (.tuple #[.bool true, .int .i64 0]) ∧ Hold w w' b1 b2 vk vv (px.set i (key, v)) py ks vs ∧ Acts wr w' := by
  obtain ⟨⟨bw1, bs1, bw2, bs2, Mx, My, h1, h2, h3, h4, h5, h6, h7⟩, q1, q2, q3, q4⟩ := h
  obtain ⟨t1, t2, t3, t4⟩ := tells_over h3 h5 (v := v) hi hk (by rw [h5.2.1]; exact hn)
  refine (put_any_s b1 bw1 bs1 Mx key v wr (hT.below q4 hT.1) h1 (sane_of_inv h3) hk).mono ?_
  rintro e w' ⟨rfl, bw', bs', g1, g2, g3, g4⟩
  have hl2 := h2.lt
  unfold Six at h7
  refine ⟨by rw [t1, t2]; rfl, ⟨⟨bw', bs', bw2, bs2, _, My, g1, h2.but g2 (by simp; omega) (by simp; omega) (by simp; omega), t3, h4, t4, h6, ?_⟩, q1.off g2 (q1.lies h1), q2.off g2 (q2.lies h1), q3, q4.trans (g2.below (by simp; omega) q4.size)⟩, Acts.of h1 g2⟩
  have := q4.size
  unfold Six
  omega
/-- Put of a new key. -/
theorem Hold.more (h : Hold w wr b1 b2 vk vv px py ks vs) (hT : Tab w) {key v : ByteArray} (hno : key ∉ px.map Prod.fst) (hk : key.size < 140737488355328) (hn : px.length < 2000) :
    Calls Tryd.prog 13 #[.pointer (some ⟨b1, 0, none⟩), .string key, .string v] wr fun e w' => e = .returned (.tuple #[.bool false, .int .i64 0]) ∧ Hold w w' b1 b2 vk vv (px ++ [(key, v)]) py ks vs ∧ Acts wr w' := by
  obtain ⟨⟨bw1, bs1, bw2, bs2, Mx, My, h1, h2, h3, h4, h5, h6, h7⟩, q1, q2, q3, q4⟩ := h
  obtain ⟨t1, t2, t3, t4⟩ := tells_more h3 h5 (v := v) hno hk (by rw [h5.2.1]; exact hn)
  refine (put_any_s b1 bw1 bs1 Mx key v wr (hT.below q4 hT.1) h1 (sane_of_inv h3) hk).mono ?_
  rintro e w' ⟨rfl, bw', bs', g1, g2, g3, g4⟩
  have hl2 := h2.lt
  unfold Six at h7
  refine ⟨by rw [t1, t2]; rfl, ⟨⟨bw', bs', bw2, bs2, _, My, g1, h2.but g2 (by simp; omega) (by simp; omega) (by simp; omega), t3, h4, t4, h6, ?_⟩, q1.off g2 (q1.lies h1), q2.off g2 (q2.lies h1), q3, q4.trans (g2.below (by simp; omega) q4.size)⟩, Acts.of h1 g2⟩
  have := q4.size
  unfold Six
  omega
/-- Delete of the key at place i. -/
theorem Hold.gone (h : Hold w wr b1 b2 vk vv px py ks vs) (hT : Tab w) {i : Nat} {key old : ByteArray} (hi : px[i]? = some (key, old)) (hk : key.size < 140737488355328) :
    Calls Tryd.prog 15 #[.pointer (some ⟨b1, 0, none⟩), .string key] wr fun e w' => e = .returned (.bool true) ∧ Hold w w' b1 b2 vk vv (px.take i ++ px.drop (i + 1)) py ks vs ∧ Acts wr w' := by
  obtain ⟨⟨bw1, bs1, bw2, bs2, Mx, My, h1, h2, h3, h4, h5, h6, h7⟩, q1, q2, q3, q4⟩ := h
  obtain ⟨t1, t3, t4⟩ := tells_gone h3 h5 hi
  refine (delete_any_s b1 bw1 bs1 Mx key wr (hT.below q4 hT.1) h1 (sane_of_inv h3) hk).mono ?_
  rintro e w' ⟨rfl, g1, g2⟩
  unfold Six at h7
  refine ⟨by rw [t1], ⟨⟨bw1, bs1, bw2, bs2, _, My, g1, h2.but g2 (by simp; omega) (by simp; omega) (by simp; omega), t3, h4, t4, h6, h7⟩, q1.off g2 (q1.lies h1), q2.off g2 (q2.lies h1), q3, q4.trans (g2.below (by simp; omega) q4.size)⟩, Acts.of h1 g2⟩
/-- Delete of a key that is not there. -/
theorem Hold.keep (h : Hold w wr b1 b2 vk vv px py ks vs) (hT : Tab w) {key : ByteArray} (hno : key ∉ px.map Prod.fst) (hk : key.size < 140737488355328) :
    Calls Tryd.prog 15 #[.pointer (some ⟨b1, 0, none⟩), .string key] wr fun e w' => e = .returned (.bool false) ∧ Hold w w' b1 b2 vk vv px py ks vs ∧ Acts wr w' := by
  obtain ⟨⟨bw1, bs1, bw2, bs2, Mx, My, h1, h2, h3, h4, h5, h6, h7⟩, q1, q2, q3, q4⟩ := h
  obtain ⟨t1, t3, t4⟩ := tells_keep h3 h5 hno
  refine (delete_any_s b1 bw1 bs1 Mx key wr (hT.below q4 hT.1) h1 (sane_of_inv h3) hk).mono ?_
  rintro e w' ⟨rfl, g1, g2⟩
  unfold Six at h7
  refine ⟨by rw [t1], ⟨⟨bw1, bs1, bw2, bs2, _, My, g1, h2.but g2 (by simp; omega) (by simp; omega) (by simp; omega), t3, h4, t4, h6, h7⟩, q1.off g2 (q1.lies h1), q2.off g2 (q2.lies h1), q3, q4.trans (g2.below (by simp; omega) q4.size)⟩, Acts.of h1 g2⟩
theorem Hold.len (h : Hold w wr b1 b2 vk vv px py ks vs) : Calls Tryd.prog 21 #[.pointer (some ⟨b1, 0, none⟩)] wr fun e w' => e = .returned (.int .i64 (px.length : Nat)) ∧ w' = wr := by
  obtain ⟨⟨bw1, bs1, bw2, bs2, Mx, My, h1, h2, h3, h4, h5, h6, h7⟩, q1, q2, q3, q4⟩ := h
  rw [← h5.2.1]
  exact len_any_s b1 bw1 bs1 Mx wr h1 h3.fit
theorem Hold.get (h : Hold w wr b1 b2 vk vv px py ks vs) (hT : Tab w) {key v : ByteArray} (hm : (key, v) ∈ px) (hk : key.size < 140737488355328) :
    Calls Tryd.prog 17 #[.pointer (some ⟨b1, 0, none⟩), .string key] wr fun e w' => e = .returned (.tuple #[.string v, .bool true]) ∧ Hold w w' b1 b2 vk vv px py ks vs := by
  have h0 := h
  obtain ⟨⟨bw1, bs1, bw2, bs2, Mx, My, h1, h2, h3, h4, h5, h6, h7⟩, q1, q2, q3, q4⟩ := h
  have := get_map_s b1 bw1 bs1 Mx key wr (hT.below q4 hT.1) h1 h3.fit h3.typed hk
  rw [tells_get h3 h5 hm] at this
  refine this.mono ?_
  rintro e w' ⟨rfl, hb⟩
  exact ⟨rfl, h0.below hb⟩
theorem Hold.size (h : Hold w wr b1 b2 vk vv px py ks vs) {k : ByteArray} (hk : k ∈ px.map Prod.fst) : k.size < 140737488355328 := by
  obtain ⟨⟨bw1, bs1, bw2, bs2, Mx, My, h1, h2, h3, h4, h5, h6, h7⟩, _⟩ := h
  obtain ⟨s, hs⟩ := fst_mem.1 hk
  obtain ⟨p, hp, hb, he⟩ := (h5.2.2 k (.string s)).2 ⟨s, rfl, hs⟩
  have := h3.fit.texts p (by rw [h3.fit.slots]; exact hp)
  rw [he] at this
  exact this
theorem Hold.nodup (h : Hold w wr b1 b2 vk vv px py ks vs) : (px.map Prod.fst).Nodup := by
  obtain ⟨⟨bw1, bs1, bw2, bs2, Mx, My, h1, h2, h3, h4, h5, h6, h7⟩, _⟩ := h
  exact h5.1
/-- The row of keys was appended to. -/
theorem Hold.app (h : Hold w wr b1 b2 vk vv px py ks vs) (hg : wr.grownBy w' vk.ownBlock) (ho : OwnsT w' w.heap.size vk' ks') (hw : vk'.ownBlock = vk.ownBlock ∨ ∃ k, vk'.ownBlock = some k ∧ wr.heap.size ≤ k) : Hold w w' b1 b2 vk' vv px py ks' vs := by
  have ht := h.turn.2.2.2.1
  obtain ⟨⟨bw1, bs1, bw2, bs2, Mx, My, h1, h2, h3⟩, h4, h5, h6, h7⟩ := h
  refine ⟨⟨bw1, bs1, bw2, bs2, Mx, My, h1.kept h4 hg, h2.kept h4 hg, h3⟩, ho, h5.kept hg ht, ?_, below_grownT h7 h4 hg h7.size (Nat.le_refl _)⟩
  rcases hw with hw | ⟨k, hk, hle⟩
  · rw [hw]; exact h6
  · refine .inr fun e => ?_
    have := (World.ownsRow.lt h5 k (e.symm.trans hk)).2
    omega
/-- The row of keys was made anew. -/
theorem Hold.new (h : Hold w wr b1 b2 vk vv px py ks vs) (hb : Below wr.heap.size wr w') (ho : OwnsT w' wr.heap.size vk' ks') : Hold w w' b1 b2 vk' vv px py ks' vs := by
  obtain ⟨h1, h4, h5, h6, h7⟩ := h
  have h' := Hold.below (w' := w') ⟨h1, h4, h5, h6, h7⟩ hb
  refine ⟨h'.1, ho.mono h7.size, h'.2.2.1, ?_, h'.bel⟩
  cases hv : vk'.ownBlock with
  | none => exact .inl rfl
  | some k =>
    refine .inr fun e => ?_
    have e1 := (World.ownsRow.lt h5 k e.symm).2
    have e2 := (World.ownsRow.lt ho k hv).1
    omega
/-- A text was stored into the row of keys. -/
theorem Hold.store {g n c : Nat} (h : Hold w wr b1 b2 (.slice (some ⟨g, 0, none⟩) n c) vv px py ks vs) (i : Nat) (z : ByteArray) : Hold w (wr.setCell ⟨g, i, none⟩ (.string z)) b1 b2 (.slice (some ⟨g, 0, none⟩) n c) vv px py (ks.set i z) vs := by
  have hg : wr.grownBy (wr.setCell ⟨g, i, none⟩ (.string z)) (Value.ownBlock (.slice (some ⟨g, 0, none⟩) n c)) := by
    refine ⟨rfl, rfl, rfl, ?_, fun k hk hne => ?_⟩
    · simp [World.setCell]
    · exact Below.heap_setCell _ _ _ _ (fun e => hne (by simp [Value.ownBlock, e]))
  exact h.app hg (h.2.1.set i z) (.inl rfl)
end Go.Proofs.YtkjnifipepiahaaDoor

/-
  Contracts: slices.Clone of slots; Map[string].Copy.
-/
namespace Go.Proofs.YtkjnifipepiahaaDoor
open Go.RowKit Go.Shelf

theorem sliceS_nil_s (a : Addr) (n c : Nat) (W : World) : (binOp .eql 77 (.slice (some a) n c) (.slice none 0 0)).run Tryd.prog W = .ok (.bool false) W := by
  simp [binOp, go_sem]
  show ((Op.equalIn (9999 + 1) 77 (.slice (some a) n c) (.slice none 0 0)).run Tryd.prog W).andThen _ = _
  rw [equal_slice_nil 9999 _ _ a n c W Tryd.underlying77]
  rfl
theorem cellsS_one_s : ∀ (ss : List (ByteArray × Value)), (∀ s ∈ ss, IsV_s s.2) → ∀ u ∈ cellsS ss, u.oneCell' = true
  | [], _, _, h => by cases h
  | s :: r, hv, u, h => by
    rcases List.mem_cons.1 h with rfl | h
    · rfl
    · rcases List.mem_cons.1 h with rfl | h
      · obtain ⟨x, hx⟩ := hv s List.mem_cons_self
        rw [hx]; rfl
      · exact cellsS_one_s r (fun s hs => hv s (List.mem_cons_of_mem _ hs)) u h

set_option maxRecDepth 10000 in
set_option maxHeartbeats 1000000 in
theorem cloneS_s (bw n cw : Nat) (ss : List (ByteArray × Value)) (w : World) (hown : w.ownsRow 0 76 2 (.slice (some ⟨bw, 0, none⟩) n cw) n (cellsS ss)) (hn : 0 < n) (hn2 : n ≤ 100000) (hv : ∀ s ∈ ss, IsV_s s.2) :
    Calls Tryd.prog 62 #[.slice (some ⟨bw, 0, none⟩) n cw] w fun e w' => ∃ g cap, e = .returned (.slice (some ⟨g, 0, none⟩) n cap) ∧ w.heap.size ≤ g ∧ w'.ownsRow 0 76 2 (.slice (some ⟨g, 0, none⟩) n cap) n (cellsS ss) ∧ Below w.heap.size w w' := by
  obtain ⟨i1, hi1, hz1, hs1, hb1⟩ := info_parts infoS_s
  have hlen := hown.1
  have he := World.ownsRow_made (e := 76) (size := 2) (base := w.heap.size) w #[] 0 (Nat.le_refl _) (Nat.zero_le _) rfl
  have hcells := row_cells (World.ownsRow.alloc hown (.cells #[] 76))
  have h1 := cellsS_one_s ss hv
  have hnil := sliceS_nil_s
  have hb : Below w.heap.size w (w.alloc (.cells #[] 76)) := (Below.refl _ _).alloc (Nat.le_refl _) _
  go_enter Tryd.func62, Tryd.ntmps62
  go_wp2_with (at_builtin; refine wpList_append_own _ rfl (.tmp 5) (.tmp 6) 77 rfl w.heap.size 76 i1 (.agg #[.string ⟨#[]⟩, (.string ⟨#[]⟩)]) 2 32 Tryd.underlying77 hi1 hz1 hs1 hb1 rfl (by decide) _ 0 [] rfl he ⟨bw, 0, none⟩ n cw (cellsS ss) rfl hlen hcells h1 (by unfold maxLen; omega) (by omega) (by simp) ?_; intro v' w' hown' hgrow _)
  rw [Nat.zero_add, List.nil_append] at hown'
  obtain ⟨g, cap, rfl, hg⟩ := row_some hown' hn
  go_ret
  refine ⟨g, cap, rfl, hg, row_mono hown' (Nat.zero_le _), hb.trans ((Below.refl _ _).grown hgrow (by simp) fun k hk => ?_)⟩
  exact (World.ownsRow.lt he k hk).1

set_option maxRecDepth 10000 in
set_option maxHeartbeats 2000000 in
theorem copy_any_s (b bw bs : Nat) (M : SM) (w : World) (h : Lies 79 76 w b bw bs M) (hF : M.Fit) (hV : M.Typed IsV_s) :
    Calls Tryd.prog 19 #[.pointer (some ⟨b, 0, none⟩)] w fun e w' => ∃ b' bw' bs', e = .returned (.pointer (some ⟨b', 0, none⟩)) ∧ Lies 79 76 w' b' bw' bs' M ∧ w.heap.size ≤ b' ∧ w.heap.size ≤ bw' ∧ w.heap.size ≤ bs' ∧ Below w.heap.size w w' := by
  have hr := good_range hF.good
  have hs8 := hF.slots
  have hlt := h.lt
  obtain ⟨cw, cs, r1, r2, r3⟩ := h.row
  obtain ⟨c0, c1, c2, c3, c4, c5⟩ : w.cell? ⟨b, 0, none⟩ = some (.int .u64 M.k0) ∧ w.cell? ⟨b, 1, none⟩ = some (.int .u64 M.k1) ∧ w.cell? ⟨b, 2, none⟩ = some (.slice (some ⟨bw, 0, none⟩) M.ws.length cw) ∧ w.cell? ⟨b, 3, none⟩ = some (.slice (some ⟨bs, 0, none⟩) M.ss.length cs) ∧ w.cell? ⟨b, 4, none⟩ = some (.int .i64 (M.n : Int)) ∧ w.cell? ⟨b, 5, none⟩ = some (.int .i64 (M.t : Int)) := by
    refine ⟨?_, ?_, ?_, ?_, ?_, ?_⟩ <;> simp [World.cell?, r1]
  have hmade := made_any_s b _ _ _ w c2
  rw [decide_eq_true (by omega : 0 < M.ws.length)] at hmade
  have hv : ∀ s ∈ M.ss, IsV_s s.2 := fun s hs => by
    obtain ⟨p, hp, rfl⟩ := List.getElem_of_mem hs
    have := hV p hp
    unfold SM.s at this
    rwa [List.getD_eq_getElem?_getD, List.getElem?_eq_getElem hp] at this
  have hnew := heap_alloc_new w (.cells #[.int .u64 M.k0, .int .u64 M.k1, .slice (some ⟨bw, 0, none⟩) M.ws.length cw, .slice (some ⟨bs, 0, none⟩) M.ss.length cs, .int .i64 (M.n : Int), .int .i64 (M.t : Int)] 79)
  have hb0 : Below w.heap.size w (w.alloc (.cells #[.int .u64 M.k0, .int .u64 M.k1, .slice (some ⟨bw, 0, none⟩) M.ws.length cw, .slice (some ⟨bs, 0, none⟩) M.ss.length cs, .int .i64 (M.n : Int), .int .i64 (M.t : Int)] 79)) := (Below.refl _ _).alloc (Nat.le_refl _) _
  have hz0 : (w.alloc (.cells #[.int .u64 M.k0, .int .u64 M.k1, .slice (some ⟨bw, 0, none⟩) M.ws.length cw, .slice (some ⟨bs, 0, none⟩) M.ss.length cs, .int .i64 (M.n : Int), .int .i64 (M.t : Int)] 79)).heap.size = w.heap.size + 1 := by simp
  generalize hX0 : w.alloc (.cells #[.int .u64 M.k0, .int .u64 M.k1, .slice (some ⟨bw, 0, none⟩) M.ws.length cw, .slice (some ⟨bs, 0, none⟩) M.ss.length cs, .int .i64 (M.n : Int), .int .i64 (M.t : Int)] 79) = X0 at hnew hb0 hz0
  have k2 := (hb0.cell (p := ⟨b, 2, none⟩) hlt.1).trans c2
  have hclW := cloneW_s bw M.ws.length cw M.ws X0 (row_below r2 hb0 (Nat.le_refl _)) (by omega) (by omega)
  have hS8 : Hid (M.ss.length = 8 * M.ws.length) := hs8
  have hss : 0 < M.ss.length ∧ M.ss.length ≤ 100000 := by omega
  clear hs8
  go_enter Tryd.func19, Tryd.ntmps19
  go_wp2_with (go_at_call 51; refine hmade.mono ?_; rintro e w ⟨rfl, rfl⟩)
  refine hclW.mono ?_
  rintro e W1 ⟨g1, cap1, rfl, hg1, ho1, hb1⟩
  have hz1 := hb1.size
  have hn1 := (hb1.block w.heap.size (by omega)).trans hnew
  have hB1 : Below w.heap.size w W1 := hb0.trans (hb1.mono (by omega))
  have k3 := (hB1.cell (p := ⟨b, 3, none⟩) hlt.1).trans c3
  have d2 : W1.cell? ⟨w.heap.size, 2, none⟩ = some (.slice (some ⟨bw, 0, none⟩) M.ws.length cw) := by simp [World.cell?, hn1]
  have f2 : W1.frozen? ⟨w.heap.size, 2, none⟩ = false := by simp [World.frozen?, hn1]
  have hn2 : (W1.setCell ⟨w.heap.size, 2, none⟩ (.slice (some ⟨g1, 0, none⟩) M.ws.length cap1)).heap[w.heap.size]? = some (.cells #[.int .u64 M.k0, .int .u64 M.k1, .slice (some ⟨g1, 0, none⟩) M.ws.length cap1, .slice (some ⟨bs, 0, none⟩) M.ss.length cs, .int .i64 (M.n : Int), .int .i64 (M.t : Int)] 79 (0, 0)) := by
    simp [World.setCell, Array.getElem?_modify, hn1]
  have hB2 : Below w.heap.size w (W1.setCell ⟨w.heap.size, 2, none⟩ (.slice (some ⟨g1, 0, none⟩) M.ws.length cap1)) := hB1.setCell (p := ⟨w.heap.size, 2, none⟩) (Nat.le_refl _) _
  have ho2 := ownsRow_block ho1 (Below.heap_setCell W1 ⟨w.heap.size, 2, none⟩ (.slice (some ⟨g1, 0, none⟩) M.ws.length cap1) g1 (by show g1 ≠ w.heap.size; omega))
  have hnb : b ≠ w.heap.size := by omega
  clear hmade c0 c1 c2 c4 c5 k2 hclW hnew hb0 hX0 hb1 ho1
  go_wp2_with fail
  clear d2 f2 hn1 k3
  generalize W1.setCell ⟨w.heap.size, 2, none⟩ (.slice (some ⟨g1, 0, none⟩) M.ws.length cap1) = X2 at *
  have hz2 := hB2.size
  have hlt2 : w.heap.size < X2.heap.size := (Array.getElem?_eq_some_iff.1 hn2).1
  have hg1x : g1 < X2.heap.size := (World.ownsRow.lt ho2 g1 rfl).2
  refine (cloneS_s bs M.ss.length cs M.ss X2 (row_below r3 hB2 (Nat.le_refl _)) hss.1 hss.2 hv).mono ?_
  rintro e W3 ⟨g2, cap2, rfl, hg2, ho3, hb3⟩
  have hn3 := (hb3.block w.heap.size hlt2).trans hn2
  have ho4 := ownsRow_block ho2 (hb3.block g1 hg1x)
  have d3 : W3.cell? ⟨w.heap.size, 3, none⟩ = some (.slice (some ⟨bs, 0, none⟩) M.ss.length cs) := by simp [World.cell?, hn3]
  have f3 : W3.frozen? ⟨w.heap.size, 3, none⟩ = false := by simp [World.frozen?, hn3]
  go_wp2
  go_ret
  refine ⟨w.heap.size, g1, g2, rfl, ⟨⟨cap1, cap2, ?_, ownsRow_block ho4 (Below.heap_setCell _ _ _ _ (by show g1 ≠ w.heap.size; omega)), ownsRow_block ho3 (Below.heap_setCell _ _ _ _ (by show g2 ≠ w.heap.size; omega))⟩, ?_, ?_⟩, Nat.le_refl _, by omega, by omega, ?_⟩
  · simp [World.setCell, Array.getElem?_modify, hn3]
  · omega
  · have := h.pos; omega
  · exact (hB2.trans (hb3.mono hz2)).setCell (p := ⟨w.heap.size, 3, none⟩) (Nat.le_refl _) _
end Go.Proofs.YtkjnifipepiahaaDoor

/-
  A map and the document's map side by side in memory: what Put, Delete, Get and Copy leave of them.
-/
namespace Go.Proofs.YtkjnifipepiahaaDoor
open Go.RowKit Go.Shelf

theorem Acts.ofR {X Y : World} {b bw bs : Nat} {M : SM} (hL : Lies 85 82 X b bw bs M) (hb : But [b, bw, bs] X Y) : Acts X Y := by
  intro k c f hk
  refine (hb.block k (Array.getElem?_eq_some_iff.1 hk).1 fun hm => ?_).trans hk
  obtain ⟨cw, cs, h1, h2, h3⟩ := hL.row
  simp only [List.mem_cons, List.not_mem_nil, or_false] at hm
  rcases hm with rfl | rfl | rfl
  · rw [hk] at h1
    simp at h1
  · rcases h2.2 with ⟨hn, _⟩ | ⟨g, cap, cur, e, _, hg, _⟩
    · cases hn
    · simp only [Value.slice.injEq, Option.some.injEq, Addr.mk.injEq] at e
      obtain ⟨⟨rfl, _, _⟩, _, _⟩ := e
      rw [hk] at hg
      simp at hg
  · rcases h3.2 with ⟨hn, _⟩ | ⟨g, cap, cur, e, _, hg, _⟩
    · cases hn
    · simp only [Value.slice.injEq, Option.some.injEq, Addr.mk.injEq] at e
      obtain ⟨⟨rfl, _, _⟩, _, _⟩ := e
      rw [hk] at hg
      simp at hg
theorem Acts.below {X Y : World} (h : Below X.heap.size X Y) : Acts X Y := fun k _ _ hk => (h.block k (Array.getElem?_eq_some_iff.1 hk).1).trans hk
theorem Acts.trans {X Y Z : World} (h : Acts X Y) (h' : Acts Y Z) : Acts X Z := fun k c f hk => h' k c f (h k c f hk)

/-- The map at b is Mx, the document's at c is My; both are the call's own and apart from each other. -/
def Pair (w wr : World) (b c : Nat) (Mx My : SM) : Prop :=
  (∃ bw bs cw cs, Lies 79 76 wr b bw bs Mx ∧ Lies 85 82 wr c cw cs My ∧ Six w.heap.size b bw bs c cw cs) ∧ Mx.Inv IsV_s ∧ My.Inv IsV_s ∧ Below w.heap.size w wr
section
variable {w wr w' : World} {b c : Nat} {Mx My : SM}
theorem Pair.bel (h : Pair w wr b c Mx My) : Below w.heap.size w wr := h.2.2.2
theorem Pair.below (h : Pair w wr b c Mx My) (hb : Below wr.heap.size wr w') : Pair w w' b c Mx My := by
  obtain ⟨⟨bw, bs, cw, cs, h1, h2, h3⟩, h4, h5, h6⟩ := h
  exact ⟨⟨bw, bs, cw, cs, h1.below hb (Nat.le_refl _), h2.below hb (Nat.le_refl _), h3⟩, h4, h5, h6.trans (hb.mono h6.size)⟩
theorem Pair.drew (h : Pair w wr b c Mx My) : Pair w wr.drew b c Mx My := h.below ⟨rfl, rfl, rfl, Nat.le_refl _, fun _ _ => rfl⟩
set_option maxHeartbeats 1000000 in
theorem Pair.putL (h : Pair w wr b c Mx My) (hT : Tab w) (key v : ByteArray) (hk : key.size < 140737488355328) :
    Calls Tryd.prog 13 #[.pointer (some ⟨b, 0, none⟩), .string key, .string v] wr fun e w' => e = .returned (.tuple #[.bool (Mx.put key (.string v) (.string ⟨#[]⟩)).1, .int .i64 ((Mx.put key (.string v) (.string ⟨#[]⟩)).2.1 : Nat)]) ∧ Pair w w' b c (Mx.put key (.string v) (.string ⟨#[]⟩)).2.2 My ∧ Acts wr w' := by
  obtain ⟨⟨bw, bs, cw, cs, h1, h2, h3⟩, h4, h5, h6⟩ := h
  obtain ⟨t3, _, _, _⟩ := inv_put h4 (key := key) (v := .string v) (z := .string ⟨#[]⟩) (isV_string _) (isV_string _) hk
  refine (put_any_s b bw bs Mx key v wr (hT.below h6 hT.1) h1 (sane_of_inv h4) hk).mono ?_
  rintro e w' ⟨rfl, bw', bs', g1, g2, g3, g4⟩
  have hl2 := h2.lt
  have := h6.size
  unfold Six at h3
  refine ⟨rfl, ⟨⟨bw', bs', cw, cs, g1, h2.but g2 (by simp; omega) (by simp; omega) (by simp; omega), ?_⟩, t3, h5, h6.trans (g2.below (by simp; omega) h6.size)⟩, Acts.of h1 g2⟩
  unfold Six
  omega
set_option maxHeartbeats 1000000 in
theorem Pair.putR (h : Pair w wr b c Mx My) (key v : ByteArray) (hw0 : 0 < w.heap.size) (hk : key.size < 140737488355328) :
    Calls Tryd.prog 14 #[.pointer (some ⟨c, 0, none⟩), .string key, .string v] wr fun e w' => e = .returned (.tuple #[.bool (My.put key (.string v) (.string ⟨#[]⟩)).1, .int .i64 ((My.put key (.string v) (.string ⟨#[]⟩)).2.1 : Nat)]) ∧ Pair w w' b c Mx (My.put key (.string v) (.string ⟨#[]⟩)).2.2 ∧ Acts wr w' := by
  obtain ⟨⟨bw, bs, cw, cs, h1, h2, h3⟩, h4, h5, h6⟩ := h
  obtain ⟨t3, _, _, _⟩ := inv_put h5 (key := key) (v := .string v) (z := .string ⟨#[]⟩) (isV_string _) (isV_string _) hk
  refine (rput_any c cw cs My key v wr (by have := h6.size; omega) h2 (sane_of_inv h5) hk).mono ?_
  rintro e w' ⟨rfl, bw', bs', g1, g2, g3, g4⟩
  have hl1 := h1.lt
  have := h6.size
  unfold Six at h3
  refine ⟨rfl, ⟨⟨bw, bs, bw', bs', h1.but g2 (by simp; omega) (by simp; omega) (by simp; omega), g1, ?_⟩, h4, t3, h6.trans (g2.below (by simp; omega) h6.size)⟩, Acts.ofR h2 g2⟩
  unfold Six
  omega
theorem Pair.delL (h : Pair w wr b c Mx My) (hT : Tab w) (key : ByteArray) (hk : key.size < 140737488355328) :
    Calls Tryd.prog 15 #[.pointer (some ⟨b, 0, none⟩), .string key] wr fun e w' => e = .returned (.bool (Mx.del key (.string ⟨#[]⟩)).1) ∧ Pair w w' b c (Mx.del key (.string ⟨#[]⟩)).2 My ∧ Acts wr w' := by
  obtain ⟨⟨bw, bs, cw, cs, h1, h2, h3⟩, h4, h5, h6⟩ := h
  obtain ⟨t3, _⟩ := inv_del h4 (key := key) (z := .string ⟨#[]⟩) (isV_string _)
  refine (delete_any_s b bw bs Mx key wr (hT.below h6 hT.1) h1 (sane_of_inv h4) hk).mono ?_
  rintro e w' ⟨rfl, g1, g2⟩
  unfold Six at h3
  exact ⟨rfl, ⟨⟨bw, bs, cw, cs, g1, h2.but g2 (by simp; omega) (by simp; omega) (by simp; omega), h3⟩, t3, h5, h6.trans (g2.below (by simp; omega) h6.size)⟩, Acts.of h1 g2⟩
theorem Pair.delR (h : Pair w wr b c Mx My) (key : ByteArray) (hk : key.size < 140737488355328) :
    Calls Tryd.prog 16 #[.pointer (some ⟨c, 0, none⟩), .string key] wr fun e w' => e = .returned (.bool (My.del key (.string ⟨#[]⟩)).1) ∧ Pair w w' b c Mx (My.del key (.string ⟨#[]⟩)).2 ∧ Acts wr w' := by
  obtain ⟨⟨bw, bs, cw, cs, h1, h2, h3⟩, h4, h5, h6⟩ := h
  obtain ⟨t3, _⟩ := inv_del h5 (key := key) (z := .string ⟨#[]⟩) (isV_string _)
  refine (rdelete_any c cw cs My key wr h2 (sane_of_inv h5) hk).mono ?_
  rintro e w' ⟨rfl, g1, g2⟩
  unfold Six at h3
  exact ⟨rfl, ⟨⟨bw, bs, cw, cs, h1.but g2 (by simp; omega) (by simp; omega) (by simp; omega), g1, h3⟩, h4, t3, h6.trans (g2.below (by simp; omega) h6.size)⟩, Acts.ofR h2 g2⟩
theorem Pair.getL (h : Pair w wr b c Mx My) (hT : Tab w) (key : ByteArray) (hk : key.size < 140737488355328) :
    Calls Tryd.prog 17 #[.pointer (some ⟨b, 0, none⟩), .string key] wr fun e w' => e = .returned (.tuple #[.string (valK Mx key), .bool (Mx.get key (.string ⟨#[]⟩)).2]) ∧ Pair w w' b c Mx My ∧ Acts wr w' := by
  have h0 := h
  obtain ⟨⟨bw, bs, cw, cs, h1, h2, h3⟩, h4, h5, h6⟩ := h
  have := get_map_s b bw bs Mx key wr (hT.below h6 hT.1) h1 h4.fit h4.typed hk
  rw [get_val h4] at this
  refine this.mono ?_
  rintro e w' ⟨rfl, hb⟩
  exact ⟨rfl, h0.below hb, Acts.below hb⟩
theorem Pair.getR (h : Pair w wr b c Mx My) (key : ByteArray) (hk : key.size < 140737488355328) :
    Calls Tryd.prog 18 #[.pointer (some ⟨c, 0, none⟩), .string key] wr fun e w' => e = .returned (.tuple #[.string (valK My key), .bool (My.get key (.string ⟨#[]⟩)).2]) ∧ Pair w w' b c Mx My ∧ Acts wr w' := by
  have h0 := h
  obtain ⟨⟨bw, bs, cw, cs, h1, h2, h3⟩, h4, h5, h6⟩ := h
  have := rget_map c cw cs My key wr h2 h5.fit h5.typed hk
  rw [get_val h5] at this
  refine this.mono ?_
  rintro e w' ⟨rfl, hb⟩
  exact ⟨rfl, h0.below hb, Acts.below hb⟩
theorem Pair.alike (h : Pair w wr b c Mx Mx) (hT : Tab w) (hn : Mx.n ≤ 2000) :
    Calls Tryd.prog 20 #[.pointer (some ⟨b, 0, none⟩), .pointer (some ⟨c, 0, none⟩)] wr fun e w' => e = .returned (.bool true) ∧ Pair w w' b c Mx Mx := by
  have h0 := h
  obtain ⟨⟨bw, bs, cw, cs, h1, h2, h3⟩, h4, h5, h6⟩ := h
  refine (alike_any b bw bs c cw cs Mx wr (hT.below h6 hT.1) h1 h2 h4 hn).mono ?_
  rintro e w' ⟨rfl, hb⟩
  exact ⟨rfl, h0.below hb⟩
/-- A copy beside the two. -/
theorem Pair.copy (h : Pair w wr b c Mx My) :
    Calls Tryd.prog 19 #[.pointer (some ⟨b, 0, none⟩)] wr fun e w' => ∃ d, e = .returned (.pointer (some ⟨d, 0, none⟩)) ∧ Pair w w' b c Mx My ∧ Pair w w' d c Mx My ∧ Acts wr w' ∧ wr.heap.size ≤ d := by
  have h0 := h
  obtain ⟨⟨bw, bs, cw, cs, h1, h2, h3⟩, h4, h5, h6⟩ := h
  refine (copy_any_s b bw bs Mx wr h1 h4.fit h4.typed).mono ?_
  rintro e w' ⟨d, dw, ds, rfl, g1, g2, g3, g4, hb⟩
  have hl2 := h2.lt
  have := h6.size
  unfold Six at h3
  refine ⟨d, rfl, h0.below hb, ⟨⟨dw, ds, cw, cs, g1, h2.below hb (Nat.le_refl _), ?_⟩, h4, h5, h6.trans (hb.mono h6.size)⟩, Acts.below hb, g2⟩
  unfold Six
  omega
/-- A copy that lies beyond all of W0. -/
def Side (W0 W : World) (d : Nat) (M : SM) : Prop := ∃ dw ds, Lies 79 76 W d dw ds M ∧ M.Inv IsV_s ∧ W0.heap.size ≤ d ∧ W0.heap.size ≤ dw ∧ W0.heap.size ≤ ds ∧ Below W0.heap.size W0 W
theorem Side.bel {W0 W : World} {d : Nat} {M : SM} (h : Side W0 W d M) : Below W0.heap.size W0 W := by
  obtain ⟨_, _, _, _, _, _, _, hb⟩ := h
  exact hb
theorem Pair.side (h : Pair w wr b c Mx My) : Calls Tryd.prog 19 #[.pointer (some ⟨b, 0, none⟩)] wr fun e w' => ∃ d, e = .returned (.pointer (some ⟨d, 0, none⟩)) ∧ Side wr w' d Mx := by
  obtain ⟨⟨bw, bs, cw, cs, h1, h2, h3⟩, h4, h5, h6⟩ := h
  refine (copy_any_s b bw bs Mx wr h1 h4.fit h4.typed).mono ?_
  rintro e w' ⟨d, dw, ds, rfl, g1, g2, g3, g4, hb⟩
  exact ⟨d, rfl, dw, ds, g1, h4, g2, g3, g4, hb⟩
theorem Side.put {W0 W : World} {d : Nat} {M : SM} (h : Side W0 W d M) (hT : Tab W0) (key v : ByteArray) (hk : key.size < 140737488355328) :
    Calls Tryd.prog 13 #[.pointer (some ⟨d, 0, none⟩), .string key, .string v] W fun e w' => ∃ x y M', e = .returned (.tuple #[.bool x, .int .i64 y]) ∧ Side W0 w' d M' := by
  obtain ⟨dw, ds, h1, h2, h3, h4, h5, h6⟩ := h
  obtain ⟨t3, _, _, _⟩ := inv_put h2 (key := key) (v := .string v) (z := .string ⟨#[]⟩) (isV_string _) (isV_string _) hk
  refine (put_any_s d dw ds M key v W (hT.below h6 hT.1) h1 (sane_of_inv h2) hk).mono ?_
  rintro e w' ⟨rfl, bw', bs', g1, g2, g3, g4⟩
  have := h6.size
  exact ⟨_, _, _, rfl, bw', bs', g1, t3, h3, by omega, by omega, h6.trans (g2.below (by simp; omega) h6.size)⟩
theorem Side.del {W0 W : World} {d : Nat} {M : SM} (h : Side W0 W d M) (hT : Tab W0) (key : ByteArray) (hk : key.size < 140737488355328) :
    Calls Tryd.prog 15 #[.pointer (some ⟨d, 0, none⟩), .string key] W fun e w' => ∃ x M', e = .returned (.bool x) ∧ Side W0 w' d M' := by
  obtain ⟨dw, ds, h1, h2, h3, h4, h5, h6⟩ := h
  obtain ⟨t3, _⟩ := inv_del h2 (key := key) (z := .string ⟨#[]⟩) (isV_string _)
  refine (delete_any_s d dw ds M key W (hT.below h6 hT.1) h1 (sane_of_inv h2) hk).mono ?_
  rintro e w' ⟨rfl, g1, g2⟩
  exact ⟨_, _, rfl, dw, ds, g1, t3, h3, h4, h5, h6.trans (g2.below (by simp; omega) h6.size)⟩
end
end Go.Proofs.YtkjnifipepiahaaDoor

import Derived.Test.YthlghokgknkpaaaGreatDoorImRTo
import Derived.Test.YthlghokgknkpaaaGreatDoorRaTo
/-
  One map of the call's own, and two of them apart from each other: what Put, Delete, Get, Len, Pairs, Range, Export and Same leave of them and tell.
-/
namespace Go.Proofs.YthlghokgknkpaaaGreatDoor
open Go.RowKit Go.Shelf

/-- Blocks of two maps, all of the call's own, apart from each other. -/
def Apart6 (B b bw bs c cw cs : Nat) : Prop := B ≤ b ∧ B ≤ bw ∧ B ≤ bs ∧ B ≤ c ∧ B ≤ cw ∧ B ≤ cs ∧ b ≠ c ∧ b ≠ cw ∧ b ≠ cs ∧ bw ≠ c ∧ bw ≠ cw ∧ bw ≠ cs ∧ bs ≠ c ∧ bs ≠ cw ∧ bs ≠ cs
/-- The map at b is M, and is the call's own. -/
def One7 (w wr : World) (b c : Nat) (M : SM) : Prop :=
  (∃ bw bs, Lies 74 71 wr b bw bs M ∧ w.heap.size ≤ b ∧ w.heap.size ≤ bw ∧ w.heap.size ≤ bs) ∧ Fine c M ∧ Below w.heap.size w wr
/-- The maps at b and d are M and N, the call's own, apart from each other. -/
def Two7 (w wr : World) (b c : Nat) (M : SM) (d e : Nat) (N : SM) : Prop :=
  (∃ bw bs dw ds, Lies 74 71 wr b bw bs M ∧ Lies 74 71 wr d dw ds N ∧ Apart6 w.heap.size b bw bs d dw ds) ∧ Fine c M ∧ Fine e N ∧ Below w.heap.size w wr
theorem One7.bel {w wr : World} {b c : Nat} {M : SM} (h : One7 w wr b c M) : Below w.heap.size w wr := h.2.2
theorem One7.fine {w wr : World} {b c : Nat} {M : SM} (h : One7 w wr b c M) : Fine c M := h.2.1
theorem One7.below {w wr w' : World} {b c : Nat} {M : SM} (h : One7 w wr b c M) (hb : Below wr.heap.size wr w') : One7 w w' b c M := by
  obtain ⟨⟨bw, bs, h1, h2⟩, h3, h4⟩ := h
  exact ⟨⟨bw, bs, h1.below hb (Nat.le_refl _), h2⟩, h3, h4.trans (hb.mono h4.size)⟩
theorem Two7.swap {w wr : World} {b c d e : Nat} {M N : SM} (h : Two7 w wr b c M d e N) : Two7 w wr d e N b c M := by
  obtain ⟨⟨bw, bs, dw, ds, h1, h2, h3⟩, h4, h5, h6⟩ := h
  exact ⟨⟨dw, ds, bw, bs, h2, h1, by unfold Apart6 at h3 ⊢; omega⟩, h5, h4, h6⟩
theorem Two7.one {w wr : World} {b c d e : Nat} {M N : SM} (h : Two7 w wr b c M d e N) : One7 w wr b c M := by
  obtain ⟨⟨bw, bs, dw, ds, h1, h2, h3⟩, h4, h5, h6⟩ := h
  unfold Apart6 at h3
  exact ⟨⟨bw, bs, h1, by omega, by omega, by omega⟩, h4, h6⟩
theorem Two7.bel {w wr : World} {b c d e : Nat} {M N : SM} (h : Two7 w wr b c M d e N) : Below w.heap.size w wr := h.2.2.2
theorem Two7.below {w wr w' : World} {b c d e : Nat} {M N : SM} (h : Two7 w wr b c M d e N) (hb : Below wr.heap.size wr w') : Two7 w w' b c M d e N := by
  obtain ⟨⟨bw, bs, dw, ds, h1, h2, h3⟩, h4, h5, h6⟩ := h
  exact ⟨⟨bw, bs, dw, ds, h1.below hb (Nat.le_refl _), h2.below hb (Nat.le_refl _), h3⟩, h4, h5, h6.trans (hb.mono h6.size)⟩
theorem one7_new {w W u : World} {c1 cw1 cs1 g : Nat} {k0 k1 : Int} (hB0 : Below w.heap.size w W) (hl1 : Lies 74 71 u c1 cw1 cs1 (SM.empty k0 k1 (.string ⟨#[]⟩) g)) (hz : isGood (g : Int) = true) (f1 : W.heap.size ≤ c1) (f2 : W.heap.size ≤ cw1) (f3 : W.heap.size ≤ cs1) (hb1 : Below W.heap.size W u) :
    One7 w u c1 0 (SM.empty k0 k1 (.string ⟨#[]⟩) g) := by
  have e1 := hB0.size
  exact ⟨⟨cw1, cs1, hl1, by omega, by omega, by omega⟩, fine_empty k0 k1 g hz, hB0.trans (hb1.mono e1)⟩
/-- A second map that has just been made. -/
theorem One7.more {w wr u : World} {b c d dw ds e : Nat} {M N : SM} (h : One7 w wr b c M) (hl : Lies 74 71 u d dw ds N) (hf : Fine e N) (f1 : wr.heap.size ≤ d) (f2 : wr.heap.size ≤ dw) (f3 : wr.heap.size ≤ ds) (hb : Below wr.heap.size wr u) : Two7 w u b c M d e N := by
  obtain ⟨⟨bw, bs, h1, h2⟩, h3, h4⟩ := h
  have hlt := h1.lt
  have hz := h4.size
  exact ⟨⟨bw, bs, dw, ds, h1.below hb (Nat.le_refl _), hl, by unfold Apart6; omega⟩, h3, hf, h4.trans (hb.mono hz)⟩

theorem One7.put {w wr : World} {b c : Nat} {M : SM} (h : One7 w wr b c M) (hT : Tab w) (hc : c < 2000) (p : ByteArray × ByteArray) (hp : p.1.size ≤ 131072 ∧ p.2.size ≤ 131072) :
    Calls Tryz.prog 10 #[.pointer (some ⟨b, 0, none⟩), .string p.1, .string p.2] wr fun e w' => (∃ x y, e = .returned (.tuple #[.bool x, .int .i64 y])) ∧ One7 w w' b (c + 1) (putP M p) ∧ Kinds [74, 22, 71] wr w' := by
  obtain ⟨⟨bw, bs, h1, g1, g2, g3⟩, h4, h6⟩ := h
  refine (put_any_s b bw bs M p.1 p.2 wr (hT.below h6 hT.1) h1 (sane_of_inv h4.inv) (by omega)).mono ?_
  rintro e w' ⟨rfl, bw', bs', f1, f2, f3, f4⟩
  have := h6.size
  exact ⟨⟨_, _, rfl⟩, ⟨⟨bw', bs', f1, g1, by omega, by omega⟩, fine_putP h4 hc p hp, h6.trans (f2.below (by simp; omega) h6.size)⟩, Kinds.of h1 f2⟩

theorem Two7.put {w wr : World} {b c d e : Nat} {M N : SM} (h : Two7 w wr b c M d e N) (hT : Tab w) (hc : c < 2000) (p : ByteArray × ByteArray) (hp : p.1.size ≤ 131072 ∧ p.2.size ≤ 131072) :
    Calls Tryz.prog 10 #[.pointer (some ⟨b, 0, none⟩), .string p.1, .string p.2] wr fun e' w' => (∃ x y, e' = .returned (.tuple #[.bool x, .int .i64 y])) ∧ Two7 w w' b (c + 1) (putP M p) d e N := by
  obtain ⟨⟨bw, bs, dw, ds, h1, h2, h3⟩, h4, h5, h6⟩ := h
  refine (put_any_s b bw bs M p.1 p.2 wr (hT.below h6 hT.1) h1 (sane_of_inv h4.inv) (by omega)).mono ?_
  rintro e w' ⟨rfl, bw', bs', f1, f2, f3, f4⟩
  have := h6.size
  have hl2 := h2.lt
  unfold Apart6 at h3
  refine ⟨⟨_, _, rfl⟩, ⟨bw', bs', dw, ds, f1, h2.but f2 (by simp; omega) (by simp; omega) (by simp; omega), ?_⟩, fine_putP h4 hc p hp, h5, h6.trans (f2.below (by simp; omega) h6.size)⟩
  unfold Apart6
  omega

theorem One7.get {w wr : World} {b c : Nat} {M : SM} (h : One7 w wr b c M) (hT : Tab w) (key : ByteArray) (hk : key.size < 140737488355328) :
    Calls Tryz.prog 111 #[.pointer (some ⟨b, 0, none⟩), .string key] wr fun e w' => e = .returned (.tuple #[.string (valK M key), .bool (M.find key).isSome]) ∧ Below wr.heap.size wr w' := by
  obtain ⟨⟨bw, bs, h1, g1, g2, g3⟩, h4, h6⟩ := h
  have := get_map_s b bw bs M key wr (hT.below h6 hT.1) h1 h4.inv.fit h4.inv.typed hk
  rw [get_val h4.inv, get_is] at this
  exact this

theorem One7.len {w wr : World} {b c : Nat} {M : SM} (h : One7 w wr b c M) :
    Calls Tryz.prog 47 #[.pointer (some ⟨b, 0, none⟩)] wr fun e w' => e = .returned (.int .i64 (M.n : Nat)) ∧ w' = wr := by
  obtain ⟨⟨bw, bs, h1, g1, g2, g3⟩, h4, h6⟩ := h
  exact len_any_s b bw bs M wr h1 h4.inv.fit

theorem One7.pairs {w wr : World} {b c : Nat} {M : SM} (h : One7 w wr b c M) (hT : Tab w) :
    Calls Tryz.prog 16 #[.pointer (some ⟨b, 0, none⟩)] wr fun e w' => ∃ v, e = .returned v ∧ OwnsP w' wr.heap.size v M.img ∧ Below wr.heap.size wr w' := by
  obtain ⟨⟨bw, bs, h1, g1, g2, g3⟩, h4, h6⟩ := h
  exact pairs_any b bw bs M wr (hT.below h6 hT.1) h1 h4.inv

theorem One7.range {w wr : World} {b c : Nat} {M : SM} (h : One7 w wr b c M) (hT : Tab w) (hc : c ≤ 2000) (f u : ByteArray) (n : Int) (hn : -9223372036854775808 ≤ n ∧ n ≤ 9223372036854775807) :
    Calls Tryz.prog 17 #[.pointer (some ⟨b, 0, none⟩), .string f, .string u, .int .i64 n] wr fun e w' => ∃ v, e = .returned v ∧ OwnsP w' wr.heap.size v (cutL M.img f u n) ∧ Below wr.heap.size wr w' :=
  range_of _ M.img f u n wr (h.pairs hT) (img_rise h.fine.inv) (by rw [img_len h.fine.inv]; have := h.fine.n; omega) hn

theorem One7.exp {w wr : World} {b c : Nat} {M : SM} (h : One7 w wr b c M) (hT : Tab w) (hc : c ≤ 2000) :
    Calls Tryz.prog 20 #[.pointer (some ⟨b, 0, none⟩)] wr fun e w' => ∃ v, e = .returned v ∧ Owns w' wr.heap.size 5 v (expB M.img) ∧ Below wr.heap.size wr w' :=
  export_of _ M.img wr (h.pairs hT) (h.fine.few (by omega))

set_option maxHeartbeats 1000000 in
/-- image.Same of whatever Pairs tells. -/
theorem same_of (p q : Option Addr) (l m : List (ByteArray × ByteArray)) (w : World) (hP : Calls Tryz.prog 16 #[.pointer p] w fun e w' => ∃ v, e = .returned v ∧ OwnsP w' w.heap.size v l ∧ Below w.heap.size w w')
    (hQ : ∀ W, Below w.heap.size w W → Calls Tryz.prog 16 #[.pointer q] W fun e w' => ∃ v, e = .returned v ∧ OwnsP w' W.heap.size v m ∧ Below W.heap.size W w') (hl : l.length ≤ 1099511627776) (hm : m.length ≤ 1099511627776) :
    Calls Tryz.prog 28 #[.pointer p, .pointer q] w fun e w' => e = .returned (.bool (decide (l = m))) ∧ Below w.heap.size w w' := by
  go_enter Tryz.func28, Tryz.ntmps28
  go_wp2_with fail
  refine hP.mono ?_
  rintro e w1 ⟨v1, rfl, ho1, hb1⟩
  have hq := hQ w1 hb1
  go_wp2_with fail
  refine hq.mono ?_
  rintro e w2 ⟨v2, rfl, ho2, hb2⟩
  have he := equal_any v1 v2 l m w2 (ho1.below hb2 (Nat.le_refl _)).has ho2.has hl hm
  clear hP hQ hq ho1 ho2
  go_wp2_with fail
  refine he.mono ?_
  rintro e w3 ⟨rfl, hb3⟩
  have hb12 := hb1.trans (hb2.mono hb1.size)
  go_wp2
  go_ret
  exact ⟨rfl, hb12.trans (hb3.mono hb12.size)⟩

theorem One7.same {w wr : World} {b c d e : Nat} {M N : SM} (h : One7 w wr b c M) (k : One7 w wr d e N) (hT : Tab w) (hc : c ≤ 2000) (he : e ≤ 2000) :
    Calls Tryz.prog 28 #[.pointer (some ⟨b, 0, none⟩), .pointer (some ⟨d, 0, none⟩)] wr fun e w' => e = .returned (.bool (decide (M.img = N.img))) ∧ Below wr.heap.size wr w' :=
  same_of _ _ M.img N.img wr (h.pairs hT) (fun _ hW => (k.below hW).pairs hT) (by rw [img_len h.fine.inv]; have := h.fine.n; omega) (by rw [img_len k.fine.inv]; have := k.fine.n; omega)
end Go.Proofs.YthlghokgknkpaaaGreatDoor

/-
  Contracts: slices.Clone of slots; Map[string].Copy.
-/
namespace Go.Proofs.YthlghokgknkpaaaGreatDoor
open Go.RowKit Go.Shelf

theorem sliceS_nil_s (a : Addr) (n c : Nat) (W : World) : (binOp .eql 72 (.slice (some a) n c) (.slice none 0 0)).run Tryz.prog W = .ok (.bool false) W := by
  simp [binOp, go_sem]
  show ((Op.equalIn (9999 + 1) 72 (.slice (some a) n c) (.slice none 0 0)).run Tryz.prog W).andThen _ = _
  rw [equal_slice_nil 9999 _ _ a n c W Tryz.underlying72]
  rfl
theorem cellsS_one_s : ∀ (ss : List (ByteArray × Value)), (∀ s ∈ ss, IsV_s s.2) → ∀ u ∈ cellsS ss, u.oneCell' = true
  | [], _, _, h => by cases h
  | s :: r, hv, u, h => by
    rcases List.mem_cons.1 h with rfl | h
    · rfl
    · rcases List.mem_cons.1 h with rfl | h
      · obtain ⟨x, hx⟩ := hv s List.mem_cons_self
        rw [hx]; rfl
      · exact cellsS_one_s r (fun s hs => hv s (List.mem_cons_of_mem _ hs)) u h

set_option maxRecDepth 10000 in
set_option maxHeartbeats 1000000 in
theorem cloneS_s (bw n cw : Nat) (ss : List (ByteArray × Value)) (w : World) (hown : w.ownsRow 0 71 2 (.slice (some ⟨bw, 0, none⟩) n cw) n (cellsS ss)) (hn : 0 < n) (hn2 : n ≤ 100000) (hv : ∀ s ∈ ss, IsV_s s.2) :
    Calls Tryz.prog 63 #[.slice (some ⟨bw, 0, none⟩) n cw] w fun e w' => ∃ g cap, e = .returned (.slice (some ⟨g, 0, none⟩) n cap) ∧ w.heap.size ≤ g ∧ w'.ownsRow 0 71 2 (.slice (some ⟨g, 0, none⟩) n cap) n (cellsS ss) ∧ Below w.heap.size w w' := by
  obtain ⟨i1, hi1, hz1, hs1, hb1⟩ := info_parts infoS_s
  have hlen := hown.1
  have he := World.ownsRow_made (e := 71) (size := 2) (base := w.heap.size) w #[] 0 (Nat.le_refl _) (Nat.zero_le _) rfl
  have hcells := row_cells (World.ownsRow.alloc hown (.cells #[] 71))
  have h1 := cellsS_one_s ss hv
  have hnil := sliceS_nil_s
  have hb : Below w.heap.size w (w.alloc (.cells #[] 71)) := (Below.refl _ _).alloc (Nat.le_refl _) _
  go_enter Tryz.func63, Tryz.ntmps63
  go_wp2_with (at_builtin; refine wpList_append_own _ rfl (.tmp 5) (.tmp 6) 72 rfl w.heap.size 71 i1 (.agg #[.string ⟨#[]⟩, (.string ⟨#[]⟩)]) 2 32 Tryz.underlying72 hi1 hz1 hs1 hb1 rfl (by decide) _ 0 [] rfl he ⟨bw, 0, none⟩ n cw (cellsS ss) rfl hlen hcells h1 (by unfold maxLen; omega) (by omega) (by simp) ?_; intro v' w' hown' hgrow _)
  rw [Nat.zero_add, List.nil_append] at hown'
  obtain ⟨g, cap, rfl, hg⟩ := row_some hown' hn
  go_ret
  refine ⟨g, cap, rfl, hg, row_mono hown' (Nat.zero_le _), hb.trans ((Below.refl _ _).grown hgrow (by simp) fun k hk => ?_)⟩
  exact (World.ownsRow.lt he k hk).1

set_option maxRecDepth 10000 in
set_option maxHeartbeats 2000000 in
theorem copy_any_s (b bw bs : Nat) (M : SM) (w : World) (h : Lies 74 71 w b bw bs M) (hF : M.Fit) (hV : M.Typed IsV_s) :
    Calls Tryz.prog 33 #[.pointer (some ⟨b, 0, none⟩)] w fun e w' => ∃ b' bw' bs', e = .returned (.pointer (some ⟨b', 0, none⟩)) ∧ Lies 74 71 w' b' bw' bs' M ∧ w.heap.size ≤ b' ∧ w.heap.size ≤ bw' ∧ w.heap.size ≤ bs' ∧ Below w.heap.size w w' := by
  have hr := good_range hF.good
  have hs8 := hF.slots
  have hlt := h.lt
  obtain ⟨cw, cs, r1, r2, r3⟩ := h.row
  obtain ⟨c0, c1, c2, c3, c4, c5⟩ : w.cell? ⟨b, 0, none⟩ = some (.int .u64 M.k0) ∧ w.cell? ⟨b, 1, none⟩ = some (.int .u64 M.k1) ∧ w.cell? ⟨b, 2, none⟩ = some (.slice (some ⟨bw, 0, none⟩) M.ws.length cw) ∧ w.cell? ⟨b, 3, none⟩ = some (.slice (some ⟨bs, 0, none⟩) M.ss.length cs) ∧ w.cell? ⟨b, 4, none⟩ = some (.int .i64 (M.n : Int)) ∧ w.cell? ⟨b, 5, none⟩ = some (.int .i64 (M.t : Int)) := by
    refine ⟨?_, ?_, ?_, ?_, ?_, ?_⟩ <;> simp [World.cell?, r1]
  have hmade := made_any_s b _ _ _ w c2
  rw [decide_eq_true (by omega : 0 < M.ws.length)] at hmade
  have hv : ∀ s ∈ M.ss, IsV_s s.2 := fun s hs => by
    obtain ⟨p, hp, rfl⟩ := List.getElem_of_mem hs
    have := hV p hp
    unfold SM.s at this
    rwa [List.getD_eq_getElem?_getD, List.getElem?_eq_getElem hp] at this
  have hnew := heap_alloc_new w (.cells #[.int .u64 M.k0, .int .u64 M.k1, .slice (some ⟨bw, 0, none⟩) M.ws.length cw, .slice (some ⟨bs, 0, none⟩) M.ss.length cs, .int .i64 (M.n : Int), .int .i64 (M.t : Int)] 74)
  have hb0 : Below w.heap.size w (w.alloc (.cells #[.int .u64 M.k0, .int .u64 M.k1, .slice (some ⟨bw, 0, none⟩) M.ws.length cw, .slice (some ⟨bs, 0, none⟩) M.ss.length cs, .int .i64 (M.n : Int), .int .i64 (M.t : Int)] 74)) := (Below.refl _ _).alloc (Nat.le_refl _) _
  have hz0 : (w.alloc (.cells #[.int .u64 M.k0, .int .u64 M.k1, .slice (some ⟨bw, 0, none⟩) M.ws.length cw, .slice (some ⟨bs, 0, none⟩) M.ss.length cs, .int .i64 (M.n : Int), .int .i64 (M.t : Int)] 74)).heap.size = w.heap.size + 1 := by simp
  generalize hX0 : w.alloc (.cells #[.int .u64 M.k0, .int .u64 M.k1, .slice (some ⟨bw, 0, none⟩) M.ws.length cw, .slice (some ⟨bs, 0, none⟩) M.ss.length cs, .int .i64 (M.n : Int), .int .i64 (M.t : Int)] 74) = X0 at hnew hb0 hz0
  have k2 := (hb0.cell (p := ⟨b, 2, none⟩) hlt.1).trans c2
  have hclW := cloneW_s bw M.ws.length cw M.ws X0 (row_below r2 hb0 (Nat.le_refl _)) (by omega) (by omega)
  have hS8 : Hid (M.ss.length = 8 * M.ws.length) := hs8
  have hss : 0 < M.ss.length ∧ M.ss.length ≤ 100000 := by omega
  clear hs8
  go_enter Tryz.func33, Tryz.ntmps33
  go_wp2_with (go_at_call 34; refine hmade.mono ?_; rintro e w ⟨rfl, rfl⟩)
  refine hclW.mono ?_
  rintro e W1 ⟨g1, cap1, rfl, hg1, ho1, hb1⟩
  have hz1 := hb1.size
  have hn1 := (hb1.block w.heap.size (by omega)).trans hnew
  have hB1 : Below w.heap.size w W1 := hb0.trans (hb1.mono (by omega))
  have k3 := (hB1.cell (p := ⟨b, 3, none⟩) hlt.1).trans c3
  have d2 : W1.cell? ⟨w.heap.size, 2, none⟩ = some (.slice (some ⟨bw, 0, none⟩) M.ws.length cw) := by simp [World.cell?, hn1]
  have f2 : W1.frozen? ⟨w.heap.size, 2, none⟩ = false := by simp [World.frozen?, hn1]
  have hn2 : (W1.setCell ⟨w.heap.size, 2, none⟩ (.slice (some ⟨g1, 0, none⟩) M.ws.length cap1)).heap[w.heap.size]? = some (.cells #[.int .u64 M.k0, .int .u64 M.k1, .slice (some ⟨g1, 0, none⟩) M.ws.length cap1, .slice (some ⟨bs, 0, none⟩) M.ss.length cs, .int .i64 (M.n : Int), .int .i64 (M.t : Int)] 74 (0, 0)) := by
    simp [World.setCell, Array.getElem?_modify, hn1]
  have hB2 : Below w.heap.size w (W1.setCell ⟨w.heap.size, 2, none⟩ (.slice (some ⟨g1, 0, none⟩) M.ws.length cap1)) := hB1.setCell (p := ⟨w.heap.size, 2, none⟩) (Nat.le_refl _) _
  have ho2 := ownsRow_block ho1 (Below.heap_setCell W1 ⟨w.heap.size, 2, none⟩ (.slice (some ⟨g1, 0, none⟩) M.ws.length cap1) g1 (by show g1 ≠ w.heap.size; omega))
  have hnb : b ≠ w.heap.size := by omega
  clear hmade c0 c1 c2 c4 c5 k2 hclW hnew hb0 hX0 hb1 ho1
  go_wp2_with fail
  clear d2 f2 hn1 k3
  generalize W1.setCell ⟨w.heap.size, 2, none⟩ (.slice (some ⟨g1, 0, none⟩) M.ws.length cap1) = X2 at *
  have hz2 := hB2.size
  have hlt2 : w.heap.size < X2.heap.size := (Array.getElem?_eq_some_iff.1 hn2).1
  have hg1x : g1 < X2.heap.size := (World.ownsRow.lt ho2 g1 rfl).2
  refine (cloneS_s bs M.ss.length cs M.ss X2 (row_below r3 hB2 (Nat.le_refl _)) hss.1 hss.2 hv).mono ?_
  rintro e W3 ⟨g2, cap2, rfl, hg2, ho3, hb3⟩
  have hn3 := (hb3.block w.heap.size hlt2).trans hn2
  have ho4 := ownsRow_block ho2 (hb3.block g1 hg1x)
  have d3 : W3.cell? ⟨w.heap.size, 3, none⟩ = some (.slice (some ⟨bs, 0, none⟩) M.ss.length cs) := by simp [World.cell?, hn3]
  have f3 : W3.frozen? ⟨w.heap.size, 3, none⟩ = false := by simp [World.frozen?, hn3]
  go_wp2
  go_ret
  refine ⟨w.heap.size, g1, g2, rfl, ⟨⟨cap1, cap2, ?_, ownsRow_block ho4 (Below.heap_setCell _ _ _ _ (by show g1 ≠ w.heap.size; omega)), ownsRow_block ho3 (Below.heap_setCell _ _ _ _ (by show g2 ≠ w.heap.size; omega))⟩, ?_, ?_⟩, Nat.le_refl _, by omega, by omega, ?_⟩
  · simp [World.setCell, Array.getElem?_modify, hn3]
  · omega
  · have := h.pos; omega
  · exact (hB2.trans (hb3.mono hz2)).setCell (p := ⟨w.heap.size, 3, none⟩) (Nat.le_refl _) _
end Go.Proofs.YthlghokgknkpaaaGreatDoor

/-
  Contracts: few and lives of corbellaw07.
-/
namespace Go.Proofs.YthlghokgknkpaaaGreatDoor
open Go.RowKit Go.Shelf

/-- What few reckons of a row of pairs. -/
def costP (a : ByteArray × ByteArray) : Nat := 1 + (a.1.size + a.2.size) / 50
def FewL (xs : List (ByteArray × ByteArray)) : Prop := (xs.map costP).sum ≤ 300
theorem fewL_len {xs : List (ByteArray × ByteArray)} (h : FewL xs) : xs.length ≤ 300 := by
  have : ∀ l : List (ByteArray × ByteArray), l.length ≤ (l.map costP).sum := by
    intro l
    induction l with
    | nil => exact Nat.le_refl _
    | cons a l ih => rw [List.map_cons, List.sum_cons, List.length_cons]; unfold costP; unfold costP at ih; omega
  exact Nat.le_trans (this xs) h
theorem fewL_size {xs : List (ByteArray × ByteArray)} (h : FewL xs) {a : ByteArray × ByteArray} (ha : a ∈ xs) : a.1.size + a.2.size ≤ 15000 := by
  have : ∀ l : List (ByteArray × ByteArray), a ∈ l → costP a ≤ (l.map costP).sum := by
    intro l
    induction l with
    | nil => exact fun h => by cases h
    | cons b l ih =>
      intro hm
      rw [List.map_cons, List.sum_cons]
      rcases List.mem_cons.1 hm with rfl | hm
      · omega
      · have := ih hm; omega
  have h1 := this xs ha
  unfold FewL at h
  unfold costP at h1 h
  omega
theorem fewL_step (k ks vs : Nat) (hk : k ≤ 300) (h1 : ks ≤ 140737488351232) (h2 : vs ≤ 140737488351232) :
    wrap64 ((k : Int) + wrap64 (1 + wrap64 ((wrap64 ((ks : Int) + vs)).tdiv 50))) = ((k + (1 + (ks + vs) / 50) : Nat) : Int) := by
  rw [IntWalk.wrap64_in ((ks : Int) + vs) (by omega), Int.tdiv_eq_ediv_of_nonneg (by omega)]
  obtain ⟨q, hq⟩ : ∃ q : Nat, q = (ks + vs) / 50 := ⟨_, rfl⟩
  have e : ((ks : Int) + vs) / 50 = q := by omega
  have hq' : q ≤ 281474976710656 := by omega
  rw [e, ← hq, IntWalk.wrap64_in (q : Int) (by omega), IntWalk.wrap64_in (1 + (q : Int)) (by omega), IntWalk.wrap64_in _ (by omega)]
  omega
/-- Texts as they may come in. -/
def InP (xs : List (ByteArray × ByteArray)) : Prop := ∀ p ∈ xs, p.1.size ≤ 140737488351232 ∧ p.2.size ≤ 140737488351232

set_option maxRecDepth 10000 in
set_option maxHeartbeats 4000000 in
theorem fewL_any (p : Option Addr) (n c : Nat) (xs : List (ByteArray × ByteArray)) (w : World) (hX : HasP w (.slice p n c) xs) (hI : InP xs) (hn : (n : Int) ≤ 9223372036854775807) :
    Calls Tryz.prog 8 #[.slice p n c] w fun e w' => ∃ r : Bool, e = .returned (.bool r) ∧ (r = true → FewL xs) ∧ Below w.heap.size w w' := by
  have hlen' : Hid (xs.length = n) := hX.len.1.symm
  have hI' : Hid (InP xs) := hI
  clear hI
  go_enter Tryz.func8, Tryz.ntmps8
  go_wp2
  go_loopw [8, 3] (fun t s wr => ∃ (j : Nat) (k : Nat), j ≤ n ∧ t = .int .i64 (j : Nat) ∧ s = .int .i64 (k : Nat) ∧ k ≤ 300 ∧ Hid (((xs.take j).map costP).sum = k) ∧ Below w.heap.size w wr) (fun t _ _ => n - (intOf t).toNat)
  case atStart => exact ⟨0, 0, by omega, rfl, rfl, by omega, rfl, Below.refl _ _⟩
  case round =>
    obtain ⟨j, k, hj, rfl, rfl, hk, hs, hb⟩ := hrel
    by_cases hlt : j < n
    · obtain ⟨bb, oo, rfl, hbb, hcc, -, c1, c2⟩ := (hX.below hb (Nat.le_refl _)).at (j := j) hlt
      have hjx : j < xs.length := by rw [hlen'.out]; exact hlt
      have hkk : Hid (xs.take j ++ [xs.getD j default] = xs.take (j + 1)) := ptake_snoc hjx
      have hz := hI'.out _ (pgetD_mem hjx)
      clear hjx
      generalize xs.getD j default = x at *
      obtain ⟨ky, vl⟩ := x
      dsimp only at c1 c2 hz
      obtain ⟨z1, z2⟩ := hz
      have hsum : Hid (((xs.take (j + 1)).map costP).sum = k + costP (ky, vl)) := by
        show _ = _
        rw [← hkk.out, List.map_append, List.sum_append, hs.out]; simp
      have hcst : Hid (costP (ky, vl) = 1 + (ky.size + vl.size) / 50) := rfl
      have hst := fewL_step k ky.size vl.size hk z1 z2
      clear hkk hs
      generalize costP (ky, vl) = cst at *
      by_cases h6 : 300 < (k : Int) + (1 + ((ky.size : Int) + vl.size) / 50)
      · go_wp2
        go_ret
        exact ⟨false, rfl, (fun h => by cases h), hb.alloc (by have := hb.size; omega) _⟩
      · go_wp2
        go_roundw
        case rel =>
          refine ⟨j + 1, k + (1 + (ky.size + vl.size) / 50), by omega, by simp, by simp, by omega, ?_, hb.alloc (by have := hb.size; omega) _⟩
          show _ = _
          rw [hsum.out, hcst.out]
        case measure => simp only [intOf]; omega
    · have hjn : j = n := by omega
      subst hjn
      go_wp2
      go_ret
      refine ⟨true, rfl, fun _ => ?_, hb⟩
      unfold FewL
      rw [← List.take_length (l := xs), hlen'.out, hs.out]
      exact hk

def liveL : List (ByteArray × ByteArray) := [(⟨#[97]⟩, ⟨#[49]⟩), (⟨#[98]⟩, ⟨#[50]⟩)]
theorem live_rise : Rise liveL := by
  unfold Rise liveL
  simp [ltT, Lib.toList_data, Op.bytesLess]
theorem live_put : (putP (putP (SM.empty 0 0 (.string ⟨#[]⟩) 1) (⟨#[98]⟩, ⟨#[50]⟩)) (⟨#[97]⟩, ⟨#[49]⟩)).img = liveL := by
  have hf := fine_empty 0 0 1 (by decide)
  have hs : ∀ p ∈ [((⟨#[98]⟩, ⟨#[50]⟩) : ByteArray × ByteArray), (⟨#[97]⟩, ⟨#[49]⟩)], p.1.size ≤ 131072 ∧ p.2.size ≤ 131072 := by
    intro p hp
    simp only [List.mem_cons, List.not_mem_nil, or_false] at hp
    rcases hp with rfl | rfl <;> exact ⟨by show 1 ≤ _; omega, by show 1 ≤ _; omega⟩
  have hn : (([((⟨#[98]⟩, ⟨#[50]⟩) : ByteArray × ByteArray), (⟨#[97]⟩, ⟨#[49]⟩)]).map Prod.fst).Nodup := by simp
  refine img_of (fine_putL [(⟨#[98]⟩, ⟨#[50]⟩), (⟨#[97]⟩, ⟨#[49]⟩)] hf (by decide) hs).inv live_rise fun k s => ?_
  have := has_putL [(⟨#[98]⟩, ⟨#[50]⟩), (⟨#[97]⟩, ⟨#[49]⟩)] hf (by decide) hs k s
  rw [lastV_mem hn] at this
  refine this.trans ⟨?_, ?_⟩
  · rintro (h | ⟨_, h⟩)
    · simp only [List.mem_cons, List.not_mem_nil, or_false] at h
      simp only [liveL, List.mem_cons, List.not_mem_nil, or_false]
      exact h.symm
    · exact absurd h (empty_has 0 0 1 (by decide) k s)
  · intro h
    simp only [liveL, List.mem_cons, List.not_mem_nil, or_false] at h
    refine .inl ?_
    simp only [List.mem_cons, List.not_mem_nil, or_false]
    exact h.symm
theorem live_cut : cutL liveL ⟨#[97]⟩ ⟨#[]⟩ 1 = [(⟨#[97]⟩, ⟨#[49]⟩)] := by
  unfold cutL liveL
  simp [ltT, Lib.toList_data, Op.bytesLess]
theorem live_exp : expB liveL = [2, 1, 97, 1, 49, 1, 98, 1, 50] := by decide +kernel
theorem live_isB : IsB [2, 1, 97, 1, 49, 1, 98, 1, 50] := fun x hx => by simp at hx; omega
end Go.Proofs.YthlghokgknkpaaaGreatDoor

import Derived.Test.YthlghokgknkpaaaDoorSwJsTo
import Derived.Test.YthlghokgknkpaaaDoorImOTo
import Derived.ProofKit
import Derived.OpenShut
import Derived.Deep.SlicePairs
import Derived.SizedLaws
import Derived.ChangeSame
/-
  Contracts: slices.Clone of slots; Map[string].Copy.
-/
namespace Go.Proofs.YthlghokgknkpaaaDoor
open Go.RowKit Go.Shelf

theorem sliceS_nil_s (a : Addr) (n c : Nat) (W : World) : (binOp .eql 58 (.slice (some a) n c) (.slice none 0 0)).run Tryd.prog W = .ok (.bool false) W := by
  simp [binOp, go_sem]
  show ((Op.equalIn (9999 + 1) 58 (.slice (some a) n c) (.slice none 0 0)).run Tryd.prog W).andThen _ = _
  rw [equal_slice_nil 9999 _ _ a n c W Tryd.underlying58]
  rfl
theorem cellsS_one_s : ∀ (ss : List (ByteArray × Value)), (∀ s ∈ ss, IsV_s s.2) → ∀ u ∈ cellsS ss, u.oneCell' = true
  | [], _, _, h => by cases h
  | s :: r, hv, u, h => by
    rcases List.mem_cons.1 h with rfl | h
    · rfl
    · rcases List.mem_cons.1 h with rfl | h
      · obtain ⟨x, hx⟩ := hv s List.mem_cons_self
        rw [hx]; rfl
      · exact cellsS_one_s r (fun s hs => hv s (List.mem_cons_of_mem _ hs)) u h

set_option maxRecDepth 10000 in
set_option maxHeartbeats 1000000 in
theorem cloneS_s (bw n cw : Nat) (ss : List (ByteArray × Value)) (w : World) (hown : w.ownsRow 0 56 2 (.slice (some ⟨bw, 0, none⟩) n cw) n (cellsS ss)) (hn : 0 < n) (hn2 : n ≤ 100000) (hv : ∀ s ∈ ss, IsV_s s.2) :
    Calls Tryd.prog 36 #[.slice (some ⟨bw, 0, none⟩) n cw] w fun e w' => ∃ g cap, e = .returned (.slice (some ⟨g, 0, none⟩) n cap) ∧ w.heap.size ≤ g ∧ w'.ownsRow 0 56 2 (.slice (some ⟨g, 0, none⟩) n cap) n (cellsS ss) ∧ Below w.heap.size w w' := by
  obtain ⟨i1, hi1, hz1, hs1, hb1⟩ := info_parts infoS_s
  have hlen := hown.1
  have he := World.ownsRow_made (e := 56) (size := 2) (base := w.heap.size) w #[] 0 (Nat.le_refl _) (Nat.zero_le _) rfl
  have hcells := row_cells (World.ownsRow.alloc hown (.cells #[] 56))
  have h1 := cellsS_one_s ss hv
  have hnil := sliceS_nil_s
  have hb : Below w.heap.size w (w.alloc (.cells #[] 56)) := (Below.refl _ _).alloc (Nat.le_refl _) _
  go_enter Tryd.func36, Tryd.ntmps36
  go_wp2_with (at_builtin; refine wpList_append_own _ rfl (.tmp 5) (.tmp 6) 58 rfl w.heap.size 56 i1 (.agg #[.string ⟨#[]⟩, (.string ⟨#[]⟩)]) 2 32 Tryd.underlying58 hi1 hz1 hs1 hb1 rfl (by decide) _ 0 [] rfl he ⟨bw, 0, none⟩ n cw (cellsS ss) rfl hlen hcells h1 (by unfold maxLen; omega) (by omega) (by simp) ?_; intro v' w' hown' hgrow _)
  rw [Nat.zero_add, List.nil_append] at hown'
  obtain ⟨g, cap, rfl, hg⟩ := row_some hown' hn
  go_ret
  refine ⟨g, cap, rfl, hg, row_mono hown' (Nat.zero_le _), hb.trans ((Below.refl _ _).grown hgrow (by simp) fun k hk => ?_)⟩
  exact (World.ownsRow.lt he k hk).1

set_option maxRecDepth 10000 in
set_option maxHeartbeats 2000000 in
theorem copy_any_s (b bw bs : Nat) (M : SM) (w : World) (h : Lies 60 56 w b bw bs M) (hF : M.Fit) (hV : M.Typed IsV_s) :
    Calls Tryd.prog 20 #[.pointer (some ⟨b, 0, none⟩)] w fun e w' => ∃ b' bw' bs', e = .returned (.pointer (some ⟨b', 0, none⟩)) ∧ Lies 60 56 w' b' bw' bs' M ∧ w.heap.size ≤ b' ∧ w.heap.size ≤ bw' ∧ w.heap.size ≤ bs' ∧ Below w.heap.size w w' := by
  have hr := good_range hF.good
  have hs8 := hF.slots
  have hlt := h.lt
  obtain ⟨cw, cs, r1, r2, r3⟩ := h.row
  obtain ⟨c0, c1, c2, c3, c4, c5⟩ : w.cell? ⟨b, 0, none⟩ = some (.int .u64 M.k0) ∧ w.cell? ⟨b, 1, none⟩ = some (.int .u64 M.k1) ∧ w.cell? ⟨b, 2, none⟩ = some (.slice (some ⟨bw, 0, none⟩) M.ws.length cw) ∧ w.cell? ⟨b, 3, none⟩ = some (.slice (some ⟨bs, 0, none⟩) M.ss.length cs) ∧ w.cell? ⟨b, 4, none⟩ = some (.int .i64 (M.n : Int)) ∧ w.cell? ⟨b, 5, none⟩ = some (.int .i64 (M.t : Int)) := by
    refine ⟨?_, ?_, ?_, ?_, ?_, ?_⟩ <;> simp [World.cell?, r1]
  have hmade := made_any_s b _ _ _ w c2
  rw [decide_eq_true (by omega : 0 < M.ws.length)] at hmade
  have hv : ∀ s ∈ M.ss, IsV_s s.2 := fun s hs => by
    obtain ⟨p, hp, rfl⟩ := List.getElem_of_mem hs
    have := hV p hp
    unfold SM.s at this
    rwa [List.getD_eq_getElem?_getD, List.getElem?_eq_getElem hp] at this
  have hnew := heap_alloc_new w (.cells #[.int .u64 M.k0, .int .u64 M.k1, .slice (some ⟨bw, 0, none⟩) M.ws.length cw, .slice (some ⟨bs, 0, none⟩) M.ss.length cs, .int .i64 (M.n : Int), .int .i64 (M.t : Int)] 60)
  have hb0 : Below w.heap.size w (w.alloc (.cells #[.int .u64 M.k0, .int .u64 M.k1, .slice (some ⟨bw, 0, none⟩) M.ws.length cw, .slice (some ⟨bs, 0, none⟩) M.ss.length cs, .int .i64 (M.n : Int), .int .i64 (M.t : Int)] 60)) := (Below.refl _ _).alloc (Nat.le_refl _) _
  have hz0 : (w.alloc (.cells #[.int .u64 M.k0, .int .u64 M.k1, .slice (some ⟨bw, 0, none⟩) M.ws.length cw, .slice (some ⟨bs, 0, none⟩) M.ss.length cs, .int .i64 (M.n : Int), .int .i64 (M.t : Int)] 60)).heap.size = w.heap.size + 1 := by simp
  generalize hX0 : w.alloc (.cells #[.int .u64 M.k0, .int .u64 M.k1, .slice (some ⟨bw, 0, none⟩) M.ws.length cw, .slice (some ⟨bs, 0, none⟩) M.ss.length cs, .int .i64 (M.n : Int), .int .i64 (M.t : Int)] 60) = X0 at hnew hb0 hz0
  have k2 := (hb0.cell (p := ⟨b, 2, none⟩) hlt.1).trans c2
  have hclW := cloneW_s bw M.ws.length cw M.ws X0 (row_below r2 hb0 (Nat.le_refl _)) (by omega) (by omega)
  have hS8 : Hid (M.ss.length = 8 * M.ws.length) := hs8
  have hss : 0 < M.ss.length ∧ M.ss.length ≤ 100000 := by omega
  clear hs8
  go_enter Tryd.func20, Tryd.ntmps20
  go_wp2_with (go_at_call 21; refine hmade.mono ?_; rintro e w ⟨rfl, rfl⟩)
  refine hclW.mono ?_
  rintro e W1 ⟨g1, cap1, rfl, hg1, ho1, hb1⟩
  have hz1 := hb1.size
  have hn1 := (hb1.block w.heap.size (by omega)).trans hnew
  have hB1 : Below w.heap.size w W1 := hb0.trans (hb1.mono (by omega))
  have k3 := (hB1.cell (p := ⟨b, 3, none⟩) hlt.1).trans c3
  have d2 : W1.cell? ⟨w.heap.size, 2, none⟩ = some (.slice (some ⟨bw, 0, none⟩) M.ws.length cw) := by simp [World.cell?, hn1]
  have f2 : W1.frozen? ⟨w.heap.size, 2, none⟩ = false := by simp [World.frozen?, hn1]
  have hn2 : (W1.setCell ⟨w.heap.size, 2, none⟩ (.slice (some ⟨g1, 0, none⟩) M.ws.length cap1)).heap[w.heap.size]? = some (.cells #[.int .u64 M.k0, .int .u64 M.k1, .slice (some ⟨g1, 0, none⟩) M.ws.length cap1, .slice (some ⟨bs, 0, none⟩) M.ss.length cs, .int .i64 (M.n : Int), .int .i64 (M.t : Int)] 60 (0, 0)) := by
    simp [World.setCell, Array.getElem?_modify, hn1]
  have hB2 : Below w.heap.size w (W1.setCell ⟨w.heap.size, 2, none⟩ (.slice (some ⟨g1, 0, none⟩) M.ws.length cap1)) := hB1.setCell (p := ⟨w.heap.size, 2, none⟩) (Nat.le_refl _) _
  have ho2 := ownsRow_block ho1 (Below.heap_setCell W1 ⟨w.heap.size, 2, none⟩ (.slice (some ⟨g1, 0, none⟩) M.ws.length cap1) g1 (by show g1 ≠ w.heap.size; omega))
  have hnb : b ≠ w.heap.size := by omega
  clear hmade c0 c1 c2 c4 c5 k2 hclW hnew hb0 hX0 hb1 ho1
  go_wp2_with fail
  clear d2 f2 hn1 k3
  generalize W1.setCell ⟨w.heap.size, 2, none⟩ (.slice (some ⟨g1, 0, none⟩) M.ws.length cap1) = X2 at *
  have hz2 := hB2.size
  have hlt2 : w.heap.size < X2.heap.size := (Array.getElem?_eq_some_iff.1 hn2).1
  have hg1x : g1 < X2.heap.size := (World.ownsRow.lt ho2 g1 rfl).2
  refine (cloneS_s bs M.ss.length cs M.ss X2 (row_below r3 hB2 (Nat.le_refl _)) hss.1 hss.2 hv).mono ?_
  rintro e W3 ⟨g2, cap2, rfl, hg2, ho3, hb3⟩
  have hn3 := (hb3.block w.heap.size hlt2).trans hn2
  have ho4 := ownsRow_block ho2 (hb3.block g1 hg1x)
  have d3 : W3.cell? ⟨w.heap.size, 3, none⟩ = some (.slice (some ⟨bs, 0, none⟩) M.ss.length cs) := by simp [World.cell?, hn3]
  have f3 : W3.frozen? ⟨w.heap.size, 3, none⟩ = false := by simp [World.frozen?, hn3]
  go_wp2
  go_ret
  refine ⟨w.heap.size, g1, g2, rfl, ⟨⟨cap1, cap2, ?_, ownsRow_block ho4 (Below.heap_setCell _ _ _ _ (by show g1 ≠ w.heap.size; omega)), ownsRow_block ho3 (Below.heap_setCell _ _ _ _ (by show g2 ≠ w.heap.size; omega))⟩, ?_, ?_⟩, Nat.le_refl _, by omega, by omega, ?_⟩
  · simp [World.setCell, Array.getElem?_modify, hn3]
  · omega
  · have := h.pos; omega
  · exact (hB2.trans (hb3.mono hz2)).setCell (p := ⟨w.heap.size, 3, none⟩) (Nat.le_refl _) _
end Go.Proofs.YthlghokgknkpaaaDoor

/-
  Contracts: few and lives of corbellaw07.
-/
namespace Go.Proofs.YthlghokgknkpaaaDoor
open Go.RowKit Go.Shelf

/-- What few reckons of a row of pairs. -/
def costP (a : ByteArray × ByteArray) : Nat := 1 + (a.1.size + a.2.size) / 50
def FewL (xs : List (ByteArray × ByteArray)) : Prop := (xs.map costP).sum ≤ 300
theorem fewL_len {xs : List (ByteArray × ByteArray)} (h : FewL xs) : xs.length ≤ 300 := by
  have : ∀ l : List (ByteArray × ByteArray), l.length ≤ (l.map costP).sum := by
    intro l
    induction l with
    | nil => exact Nat.le_refl _
    | cons a l ih => rw [List.map_cons, List.sum_cons, List.length_cons]; unfold costP; unfold costP at ih; omega
  exact Nat.le_trans (this xs) h
theorem fewL_size {xs : List (ByteArray × ByteArray)} (h : FewL xs) {a : ByteArray × ByteArray} (ha : a ∈ xs) : a.1.size + a.2.size ≤ 15000 := by
  have : ∀ l : List (ByteArray × ByteArray), a ∈ l → costP a ≤ (l.map costP).sum := by
    intro l
    induction l with
    | nil => exact fun h => by cases h
    | cons b l ih =>
      intro hm
      rw [List.map_cons, List.sum_cons]
      rcases List.mem_cons.1 hm with rfl | hm
      · omega
      · have := ih hm; omega
  have h1 := this xs ha
  unfold FewL at h
  unfold costP at h1 h
  omega
theorem fewL_step (k ks vs : Nat) (hk : k ≤ 300) (h1 : ks ≤ 140737488351232) (h2 : vs ≤ 140737488351232) :
    wrap64 ((k : Int) + wrap64 (1 + wrap64 ((wrap64 ((ks : Int) + vs)).tdiv 50))) = ((k + (1 + (ks + vs) / 50) : Nat) : Int) := by
  rw [IntWalk.wrap64_in ((ks : Int) + vs) (by omega), Int.tdiv_eq_ediv_of_nonneg (by omega)]
  obtain ⟨q, hq⟩ : ∃ q : Nat, q = (ks + vs) / 50 := ⟨_, rfl⟩
  have e : ((ks : Int) + vs) / 50 = q := by omega
  have hq' : q ≤ 281474976710656 := by omega
  rw [e, ← hq, IntWalk.wrap64_in (q : Int) (by omega), IntWalk.wrap64_in (1 + (q : Int)) (by omega), IntWalk.wrap64_in _ (by omega)]
  omega
/-- Texts as they may come in. -/
def InP (xs : List (ByteArray × ByteArray)) : Prop := ∀ p ∈ xs, p.1.size ≤ 140737488351232 ∧ p.2.size ≤ 140737488351232

set_option maxRecDepth 10000 in
set_option maxHeartbeats 4000000 in
theorem fewL_any (p : Option Addr) (n c : Nat) (xs : List (ByteArray × ByteArray)) (w : World) (hX : HasP w (.slice p n c) xs) (hI : InP xs) (hn : (n : Int) ≤ 9223372036854775807) :
    Calls Tryd.prog 7 #[.slice p n c] w fun e w' => ∃ r : Bool, e = .returned (.bool r) ∧ (r = true → FewL xs) ∧ Below w.heap.size w w' := by
  have hlen' : Hid (xs.length = n) := hX.len.1.symm
  have hI' : Hid (InP xs) := hI
  clear hI
  go_enter Tryd.func7, Tryd.ntmps7
  go_wp2
  go_loopw [8, 3] (fun t s wr => ∃ (j : Nat) (k : Nat), j ≤ n ∧ t = .int .i64 (j : Nat) ∧ s = .int .i64 (k : Nat) ∧ k ≤ 300 ∧ Hid (((xs.take j).map costP).sum = k) ∧ Below w.heap.size w wr) (fun t _ _ => n - (intOf t).toNat)
  case atStart => exact ⟨0, 0, by omega, rfl, rfl, by omega, rfl, Below.refl _ _⟩
  case round =>
    obtain ⟨j, k, hj, rfl, rfl, hk, hs, hb⟩ := hrel
    by_cases hlt : j < n
    · obtain ⟨bb, oo, rfl, hbb, hcc, -, c1, c2⟩ := (hX.below hb (Nat.le_refl _)).at (j := j) hlt
      have hjx : j < xs.length := by rw [hlen'.out]; exact hlt
      have hkk : Hid (xs.take j ++ [xs.getD j default] = xs.take (j + 1)) := ptake_snoc hjx
      have hz := hI'.out _ (pgetD_mem hjx)
      clear hjx
      generalize xs.getD j default = x at *
      obtain ⟨ky, vl⟩ := x
      dsimp only at c1 c2 hz
      obtain ⟨z1, z2⟩ := hz
      have hsum : Hid (((xs.take (j + 1)).map costP).sum = k + costP (ky, vl)) := by
        show _ = _
        rw [← hkk.out, List.map_append, List.sum_append, hs.out]; simp
      have hcst : Hid (costP (ky, vl) = 1 + (ky.size + vl.size) / 50) := rfl
      have hst := fewL_step k ky.size vl.size hk z1 z2
      clear hkk hs
      generalize costP (ky, vl) = cst at *
      by_cases h6 : 300 < (k : Int) + (1 + ((ky.size : Int) + vl.size) / 50)
      · go_wp2
        go_ret
        exact ⟨false, rfl, (fun h => by cases h), hb.alloc (by have := hb.size; omega) _⟩
      · go_wp2
        go_roundw
        case rel =>
          refine ⟨j + 1, k + (1 + (ky.size + vl.size) / 50), by omega, by simp, by simp, by omega, ?_, hb.alloc (by have := hb.size; omega) _⟩
          show _ = _
          rw [hsum.out, hcst.out]
        case measure => simp only [intOf]; omega
    · have hjn : j = n := by omega
      subst hjn
      go_wp2
      go_ret
      refine ⟨true, rfl, fun _ => ?_, hb⟩
      unfold FewL
      rw [← List.take_length (l := xs), hlen'.out, hs.out]
      exact hk

def liveL : List (ByteArray × ByteArray) := [(⟨#[97]⟩, ⟨#[49]⟩), (⟨#[98]⟩, ⟨#[50]⟩)]
theorem live_rise : Rise liveL := by
  unfold Rise liveL
  simp [ltT, Lib.toList_data, Op.bytesLess]
theorem live_put : (putP (putP (SM.empty 0 0 (.string ⟨#[]⟩) 1) (⟨#[98]⟩, ⟨#[50]⟩)) (⟨#[97]⟩, ⟨#[49]⟩)).img = liveL := by
  have hf := fine_empty 0 0 1 (by decide)
  have hs : ∀ p ∈ [((⟨#[98]⟩, ⟨#[50]⟩) : ByteArray × ByteArray), (⟨#[97]⟩, ⟨#[49]⟩)], p.1.size ≤ 131072 ∧ p.2.size ≤ 131072 := by
    intro p hp
    simp only [List.mem_cons, List.not_mem_nil, or_false] at hp
    rcases hp with rfl | rfl <;> exact ⟨by show 1 ≤ _; omega, by show 1 ≤ _; omega⟩
  have hn : (([((⟨#[98]⟩, ⟨#[50]⟩) : ByteArray × ByteArray), (⟨#[97]⟩, ⟨#[49]⟩)]).map Prod.fst).Nodup := by simp
  refine img_of (fine_putL [(⟨#[98]⟩, ⟨#[50]⟩), (⟨#[97]⟩, ⟨#[49]⟩)] hf (by decide) hs).inv live_rise fun k s => ?_
  have := has_putL [(⟨#[98]⟩, ⟨#[50]⟩), (⟨#[97]⟩, ⟨#[49]⟩)] hf (by decide) hs k s
  rw [lastV_mem hn] at this
  refine this.trans ⟨?_, ?_⟩
  · rintro (h | ⟨_, h⟩)
    · simp only [List.mem_cons, List.not_mem_nil, or_false] at h
      simp only [liveL, List.mem_cons, List.not_mem_nil, or_false]
      exact h.symm
    · exact absurd h (empty_has 0 0 1 (by decide) k s)
  · intro h
    simp only [liveL, List.mem_cons, List.not_mem_nil, or_false] at h
    refine .inl ?_
    simp only [List.mem_cons, List.not_mem_nil, or_false]
    exact h.symm
theorem live_cut : cutL liveL ⟨#[97]⟩ ⟨#[]⟩ 1 = [(⟨#[97]⟩, ⟨#[49]⟩)] := by
  unfold cutL liveL
  simp [ltT, Lib.toList_data, Op.bytesLess]
theorem live_exp : expB liveL = [2, 1, 97, 1, 49, 1, 98, 1, 50] := by decide +kernel
theorem live_isB : IsB [2, 1, 97, 1, 49, 1, 98, 1, 50] := fun x hx => by simp at hx; omega
end Go.Proofs.YthlghokgknkpaaaDoor

/-
  From a row's own words to this proof's: a slice of pairs that came in, a range of keys, two slices of pairs.
-/
namespace Go.Proofs.YthlghokgknkpaaaDoor
open Go.ChangeShapes Go.WideShapes Go.ChangeAt Go.RowKit Go.Deep

theorem pairs_cells {H : Type} {enc : TypeId × Value → H} {P : Program} {w : World} {base : Nat} {spare : Nat → Bool} {held : Bool} {t e : TypeId} {f0 f1 : Field} {fuel : Nat} {a : Option Addr} {n c : Nat} {x : DataW H × List MemPlace}
    (ht : P.underlying t = some (.slice e)) (he : P.underlying e = some (.struct #[f0, f1])) (ce : P.cellsOf e = 2) (o0 : f0.offset = 0) (o1 : f1.offset = 1)
    (c0 : P.cellsOf f0.type = 1) (c1 : P.cellsOf f1.type = 1) (u0 : P.underlying f0.type = some .string) (u1 : P.underlying f1.type = some .string)
    (h : DataW.trod enc P w base spare held fuel t (Value.cells (.slice a n c)).toList = some x) :
    (a = none ∧ n = 0 ∧ c = 0) ∨
    ∃ (a' : Addr) (D : Nat → DataW H) (A : Nat → ByteArray × ByteArray) (sp : List (DataW H)), a = some a' ∧ n ≤ c ∧ c ≤ maxLen ∧ x.1 = .slice ((List.range n).map D) sp ∧
      ∀ i, i < n → D i = .agg [.lit (.string (A i).1.data.toList), .lit (.string (A i).2.data.toList)] ∧
        w.cell? (a'.add (i * 2)) = some (.string (A i).1) ∧ w.cell? (a'.add (i * 2 + 1)) = some (.string (A i).2) := by
  rcases open_slice ht h with ⟨hcs, _⟩ | ⟨a', len, cap, m, k, D, Pl, hcs, hb, hl, hm, hmm, rfl, hx⟩
  · simp [Value.cells] at hcs
    exact .inl ⟨hcs.1, hcs.2.1, hcs.2.2⟩
  · simp [Value.cells] at hcs
    obtain ⟨rfl, rfl, rfl⟩ := hcs
    have hlm : n ≤ m := by rw [hmm]; split <;> omega
    have each : ∀ i, i < n → ∃ A : ByteArray × ByteArray, D i = .agg [.lit (.string A.1.data.toList), .lit (.string A.2.data.toList)] ∧
        w.cell? (a'.add (i * 2)) = some (.string A.1) ∧ w.cell? (a'.add (i * 2 + 1)) = some (.string A.2) := by
      intro i hi
      obtain ⟨cs', h1, h2⟩ := hx i (by omega)
      rw [ce] at h1
      obtain ⟨_, hlen, hcell⟩ := World.cells?_some h1
      obtain ⟨xs, k', hk, hxy, _, hxl, hf⟩ := DataW.trod_struct he h2
      match xs, hxl, cs', hlen with
      | [y0, y1], _, [v0, v1], _ =>
        have g0 := hf 0 f0 rfl
        have g1 := hf 1 f1 rfl
        simp [o0, o1, c0, c1] at g0 g1
        obtain ⟨s0, hs0, rfl, _⟩ := DataW.trod_string u0 g0
        obtain ⟨s1, hs1, rfl, _⟩ := DataW.trod_string u1 g1
        cases hs0; cases hs1
        have e0 := hcell 0 (by omega)
        have e1 := hcell 1 (by omega)
        rw [add_add] at e0 e1
        simp only [Prod.mk.injEq] at hxy
        exact ⟨(s0, s1), by simpa using hxy.1, by simpa using e0, by simpa using e1⟩
    have each' : ∃ A : Nat → ByteArray × ByteArray, ∀ i, i < n → D i = .agg [.lit (.string (A i).1.data.toList), .lit (.string (A i).2.data.toList)] ∧
        w.cell? (a'.add (i * 2)) = some (.string (A i).1) ∧ w.cell? (a'.add (i * 2 + 1)) = some (.string (A i).2) := choose_lt each
    obtain ⟨A, hA⟩ := each'
    exact .inr ⟨a', D, A, _, rfl, hl, hm, rfl, hA⟩

theorem weights_allP {H : Type} {P : Program} {e : TypeId} : ∀ {ds : List (DataW H)} {d : DataW H}, d ∈ ds → ∀ q ∈ d.weights P e, q ∈ DataW.weightsAll P e ds
  | d0 :: ds, d, hd, q, hq => by
    simp only [DataW.weightsAll, List.mem_append]
    rcases List.mem_cons.1 hd with rfl | hd
    · exact .inl hq
    · exact .inr (weights_allP hd q hq)
theorem pairsV_cell {l : List (ByteArray × ByteArray)} {w : World} {b o : Nat} (h : ∀ i, i < l.length → w.cell? ⟨b, o + i * 2, none⟩ = some (.string (l.getD i default).1) ∧ w.cell? ⟨b, o + i * 2 + 1, none⟩ = some (.string (l.getD i default).2)) (j : Nat) (u : Value) (hj : (pairsV l)[j]? = some u) : w.cell? ⟨b, o + j, none⟩ = some u := by
  have hl : j < (pairsV l).length := (List.getElem?_eq_some_iff.1 hj).1
  rw [pairsV_length] at hl
  have hi : j / 2 < l.length := by omega
  rcases Nat.mod_two_eq_zero_or_one j with e | e
  · have ej : j = j / 2 * 2 := by omega
    have hk := pairsV_key hi
    rw [← ej, hj] at hk
    rw [Option.some.inj hk]
    have := (h _ hi).1
    rwa [← ej] at this
  · have ej : j = j / 2 * 2 + 1 := by omega
    have hk := pairsV_val hi
    rw [← ej, hj] at hk
    rw [Option.some.inj hk]
    have := (h _ hi).2
    rwa [Nat.add_assoc, ← ej] at this

theorem pairs_in {H : Type} {enc : TypeId × Value → H} {P : Program} {w : World} {base : Nat} {spare : Nat → Bool} {held : Bool} {t e : TypeId} {f0 f1 : Field} {fuel : Nat} {a : Option Addr} {n c : Nat} {x : DataW H × List MemPlace}
    (ht : P.underlying t = some (.slice e)) (he : P.underlying e = some (.struct #[f0, f1])) (ce : P.cellsOf e = 2) (o0 : f0.offset = 0) (o1 : f1.offset = 1)
    (c0 : P.cellsOf f0.type = 1) (c1 : P.cellsOf f1.type = 1) (u0 : P.underlying f0.type = some .string) (u1 : P.underlying f1.type = some .string)
    (h : DataW.trod enc P w base spare held fuel t (Value.cells (.slice a n c)).toList = some x) (hw : ∀ q ∈ x.1.weights P t, q ≤ reachBytes) :
    ∃ zs : List (ByteArray × ByteArray), HasP w (.slice a n c) zs ∧ InP zs ∧ (n : Int) ≤ 9223372036854775807 := by
  rcases pairs_cells ht he ce o0 o1 c0 c1 u0 u1 h with ⟨rfl, rfl, rfl⟩ | ⟨a', D, A, sp, rfl, hl, hm, hx, hA⟩
  · exact ⟨[], HasP.nil0 w, (fun _ h => by cases h), by omega⟩
  · have hlen : ((List.range n).map A).length = n := by simp
    have hget : ∀ i, i < n → ((List.range n).map A).getD i default = A i := fun i hi => by simp [List.getD_eq_getElem?_getD, hi]
    have hsz : ∀ i, i < n → (A i).1.size ≤ 140737488351232 ∧ (A i).2.size ≤ 140737488351232 := fun i hi => by
      have hin : ∀ q ∈ (D i).weights P e, q ≤ reachBytes := fun q hq => hw q (by
        rw [hx]
        simp only [DataW.weights, ht, List.mem_cons, List.mem_append]
        exact .inr (.inl (weights_allP (List.mem_map.2 ⟨i, List.mem_range.2 hi, rfl⟩) q hq)))
      rw [(hA i hi).1] at hin
      simp [DataW.weights, he, DataW.weightsEach, reachBytes] at hin
      exact hin
    refine ⟨(List.range n).map A, ⟨some a', c, by rw [hlen], by rw [hlen]; exact hl, (fun h => by cases h), fun h0 => ?_⟩, fun p hp => ?_, by unfold maxLen at hm; omega⟩
    · rw [hlen] at h0
      obtain ⟨b, o, s⟩ := a'
      obtain rfl : s = none := by simpa [Addr.add] using World.cell?_spot (hA 0 h0).2.1
      refine ⟨b, o, rfl, World.block_lt_of_cell? w _ (hA 0 h0).2.1, pairsV_cell fun i hi => ?_⟩
      rw [hlen] at hi
      obtain ⟨_, h1, h2⟩ := hA i hi
      rw [hget i hi]
      rw [Go.WideShapes.add_plain] at h1 h2
      exact ⟨h1, h2⟩
    · obtain ⟨i, hi, rfl⟩ := List.mem_map.1 hp
      exact hsz i (List.mem_range.1 hi)

theorem three_of {α : Type} : ∀ (a : Array α), a.size = 3 → ∃ x y z, a = #[x, y, z]
  | ⟨[x, y, z]⟩, _ => ⟨x, y, z, rfl⟩
theorem two_ofP {α : Type} : ∀ (a : Array α), a.size = 2 → ∃ x y, a = #[x, y]
  | ⟨[x, y]⟩, _ => ⟨x, y, rfl⟩

set_option maxRecDepth 100000 in
theorem open_ask {H : Type} {enc : TypeId × Value → H} {W : World} {spare : Nat → Bool} {held : Bool} {b0 base : Nat} {v : Value} {d : DataW H} {p : List MemPlace} (hv : Value.okWide Tryd.prog W .any b0 27 v) (h : DataW.Trod enc Tryd.prog W base spare held 27 v d p) :
    ∃ (f u : ByteArray) (n : Int), v = .agg #[.string f, .string u, .int .i64 n] ∧ (-9223372036854775808 ≤ n ∧ n ≤ 9223372036854775807) := by
  obtain ⟨cs, rfl, hsz⟩ := okWide_struct Tryd.underlying27 hv
  rw [show Tryd.prog.cellsOf 27 = 3 by kernel_rfl] at hsz
  obtain ⟨c0, c1, c2, rfl⟩ := three_of cs hsz
  obtain ⟨fuel, hf⟩ := h
  obtain ⟨xs, k', hk, hxy, _, hxl, hfs⟩ := DataW.trod_struct Tryd.underlying27 hf
  match xs, hxl with
  | [y0, y1, y2], _ =>
    have g0 := hfs 0 _ rfl
    have g1 := hfs 1 _ rfl
    have g2 := hfs 2 _ rfl
    simp [show Tryd.prog.cellsOf 9 = 1 by kernel_rfl, show Tryd.prog.cellsOf 3 = 1 by kernel_rfl, Value.cells] at g0 g1 g2
    obtain ⟨s0, hs0, -, -⟩ := DataW.trod_string Tryd.underlying9 g0
    obtain ⟨s1, hs1, -, -⟩ := DataW.trod_string Tryd.underlying9 g1
    obtain ⟨z, hz, -, wz⟩ := DataW.trod_int Tryd.underlying3 g2
    cases hs0; cases hs1; cases hz
    exact ⟨s0, s1, z, rfl, bounds_i64 wz⟩

set_option maxRecDepth 100000 in
theorem open_two {H : Type} {enc : TypeId × Value → H} {W : World} {spare : Nat → Bool} {held : Bool} {b0 base : Nat} {v : Value} {d : DataW H} {p : List MemPlace} (hv : Value.okWide Tryd.prog W .any b0 50 v) (h : DataW.Trod enc Tryd.prog W base spare held 50 v d p) (hw : ∀ q ∈ d.weights Tryd.prog 50, q ≤ reachBytes) :
    ∃ (a : Option Addr) (n c : Nat) (xs : List (ByteArray × ByteArray)) (a' : Option Addr) (n' c' : Nat) (ys : List (ByteArray × ByteArray)), v = .agg #[.slice a n c, .slice a' n' c'] ∧ HasP W (.slice a n c) xs ∧ InP xs ∧ (n : Int) ≤ 9223372036854775807 ∧ HasP W (.slice a' n' c') ys ∧ InP ys ∧ (n' : Int) ≤ 9223372036854775807 := by
  obtain ⟨cs, rfl, hsz⟩ := okWide_struct Tryd.underlying50 hv
  rw [show Tryd.prog.cellsOf 50 = 2 by kernel_rfl] at hsz
  obtain ⟨c0, c1, rfl⟩ := two_ofP cs hsz
  obtain ⟨fuel, hf⟩ := h
  obtain ⟨xs, k', hk, hxy, _, hxl, hfs⟩ := DataW.trod_struct Tryd.underlying50 hf
  match xs, hxl with
  | [y0, y1], _ =>
    have g0 := hfs 0 _ rfl
    have g1 := hfs 1 _ rfl
    simp [show Tryd.prog.cellsOf 25 = 1 by kernel_rfl, Value.cells] at g0 g1
    simp only [Prod.mk.injEq, List.map_cons, List.map_nil] at hxy
    obtain ⟨rfl, -⟩ := hxy
    have hw' := hw
    simp only [DataW.weights, Tryd.underlying50, DataW.weightsEach, List.map_cons, List.map_nil, List.append_nil, List.mem_append] at hw'
    have hs : ∀ {n : Nat} {c : Value} {y : DataW H × List MemPlace}, DataW.trod enc Tryd.prog W base spare held n 25 [c] = some y → ∃ a m k, c = .slice a m k := fun hc => by
      rcases open_slice Tryd.underlying25 hc with ⟨hcs, _⟩ | ⟨a', len, cap, m, k, D, Pl, hcs, _⟩
      · simp at hcs; exact ⟨_, _, _, hcs⟩
      · simp at hcs; exact ⟨_, _, _, hcs⟩
    obtain ⟨a, n, c, rfl⟩ := hs g0
    obtain ⟨a', n', c', rfl⟩ := hs g1
    obtain ⟨xs, x1, x2, x3⟩ := pairs_in Tryd.underlying25 Tryd.underlying33 (by kernel_rfl) rfl rfl (by kernel_rfl) (by kernel_rfl) Tryd.underlying9 Tryd.underlying9 (x := y0) g0 fun q hq => hw' q (.inl hq)
    obtain ⟨ys, z1, z2, z3⟩ := pairs_in Tryd.underlying25 Tryd.underlying33 (by kernel_rfl) rfl rfl (by kernel_rfl) (by kernel_rfl) Tryd.underlying9 Tryd.underlying9 (x := y1) g1 fun q hq => hw' q (.inr hq)
    exact ⟨a, n, c, xs, a', n', c', ys, rfl, x1, x2, x3, z1, z2, z3⟩
end Go.Proofs.YthlghokgknkpaaaDoor

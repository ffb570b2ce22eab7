import Derived.Test.YthlghokgknkpaaaGreatDoorWkBTo
import Derived.Test.YthlghokgknkpaaaGreatDoorWkSTo
import Derived.Shelf.SlSortCmp.NoneTotal
import Derived.Shelf.Lay
import Derived.Ground.SlsfProg
import Derived.WalkKit
import Derived.Lib.BitFns
/-
  Contracts: slices.SortFunc of pairs by keys; image.Pairs of whatever an iterator tells.
-/
namespace Go.Proofs.YthlghokgknkpaaaGreatDoor
open Go.RowKit Go.Shelf

shelf_lay_g SlLaysF0.n6 Slsf 6 at Tryz 49 as sortL

/-- How two pairs are compared. -/
def cfP (x y : ByteArray × ByteArray) : Int := cmpT x.1 y.1
theorem ltP (x y : ByteArray × ByteArray) : ltOf cfP x y = ltT x.1 y.1 := cmpT_neg _ _
theorem swoP : Sort.SWO (ltOf cfP) where
  irrefl x := by rw [ltP]; exact ltT_irrefl _
  trans x y z h1 h2 := by rw [ltP] at *; exact ltT_trans h1 h2
  ntrans x y z h1 h2 := by rw [ltP] at *; exact ltT_not_trans h1 h2

set_option maxHeartbeats 1000000 in
theorem pairs1_any (x y : ByteArray × ByteArray) (W : World) : Calls Tryz.prog 50 #[.agg #[.string x.1, .string x.2], .agg #[.string y.1, .string y.2]] W fun e w' => e = .returned (.int .i64 (cfP x y)) ∧ ∃ q os', w' = Sort.grow (W.drewN q) os' := by
  unfold cfP
  go_enter Tryz.func50, Tryz.ntmps50
  go_wp2_with (go_at_call 51; refine same_mono (compare_any _ _ _) ?_)
  go_ret
  exact ⟨rfl, 0, _, by rw [Sort.alloc_eq_grow, Sort.alloc_eq_grow, Sort.grow_grow]; rfl⟩
theorem cmpLaysP (blk off size : Nat) (w : World) : CmpLays Tryz.prog 50 #[] encP 2 cfP blk off size w := fun _ _ _ _ x y => pairs1_any x y _

theorem flat_pairs (d : Array (ByteArray × ByteArray)) : Sort.flatK encP 2 d = (pairsV d.toList).toArray := by
  refine Sort.ext_get! (by simp [pairsV_length]) fun t ht => ?_
  have ht' : t < d.size * 2 := by simpa using ht
  rw [Sort.get_flatK _ _ _ _ ht']
  have hi : t / 2 < d.toList.length := by simp; omega
  have e0 : d[t / 2]! = d.toList.getD (t / 2) default := by
    rw [getElem!_pos d (t / 2) (by simpa using hi), pgetD hi]
    simp
  rw [e0]
  rcases Nat.mod_two_eq_zero_or_one t with h | h
  · have e : t = t / 2 * 2 := by omega
    have hk := pairsV_key hi
    rw [← e] at hk
    rw [h]
    simp [hk, encP]
  · have e : t = t / 2 * 2 + 1 := by omega
    have hk := pairsV_val hi
    rw [← e] at hk
    rw [h]
    simp [hk, encP]
theorem put_take (F c : Array Value) (h : F.size ≤ c.size) : (Sort.putCells id 0 F c).toList.take F.size = F.toList := by
  apply List.ext_getElem?
  intro k
  by_cases hk : k < F.size
  · rw [List.getElem?_take, if_pos hk]
    simp [Sort.putCells, show k < c.size by omega, hk]
  · rw [List.getElem?_take, if_neg hk]
    simp; omega
theorem put_size (F c : Array Value) : (Sort.putCells id 0 F c).size = c.size := by simp [Sort.putCells]

set_option maxHeartbeats 1000000 in
theorem sort_any (B : Nat) (v : Value) (l : List (ByteArray × ByteArray)) (w : World) (h : OwnsP w B v l) (hl : l.length ≤ 1099511627776) :
    Calls Tryz.prog 49 #[v, .func (.func 50) #[] #[]] w fun e w' => e = .returned (.tuple #[]) ∧ ∃ l', l'.Perm l ∧ l'.Pairwise (fun x y => ltT y.1 x.1 = false) ∧ OwnsP w' B v l' ∧ w.grownBy w' v.ownBlock := by
  have hnone : ∀ p c, l = [] → v = .slice p 0 c → Calls Tryz.prog 49 #[v, .func (.func 50) #[] #[]] w fun e w' => e = .returned (.tuple #[]) ∧ ∃ l', l'.Perm l ∧ l'.Pairwise (fun x y => ltT y.1 x.1 = false) ∧ OwnsP w' B v l' ∧ w.grownBy w' v.ownBlock := by
    intro p c h0 hv
    have hc := AnyF.slices_SortFunc_none sortL p c (.func (.func 50) #[] #[]) w
    change Calls Tryz.prog 49 _ _ _ at hc
    subst hv
    refine hc.mono ?_
    rintro e w' ⟨rfl, rfl⟩
    exact ⟨rfl, l, List.Perm.refl _, by rw [h0]; exact List.Pairwise.nil, h, ⟨rfl, rfl, rfl, Nat.le_refl _, fun _ _ _ => rfl⟩⟩
  rcases h.2 with ⟨hv, hn⟩ | ⟨g, cap, cur, hv, hB, hg, hnc, hcm, hcs, htake⟩
  · exact hnone _ _ (List.eq_nil_of_length_eq_zero hn) hv
  · by_cases h0 : l.length = 0
    · exact hnone _ _ (List.eq_nil_of_length_eq_zero h0) (by rw [hv, h0])
    · have hlt : g < w.heap.size := (Array.getElem?_eq_some_iff.1 hg).1
      have hH : Sort.HoldsK encP 2 w g 0 l.toArray := by
        unfold Sort.HoldsK
        rw [flat_pairs]
        intro j hj
        have hj' : j < (pairsV l).length := by simpa using hj
        rw [hv] at h
        have hc := World.ownsRow.cells h (g := g) rfl j (pairsV l)[j] (List.getElem?_eq_getElem hj')
        rw [Addr.add_lit] at hc
        refine ⟨?_, by simp [World.frozen?, hg]⟩
        rw [hc, getElem!_pos _ j hj]
        simp
      have eg : ∀ args w, (callFunc 50 args).run Tryz.prog w = .ok (.enter 50 args) w := enters_of Tryz.func50 (by kernel_rfl) rfl
      have hc := AnyQ.slices_SortFunc sortL 2 Tryz.isAgg35 Tryz.sizeOf35 encP (fun _ => rfl) (fun x v hv => by simp [encP] at hv; rcases hv with rfl | rfl <;> rfl) cfP swoP 50 #[] g 0 cap l.toArray w eg (cmpLaysP g 0 _ w) hH hlt (by simp; omega)
      change Calls Tryz.prog 49 _ _ _ at hc
      rw [List.size_toArray] at hc
      rw [hv]
      refine hc.mono ?_
      rintro e w' ⟨rfl, d', n, os, ⟨hsz, _, hperm⟩, hs, rfl⟩
      have hsz' : d'.size = l.length := by simpa using hsz
      clear hsz
      have e1 : d'.extract 0 l.length = d' := by rw [← hsz']; exact Array.extract_size
      have e2 : l.toArray.extract 0 l.length = l.toArray := by simp
      rw [e1, e2] at hperm
      have hlen : d'.toList.length = l.length := by simpa using hsz'
      have hput : (sortWorldK encP 2 w g 0 n d' os).heap[g]? = some (.cells (Sort.putCells id 0 (pairsV d'.toList).toArray cur) 35 (0, 0)) := by
        unfold sortWorldK Sort.putRowK Sort.putRow
        rw [flat_pairs, Sort.heap_grow_old _ _ (by simp [Sort.mapBlock, Sort.ahead, hlt])]
        simp [Sort.mapBlock, Sort.ahead, Array.getElem?_modify, hg, Sort.onCells]
      refine ⟨rfl, d'.toList, by simpa using hperm, ?_, ?_, ?_⟩
      · rw [List.pairwise_iff_getElem]
        intro i j hi hj hij
        have hi' : i < d'.size := by simpa using hi
        have hj' : j < d'.size := by simpa using hj
        have := hs i j (Nat.zero_le _) hij (by omega)
        rw [getElem!_pos d' j hj', getElem!_pos d' i hi', ltP] at this
        simpa using this
      · refine ⟨by rw [pairsV_length], .inr ⟨g, cap, _, by rw [hlen], hB, hput, by omega, hcm, by rw [put_size]; exact hcs, ?_⟩⟩
        have hF : (pairsV d'.toList).toArray.size = d'.toList.length * 2 := by simp [pairsV_length]
        have := put_take (pairsV d'.toList).toArray cur (by rw [hF, hcs, hlen]; omega)
        rw [hF] at this
        rw [this]
      · refine ⟨rfl, rfl, rfl, size_sortWorldK_c _ _ _ _ _ _ _ _, fun k hk hne => ?_⟩
        have hne' : ¬ g = k := fun e => hne (by rw [e]; rfl)
        unfold sortWorldK Sort.putRowK Sort.putRow
        rw [Sort.heap_grow_old _ _ (by simp [Sort.mapBlock, Sort.ahead, hk])]
        simp [Sort.mapBlock, Sort.ahead, Array.getElem?_modify, hne']
end Go.Proofs.YthlghokgknkpaaaGreatDoor

/-
  Contracts: image.Pairs of whatever an iterator tells; of a map; of no map.
-/
namespace Go.Proofs.YthlghokgknkpaaaGreatDoor
open Go.RowKit Go.Shelf

theorem infoP : (Tryz.prog.info? 35).map (fun i => (i.zero, i.size, i.bytes)) = some (some (.agg #[.string ⟨#[]⟩, .string ⟨#[]⟩]), 2, 32) := by kernel_rfl
theorem new_two (X : World) (u v : Value) (t : TypeId) : ∀ j x, [u, v][j]? = some x → (X.alloc (.cells #[u, v] t)).cell? ((⟨X.heap.size, 0, none⟩ : Addr).add j) = some x := by
  intro j x hj
  match j, hj with
  | 0, hj => simp at hj; subst hj; simp [Addr.add]
  | 1, hj => simp at hj; subst hj; simp [Addr.add]

theorem rise_of {l : List (ByteArray × ByteArray)} (hn : (l.map Prod.fst).Nodup) (h : l.Pairwise fun x y => ltT y.1 x.1 = false) : Rise l := by
  rw [List.nodup_iff_pairwise_ne, List.pairwise_map] at hn
  refine List.Pairwise.imp₂ ?_ h hn
  intro a b h1 h2
  cases hab : ltT a.1 b.1 with
  | true => rfl
  | false => exact absurd (ltT_tri hab h1) h2

set_option maxRecDepth 100000 in
set_option maxHeartbeats 2000000 in
theorem pairs_of (p : Option Addr) (xs : List (ByteArray × ByteArray)) (S : Nat → Prop) (w : World) (hlen : Calls Tryz.prog 47 #[.pointer p] w fun e w' => e = .returned (.int .i64 (xs.length : Nat)) ∧ w' = w)
    (hS : ∀ k, S k → k < w.heap.size)
    (hseq : ∀ Bm X, Below w.heap.size w X → w.heap.size ≤ Bm → Boxed X Bm 28 (.pointer p) → SeqS Tryz.prog 79 #[] #[.pointer (some ⟨Bm, 0, none⟩)] (fun x : ByteArray × ByteArray => #[.string x.1, .string x.2]) (fun k => S k ∨ k = Bm) xs X)
    (hn : (xs.map Prod.fst).Nodup) (hl : xs.length ≤ 1073741824) :
    Calls Tryz.prog 16 #[.pointer p] w fun e w' => ∃ v, e = .returned v ∧ OwnsP w' w.heap.size v (srt xs) ∧ Below w.heap.size w w' := by
  obtain ⟨i1, hi1, hz1, hs1, hb1⟩ := info_parts infoP
  have hmk := fun W : World => run_make (P := Tryz.prog) W 25 35 i1 _ Tryz.underlying25 hi1 hz1 .i64 .i64 0 (xs.length : Int) (by omega) (by omega) (by rw [hb1]; omega) (by omega)
  rw [hs1] at hmk
  simp only [show (0 : Int).toNat = 0 from rfl, Int.toNat_natCast] at hmk
  have hA : (madeCells (Value.agg #[.string ⟨#[]⟩, .string ⟨#[]⟩]).cells (xs.length * 2)).size = xs.length * 2 := size_madeCells _ _
  generalize madeCells _ (xs.length * 2) = A0 at hmk hA
  refine (callsIn_wide (n := 9)).1 ?_
  refine callsIn_of_wp_marks Tryz.func16 rfl trivial ?_ rfl
  simp only [Tryz.ntmps16, List.size_toArray, List.length_cons, List.length_nil, Nat.reduceAdd, Nat.reduceSub, Array.replicate_succ, Array.replicate_zero, List.push_toArray, List.append_toArray, List.nil_append, List.cons_append]
  generalize hN : xs.length = N at *
  have HN : Hid (xs.length = N) := hN
  clear hN
  gi_wp2_with (refine ⟨trivial, ?_⟩; gi_at_call 47; refine (callsIn_wide.2 hlen).mono ?_; rintro e w ⟨rfl, rfl⟩)
  generalize hs : w.heap.size = s at *
  have hrow := World.ownsRow_made (e := 35) (size := 2) (base := s) w A0 N (by omega) (by unfold maxLen; omega) hA
  have q1 := Boxed.new (w.alloc (.cells A0 35)) 25 (.slice (some ⟨s, 0, none⟩) 0 N)
  rw [World.size_alloc, hs] at q1
  rw [hs] at hrow
  have hrow2 := World.ownsRow.alloc hrow (.cells #[.slice (some ⟨s, 0, none⟩) 0 N] 25)
  have hB2 : Below s w ((w.alloc (.cells A0 35)).alloc (.cells #[.slice (some ⟨s, 0, none⟩) 0 N] 25)) := ((Below.refl _ w).alloc (by omega) _).alloc (by simp; omega) _
  have hz2 : ((w.alloc (.cells A0 35)).alloc (.cells #[.slice (some ⟨s, 0, none⟩) 0 N] 25)).heap.size = s + 2 := by simp; omega
  clear hrow
  generalize (w.alloc (.cells A0 35)).alloc (.cells #[.slice (some ⟨s, 0, none⟩) 0 N] 25) = X2 at *
  refine ⟨trivial, (callsIn_wide.2 (all_any_s p X2)).mono ?_⟩
  rintro e X3 ⟨rfl, hX3⟩
  have q2 := Boxed.new X2 28 (.pointer p)
  have hBA : Below X2.heap.size X2 X3 := by rw [hX3]; exact (Below.refl _ _).alloc (Nat.le_refl _) _
  rw [← hX3] at q2
  have hz3 : X3.heap.size = s + 3 := by rw [hX3]; simp; omega
  rw [hz2] at q2 hBA
  rw [hz2]
  replace q1 : Boxed X3 (s + 1) 25 (.slice (some ⟨s, 0, none⟩) 0 N) := (hBA.block _ (by omega)).trans q1
  replace hrow2 := ownsRow_block hrow2 (hBA.block s (by omega))
  have hB3 : Below s w X3 := hB2.trans (hBA.mono (by omega))
  clear hX3 hB2 hBA hz2 hmk
  gi_wp2
  refine range_seqS (m := 7) (gf := 79) (fb := #[]) (lb := #[.pointer (some ⟨s + 2, 0, none⟩)]) rfl (enters_of Tryz.func79 (by kernel_rfl) rfl)
    (hseq (s + 2) X3 hB3 (by omega) q2) (fun k hk => by rcases hk with hk | rfl; · have := hS k hk; omega
                                                        · omega) (fun _ => rfl)
    (fun B pre X => Boxed X (s + 1) 25 (.slice (some ⟨s, 0, none⟩) pre.length N) ∧ X.ownsRow s 35 2 (.slice (some ⟨s, 0, none⟩) pre.length N) pre.length (pairsV pre) ∧ Below s w X ∧ s + 3 ≤ X.heap.size)
    (fun _ _ _ _ => False)
    ?hI ?hIx ?h0 ?ab ?done ?stop
  case hI =>
    rintro B pre X Y hB ⟨d1, d2, d3, d4⟩ ho
    have hg := (World.ownsRow.lt d2 s rfl).2
    have hoz := ho.size
    refine ⟨ho.box d1 (.inl (by omega)), ownsRow_block d2 ?_, d3.trans (ho.below (by omega) (by omega)), by omega⟩
    rw [ho.block s _ (Array.getElem?_eq_getElem hg) (.inl (by omega)), Array.getElem?_eq_getElem hg]
  case hIx => exact fun _ _ _ _ _ _ h _ => h
  case h0 =>
    intro X hX hX2
    exact ⟨(hX.block _ (by omega)).trans q1, ownsRow_block hrow2 (hX.block _ (by omega)), hB3.trans (hX.mono (by omega)), by omega⟩
  case stop => exact fun _ _ _ _ _ _ h _ => h.elim
  case ab =>
    apply Exists.intro
    constructor
    · intro l x X K hK
      have hsem := @Oper.semAt_some l
      gi_wp2
      exact hK
    · rintro l B pre ⟨xk, xv⟩ X hB hBX hpre ⟨d1, d2, d3, d4⟩
      have hsem := @Oper.semAt_some l
      have hpl : pre.length + 1 ≤ N := by have := hpre.length_le; rw [List.length_append, List.length_singleton, HN.out] at this; omega
      have e1 := d1.cell
      have hXr : (X.alloc (.cells #[.string xk, .string xv] 35)).ownsRow s 35 2 (.slice (some ⟨s, 0, none⟩) pre.length N) pre.length (pairsV pre) := World.ownsRow.alloc d2 _
      have hXb : Boxed (X.alloc (.cells #[.string xk, .string xv] 35)) (s + 1) 25 (.slice (some ⟨s, 0, none⟩) pre.length N) := d1.alloc _
      have hXB : Below X.heap.size X (X.alloc (.cells #[.string xk, .string xv] 35)) := (Below.refl X.heap.size X).alloc (Nat.le_refl _) _
      have hXz : (X.alloc (.cells #[.string xk, .string xv] 35)).heap.size = X.heap.size + 1 := by simp
      gi_wp2_with (gi_at_builtin; refine wpListIn_append_fits _ rfl (.tmp 13) (.tmp 17) 25 rfl s 35 i1 2 Tryz.underlying25 hi1 hs1 s pre.length N _ rfl hXr ⟨X.heap.size, 0, none⟩ 1 1 [.string xk, .string xv] rfl rfl (new_two _ _ _ _) (by simp [Value.oneCell']) hpl ?_; intro X4 hr4 hg4; have hb4 : Boxed X4 (s + 1) 25 (.slice (some ⟨s, 0, none⟩) pre.length N) := (hg4.block _ (by omega) (by simp)).trans hXb; have e3 := hb4.cell; have e4 := hb4.frozen)
      have hX4z := hg4.size
      have hB4 : Below s w X4 := d3.trans ((hXB.mono (by omega)).trans ⟨hg4.os, hg4.tape, hg4.output, hg4.size, fun k hk => hg4.block k (by omega) (by intro e; cases e; omega)⟩)
      have hK4 : ∀ k, k < X.heap.size → k ≠ s → k ≠ s + 1 → (X4.setCell ⟨s + 1, 0, none⟩ (.slice (some ⟨s, 0, none⟩) (pre.length + 1) N)).heap[k]? = X.heap[k]? := fun k hk h1 h2 =>
        (Below.heap_setCell _ _ _ _ (by show k ≠ s + 1; exact h2)).trans ((hg4.block k (by omega) (by intro e; cases e; exact h1 rfl)).trans (hXB.block k hk))
      have hsz : X.heap.size ≤ (X4.setCell ⟨s + 1, 0, none⟩ (.slice (some ⟨s, 0, none⟩) (pre.length + 1) N)).heap.size := by have := (KeepsWalks.setCell X4 ⟨s + 1, 0, none⟩ (.slice (some ⟨s, 0, none⟩) (pre.length + 1) N)).size; omega
      refine ⟨⟨hsz, fun k hk => ?_⟩, ⟨hsz, fun k h1 h2 => hK4 k (by omega) (by omega) (by omega)⟩, ?_, ?_, ?_, by omega⟩
      · rcases hk with hk | rfl
        · have := hS k hk
          exact hK4 k (by omega) (by omega) (by omega)
        · exact hK4 _ (by omega) (by omega) (by omega)
      · rw [List.length_append, List.length_singleton]
        exact hb4.set _
      · rw [List.length_append, List.length_singleton, pairsV_append]
        exact ownsRow_block hr4 (Below.heap_setCell _ _ _ _ (by show s ≠ s + 1; omega))
      · exact hB4.setCell (by show s ≤ s + 1; omega) _
  case done =>
    rintro B X hB ⟨d1, d2, d3, d4⟩ hD
    rw [HN.out] at d1 d2
    have e1 := d1.cell
    have hsort := sort_any s (.slice (some ⟨s, 0, none⟩) N N) xs X (by unfold OwnsP; rw [HN.out]; exact d2) (by rw [HN.out]; omega)
    clear hseq hrow2 q1 q2 d2
    gi_wp2_with (refine ⟨trivial, ?_⟩; gi_at_call 49; refine (callsIn_wide.2 hsort).mono ?_; rintro e Y ⟨rfl, l', hperm, hpw, hown, hgr⟩; have e2 : Y.cell? ⟨s + 1, 0, none⟩ = some (.slice (some ⟨s, 0, none⟩) N N) := (World.cell?_of_block (a := ⟨s + 1, 0, none⟩) (hgr.block (s + 1) (by omega) (by simp [Value.ownBlock]))).trans e1)
    have hl' : l' = srt xs := srt_is (rise_of ((hperm.map _).nodup_iff.2 hn) hpw) hperm
    subst hl'
    have hYz := hgr.size
    rw [hz3] at hD
    have hDY : Y.heap[s + 3]? = some (.deferred (some [])) := (hgr.block (s + 3) (Array.getElem?_eq_some_iff.1 hD).1 (by simp [Value.ownBlock])).trans hD
    have hBY : Below s w Y := d3.grown hgr (by omega) (by intro k hk; simp [Value.ownBlock] at hk; omega)
    refine ⟨by simp, .inl ⟨_, _, rfl, run_takeDeferred hDY, ?_⟩⟩
    rw [hs]
    refine ⟨_, results_tmp rfl _ _ _, _, rfl, ?_, hBY.trans ((Outside.putObj (B := 0) _ (Nat.le_refl _) hDY rfl).below (by omega) (by have := hBY.size; omega))⟩
    refine ⟨hown.1, ?_⟩
    rcases hown.2 with hn0 | ⟨g, cap, cur, hv, hb, hg, rest⟩
    · exact .inl hn0
    · refine .inr ⟨g, cap, cur, hv, hb, ?_, rest⟩
      simp only [Value.slice.injEq, Option.some.injEq, Addr.mk.injEq] at hv
      exact (World.putObj_heap_other (by omega)).trans hg

theorem pairs_nodup {M : SM} {K : Value → Prop} (h : M.Inv K) : (M.pairs.map Prod.fst).Nodup := by
  rw [show M.pairs.map Prod.fst = M.keys by unfold SM.pairs; rw [List.map_map]; simp [Function.comp_def]]
  exact keys_nodup h
theorem pairs_len {M : SM} {K : Value → Prop} (h : M.Inv K) : M.pairs.length = M.n := by unfold SM.pairs; rw [List.length_map, keys_len h]
/-- A map's pairs by keys. -/
def SM.img (M : SM) : List (ByteArray × ByteArray) := srt M.pairs
theorem img_rise {M : SM} {K : Value → Prop} (h : M.Inv K) : Rise M.img := srt_rise (pairs_nodup h)
theorem img_len {M : SM} {K : Value → Prop} (h : M.Inv K) : M.img.length = M.n := by unfold SM.img; rw [srt_len, pairs_len h]

theorem pairs_any (b bw bs : Nat) (M : SM) (w : World) (hT : Tab w) (h : Lies 74 71 w b bw bs M) (hI : M.Inv IsV_s) :
    Calls Tryz.prog 16 #[.pointer (some ⟨b, 0, none⟩)] w fun e w' => ∃ v, e = .returned v ∧ OwnsP w' w.heap.size v M.img ∧ Below w.heap.size w w' := by
  have hr := good_range hI.fit.good
  have hlt := h.lt
  have hld := hI.load
  have h0 := hT.1
  refine pairs_of (some ⟨b, 0, none⟩) M.pairs (fun k => k = 0 ∨ k = b ∨ k = bw ∨ k = bs) w ?_ (fun k hk => by omega) (fun Bm X hX hBm hbx => ?_) (pairs_nodup hI) (by rw [pairs_len hI]; omega)
  · have := len_any_s b bw bs M w h hI.fit
    rw [pairs_len hI]
    exact this
  · have := all1_seqS b bw bs Bm M X (hT.below hX h0) (h.below hX (Nat.le_refl _)) hI hbx
    have e : (fun k => (k = 0 ∨ k = b ∨ k = bw ∨ k = bs) ∨ k = Bm) = mapS b bw bs Bm := by
      funext k
      unfold mapS
      simp only [or_assoc]
    rw [e]
    exact this

theorem pairs_none (w : World) : Calls Tryz.prog 16 #[.pointer none] w fun e w' => ∃ v, e = .returned v ∧ OwnsP w' w.heap.size v [] ∧ Below w.heap.size w w' := by
  have := pairs_of none [] (fun _ => False) w (len_none_s none w (noMap_nil_s w)) (fun k hk => hk.elim) (fun Bm X hX hBm hbx => ?_) List.nodup_nil (by simp)
  · rw [srt_self Rise.nil] at this
    exact this
  · have := all1_none_s Bm X hbx
    have e : (fun k => False ∨ k = Bm) = fun k => k = Bm := by
      funext k
      simp
    rw [e]
    exact this
end Go.Proofs.YthlghokgknkpaaaGreatDoor

/-
  Plain mathematics: how many bytes a number has behind its first one ('more'), and the length of a number in bits. No program is named here.
-/
namespace Go.Proofs.YthlghokgknkpaaaGreatDoor
open Go.RowKit

/-- How many bytes a number has behind its first one. -/
def more (u : Nat) : Nat :=
  if u < 128 then 0 else if u < 16384 then 1 else if u < 2097152 then 2 else if u < 268435456 then 3 else if u < 34359738368 then 4
  else if u < 4398046511104 then 5 else if u < 562949953421312 then 6 else if u < 72057594037927936 then 7 else 8

theorem more_le (u : Nat) : more u ≤ 8 := by unfold more; repeat' split
                                             all_goals omega

theorem bitLen_ge (x k : Nat) (h : 2 ^ k ≤ x) (hx : x < 18446744073709551616) : k + 1 ≤ Lib.bitLen x := by
  rw [Lib.bitLen_shift k x h hx]
  have hp : 0 < 2 ^ k := Nat.two_pow_pos k
  have h1 : x / 2 ^ k ≠ 0 := by
    have := (Nat.le_div_iff_mul_le hp (x := 1) (y := x)).2 (by omega)
    omega
  have h2 : x / 2 ^ k < 2 ^ 64 := Nat.lt_of_le_of_lt (Nat.div_le_self _ _) hx
  rw [Lib.bitLen_half _ h1 h2]
  omega

theorem bitLen_bounds (x : Nat) (h0 : 1 ≤ x) (hx : x < 18446744073709551616) : 1 ≤ Lib.bitLen x ∧ Lib.bitLen x ≤ 64 :=
  ⟨bitLen_ge x 0 (by simpa using h0) hx, Lib.bitLen_le x 64 (by omega) hx⟩

theorem or_one (u : Nat) : u ||| 1 = u + (1 - u % 2) := by
  have h := Nat.two_pow_add_eq_or_of_lt (i := 1) (b := 1) (by omega) (u / 2)
  have h2 : u ||| 1 = (2 ^ 1 * (u / 2)) ||| 1 := by
    apply Nat.eq_of_testBit_eq
    intro i
    simp only [Nat.testBit_or]
    cases i with
    | zero => simp
    | succ n => simp [Nat.testBit_succ, show (2 * (u / 2)) / 2 = u / 2 by omega]
  rw [h2, ← h]
  omega

/-- What tailBytes reckons is 'more'. -/
theorem more_of_len (u x : Nat) (hu : u < 18446744073709551616) (hx : x = u ||| 1) : min ((Lib.bitLen x - 1) / 7) 8 = more u := by
  rw [or_one] at hx
  have hx64 : x < 18446744073709551616 := by omega
  have hge := fun k h => bitLen_ge x k h hx64
  have hle := fun k h => Lib.bitLen_le x k h
  unfold more
  split
  · have := hle 7 (by omega) (by omega); omega
  split
  · have := hle 14 (by omega) (by omega); have := hge 7 (by omega); omega
  split
  · have := hle 21 (by omega) (by omega); have := hge 14 (by omega); omega
  split
  · have := hle 28 (by omega) (by omega); have := hge 21 (by omega); omega
  split
  · have := hle 35 (by omega) (by omega); have := hge 28 (by omega); omega
  split
  · have := hle 42 (by omega) (by omega); have := hge 35 (by omega); omega
  split
  · have := hle 49 (by omega) (by omega); have := hge 42 (by omega); omega
  split
  · have := hle 56 (by omega) (by omega); have := hge 49 (by omega); omega
  · have := hge 56 (by omega); omega

/-- The same, in the walk's own words. -/
theorem more_of_bits (u : Int) (h0 : 0 ≤ u) (h1 : u < 18446744073709551616) :
    min (((Lib.bitLen (bits BinOp.or .u64 u 1).toNat : Int) - 1) / 7) 8 = (more u.toNat : Int) := by
  obtain ⟨n, rfl⟩ := Int.eq_ofNat_of_zero_le h0
  have hn : n < 18446744073709551616 := by omega
  have e : bits BinOp.or .u64 (n : Int) 1 = ((n ||| 1 : Nat) : Int) := bits_or_u64_nat n 1 hn (by omega)
  rw [e]
  have hm := more_of_len n (n ||| 1) hn rfl
  have hb := bitLen_bounds (n ||| 1) (by rw [or_one]; omega) (by rw [or_one]; omega)
  simp only [Int.toNat_natCast]
  rw [← hm]
  omega

theorem or_one_bounds (u : Int) (h0 : 0 ≤ u) (h1 : u < 18446744073709551616) : 1 ≤ bits BinOp.or .u64 u 1 ∧ bits BinOp.or .u64 u 1 < 18446744073709551616 := by
  obtain ⟨n, rfl⟩ := Int.eq_ofNat_of_zero_le h0
  have hn : n < 18446744073709551616 := by omega
  have e : bits BinOp.or .u64 (n : Int) 1 = ((n ||| 1 : Nat) : Int) := bits_or_u64_nat n 1 hn (by omega)
  rw [e, or_one]
  omega

/-- The table's byte. -/
theorem len8tab_at (i : Nat) (h : i < Lib.len8tab.size) : ((Lib.len8tab[i]'h).toNat : Int) = (Lib.bitLen i : Int) := by
  have hi : i < 256 := by rw [Lib.len8tab_size] at h; exact h
  have e := Lib.len8_eq ⟨i, hi⟩
  simp only [Lib.len8, Int.toNat_natCast] at e
  rw [← e, ByteArray.getElem?_lt' _ _ h]
  rfl

/-- A number's first byte, of k bytes behind it; its byte number i behind the first; all its bytes: in the walk's own words. -/
def fb (u : Int) (k : Nat) : Int := bits BinOp.or .u8 (bits BinOp.xor .u8 IntKind.u8.max (255 / 2 ^ k)) (u / 2 ^ (8 * k) % 256)
def bt (u : Int) (k i : Nat) : Int := u / 2 ^ (8 * (k - 1 - i)) % 256
def numK (u : Int) (k : Nat) : List Int := fb u k :: (List.range k).map (bt u k)
def numB (u : Int) : List Int := numK u (more u.toNat)

theorem numK_length (u : Int) (k : Nat) : (numK u k).length = k + 1 := by simp [numK]
theorem numB_length (u : Int) : (numB u).length = more u.toNat + 1 := numK_length _ _
theorem numB_le (u : Int) : (numB u).length ≤ 9 := by have := more_le u.toNat; rw [numB_length]; omega

end Go.Proofs.YthlghokgknkpaaaGreatDoor

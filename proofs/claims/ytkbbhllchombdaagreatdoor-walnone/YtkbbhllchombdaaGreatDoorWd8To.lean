import Derived.Test.YtkbbhllchombdaaGreatDoorWd1To
import Derived.Test.YtkbbhllchombdaaGreatDoorWaL
import Derived.Deep.RegionHeld3
import Derived.Test.YtkbbhllchombdaaGreatDoorRnyTo
import Derived.Shelf.RegionOpen
namespace Go.Proofs.YtkbbhllchombdaaGreatDoor
open Go.RowKit Go.Shelf Go.Maps
attribute [local go_sem ↓] ldE_exec stE_exec ldE_execI stE_execI ldE_run ldE_box ldC_exec stC_exec ldC_execI stC_execI ldC_run ldW_exec stW_exec ldW_execI stW_execI ldW_box ldR_exec stR_exec ldR_execI stR_execI ldT_exec stT_exec ldT_execI stT_execI ldT_box stT_box ldU_exec stU_exec ldU_execI stU_execI ldH_exec stH_exec ldH_execI stH_execI ldH_run ldH_box oc_int oc_bool oc_string oc_slice oc_pointer
attribute [local go_sem ↓] bsE_exec bsE_execI bsE_run bsW_exec bsW_execI bsW_run bdE_exec bdE_execI bdE_run bdH_exec bdH_execI bdH_run bdB_exec bdB_execI bdB_run
def numsL (l : List ByteArray) : List Int := (l.filter fun x => (num11 x).2).map fun x => (num11 x).1
theorem segs_fold : ∀ (l : List ByteArray) (a : List Int), upI11 a → upI11 (l.foldl (fun l x => if (num11 x).2 = true then insI11 l (num11 x).1 else l) a) ∧ (l.foldl (fun l x => if (num11 x).2 = true then insI11 l (num11 x).1 else l) a).Perm (numsL l ++ a)
  | [], a, h => ⟨h, List.Perm.refl _⟩
  | x :: l, a, h => by
    rw [List.foldl_cons]
    by_cases hx : (num11 x).2 = true
    · rw [if_pos hx]
      obtain ⟨h1, h2⟩ := segs_fold l (insI11 a (num11 x).1) (insI_up h _)
      refine ⟨h1, h2.trans ?_⟩
      have e : numsL (x :: l) = (num11 x).1 :: numsL l := by unfold numsL; rw [List.filter_cons_of_pos (by simpa using hx), List.map_cons]
      rw [e, List.cons_append]
      exact ((List.Perm.append_left _ (insI_perm a (num11 x).1)).trans List.perm_middle)
    · rw [if_neg hx]
      have e : numsL (x :: l) = numsL l := by unfold numsL; rw [List.filter_cons_of_neg (by simpa using hx)]
      rw [e]
      exact segs_fold l a h
theorem sort_segs (l : List ByteArray) : ((numsL l).mergeSort fun x y => decide (x ≤ y)) = segs11 l := by
  obtain ⟨h1, h2⟩ := segs_fold l [] List.Pairwise.nil
  rw [List.append_nil] at h2
  refine List.Perm.eq_of_pairwise (le := fun a b => a ≤ b) ?_ ?_ h1 ((List.mergeSort_perm _ _).trans h2.symm)
  · intro a b _ _ h1 h2
    omega
  · have := List.pairwise_mergeSort (le := fun x y : Int => decide (x ≤ y)) (by intro a b c h1 h2; simp at *; omega) (by intro a b; simp; omega) (numsL l)
    exact this.imp fun h => by simpa using h
theorem numsL_snoc {l : List ByteArray} {j : Nat} (h : j < l.length) : numsL (l.take (j + 1)) = if (num11 (l.getD j ByteArray.empty)).2 = true then numsL (l.take j) ++ [(num11 (l.getD j ByteArray.empty)).1] else numsL (l.take j) := by
  have e : l.take (j + 1) = l.take j ++ [l.getD j ByteArray.empty] := by
    rw [List.take_add_one, List.getElem?_eq_getElem h, List.getD_eq_getElem?_getD, List.getElem?_eq_getElem h]
    rfl
  unfold numsL
  rw [e, List.filter_append, List.map_append]
  by_cases hx : (num11 (l.getD j ByteArray.empty)).2 = true
  · rw [if_pos hx, List.filter_cons_of_pos (by simpa using hx)]
    rfl
  · rw [if_neg hx, List.filter_cons_of_neg (by simpa using hx), List.filter_nil, List.map_nil, List.append_nil]

structure LogV where
  seg : Int
  last : Int
  x : StaV
  dead : Bool
def logPre (d : Nat) (L : LogV) : List Value := [.pointer (some ⟨d, 0, none⟩), .int .i64 L.seg]
def logPost (L : LogV) : List Value := [.int .i64 L.last, .bool L.dead]
structure Log11 (w0 w : World) (lb d : Nat) (S G : Nat → Prop) (M : DM) (L : LogV) : Prop where
  disk : Disk8 w0 w d S M
  box : SAt w lb 145 (logPre d L) L.x (logPost L)
  sta : StaG w G L.x
  gl : G lb
  apart : ∀ k, G k → ¬ S k
  own : ∀ k, G k → w0.heap.size ≤ k ∧ k < w.heap.size
  seg : inI L.seg
  last : 1 ≤ L.last ∧ L.last ≤ 999999999 ∨ L.last = 0
section
variable {w0 w w' : World} {lb d : Nat} {S G : Nat → Prop} {M M' : DM} {L : LogV}
theorem Log11.below (h : Log11 w0 w lb d S G M L) (hb : Below w.heap.size w w') : Log11 w0 w' lb d S G M L :=
  ⟨h.disk.below hb, h.box.below hb, h.sta.stay (.of_below hb) (.of_below hb), h.gl, h.apart, fun k hk => ⟨(h.own k hk).1, Nat.lt_of_lt_of_le (h.own k hk).2 hb.size⟩, h.seg, h.last⟩
theorem Log11.disk_op (h : Log11 w0 w lb d S G M L) (hd : Disk8 w0 w' d (more8 S w w') M') (ht : Turn S w w') : Log11 w0 w' lb d (more8 S w w') G M' L := by
  refine ⟨hd, h.box.same (ht.block lb h.box.lt (h.apart lb h.gl)), h.sta.stay (.of_turn ht h.apart) (.of_turn ht h.apart), h.gl, fun k hk hs => ?_, fun k hk => ⟨(h.own k hk).1, Nat.lt_of_lt_of_le (h.own k hk).2 ht.size⟩, h.seg, h.last⟩
  rcases hs with hs | ⟨h1, h2⟩
  · exact h.apart k hk hs
  · have := (h.own k hk).2
    omega
theorem Log11.cells (h : Log11 w0 w lb d S G M L) : w.cell? ⟨lb, 0, none⟩ = some (.pointer (some ⟨d, 0, none⟩)) ∧ w.cell? ⟨lb, 1, none⟩ = some (.int .i64 L.seg) ∧ w.cell? ⟨lb, 8, none⟩ = some (.int .i64 L.last) ∧ w.cell? ⟨lb, 9, none⟩ = some (.bool L.dead) := by
  have hb := h.box
  unfold SAt at hb
  exact ⟨box_cell hb 0, box_cell hb 1, box_cell hb 8, box_cell hb 9⟩
theorem Log11.bel (h : Log11 w0 w lb d S G M L) : Below w0.heap.size w0 w := h.disk.bel
theorem Log11.gl11 (h : Log11 w0 w lb d S G M L) (h0 : Gl11 w0) : Gl11 w := h0.below h.disk.bel (Nat.le_refl _)
end
theorem texts_cell {w : World} {B : Nat} {p : Option Addr} {n c : Nat} {xs : List ByteArray} (h : w.ownsRow B 9 1 (.slice p n c) xs.length (textsV8 xs)) {j : Nat} (hj : j < xs.length) : ∃ g, p = some ⟨g, 0, none⟩ ∧ n = xs.length ∧ n ≤ c ∧ g < w.heap.size ∧ w.cell? ⟨g, j, none⟩ = some (.string (xs.getD j ByteArray.empty)) := by
  rcases h.2 with ⟨hv, hn⟩ | ⟨g, cap, cur, hv, hB, hg, hnc, _, _, _⟩
  · omega
  · simp only [Value.slice.injEq] at hv
    obtain ⟨rfl, rfl, rfl⟩ := hv
    have hc := World.ownsRow.cells h (g := g) rfl j (.string (xs.getD j ByteArray.empty)) (by simp [textsV8, hj, List.getD_eq_getElem?_getD])
    rw [Addr.add_lit, Nat.zero_add] at hc
    exact ⟨g, rfl, rfl, hnc, box_lt hg, hc⟩

set_option maxRecDepth 100000 in
set_option maxHeartbeats 1000000 in
theorem numbers_any {w0 w : World} {lb d : Nat} {S G : Nat → Prop} {M : DM} {L : LogV} (h : Log11 w0 w lb d S G M L) (h0 : Gl11 w0) (hI : M.Inv) :
    Calls Tryz.prog 86 #[.pointer (some ⟨lb, 0, none⟩)] w fun e w' => (∃ p n c, e = .returned (.slice p n c) ∧ OwnsI w' w.heap.size (.slice p n c) (segs11 M.listT)) ∧ Below w.heap.size w w' := by
  obtain ⟨c0, -⟩ := h.cells
  have hlb := h.box.lt
  have kl := list_any h.disk.at8 hI
  have hlen : M.listT.length ≤ 16777216 := by
    obtain ⟨_, _, _, _, _, _, _, hn⟩ := h.disk.at8.open8 hI
    unfold DM.listT
    split
    · exact Nat.zero_le _
    · exact hn
  have hsz : Hid (∀ x ∈ M.listT, x.size ≤ 140737488355328) := fun x hx => by
    unfold DM.listT at hx
    split at hx
    · cases hx
    · have := (good_size (hI.good x hx)).2
      omega
  have HG : Hid (Gl11 w) := h.gl11 h0
  have HSg : Hid (((numsL M.listT).mergeSort fun x y => decide (x ≤ y)) = segs11 M.listT) := sort_segs _
  generalize segs11 M.listT = sg at *
  generalize M.listT = names at *
  clear h h0 hI
  go_enter Tryz.func86, Tryz.ntmps86
  go_wp2_with fail
  refine kl.mono ?_
  rintro _ w1 ⟨⟨v, rfl, ho1⟩, hb1⟩
  obtain ⟨p, n, c, rfl⟩ := row_shape11 ho1
  have hnn : n = names.length := by
    rcases ho1.2 with ⟨hv, h0⟩ | ⟨g, cap, cur, hv, _⟩
    · simp only [Value.slice.injEq] at hv; omega
    · simp only [Value.slice.injEq] at hv; omega
  subst hnn
  clear kl c0 hlb
  have HO1 : Hid (w1.ownsRow w.heap.size 9 1 (.slice p names.length c) names.length (textsV8 names)) := ho1
  have HB1 : Hid (Below w.heap.size w w1) := hb1
  clear ho1 hb1
  go_wp2
  go_loopw [3, 14] (fun s3 s14 wr => ∃ (j : Nat) (pf : Option Addr) (nf cf : Nat), s3 = .slice pf nf cf ∧ s14 = .int .i64 (j : Nat) ∧ j ≤ names.length ∧ Hid (OwnsI wr w1.heap.size (.slice pf nf cf) (numsL (names.take j))) ∧ Below w1.heap.size w1 wr) (fun _ s14 _ => names.length - (intOf s14).toNat)
  case atStart => exact ⟨0, none, 0, 0, rfl, rfl, Nat.zero_le _, OwnsI.none _ _, Below.refl _ _⟩
  case round =>
    obtain ⟨j, pf, nf, cf, rfl, rfl, hj, HO, hb⟩ := hrel
    have hzb := hb.size
    have HBr : Hid (Below w.heap.size w wr) := HB1.out.trans (hb.mono HB1.out.size)
    by_cases hjn : j < names.length
    · obtain ⟨g, hp, -, hcn, hg, hc⟩ := texts_cell (row_below HO1.out hb (Nat.le_refl _)) hjn
      have hxs := hsz.out (names.getD j ByteArray.empty) (by rw [List.getD_eq_getElem?_getD, List.getElem?_eq_getElem hjn]; exact List.getElem_mem hjn)
      have HN : Hid (numsL (names.take (j + 1)) = if (num11 (names.getD j ByteArray.empty)).2 = true then numsL (names.take j) ++ [(num11 (names.getD j ByteArray.empty)).1] else numsL (names.take j)) := numsL_snoc hjn
      have kn := numberP_any _ hxs wr (HG.out.below HBr.out (Nat.le_refl _))
      have hll : (numsL (names.take j)).length ≤ j := by
        unfold numsL
        rw [List.length_map]
        exact Nat.le_trans (List.length_filter_le _ _) (by rw [List.length_take]; omega)
      generalize names.getD j ByteArray.empty = x at *
      generalize num11 x = nx at *
      obtain ⟨nv, nb⟩ := nx
      dsimp only at kn HN
      rw [hp] at *
      go_wp2_with fail
      refine kn.mono ?_
      rintro _ w2 ⟨rfl, hb2⟩
      have hO2 := row_below HO.out hb2 (Nat.le_refl _)
      have hB2 := hb.trans (hb2.mono hzb)
      have hz2 := hb2.size
      clear kn hc hxs
      cases nb with
      | false =>
        rw [if_neg (by decide)] at HN
        have HO2 : Hid (OwnsI w2 w1.heap.size (.slice pf nf cf) (numsL (names.take (j + 1)))) := by rw [Hid, HN.out]; exact hO2
        clear HN
        go_wp2
        go_roundw
        case rel => exact ⟨j + 1, pf, nf, cf, rfl, by go_num, by omega, HO2, hB2⟩
        case measure => simp only [intOf]; omega
      | true =>
        rw [if_pos rfl] at HN
        have hba : Below w2.heap.size w2 (w2.alloc (.cells #[.int .i64 nv] 3)) := (Below.refl _ _).alloc (Nat.le_refl _) _
        have hrow := row_below hO2 hba (Nat.le_refl _)
        have hR := hasR_lit (w := w2.alloc (.cells #[.int .i64 nv] 3)) (size := 1) (xs := [.int .i64 nv]) (e := 3) (f := (0, 0)) (k := w2.heap.size) (heap_alloc_new w2 _) 1 1 rfl (Nat.le_refl _)
        have hzz : w1.heap.size ≤ (w2.alloc (.cells #[.int .i64 nv] 3)).heap.size := by simp; omega
        have HBa : Hid (Below w1.heap.size w1 (w2.alloc (.cells #[.int .i64 nv] 3))) := hB2.trans (hba.mono (by omega))
        obtain ⟨m, Hm⟩ : ∃ m, Hid ((numsL (names.take j)).length = m) := ⟨_, rfl⟩
        rw [Hm.out] at hrow hll
        clear hba hO2 HO
        go_wp2_with (at_builtin; refine ap_row elemI11 _ rfl _ _ rfl w1.heap.size _ _ m 1 ((numsL (names.take j)).map (Value.int .i64)) [.int .i64 nv] rfl rfl hR (by intro u hu; simp at hu; subst hu; rfl) hrow (by omega) (by omega) hzz ?_; intro v' w' hown' hgrow hwh; refine Halt8.out ?_)
        obtain ⟨p', n', c', rfl⟩ := row_shape11 hown'
        have HO3 : Hid (OwnsI w' w1.heap.size (.slice p' n' c') (numsL (names.take (j + 1)))) := by
          rw [Hid, HN.out]
          unfold OwnsI
          rw [List.map_append, List.length_append, Hm.out]
          exact hown'
        have HB3 : Hid (Below w1.heap.size w1 w') := HBa.out.trans ((Below.refl _ _).grown hgrow hzz fun k hk => (World.ownsRow.lt hrow k hk).1)
        clear hown' hgrow hwh hrow hR HN HBa
        constructor
        go_wp2
        go_roundw
        case rel => exact ⟨j + 1, p', n', c', rfl, by go_num, by omega, HO3, HB3.out⟩
        case measure => simp only [intOf]; omega
    · obtain rfl : j = names.length := by omega
      have hO2 := HO.out
      rw [List.take_length] at hO2
      have hll : (numsL names).length ≤ names.length := by
        unfold numsL
        rw [List.length_map]
        exact List.length_filter_le _ _
      have ks := sortI_any w1.heap.size _ _ wr hO2 (by omega)
      rw [HSg.out] at ks
      have HOw : Hid _ := hO2
      clear HO hO2
      go_wp2_with fail
      refine ks.mono ?_
      rintro _ w2 ⟨rfl, ho2, hg2⟩
      have HB2 : Hid (Below w.heap.size w w2) := (HBr.out).trans ((Below.refl _ _).grown hg2 HBr.out.size fun k hk => Nat.le_trans HB1.out.size (World.ownsRow.lt HOw.out k hk).1)
      have HO2 : Hid (OwnsI w2 w.heap.size (.slice pf nf cf) sg) := row_mono ho2 HB1.out.size
      clear ks ho2 hg2
      go_wp2
      go_ret
      exact ⟨⟨pf, nf, cf, rfl, HO2.out⟩, HB2.out⟩
structure LogS (w0 wb w : World) (lb d : Nat) (S G : Nat → Prop) (M : DM) (L : LogV) : Prop where
  ex : ∃ S', Log11 w0 w lb d S' G M L ∧ Turn (fun k => S k ∨ k = lb) wb w ∧ ∀ k, S' k → S k ∨ wb.heap.size ≤ k
def GKeep (G : Nat → Prop) (X Y : World) : Prop := X.heap.size ≤ Y.heap.size ∧ ∀ k, G k → Y.heap[k]? = X.heap[k]?
theorem GKeep.trans {G : Nat → Prop} {X Y Z : World} (h : GKeep G X Y) (k : GKeep G Y Z) : GKeep G X Z := ⟨Nat.le_trans h.1 k.1, fun i hi => (k.2 i hi).trans (h.2 i hi)⟩
theorem HasX.gkeep {G : Nat → Prop} {X Y : World} {v : Value} {xs : List Int} (h : HasX X (fun k => ¬ G k) v xs) (hk : GKeep G X Y) : HasX Y (fun k => ¬ G k) v xs := by
  obtain ⟨p, c, rfl, h1, h2, h3⟩ := h
  refine ⟨p, c, rfl, h1, h2, fun h0 => ?_⟩
  obtain ⟨b, o, rfl, hg, hb, hc⟩ := h3 h0
  have hG : G b := Classical.byContradiction fun hn => hg hn
  exact ⟨b, o, rfl, hg, Nat.lt_of_lt_of_le hb hk.1, fun i hi => (World.cell?_of_block (a := ⟨b, o + i, none⟩) (hk.2 b hG)).trans (hc i hi)⟩
section
variable {w0 wb w w' : World} {lb d c : Nat} {S G : Nat → Prop} {M M' : DM} {L : LogV}
theorem LogS.of (h : Log11 w0 w lb d S G M L) : LogS w0 w w lb d S G M L := ⟨S, h, Turn.refl _ _, fun _ hk => .inl hk⟩
theorem LogS.below (h : LogS w0 wb w lb d S G M L) (hb : Below w.heap.size w w') : LogS w0 wb w' lb d S G M L := by
  obtain ⟨S', h1, h2, h3⟩ := h
  exact ⟨S', h1.below hb, h2.trans (Turn.of_below hb (Nat.le_refl _)), h3⟩
theorem LogS.cells (h : LogS w0 wb w lb d S G M L) : w.cell? ⟨lb, 0, none⟩ = some (.pointer (some ⟨d, 0, none⟩)) ∧ w.cell? ⟨lb, 1, none⟩ = some (.int .i64 L.seg) ∧ w.cell? ⟨lb, 8, none⟩ = some (.int .i64 L.last) ∧ w.cell? ⟨lb, 9, none⟩ = some (.bool L.dead) := by
  obtain ⟨S', h1, _⟩ := h
  exact h1.cells
theorem LogS.lt (h : LogS w0 wb w lb d S G M L) : lb < w.heap.size := by
  obtain ⟨S', h1, _⟩ := h
  exact h1.box.lt
theorem LogS.frozen (h : LogS w0 wb w lb d S G M L) (i : Nat) : w.frozen? ⟨lb, i, none⟩ = false := by
  obtain ⟨S', h1, _⟩ := h
  exact h1.box.frozen i
theorem LogS.gl11 (h : LogS w0 wb w lb d S G M L) (h0 : Gl11 w0) : Gl11 w := by
  obtain ⟨S', h1, _⟩ := h
  exact h1.gl11 h0
theorem LogS.op {P : Program} {f : FuncId} {args : Array Value} {A : Ending → Prop} (h : LogS w0 wb w lb d S G M L) (hc : ∀ S', Log11 w0 w lb d S' G M L → Calls P f args w fun e w' => A e ∧ Disk8 w0 w' d (more8 S' w w') M' ∧ Turn S' w w') :
    Calls P f args w fun e w' => A e ∧ LogS w0 wb w' lb d S G M' L ∧ GKeep G w w' := by
  obtain ⟨S', h1, h2, h3⟩ := h
  refine (hc S' h1).mono ?_
  rintro e w' ⟨ha, hd, ht⟩
  refine ⟨ha, ⟨more8 S' w w', h1.disk_op hd ht, h2.wide ht fun k hk => (h3 k hk).imp .inl id, fun k hk => ?_⟩, ht.size, fun k hk => ht.block k (h1.own k hk).2 (h1.apart k hk)⟩
  rcases hk with hk | ⟨h4, _⟩
  · exact h3 k hk
  · have := h2.size
    exact .inr (by omega)
theorem LogS.create (h : LogS w0 wb w lb d S G M L) (hO : M.OkN c) (hc : c < 1099511627776) {x : ByteArray} (hs : x.size ≤ maxLen) :
    Calls Tryz.prog 76 #[.pointer (some ⟨d, 0, none⟩), .string x] w fun e w' => e = .returned (.int .i64 ((M.create x).1 : Nat)) ∧ LogS w0 wb w' lb d S G (M.create x).2 L ∧ GKeep G w w' := h.op fun _ hd => hd.disk.create hO hc hs
theorem LogS.sync (h : LogS w0 wb w lb d S G M L) (hO : M.OkN c) (hc : c < 1099511627776) :
    Calls Tryz.prog 74 #[.pointer (some ⟨d, 0, none⟩)] w fun e w' => e = .returned (.int .i64 (M.syncs.1 : Nat)) ∧ LogS w0 wb w' lb d S G M.syncs.2 L ∧ GKeep G w w' := h.op fun _ hd => hd.disk.sync hO hc
theorem LogS.rename (h : LogS w0 wb w lb d S G M L) (hO : M.OkN c) (hc : c < 1099511627776) {a b : ByteArray} (hsa : a.size ≤ maxLen) (hsb : b.size ≤ maxLen) :
    Calls Tryz.prog 204 #[.pointer (some ⟨d, 0, none⟩), .string a, .string b] w fun e w' => e = .returned (.int .i64 ((M.rename a b).1 : Nat)) ∧ LogS w0 wb w' lb d S G (M.rename a b).2 L ∧ GKeep G w w' := h.op fun _ hd => hd.disk.rename hO hc hsa hsb
theorem LogS.append (h : LogS w0 wb w lb d S G M L) (hO : M.OkN c) (hc : c < 1099511627776) {x : ByteArray} (hs : x.size ≤ maxLen) {v : Value} {bs : List Int} (hb : HasX w (fun k => ¬ G k) v bs) (hbl : bs.length ≤ 1099511627776) :
    Calls Tryz.prog 72 #[.pointer (some ⟨d, 0, none⟩), .string x, v] w fun e w' => e = .returned (.int .i64 ((M.append x bs).1 : Nat)) ∧ LogS w0 wb w' lb d S G (M.append x bs).2 L ∧ GKeep G w w' := h.op fun _ hd => hd.disk.append hO hc hs (hb.mono fun k _ hk hg => hd.apart k hg hk) hbl
theorem LogS.read (h : LogS w0 wb w lb d S G M L) (hI : M.Inv) {x : ByteArray} (hs : x.size ≤ maxLen) :
    Calls Tryz.prog 157 #[.pointer (some ⟨d, 0, none⟩), .string x] w fun e w' => (∃ v, e = .returned (.tuple #[v, .int .i64 (M.readE x : Nat)]) ∧ Owns w' w.heap.size 5 v (M.readB x)) ∧ LogS w0 wb w' lb d S G M L ∧ Below w.heap.size w w' := by
  obtain ⟨S', h1, h2, h3⟩ := id h
  refine (read_any h1.disk.at8 hI hs).mono ?_
  rintro e w' ⟨ha, hb⟩
  exact ⟨ha, h.below hb, hb⟩
theorem LogS.setLast (h : LogS w0 wb w lb d S G M L) (n : Int) (hn : 1 ≤ n ∧ n ≤ 999999999) : LogS w0 wb (w.setCell ⟨lb, 8, none⟩ (.int .i64 n)) lb d S G M ⟨L.seg, n, L.x, L.dead⟩ := by
  obtain ⟨S', h1, h2, h3⟩ := h
  have hb := h1.box
  unfold SAt at hb
  have ht : Turn (fun k => k = lb) w (w.setCell ⟨lb, 8, none⟩ (.int .i64 n)) := (Turn.refl (fun k => k = lb) w).setCell (p := ⟨lb, 8, none⟩) (.inl rfl) _
  refine ⟨S', ⟨h1.disk.turn ht (fun k hk e => h1.apart lb h1.gl (by rw [← e]; exact hk)) (fun k e => by rw [e]; exact (h1.own lb h1.gl).1), ?_, ?_, h1.gl, h1.apart, fun k hk => ⟨(h1.own k hk).1, Nat.lt_of_lt_of_le (h1.own k hk).2 ht.size⟩, h1.seg, .inl hn⟩, h2.wide ht fun k hk => .inl (.inr hk), h3⟩
  · unfold SAt
    refine (set_block9 hb 8 (.int .i64 n) (by show 8 < 10; decide)).trans ?_
    rfl
  · exact h1.sta.stay (stay_box ht hb (by decide)) (stay_box ht hb (by decide))
end
theorem nameB_size (n : Int) : (nameB11 n).size ≤ 24 := by
  have e : (nameB11 n).size = (name11 n).length := strOfNums_size _
  rw [e]
  exact name_len n
def alone11 (e : Nat) : Nat := if e = 9 then 9 else 0
theorem alone_any (e : Nat) (w : World) : Calls Tryz.prog 203 #[.int .i64 (e : Nat)] w fun r w' => r = .returned (.int .i64 (alone11 e : Nat)) ∧ w' = w := by
  by_cases h : e = 9
  · subst h
    go_enter Tryz.func203, Tryz.ntmps203
    go_wp2
    go_ret
    exact ⟨rfl, rfl⟩
  · have h2 : ((e : Int) == 9) = false := by rw [beq_eq_false_iff_ne]; omega
    have HF : Hid (alone11 e = 0) := if_neg h
    go_enter Tryz.func203, Tryz.ntmps203
    go_wp2
    go_ret
    exact ⟨by rw [HF.out]; rfl, rfl⟩
def LogV.begun (L : LogV) (e : Nat) (n : Int) : LogV := ⟨L.seg, if e = 0 then n else L.last, L.x, L.dead⟩

set_option maxRecDepth 100000 in
set_option maxHeartbeats 1000000 in
theorem beginW_any {w0 wb w : World} {lb d c : Nat} {S G : Nat → Prop} {M : DM} {L : LogV} (h : LogS w0 wb w lb d S G M L) (h0 : Gl11 w0) (hO : M.OkN c) (hc : c + 2 < 1099511627776) (n : Int) (hn : 1 ≤ n ∧ n ≤ 999999999) :
    Calls Tryz.prog 158 #[.pointer (some ⟨lb, 0, none⟩), .int .i64 n] w fun e w' => e = .returned (.int .i64 ((begin11 M n).1 : Nat)) ∧ LogS w0 wb w' lb d S G (begin11 M n).2 (L.begun (begin11 M n).1 n) := by
  have hd := h.below (on_drew (Below.refl w.heap.size w))
  have s0 : w.drew.cell? ⟨lb, 0, none⟩ = some (.pointer (some ⟨d, 0, none⟩)) := hd.cells.1
  have kn := nameP_any n ⟨by omega, by omega⟩ w.drew (hd.gl11 h0)
  have hlb := h.lt
  have hsn := nameB_size n
  have KC : Hid (∀ w1, Below w.drew.heap.size w.drew w1 → Calls Tryz.prog 76 #[.pointer (some ⟨d, 0, none⟩), .string (nameB11 n)] w1 fun e w' => e = .returned (.int .i64 ((M.create (nameB11 n)).1 : Nat)) ∧ LogS w0 wb w' lb d S G (M.create (nameB11 n)).2 L ∧ GKeep G w1 w') := fun w1 hb => (hd.below hb).create hO (by omega) (by unfold maxLen; omega)
  have K1 : Hid (∀ w1, Below w.drew.heap.size w.drew w1 → w1.cell? ⟨lb, 0, none⟩ = some (.pointer (some ⟨d, 0, none⟩))) := fun w1 hb => (hd.below hb).cells.1
  have HO2 : Hid ((M.create (nameB11 n)).2.OkN (c + 1)) := hO.create _
  have HB : Hid (begin11 M n = if (M.create (nameB11 n)).1 ≠ 0 then M.create (nameB11 n) else (M.create (nameB11 n)).2.syncs) := rfl
  generalize begin11 M n = R at *
  generalize M.create (nameB11 n) = C at *
  generalize nameB11 n = nm at *
  clear h hd h0 hO hsn
  go_enter Tryz.func158, Tryz.ntmps158
  go_wp2_with fail
  go_region_held3 (fun w' => w'.cell? ⟨lb, 0, none⟩ = some (.pointer (some ⟨d, 0, none⟩)))
    (first | (with_reducible exact s0) | (with_reducible assumption))
    (first
      | (go_at_call 19; (with_reducible refine Calls.mono kn ?_); rintro _ w1 ⟨rfl, hb1⟩; have kc := KC.out w1 hb1; have e1 := K1.out w1 hb1)
      | (go_at_call 76; (with_reducible refine Calls.mono kc ?_); rintro _ w2 ⟨rfl, hL2, -⟩; have e2 := hL2.cells.1))
  have hl2 := hL2.lt
  have HL2 : Hid _ := hL2
  clear kn kc e1 KC K1 s0 hb1 hL2
  obtain ⟨ce, CM⟩ := C
  dsimp only at *
  by_cases hce : ce = 0
  · subst hce
    have HB2 : Hid (R = CM.syncs) := by rw [Hid, HB.out, if_neg (by simp)]
    have ks := HL2.out.sync HO2.out (by omega)
    generalize CM.syncs = Y at *
    obtain ⟨se, SM'⟩ := Y
    dsimp only at *
    go_wp2_with fail
    refine ks.mono ?_
    rintro _ w3 ⟨rfl, hL3, -⟩
    clear ks e2 hl2
    have hl3 := hL3.lt
    by_cases hse : se = 0
    · subst hse
      have c8 := hL3.cells.2.2.1
      have f8 := hL3.frozen 8
      have HL3 : Hid (LogS w0 wb (w3.setCell ⟨lb, 8, none⟩ (.int .i64 n)) lb d S G SM' ⟨L.seg, n, L.x, L.dead⟩) := hL3.setLast n hn
      clear hL3
      go_wp2
      go_ret
      exact ⟨by rw [HB2.out]; rfl, by rw [HB2.out]; exact HL3.out⟩
    · have hse' : ((se : Int) != 0) = true := by simpa using hse
      have HL3 : Hid _ := hL3
      clear hL3
      go_wp2
      go_ret
      refine ⟨by rw [HB2.out]; rfl, ?_⟩
      rw [HB2.out]
      unfold LogV.begun
      rw [if_neg hse]
      exact HL3.out
  · have HB2 : Hid (R = (ce, CM)) := by rw [Hid, HB.out, if_pos hce]
    have hce' : ((ce : Int) != 0) = true := by simpa using hce
    clear e2
    go_wp2
    go_ret
    refine ⟨by rw [HB2.out]; rfl, ?_⟩
    rw [HB2.out]
    unfold LogV.begun
    rw [if_neg hce]
    exact HL2.out

theorem newB_size : newB11.size ≤ maxLen := by decide +kernel
theorem newB_eq : (⟨#[119, 97, 108, 46, 110, 101, 119]⟩ : ByteArray) = newB11 := by decide +kernel
set_option maxRecDepth 100000 in
set_option maxHeartbeats 1000000 in
theorem replaceW_any {w0 wb w : World} {lb d c : Nat} {S G : Nat → Prop} {M : DM} {L : LogV} (h : LogS w0 wb w lb d S G M L) (h0 : Gl11 w0) (hO : M.OkN c) (hc : c + 4 < 1099511627776) (n : Int) (hn : inI n) {p : Option Addr} {q : Nat} {bs : List Int} (hb : HasX w (fun k => ¬ G k) (.slice p bs.length q) bs) (hB : isB8 bs) (hbl : bs.length ≤ 1099511627776) :
    Calls Tryz.prog 153 #[.pointer (some ⟨lb, 0, none⟩), .int .i64 n, .slice p bs.length q] w fun e w' => e = .returned (.int .i64 ((rput11 M bs n).1 : Nat)) ∧ LogS w0 wb w' lb d S G (rput11 M bs n).2 L := by
  have c0 := h.cells.1
  have hlb := h.lt
  have k1 := h.create hO (by omega) newB_size
  have HB : Hid (rput11 M bs n = if (M.create newB11).1 ≠ 0 then M.create newB11 else if bs ≠ [] ∧ ((M.create newB11).2.append newB11 bs).1 ≠ 0 then (M.create newB11).2.append newB11 bs else if (if bs = [] then (M.create newB11).2 else ((M.create newB11).2.append newB11 bs).2).syncs.1 ≠ 0 then (if bs = [] then (M.create newB11).2 else ((M.create newB11).2.append newB11 bs).2).syncs else (if bs = [] then (M.create newB11).2 else ((M.create newB11).2.append newB11 bs).2).syncs.2.rename newB11 (nameB11 n)) := rfl
  have HO1 : Hid ((M.create newB11).2.OkN (c + 1)) := hO.create _
  have KN : Hid (∀ W, Gl11 W → Calls Tryz.prog 19 #[.int .i64 n] W fun e w' => e = .returned (.string (nameB11 n)) ∧ Below W.heap.size W w') := fun W hG => nameP_any n hn W hG
  have hsn : (nameB11 n).size ≤ maxLen := by have := nameB_size n; unfold maxLen; omega
  rw [← newB_eq] at *
  generalize rput11 M bs n = R at *
  generalize M.create ⟨#[119, 97, 108, 46, 110, 101, 119]⟩ = C at *
  obtain ⟨ce, M1⟩ := C
  dsimp only at k1 HB HO1
  have HG0 : Hid (Gl11 w0) := h0
  have HX : Hid (HasX w (fun k => ¬ G k) (.slice p bs.length q) bs) := hb
  have HB8 : Hid (isB8 bs) := hB
  have h9 : newB11.size ≤ maxLen := newB_size
  rw [← newB_eq] at h9
  clear h h0 hO hb hB
  generalize nameB11 n = nm at *
  go_enter Tryz.func153, Tryz.ntmps153
  go_wp2_with fail
  refine k1.mono ?_
  rintro _ w1 ⟨rfl, hL1, hk1⟩
  have HX1 : Hid (HasX w1 (fun k => ¬ G k) (.slice p bs.length q) bs) := HX.out.gkeep hk1
  have HL1 : Hid (LogS w0 wb w1 lb d S G M1 L) := hL1
  clear k1 c0 hlb hL1 hk1 HX
  by_cases hce : ce = 0
  case neg =>
    have HB2 : Hid (R = (ce, M1)) := by rw [Hid, HB.out, if_pos hce]
    have hce' : ((ce : Int) != 0) = true := by simpa using hce
    go_wp2
    go_ret
    exact ⟨by rw [HB2.out]; rfl, by rw [HB2.out]; exact HL1.out⟩
  subst hce
  have HB2 : Hid (R = if bs ≠ [] ∧ (M1.append ⟨#[119, 97, 108, 46, 110, 101, 119]⟩ bs).1 ≠ 0 then M1.append ⟨#[119, 97, 108, 46, 110, 101, 119]⟩ bs else if (if bs = [] then M1 else (M1.append ⟨#[119, 97, 108, 46, 110, 101, 119]⟩ bs).2).syncs.1 ≠ 0 then (if bs = [] then M1 else (M1.append ⟨#[119, 97, 108, 46, 110, 101, 119]⟩ bs).2).syncs else (if bs = [] then M1 else (M1.append ⟨#[119, 97, 108, 46, 110, 101, 119]⟩ bs).2).syncs.2.rename ⟨#[119, 97, 108, 46, 110, 101, 119]⟩ nm) := by rw [Hid, HB.out, if_neg (by simp)]
  clear HB
  by_cases hbs : bs = []
  · have HB3 : Hid (R = if M1.syncs.1 ≠ 0 then M1.syncs else M1.syncs.2.rename ⟨#[119, 97, 108, 46, 110, 101, 119]⟩ nm) := by rw [Hid, HB2.out, if_neg (fun h => h.1 hbs), if_pos hbs]
    clear HB2 HX1 HB8
    subst hbs
    have HL2 : Hid (LogS w0 wb w1 lb d S G M1 L) := HL1.out
    have HO2 : Hid (M1.OkN (c + 2)) := HO1.out.mono (by omega)
    have e2 := HL2.out.cells.1
    have hl2 := HL2.out.lt
    clear HL1 HO1
    generalize M1 = M2 at *
    have ks := HL2.out.sync HO2.out (by omega)
    have HO3 : Hid (M2.syncs.2.OkN (c + 3)) := HO2.out.syncs
    generalize M2.syncs = Y at *
    obtain ⟨se, M3⟩ := Y
    dsimp only at *
    go_wp2_with fail
    refine ks.mono ?_
    rintro _ w3 ⟨rfl, hL3, -⟩
    clear ks e2 hl2 HL2 HO2
    have HL3 : Hid (LogS w0 wb w3 lb d S G M3 L) := hL3
    clear hL3
    by_cases hse : se = 0
    · subst hse
      have HB4 : Hid (R = M3.rename ⟨#[119, 97, 108, 46, 110, 101, 119]⟩ nm) := by rw [Hid, HB3.out, if_neg (by simp)]
      clear HB3
      have hd := HL3.out.below (on_drew (Below.refl w3.heap.size w3))
      have s0 : w3.drew.cell? ⟨lb, 0, none⟩ = some (.pointer (some ⟨d, 0, none⟩)) := hd.cells.1
      have hl3 := HL3.out.lt
      have kn := KN.out w3.drew (hd.gl11 HG0.out)
      have KC : Hid (∀ w4, Below w3.drew.heap.size w3.drew w4 → Calls Tryz.prog 204 #[.pointer (some ⟨d, 0, none⟩), .string ⟨#[119, 97, 108, 46, 110, 101, 119]⟩, .string nm] w4 fun e w' => e = .returned (.int .i64 ((M3.rename ⟨#[119, 97, 108, 46, 110, 101, 119]⟩ nm).1 : Nat)) ∧ LogS w0 wb w' lb d S G (M3.rename ⟨#[119, 97, 108, 46, 110, 101, 119]⟩ nm).2 L ∧ GKeep G w4 w') := fun w4 hb => (hd.below hb).rename HO3.out (by omega) h9 hsn
      have K1 : Hid (∀ w4, Below w3.drew.heap.size w3.drew w4 → w4.cell? ⟨lb, 0, none⟩ = some (.pointer (some ⟨d, 0, none⟩))) := fun w4 hb => (hd.below hb).cells.1
      clear hd
      generalize M3.rename ⟨#[119, 97, 108, 46, 110, 101, 119]⟩ nm = Z at *
      go_wp2_with fail
      go_region_held3 (fun w' => w'.cell? ⟨lb, 0, none⟩ = some (.pointer (some ⟨d, 0, none⟩)))
        (first | (with_reducible exact s0) | (with_reducible assumption))
        (first
          | (go_at_call 19; (with_reducible refine Calls.mono kn ?_); rintro _ w4 ⟨rfl, hb4⟩; have kc := KC.out w4 hb4; have e4 := K1.out w4 hb4)
          | (go_at_call 204; (with_reducible refine Calls.mono kc ?_); rintro _ w5 ⟨rfl, hL5, -⟩; have e5 := hL5.cells.1))
      go_wp2
      go_ret
      exact ⟨by rw [HB4.out]; rfl, by rw [HB4.out]; exact hL5⟩
    · have HB4 : Hid (R = (se, M3)) := by rw [Hid, HB3.out, if_pos hse]
      have hse' : ((se : Int) != 0) = true := by simpa using hse
      go_wp2
      go_ret
      exact ⟨by rw [HB4.out]; rfl, by rw [HB4.out]; exact HL3.out⟩

  · have hl0 : 0 < bs.length := by cases bs with | nil => exact absurd rfl hbs | cons => simp
    have ka := HL1.out.append HO1.out (by omega) h9 HX1.out hbl
    have HO2 : Hid ((M1.append ⟨#[119, 97, 108, 46, 110, 101, 119]⟩ bs).2.OkN (c + 2)) := HO1.out.append _ HB8.out
    have HBs : Hid (bs ≠ []) := hbs
    have e1 := HL1.out.cells.1
    have hl1 := HL1.out.lt
    clear hbs HX1 HB8
    generalize M1.append ⟨#[119, 97, 108, 46, 110, 101, 119]⟩ bs = AP at *
    obtain ⟨ae, M2⟩ := AP
    dsimp only at *
    have hlI : (0 : Int) < (bs.length : Int) := by omega
    generalize bs.length = bl at *
    go_wp2_with fail
    refine ka.mono ?_
    rintro _ w2 ⟨rfl, hL2, -⟩
    have HL2 : Hid (LogS w0 wb w2 lb d S G M2 L) := hL2
    clear ka e1 hl1 hL2 HL1 HO1
    by_cases hae : ae = 0
    · subst hae
      have HB3 : Hid (R = if M2.syncs.1 ≠ 0 then M2.syncs else M2.syncs.2.rename ⟨#[119, 97, 108, 46, 110, 101, 119]⟩ nm) := by rw [Hid, HB2.out, if_neg (fun h => h.2 rfl), if_neg HBs.out]
      clear HB2 HBs
      have e2 := HL2.out.cells.1
      have hl2 := HL2.out.lt
      have ks := HL2.out.sync HO2.out (by omega)
      have HO3 : Hid (M2.syncs.2.OkN (c + 3)) := HO2.out.syncs
      generalize M2.syncs = Y at *
      obtain ⟨se, M3⟩ := Y
      dsimp only at *
      go_wp2_with fail
      refine ks.mono ?_
      rintro _ w3 ⟨rfl, hL3, -⟩
      clear ks e2 hl2 HL2 HO2
      have HL3 : Hid (LogS w0 wb w3 lb d S G M3 L) := hL3
      clear hL3
      by_cases hse : se = 0
      · subst hse
        have HB4 : Hid (R = M3.rename ⟨#[119, 97, 108, 46, 110, 101, 119]⟩ nm) := by rw [Hid, HB3.out, if_neg (by simp)]
        clear HB3
        have hd := HL3.out.below (on_drew (Below.refl w3.heap.size w3))
        have s0 : w3.drew.cell? ⟨lb, 0, none⟩ = some (.pointer (some ⟨d, 0, none⟩)) := hd.cells.1
        have hl3 := HL3.out.lt
        have kn := KN.out w3.drew (hd.gl11 HG0.out)
        have KC : Hid (∀ w4, Below w3.drew.heap.size w3.drew w4 → Calls Tryz.prog 204 #[.pointer (some ⟨d, 0, none⟩), .string ⟨#[119, 97, 108, 46, 110, 101, 119]⟩, .string nm] w4 fun e w' => e = .returned (.int .i64 ((M3.rename ⟨#[119, 97, 108, 46, 110, 101, 119]⟩ nm).1 : Nat)) ∧ LogS w0 wb w' lb d S G (M3.rename ⟨#[119, 97, 108, 46, 110, 101, 119]⟩ nm).2 L ∧ GKeep G w4 w') := fun w4 hb => (hd.below hb).rename HO3.out (by omega) h9 hsn
        have K1 : Hid (∀ w4, Below w3.drew.heap.size w3.drew w4 → w4.cell? ⟨lb, 0, none⟩ = some (.pointer (some ⟨d, 0, none⟩))) := fun w4 hb => (hd.below hb).cells.1
        clear hd
        generalize M3.rename ⟨#[119, 97, 108, 46, 110, 101, 119]⟩ nm = Z at *
        go_wp2_with fail
        go_region_held3 (fun w' => w'.cell? ⟨lb, 0, none⟩ = some (.pointer (some ⟨d, 0, none⟩)))
          (first | (with_reducible exact s0) | (with_reducible assumption))
          (first
            | (go_at_call 19; (with_reducible refine Calls.mono kn ?_); rintro _ w4 ⟨rfl, hb4⟩; have kc := KC.out w4 hb4; have e4 := K1.out w4 hb4)
            | (go_at_call 204; (with_reducible refine Calls.mono kc ?_); rintro _ w5 ⟨rfl, hL5, -⟩; have e5 := hL5.cells.1))
        go_wp2
        go_ret
        exact ⟨by rw [HB4.out]; rfl, by rw [HB4.out]; exact hL5⟩
      · have HB4 : Hid (R = (se, M3)) := by rw [Hid, HB3.out, if_pos hse]
        have hse' : ((se : Int) != 0) = true := by simpa using hse
        go_wp2
        go_ret
        exact ⟨by rw [HB4.out]; rfl, by rw [HB4.out]; exact HL3.out⟩

    · have HB3 : Hid (R = (ae, M2)) := by rw [Hid, HB2.out, if_pos ⟨HBs.out, hae⟩]
      have hae' : ((ae : Int) != 0) = true := by simpa using hae
      clear HB2
      go_wp2
      go_ret
      exact ⟨by rw [HB3.out]; rfl, by rw [HB3.out]; exact HL2.out⟩
def nextP (M : DM) (L : LogV) : Nat × LogV × DM :=
  if L.last = 999999999 then (0, L, M)
  else if M.readE (nameB11 L.last) ≠ 0 ∨ ((M.readB (nameB11 L.last)).length : Int) ≤ L.seg then (alone11 (M.readE (nameB11 L.last)), L, M)
  else (alone11 (begin11 M (L.last + 1)).1, L.begun (begin11 M (L.last + 1)).1 (L.last + 1), (begin11 M (L.last + 1)).2)
theorem owns_shape {w : World} {B : Nat} {v : Value} {xs : List Int} (h : Owns w B 5 v xs) : ∃ p c, v = .slice p xs.length c := by
  obtain ⟨p, c, hv, _⟩ := h.has
  exact ⟨p, c, hv⟩

set_option maxRecDepth 100000 in
set_option maxHeartbeats 1000000 in
theorem nextW_any {w0 wb w : World} {lb d c : Nat} {S G : Nat → Prop} {M : DM} {L : LogV} (h : LogS w0 wb w lb d S G M L) (h0 : Gl11 w0) (hO : M.OkN c) (hc : c + 2 < 1099511627776) (hn : 1 ≤ L.last ∧ L.last ≤ 999999999) :
    Calls Tryz.prog 152 #[.pointer (some ⟨lb, 0, none⟩)] w fun e w' => e = .returned (.int .i64 ((nextP M L).1 : Nat)) ∧ LogS w0 wb w' lb d S G (nextP M L).2.2 (nextP M L).2.1 := by
  obtain ⟨c0, c1, c8, -⟩ := h.cells
  have hlb := h.lt
  have hd := h.below (on_drew (Below.refl w.heap.size w))
  have HP : Hid (nextP M L = if L.last = 999999999 then (0, L, M) else if M.readE (nameB11 L.last) ≠ 0 ∨ ((M.readB (nameB11 L.last)).length : Int) ≤ L.seg then (alone11 (M.readE (nameB11 L.last)), L, M) else (alone11 (begin11 M (L.last + 1)).1, L.begun (begin11 M (L.last + 1)).1 (L.last + 1), (begin11 M (L.last + 1)).2)) := rfl
  generalize nextP M L = R at *
  by_cases hl9 : L.last = 999999999
  · have HF : Hid (R = (0, L, M)) := by rw [Hid, HP.out, if_pos hl9]
    rw [hl9] at c8
    have HL : Hid (LogS w0 wb w lb d S G M L) := h
    clear HP h hd
    go_enter Tryz.func152, Tryz.ntmps152
    go_wp2
    go_ret
    exact ⟨by rw [HF.out]; rfl, by rw [HF.out]; exact HL.out⟩
  have HP2 : Hid (R = if M.readE (nameB11 L.last) ≠ 0 ∨ ((M.readB (nameB11 L.last)).length : Int) ≤ L.seg then (alone11 (M.readE (nameB11 L.last)), L, M) else (alone11 (begin11 M (L.last + 1)).1, L.begun (begin11 M (L.last + 1)).1 (L.last + 1), (begin11 M (L.last + 1)).2)) := by rw [Hid, HP.out, if_neg hl9]
  have hl9' : (L.last == 999999999) = false := by simpa using hl9
  have s0 : w.drew.cell? ⟨lb, 0, none⟩ = some (.pointer (some ⟨d, 0, none⟩)) ∧ w.drew.cell? ⟨lb, 8, none⟩ = some (.int .i64 L.last) := ⟨c0, c8⟩
  have kn := nameP_any L.last ⟨by omega, by omega⟩ w.drew (hd.gl11 h0)
  have hsn : (nameB11 L.last).size ≤ maxLen := by have := nameB_size L.last; unfold maxLen; omega
  have KC : Hid (∀ w1, Below w.drew.heap.size w.drew w1 → Calls Tryz.prog 157 #[.pointer (some ⟨d, 0, none⟩), .string (nameB11 L.last)] w1 fun e w' => (∃ v, e = .returned (.tuple #[v, .int .i64 (M.readE (nameB11 L.last) : Nat)]) ∧ Owns w' w1.heap.size 5 v (M.readB (nameB11 L.last))) ∧ LogS w0 wb w' lb d S G M L ∧ Below w1.heap.size w1 w') := fun w1 hb => (hd.below hb).read hO.inv hsn
  have K1 : Hid (∀ w1, Below w.drew.heap.size w.drew w1 → w1.cell? ⟨lb, 0, none⟩ = some (.pointer (some ⟨d, 0, none⟩)) ∧ w1.cell? ⟨lb, 8, none⟩ = some (.int .i64 L.last)) := fun w1 hb => ⟨(hd.below hb).cells.1, (hd.below hb).cells.2.2.1⟩
  have KB : Hid (∀ W, LogS w0 wb W lb d S G M L → Calls Tryz.prog 158 #[.pointer (some ⟨lb, 0, none⟩), .int .i64 (L.last + 1)] W fun e w' => e = .returned (.int .i64 ((begin11 M (L.last + 1)).1 : Nat)) ∧ LogS w0 wb w' lb d S G (begin11 M (L.last + 1)).2 (L.begun (begin11 M (L.last + 1)).1 (L.last + 1))) := fun W hW => beginW_any hW h0 hO hc (L.last + 1) ⟨by omega, by omega⟩
  clear HP h hd h0 hO
  generalize nameB11 L.last = nm at *
  generalize begin11 M (L.last + 1) = BG at *
  generalize hre : M.readE nm = re at *
  generalize hrb : M.readB nm = rb at *
  clear hre hrb
  go_enter Tryz.func152, Tryz.ntmps152
  go_wp2_with fail
  go_region_held3 (fun w' => w'.cell? ⟨lb, 0, none⟩ = some (.pointer (some ⟨d, 0, none⟩)) ∧ w'.cell? ⟨lb, 8, none⟩ = some (.int .i64 L.last))
    (first | (with_reducible exact s0) | (with_reducible assumption))
    (first
      | (go_at_call 19; (with_reducible refine Calls.mono kn ?_); rintro _ w1 ⟨rfl, hb1⟩; have kc := KC.out w1 hb1; have e1 := K1.out w1 hb1)
      | (go_at_call 157; (with_reducible refine Calls.mono kc ?_); rintro _ w2 ⟨⟨v, rfl, ho2⟩, hL2, -⟩; obtain ⟨pv, cv, rfl⟩ := owns_shape ho2; have e2 : w2.cell? ⟨lb, 0, none⟩ = some (.pointer (some ⟨d, 0, none⟩)) ∧ w2.cell? ⟨lb, 8, none⟩ = some (.int .i64 L.last) := ⟨hL2.cells.1, hL2.cells.2.2.1⟩))
  have HL2 : Hid (LogS w0 wb w2 lb d S G M L) := hL2
  have d1 := hL2.cells.2.1
  have d8 := hL2.cells.2.2.1
  have hl2 := hL2.lt
  clear kn kc e1 e2 KC K1 s0 hb1 hL2 ho2 c0 c1 c8 hlb
  by_cases hre : re = 0
  · subst hre
    by_cases hle : (rb.length : Int) ≤ L.seg
    · have HF : Hid (R = (alone11 0, L, M)) := by rw [Hid, HP2.out, if_pos (.inr hle)]
      generalize rb.length = rl at *
      have ka := alone_any 0 w2
      go_wp2_with fail
      refine same_mono ka ?_
      go_wp2
      go_ret
      exact ⟨by rw [HF.out]; rfl, by rw [HF.out]; exact HL2.out⟩
    · have HF : Hid (R = (alone11 BG.1, L.begun BG.1 (L.last + 1), BG.2)) := by rw [Hid, HP2.out, if_neg (by intro h; rcases h with h | h; exact h rfl; exact hle h)]
      generalize rb.length = rl at *
      have kb := KB.out w2 HL2.out
      have hw1 : L.last + 1 ≤ 9223372036854775807 := by omega
      have hw0 : -9223372036854775808 ≤ L.last + 1 := by omega
      go_wp2_with fail
      refine kb.mono ?_
      rintro _ w3 ⟨rfl, hL3⟩
      have HL3 : Hid _ := hL3
      have ka := alone_any BG.1 w3
      clear kb hL3 d1 d8
      go_wp2_with fail
      refine same_mono ka ?_
      go_wp2
      go_ret
      exact ⟨by rw [HF.out]; rfl, by rw [HF.out]; exact HL3.out⟩
  · have HF : Hid (R = (alone11 re, L, M)) := by rw [Hid, HP2.out, if_pos (.inl hre)]
    have hre' : ((re : Int) != 0) = true := by simpa using hre
    have ka := alone_any re w2
    go_wp2_with fail
    refine same_mono ka ?_
    go_wp2
    go_ret
    exact ⟨by rw [HF.out]; rfl, by rw [HF.out]; exact HL2.out⟩
end Go.Proofs.YtkbbhllchombdaaGreatDoor

namespace Go.Proofs.YtkbbhllchombdaaGreatDoor
open Go.RowKit Go.Shelf Go.Maps
attribute [local go_sem ↓] ldE_exec stE_exec ldE_execI stE_execI ldE_run ldE_box ldC_exec stC_exec ldC_execI stC_execI ldC_run ldW_exec stW_exec ldW_execI stW_execI ldW_box ldR_exec stR_exec ldR_execI stR_execI ldT_exec stT_exec ldT_execI stT_execI ldT_box stT_box ldU_exec stU_exec ldU_execI stU_execI ldH_exec stH_exec ldH_execI stH_execI ldH_run ldH_box oc_int oc_bool oc_string oc_slice oc_pointer
def bkS (p : Option Addr) (n Bm : Nat) (k : Nat) : Prop := k = Bm ∨ (0 < n ∧ ∃ a, p = some a ∧ a.block = k)
theorem HasI.keepS {S : Nat → Prop} {X Y : World} {p : Option Addr} {n c : Nat} {xs : List Int} (h : HasI X (.slice p n c) xs) (hk : KeepS S X Y) (hS : ∀ a, p = some a → 0 < n → S a.block) : HasI Y (.slice p n c) xs := by
  obtain ⟨q, d, e, h1, h2, h3⟩ := h
  simp only [Value.slice.injEq] at e
  obtain ⟨rfl, rfl, rfl⟩ := e
  refine ⟨_, _, rfl, h1, h2, fun h0 => ?_⟩
  obtain ⟨b, o, rfl, hb, hc⟩ := h3 h0
  have hs := hk.same b (hS _ rfl h0)
  exact ⟨b, o, rfl, Nat.lt_of_lt_of_le hb hk.size, fun i hi => (World.cell?_of_block (a := ⟨b, o + i, none⟩) hs).trans (hc i hi)⟩
theorem backward_any (p : Option Addr) (n c : Nat) (w : World) : Calls Tryz.prog 205 #[.slice p n c] w fun e w' => e = .returned (.func (.func 244) #[] #[.pointer (some ⟨w.heap.size, 0, none⟩)]) ∧ w' = w.alloc (.cells #[.slice p n c] 24) := by
  have hmf : ∀ (fn : Fn) (first cap : Array Value) (w : World), (Instr.makeFunc fn first cap).run Tryz.prog w = .ok (.func fn first cap) w := fun _ _ _ _ => rfl
  go_enter Tryz.func205, Tryz.ntmps205
  go_wp2
  go_ret
  exact ⟨rfl, rfl⟩
def OkK (xs : List Int) (pre : List (Nat × Int)) (x : Nat × Int) : Prop := pre.length < xs.length ∧ x = (xs.length - 1 - pre.length, xs.getD (xs.length - 1 - pre.length) 0)

set_option maxRecDepth 100000 in
set_option maxHeartbeats 400000 in
theorem backward1_seq (p : Option Addr) (c Bm : Nat) (xs : List Int) (w : World) (hv : HasI w (.slice p xs.length c) xs) (hl : xs.length ≤ 1073741824) (hm : Boxed w Bm 24 (.slice p xs.length c)) :
    SeqY Tryz.prog 244 #[] #[.pointer (some ⟨Bm, 0, none⟩)] (fun x : Nat × Int => #[.int .i64 (x.1 : Nat), .int .i64 x.2]) (bkS p xs.length Bm) (fun _ pre x _ => OkK xs pre x) (fun pre => pre.length = xs.length) w := by
  intro l J Jx W hK hJ hJx hY h0
  have hSb : bkS p xs.length Bm Bm := .inl rfl
  have hSp : ∀ a, p = some a → 0 < xs.length → bkS p xs.length Bm a.block := fun a h1 h2 => .inr ⟨h2, a, h1, rfl⟩
  have hvW := hv.keepS hK hSp
  have hmW := hK.box hm hSb
  have hJ0 := h0 W (Below.refl _ _)
  have HSlt : Hid (∀ k, bkS p xs.length Bm k → k < W.heap.size) := fun k hk => by
    rcases hk with rfl | ⟨h1, a, rfl, rfl⟩
    · exact hmW.lt
    · obtain ⟨q, d, e, _, _, h3⟩ := hvW
      simp only [Value.slice.injEq] at e
      obtain ⟨rfl, _, _⟩ := e
      obtain ⟨b, o, e, hb, _⟩ := h3 h1
      cases e
      exact hb
  have hcc : xs.length ≤ c := by
    obtain ⟨q, d, e, h1, _, _⟩ := hv
    simp only [Value.slice.injEq] at e
    obtain ⟨-, -, rfl⟩ := e
    exact h1
  have HV : Hid (HasI W (.slice p xs.length c) xs) := hvW
  have HM : Hid (Boxed W Bm 24 (.slice p xs.length c)) := hmW
  have HSp : Hid _ := hSp
  have HY : Hid _ := hY
  have y0 : W.cell? ⟨Bm, 0, none⟩ = some (.slice p xs.length c) := hmW.cell
  have hlm := hmW.lt
  have Hn : Hid (xs.length = xs.length) := rfl
  generalize hnn : xs.length = n at *
  replace Hn : Hid (xs.length = n) := hnn
  clear hnn
  clear hv hm hK h0 hvW hmW hJx hSp hJ hY
  refine (callsIn_wide (n := 3)).1 ?_
  refine callsIn_of_wp Tryz.func244 rfl trivial ?_ rfl
  simp only [Tryz.ntmps244, List.size_toArray, List.length_cons, List.length_nil, Nat.reduceAdd, Nat.reduceSub, Array.replicate_succ, Array.replicate_zero, List.push_toArray, List.append_toArray, List.nil_append, List.cons_append]
  gi_wp2
  gi_loopw [3] (fun s3 wr => ∃ (pre : List (Nat × Int)) (q : Int), s3 = .int .i64 q ∧ Hid (q = (n : Int) - 1 - (pre.length : Int)) ∧ pre.length ≤ n ∧ W.heap.size ≤ wr.heap.size ∧ Hid (KeepS (bkS p n Bm) W wr) ∧ J W.heap.size pre wr) (fun s3 _ => (intOf s3 + 1).toNat)
  case atStart => exact ⟨[], _, rfl, by simp [Hid], Nat.zero_le _, Nat.le_refl _, KeepS.refl _ _, hJ0⟩
  case round =>
    clear hJ0 y0
    obtain ⟨pre, q, rfl, HQ, hpl, hz, HK, hJr⟩ := hrel
    have hlb : Bm < wr.heap.size := by omega
    have y0 : wr.cell? ⟨Bm, 0, none⟩ = some (.slice p n c) := (HK.out.box HM.out hSb).cell
    by_cases hend : pre.length = n
    · have hneg : ¬ (0 : Int) ≤ q := by have := HQ.out; omega
      gi_wp2
      refine bodyPost_end (results_none rfl _ _ _) rfl ?_
      exact ⟨⟨_, rfl⟩, W.heap.size, Nat.le_refl _, pre, .inl ⟨hend, hJr⟩⟩
    · obtain ⟨i, hi⟩ : ∃ i : Nat, n - 1 - pre.length = i := ⟨_, rfl⟩
      obtain rfl : q = (i : Int) := by have := HQ.out; omega
      have hvr := HV.out.keepS HK.out HSp.out
      have hin : i < n := by omega
      obtain ⟨g, o, hp, hg, hc⟩ := hvr.at hin
      have HR := HY.out W.heap.size pre (i, xs.getD i 0) wr (Nat.le_refl _) hz ⟨by rw [Hn.out]; omega, by rw [Hn.out, hi]⟩ hJr
      obtain ⟨fn, tmps, assign, body, hy, hR⟩ := YieldAt.wide (m' := 2) HR
      dsimp only at hy
      rw [hp] at y0
      clear HR hvr hi hend hp
      generalize xs.getD i 0 = z at *
      gi_wp2
      refine hR.mono ?_
      clear hR hy
      rintro e Z ⟨bb, rfl, hk1, hk2, hb⟩
      have hzZ := hk1.size
      have HKZ : Hid (KeepS (bkS p n Bm) W Z) := HK.out.trans hk1
      clear hk1 hk2
      cases bb with
      | true =>
        rw [if_pos rfl] at hb
        gi_wp2
        go_roundw
        case rel => exact ⟨pre ++ [(i, z)], _, rfl, by rw [Hid, List.length_append, List.length_singleton]; have := HQ.out; omega, by rw [List.length_append, List.length_singleton]; have := HQ.out; omega, by omega, HKZ, hb⟩
        case measure => simp only [intOf]; omega
      | false =>
        rw [if_neg (by simp)] at hb
        gi_wp2
        refine bodyPost_ret (results_none rfl _ _ _) rfl ?_
        exact ⟨⟨_, rfl⟩, W.heap.size, _, Nat.le_refl _, .inr hb⟩
theorem Log11.same {w0 X Y : World} {lb d : Nat} {S G : Nat → Prop} {M : DM} {L : LogV} (h : Log11 w0 X lb d S G M L) (hz : X.heap.size ≤ Y.heap.size) (hs : ∀ k, k < X.heap.size → S k ∨ G k → Y.heap[k]? = X.heap[k]?) (hb : Below w0.heap.size w0 Y) : Log11 w0 Y lb d S G M L := by
  have hst : ∀ t, Stay G t X Y := fun t => ⟨hz, fun b a fr hg hb => (hs b (box_lt hb) (.inr hg)).trans hb⟩
  exact ⟨⟨h.disk.at8.same fun k hk hks => hs k hk (.inl hks), fun k hk => ⟨(h.disk.own k hk).1, Nat.lt_of_lt_of_le (h.disk.own k hk).2 hz⟩, hb⟩, h.box.same (hs lb h.box.lt (.inr h.gl)), h.sta.stay (hst _) (hst _), h.gl, h.apart, fun k hk => ⟨(h.own k hk).1, Nat.lt_of_lt_of_le (h.own k hk).2 hz⟩, h.seg, h.last⟩
theorem load_errno (k : Nat) (v : Value) (W : World) (h : W.cell? ⟨k, 0, none⟩ = some v) : (loadVar 76 ⟨k, 0, none⟩).run Tryz.prog W = .ok v W := by
  simp [loadVar, go_sem, h]
theorem results_cell11 {fn : Func} {p : Tmp} {ty : TypeId} (h : fn.results = #[.cell p ty]) (tmps : Array Value) (P : Program) (w : World) (a : Addr) (v : Value) (hp : tmps.getD p undef = .pointer (some a)) (hl : (loadVar ty a).run P w = .ok v w) : (results fn tmps).run P w = .ok v w := by
  have hp' : tmps[p]?.getD undef = .pointer (some a) := by simpa using hp
  simp [results, h, hp', asAddr, hl]
structure LogI (w0 wb X : World) (lb d : Nat) (S G : Nat → Prop) (M : DM) (L : LogV) (A B : Nat) : Prop where
  ex : ∃ S', Log11 w0 X lb d S' G M L ∧ Turn (fun k => S k ∨ k = lb) wb X ∧ (∀ k, S' k → S k ∨ wb.heap.size ≤ k) ∧ ∀ k, S' k ∨ G k → k < A ∨ B ≤ k
section
variable {w0 wb X Y : World} {lb d A B : Nat} {S G : Nat → Prop} {M : DM} {L : LogV}
theorem LogI.log (h : LogI w0 wb X lb d S G M L A B) : LogS w0 wb X lb d S G M L := by
  obtain ⟨S', h1, h2, h3, _⟩ := h.ex
  exact ⟨⟨S', h1, h2, h3⟩⟩
theorem LogI.outside {A' : Nat} (h : LogI w0 wb X lb d S G M L A B) (ho : OutsideW A' B X Y) (hAA : A ≤ A') (hA : w0.heap.size ≤ A') (hwb : wb.heap.size ≤ A') : LogI w0 wb Y lb d S G M L A B := by
  obtain ⟨S', h1, h2, h3, h4⟩ := h.ex
  refine ⟨S', h1.same ho.size (fun k hk hs => ho.same hk ((h4 k hs).imp_left fun h => Nat.lt_of_lt_of_le h hAA)) (h1.disk.bel.trans (ho.below hA h1.disk.bel.size)), ?_, h3, h4⟩
  exact ⟨ho.os.trans h2.os, ho.tape.trans h2.tape, ho.output.trans h2.output, Nat.le_trans h2.size ho.size, fun k hk hn => (ho.same (Nat.lt_of_lt_of_le hk h2.size) (.inl (by omega))).trans (h2.block k hk hn)⟩
theorem LogI.remove (h : LogI w0 wb X lb d S G M L A B) {c : Nat} (hO : M.OkN c) (hc : c < 1099511627776) {x : ByteArray} (hs : x.size ≤ maxLen) (hB : B ≤ X.heap.size) :
    Calls Tryz.prog 206 #[.pointer (some ⟨d, 0, none⟩), .string x] X fun e w' => e = .returned (.int .i64 ((M.remove x).1 : Nat)) ∧ LogI w0 wb w' lb d S G (M.remove x).2 L A B ∧ (∀ k, k < X.heap.size → ¬ (k < A ∧ w0.heap.size ≤ k ∧ ¬ G k) → True) ∧ X.heap.size ≤ w'.heap.size ∧ ∀ k, k < X.heap.size → (A ≤ k ∧ k < B ∨ G k) → w'.heap[k]? = X.heap[k]? := by
  obtain ⟨S', h1, h2, h3, h4⟩ := h.ex
  refine (h1.disk.remove hO hc hs).mono ?_
  rintro e w' ⟨ha, hd, ht⟩
  refine ⟨ha, ⟨more8 S' X w', h1.disk_op hd ht, h2.wide ht fun k hk => (h3 k hk).imp .inl id, fun k hk => ?_, fun k hk => ?_⟩, fun _ _ _ => trivial, ht.size, fun k hk hn => ht.block k hk fun hs => ?_⟩
  · rcases hk with hk | ⟨h5, _⟩
    · exact h3 k hk
    · have := h2.size
      exact .inr (by omega)
  · rcases hk with (hk | ⟨h5, _⟩) | hk
    · exact h4 k (.inl hk)
    · exact .inr (by omega)
    · exact h4 k (.inr hk)
  · rcases hn with hn | hn
    · have := h4 k (.inl hs)
      omega
    · exact h1.apart k hn hs
end
theorem LogI.setOther {w0 wb X : World} {lb d A B k : Nat} {S G : Nat → Prop} {M : DM} {L : LogV} (h : LogI w0 wb X lb d S G M L A B) (hk : A ≤ k ∧ k < B) (hA : w0.heap.size ≤ A) (hwb : wb.heap.size ≤ A) (i : Nat) (v : Value) : LogI w0 wb (X.setCell ⟨k, i, none⟩ v) lb d S G M L A B := by
  obtain ⟨S', h1, h2, h3, h4⟩ := h.ex
  have ht : Turn (fun j => j = k) X (X.setCell ⟨k, i, none⟩ v) := (Turn.refl (fun j => j = k) X).setCell (p := ⟨k, i, none⟩) (.inl rfl) _
  refine ⟨S', h1.same ht.size (fun j hj hs => ht.block j hj fun e => ?_) (h1.disk.bel.setCell (p := ⟨k, i, none⟩) (by show w0.heap.size ≤ k; omega) _), h2.wide ht fun j hj => .inr ?_, h3, h4⟩
  · have := h4 j hs
    omega
  · rw [hj]; omega
theorem drop11_cons (n a : Int) (l : List Int) (M : DM) : drop11 n M (a :: l) = if a = n then drop11 n M l else if (M.remove (nameB11 a)).1 = 9 then (9, (M.remove (nameB11 a)).2) else drop11 n (M.remove (nameB11 a)).2 l := rfl
theorem segs_in {l : List ByteArray} {a : Int} (h : a ∈ segs11 l) : 1 ≤ a ∧ a ≤ 999999999 := by
  have hp := (segs_fold l [] List.Pairwise.nil).2
  have h2 := hp.subset h
  rw [List.append_nil] at h2
  unfold numsL at h2
  obtain ⟨x, hx, rfl⟩ := List.mem_map.1 h2
  have := num_ok (x := x) (by simpa using (List.mem_filter.1 hx).2)
  exact ⟨this.1, this.2.1⟩
theorem drop_app (n : Int) : ∀ (l m : List Int) (M : DM), drop11 n M (l ++ m) = if (drop11 n M l).1 = 9 then drop11 n M l else drop11 n (drop11 n M l).2 m
  | [], m, M => by rw [List.nil_append]; exact (if_neg (by show ¬ (0 = 9); decide)).symm
  | a :: l, m, M => by
    rw [List.cons_append, drop11_cons n a (l ++ m) M, drop11_cons n a l M]
    split
    · exact drop_app n l m M
    · split
      · rw [if_pos rfl]
      · exact drop_app n l m _
theorem drop_one (n a : Int) (M : DM) : drop11 n M [a] = if a = n then (0, M) else if (M.remove (nameB11 a)).1 = 9 then (9, (M.remove (nameB11 a)).2) else (0, (M.remove (nameB11 a)).2) := by
  unfold drop11
  split
  · rfl
  · split <;> rfl

set_option maxRecDepth 100000 in
set_option maxHeartbeats 400000 in
theorem removeW_any {w0 wb w : World} {lb d c : Nat} {S G : Nat → Prop} {M : DM} {L : LogV} (h : LogS w0 wb w lb d S G M L) (h0 : Gl11 w0) (hO : M.OkN c) (hc : c + 16777216 < 1099511627776) :
    Calls Tryz.prog 155 #[.pointer (some ⟨lb, 0, none⟩)] w fun e w' => e = .returned (.int .i64 ((drop11 L.last M (segs11 M.listT).reverse).1 : Nat)) ∧ LogS w0 wb w' lb d S G (drop11 L.last M (segs11 M.listT).reverse).2 L := by
  generalize hs : w.heap.size = s at *
  have h1 := Boxed.new w 72 (.pointer (some ⟨lb, 0, none⟩))
  have h2 := Boxed.new (w.alloc (.cells #[.pointer (some ⟨lb, 0, none⟩)] 72)) 76 (.int .i64 0)
  have hz2 : ((w.alloc (.cells #[.pointer (some ⟨lb, 0, none⟩)] 72)).alloc (.cells #[.int .i64 0] 76)).heap.size = s + 2 := by simp; omega
  have hB2 : Below s w ((w.alloc (.cells #[.pointer (some ⟨lb, 0, none⟩)] 72)).alloc (.cells #[.int .i64 0] 76)) := ((Below.refl _ w).alloc (by omega) _).alloc (by simp; omega) _
  rw [hs] at h1
  rw [World.size_alloc, hs] at h2
  replace h1 := h1.alloc (.cells #[.int .i64 0] 76)
  have hL2 := h.below (by rw [hs]; exact hB2)
  have kn : Calls Tryz.prog 86 #[.pointer (some ⟨lb, 0, none⟩)] ((w.alloc (.cells #[.pointer (some ⟨lb, 0, none⟩)] 72)).alloc (.cells #[.int .i64 0] 76)) fun e w' => (∃ p n c, e = .returned (.slice p n c) ∧ OwnsI w' ((w.alloc (.cells #[.pointer (some ⟨lb, 0, none⟩)] 72)).alloc (.cells #[.int .i64 0] 76)).heap.size (.slice p n c) (segs11 M.listT)) ∧ Below ((w.alloc (.cells #[.pointer (some ⟨lb, 0, none⟩)] 72)).alloc (.cells #[.int .i64 0] 76)).heap.size ((w.alloc (.cells #[.pointer (some ⟨lb, 0, none⟩)] 72)).alloc (.cells #[.int .i64 0] 76)) w' := by
    obtain ⟨S', h3, _⟩ := hL2.ex
    exact numbers_any h3 h0 hO.inv
  have y1 := h1.cell
  refine (callsIn_wide (n := 9)).1 ?_
  refine callsIn_of_wp_marks Tryz.func155 rfl trivial ?_ rfl
  simp only [Tryz.ntmps155, List.size_toArray, List.length_cons, List.length_nil, Nat.reduceAdd, Nat.reduceSub, Array.replicate_succ, Array.replicate_zero, List.push_toArray, List.append_toArray, List.nil_append, List.cons_append]
  gi_wp2_with fail
  refine ⟨trivial, (callsIn_wide.2 kn).mono ?_⟩
  rintro e w1 ⟨⟨p, n, q, rfl, ho1⟩, hb1⟩
  rw [hz2] at hb1 ho1
  have hnn : n = (segs11 M.listT).length := by
    obtain ⟨p', c', hv, _⟩ := ho1.has
    simp only [Value.slice.injEq] at hv
    exact hv.2.1
  subst hnn
  have kb := backward_any p (segs11 M.listT).length q w1
  gi_wp2_with fail
  refine ⟨trivial, (callsIn_wide.2 kb).mono ?_⟩
  rintro e X3 ⟨rfl, hX3⟩
  have hz1 := hb1.size
  rw [hz2] at hz1
  have hm3 := Boxed.new w1 24 (.slice p (segs11 M.listT).length q)
  rw [← hX3] at hm3
  have hb3 : Below w1.heap.size w1 X3 := by rw [hX3]; exact (Below.refl _ _).alloc (Nat.le_refl _) _
  have hz3 : X3.heap.size = w1.heap.size + 1 := by rw [hX3]; simp
  have hB3 : Below s w X3 := hB2.trans ((hb1.trans (hb3.mono hz1)).mono (by omega))
  have d1 : Boxed X3 s 72 (.pointer (some ⟨lb, 0, none⟩)) := (hb3.block _ (by omega)).trans ((hb1.block _ (by omega)).trans h1)
  have d2 : Boxed X3 (s + 1) 76 (.int .i64 0) := (hb3.block _ (by omega)).trans ((hb1.block _ (by omega)).trans h2)
  have hv3 : HasI X3 (.slice p (segs11 M.listT).length q) (segs11 M.listT) := ho1.has.below hb3 (Nat.le_refl _)
  have hpb : Hid (∀ a : Addr, p = some a → 0 < (segs11 M.listT).length → s + 2 ≤ a.block ∧ a.block < w1.heap.size) := fun a ha h9 => by
    rcases ho1.2 with ⟨hv, hn⟩ | ⟨g, cap, cur, hv, hB, hg, _⟩
    · omega
    · simp only [Value.slice.injEq] at hv
      rw [ha] at hv
      obtain ⟨hv, -⟩ := hv
      cases hv
      exact ⟨hB, box_lt hg⟩
  have hsl : (segs11 M.listT).length ≤ 16777216 := by
    have hp := (segs_fold M.listT [] List.Pairwise.nil).2.length_eq
    obtain ⟨S', h3, _⟩ := h.ex
    obtain ⟨_, _, _, _, _, _, _, hn⟩ := h3.disk.at8.open8 hO.inv
    have hl2 : M.listT.length ≤ 16777216 := by
      unfold DM.listT
      split
      · exact Nat.zero_le _
      · exact hn
    have hl3 : (numsL M.listT).length ≤ M.listT.length := by
      unfold numsL
      rw [List.length_map]
      exact List.length_filter_le _ _
    show (M.listT.foldl _ []).length ≤ _
    rw [hp, List.append_nil]
    omega
  have hseq := backward1_seq p q w1.heap.size (segs11 M.listT) X3 hv3 (by omega) hm3
  have HIn : Hid (∀ a ∈ segs11 M.listT, 1 ≤ a ∧ a ≤ 999999999) := fun a ha => segs_in ha
  have HLog : Hid (LogS w0 wb w lb d S G M L) := h
  have HG0 : Hid (Gl11 w0) := h0
  have HO0 : Hid (M.OkN c) := hO
  have HSeq : Hid _ := hseq
  have hsz0 : w0.heap.size ≤ s ∧ wb.heap.size ≤ s := by
    obtain ⟨S', h3, h4, _⟩ := h.ex
    have := h3.disk.bel.size
    have := h4.size
    omega
  clear hX3 hB2 hb1 hb3 hz2 kn kb h1 h2 hm3 hv3 hseq h h0 hO y1 hL2 ho1
  generalize hbm : w1.heap.size = bm at *
  clear hbm
  generalize hsg : segs11 M.listT = sg at *
  have HSG : Hid (segs11 M.listT = sg) := hsg
  clear hsg
  have hlt : ∀ k, bkS p sg.length bm k → k < X3.heap.size := fun k hk => by
    rcases hk with rfl | ⟨h9, a, ha, rfl⟩
    · omega
    · have := (hpb.out a ha h9).2
      omega
  have hin : ∀ k, bkS p sg.length bm k → s + 2 ≤ k ∧ k < bm + 1 := fun k hk => by
    rcases hk with rfl | ⟨h9, a, ha, rfl⟩
    · omega
    · have := hpb.out a ha h9
      omega
  have HIn2 : Hid _ := hin
  clear hin
  gi_wp2
  refine range_seqY (m := 7) (gf := 244) (fb := #[]) (lb := #[.pointer (some ⟨bm, 0, none⟩)]) rfl (enters_of Tryz.func244 (by kernel_rfl) rfl) HSeq.out hlt (fun _ => rfl)
    (fun B pre X => Hid (LogI w0 wb X lb d S G (drop11 L.last M (pre.map Prod.snd)).2 L s B) ∧ Hid ((drop11 L.last M (pre.map Prod.snd)).1 = 0 ∧ (drop11 L.last M (pre.map Prod.snd)).2.OkN (c + pre.length) ∧ pre.map Prod.snd = sg.reverse.take pre.length ∧ pre.length ≤ sg.length) ∧ Boxed X s 72 (.pointer (some ⟨lb, 0, none⟩)) ∧ Boxed X (s + 1) 76 (.int .i64 0) ∧ bm + 1 ≤ X.heap.size)
    (fun B cd pre X => cd = .ret ∧ Hid (LogI w0 wb X lb d S G (drop11 L.last M (pre.map Prod.snd)).2 L s B) ∧ Hid ((drop11 L.last M (pre.map Prod.snd)).1 = 9 ∧ pre.map Prod.snd = sg.reverse.take pre.length) ∧ Boxed X (s + 1) 76 (.int .i64 9) ∧ bm + 1 ≤ X.heap.size) ?hI ?hIx ?h0
    (fun B pre x a' X => a' = { tmps := #[.pointer (some ⟨lb, 0, none⟩), .pointer (some ⟨s, 0, none⟩), .pointer (some ⟨s + 1, 0, none⟩), undef, .int .i64 x.2, undef, .pointer (some ⟨lb, 0, none⟩), .slice p sg.length q, .func (.func 244) #[] #[.pointer (some ⟨bm, 0, none⟩)], .int .i64 (x.1 : Nat), .int .i64 x.2, undef, undef, undef, undef, undef, undef, undef, undef, undef, undef, undef, undef, undef, undef, undef, undef, undef], defers := [] }) ?hOk ?hAx ?hassign ?hbody ?done ?stop
  case hI =>
    rintro B pre X Y hB ⟨i1, i2, i3, i4, i5⟩ ho
    rw [hz3] at ho hB
    exact ⟨i1.out.outside ho (by omega) (by omega) (by omega), i2, ho.block _ _ i3 (.inl (by omega)), ho.block _ _ i4 (.inl (by omega)), Nat.le_trans i5 ho.size⟩
  case hIx =>
    rintro B cd pre X Y hB ⟨i0, i1, i2, i4, i5⟩ ho
    rw [hz3] at ho hB
    exact ⟨i0, i1.out.outside ho (by omega) (by omega) (by omega), i2, ho.block _ _ i4 (.inl (by omega)), Nat.le_trans i5 ho.size⟩
  case h0 =>
    intro X hX hX2
    obtain ⟨S', h3, h4, h5⟩ := HLog.out.ex
    have hBX : Below s w X := hB3.trans (hX.mono (by omega))
    have hBX' : Below w.heap.size w X := by rw [hs]; exact hBX
    refine ⟨⟨S', h3.below hBX', h4.trans (Turn.of_below hBX' (Nat.le_refl _)), h5, fun k hk => .inl ?_⟩, ⟨rfl, HO0.out, by simp, Nat.zero_le _⟩, (hX.block _ (by omega)).trans d1, (hX.block _ (by omega)).trans d2, by omega⟩
    rw [← hs]
    rcases hk with hk | hk
    · exact (h3.disk.own k hk).2
    · exact (h3.own k hk).2
  case hOk => exact fun _ _ _ _ _ _ h _ => h
  case hAx => exact fun _ _ _ _ _ _ _ h _ => h
  case hassign =>
    rintro l B pre x X K hB hBX hok hK
    have hsem := @Oper.semAt_some l
    have HK : Hid _ := hK
    clear hK
    gi_wp2
    exact HK.out _ _ (Below.refl _ _) rfl
  case hbody =>
    rintro l B pre ⟨xi, xa⟩ a' X hB hBX ⟨ok1, ok2⟩ ⟨i1, i2, i3, i4, i5⟩ rfl
    have hsem := @Oper.semAt_some l
    simp only [Prod.mk.injEq] at ok2
    obtain ⟨-, okx⟩ := ok2
    obtain ⟨j1, j2, j3, j4⟩ := i2.out
    have hmem : xa ∈ sg := by
      rw [okx, List.getD_eq_getElem?_getD, List.getElem?_eq_getElem (by omega)]
      exact List.getElem_mem _
    obtain ⟨ha1, ha2⟩ := HIn.out xa hmem
    have HPre : Hid ((pre ++ [(xi, xa)]).map Prod.snd = sg.reverse.take (pre ++ [(xi, xa)]).length) := by
      rw [Hid, List.map_append, j3, List.length_append, List.length_singleton, List.take_add_one, List.getElem?_eq_getElem (by rw [List.length_reverse]; exact ok1)]
      simp only [List.map_cons, List.map_nil, Option.toList_some]
      rw [List.getElem_reverse, okx, List.getD_eq_getElem?_getD, List.getElem?_eq_getElem (by omega)]
      rfl
    have HLen : Hid ((pre ++ [(xi, xa)]).length ≤ sg.length) := by rw [Hid, List.length_append, List.length_singleton]; exact ok1
    have HD : Hid (drop11 L.last M ((pre ++ [(xi, xa)]).map Prod.snd) = if xa = L.last then (0, (drop11 L.last M (pre.map Prod.snd)).2) else if ((drop11 L.last M (pre.map Prod.snd)).2.remove (nameB11 xa)).1 = 9 then (9, ((drop11 L.last M (pre.map Prod.snd)).2.remove (nameB11 xa)).2) else (0, ((drop11 L.last M (pre.map Prod.snd)).2.remove (nameB11 xa)).2)) := by
      rw [Hid, List.map_append, drop_app, if_neg (by rw [j1]; decide)]
      exact drop_one _ _ _
    have hO := j2
    have HLI := i1
    have y1 := i3.cell
    obtain ⟨c0, -, c8, -⟩ := i1.out.log.cells
    have hlb := i1.out.log.lt
    have hls := i3.lt
    have HI3 : Hid (Boxed X s 72 (.pointer (some ⟨lb, 0, none⟩))) := i3
    have HI4 : Hid (Boxed X (s + 1) 76 (.int .i64 0)) := i4
    have HGl : Hid (∀ Y, Below X.heap.size X Y → Gl11 Y) := fun Y hY => (i1.out.log.below hY).gl11 HG0.out
    have hlB : pre.length < 16777216 := by omega
    rw [hz3] at hB
    clear j1 j2 j3 j4 i1 i2 i3 i4 okx hmem ok1
    generalize (drop11 L.last M (pre.map Prod.snd)).2 = Mx at *
    by_cases hxl : xa = L.last
    · have hx' : (xa == L.last) = true := by simpa using hxl
      have HD2 : Hid (drop11 L.last M ((pre ++ [(xi, xa)]).map Prod.snd) = (0, Mx)) := by rw [Hid, HD.out, if_pos hxl]
      clear HD
      gi_wp2
      refine ⟨KeepS.refl _ _, Keeps.refl _ _ _, ?_, ?_, HI3.out, HI4.out, i5⟩
      · rw [HD2.out]; exact HLI
      · rw [HD2.out]; exact ⟨rfl, hO.mono (by rw [List.length_append]; omega), HPre.out, HLen.out⟩
    · have hx' : (xa == L.last) = false := by simpa using hxl
      have HD2 : Hid (drop11 L.last M ((pre ++ [(xi, xa)]).map Prod.snd) = if (Mx.remove (nameB11 xa)).1 = 9 then (9, (Mx.remove (nameB11 xa)).2) else (0, (Mx.remove (nameB11 xa)).2)) := by rw [Hid, HD.out, if_neg hxl]
      have HO2 : Hid ((Mx.remove (nameB11 xa)).2.OkN (c + pre.length + 1)) := hO.remove _
      have hsn : (nameB11 xa).size ≤ maxLen := by have := nameB_size xa; unfold maxLen; omega
      have KN : Hid (∀ Y, Below X.heap.size X Y → Calls Tryz.prog 19 #[.int .i64 xa] Y fun e w' => e = .returned (.string (nameB11 xa)) ∧ Below Y.heap.size Y w') := fun Y hY => nameP_any xa ⟨by omega, by omega⟩ Y (HGl.out Y hY)
      have KR : Hid (∀ Y, Below X.heap.size X Y → Calls Tryz.prog 206 #[.pointer (some ⟨d, 0, none⟩), .string (nameB11 xa)] Y fun e w' => e = .returned (.int .i64 ((Mx.remove (nameB11 xa)).1 : Nat)) ∧ Hid (LogI w0 wb w' lb d S G (Mx.remove (nameB11 xa)).2 L s B ∧ X.heap.size ≤ w'.heap.size ∧ ∀ k, k < X.heap.size → (s ≤ k ∧ k < B ∨ G k) → w'.heap[k]? = X.heap[k]?)) := fun Y hY => by
        have hLY : LogI w0 wb Y lb d S G Mx L s B := HLI.out.outside (A' := bm + 1) (.of_below hY) (by omega) (by omega) (by omega)
        refine (hLY.remove hO (by omega) hsn (Nat.le_trans hBX hY.size)).mono ?_
        rintro e w' ⟨r1, r2, -, r3, r4⟩
        exact ⟨r1, r2, Nat.le_trans hY.size r3, fun k hk hn => (r4 k (Nat.lt_of_lt_of_le hk hY.size) hn).trans (hY.block k hk)⟩
      have K1 : Hid (∀ Y, Below X.heap.size X Y → Y.cell? ⟨s, 0, none⟩ = some (.pointer (some ⟨lb, 0, none⟩)) ∧ Y.cell? ⟨lb, 0, none⟩ = some (.pointer (some ⟨d, 0, none⟩)) ∧ s < Y.heap.size ∧ lb < Y.heap.size) := fun Y hY => ⟨(hY.cell (p := ⟨s, 0, none⟩) hls).trans y1, (hY.cell (p := ⟨lb, 0, none⟩) hlb).trans c0, Nat.lt_of_lt_of_le hls hY.size, Nat.lt_of_lt_of_le hlb hY.size⟩
      clear HD hO hsn HLI HGl
      generalize Mx.remove (nameB11 xa) = Y0 at *
      obtain ⟨re, My⟩ := Y0
      dsimp only at HD2 HO2 KR
      generalize nameB11 xa = nm at *
      gi_wp2_with fail
      refine wpIn_mono (Q := fun e a Y => e = .normal ∧ a = { tmps := #[.pointer (some ⟨lb, 0, none⟩), .pointer (some ⟨s, 0, none⟩), .pointer (some ⟨s + 1, 0, none⟩), undef, .int .i64 xa, .int .i64 (alone11 re : Nat), .pointer (some ⟨lb, 0, none⟩), .slice p sg.length q, .func (.func 244) #[] #[.pointer (some ⟨bm, 0, none⟩)], .int .i64 (xi : Nat), .int .i64 xa, .int .i64 xa, .pointer (some ⟨lb, 0, none⟩), .pointer (some ⟨lb, 0, none⟩), .pointer (some ⟨lb, 8, none⟩), .int .i64 L.last, .bool false, .pointer (some ⟨lb, 0, none⟩), .pointer (some ⟨lb, 0, none⟩), .pointer (some ⟨lb, 0, none⟩), .pointer (some ⟨d, 0, none⟩), .int .i64 xa, .string nm, .int .i64 (re : Nat), .int .i64 (alone11 re : Nat), undef, undef, undef], defers := [] } ∧ Hid (LogI w0 wb Y lb d S G My L s B ∧ X.heap.size ≤ Y.heap.size ∧ ∀ k, k < X.heap.size → (s ≤ k ∧ k < B ∨ G k) → Y.heap[k]? = X.heap[k]?)) ?_ ?_
      · have hmix : Tryz.prog.follows Departure.mixedOrders = true := by kernel_rfl
        gi_region_with_o (first
          | (refine ⟨trivial, ?_⟩; gi_at_call 19; refine (CallsIn.inRound l (callsIn_wide.2 (KN.out _ (by first | exact Below.refl _ _ | exact on_drew (Below.refl _ _))))).mono ?_; rintro e Y1 ⟨rfl, hb1⟩; have kk := K1.out Y1 (by first | exact hb1 | exact (on_drew (Below.refl X.heap.size X)).trans hb1); obtain ⟨k1, k2, k3, k4⟩ := kk)
          | (refine ⟨trivial, ?_⟩; gi_at_call 206; refine (CallsIn.inRound l (callsIn_wide.2 (KR.out _ (by first | exact hb1 | exact (on_drew (Below.refl X.heap.size X)).trans hb1)))).mono ?_; rintro e Y2 ⟨rfl, hL2⟩; have ka := alone_any re Y2)
          | (refine ⟨trivial, ?_⟩; gi_at_call 203; refine (CallsIn.inRound l (callsIn_wide.2 ka)).mono ?_; rintro e w' ⟨rfl, rfl⟩))
        all_goals exact ⟨rfl, rfl, hL2⟩
      · rintro e a Y ⟨rfl, rfl, hY⟩
        have hsz := hY.out.2.1
        have d2Y : Boxed Y (s + 1) 76 (.int .i64 0) := (hY.out.2.2 _ (by omega) (.inl (by omega))).trans HI4.out
        have c2 := d2Y.cell
        have f2 := d2Y.frozen
        have hl2 := d2Y.lt
        clear KN KR K1 y1 c0 c8
        by_cases hre : re = 9
        · have hal : alone11 re = 9 := if_pos hre
          have HD3 : Hid (drop11 L.last M ((pre ++ [(xi, xa)]).map Prod.snd) = (9, My)) := by rw [Hid, HD2.out, if_pos hre]
          have HB2 : Hid (Boxed (Y.setCell ⟨s + 1, 0, none⟩ (.int .i64 9)) (s + 1) 76 (.int .i64 9)) := d2Y.set _
          rw [hal]
          clear HD2 hal d2Y
          gi_wp2
          refine ⟨⟨?_, fun k hk => ?_⟩, ⟨?_, fun k a1 a2 => ?_⟩, rfl, ?_, ?_, HB2.out, ?_⟩
          · have := (KeepsWalks.setCell Y ⟨s + 1, 0, none⟩ (.int .i64 9)).size
            omega
          · have := HIn2.out k hk
            exact (Below.heap_setCell _ _ _ _ (by show k ≠ s + 1; omega)).trans (hY.out.2.2 k (by omega) (.inl (by omega)))
          · have := (KeepsWalks.setCell Y ⟨s + 1, 0, none⟩ (.int .i64 9)).size
            omega
          · exact (Below.heap_setCell _ _ _ _ (by show k ≠ s + 1; omega)).trans (hY.out.2.2 k (by omega) (.inl (by omega)))
          · rw [HD3.out]
            exact hY.out.1.setOther (by omega) (by omega) (by omega) _ _
          · rw [HD3.out]
            exact ⟨rfl, HPre.out⟩
          · have := (KeepsWalks.setCell Y ⟨s + 1, 0, none⟩ (.int .i64 9)).size
            omega
        · have hal : alone11 re = 0 := if_neg hre
          have HD3 : Hid (drop11 L.last M ((pre ++ [(xi, xa)]).map Prod.snd) = (0, My)) := by rw [Hid, HD2.out, if_neg hre]
          have HB1 : Hid (Boxed Y s 72 (.pointer (some ⟨lb, 0, none⟩))) := (hY.out.2.2 _ (by omega) (.inl (by omega))).trans HI3.out
          have HB2 : Hid (Boxed Y (s + 1) 76 (.int .i64 0)) := d2Y
          rw [hal]
          clear HD2 hal d2Y
          gi_wp2
          refine ⟨⟨hsz, fun k hk => ?_⟩, ⟨hsz, fun k a1 a2 => ?_⟩, ?_, ?_, HB1.out, HB2.out, by omega⟩
          · have := HIn2.out k hk
            exact hY.out.2.2 k (by omega) (.inl (by omega))
          · exact hY.out.2.2 k (by omega) (.inl (by omega))
          · rw [HD3.out]
            exact hY.out.1
          · rw [HD3.out]
            exact ⟨rfl, HO2.out.mono (by rw [List.length_append, List.length_singleton]; omega), HPre.out, HLen.out⟩
  case done =>
    rintro B pre X hB hF ⟨i1, i2, i3, i4, i5⟩ hD
    rw [hz3] at hD hB ⊢
    have c2 := i4.cell
    have f2 := i4.frozen
    have hl2 := i4.lt
    obtain ⟨j1, -, j3, -⟩ := i2.out
    have HFin : Hid (drop11 L.last M sg.reverse = drop11 L.last M (pre.map Prod.snd)) := by
      rw [Hid, j3, hF, List.take_of_length_le (by simp)]
    have HZ : Hid ((drop11 L.last M (pre.map Prod.snd)).1 = 0) := j1
    have HLX : Hid (LogI w0 wb X lb d S G (drop11 L.last M (pre.map Prod.snd)).2 L s B) := i1
    have HB2 : Hid (Boxed (X.setCell ⟨s + 1, 0, none⟩ (.int .i64 0)) (s + 1) 76 (.int .i64 0)) := i4.set _
    have hD2 : (X.setCell ⟨s + 1, 0, none⟩ (.int .i64 0)).heap[bm + 1]? = some (.deferred (some [])) := (Below.heap_setCell _ _ _ _ (by show bm + 1 ≠ s + 1; omega)).trans hD
    clear i1 i2 i3 i4 j1 j3 hD HSeq HIn2 HIn hF
    gi_wp2
    refine ⟨by simp, .inl ⟨_, _, rfl, run_takeDeferred hD2, ?_⟩⟩
    have hP : OutsideW (bm + 1) B (X.setCell ⟨s + 1, 0, none⟩ (.int .i64 0)) ((X.setCell ⟨s + 1, 0, none⟩ (.int .i64 0)).putObj (bm + 1) (.deferred none)) := OutsideW.putObj _ ⟨by omega, by omega⟩ hD2
    have hL9 := (HLX.out.setOther (k := s + 1) (by omega) (by omega) (by omega) 0 (.int .i64 0)).outside hP (by omega) (by omega) (by omega)
    have hc9 : ((X.setCell ⟨s + 1, 0, none⟩ (.int .i64 0)).putObj (bm + 1) (.deferred none)).cell? ⟨s + 1, 0, none⟩ = some (.int .i64 0) := Boxed.cell (hP.block _ _ HB2.out (.inl (by omega)))
    refine ⟨_, results_cell11 rfl _ _ _ ⟨s + 1, 0, none⟩ _ rfl (load_errno _ _ _ hc9), ?_, ?_⟩
    · rw [HSG.out, HFin.out, HZ.out]; rfl
    · rw [HSG.out, HFin.out]; exact hL9.log
  case stop =>
    rintro B cd pre X hB ⟨rfl, i1, i2, i4, i5⟩ hD
    rw [hz3] at hD hB ⊢
    obtain ⟨j1, j3⟩ := i2.out
    have HFin : Hid (drop11 L.last M sg.reverse = drop11 L.last M (pre.map Prod.snd)) := by
      rw [Hid, ← List.take_append_drop pre.length sg.reverse, drop_app, ← j3, if_pos j1]
    have HZ : Hid ((drop11 L.last M (pre.map Prod.snd)).1 = 9) := j1
    have HLX : Hid (LogI w0 wb X lb d S G (drop11 L.last M (pre.map Prod.snd)).2 L s B) := i1
    have HB2 : Hid (Boxed X (s + 1) 76 (.int .i64 9)) := i4
    clear i1 i2 i4 j1 j3 HSeq HIn2 HIn
    gi_wp2
    refine ⟨by simp, .inl ⟨_, _, rfl, run_takeDeferred hD, ?_⟩⟩
    have hP : OutsideW (bm + 1) B X (X.putObj (bm + 1) (.deferred none)) := OutsideW.putObj _ ⟨by omega, by omega⟩ hD
    have hL9 := HLX.out.outside hP (by omega) (by omega) (by omega)
    have hc9 : (X.putObj (bm + 1) (.deferred none)).cell? ⟨s + 1, 0, none⟩ = some (.int .i64 9) := Boxed.cell (hP.block _ _ HB2.out (.inl (by omega)))
    refine ⟨_, results_cell11 rfl _ _ _ ⟨s + 1, 0, none⟩ _ rfl (load_errno _ _ _ hc9), ?_, ?_⟩
    · rw [HSG.out, HFin.out, HZ.out]; rfl
    · rw [HSG.out, HFin.out]; exact hL9.log
end Go.Proofs.YtkbbhllchombdaaGreatDoor

namespace Go.Proofs.YtkbbhllchombdaaGreatDoor
open Go.RowKit Go.Shelf Go.Maps
attribute [local go_sem ↓] ldE_exec stE_exec ldE_execI stE_execI ldE_run ldE_box ldC_exec stC_exec ldC_execI stC_execI ldC_run ldW_exec stW_exec ldW_execI stW_execI ldW_box ldR_exec stR_exec ldR_execI stR_execI ldT_exec stT_exec ldT_execI stT_execI ldT_box stT_box ldU_exec stU_exec ldU_execI stU_execI ldH_exec stH_exec ldH_execI stH_execI ldH_run ldH_box oc_int oc_bool oc_string oc_slice oc_pointer
attribute [local go_sem ↓] bsE_exec bsE_execI bsE_run bsW_exec bsW_execI bsW_run bdE_exec bdE_execI bdE_run bdH_exec bdH_execI bdH_run bdB_exec bdB_execI bdB_run
theorem neqHv (a b : Hard10) (W : World) : Sem.run Tryz.prog (binOp .neq 30 (.agg a.arr) (.agg b.arr)) W = .ok (.bool (!sameH10 a b)) W := by
  have h := eqlH a.t a.v a.c b.t b.v b.c W
  rw [run_eql_struct] at h
  show Sem.run Tryz.prog (binOp .neq 30 (.agg #[.int .i64 a.t, .int .i64 a.v, .int .i64 a.c]) (.agg #[.int .i64 b.t, .int .i64 b.v, .int .i64 b.c])) W = _
  rw [run_neq_struct]
  generalize Sem.run Tryz.prog (Op.equalIn 10000 30 _ _) W = r at h ⊢
  cases r with
  | ok b w' =>
    simp only [Result.andThen, Result.ok.injEq, Value.bool.injEq] at h ⊢
    obtain ⟨h1, h2⟩ := h
    exact ⟨by rw [h1], h2⟩
  | _ => cases h
theorem SAt.ldH {w : World} {b : Nat} {T : TypeId} {pre post : List Value} {x : StaV} (h : SAt w b T pre x post) : (ldH (.pointer (some ⟨b, pre.length + 2, none⟩))).run Tryz.prog w = .ok (.agg x.h.arr) w := by
  refine (run_loadAt_mid w b (pre.length + 2) 30 x.h.arr.toList _ (fun i v hi => ?_) Tryz.underlying30 rfl (by show _ = some 3; kernel_rfl)).trans (by rw [Array.toArray_toList])
  have hi3 : i < 3 := (List.getElem?_eq_some_iff.1 hi).1
  rw [Nat.add_assoc, h.cell (by omega), ← hi, Array.getElem?_toList]
  rcases i with _ | _ | _ | i <;> first | rfl | omega
theorem LogS.ldH {w0 wb w : World} {lb d : Nat} {S G : Nat → Prop} {M : DM} {L : LogV} (h : LogS w0 wb w lb d S G M L) : (ldH (.pointer (some ⟨lb, 4, none⟩))).run Tryz.prog w = .ok (.agg L.x.h.arr) w := by
  obtain ⟨S', h1, _⟩ := h.ex
  exact h1.box.ldH
theorem RowR.pushed {T : TypeId} {w w' : World} {B : Nat} {s s' : Sl10} {l : List RecV} {x : RecV} (h : RowR T w B (.slice s.p s.n s.c) l) (hne : 3 ≠ T) (hx : OwnsR w B x) (ho : w'.ownsRow B T 19 (.slice s'.p s'.n s'.c) (l.length + 1) (recsV l ++ x.arr.toList)) (hg : w.grownBy w' (Value.slice s.p s.n s.c).ownBlock) : RowR T w' B (.slice s'.p s'.n s'.c) (l ++ [x]) := by
  refine ⟨by rw [recsV_app, recsV_one, List.length_append]; exact ho, fun e he => ?_⟩
  rcases List.mem_append.1 he with he | he
  · exact (h.all e he).appT h.row hne hg
  · rw [List.mem_singleton.1 he]
    exact hx.appT h.row hne hg
def recE (e : Ent10) : Rec11 := ⟨1, e, noH11, 0, 0⟩

set_option maxRecDepth 100000 in
set_option maxHeartbeats 1000000 in
theorem news_any {w0 wb w : World} {lb d : Nat} {S G : Nat → Prop} {M : DM} {L : LogV} (h : LogS w0 wb w lb d S G M L) (hh : Hard10) (hfh : FitsH hh) (s : Sl10) (es : List EntV) (hE : HasE w s es) (hf : ∀ e ∈ es, FewF e.f.f) (hl : es.length ≤ 1000000) :
    Calls Tryz.prog 150 #[.pointer (some ⟨lb, 0, none⟩), .agg hh.arr, .slice s.p s.n s.c] w fun e w' => ∃ (r : Sl10) (l : List RecV), e = .returned (.slice r.p r.n r.c) ∧ RowR 32 w' w.heap.size (.slice r.p r.n r.c) l ∧ l.map RecV.r = recs11 hh L.x.s (es.map EntV.e) ∧ Below w.heap.size w w' := by
  have hB1 : Below w.heap.size w (w.alloc (.cells hh.arr 30)) := (Below.refl _ w).alloc (Nat.le_refl _) _
  have hbx := heap_alloc_new w (.cells hh.arr 30)
  have hz1 : (w.alloc (.cells hh.arr 30)).heap.size = w.heap.size + 1 := by simp
  have hnn : Hid (es.length = s.n) := hE.n
  have hn : s.n ≤ 1000000 := by rw [← hnn.out]; exact hl
  have hcc := hE.c
  have HE : Hid (HasE w s es) := hE
  have HF : Hid (∀ e ∈ es, FewF e.f.f) := hf
  have HL : Hid (LogS w0 wb w lb d S G M L) := h
  have HH : Hid (FitsH hh) := hfh
  have hneq := neqHv hh L.x.h
  have HR : Hid (recs11 hh L.x.s (es.map EntV.e) = (es.map EntV.e).map recE ++ if sameH10 hh L.x.h = true then [] else [⟨2, noE10, hh, 0, 0⟩]) := by
    show _ ++ _ = _ ++ _
    congr 1
    unfold sameH10
    simp only [Bool.and_eq_true, decide_eq_true_eq, and_assoc]
    rfl
  have HHX : Hid _ := hbx
  clear hE hf hl h hfh hbx
  generalize sameH10 hh L.x.h = sm at *
  generalize recs11 hh L.x.s (es.map EntV.e) = RS at *
  go_enter Tryz.func150, Tryz.ntmps150
  go_wp2
  generalize w.alloc (.cells hh.arr 30) = W1 at *
  go_loopw [7, 12] (fun s7 s12 wr => ∃ (j : Nat) (r : Sl10) (l : List RecV), s7 = .slice r.p r.n r.c ∧ s12 = .int .i64 (j : Nat) ∧ j ≤ s.n ∧ Hid (RowR 32 wr (w.heap.size + 1) (.slice r.p r.n r.c) l) ∧ Hid (l.map RecV.r = ((es.take j).map EntV.e).map recE) ∧ Hid (l.length = j) ∧ Below W1.heap.size W1 wr) (fun _ s12 _ => s.n - (intOf s12).toNat)
  case atStart => exact ⟨0, nilS10, [], rfl, rfl, Nat.zero_le _, RowR.nil _ _ _, rfl, rfl, Below.refl _ _⟩
  case round =>
    obtain ⟨j, r, l, rfl, rfl, hj, HO, HM, HLn, hb⟩ := hrel
    have hsz := hb.size
    have HBr : Hid (Below w.heap.size w wr) := hB1.trans (hb.mono hB1.size)
    by_cases hjn : j < s.n
    · have hEr := HE.out.below HBr.out
      obtain ⟨g, o, hp, hg, hld⟩ := hEr.ld hjn
      have hej : es.getD j noEV ∈ es := getD_memE (by rw [hnn.out]; exact hjn)
      have hFe := hEr.all _ hej
      have hfe := HF.out _ hej
      have HM2 : Hid (((es.take (j + 1)).map EntV.e).map recE = ((es.take j).map EntV.e).map recE ++ [recE (es.getD j noEV).e]) := by
        rw [Hid, take_snocE (by rw [hnn.out]; exact hjn), List.map_append, List.map_append]
        rfl
      clear hEr
      generalize es.getD j noEV = e at *
      rw [hp] at *
      have hbE := heap_alloc_new wr (.cells #[.int .i64 0, .int .i64 0, .int .i64 0, .int .i64 0, .int .i64 0, .int .i64 0, .string ⟨#[]⟩, .string ⟨#[]⟩, .string ⟨#[]⟩, .string ⟨#[]⟩, .int .i64 0, .slice none 0 0, .slice none 0 0] 28)
      have hth := there_box hbE 0 13 (Nat.le_refl _)
      have hst := stE_arr 0 e hth
      have hbE2 := setE_box e hbE rfl
      have hB2 : Below wr.heap.size wr ((wr.alloc (.cells #[.int .i64 0, .int .i64 0, .int .i64 0, .int .i64 0, .int .i64 0, .int .i64 0, .string ⟨#[]⟩, .string ⟨#[]⟩, .string ⟨#[]⟩, .string ⟨#[]⟩, .int .i64 0, .slice none 0 0, .slice none 0 0] 28)).setCells wr.heap.size 0 e.arr.toList) := setCells_below (Nat.le_refl _) _ _ ((Below.refl _ _).alloc (Nat.le_refl _) _)
      have hld2 := ldE_box _ _ _ _ _ hbE2 rfl
      have kc := copyE_any _ e (hFe.below hB2) hfe
      have HB2 : Hid _ := hB2
      have hl2 := box_lt hbE2
      clear hbE hbE2 hB2 hFe hfe hej hneq
      go_wp2_with fail
      generalize (wr.alloc (.cells #[.int .i64 0, .int .i64 0, .int .i64 0, .int .i64 0, .int .i64 0, .int .i64 0, .string ⟨#[]⟩, .string ⟨#[]⟩, .string ⟨#[]⟩, .string ⟨#[]⟩, .int .i64 0, .slice none 0 0, .slice none 0 0] 28)).setCells wr.heap.size 0 e.arr.toList = W2 at *
      clear hld hth hst hld2
      refine kc.mono ?_
      rintro _ w3 ⟨y, rfl, hy, hO3, hb3⟩
      have hB3 : Below wr.heap.size wr w3 := HB2.out.trans (hb3.mono HB2.out.size)
      have hO4 := HO.out.below hB3
      have hO5 : OwnsR w3 (w.heap.size + 1) ⟨1, y, noH11, 0, 0⟩ := ⟨in1, hO3.mono (by omega), ⟨in0, in0, in0⟩, in0, in0⟩
      have hba : Below w3.heap.size w3 (w3.alloc (.cells (RecV.arr ⟨1, y, noH11, 0, 0⟩) 32)) := (Below.refl _ _).alloc (Nat.le_refl _) _
      have hO6 := hO4.below hba
      have hO7 := hO5.below hba
      have hR := hasR_lit (w := w3.alloc (.cells (RecV.arr ⟨1, y, noH11, 0, 0⟩) 32)) (size := 19) (xs := (RecV.arr ⟨1, y, noH11, 0, 0⟩).toList) (e := 32) (f := (0, 0)) (k := w3.heap.size) (by rw [Array.toArray_toList]; exact heap_alloc_new w3 _) 1 1 rfl (Nat.le_refl _)
      have hrow := hO6.row
      rw [HLn.out] at hrow
      have hz3 := hB3.size
      have hzz : w.heap.size + 1 ≤ (w3.alloc (.cells (RecV.arr ⟨1, y, noH11, 0, 0⟩) 32)).heap.size := by simp; omega
      have HB3 : Hid _ := hB3.trans (hba.mono hB3.size)
      have HO6 : Hid (RowR 32 (w3.alloc (.cells (RecV.arr ⟨1, y, noH11, 0, 0⟩) 32)) (w.heap.size + 1) (.slice r.p r.n r.c) l) := hO6
      have HO7 : Hid _ := hO7
      clear kc HB2 hO3 hb3 hB3 hO4 hO5 hba hO6 hO7
      go_wp2_with (at_builtin; refine ap_row elemW11 _ rfl _ _ rfl (w.heap.size + 1) _ _ j 1 (recsV l) (RecV.arr ⟨1, y, noH11, 0, 0⟩).toList rfl rfl hR (rarr_cell _) hrow (by omega) (by omega) hzz ?_; intro v' w' hown' hgrow hwh; refine Halt8.out ?_)
      obtain ⟨p', n', c', rfl⟩ := row_shape11 hown'
      have HP : Hid (RowR 32 w' (w.heap.size + 1) (.slice p' n' c') (l ++ [⟨1, y, noH11, 0, 0⟩])) := RowR.pushed (s := r) (s' := ⟨p', n', c'⟩) HO6.out (by decide) HO7.out (by rw [HLn.out]; exact hown') hgrow
      have HBw : Hid (Below W1.heap.size W1 w') := by
        have h1 := hb.trans (HB3.out.mono hsz)
        have h2 : Below (w.heap.size + 1) (w3.alloc (.cells (RecV.arr ⟨1, y, noH11, 0, 0⟩) 32)) w' := (Below.refl _ _).grown hgrow hzz fun k hk => (World.ownsRow.lt hrow k hk).1
        rw [Hid, hz1]
        rw [hz1] at h1
        exact h1.trans h2
      clear hgrow hwh hown' hrow hR HB3 HO6 HO7
      constructor
      go_wp2
      go_roundw
      case rel =>
        refine ⟨j + 1, ⟨p', n', c'⟩, l ++ [⟨1, y, noH11, 0, 0⟩], rfl, by go_num, by omega, HP, ?_, ?_, HBw.out⟩
        · rw [Hid, List.map_append, HM.out, HM2.out, ← hy]; rfl
        · rw [Hid, List.length_append, HLn.out]; rfl
      case measure => simp only [intOf]; omega
    · obtain rfl : j = s.n := by omega
      have hM2 : Hid (l.map RecV.r = (es.map EntV.e).map recE) := by
        have := HM.out
        rw [← hnn.out, List.take_length] at this
        exact this
      have hldH := fun m => (HL.out.below (below_drewN HBr.out m)).ldH
      have hldB := fun m => ldH_box (wr.drewN m) _ _ _ _ (box_below HHX.out (below_drewN hb m)) rfl
      have hlb := (HL.out.below HBr.out).lt
      have hlw := box_lt (box_below HHX.out hb)
      have hO2 : Hid (RowR 32 wr w.heap.size (.slice r.p r.n r.c) l) := ⟨row_mono HO.out.row (by omega), fun x hx => (HO.out.all x hx).mono (by omega)⟩
      cases sm with
      | true =>
        have HF2 : Hid (RS = l.map RecV.r) := by rw [Hid, HR.out, if_pos rfl, List.append_nil, hM2.out]
        clear HE HF HR HO
        go_wp2_with fail
        go_quiet (fail)
        go_wp2
        go_ret
        refine ⟨r, l, rfl, ?_, by rw [HF2.out], below_drewN HBr.out _⟩
        exact hO2.out.below (below_drewN (Below.refl _ _) _)
      | false =>
        have HF2 : Hid (RS = l.map RecV.r ++ [⟨2, noE10, hh, 0, 0⟩]) := by rw [Hid, HR.out, if_neg (by decide), hM2.out]
        clear HE HF HR HO
        go_wp2_with fail
        go_quiet (fail)
        go_upto_region 8 with fail
        have hldC := hldB nq
        have HBq : Hid (Below w.heap.size w (wr.drewN nq)) := below_drewN HBr.out _
        have hOq := hO2.out.below (below_drewN (Below.refl wr.heap.size wr) nq)
        have hlq : w.heap.size < (wr.drewN nq).heap.size := by have := (below_drewN (Below.refl wr.heap.size wr) nq).size; omega
        clear hldH hldB hO2 hneq hlb hlw
        generalize wr.drewN nq = Wq at *
        have hba : Below Wq.heap.size Wq (Wq.alloc (.cells (RecV.arr ⟨2, noEV, hh, 0, 0⟩) 32)) := (Below.refl _ _).alloc (Nat.le_refl _) _
        have hO6 := hOq.below hba
        have hO7 : OwnsR (Wq.alloc (.cells (RecV.arr ⟨2, noEV, hh, 0, 0⟩) 32)) w.heap.size ⟨2, noEV, hh, 0, 0⟩ := ⟨in2, OwnsE.nil _ _, HH.out, in0, in0⟩
        have hR := hasR_lit (w := Wq.alloc (.cells (RecV.arr ⟨2, noEV, hh, 0, 0⟩) 32)) (size := 19) (xs := (RecV.arr ⟨2, noEV, hh, 0, 0⟩).toList) (e := 32) (f := (0, 0)) (k := Wq.heap.size) (by rw [Array.toArray_toList]; exact heap_alloc_new Wq _) 1 1 rfl (Nat.le_refl _)
        have hrow := hO6.row
        rw [HLn.out] at hrow
        have hzz : w.heap.size ≤ (Wq.alloc (.cells (RecV.arr ⟨2, noEV, hh, 0, 0⟩) 32)).heap.size := by simp; omega
        have HO6 : Hid (RowR 32 (Wq.alloc (.cells (RecV.arr ⟨2, noEV, hh, 0, 0⟩) 32)) w.heap.size (.slice r.p r.n r.c) l) := hO6
        have HO7 : Hid _ := hO7
        have HBa : Hid (Below w.heap.size w (Wq.alloc (.cells (RecV.arr ⟨2, noEV, hh, 0, 0⟩) 32))) := HBq.out.trans (hba.mono HBq.out.size)
        clear hOq hba hO6 hO7
        go_wp2_with (at_builtin; refine ap_row elemW11 _ rfl _ _ rfl w.heap.size _ _ s.n 1 (recsV l) (RecV.arr ⟨2, noEV, hh, 0, 0⟩).toList rfl rfl hR (rarr_cell _) hrow (by omega) (by omega) hzz ?_; intro v' w' hown' hgrow hwh; refine Halt8.out ?_)
        obtain ⟨p', n', c', rfl⟩ := row_shape11 hown'
        have HP : Hid (RowR 32 w' w.heap.size (.slice p' n' c') (l ++ [⟨2, noEV, hh, 0, 0⟩])) := RowR.pushed (s := r) (s' := ⟨p', n', c'⟩) HO6.out (by decide) HO7.out (by rw [HLn.out]; exact hown') hgrow
        have HBw : Hid (Below w.heap.size w w') := HBa.out.trans ((Below.refl _ _).grown hgrow hzz fun k hk => (World.ownsRow.lt hrow k hk).1)
        clear hgrow hwh hown' hrow hR HO6 HO7
        constructor
        go_wp2
        go_ret
        refine ⟨⟨p', n', c'⟩, l ++ [⟨2, noEV, hh, 0, 0⟩], rfl, HP.out, ?_, HBw.out⟩
        rw [HF2.out, List.map_append]
        rfl
end Go.Proofs.YtkbbhllchombdaaGreatDoor

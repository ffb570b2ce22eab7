import Derived.Test.YtefgnehahedckaaRg9To
import Derived.Test.YtefgnehahedckaaDs3To
import Derived.Test.YtefgnehahedckaaDs5To
/-
  The document's own disk: Spoil.
-/
namespace Go.Proofs.Ytefgnehahedckaa
open Go.RowKit Go.Maps

theorem flip_setL : ∀ {l : List (ByteArray × List Int)} {p : Nat} {x : ByteArray} {bs : List Int} (j : Nat) (y : Int), (nms l).Nodup → l[p]? = some (x, bs) → l.set p (x, bs.set j (xor8 (bs.getD j 0) y)) = flipL l x j y
  | [], p, x, bs, j, y, _, h => by simp at h
  | f :: l, 0, x, bs, j, y, hn, h => by
    have hd := List.nodup_cons.1 (by exact hn : (f.1 :: nms l).Nodup)
    have hf : f = (x, bs) := by simpa using h
    subst hf
    show _ :: l = (if x = x then _ else _) :: flipL l x j y
    rw [if_pos rfl]
    congr 1
    unfold flipL
    conv => lhs; rw [← List.map_id l]
    refine List.map_congr_left fun g hg => ?_
    rw [if_neg fun e => hd.1 (by show x ∈ nms l; rw [← e]; exact List.mem_map.2 ⟨g, hg, rfl⟩)]
    rfl
  | f :: l, p + 1, x, bs, j, y, hn, h => by
    have hd := List.nodup_cons.1 (by exact hn : (f.1 :: nms l).Nodup)
    have h' : l[p]? = some (x, bs) := by simpa using h
    have hne : ¬ f.1 = x := fun e => hd.1 (by rw [e]; exact List.mem_map.2 ⟨_, List.mem_of_getElem? h', rfl⟩)
    show f :: l.set p _ = (if f.1 = x then _ else f) :: flipL l x j y
    rw [if_neg hne, flip_setL j y hd.2 h']
theorem trM_get {t : List Tr} {i : Nat} (h : i < t.length) : (trM t)[i]? = some ((t.getD i default).1, (t.getD i default).2.2) := by
  unfold trM
  rw [List.getElem?_map, List.getElem?_eq_getElem h, List.getD_eq_getElem?_getD, List.getElem?_eq_getElem h]
  rfl
theorem drop_consT {t : List Tr} {q : Nat} (h : q < t.length) : trM (t.drop q) = ((t.getD q default).1, (t.getD q default).2.2) :: trM (t.drop (q + 1)) := by
  rw [List.drop_eq_getElem_cons h, List.getD_eq_getElem?_getD, List.getElem?_eq_getElem h]
  rfl
/-- As far as q writes it is not the place. -/
def Seek8 (tb : List Tr) (x : ByteArray) (j0 : Nat) (y : Int) (q m : Nat) : Prop := flipB (trM tb) x j0 y = trM (tb.take q) ++ flipB (trM (tb.drop q)) x m y ∧ m < (pend (trM (tb.drop q)) x).length
theorem Seek8.start {tb : List Tr} {x : ByteArray} {j0 : Nat} {y : Int} (h : j0 < (pend (trM tb) x).length) : Seek8 tb x j0 y 0 j0 := ⟨rfl, h⟩
theorem Seek8.other {tb : List Tr} {x : ByteArray} {j0 : Nat} {y : Int} {q m : Nat} (h : Seek8 tb x j0 y q m) (hq : q < tb.length) (hx : ¬ (tb.getD q default).1 = x) : Seek8 tb x j0 y (q + 1) m := by
  obtain ⟨h1, h2⟩ := h
  rw [drop_consT hq] at h1 h2
  rw [pend, if_neg hx, List.nil_append] at h2
  refine ⟨?_, h2⟩
  rw [h1, flipB, if_neg hx, take_snocT hq, trM_append, List.append_assoc]
  rfl
theorem Seek8.on {tb : List Tr} {x : ByteArray} {j0 : Nat} {y : Int} {q m : Nat} (h : Seek8 tb x j0 y q m) (hq : q < tb.length) (hx : (tb.getD q default).1 = x) (hm : ¬ m < (tb.getD q default).2.2.length) : Seek8 tb x j0 y (q + 1) (m - (tb.getD q default).2.2.length) := by
  obtain ⟨h1, h2⟩ := h
  rw [drop_consT hq] at h1 h2
  rw [pend, if_pos hx, List.length_append] at h2
  dsimp only at h2
  refine ⟨?_, by omega⟩
  rw [h1, flipB, if_pos hx, if_neg hm, take_snocT hq, trM_append, List.append_assoc]
  rfl
theorem Seek8.here {tb : List Tr} {x : ByteArray} {j0 : Nat} {y : Int} {q m : Nat} (h : Seek8 tb x j0 y q m) (hq : q < tb.length) (hx : (tb.getD q default).1 = x) (hm : m < (tb.getD q default).2.2.length) (v : Value) :
    trM (tb.set q ((tb.getD q default).1, v, (tb.getD q default).2.2.set m (xor8 ((tb.getD q default).2.2.getD m 0) y))) = flipB (trM tb) x j0 y := by
  obtain ⟨h1, h2⟩ := h
  rw [h1, drop_consT hq, flipB, if_pos hx, if_pos hm, trM_set, List.set_eq_take_append_cons_drop, if_pos (by rw [trM_length]; exact hq), trM_take, trM_drop]
theorem Seek8.not_end {tb : List Tr} {x : ByteArray} {j0 : Nat} {y : Int} {m : Nat} (h : Seek8 tb x j0 y tb.length m) : False := by
  have h2 := h.2
  rw [List.drop_length] at h2
  exact absurd h2 (by simp [trM, pend])
section
variable {w : World} {r : Nat} {S : Nat → Prop} {M : DM}
set_option maxRecDepth 10000 in
set_option maxHeartbeats 4000000 in
theorem rspoil_any (h : RefAt w r S M) (hO : M.Ok) (hS : ∀ k, w.heap.size ≤ k → S k) (x : ByteArray) (i b : Int) (hi : -9223372036854775808 ≤ i ∧ i ≤ 9223372036854775807) (hb : -9223372036854775808 ≤ b ∧ b ≤ 9223372036854775807) :
    Calls Try.prog 45 #[.pointer (some ⟨r, 0, none⟩), .string x, .int .i64 i, .int .i64 b] w fun e w' => e = .returned (.int .i64 ((M.spoil x i b).1 : Nat)) ∧ RefAt w' r S (M.spoil x i b).2 ∧ Turn S w w' := by
  obtain ⟨c3, hlt⟩ := h.cell3
  have hR : Hid (RefAt w r S M) := h
  cases hf : M.off with
  | true =>
    have e1 : M.spoil x i b = (9, M) := by unfold DM.spoil; rw [if_pos hf]
    rw [e1]
    rw [hf] at c3
    clear h
    go_enter Try.func45, Try.ntmps45
    go_wp2
    go_ret
    exact ⟨rfl, hR.out, Turn.refl _ _⟩
  | false =>
    have hf' : ¬ M.off = true := by rw [hf]; decide
    have hops := hO.ops
    have hI := hO.inv
    rw [hf] at c3
    obtain ⟨vl, vb, tl, tb, n0, h1, hL, hB, hn⟩ := h
    obtain ⟨z1, z2, z3, z4, z5⟩ := ref_sizes hI hL hB
    have hfi := rfind_any h1 (by omega) x
    go_enter Try.func45, Try.ntmps45
    go_wp2_with fail
    refine hfi.mono ?_
    rintro e w2 ⟨⟨z, rfl, hz⟩, hb2⟩
    clear hfi
    have h2 := h1.below hb2
    have hR2 : Hid (RefAt w2 r S M) := hR.out.below hb2
    have t2 : Turn S w w2 := Turn.of_below hb2 (Nat.le_refl _)
    clear h1 hR c3
    rcases hz with ⟨rfl, hno⟩ | ⟨p, rfl, hp, hnm, -⟩
    · rw [hL] at hno
      have e1 : Hid (M.spoil x i b = (4, M)) := by show _ = _; unfold DM.spoil; rw [if_neg hf', if_pos hno]
      clear hno z3 h2
      go_wp2
      go_ret
      exact ⟨by rw [e1.out]; rfl, by rw [e1.out]; exact hR2.out, t2⟩
    have hx := name_at8 hp hL hnm
    have hp0 : ¬ (p : Int) < 0 := by omega
    have hal := rall_any h2 hp (by omega) (by have := z3 _ (getD_mem8 hp); omega)
    have hlk := lk_at8 hp hL hI.nodup
    have hby : (tl.getD p default).2.2 ++ pend (trM tb) (tl.getD p default).1 = M.bytes x := by
      unfold DM.bytes
      rw [← hlk, hnm, hB]
    rw [hby] at hal
    rw [hnm] at hlk
    have hbz := (hI.sizes.2.2 x).1
    by_cases hbad : i < 0 ∨ ((M.bytes x).length : Int) ≤ i ∨ b < 0 ∨ 7 < b
    · have e1 : Hid (M.spoil x i b = (6, M)) := by show _ = _; unfold DM.spoil; rw [if_neg hf', if_neg (fun h => h hx), if_pos hbad]
      by_cases q1 : i < 0
      · clear hal z3 h2 hbad
        go_wp2
        go_ret
        exact ⟨by rw [e1.out]; rfl, by rw [e1.out]; exact hR2.out, t2⟩
      · have q1' : 0 ≤ i := by omega
        obtain ⟨nn, Hn⟩ : ∃ n, Hid ((M.bytes x).length = n) := ⟨_, rfl⟩
        rw [Hn.out] at hbad hbz
        clear z3 h2 hby hlk hnm
        go_wp2_with fail
        refine hal.mono ?_
        rintro e w3 ⟨⟨v3, rfl, ho3⟩, hb3⟩
        clear hal
        obtain ⟨p3, c3, rfl⟩ := ho3.shape
        rw [Hn.out]
        have hR3 : Hid (RefAt w3 r S M) := hR2.out.below hb3
        have t3 : Turn S w w3 := t2.trans (Turn.of_below hb3 (Nat.le_refl _))
        clear ho3
        by_cases q2 : (nn : Int) ≤ i
        · go_wp2
          go_ret
          exact ⟨by rw [e1.out]; rfl, by rw [e1.out]; exact hR3.out, t3⟩
        · have q2' : i < (nn : Int) := by omega
          by_cases q3 : b < 0
          · go_wp2
            go_ret
            exact ⟨by rw [e1.out]; rfl, by rw [e1.out]; exact hR3.out, t3⟩
          · have q3' : 0 ≤ b := by omega
            have q4 : 7 < b := by omega
            go_wp2
            go_ret
            exact ⟨by rw [e1.out]; rfl, by rw [e1.out]; exact hR3.out, t3⟩
    · have e1 : Hid (M.spoil x i b = (0, M.flip x i.toNat ((2 ^ b.toNat : Nat) : Int))) := by show _ = _; unfold DM.spoil; rw [if_neg hf', if_neg (fun h => h hx), if_neg hbad]
      obtain ⟨j, rfl⟩ : ∃ j : Nat, i = j := ⟨i.toNat, by omega⟩
      obtain ⟨k, rfl⟩ : ∃ k : Nat, b = k := ⟨b.toNat, by omega⟩
      rw [Int.toNat_natCast, Int.toNat_natCast] at e1
      have hj : j < (M.bytes x).length := by omega
      have hk7 : k < 8 := by omega
      have hk7' : (k : Int) ≤ 7 := by omega
      have hisB : Hid (∀ f ∈ M.L, isB8 f.2) := hI.isL
      have hisW : Hid (∀ f ∈ M.buf, isB8 f.2) := hI.isW
      obtain ⟨nn, Hn⟩ : ∃ n, Hid ((M.bytes x).length = n) := ⟨_, rfl⟩
      have hjn : (j : Int) < nn := by rw [← Hn.out]; omega
      have hjb : Hid ((M.bytes x).length = (lk M.L x).length + (pend M.buf x).length) := by show _ = _; unfold DM.bytes; rw [List.length_append]
      clear hbad hi hb hx
      go_wp2_with fail
      refine hal.mono ?_
      rintro e w3 ⟨⟨v3, rfl, ho3⟩, hb3⟩
      clear hal
      obtain ⟨p3, c3, rfl⟩ := ho3.shape
      rw [Hn.out]
      rw [Hn.out] at hbz
      have h3 := h2.below hb3
      have t3 : Turn S w w3 := t2.trans (Turn.of_below hb3 (Nat.le_refl _))
      have hS3 : Hid (∀ k, w3.heap.size ≤ k → S k) := fun k hk => hS k (Nat.le_trans t3.size hk)
      clear ho3 h2 hR2 t2 hS hby
      obtain ⟨g, c, rfl, hc, hg3, a0, a1⟩ := tr_at h3.rowL hp
      obtain ⟨-, r1, r2, -⟩ := h3.cells
      have hof := h3.byL _ (getD_mem8 hp)
      obtain ⟨pf, cf, hu⟩ := hof.1.shape
      rw [hu] at a1 hof
      have htr := trM_get hp
      rw [hnm, hL] at htr
      obtain ⟨bs, hbs⟩ : ∃ bs, (tl.getD p default).2.2 = bs := ⟨_, rfl⟩
      rw [hbs] at a1 hof htr hlk
      have hlk' : Hid (lk M.L x = bs) := hlk
      have hbs' : Hid ((tl.getD p default).2.2 = bs) := hbs
      have hnm' : Hid ((tl.getD p default).1 = x) := hnm
      have hbs1 : bs.length ≤ 2147483648 := by have := z3 _ (getD_mem8 hp); rw [hbs] at this; omega
      clear hbs hlk hu hnm
      have hlt3 := h3.lt
      have hp1 : (p : Int) < (tl.length : Int) := by omega
      by_cases hin : j < bs.length
      · have e2 : Hid (M.flip x j ((2 ^ k : Nat) : Int) = { M with L := flipL M.L x j ((2 ^ k : Nat) : Int) }) := by show _ = _; unfold DM.flip; rw [hlk'.out, if_pos hin]
        have hin' : (j : Int) < bs.length := by omega
        have hzb : 0 ≤ bs.getD j 0 ∧ bs.getD j 0 < 256 := by
          refine hisB.out (x, bs) (List.mem_of_getElem? htr) _ ?_
          rw [List.getD_eq_getElem?_getD, List.getElem?_eq_getElem hin]
          exact List.getElem_mem hin
        have hfl : Hid (∀ v, trM (tl.set p ((tl.getD p default).1, v, bs.set j (xor8 (bs.getD j 0) ((2 ^ k : Nat) : Int)))) = flipL M.L x j ((2 ^ k : Nat) : Int)) := by
          intro v
          rw [trM_set, hnm'.out, hL]
          exact flip_setL j _ hI.nodup htr
        have hxb := xor_bit hzb hk7
        have hba : Below w3.heap.size w3 (w3.alloc (.cells #[] 5)) := (Below.refl _ _).alloc (Nat.le_refl _) _
        have he := Owns.empty w3 w3.heap.size 5 (Nat.le_refl _)
        have hRf := hasR_of_has (hof.1.has.below hba (Nat.le_refl _))
        have hl1 : 0 + bs.length ≤ 1099511627776 := by omega
        have hl2 : (0 + bs.length) * 1 ≤ 140737488355328 := by omega
        have h3' : Hid _ := h3
        obtain ⟨zb, Hzb⟩ : ∃ z, Hid (bs.getD j 0 = z) := ⟨_, rfl⟩
        rw [Hzb.out] at hxb hzb hfl
        obtain ⟨zx, Hzx⟩ : ∃ z, Hid (xor8 zb ((2 ^ k : Nat) : Int) = z) := ⟨_, rfl⟩
        rw [Hzx.out] at hxb hfl
        clear h3 z3 htr hisB hisW
        go_wp2_with (at_builtin; refine ap_row elemB _ rfl _ _ rfl w3.heap.size _ _ 0 bs.length [] (cellsB bs) rfl rfl hRf (cellsB_one8 _) he hl1 hl2 hba.size ?_; intro v5 w5 hown5 hgrow5 hwh5; refine Halt8.out ?_)
        rw [Nat.zero_add, List.nil_append] at hown5
        have hb5 : Below w3.heap.size w3 w5 := hba.trans ((Below.refl _ _).grown hgrow5 hba.size fun k hk => (World.ownsRow.lt he k hk).1)
        have ho5 : Owns w5 w3.heap.size 5 v5 bs := hown5
        obtain ⟨gv, cv, rfl, hgB, hgl, hcv, hcell, hfz⟩ := ho5.form (by omega)
        have d0 := hcell j hin
        rw [Hzb.out] at d0
        have df := hfz j
        obtain ⟨s1, s2⟩ := ho5.store j zx
        have hb6 : Below w3.heap.size w3 (w5.setCell ⟨gv, j, none⟩ (.int .u8 zx)) := hb5.trans ((Below.refl _ _).grown s2 hb5.size fun k hk => by cases hk; exact hgB)
        have h6 := h3'.out.below hb6
        obtain ⟨-, r16, -⟩ := h6.cells
        have a16 := (hb6.cell (p := ⟨g, p * 2 + 1, none⟩) hg3).trans a1
        have hlen : (bs.set j zx).length = bs.length := List.length_set
        have s1' : Owns (w5.setCell ⟨gv, j, none⟩ (.int .u8 zx)) 0 5 (.slice (some ⟨gv, 0, none⟩) bs.length cv) (bs.set j zx) := row_base s1 (Nat.zero_le _)
        have h7 := h6.setF p s1' (fun k hk => by cases hk; exact hS3.out _ hgB)
        have ff := World.ownsRow.frozenAt h6.rowL (p * 2 + 1)
        have t7 := (t3.trans (Turn.of_below hb6 (Nat.le_refl _))).setCell (p := ⟨g, p * 2 + 1, none⟩) (.inl (h6.sL g rfl)) (.slice (some ⟨gv, 0, none⟩) bs.length cv)
        have hfin : Hid (RefAt ((w5.setCell ⟨gv, j, none⟩ (.int .u8 zx)).setCell ⟨g, p * 2 + 1, none⟩ (.slice (some ⟨gv, 0, none⟩) bs.length cv)) r S { M with L := flipL M.L x j ((2 ^ k : Nat) : Int) }) := ⟨_, _, _, _, n0, h7, hfl.out _, hB, hn⟩
        clear hgrow5 hwh5 hown5 hRf he hba ho5 hcell hfz s1 s2 h6 s1' h7 hb5 hlen
        constructor
        go_wp2
        go_ret
        exact ⟨by rw [e1.out]; rfl, by rw [e1.out, e2.out]; exact hfin.out, t7⟩
      · have e2 : Hid (M.flip x j ((2 ^ k : Nat) : Int) = { M with buf := flipB M.buf x (j - bs.length) ((2 ^ k : Nat) : Int) }) := by show _ = _; unfold DM.flip; rw [hlk'.out, if_neg hin]
        have hin' : ¬ (j : Int) < bs.length := by omega
        have hin2 : (bs.length : Int) ≤ j := by omega
        obtain ⟨j0, Hj0⟩ : ∃ j0, Hid (j - bs.length = j0) := ⟨_, rfl⟩
        have hj0 : (j : Int) - (bs.length : Int) = (j0 : Int) := by rw [← Hj0.out]; omega
        rw [Hj0.out] at e2
        have hsk : Hid (Seek8 tb x j0 ((2 ^ k : Nat) : Int) 0 j0) := by
          refine Seek8.start ?_
          have := hjb.out
          rw [hlk'.out] at this
          rw [hB, ← Hj0.out]
          omega
        have hj0b : j0 ≤ 1073741824 := by rw [← Hj0.out]; omega
        obtain ⟨pb, cb, rfl, hcb⟩ := tr_shape h3.rowB
        have hba : Below w3.heap.size w3 (w3.alloc (.cells #[] 96)) := (Below.refl _ _).alloc (Nat.le_refl _) _
        have hR9 := hasR_of_owns (h3.below hba).rowB
        have ones9 := trs_ones (h3.byB : ByQ w3 _ tb)
        have hl5 : 0 + tb.length ≤ 1099511627776 := by omega
        have hl6 : (0 + tb.length) * 40 ≤ 140737488355328 := by omega
        have hmade := row_none9 w3 w3 96 2 (Nat.le_refl _)
        have h3' : Hid _ := h3
        have hfl : Hid (∀ q m v, q < tb.length → Seek8 tb x j0 ((2 ^ k : Nat) : Int) q m → (tb.getD q default).1 = x → m < (tb.getD q default).2.2.length → trM (tb.set q ((tb.getD q default).1, v, (tb.getD q default).2.2.set m (xor8 ((tb.getD q default).2.2.getD m 0) ((2 ^ k : Nat) : Int)))) = flipB M.buf x j0 ((2 ^ k : Nat) : Int)) := by
          intro q m v k1 k2 k3 k4
          rw [k2.here k1 k3 k4, hB]
        have hisQ : Hid (∀ f ∈ tb, isB8 f.2.2) := fun f hf => hisW.out _ (by rw [← hB]; exact trM_mem hf)
        have hmx : Hid (∀ f ∈ tb, f.2.2.length ≤ 1073741824) := fun f hf => by
          have hq := List.append_of_mem hf
          obtain ⟨s, t, e⟩ := hq
          have := z4
          rw [e, trM_append, tot_append] at this
          show f.2.2.length ≤ _
          have h9 : tot (trM (f :: t)) = f.2.2.length + tot (trM t) := rfl
          omega
        clear z3 htr hisB hisW
        go_wp2_with (at_builtin; refine ap_row elemQ8 _ rfl _ _ rfl w3.heap.size _ _ 0 tb.length [] (trs tb) rfl rfl hR9 ones9 hmade hl5 hl6 hba.size ?_; intro vq wq howq hgq hwq2; refine Halt8.out ?_)
        have hbq : Below w3.heap.size w3 wq := hba.trans ((Below.refl _ _).grown hgq hba.size fun k hk => (World.ownsRow.lt hmade k hk).1)
        rw [Nat.zero_add, List.nil_append] at howq
        have hq0 : Hid (RowQ wq w3.heap.size 96 vq tb) := howq
        obtain ⟨pq, cq, rfl⟩ := writes_shape howq
        clear hmade hR9 ones9 hgq hwq2 howq hl5 hl6 hba r1 r2 a0 a1 hof
        constructor
        go_wp2
        go_loopw [101, 2] (fun t s wr => ∃ q m : Nat, q ≤ tb.length ∧ m ≤ 1073741824 ∧ t = .int .i64 (q : Nat) ∧ s = .int .i64 (m : Nat) ∧ Hid (Seek8 tb x j0 ((2 ^ k : Nat) : Int) q m) ∧ RowQ wr w3.heap.size 96 (.slice pq tb.length cq) tb ∧ Below w3.heap.size w3 wr) (fun t _ _ => tb.length - (intOf t).toNat)
        case atStart => exact ⟨0, j0, by omega, hj0b, rfl, rfl, hsk, hq0.out, hbq⟩
        case round =>
          obtain ⟨q, m, hq, hmb, rfl, rfl, hse, ho, hb⟩ := hrel
          by_cases hql : q < tb.length
          · obtain ⟨gq, c', e, _, hgq, d0, d1⟩ := tr_at (row_base ho (Nat.zero_le _)) hql
            simp only [Value.slice.injEq] at e
            obtain ⟨rfl, -, rfl⟩ := e
            have hq1 : (q : Int) < (tb.length : Int) := by omega
            have hw0 := ((h3'.out.below hb).byB _ (getD_mem8 hql)).1
            obtain ⟨pu, cu, hu⟩ := hw0.shape
            rw [hu] at d1 hw0
            have hgw : w3.heap.size ≤ gq := (World.ownsRow.lt ho gq rfl).1
            have hlu := hmx.out _ (getD_mem8 hql)
            have hisb := hisQ.out _ (getD_mem8 hql)
            have hflq := fun v => hfl.out q m v hql hse.out
            have hse1 := hse.out.other hql
            have hse2 := hse.out.on hql
            have hset := fun v xs => trs_set tb q v xs
            generalize hY : tb.getD q default = Y at *
            obtain ⟨y, uy, by_⟩ := Y
            dsimp only at hu d0 d1 hw0 hlu hisb hflq hse1 hse2 hset
            subst hu
            have hmem : Hid ((y, .slice pu by_.length cu, by_) ∈ tb) := by show _ ∈ _; rw [← hY]; exact getD_mem8 hql
            clear hY
            by_cases hyx : y = x
            · subst hyx
              replace hse2 := hse2 rfl
              have hfq2 := fun v => hflq v rfl
              clear hse1 hflq
              by_cases hm : m < by_.length
              · have hm' : (m : Int) < by_.length := by omega
                have hzb : 0 ≤ by_.getD m 0 ∧ by_.getD m 0 < 256 := by
                  refine hisb _ ?_
                  rw [List.getD_eq_getElem?_getD, List.getElem?_eq_getElem hm]
                  exact List.getElem_mem hm
                have hfq3 : Hid (∀ v, trM (tb.set q (y, v, by_.set m (xor8 (by_.getD m 0) ((2 ^ k : Nat) : Int)))) = flipB M.buf y j0 ((2 ^ k : Nat) : Int)) := fun v => hfq2 v hm
                clear hfq2
                have hxb := xor_bit hzb hk7
                have hlA := hb.alloc hb.size (.cells #[.string y, .slice pu by_.length cu] 96)
                have hal1 := (Below.refl wr.heap.size wr).alloc (Nat.le_refl _) (.cells #[.string y, .slice pu by_.length cu] 96)
                have hba := ext_alloc8 hal1 (.cells #[] 5)
                have he := Owns.empty (wr.alloc (.cells #[.string y, .slice pu by_.length cu] 96)) wr.heap.size 5 hal1.size
                rw [show (wr.alloc (.cells #[.string y, .slice pu by_.length cu] 96)).heap.size = wr.heap.size + 1 by simp] at he
                have hRf := hasR_of_has (hw0.has.below hba (Nat.le_refl _))
                have hl1 : 0 + by_.length ≤ 1099511627776 := by omega
                have hl2 : (0 + by_.length) * 1 ≤ 140737488355328 := by omega
                have hrowr : Hid (RowQ wr w3.heap.size 96 (.slice (some ⟨gq, 0, none⟩) tb.length cq) tb) := ho
                have hbr : Hid (Below w3.heap.size w3 wr) := hb
                obtain ⟨zb, Hzb⟩ : ∃ z, Hid (by_.getD m 0 = z) := ⟨_, rfl⟩
                rw [Hzb.out] at hxb hzb hfq3
                obtain ⟨zx, Hzx⟩ : ∃ z, Hid (xor8 zb ((2 ^ k : Nat) : Int) = z) := ⟨_, rfl⟩
                rw [Hzx.out] at hxb hfq3
                clear hse2 ho hisb hlA
                go_wp2_with (at_builtin; refine ap_row elemB _ rfl _ _ rfl wr.heap.size _ _ 0 by_.length [] (cellsB by_) rfl rfl hRf (cellsB_one8 _) he hl1 hl2 hba.size ?_; intro v5 w5 hown5 hgrow5 hwh5; refine Halt8.out ?_)
                rw [Nat.zero_add, List.nil_append] at hown5
                have hb5 : Below wr.heap.size wr w5 := hba.trans ((Below.refl _ _).grown hgrow5 hba.size fun k hk => (World.ownsRow.lt he k hk).1)
                have ho5 : Owns w5 wr.heap.size 5 v5 by_ := hown5
                obtain ⟨gv, cv, rfl, hgB, hgl, hcv, hcell, hfz⟩ := ho5.form (by omega)
                have k0 := hcell m hm
                rw [Hzb.out] at k0
                have kf := hfz m
                obtain ⟨s1, s2⟩ := ho5.store m zx
                have hb6 : Below wr.heap.size wr (w5.setCell ⟨gv, m, none⟩ (.int .u8 zx)) := hb5.trans ((Below.refl _ _).grown s2 hb5.size fun k hk => by cases hk; exact hgB)
                have ho6 : RowQ (w5.setCell ⟨gv, m, none⟩ (.int .u8 zx)) w3.heap.size 96 (.slice (some ⟨gq, 0, none⟩) tb.length cq) tb := row_same hrowr.out fun k hk => hb6.block k (World.ownsRow.lt hrowr.out k hk).2
                have d16 := (hb6.cell (p := ⟨gq, q * 2 + 1, none⟩) hgq).trans d1
                have ff := World.ownsRow.frozenAt ho6 (q * 2 + 1)
                obtain ⟨u1, u2⟩ := World.ownsRow.stored ho6 (q * 2 + 1) (.slice (some ⟨gv, 0, none⟩) by_.length cv)
                have hb63 : Below w3.heap.size w3 (w5.setCell ⟨gv, m, none⟩ (.int .u8 zx)) := hbr.out.trans (hb6.mono hbr.out.size)
                have hb7 : Below w3.heap.size w3 ((w5.setCell ⟨gv, m, none⟩ (.int .u8 zx)).setCell ⟨gq, q * 2 + 1, none⟩ (.slice (some ⟨gv, 0, none⟩) by_.length cv)) := hb63.trans ((Below.refl _ _).grown u2 hb63.size fun k hk => by cases hk; exact hgw)
                have h7 := h3'.out.below hb7
                have hrow7 : RowQ ((w5.setCell ⟨gv, m, none⟩ (.int .u8 zx)).setCell ⟨gq, q * 2 + 1, none⟩ (.slice (some ⟨gv, 0, none⟩) by_.length cv)) w3.heap.size 96 (.slice (some ⟨gq, 0, none⟩) tb.length cq) (tb.set q (y, .slice (some ⟨gv, 0, none⟩) by_.length cv, by_.set m zx)) := by
                  unfold RowQ
                  rw [List.length_set, hset]
                  exact u1
                have hnq : gv ≠ gq := by omega
                have s1' : Owns ((w5.setCell ⟨gv, m, none⟩ (.int .u8 zx)).setCell ⟨gq, q * 2 + 1, none⟩ (.slice (some ⟨gv, 0, none⟩) by_.length cv)) 0 5 (.slice (some ⟨gv, 0, none⟩) by_.length cv) (by_.set m zx) := row_same (row_base s1 (Nat.zero_le _)) fun k hk => Below.heap_setCell _ _ _ _ (fun e => hnq (by cases hk; exact e))
                obtain ⟨-, -, r27, -⟩ := h7.cells
                have f27 := h7.free 2
                have h8 := h7.swapB (row_base hrow7 (Nat.zero_le _)) (fun k hk => hS3.out k (World.ownsRow.lt hrow7 k hk).1) (fun f hf => by
                  rcases List.mem_or_eq_of_mem_set hf with hf | rfl
                  · exact h7.byB f hf
                  · exact ⟨s1', fun k hk => hS3.out k (by cases hk; exact Nat.le_trans hbr.out.size hgB)⟩)
                have t8 := (t3.trans (Turn.of_below hb7 (Nat.le_refl _))).setCell (p := ⟨r, 2, none⟩) (.inl h7.sR) (.slice (some ⟨gq, 0, none⟩) tb.length cq)
                have hfin : Hid (RefAt (((w5.setCell ⟨gv, m, none⟩ (.int .u8 zx)).setCell ⟨gq, q * 2 + 1, none⟩ (.slice (some ⟨gv, 0, none⟩) by_.length cv)).setCell ⟨r, 2, none⟩ (.slice (some ⟨gq, 0, none⟩) tb.length cq)) r S { M with buf := flipB M.buf y j0 ((2 ^ k : Nat) : Int) }) := ⟨_, _, _, _, n0, h8, hL, hfq3.out _, hn⟩
                clear hgrow5 hwh5 hown5 hRf he hba ho5 hcell hfz s1 s2 ho6 u1 u2 h7 hrow7 s1' h8 hb5 hb6 hb63 hal1
                constructor
                go_wp2
                go_ret
                exact ⟨by rw [e1.out]; rfl, by rw [e1.out, e2.out]; exact hfin.out, t8⟩
              · have hm' : ¬ (m : Int) < by_.length := by omega
                have hm2 : (by_.length : Int) ≤ m := by omega
                have hse3 : Hid _ := hse2 hm
                obtain ⟨m', Hm'⟩ : ∃ m', Hid (m - by_.length = m') := ⟨_, rfl⟩
                have hms : (m : Int) - (by_.length : Int) = (m' : Int) := by rw [← Hm'.out]; omega
                have hmb' : m' ≤ 1073741824 := by rw [← Hm'.out]; omega
                rw [Hm'.out] at hse3
                have ho2 : Hid _ := row_same (w' := wr.alloc (.cells #[.string y, .slice pu by_.length cu] 96)) ho fun k hk => Below.heap_alloc _ _ _ (World.ownsRow.lt ho k hk).2
                clear hse2 hfq2 ho hisb hm
                generalize by_.length = lu at *
                go_wp2
                go_roundw
                case rel => exact ⟨q + 1, m', by omega, hmb', by simp, by simp, hse3, ho2.out, hb.alloc hb.size _⟩
                case measure => simp only [intOf]; omega
            · have hne := str_ne8 hyx
              have hse3 : Hid _ := hse1 hyx
              have ho2 : Hid _ := row_same (w' := wr.alloc (.cells #[.string y, .slice pu by_.length cu] 96)) ho fun k hk => Below.heap_alloc _ _ _ (World.ownsRow.lt ho k hk).2
              clear hse1 hse2 hflq ho hisb hyx
              generalize by_.length = lu at *
              go_wp2
              go_roundw
              case rel => exact ⟨q + 1, m, by omega, hmb, by simp, rfl, hse3, ho2.out, hb.alloc hb.size _⟩
              case measure => simp only [intOf]; omega
          · obtain rfl : q = tb.length := by omega
            exact absurd hse.out (fun h => h.not_end)
end
end Go.Proofs.Ytefgnehahedckaa

/-
  The walk of corbellaw08.DiskFails.
-/
namespace Go.Proofs.Ytefgnehahedckaa
open Go.RowKit Go.Maps

theorem pend_rep (x : ByteArray) (b : List Int) : ∀ j, (pend (List.replicate j (x, b)) x).length = j * b.length
  | 0 => by simp [pend]
  | j + 1 => by rw [List.replicate_succ, pend, if_pos rfl, List.length_append, pend_rep x b j, Nat.succ_mul, Nat.add_comm]
theorem left_rep (x : ByteArray) (b : List Int) : ∀ j n, (left n (List.replicate j (x, b)) x).length = min n (j * b.length)
  | 0, n => by simp [left]
  | j + 1, n => by
    rw [List.replicate_succ, left, if_pos rfl, List.length_append, left_rep x b j, List.length_take, Nat.succ_mul]
    show min n b.length + min (n - b.length) (j * b.length) = _
    omega
/-- The disk behind j writes, of which the a-th operation will fail. -/
def fl (a : Nat) (k : Int) (data : List Int) (j : Nat) : DM := ⟨10000, [(tA, [])], List.replicate j (tA, data), false, 1 + j, 1 + a - j, k⟩
theorem goodA : goodN tA = true := by decide +kernel
theorem fl_used (a : Nat) (k : Int) (data : List Int) (j : Nat) : (fl a k data j).used = need (j * data.length) := by
  show usedL (List.replicate j (tA, data)) [(tA, [])] = _
  rw [usedL, usedL, pend_rep]
  simp
theorem fl_bytes (a : Nat) (k : Int) (data : List Int) (j : Nat) : ((fl a k data j).bytes tA).length = j * data.length := by
  show (lk [(tA, [])] tA ++ pend (List.replicate j (tA, data)) tA).length = _
  rw [lk, if_pos rfl, List.nil_append, pend_rep]
theorem fl_step {a : Nat} {k : Int} {data : List Int} {j : Nat} (hj : j < a) (ha : a < 20) (hd : data.length ≤ 1000) : (fl a k data j).append tA data = (0, fl a k data (j + 1)) := by
  have hb : (fl a k data j).begins = true := by
    unfold DM.begins
    refine decide_eq_true ?_
    show 1 + a - j ≠ 1
    omega
  have hg : (fl a k data j).begun = { fl a k data j with ops := 1 + (j + 1), n := 1 + a - (j + 1) } := by
    unfold DM.begun
    rw [if_neg (by show ¬ 1 + a - j = 1; omega)]
    show (⟨_, _, _, _, 1 + j + 1, 1 + a - j - 1, _⟩ : DM) = ⟨_, _, _, _, 1 + (j + 1), 1 + a - (j + 1), _⟩
    congr 1
  have hx : tA ∈ (fl a k data j).names := by show tA ∈ [tA]; exact List.mem_cons_self
  unfold DM.append DM.act
  rw [if_neg (show ¬ (fl a k data j).off = true from Bool.noConfusion), if_neg (fun h => h hx), hb, if_pos rfl, hg]
  show DM.append1 { fl a k data j with ops := 1 + (j + 1), n := 1 + a - (j + 1) } tA data = _
  unfold DM.append1
  have hu : DM.used { fl a k data j with ops := 1 + (j + 1), n := 1 + a - (j + 1) } = need (j * data.length) := fl_used a k data j
  have hm : DM.more { fl a k data j with ops := 1 + (j + 1), n := 1 + a - (j + 1) } tA data = need (j * data.length + data.length) - need (j * data.length) := by
    have := fl_bytes a k data j
    unfold DM.more
    rw [show DM.bytes { fl a k data j with ops := 1 + (j + 1), n := 1 + a - (j + 1) } tA = (fl a k data j).bytes tA from rfl, this]
  have hjm : j * data.length + data.length ≤ 20000 := by
    have h1 : j * data.length ≤ 19 * 1000 := Nat.mul_le_mul (by omega) hd
    omega
  have hn1 : need (j * data.length + data.length) ≤ 313 := by unfold need; omega
  rw [hu, hm, if_neg (by show ¬ 10000 - _ < _; have := need_mono (n := j * data.length) (m := j * data.length + data.length) (by omega); omega)]
  show (0, (⟨10000, [(tA, [])], List.replicate j (tA, data) ++ [(tA, data)], false, 1 + (j + 1), 1 + a - (j + 1), k⟩ : DM)) = _
  rw [← List.replicate_succ']
  rfl
/-- The disk behind the operation that failed. -/
def flF (a : Nat) (k : Int) (data : List Int) : DM := ⟨10000, [(tA, left k.toNat (List.replicate a (tA, data)) tA)], [], true, 2 + a, 0, k⟩
theorem fl_fails (a : Nat) (k : Int) (data : List Int) : (fl a k data a).syncs = (9, flF a k data) := by
  have hb : (fl a k data a).begins = false := by
    unfold DM.begins
    refine decide_eq_false ?_
    show ¬ 1 + a - a ≠ 1
    omega
  have hg : (fl a k data a).begun = flF a k data := by
    unfold DM.begun
    rw [if_pos (by show 1 + a - a = 1; omega)]
    show (⟨10000, [(tA, [] ++ left k.toNat (List.replicate a (tA, data)) tA)], [], true, 1 + a + 1, 0, k⟩ : DM) = _
    unfold flF
    rw [List.nil_append, show 1 + a + 1 = 2 + a by omega]
  unfold DM.syncs DM.act
  rw [if_neg (show ¬ (fl a k data a).off = true from Bool.noConfusion), hb, hg]
  rfl
theorem flF_says (a : Nat) (k : Int) (data : List Int) : (flF a k data).syncs = (9, flF a k data) ∧ (flF a k data).create tB = (9, flF a k data) ∧ (flF a k data).start.readE tA = 0 ∧ ((flF a k data).start.readB tA).length = min k.toNat (a * data.length) ∧ (flF a k data).start.syncs.1 = 0 ∧ (flF a k data).start.syncs.2.listT = [tA] := by
  refine ⟨rfl, rfl, rfl, ?_, rfl, rfl⟩
  show (lk [(tA, left k.toNat (List.replicate a (tA, data)) tA)] tA ++ pend [] tA).length = _
  rw [lk, if_pos rfl, pend, List.append_nil, left_rep]
theorem fl_start (a : Nat) (k : Int) (data : List Int) : ((DM.empty 10000).create tA) = (0, ⟨10000, [(tA, [])], [], false, 1, 0, 0⟩) ∧ (DM.arm ⟨10000, [(tA, [])], [], false, 1, 0, 0⟩ (1 + (a : Int)) k) = (0, fl a k data 0) := by
  refine ⟨rfl, ?_⟩
  unfold DM.arm
  rw [if_neg (show ¬ (false = true) by decide)]
  show (0, (⟨10000, [(tA, [])], [], false, 1, (1 + (a : Int)).toNat, k⟩ : DM)) = (0, ⟨10000, [(tA, [])], [], false, 1 + 0, 1 + a - 0, k⟩)
  rw [show (1 + (a : Int)).toNat = 1 + a by omega]
  rfl

theorem HasT8.of_owns {w : World} {B : Nat} {v : Value} {xs : List ByteArray} (h : w.ownsRow B 9 1 v xs.length (textsV8 xs)) : HasT8 w v xs := by
  rcases id h.2 with ⟨rfl, hn⟩ | ⟨g, cap, cur, rfl, hB, hg, hnc, _, _, _⟩
  · exact ⟨none, 0, by rw [hn], by omega, fun _ => rfl, fun h0 => by omega⟩
  · refine ⟨_, _, rfl, hnc, fun h => (by cases h), fun h0 => ⟨g, 0, rfl, (World.ownsRow.lt h g rfl).2, fun i hi => ?_⟩⟩
    rw [Nat.zero_add, World.ownsRow.cellAt h i (by omega)]
    unfold textsV8
    rw [List.getElem?_map, List.getElem?_eq_getElem hi, List.getD_eq_getElem?_getD, List.getElem?_eq_getElem hi]
    rfl
/-- Bytes that were there ahead of the law are not the disk's. -/
theorem Disk8.old {w0 w : World} {d : Nat} {S : Nat → Prop} {M : DM} (h : Disk8 w0 w d S M) {v : Value} {xs : List Int} (hv : Has w0 v xs) : HasX w S v xs := by
  obtain ⟨p, c, rfl, h1, h2, h3⟩ := hv
  refine ⟨p, c, rfl, h1, h2, fun h0 => ?_⟩
  obtain ⟨b, o, rfl, hb, hc⟩ := h3 h0
  exact ⟨b, o, rfl, fun hs => absurd (h.own b hs).1 (by omega), Nat.lt_of_lt_of_le hb h.bel.size, fun i hi => (h.bel.cell (p := ⟨b, o + i, none⟩) hb).trans (hc i hi)⟩
theorem lit_text (w : World) (x : ByteArray) : HasT8 (w.alloc (.cells #[Value.string x] 9)) (.slice (some ⟨w.heap.size, 0, none⟩) 1 1) [x] := by
  refine ⟨_, _, rfl, Nat.le_refl _, fun h => (by cases h), fun _ => ⟨_, _, rfl, ?_, fun i hi => ?_⟩⟩
  · show _ < (w.heap.push _).size
    simp
  · obtain rfl : i = 0 := by simpa using hi
    show (match (w.heap.push (Obj.cells #[Value.string x] 9))[w.heap.size]? with | some (Obj.cells c _ _) => c[0 + 0]? | _ => none) = _
    rw [Array.getElem?_push_size]
    rfl
theorem flOk (a : Nat) (k : Int) (data : List Int) (ha : a < 20) (hd : data.length ≤ 1000) (hb : isB8 data) (hk : -9223372036854775808 ≤ k ∧ k ≤ 9223372036854775807) : ∀ j, j ≤ a → (fl a k data j).OkN (1 + j)
  | 0, _ => by
    have h1 := (okN_empty 10000 (by decide)).create tA
    rw [(fl_start a k data).1] at h1
    have h2 := h1.arm (1 + (a : Int)) k (by omega) hk
    rw [(fl_start a k data).2] at h2
    exact h2
  | j + 1, h => by
    have h1 := (flOk a k data ha hd hb hk j (by omega)).append tA hb
    rw [fl_step (by omega) ha hd] at h1
    exact h1
set_option maxRecDepth 10000 in
set_option maxHeartbeats 4000000 in
theorem diskFails_at (n k : Int) (v : Value) (data : List Int) (w : World) (hn : 0 ≤ n ∧ n ≤ 18446744073709551615) (hk : -9223372036854775808 ≤ k ∧ k ≤ 9223372036854775807) (hv : Has w v data) (hb : isB8 data) :
    Calls Try.prog 7 #[.int .u64 n, .int .i64 k, v] w fun e w' => e = .returned (.bool true) ∧ Below w.heap.size w w' := by
  have hA := short8 tA (by decide)
  have hB := short8 tB (by decide)
  obtain ⟨a, han⟩ : ∃ a : Nat, n % 20 = (a : Int) := ⟨(n % 20).toNat, by omega⟩
  have ha : a < 20 := by omega
  have h0 := Disk8.new 10000 w w (by decide) (Below.refl _ _)
  obtain ⟨p, c, rfl, hc1, -, -⟩ := id hv
  by_cases hd : 1000 < data.length
  · have hd' : (1000 : Int) < data.length := by omega
    have hv' := hv
    clear hv
    go_enter Try.func7, Try.ntmps7
    go_wp2_with fail
    refine h0.mono ?_
    rintro e w1 ⟨rfl, hD, -⟩
    go_wp2_with fail
    refine (lives8 w1).mono ?_
    rintro e w2 ⟨rfl, hb2⟩
    go_wp2
    go_ret
    exact ⟨rfl, (hD.below hb2).bel⟩
  have hd' : (data.length : Int) ≤ 1000 := by omega
  have hOk := flOk a k data ha (by omega) hb hk
  go_enter Try.func7, Try.ntmps7
  go_wp2_with fail
  refine h0.mono ?_
  clear h0
  rintro e w1 ⟨rfl, hD, -⟩
  generalize w.heap.size + 1 = d at *
  generalize (fun k => w.heap.size ≤ k ∧ k < w1.heap.size) = S at *
  have hc : Calls Try.prog 17 #[.pointer (some ⟨d, 0, none⟩), .string tA] w1 fun e w' => e = .returned (.int .i64 0) ∧ (∃ S, Disk8 w w' d S ⟨10000, [(tA, [])], [], false, 1, 0, 0⟩) := (hD.create (okN_empty 10000 (by decide)) (by decide) hA).mono fun e w' ⟨h1, h2, _⟩ => ⟨h1, _, h2⟩
  clear hD
  go_wp2_with fail
  refine hc.mono ?_
  clear hc S
  rintro e w2 ⟨rfl, S, hD⟩
  have hc : Calls Try.prog 28 #[.pointer (some ⟨d, 0, none⟩), .int .i64 (1 + (a : Int)), .int .i64 k] w2 fun e w' => e = .returned (.int .i64 0) ∧ (∃ S, Disk8 w w' d S (fl a k data 0)) := (hD.arm (1 + (a : Int)) k (by omega)).mono fun e w' ⟨h1, h2, _⟩ => by
    rw [(fl_start a k data).2] at h1 h2
    exact ⟨h1, _, h2⟩
  clear hD
  go_wp2_with fail
  refine hc.mono ?_
  clear hc S
  rintro e w3 ⟨rfl, S, hD⟩
  have hD3 : ∃ S, Disk8 w w3 d S (fl a k data 0) := ⟨_, hD⟩
  clear hD
  go_wp2
  go_loopw [9] (fun i wr => ∃ j : Nat, j ≤ a ∧ i = .int .i64 (1 + (j : Int)) ∧ ∃ S, Disk8 w wr d S (fl a k data j)) (fun i _ => a + 1 - (intOf i).toNat)
  case atStart => exact ⟨0, Nat.zero_le _, rfl, hD3⟩
  case round =>
    clear hD3
    obtain ⟨j, hj, rfl, S, hD⟩ := hrel
    by_cases hlt : j < a
    · have hx := hD.old hv
      have hc : Calls Try.prog 20 #[.pointer (some ⟨d, 0, none⟩), .string tA, .slice p data.length c] wr fun e w' => e = .returned (.int .i64 0) ∧ (∃ S, Disk8 w w' d S (fl a k data (j + 1))) := (hD.append (hOk j hj) (by omega) hA hx (by omega)).mono fun e w' ⟨h1, h2, _⟩ => by
        rw [fl_step hlt ha (by omega)] at h1 h2
        exact ⟨h1, _, h2⟩
      clear hx hD hOk
      have hlt' : (1 + (j : Int)) < 1 + (a : Int) := by omega
      go_wp2_with fail
      refine hc.mono ?_
      clear hc S
      rintro e w4 ⟨rfl, hD⟩
      go_wp2
      go_roundw
      case rel => exact ⟨j + 1, by omega, by go_num, hD⟩
      case measure => simp [intOf]; omega
    · obtain rfl : j = a := by omega
      have hO := hOk j (Nat.le_refl _)
      clear hOk
      have hc : Calls Try.prog 18 #[.pointer (some ⟨d, 0, none⟩)] wr fun e w' => e = .returned (.int .i64 9) ∧ (∃ S, Disk8 w w' d S (flF j k data)) := (hD.sync hO (by omega)).mono fun e w' ⟨h1, h2, _⟩ => by
        rw [fl_fails] at h1 h2
        exact ⟨h1, _, h2⟩
      have hO1 : (flF j k data).OkN (2 + j) := by
        have := hO.syncs
        rw [fl_fails] at this
        exact this.mono (by omega)
      have hO2 := hO1.start
      have hO3 := hO2.syncs
      clear hD hO
      obtain ⟨g1, g2, g3, g4, g5, g6⟩ := flF_says j k data
      go_wp2_with fail
      refine hc.mono ?_
      clear hc S
      rintro e w4 ⟨rfl, S, hD⟩
      have hc := on_any hD.at8
      rw [show (flF j k data).off = true from rfl] at hc
      go_wp2_with fail
      refine same_mono hc ?_
      clear hc
      have hc : Calls Try.prog 18 #[.pointer (some ⟨d, 0, none⟩)] w4 fun e w' => e = .returned (.int .i64 9) ∧ (∃ S, Disk8 w w' d S (flF j k data)) := (hD.sync hO1 (by omega)).mono fun e w' ⟨h1, h2, _⟩ => by
        rw [g1] at h1 h2
        exact ⟨h1, _, h2⟩
      clear hD
      go_wp2_with fail
      refine hc.mono ?_
      clear hc S
      rintro e w5 ⟨rfl, S, hD⟩
      have hc : Calls Try.prog 17 #[.pointer (some ⟨d, 0, none⟩), .string tB] w5 fun e w' => e = .returned (.int .i64 9) ∧ (∃ S, Disk8 w w' d S (flF j k data)) := (hD.create hO1 (by omega) hB).mono fun e w' ⟨h1, h2, _⟩ => by
        rw [g2] at h1 h2
        exact ⟨h1, _, h2⟩
      clear hD
      go_wp2_with fail
      refine hc.mono ?_
      clear hc S
      rintro e w6 ⟨rfl, S, hD⟩
      have hc := ops_any hD.at8
      rw [show (((flF j k data).ops : Nat) : Int) = 1 + (j : Int) + 1 by show ((2 + j : Nat) : Int) = _; omega] at hc
      go_wp2_with fail
      refine same_mono hc ?_
      clear hc
      have hc : Calls Try.prog 22 #[.pointer (some ⟨d, 0, none⟩)] w6 fun e w' => (∃ v, e = .returned v) ∧ (∃ S, Disk8 w w' d S (flF j k data).start) := hD.start.mono fun e w' ⟨h1, h2, _⟩ => ⟨h1, _, h2⟩
      clear hD
      go_wp2_with fail
      refine hc.mono ?_
      clear hc S
      rintro e w7 ⟨⟨u, rfl⟩, S, hD⟩
      have hc := read_any hD.at8 hO2.inv hA
      rw [g3] at hc
      generalize hrd : (flF j k data).start.readB tA = rd at *
      go_wp2_with fail
      refine hc.mono ?_
      clear hc
      rintro e w8 ⟨⟨va, rfl, oa⟩, hb8⟩
      replace hD := hD.below hb8
      obtain ⟨pa, ca, rfl⟩ := oa.shape
      clear oa hb8
      clear g1 g2 g3 hO1 hv hb hA hB hrd
      generalize rd.length = r at *
      generalize (flF j k data).start = M at *
      obtain ⟨m, hm⟩ : ∃ m : Nat, m = j * data.length := ⟨_, rfl⟩
      have hm1 : m ≤ 20000 := by
        have : j * data.length ≤ 19 * 1000 := Nat.mul_le_mul (by omega) (by omega)
        omega
      have hm' : wrap64 ((1 + (j : Int) - 1) * (data.length : Int)) = (m : Int) := by
        rw [show (1 + (j : Int) - 1) * (data.length : Int) = (m : Int) by rw [hm, Int.natCast_mul, show 1 + (j : Int) - 1 = j by omega]]
        exact IntWalk.wrap64_in _ (by omega)
      rw [← hm] at g4
      clear hm
      have hw : Hid ((k < 0 ∧ r = 0) ∨ (0 ≤ k ∧ k ≤ m ∧ k = (r : Int)) ∨ ((m : Int) < k ∧ r = m)) := by
        show _ ∨ _ ∨ _
        omega
      clear g4
      have hc : Calls Try.prog 18 #[.pointer (some ⟨d, 0, none⟩)] w8 fun e w' => e = .returned (.int .i64 0) ∧ (∃ S, Disk8 w w' d S M.syncs.2) := (hD.sync hO2 (by omega)).mono fun e w' ⟨h1, h2, _⟩ => by
        rw [g5] at h1
        exact ⟨h1, _, h2⟩
      clear hD hO2 g5
      rcases hw.out with ⟨q1, q2⟩ | ⟨q1, q2, q3⟩ | ⟨q1, q2⟩
      · subst q2
        clear hw
        go_wp2_with fail
        refine hc.mono ?_
        clear hc S
        rintro e w9 ⟨rfl, S, hD⟩
        have hc := list_any hD.at8 hO3.inv
        rw [g6] at hc
        go_wp2_with fail
        refine hc.mono ?_
        clear hc
        rintro e w10 ⟨⟨vl, rfl, ol⟩, hb10⟩
        replace hD := hD.below hb10
        have ht1 := HasT8.of_owns ol
        have hal := (Below.refl w10.heap.size w10).alloc (Nat.le_refl _) (.cells #[Value.string tA] 9)
        have ht2 : HasT8 (w10.alloc (.cells #[Value.string tA] 9)) (.slice (some ⟨w10.heap.size, 0, none⟩) 1 1) [tA] := lit_text w10 tA
        have hc := texts8 _ _ _ _ _ (ht1.below hal (Nat.le_refl _)) ht2 (by decide) (by decide)
        rw [show decide ([tA] = [tA]) = true from rfl] at hc
        replace hD := hD.below hal
        clear ol hb10 ht1 ht2 hal
        go_wp2_with fail
        refine hc.mono ?_
        clear hc
        rintro e w11 ⟨rfl, hb11⟩
        replace hD := hD.below hb11
        go_wp2_with fail
        refine (lives8 w11).mono ?_
        rintro e w12 ⟨rfl, hb12⟩
        go_wp2
        go_ret
        exact ⟨rfl, (hD.below hb12).bel⟩
      · subst q3
        clear hw
        go_wp2_with fail
        refine hc.mono ?_
        clear hc S
        rintro e w9 ⟨rfl, S, hD⟩
        have hc := list_any hD.at8 hO3.inv
        rw [g6] at hc
        go_wp2_with fail
        refine hc.mono ?_
        clear hc
        rintro e w10 ⟨⟨vl, rfl, ol⟩, hb10⟩
        replace hD := hD.below hb10
        have ht1 := HasT8.of_owns ol
        have hal := (Below.refl w10.heap.size w10).alloc (Nat.le_refl _) (.cells #[Value.string tA] 9)
        have ht2 : HasT8 (w10.alloc (.cells #[Value.string tA] 9)) (.slice (some ⟨w10.heap.size, 0, none⟩) 1 1) [tA] := lit_text w10 tA
        have hc := texts8 _ _ _ _ _ (ht1.below hal (Nat.le_refl _)) ht2 (by decide) (by decide)
        rw [show decide ([tA] = [tA]) = true from rfl] at hc
        replace hD := hD.below hal
        clear ol hb10 ht1 ht2 hal
        go_wp2_with fail
        refine hc.mono ?_
        clear hc
        rintro e w11 ⟨rfl, hb11⟩
        replace hD := hD.below hb11
        go_wp2_with fail
        refine (lives8 w11).mono ?_
        rintro e w12 ⟨rfl, hb12⟩
        go_wp2
        go_ret
        exact ⟨rfl, (hD.below hb12).bel⟩
      · subst q2
        clear hw
        go_wp2_with fail
        refine hc.mono ?_
        clear hc S
        rintro e w9 ⟨rfl, S, hD⟩
        have hc := list_any hD.at8 hO3.inv
        rw [g6] at hc
        go_wp2_with fail
        refine hc.mono ?_
        clear hc
        rintro e w10 ⟨⟨vl, rfl, ol⟩, hb10⟩
        replace hD := hD.below hb10
        have ht1 := HasT8.of_owns ol
        have hal := (Below.refl w10.heap.size w10).alloc (Nat.le_refl _) (.cells #[Value.string tA] 9)
        have ht2 : HasT8 (w10.alloc (.cells #[Value.string tA] 9)) (.slice (some ⟨w10.heap.size, 0, none⟩) 1 1) [tA] := lit_text w10 tA
        have hc := texts8 _ _ _ _ _ (ht1.below hal (Nat.le_refl _)) ht2 (by decide) (by decide)
        rw [show decide ([tA] = [tA]) = true from rfl] at hc
        replace hD := hD.below hal
        clear ol hb10 ht1 ht2 hal
        go_wp2_with fail
        refine hc.mono ?_
        clear hc
        rintro e w11 ⟨rfl, hb11⟩
        replace hD := hD.below hb11
        go_wp2_with fail
        refine (lives8 w11).mono ?_
        rintro e w12 ⟨rfl, hb12⟩
        go_wp2
        go_ret
        exact ⟨rfl, (hD.below hb12).bel⟩
theorem diskFails_any (n k : Int) (p : Option Addr) (len cap : Nat) (data : List Int) (_ : data.length = len) (w : World) (hn : 0 ≤ n ∧ n ≤ 18446744073709551615) (hk : -9223372036854775808 ≤ k ∧ k ≤ 9223372036854775807) (hv : Has w (.slice p len cap) data) (hb : isB8 data) (_ : len ≤ 140737488351232) :
    Calls Try.prog 7 #[.int .u64 n, .int .i64 k, .slice p len cap] w fun e w' => e = .returned (.bool true) ∧ Below w.heap.size w w' := diskFails_at n k _ data w hn hk hv hb
end Go.Proofs.Ytefgnehahedckaa

import Derived.Test.YthlelcmifolnfaaGreatDoorKb3
import Derived.Test.YthlelcmifolnfaaGreatDoorKb1To
import Derived.Test.YthlelcmifolnfaaGreatDoorKc3To
import Derived.Test.YthlelcmifolnfaaGreatDoorLxTo
import Derived.Test.YthlelcmifolnfaaGreatDoorRef6To
namespace Go.Proofs.YthlelcmifolnfaaGreatDoor
open Go.RowKit Go.Shelf Go.Maps
theorem row_below12 {w w' : World} {B B' : Nat} {e : TypeId} {s n : Nat} {v : Value} {xs : List Value} (h : w.ownsRow B e s v n xs) (hb : Below B' w w') (hB : w.heap.size ≤ B') : w'.ownsRow B e s v n xs := by
  refine ⟨h.1, ?_⟩
  rcases h.2 with hn | ⟨g, cap, cur, rfl, hb1, hg, rest⟩
  · exact .inl hn
  · refine .inr ⟨g, cap, cur, rfl, hb1, ?_, rest⟩
    rw [hb.block g (Nat.lt_of_lt_of_le (Array.getElem?_eq_some_iff.1 hg).1 hB)]
    exact hg
theorem row_mono12 {w : World} {B B' : Nat} {e : TypeId} {size n : Nat} {v : Value} {xs : List Value} (h : w.ownsRow B e size v n xs) (hB : B' ≤ B) : w.ownsRow B' e size v n xs := by
  refine ⟨h.1, ?_⟩
  rcases h.2 with hn | ⟨g, cap, cur, rfl, hb1, rest⟩
  · exact .inl hn
  · exact .inr ⟨g, cap, cur, rfl, Nat.le_trans hB hb1, rest⟩

theorem OwnsI.none12 (w : World) (B : Nat) : OwnsI w B (.slice Option.none 0 0) [] := World.ownsRow_nil w B _ 1
theorem row_shape12 {w : World} {B : Nat} {e : TypeId} {s n : Nat} {v : Value} {xs : List Value} (h : w.ownsRow B e s v n xs) : ∃ p n c, v = .slice p n c := by
  rcases h.2 with ⟨rfl, _⟩ | ⟨g, cap, cur, rfl, _⟩
  · exact ⟨_, _, _, rfl⟩
  · exact ⟨_, _, _, rfl⟩
theorem elemI12 : Elem8 Tryz.prog 22 3 1 8 := elem8 Tryz.underlying22 (z := .int .i64 0) (by kernel_rfl) rfl (by decide)
theorem texts_cell12 {w : World} {B : Nat} {p : Option Addr} {n c : Nat} {xs : List ByteArray} (h : w.ownsRow B 9 1 (.slice p n c) xs.length (textsV8 xs)) {j : Nat} (hj : j < xs.length) : ∃ g, p = some ⟨g, 0, none⟩ ∧ n = xs.length ∧ n ≤ c ∧ g < w.heap.size ∧ w.cell? ⟨g, j, none⟩ = some (.string (xs.getD j ByteArray.empty)) := by
  rcases h.2 with ⟨hv, hn⟩ | ⟨g, cap, cur, hv, hB, hg, hnc, _, _, _⟩
  · omega
  · simp only [Value.slice.injEq] at hv
    obtain ⟨rfl, rfl, rfl⟩ := hv
    have hc := World.ownsRow.cells h (g := g) rfl j (.string (xs.getD j ByteArray.empty)) (by simp [textsV8, hj, List.getD_eq_getElem?_getD])
    rw [Addr.add_lit, Nat.zero_add] at hc
    exact ⟨g, rfl, rfl, hnc, box_lt hg, hc⟩

set_option maxRecDepth 100000 in
set_option maxHeartbeats 1000000 in
theorem falling_any {w0 wb w : World} {d : Nat} {S T : Nat → Prop} {M : DM} (h : DiskT w0 wb w d S T M) (h0 : Gl11 w0) (hI : M.Inv) :
    Calls Tryz.prog 96 #[.pointer (some ⟨d, 0, none⟩)] w fun e w' => (∃ p n c, e = .returned (.slice p n c) ∧ OwnsI w' w.heap.size (.slice p n c) (files12 M.listT).reverse) ∧ Below w.heap.size w w' := by
  have kl := h.list hI
  have hlen := h.count hI
  have hsz : Hid (∀ x ∈ M.listT, x.size ≤ 140737488355328) := fun x hx => by
    unfold DM.listT at hx
    split at hx
    · cases hx
    · have := (good_size (hI.good x hx)).2
      omega
  have HG : Hid (Gl11 w) := h0.below h.bel (Nat.le_refl _)
  have HSg : Hid (((numsL12 M.listT).mergeSort fun x y => decide (x ≤ y)) = files12 M.listT) := sort_files12 _
  have hfl := files12_len M.listT
  generalize files12 M.listT = sg at *
  generalize M.listT = names at *
  clear h h0 hI
  go_enter Tryz.func96, Tryz.ntmps96
  go_wp2_with fail
  refine kl.mono ?_
  rintro _ w1 ⟨⟨v, rfl, ho1⟩, hb1⟩
  obtain ⟨p, n, c, rfl⟩ := row_shape12 ho1
  have hnn : n = names.length := by
    rcases ho1.2 with ⟨hv, h0⟩ | ⟨g, cap, cur, hv, _⟩
    · simp only [Value.slice.injEq] at hv; omega
    · simp only [Value.slice.injEq] at hv; omega
  subst hnn
  clear kl
  have HO1 : Hid (w1.ownsRow w.heap.size 9 1 (.slice p names.length c) names.length (textsV8 names)) := ho1
  have HB1 : Hid (Below w.heap.size w w1) := hb1
  clear ho1 hb1
  go_wp2
  go_loopw [3, 11] (fun s3 s14 wr => ∃ (j : Nat) (pf : Option Addr) (nf cf : Nat), s3 = .slice pf nf cf ∧ s14 = .int .i64 (j : Nat) ∧ j ≤ names.length ∧ Hid (OwnsI wr w1.heap.size (.slice pf nf cf) (numsL12 (names.take j))) ∧ Below w1.heap.size w1 wr) (fun _ s14 _ => names.length - (intOf s14).toNat)
  case atStart => exact ⟨0, none, 0, 0, rfl, rfl, Nat.zero_le _, OwnsI.none12 _ _, Below.refl _ _⟩
  case round =>
    obtain ⟨j, pf, nf, cf, rfl, rfl, hj, HO, hb⟩ := hrel
    have hzb := hb.size
    have HBr : Hid (Below w.heap.size w wr) := HB1.out.trans (hb.mono HB1.out.size)
    by_cases hjn : j < names.length
    · obtain ⟨g, hp, -, hcn, hg, hc⟩ := texts_cell12 (row_below12 HO1.out hb (Nat.le_refl _)) hjn
      have hxs := hsz.out (names.getD j ByteArray.empty) (by rw [List.getD_eq_getElem?_getD, List.getElem?_eq_getElem hjn]; exact List.getElem_mem hjn)
      have HN : Hid (numsL12 (names.take (j + 1)) = if (num12 (names.getD j ByteArray.empty)).2 = true then numsL12 (names.take j) ++ [(num12 (names.getD j ByteArray.empty)).1] else numsL12 (names.take j)) := numsL_snoc12 hjn
      have kn := indexS_any _ hxs wr (HG.out.below HBr.out (Nat.le_refl _))
      have hll : (numsL12 (names.take j)).length ≤ j := by
        unfold numsL12
        rw [List.length_map]
        exact Nat.le_trans (List.length_filter_le _ _) (by rw [List.length_take]; omega)
      generalize names.getD j ByteArray.empty = x at *
      generalize num12 x = nx at *
      obtain ⟨nv, nb⟩ := nx
      dsimp only at kn HN
      rw [hp] at *
      go_wp2_with fail
      refine kn.mono ?_
      rintro _ w2 ⟨rfl, hb2⟩
      have hO2 := row_below12 HO.out hb2 (Nat.le_refl _)
      have hB2 := hb.trans (hb2.mono hzb)
      have hz2 := hb2.size
      clear kn hc hxs
      cases nb with
      | false =>
        rw [if_neg (by decide)] at HN
        have HO2 : Hid (OwnsI w2 w1.heap.size (.slice pf nf cf) (numsL12 (names.take (j + 1)))) := by rw [Hid, HN.out]; exact hO2
        clear HN
        go_wp2
        go_roundw
        case rel => exact ⟨j + 1, pf, nf, cf, rfl, by go_num, by omega, HO2, hB2⟩
        case measure => simp only [intOf]; omega
      | true =>
        rw [if_pos rfl] at HN
        have hba : Below w2.heap.size w2 (w2.alloc (.cells #[.int .i64 nv] 3)) := (Below.refl _ _).alloc (Nat.le_refl _) _
        have hrow := row_below12 hO2 hba (Nat.le_refl _)
        have hR := hasR_lit (w := w2.alloc (.cells #[.int .i64 nv] 3)) (size := 1) (xs := [.int .i64 nv]) (e := 3) (f := (0, 0)) (k := w2.heap.size) (heap_alloc_new w2 _) 1 1 rfl (Nat.le_refl _)
        have hzz : w1.heap.size ≤ (w2.alloc (.cells #[.int .i64 nv] 3)).heap.size := by simp; omega
        have HBa : Hid (Below w1.heap.size w1 (w2.alloc (.cells #[.int .i64 nv] 3))) := hB2.trans (hba.mono (by omega))
        obtain ⟨m, Hm⟩ : ∃ m, Hid ((numsL12 (names.take j)).length = m) := ⟨_, rfl⟩
        rw [Hm.out] at hrow hll
        clear hba hO2 HO
        go_wp2_with (at_builtin; refine ap_row elemI12 _ rfl _ _ rfl w1.heap.size _ _ m 1 ((numsL12 (names.take j)).map (Value.int .i64)) [.int .i64 nv] rfl rfl hR (by intro u hu; simp at hu; subst hu; rfl) hrow (by omega) (by omega) hzz ?_; intro v' w' hown' hgrow hwh; refine Halt8.out ?_)
        obtain ⟨p', n', c', rfl⟩ := row_shape12 hown'
        have HO3 : Hid (OwnsI w' w1.heap.size (.slice p' n' c') (numsL12 (names.take (j + 1)))) := by
          rw [Hid, HN.out]
          unfold OwnsI
          rw [List.map_append, List.length_append, Hm.out]
          exact hown'
        have HB3 : Hid (Below w1.heap.size w1 w') := HBa.out.trans ((Below.refl _ _).grown hgrow hzz fun k hk => (World.ownsRow.lt hrow k hk).1)
        clear hown' hgrow hwh hrow hR HN HBa
        constructor
        go_wp2
        go_roundw
        case rel => exact ⟨j + 1, p', n', c', rfl, by go_num, by omega, HO3, HB3.out⟩
        case measure => simp only [intOf]; omega
    · obtain rfl : j = names.length := by omega
      have hO2 := HO.out
      rw [List.take_length] at hO2
      have hll : (numsL12 names).length ≤ names.length := by
        unfold numsL12
        rw [List.length_map]
        exact List.length_filter_le _ _
      have ks := sortI_any w1.heap.size _ _ wr hO2 (by omega)
      rw [HSg.out] at ks
      have HOw : Hid _ := hO2
      clear HO hO2
      go_wp2_with fail
      refine ks.mono ?_
      rintro _ w2 ⟨rfl, ho2, hg2⟩
      have HB2 : Hid (Below w.heap.size w w2) := (HBr.out).trans ((Below.refl _ _).grown hg2 HBr.out.size fun k hk => Nat.le_trans HB1.out.size (World.ownsRow.lt HOw.out k hk).1)
      have kr := revI_any w1.heap.size _ _ w2 ho2 (by omega)
      have HOw2 : Hid _ := ho2
      clear ks ho2 hg2 HOw
      go_wp2_with fail
      refine kr.mono ?_
      rintro _ w3 ⟨rfl, ho3, hg3⟩
      have HB3 : Hid (Below w.heap.size w w3) := HB2.out.trans ((Below.refl _ _).grown hg3 HB2.out.size fun k hk => Nat.le_trans HB1.out.size (World.ownsRow.lt HOw2.out k hk).1)
      have HO3 : Hid (OwnsI w3 w.heap.size (.slice pf nf cf) sg.reverse) := row_mono12 ho3 HB1.out.size
      clear kr ho3 hg3 HOw2
      go_wp2
      go_ret
      exact ⟨⟨pf, nf, cf, rfl, HO3.out⟩, HB3.out⟩
def readyS (M : DM) : Nat := if M.off = true then 9 else 0
set_option maxRecDepth 100000 in
set_option maxHeartbeats 1000000 in
theorem readyS_any {w : World} {d : Nat} {S : Nat → Prop} {M : DM} (hD : DiskAt w d S M) (hI : M.Inv) (h0 : (⟨#[]⟩ : ByteArray) ∉ M.names) :
    Calls Tryz.prog 64 #[.pointer (some ⟨d, 0, none⟩)] w fun e w' => e = .returned (.int .i64 (readyS M : Nat)) ∧ Below w.heap.size w w' := by
  have k := read_any hD hI (x := ⟨#[]⟩) (by decide)
  have e1 : M.readE ⟨#[]⟩ = if M.off = true then 9 else 4 := by unfold DM.readE; rw [if_pos h0]
  have hmix : Tryz.prog.follows Departure.mixedOrders = true := by kernel_rfl
  unfold readyS
  clear hD hI
  cases ho : M.off with
  | true =>
    rw [e1, ho, if_pos rfl] at k
    rw [if_pos rfl]
    clear e1
    go_enter Tryz.func64, Tryz.ntmps64
    go_wp2_with (go_at_call 97; refine k.mono ?_; rintro _ w2 ⟨⟨v, rfl, hO⟩, hb2⟩)
    go_ret
    exact ⟨rfl, hb2⟩
  | false =>
    rw [e1, ho, if_neg (by decide)] at k
    rw [if_neg (by decide)]
    clear e1
    go_enter Tryz.func64, Tryz.ntmps64
    go_wp2_with (go_at_call 97; refine k.mono ?_; rintro _ w2 ⟨⟨v, rfl, hO⟩, hb2⟩)
    go_ret
    exact ⟨rfl, hb2⟩
theorem okN_drop12 (n : Int) : ∀ (l : List Int) {c : Nat} {M : DM}, M.OkN c → (drop12 n M l).2.OkN (c + l.length)
  | [], _, _, h => h
  | a :: l, c, M, h => by
    rw [drop12_cons]
    split
    · split
      · exact (h.remove _).mono (by simp only [List.length_cons]; omega)
      · exact (okN_drop12 n l (h.remove _)).mono (by simp only [List.length_cons]; omega)
    · exact (okN_drop12 n l h).mono (by simp only [List.length_cons]; omega)
theorem OwnsI.at12 {w : World} {B : Nat} {p : Option Addr} {n c : Nat} {xs : List Int} (h : OwnsI w B (.slice p n c) xs) : xs.length = n ∧ n ≤ c ∧ ∀ j, j < n → ∃ g, p = some ⟨g, 0, none⟩ ∧ B ≤ g ∧ g < w.heap.size ∧ w.cell? ⟨g, j, none⟩ = some (.int .i64 (xs.getD j 0)) := by
  rcases h.2 with ⟨hv, hn⟩ | ⟨g, cap, cur, hv, hB, hg, hnc, _, _, _⟩
  · simp only [Value.slice.injEq] at hv
    obtain ⟨rfl, rfl, rfl⟩ := hv
    exact ⟨hn, Nat.le_refl _, fun j hj => absurd hj (by omega)⟩
  · simp only [Value.slice.injEq] at hv
    obtain ⟨rfl, rfl, rfl⟩ := hv
    refine ⟨rfl, hnc, fun j hj => ⟨g, rfl, hB, box_lt hg, ?_⟩⟩
    have hc := World.ownsRow.cells h (g := g) rfl j (.int .i64 (xs.getD j 0)) (by simp [hj, List.getD_eq_getElem?_getD])
    rw [Addr.add_lit, Nat.zero_add] at hc
    exact hc

set_option maxRecDepth 100000 in
set_option maxHeartbeats 1000000 in
theorem removeBelow_any {w0 wb w : World} {d c : Nat} {S T : Nat → Prop} {M : DM} (h : DiskT w0 wb w d S T M) (hT : ∀ k, T k → k < w.heap.size) (h0 : Gl11 w0) (hO : M.OkN c) (hc : c + 16777216 < 1099511627776) (n : Int) :
    Calls Tryz.prog 73 #[.pointer (some ⟨d, 0, none⟩), .int .i64 n] w fun e w' => e = .returned (.int .i64 ((drop12 n M (files12 M.listT).reverse).1 : Nat)) ∧ DiskT w0 wb w' d S T (drop12 n M (files12 M.listT).reverse).2 ∧ KeepS (ApT wb S T) w w' := by
  have kf := falling_any h h0 hO.inv
  have hlen := h.count hO.inv
  have hfl := files12_len M.listT
  have HIn : Hid (∀ a ∈ (files12 M.listT).reverse, 1 ≤ a ∧ a ≤ 999999999) := fun a ha => by
    have := files12_mem (List.mem_reverse.1 ha)
    exact ⟨this.1, this.2.1⟩
  have hfr : (files12 M.listT).reverse.length ≤ 16777216 := by rw [List.length_reverse]; omega
  generalize (files12 M.listT).reverse = sg at *
  have HD : Hid (DiskT w0 wb w d S T M) := h
  have HT : Hid (∀ k, T k → k < w.heap.size) := hT
  have HG : Hid (Gl11 w0) := h0
  have HO : Hid (M.OkN c) := hO
  clear h h0 hO hT hlen hfl
  go_enter Tryz.func73, Tryz.ntmps73
  go_wp2_with fail
  refine kf.mono ?_
  rintro _ w1 ⟨⟨p, m, q, rfl, ho1⟩, hb1⟩
  obtain ⟨hm, hmq, hat⟩ := ho1.at12
  subst hm
  have hz1 := hb1.size
  have HAt : Hid (∀ j, j < sg.length → ∃ g, p = some ⟨g, 0, none⟩ ∧ w.heap.size ≤ g ∧ g < w1.heap.size ∧ w1.cell? ⟨g, j, none⟩ = some (.int .i64 (sg.getD j 0))) := hat
  have HD1 : Hid (DiskT w0 wb w1 d S (fun k => T k ∨ w.heap.size ≤ k ∧ k < w1.heap.size) M) := HD.out.add hb1 fun k hk => hk.imp id And.left
  have HK1 : Hid (KeepS (ApT wb S T) w w1) := KeepS.of_below hb1 fun k hk => HD.out.apt_lt HT.out hk
  clear kf ho1 hat hb1 HD
  go_wp2
  go_loopw [10] (fun s10 wr => ∃ j : Nat, s10 = .int .i64 (j : Nat) ∧ j ≤ sg.length ∧ Hid ((drop12 n M (sg.take j)).1 = 0) ∧ Hid (DiskT w0 wb wr d S (fun k => T k ∨ w.heap.size ≤ k ∧ k < w1.heap.size) (drop12 n M (sg.take j)).2) ∧ Hid (KeepS (ApT wb S fun k => T k ∨ w.heap.size ≤ k ∧ k < w1.heap.size) w1 wr)) (fun s10 _ => sg.length - (intOf s10).toNat)
  case atStart => exact ⟨0, rfl, Nat.zero_le _, rfl, HD1, KeepS.refl _ _⟩
  case round =>
    obtain ⟨j, rfl, hj, HZ, HDr, HKr⟩ := hrel
    by_cases hjn : j < sg.length
    · obtain ⟨g, hp, hg1, hg2, hcl⟩ := HAt.out j hjn
      have hcr : wr.cell? ⟨g, j, none⟩ = some (.int .i64 (sg.getD j 0)) := (World.cell?_of_block (a := ⟨g, j, none⟩) (HKr.out.same g (.inl (.inr ⟨hg1, hg2⟩)))).trans hcl
      have hgr : g < wr.heap.size := Nat.lt_of_lt_of_le hg2 HKr.out.size
      have hmem : sg.getD j 0 ∈ sg := by
        rw [List.getD_eq_getElem?_getD, List.getElem?_eq_getElem hjn]
        exact List.getElem_mem _
      obtain ⟨ha1, ha2⟩ := HIn.out _ hmem
      have HN : Hid (drop12 n M (sg.take (j + 1)) = if sg.getD j 0 < n then (if ((drop12 n M (sg.take j)).2.remove (nameB12 (sg.getD j 0))).1 = 9 then (9, ((drop12 n M (sg.take j)).2.remove (nameB12 (sg.getD j 0))).2) else (0, ((drop12 n M (sg.take j)).2.remove (nameB12 (sg.getD j 0))).2)) else (0, (drop12 n M (sg.take j)).2)) := by
        have e : sg.take (j + 1) = sg.take j ++ [sg.getD j 0] := by
          rw [List.take_add_one, List.getElem?_eq_getElem hjn, List.getD_eq_getElem?_getD, List.getElem?_eq_getElem hjn]
          rfl
        rw [Hid, e, drop12_app, if_neg (by rw [HZ.out]; decide)]
        exact drop12_one _ _ _
      have HS9 : Hid ((drop12 n M (sg.take (j + 1))).1 = 9 → drop12 n M sg = drop12 n M (sg.take (j + 1))) := fun h9 => by
        conv => lhs; rw [← List.take_append_drop (j + 1) sg]
        rw [drop12_app, if_pos h9]
      have hOk := okN_drop12 n (sg.take j) HO.out
      have hlt : (sg.take j).length ≤ 16777216 := by rw [List.length_take]; omega
      have hTr : ∀ k, (T k ∨ w.heap.size ≤ k ∧ k < w1.heap.size) → k < wr.heap.size := fun k hk => by
        have h1 := HKr.out.size
        rcases hk with hk | hk
        · have := HT.out k hk; omega
        · omega
      have hsn := nameB_size12 (sg.getD j 0)
      have KN : Hid (Calls Tryz.prog 15 #[.int .i64 (sg.getD j 0)] wr fun e w' => e = .returned (.string (nameB12 (sg.getD j 0))) ∧ Below wr.heap.size wr w') := nameS_any _ ⟨by omega, by omega⟩ wr (HG.out.below HDr.out.bel (Nat.le_refl _))
      have KR : Hid (∀ Y, Below wr.heap.size wr Y → Calls Tryz.prog 33 #[.pointer (some ⟨d, 0, none⟩), .string (nameB12 (sg.getD j 0))] Y fun e w' => e = .returned (.int .i64 (((drop12 n M (sg.take j)).2.remove (nameB12 (sg.getD j 0))).1 : Nat)) ∧ DiskT w0 wb w' d S (fun k => T k ∨ w.heap.size ≤ k ∧ k < w1.heap.size) ((drop12 n M (sg.take j)).2.remove (nameB12 (sg.getD j 0))).2 ∧ KeepS (ApT wb S fun k => T k ∨ w.heap.size ≤ k ∧ k < w1.heap.size) wr w') := fun Y hY => by
        refine ((HDr.out.below hY).remove (fun k hk => Nat.lt_of_lt_of_le (hTr k hk) hY.size) hOk (by omega) (by unfold maxLen; omega)).mono ?_
        rintro e w' ⟨r1, r2, r3⟩
        exact ⟨r1, r2, (KeepS.of_below hY fun k hk => HDr.out.apt_lt hTr hk).trans r3⟩
      rw [hp] at *
      clear hOk hmem hcl hTr HAt HIn hsn
      generalize (drop12 n M (sg.take j)).2 = Mx at *
      generalize Mx.remove (nameB12 (sg.getD j 0)) = Y0 at *
      obtain ⟨re, My⟩ := Y0
      dsimp only at HN KR
      generalize nameB12 (sg.getD j 0) = nm at *
      generalize sg.getD j 0 = a at *
      by_cases han : a < n
      · rw [if_pos han] at HN
        go_wp2_with (first
          | (go_at_call 15; refine KN.out.mono ?_; rintro _ y1 ⟨rfl, hb1⟩; have kr := KR.out _ hb1)
          | (go_at_call 33; refine kr.mono ?_; rintro _ y2 ⟨rfl, hd2, hk2⟩; refine Halt8.out ?_))
        by_cases h9 : re = 9
        · subst h9
          rw [if_pos rfl] at HN
          have e9 := HS9.out (by rw [HN.out])
          rw [HN.out] at e9
          have HE : Hid (drop12 n M sg = (9, My)) := e9
          have HD2 : Hid (DiskT w0 wb y2 d S T My) := hd2.more fun k hk => .inl (.inl hk)
          have HK2 : Hid (KeepS (ApT wb S T) w y2) := HK1.out.trans ((HKr.out.trans hk2).mono12 fun k hk => hk.imp .inl id)
          clear hd2 hk2 e9 HN HS9
          constructor
          go_wp2
          go_ret
          exact ⟨by rw [HE.out]; rfl, by rw [HE.out]; exact HD2.out, HK2.out⟩
        · have h9' : ((re : Int) == 9) = false := by simp; omega
          rw [if_neg h9] at HN
          have HD2 : Hid (DiskT w0 wb y2 d S (fun k => T k ∨ w.heap.size ≤ k ∧ k < w1.heap.size) (drop12 n M (sg.take (j + 1))).2) := by rw [Hid, HN.out]; exact hd2
          have HK2 : Hid (KeepS (ApT wb S fun k => T k ∨ w.heap.size ≤ k ∧ k < w1.heap.size) w1 y2) := HKr.out.trans hk2
          have HZ2 : Hid ((drop12 n M (sg.take (j + 1))).1 = 0) := by rw [Hid, HN.out]
          clear hd2 hk2 HN HS9
          constructor
          go_wp2
          go_roundw
          case rel => exact ⟨j + 1, by go_num, by omega, HZ2, HD2, HK2⟩
          case measure => simp only [intOf]; omega
      · rw [if_neg han] at HN
        have HD2 : Hid (DiskT w0 wb wr d S (fun k => T k ∨ w.heap.size ≤ k ∧ k < w1.heap.size) (drop12 n M (sg.take (j + 1))).2) := by rw [Hid, HN.out]; exact HDr.out
        have HZ2 : Hid ((drop12 n M (sg.take (j + 1))).1 = 0) := by rw [Hid, HN.out]
        clear HN HS9 KN KR
        go_wp2
        go_roundw
        case rel => exact ⟨j + 1, by go_num, by omega, HZ2, HD2, HKr⟩
        case measure => simp only [intOf]; omega
    · obtain rfl : j = sg.length := by omega
      have HZ2 : Hid ((drop12 n M sg).1 = 0) := by
        have := HZ.out
        rw [List.take_length] at this
        exact this
      have HD2 : Hid (DiskT w0 wb wr d S T (drop12 n M sg).2) := by
        have := HDr.out
        rw [List.take_length] at this
        exact this.more fun k hk => .inl (.inl hk)
      have HK2 : Hid (KeepS (ApT wb S T) w wr) := HK1.out.trans (HKr.out.mono12 fun k hk => hk.imp .inl id)
      clear HZ HDr HKr HAt HIn HK1
      go_wp2
      go_ret
      exact ⟨by rw [HZ2.out]; rfl, HD2.out, HK2.out⟩
end Go.Proofs.YthlelcmifolnfaaGreatDoor

namespace Go.Proofs.YthlelcmifolnfaaGreatDoor
open Go.RowKit Go.Shelf Go.Maps
attribute [local go_sem ↓] ldS_exec stS_exec ldS_execI stS_execI ldS_run ldS_box oc_int oc_bool oc_string oc_slice oc_pointer
theorem load_errno12 (k : Nat) (v : Value) (W : World) (h : W.cell? ⟨k, 0, none⟩ = some v) : (loadVar 35 ⟨k, 0, none⟩).run Tryz.prog W = .ok v W := by
  simp [loadVar, go_sem, h]
theorem results_cell12 {fn : Func} {p : Tmp} {ty : TypeId} (h : fn.results = #[.cell p ty]) (tmps : Array Value) (P : Program) (w : World) (a : Addr) (v : Value) (hp : tmps.getD p undef = .pointer (some a)) (hl : (loadVar ty a).run P w = .ok v w) : (results fn tmps).run P w = .ok v w := by
  have hp' : tmps[p]?.getD undef = .pointer (some a) := by simpa using hp
  simp [results, h, hp', asAddr, hl]
theorem Has.hasX12 {w : World} {s : Sl10} {xs : List Int} (h : Has w (.slice s.p s.n s.c) xs) {S : Nat → Prop} (hS : ∀ k, inSl s k → ¬ S k) : HasX w S (.slice s.p s.n s.c) xs := by
  obtain ⟨q, d, e, h1, h2, h3⟩ := h
  simp only [Value.slice.injEq] at e
  obtain ⟨e1, e2, e3⟩ := e
  refine ⟨q, d, by rw [e1, e2, e3], h1, h2, fun h0 => ?_⟩
  obtain ⟨b, o, hp, hb, hc⟩ := h3 h0
  exact ⟨b, o, hp, hS b ⟨by omega, ⟨b, o, none⟩, by rw [e1, hp], rfl⟩, hb, hc⟩
theorem app_nz (x : ByteArray) : ∀ (l : List (List Int)) (M : DM) {c : Nat}, M.OkN c → (∀ b ∈ l, isB8 b) → (app12 x M l).2.OkN (c + l.length)
  | [], _, _, h, _ => h
  | b :: l, M, c, h, hb => by
    unfold app12
    have h1 := h.append x (hb b (List.mem_cons_self ..))
    split
    · exact (app_nz x l _ h1 fun y hy => hb y (List.mem_cons_of_mem _ hy)).mono (by rw [List.length_cons]; omega)
    · exact h1.mono (by rw [List.length_cons]; omega)
theorem isB_eq12 {xs : List Int} (h : IsB xs) : isB8 xs := fun z hz => by
  have := h z hz
  omega

set_option maxRecDepth 100000 in
set_option maxHeartbeats 1000000 in
theorem appendAll_any {w0 wb w : World} {d c : Nat} {S T : Nat → Prop} {M : DM} (h : DiskT w0 wb w d S T M) (hT : ∀ k, T k → k < w.heap.size) (h0 : Gl11 w0) (hO : M.OkN c) (hc : c + 1000 < 1099511627776) (x : SnapV) (Bm : Nat) (hF : FitsS w x) (hm : SnapAt w Bm x) (hX : ∀ k, snS x Bm k → ApT wb S T k) (hf : FewF x.f.f) (hd : x.d.length ≤ 1048576) :
    Calls Tryz.prog 68 #[.pointer (some ⟨d, 0, none⟩), .string newB12, .func (.func 104) #[] #[.pointer (some ⟨Bm, 0, none⟩)]] w fun e w' => e = .returned (.int .i64 ((app12 newB12 M (chunks12 x.s)).1 : Nat)) ∧ DiskT w0 wb w' d S T (app12 newB12 M (chunks12 x.s)).2 ∧ KeepS (ApT wb S T) w w' := by
  generalize hs : w.heap.size = s at *
  obtain ⟨w3, hw3⟩ : ∃ w3, ((w.alloc (.cells #[.pointer (some ⟨d, 0, none⟩)] 49)).alloc (.cells #[.string newB12] 9)).alloc (.cells #[.int .i64 0] 35) = w3 := ⟨_, rfl⟩
  have hb3 : Below s w w3 := by rw [← hw3]; exact (((Below.refl _ w).alloc (by omega) _).alloc (by simp; omega) _).alloc (by simp; omega) _
  have hz3 : w3.heap.size = s + 3 := by rw [← hw3]; simp; omega
  have b1 : Boxed w3 s 49 (.pointer (some ⟨d, 0, none⟩)) := by rw [← hw3, ← hs]; exact ((Boxed.new w _ _).alloc _).alloc _
  have b2 : Boxed w3 (s + 1) 9 (.string newB12) := by
    have := Boxed.new (w.alloc (.cells #[.pointer (some ⟨d, 0, none⟩)] 49)) 9 (.string newB12)
    rw [World.size_alloc, hs] at this
    rw [← hw3]; exact this.alloc _
  have b3 : Boxed w3 (s + 2) 35 (.int .i64 0) := by
    have := Boxed.new ((w.alloc (.cells #[.pointer (some ⟨d, 0, none⟩)] 49)).alloc (.cells #[.string newB12] 9)) 35 (.int .i64 0)
    rw [World.size_alloc, World.size_alloc, hs] at this
    rw [← hw3]; exact this
  have hb3' : Below w.heap.size w w3 := by rw [hs]; exact hb3
  have hTw : Tab w := (h0.below h.bel (Nat.le_refl _)).tab
  have hseq := chunks1_seq x Bm w3 (hTw.below hb3' (Nat.le_refl _)) (hF.below hb3') (box_below hm hb3') hf hd
  have HD3 : Hid (DiskT w0 wb w3 d S (fun k => T k ∨ s ≤ k ∧ k < s + 3) M) := h.add hb3' fun k hk => by rw [hs]; exact hk.imp id And.left
  have HK3 : Hid (KeepS (ApT wb S T) w w3) := KeepS.of_below hb3' fun k hk => h.apt_lt (by rw [hs]; exact hT) hk
  have HSeq : Hid (SeqZ Tryz.prog 104 #[] #[.pointer (some ⟨Bm, 0, none⟩)] (fun y : Sl10 × List Int => #[.slice y.1.p y.1.n y.1.c]) (snS x Bm) (fun y => inSl y.1) (OkC (chunks12 x.s)) (fun pre => pre.map Prod.snd = chunks12 x.s) w3) := hseq
  have hsS : ∀ k, snS x Bm k → k < s := fun k hk => by
    have := h.apt_lt (by rw [hs]; exact hT) (hX k hk)
    omega
  have HX : Hid _ := hX
  have HT : Hid (∀ k, T k → k < s) := hT
  have HO : Hid (M.OkN c) := hO
  have hzb : wb.heap.size ≤ s := by have := h.size; omega
  have HLen : Hid ((chunks12 x.s).length ≤ 300) := by
    have := (chunks_at x.s).1
    have h2 := snapB_big (s := x.s) hf hd
    rw [Hid, this]
    unfold npiece12
    omega
  clear h hF hm hseq hX hT hO hTw hb3 hb3'
  refine (callsIn_wide (n := 9)).1 ?_
  refine callsIn_of_wp_marks Tryz.func68 rfl trivial ?_ rfl
  simp only [Tryz.ntmps68, List.size_toArray, List.length_cons, List.length_nil, Nat.reduceAdd, Nat.reduceSub, Array.replicate_succ, Array.replicate_zero, List.push_toArray, List.append_toArray, List.nil_append, List.cons_append]
  gi_wp2
  refine range_seqZ (m := 7) (gf := 104) (fb := #[]) (lb := #[.pointer (some ⟨Bm, 0, none⟩)]) rfl (enters_of Tryz.func104 (by kernel_rfl) rfl) HSeq.out (fun k hk => by have := hsS k hk; omega) (fun _ => rfl)
    (fun T' pre X => Hid (DiskT w0 wb X d S (fun k => (T k ∨ s ≤ k ∧ k < s + 3) ∨ T' k) (app12 newB12 M (pre.map Prod.snd)).2) ∧ Hid ((app12 newB12 M (pre.map Prod.snd)).1 = 0 ∧ (app12 newB12 M (pre.map Prod.snd)).2.OkN (c + pre.length) ∧ pre.map Prod.snd <+: chunks12 x.s) ∧ Boxed X s 49 (.pointer (some ⟨d, 0, none⟩)) ∧ Boxed X (s + 1) 9 (.string newB12) ∧ Boxed X (s + 2) 35 (.int .i64 0) ∧ Hid (KeepS (ApT wb S T) w X) ∧ Hid (∀ k, T' k → s + 3 ≤ k))
    (fun T' cd pre X => cd = .ret ∧ ∃ r : Nat, Hid (DiskT w0 wb X d S (fun k => (T k ∨ s ≤ k ∧ k < s + 3) ∨ T' k) (app12 newB12 M (chunks12 x.s)).2) ∧ Hid ((app12 newB12 M (chunks12 x.s)).1 = r) ∧ Boxed X (s + 2) 35 (.int .i64 (r : Nat)) ∧ Hid (KeepS (ApT wb S T) w X) ∧ Hid (∀ k, T' k → s + 3 ≤ k)) ?hI ?hIx ?h0 (fun _ _ _ _ _ _ h hs => h.soft hs) ?hab ?hdone ?hstop
  case hI =>
    rintro T1 T2 pre X Y ⟨i1, i2, i3, i4, i5, i6, i7⟩ ht hT2
    have hzx := i6.out.size
    have hxs := i5.lt
    have hno : ∀ k, k < s + 3 → ¬ T1 k := fun k hk h => by have := i7.out k h; omega
    refine ⟨i1.out.turn (ht.mono fun k hk => .inl (.inr hk)) (fun k hk => ?_), i2, (ht.block _ i3.lt (hno _ (by omega))).trans i3, (ht.block _ i4.lt (hno _ (by omega))).trans i4, (ht.block _ i5.lt (hno _ (by omega))).trans i5, i6.out.trans ⟨ht.size, fun k hk => ht.block k ?_ (hno k ?_)⟩, fun k hk => ?_⟩
    · rcases hk with hk | hk
      · exact .inl (.inl hk)
      · exact (hT2 k hk).imp .inr id
    · rcases hk with hk | hk
      · have := HT.out k hk; omega
      · omega
    · rcases hk with hk | hk
      · have := HT.out k hk; omega
      · omega
    · rcases hT2 k hk with h | h
      · exact i7.out k h
      · omega
  case hIx =>
    rintro T1 T2 cd pre X Y ⟨i0, r, i1, i2, i5, i6, i7⟩ ht hT2
    have hzx := i6.out.size
    have hxs := i5.lt
    have hno : ∀ k, k < s + 3 → ¬ T1 k := fun k hk h => by have := i7.out k h; omega
    refine ⟨i0, r, i1.out.turn (ht.mono fun k hk => .inl (.inr hk)) (fun k hk => ?_), i2, (ht.block _ i5.lt (hno _ (by omega))).trans i5, i6.out.trans ⟨ht.size, fun k hk => ht.block k ?_ (hno k ?_)⟩, fun k hk => ?_⟩
    · rcases hk with hk | hk
      · exact .inl (.inl hk)
      · exact (hT2 k hk).imp .inr id
    · rcases hk with hk | hk
      · have := HT.out k hk; omega
      · omega
    · rcases hk with hk | hk
      · have := HT.out k hk; omega
      · omega
    · rcases hT2 k hk with h | h
      · exact i7.out k h
      · omega
  case h0 =>
    exact ⟨HD3.out.more fun k hk => .inl (hk.elim id fun h => h.elim), ⟨rfl, HO.out, List.nil_prefix⟩, b1, b2, b3, HK3, fun _ h => h.elim⟩
  case hdone =>
    rintro T1 pre X hX hTX hTs hF ⟨i1, i2, i3, i4, i5, i6, i7⟩ hD
    obtain ⟨j1, j2, -⟩ := i2.out
    rw [hF] at i1 j1
    rw [hz3] at hD hTs hX
    have hxs := i5.lt
    have c5 := i5.cell
    have f5 := i5.frozen
    have b5 := i5.set (.int .i64 0)
    have hD2 : (X.setCell ⟨s + 2, 0, none⟩ (.int .i64 0)).heap[s + 3]? = some (.deferred (some [])) := (Below.heap_setCell _ _ _ _ (by show s + 3 ≠ s + 2; omega)).trans hD
    have t1 : Turn (fun k => (T k ∨ s ≤ k ∧ k < s + 3) ∨ T1 k) X (X.setCell ⟨s + 2, 0, none⟩ (.int .i64 0)) := (Turn.refl _ X).setCell (p := ⟨s + 2, 0, none⟩) (.inl (.inl (.inr ⟨by show s ≤ s + 2; omega, by show s + 2 < s + 3; omega⟩))) _
    have t2 : Turn (fun k => (T k ∨ s ≤ k ∧ k < s + 3) ∨ T1 k) (X.setCell ⟨s + 2, 0, none⟩ (.int .i64 0)) ((X.setCell ⟨s + 2, 0, none⟩ (.int .i64 0)).putObj (s + 3) (.deferred none)) := Turn.putObj _ (.inr hTs)
    have HE : Hid (DiskT w0 wb ((X.setCell ⟨s + 2, 0, none⟩ (.int .i64 0)).putObj (s + 3) (.deferred none)) d S T (app12 newB12 M (chunks12 x.s)).2) := i1.out.turn (t1.trans t2) fun k hk => .inl (.inl (.inl hk))
    have HKE : Hid (KeepS (ApT wb S T) w ((X.setCell ⟨s + 2, 0, none⟩ (.int .i64 0)).putObj (s + 3) (.deferred none))) := (i6.out.setCell (p := ⟨s + 2, 0, none⟩) (fun h => by
        rcases h with h | h
        · have := HT.out _ h; exact absurd this (by show ¬ s + 2 < s; omega)
        · have h1 : s + 2 < wb.heap.size := h.1; omega) _).putObj (fun h => by
        rcases h with h | h
        · have := HT.out _ h; omega
        · omega) _
    have hc9 : ((X.setCell ⟨s + 2, 0, none⟩ (.int .i64 0)).putObj (s + 3) (.deferred none)).cell? ⟨s + 2, 0, none⟩ = some (.int .i64 0) := Boxed.cell (t := 35) ((World.putObj_heap_other (by omega)).trans b5)
    have HJ1 : Hid ((app12 newB12 M (chunks12 x.s)).1 = 0) := j1
    rw [hz3]
    clear i1 i2 i3 i4 i5 i6 j1 j2 t1 t2 HSeq hF b5
    gi_wp2
    refine ⟨by simp, .inl ⟨_, _, rfl, run_takeDeferred hD2, ?_⟩⟩
    refine ⟨_, results_cell12 rfl _ _ _ ⟨s + 2, 0, none⟩ _ rfl (load_errno12 _ _ _ hc9), ?_, HE.out, HKE.out⟩
    rw [HJ1.out]; rfl
  case hstop =>
    rintro T1 cd pre X hX hTX hTs ⟨rfl, r, i1, i2, i5, i6, i7⟩ hD
    rw [hz3] at hD hTs hX
    have t2 : Turn (fun k => (T k ∨ s ≤ k ∧ k < s + 3) ∨ T1 k) X (X.putObj (s + 3) (.deferred none)) := Turn.putObj _ (.inr hTs)
    have HE : Hid (DiskT w0 wb (X.putObj (s + 3) (.deferred none)) d S T (app12 newB12 M (chunks12 x.s)).2) := i1.out.turn t2 fun k hk => .inl (.inl (.inl hk))
    have HKE : Hid (KeepS (ApT wb S T) w (X.putObj (s + 3) (.deferred none))) := i6.out.putObj (fun h => by
        rcases h with h | h
        · have := HT.out _ h; omega
        · omega) _
    have hc9 : (X.putObj (s + 3) (.deferred none)).cell? ⟨s + 2, 0, none⟩ = some (.int .i64 (r : Nat)) := Boxed.cell (t := 35) ((World.putObj_heap_other (by omega)).trans i5)
    have HR : Hid ((app12 newB12 M (chunks12 x.s)).1 = r) := i2
    rw [hz3]
    clear i1 i2 i5 i6 t2 HSeq
    gi_wp2
    refine ⟨by simp, .inl ⟨_, _, rfl, run_takeDeferred hD, ?_⟩⟩
    refine ⟨_, results_cell12 rfl _ _ _ ⟨s + 2, 0, none⟩ _ rfl (load_errno12 _ _ _ hc9), ?_, HE.out, HKE.out⟩
    rw [HR.out]
  case hab =>
    refine ⟨?_, ?_, ?_⟩
    rotate_left
    · intro l' j X K hK
      have hsem := @Oper.semAt_some l'
      gi_wp2
      exact hK
    · rintro l' T' pre ⟨ys, yb⟩ X hX hTX hok ⟨i1, i2, i3, i4, i5, i6, i7⟩
      have hsem := @Oper.semAt_some l'
      obtain ⟨j1, j2, j3⟩ := i2.out
      have okp := hok.pre
      have hpl := okp.length_le
      rw [List.length_map, List.length_append, List.length_singleton] at hpl
      have hll := HLen.out
      have HA : Hid (app12 newB12 M ((pre ++ [(ys, yb)]).map Prod.snd) = (app12 newB12 M (pre.map Prod.snd)).2.append newB12 yb) := by
        rw [Hid, List.map_append, app_app, if_pos j1]
        exact app_one _ _ _
      have HS : Hid (((app12 newB12 M (pre.map Prod.snd)).2.append newB12 yb).1 ≠ 0 → app12 newB12 M (chunks12 x.s) = (app12 newB12 M (pre.map Prod.snd)).2.append newB12 yb) := fun hne => by
        obtain ⟨t, ht⟩ := okp
        rw [← ht, app_app, HA.out, if_neg hne]
      rw [hz3] at hTX hX
      have hTlt : ∀ k, ((T k ∨ s ≤ k ∧ k < s + 3) ∨ recT (s + 3) (fun k => T' k ∨ inSl ys k) k) → k < X.heap.size := fun k hk => by
        rcases hk with (hk | hk) | hk
        · have := HT.out k hk; omega
        · omega
        · rcases hk with (hk | hk) | hk
          · exact (hTX k hk).2
          · exact hok.has.inSl_lt hk
          · omega
      have hyl : (yb).length ≤ 4104 := hok.len
      rw [hz3] at i1 i7
      have ka := i1.out.append hTlt j2 (by omega) (x := newB12) (by decide) (v := .slice ys.p ys.n ys.c) (bs := yb) (hok.has.hasX12 fun k hk h => h (.inr (.inl (.inr hk)))) (by omega)
      have HO2 : Hid (((app12 newB12 M (pre.map Prod.snd)).2.append newB12 yb).2.OkN (c + pre.length + 1)) := j2.append _ (isB_eq12 hok.isB)
      have HP : Hid ((pre ++ [(ys, yb)]).map Prod.snd <+: chunks12 x.s) := okp
      have HI6 : Hid (KeepS (ApT wb S T) w X) := i6
      have HI7 : Hid _ := i7
      have B3 : Hid (Boxed X s 49 (.pointer (some ⟨d, 0, none⟩))) := i3
      have B4 : Hid (Boxed X (s + 1) 9 (.string newB12)) := i4
      have B5 : Hid (Boxed X (s + 2) 35 (.int .i64 0)) := i5
      have e3 := i3.cell
      have e4 := i4.cell
      have m3 := i3.lt
      have m4 := i4.lt
      clear i1 i2 i3 i4 i5 i6 i7 j1 j2 j3 okp hok HSeq
      generalize (app12 newB12 M (pre.map Prod.snd)).2.append newB12 yb = R at *
      obtain ⟨re, My⟩ := R
      dsimp only at ka HA HS HO2
      generalize newB12 = nb at *
      rw [hz3]
      gi_wp2_with fail
      refine ⟨trivial, ?_⟩
      refine (CallsIn.inRound l' (callsIn_wide.2 ka)).mono ?_
      rintro _ Z ⟨rfl, hdZ, hkZ⟩
      have hzZ := hkZ.size
      have K5 : Hid (KeepS (snS x Bm) X Z ∧ KeepS (recT (s + 3) T') X Z) := ⟨hkZ.mono12 fun k hk => by
          rcases HX.out k hk with h | h
          · exact .inl (.inl (.inl h))
          · exact .inr h, hkZ.mono12 fun k hk => .inl (.inr (hk.imp .inl id))⟩
      have bz3 : Boxed Z s 49 (.pointer (some ⟨d, 0, none⟩)) := hkZ.box B3.out (.inl (.inl (.inr ⟨Nat.le_refl _, by omega⟩)))
      have bz4 : Boxed Z (s + 1) 9 (.string nb) := hkZ.box B4.out (.inl (.inl (.inr ⟨by omega, by omega⟩)))
      have bz5 : Boxed Z (s + 2) 35 (.int .i64 0) := hkZ.box B5.out (.inl (.inl (.inr ⟨by omega, by omega⟩)))
      have HKw : Hid (KeepS (ApT wb S T) w Z) := HI6.out.trans (hkZ.mono12 fun k hk => hk.imp (fun h => .inl (.inl h)) id)
      have HDZ : Hid (DiskT w0 wb Z d S (fun k => (T k ∨ s ≤ k ∧ k < s + 3) ∨ recT (s + 3) T' k) My) := hdZ.more fun k hk => .inl (hk.imp id fun h => h.imp .inl id)
      have H7 : Hid (∀ k, recT (s + 3) T' k → s + 3 ≤ k) := fun k hk => HI7.out k (hk.imp .inl id)
      clear ka hdZ hkZ e3 e4 B3 B4 B5 HI6 HI7
      by_cases hre : re = 0
      · subst hre
        have HB : Hid (Boxed Z s 49 (.pointer (some ⟨d, 0, none⟩)) ∧ Boxed Z (s + 1) 9 (.string nb) ∧ Boxed Z (s + 2) 35 (.int .i64 0)) := ⟨bz3, bz4, bz5⟩
        clear bz3 bz4 bz5 HS
        gi_wp2
        refine ⟨K5.out.1, K5.out.2, ?_, ⟨?_, ?_, HP.out⟩, HB.out.1, HB.out.2.1, HB.out.2.2, HKw, H7⟩
        · rw [HA.out]; exact HDZ
        · rw [HA.out]
        · rw [HA.out, List.length_append, List.length_singleton, ← Nat.add_assoc]; exact HO2.out
      · have hre' : ((re : Int) != 0) = true := by simp; omega
        have c5 := bz5.cell
        have f5 := bz5.frozen
        have l5 := bz5.lt
        have b5 := bz5.set (.int .i64 (re : Nat))
        have t1 : Turn (fun k => (T k ∨ s ≤ k ∧ k < s + 3) ∨ recT (s + 3) T' k) Z (Z.setCell ⟨s + 2, 0, none⟩ (.int .i64 (re : Nat))) := (Turn.refl _ Z).setCell (p := ⟨s + 2, 0, none⟩) (.inl (.inl (.inr ⟨by show s ≤ s + 2; omega, by show s + 2 < s + 3; omega⟩))) _
        have HE : Hid (DiskT w0 wb (Z.setCell ⟨s + 2, 0, none⟩ (.int .i64 (re : Nat))) d S (fun k => (T k ∨ s ≤ k ∧ k < s + 3) ∨ recT (s + 3) T' k) My) := HDZ.out.turn t1 fun _ h => .inl h
        have hsS2 : ∀ k, ApT wb S T k → k ≠ s + 2 := fun k hk => by
          rcases hk with hk | hk
          · have := HT.out k hk; omega
          · omega
        have HK1 : Hid (KeepS (snS x Bm) X (Z.setCell ⟨s + 2, 0, none⟩ (.int .i64 (re : Nat))) ∧ KeepS (recT (s + 3) T') X (Z.setCell ⟨s + 2, 0, none⟩ (.int .i64 (re : Nat))) ∧ KeepS (ApT wb S T) w (Z.setCell ⟨s + 2, 0, none⟩ (.int .i64 (re : Nat)))) := ⟨K5.out.1.setCell (p := ⟨s + 2, 0, none⟩) (fun h => hsS2 _ (HX.out _ h) rfl) _, K5.out.2.setCell (p := ⟨s + 2, 0, none⟩) (fun h => by have h1 : s + 3 ≤ s + 2 := H7.out _ h; omega) _, HKw.out.setCell (p := ⟨s + 2, 0, none⟩) (fun h => hsS2 _ h rfl) _⟩
        have HB5 : Hid (Boxed (Z.setCell ⟨s + 2, 0, none⟩ (.int .i64 (re : Nat))) (s + 2) 35 (.int .i64 (re : Nat))) := b5
        have HSS := HS.out hre
        have HSR : Hid (app12 nb M (chunks12 x.s) = (re, My)) := HSS
        clear bz3 bz4 bz5 b5 t1 HSS HS
        gi_wp2
        refine ⟨HK1.out.1, HK1.out.2.1, rfl, re, ?_, ?_, HB5.out, HK1.out.2.2, H7⟩
        · rw [HSR.out]; exact HE
        · rw [HSR.out]; rfl
end Go.Proofs.YthlelcmifolnfaaGreatDoor

namespace Go.Proofs.YthlelcmifolnfaaGreatDoor
open Go.RowKit Go.Shelf Go.Maps
set_option maxRecDepth 100000 in
set_option maxHeartbeats 400000 in
theorem inOrder_any (n g : Nat) (fs : Nat → Nat) (fb lb : Nat → Array Value) (w : World) (J E : Nat → World → Prop) (hn : n ≤ 100)
    (hrow : ∀ X j, J j X → j < n → X.cell? ⟨g, j, none⟩ = some (.func (.func (fs j)) (fb j) (lb j)) ∧ g < X.heap.size)
    (hent : ∀ j, j < n → ∀ args w, (callFunc (fs j) args).run Tryz.prog w = .ok (.enter (fs j) args) w)
    (hstep : ∀ j X, j < n → J j X → Calls Tryz.prog (fs j) (fb j ++ lb j) X fun e Y => ∃ r : Nat, e = .returned (.int .i64 (r : Nat)) ∧ (r = 0 → J (j + 1) Y) ∧ (r ≠ 0 → E r Y))
    (h0 : J 0 w) :
    Calls Tryz.prog 65 #[.slice (some ⟨g, 0, none⟩) n n] w fun e w' => ∃ r : Nat, e = .returned (.int .i64 (r : Nat)) ∧ (r = 0 → J n w') ∧ (r ≠ 0 → E r w') := by
  have HR : Hid _ := hrow
  have HE : Hid _ := hent
  have HS : Hid _ := hstep
  have H0 : Hid (J 0 w) := h0
  clear hrow hent hstep h0
  go_enter Tryz.func65, Tryz.ntmps65
  go_wp2
  go_loopw [8] (fun s8 wr => ∃ j : Nat, s8 = .int .i64 (j : Nat) ∧ j ≤ n ∧ Hid (J j wr)) (fun s8 _ => n - (intOf s8).toNat)
  case atStart => exact ⟨0, rfl, Nat.zero_le _, H0⟩
  case round =>
    obtain ⟨j, rfl, hj, HJ⟩ := hrel
    by_cases hjn : j < n
    · obtain ⟨hc, hg⟩ := HR.out wr j HJ.out hjn
      have he := HE.out j hjn
      have hs := HS.out j wr hjn HJ.out
      obtain ⟨J1, HT⟩ : ∃ J1, Hid (J (j + 1) = J1) := ⟨_, rfl⟩
      rw [HT.out] at hs
      clear HR HE HS H0 HJ
      generalize fs j = f at *
      generalize fb j = b at *
      generalize lb j = c at *
      go_wp2_with fail
      refine hs.mono ?_
      rintro _ Y ⟨r, rfl, h1, h2⟩
      have H1 : Hid _ := h1
      have H2 : Hid _ := h2
      clear h1 h2 hs he
      by_cases hr : r = 0
      · have H3 := H1.out hr
        have H4 : Hid (J1 Y) := H3
        subst hr
        clear H1 H2 H3
        go_wp2
        go_roundw
        case rel => exact ⟨j + 1, by go_num, by omega, by rw [HT.out]; exact H4.out⟩
        case measure => simp only [intOf]; omega
      · have hr' : ((r : Int) != 0) = true := by simp; omega
        go_wp2
        go_ret
        exact ⟨r, rfl, fun h => absurd h hr, H2.out⟩
    · obtain rfl : j = n := by omega
      clear HR HE HS H0
      go_wp2
      go_ret
      exact ⟨0, rfl, fun _ => HJ.out, fun h => absurd rfl h⟩
end Go.Proofs.YthlelcmifolnfaaGreatDoor

namespace Go.Proofs.YthlelcmifolnfaaGreatDoor
open Go.RowKit Go.Shelf Go.Maps
attribute [local go_sem ↓] ldS_exec stS_exec ldS_execI stS_execI ldS_run ldS_box oc_int oc_bool oc_string oc_slice oc_pointer
section
variable {w0 wb w : World} {d c : Nat} {S T : Nat → Prop} {M : DM}
theorem newB_str12 : (⟨#[115, 110, 97, 112, 46, 110, 101, 119]⟩ : ByteArray) = newB12 := by decide +kernel
set_option maxRecDepth 100000 in
set_option maxHeartbeats 400000 in
theorem save1_any (h : DiskT w0 wb w d S T M) (hT : ∀ k, T k → k < w.heap.size) (hO : M.OkN c) (hc : c < 1099511627776) {bd : Nat} (hbd : Boxed w bd 49 (.pointer (some ⟨d, 0, none⟩))) :
    Calls Tryz.prog 66 #[.pointer (some ⟨bd, 0, none⟩)] w fun e w' => e = .returned (.int .i64 ((M.create newB12).1 : Nat)) ∧ DiskT w0 wb w' d S T (M.create newB12).2 ∧ KeepS (ApT wb S T) w w' := by
  have k := h.create hT hO hc (x := newB12) (by decide)
  have c0 := hbd.cell
  have l0 := hbd.lt
  rw [← newB_str12] at k ⊢
  clear h hO hT hbd
  go_enter Tryz.func66, Tryz.ntmps66
  go_wp2_with fail
  refine k.mono ?_
  rintro _ w1 ⟨rfl, h1, h2⟩
  go_wp2
  go_ret
  exact ⟨rfl, h1, h2⟩
set_option maxRecDepth 100000 in
set_option maxHeartbeats 400000 in
theorem save3_any (h : DiskT w0 wb w d S T M) (hT : ∀ k, T k → k < w.heap.size) (hO : M.OkN c) (hc : c < 1099511627776) {bd bn : Nat} (hbd : Boxed w bd 49 (.pointer (some ⟨d, 0, none⟩))) {nm : ByteArray} (hbn : Boxed w bn 9 (.string nm)) (hs : nm.size ≤ maxLen) :
    Calls Tryz.prog 70 #[.pointer (some ⟨bd, 0, none⟩), .pointer (some ⟨bn, 0, none⟩)] w fun e w' => e = .returned (.int .i64 ((M.rename newB12 nm).1 : Nat)) ∧ DiskT w0 wb w' d S T (M.rename newB12 nm).2 ∧ KeepS (ApT wb S T) w w' := by
  have k := h.rename hT hO hc (a := newB12) (b := nm) (by decide) hs
  have c0 := hbd.cell
  have l0 := hbd.lt
  have c1 := hbn.cell
  have l1 := hbn.lt
  rw [← newB_str12] at k ⊢
  clear h hO hT hbd hbn
  go_enter Tryz.func70, Tryz.ntmps70
  go_wp2_with fail
  refine k.mono ?_
  rintro _ w1 ⟨rfl, h1, h2⟩
  go_wp2
  go_ret
  exact ⟨rfl, h1, h2⟩
set_option maxRecDepth 100000 in
set_option maxHeartbeats 400000 in
theorem save4_any (h : DiskT w0 wb w d S T M) (hT : ∀ k, T k → k < w.heap.size) (h0 : Gl11 w0) (hO : M.OkN c) (hc : c + 16777216 < 1099511627776) {bd bs : Nat} (hbd : Boxed w bd 49 (.pointer (some ⟨d, 0, none⟩))) {x : SnapV} (hbs : SnapAt w bs x) :
    Calls Tryz.prog 72 #[.pointer (some ⟨bd, 0, none⟩), .pointer (some ⟨bs, 0, none⟩)] w fun e w' => e = .returned (.int .i64 ((drop12 x.i M (files12 M.listT).reverse).1 : Nat)) ∧ DiskT w0 wb w' d S T (drop12 x.i M (files12 M.listT).reverse).2 ∧ KeepS (ApT wb S T) w w' := by
  have k := removeBelow_any h hT h0 hO hc x.i
  have c0 := hbd.cell
  have l0 := hbd.lt
  obtain ⟨c1, -⟩ := SnapAt.cells hbs
  have l1 := box_lt hbs
  clear h hO hT hbd hbs h0
  generalize drop12 x.i M (files12 M.listT).reverse = R at *
  go_enter Tryz.func72, Tryz.ntmps72
  go_wp2_with fail
  refine k.mono ?_
  rintro _ w1 ⟨rfl, h1, h2⟩
  go_wp2
  go_ret
  exact ⟨rfl, h1, h2⟩
set_option maxRecDepth 100000 in
set_option maxHeartbeats 400000 in
theorem save2_any (h : DiskT w0 wb w d S T M) (hT : ∀ k, T k → k < w.heap.size) (h0 : Gl11 w0) (hO : M.OkN c) (hc : c + 1000 < 1099511627776) {bd bs : Nat} (hbd : Boxed w bd 49 (.pointer (some ⟨d, 0, none⟩))) {x : SnapV} (hbs : SnapAt w bs x) (hF : FitsS w x) (hX : ∀ k, inSn x k ∨ k = 0 → ApT wb S T k) (gbd : ApT wb S T bd) (gbs : ApT wb S T bs) (hf : FewF x.f.f) (hd : x.d.length ≤ 1048576) :
    Calls Tryz.prog 67 #[.pointer (some ⟨bd, 0, none⟩), .pointer (some ⟨bs, 0, none⟩)] w fun e w' => e = .returned (.int .i64 ((app12 newB12 M (chunks12 x.s)).1 : Nat)) ∧ DiskT w0 wb w' d S T (app12 newB12 M (chunks12 x.s)).2 ∧ KeepS (ApT wb S T) w w' := by
  have hbv : Below w.heap.size w w.drew := on_drew12 (Below.refl _ _)
  have hzv : w.drew.heap.size = w.heap.size := rfl
  have kc := chunksS_any x w.drew
  have hb1 : Below w.drew.heap.size w.drew (w.drew.alloc (.cells x.arr 27)) := (Below.refl _ _).alloc (Nat.le_refl _) _
  have hz1 : (w.drew.alloc (.cells x.arr 27)).heap.size = w.drew.heap.size + 1 := by simp
  have hD1 : DiskT w0 wb (w.drew.alloc (.cells x.arr 27)) d S (fun k => T k ∨ k = w.drew.heap.size) M := (h.below hbv).add hb1 fun k hk => hk.imp id fun h => by omega
  have ka := appendAll_any hD1 (fun k hk => by rcases hk with hk | hk; (have := hT k hk; omega); omega) h0 hO hc x w.drew.heap.size ((hF.below hbv).below hb1) (heap_alloc_new w.drew _) (fun k hk => by
    rcases hk with hk | hk | hk
    · exact (hX k (.inr hk)).imp .inl id
    · exact .inl (.inr hk)
    · exact (hX k (.inl hk)).imp .inl id) hf hd
  have HK : Hid (KeepS (ApT wb S T) w (w.drew.alloc (.cells x.arr 27))) := KeepS.of_below (hbv.trans (hb1.mono (by omega))) fun k hk => h.apt_lt hT hk
  have bd1 : Boxed w.drew bd 49 (.pointer (some ⟨d, 0, none⟩)) := (hbv.block _ hbd.lt).trans hbd
  have bs1 : SnapAt w.drew bs x := box_below hbs hbv
  have s0 : w.drew.cell? ⟨bd, 0, none⟩ = some (.pointer (some ⟨d, 0, none⟩)) ∧ (ldS (.pointer (some ⟨bs, 0, none⟩))).run Tryz.prog w.drew = .ok (.agg x.arr) w.drew := ⟨bd1.cell, ldS_box w.drew _ _ _ _ bs1 rfl⟩
  have bd2 : Boxed (w.drew.alloc (.cells x.arr 27)) bd 49 (.pointer (some ⟨d, 0, none⟩)) := (hb1.block _ bd1.lt).trans bd1
  have bs2 : SnapAt (w.drew.alloc (.cells x.arr 27)) bs x := box_below bs1 hb1
  have s1 : (w.drew.alloc (.cells x.arr 27)).cell? ⟨bd, 0, none⟩ = some (.pointer (some ⟨d, 0, none⟩)) ∧ (ldS (.pointer (some ⟨bs, 0, none⟩))).run Tryz.prog (w.drew.alloc (.cells x.arr 27)) = .ok (.agg x.arr) (w.drew.alloc (.cells x.arr 27)) := ⟨bd2.cell, ldS_box _ _ _ _ _ bs2 rfl⟩
  have l0 := bd1.lt
  have l1 := box_lt bs1
  have s3 : (w.alloc (.cells x.arr 27)).drew.cell? ⟨bd, 0, none⟩ = some (.pointer (some ⟨d, 0, none⟩)) := s1.1
  have s4 : (ldS (.pointer (some ⟨bs, 0, none⟩))).run Tryz.prog (w.alloc (.cells x.arr 27)).drew = .ok (.agg x.arr) (w.alloc (.cells x.arr 27)).drew := s1.2
  have ka2 : Calls Tryz.prog 68 #[.pointer (some ⟨d, 0, none⟩), .string newB12, .func (.func 104) #[] #[.pointer (some ⟨w.heap.size, 0, none⟩)]] (w.alloc (.cells x.arr 27)).drew _ := ka
  have KK : Hid (∀ w2 M2, DiskT w0 wb w2 d S (fun k => T k ∨ k = w.drew.heap.size) M2 ∧ KeepS (ApT wb S fun k => T k ∨ k = w.drew.heap.size) (w.drew.alloc (.cells x.arr 27)) w2 → DiskT w0 wb w2 d S T M2 ∧ KeepS (ApT wb S T) w w2) := fun w2 M2 h => ⟨h.1.more fun k hk => .inl (.inl hk), HK.out.trans (h.2.mono12 fun k hk => hk.imp .inl id)⟩
  have S2 : Hid (∀ w2 M2, DiskT w0 wb w2 d S (fun k => T k ∨ k = w.drew.heap.size) M2 ∧ KeepS (ApT wb S fun k => T k ∨ k = w.drew.heap.size) (w.drew.alloc (.cells x.arr 27)) w2 → ApT wb S T bd → ApT wb S T bs → w2.cell? ⟨bd, 0, none⟩ = some (.pointer (some ⟨d, 0, none⟩)) ∧ (ldS (.pointer (some ⟨bs, 0, none⟩))).run Tryz.prog w2 = .ok (.agg x.arr) w2) := fun w2 M2 h g1 g2 => by
    have e1 : Boxed w2 bd 49 (.pointer (some ⟨d, 0, none⟩)) := h.2.box bd2 (g1.imp .inl id)
    have e2 : SnapAt w2 bs x := (h.2.same bs (g2.imp .inl id)).trans bs2
    exact ⟨e1.cell, ldS_box _ _ _ _ _ e2 rfl⟩
  rw [← newB_str12] at ka2 ⊢
  clear ka
  clear h hO hT hbd hbs h0 hF hD1 hb1 bd1 bs1 bd2 bs2 HK hbv hzv hz1 hX
  generalize app12 ⟨#[115, 110, 97, 112, 46, 110, 101, 119]⟩ M (chunks12 x.s) = R at *
  go_enter Tryz.func67, Tryz.ntmps67
  go_wp2_with fail
  go_region_held3 (fun w' => w'.cell? ⟨bd, 0, none⟩ = some (.pointer (some ⟨d, 0, none⟩)) ∧ (ldS (.pointer (some ⟨bs, 0, none⟩))).run Tryz.prog w' = .ok (.agg x.arr) w')
    (first | (with_reducible exact s0) | (with_reducible exact ⟨s3, s4⟩) | (with_reducible exact s2) | (with_reducible assumption) | (with_reducible exact s0.1) | (with_reducible exact s0.2))
    (first
      | (go_at_call 44; refine kc.mono ?_; rintro _ w1 ⟨rfl, rfl⟩)
      | (go_at_call 68; refine ka2.mono ?_; rintro _ w2 ⟨rfl, h12⟩; have s2 := S2.out w2 R.2 h12 gbd gbs; have s5 := s2.1; have s6 := s2.2))
  have hfin := KK.out w2 R.2 h12
  clear s0 s1 s2 s3 s4 s5 s6
  go_wp2
  go_ret
  exact ⟨rfl, hfin.1, hfin.2⟩
end
def st12 (M : DM) (s : Snap10) : Nat → Nat × DM
  | 0 => (0, M)
  | 1 => sav1 M
  | 2 => sav2 M s
  | 3 => sav3 M s
  | 4 => sav4 M s
  | _ => sav5 M s
theorem st12_step (M : DM) (s : Snap10) (j : Nat) (hj : 1 ≤ j) (h : (st12 M s j).1 ≠ 0) : st12 M s (j + 1) = st12 M s j := by
  match j, hj with
  | 1, _ => exact if_neg h
  | 2, _ => exact if_neg h
  | 3, _ => exact if_neg h
  | 4, _ => exact if_neg h
  | j + 5, _ => rfl
theorem st12_end (M : DM) (s : Snap10) : ∀ (n j : Nat), 1 ≤ j → (st12 M s j).1 ≠ 0 → st12 M s (j + n) = st12 M s j
  | 0, j, _, _ => rfl
  | n + 1, j, hj, h => by
    have e := st12_end M s n j hj h
    rw [← Nat.add_assoc, st12_step M s (j + n) (by omega) (by rw [e]; exact h), e]
theorem chunks_isB12 {s : Snap10} (h : IsB s.d) : ∀ b ∈ chunks12 s, isB8 b := fun b hb => by
  unfold chunks12 at hb
  rcases List.mem_cons.1 hb with rfl | hb
  · exact isB_eq12 (frameB_isB (head_isB _ _))
  · obtain ⟨p, hp, rfl⟩ := List.mem_map.1 hb
    unfold pieces12 at hp
    obtain ⟨j, -, rfl⟩ := List.mem_map.1 hp
    exact isB_eq12 (frameB_isB (piece_isB (snapB_isB s h) j))
theorem chunks_len12 {s : Snap10} (hf : FewF s.f) (hd : s.d.length ≤ 1048576) : (chunks12 s).length ≤ 300 := by
  have h2 := snapB_big hf hd
  rw [(chunks_at s).1]
  unfold npiece12
  omega
theorem st12_ok {M : DM} {c : Nat} (h : M.OkN c) {s : Snap10} (hB : IsB s.d) (hf : FewF s.f) (hd : s.d.length ≤ 1048576) (j : Nat) (hj : j ≤ 4) : (st12 M s j).2.OkN (c + 400) := by
  have hl := chunks_len12 hf hd
  have o1 : (sav1 M).2.OkN (c + 1) := h.create _
  have o2 : (sav2 M s).2.OkN (c + 1 + 300) := by
    unfold sav2
    split
    · exact (app_nz _ _ _ o1 (chunks_isB12 hB)).mono (by omega)
    · exact o1.mono (by omega)
  have o3 : (sav3 M s).2.OkN (c + 1 + 300 + 1) := by
    unfold sav3
    split
    · exact o2.syncs
    · exact o2.mono (by omega)
  have o4 : (sav4 M s).2.OkN (c + 1 + 300 + 1 + 1) := by
    unfold sav4
    split
    · exact o3.rename _ _
    · exact o3.mono (by omega)
  match j, hj with
  | 0, _ => exact h.mono (by omega)
  | 1, _ => exact o1.mono (by omega)
  | 2, _ => exact o2.mono (by omega)
  | 3, _ => exact o3.mono (by omega)
  | 4, _ => exact o4.mono (by omega)
theorem names_empty12 {M : DM} (h : M.Inv) : (⟨#[]⟩ : ByteArray) ∉ M.names := fun hx => by
  have := (good_size (h.good _ hx)).1
  exact absurd this (by decide)
def fsS : Nat → Nat
  | 0 => 66
  | 1 => 67
  | 2 => 69
  | 3 => 70
  | _ => 72
def fbS (d : Nat) : Nat → Array Value
  | 2 => #[.pointer (some ⟨d, 0, none⟩)]
  | _ => #[]
def lbS (bd bs bn : Nat) : Nat → Array Value
  | 0 => #[.pointer (some ⟨bd, 0, none⟩)]
  | 1 => #[.pointer (some ⟨bd, 0, none⟩), .pointer (some ⟨bs, 0, none⟩)]
  | 2 => #[]
  | 3 => #[.pointer (some ⟨bd, 0, none⟩), .pointer (some ⟨bn, 0, none⟩)]
  | _ => #[.pointer (some ⟨bd, 0, none⟩), .pointer (some ⟨bs, 0, none⟩)]
def rowS (d bd bs bn : Nat) : Array Value := #[.func (.func 66) #[] #[.pointer (some ⟨bd, 0, none⟩)], .func (.func 67) #[] #[.pointer (some ⟨bd, 0, none⟩), .pointer (some ⟨bs, 0, none⟩)], .func (.func 69) #[.pointer (some ⟨d, 0, none⟩)] #[], .func (.func 70) #[] #[.pointer (some ⟨bd, 0, none⟩), .pointer (some ⟨bn, 0, none⟩)], .func (.func 72) #[] #[.pointer (some ⟨bd, 0, none⟩), .pointer (some ⟨bs, 0, none⟩)]]

set_option maxRecDepth 100000 in
/-- The steps, one behind the other. -/
theorem steps_any {w0 w w9 : World} {d c : Nat} {S : Nat → Prop} {M : DM} (h : Disk8 w0 w d S M) (hb : Below w.heap.size w w9) (h0 : Gl11 w0) (hO : M.OkN c) (hc : c + 16778000 < 1099511627776) (x : SnapV) (hF : FitsS w x) (hX : ∀ k, inSn x k → ¬ S k) (hf : FewF x.f.f) (hd : x.d.length ≤ 1048576)
    {bd bs bn g : Nat} {t : TypeId} (lbd : w.heap.size ≤ bd) (lbs : w.heap.size ≤ bs) (lbn : w.heap.size ≤ bn) (lg : w.heap.size ≤ g) (hbd : Boxed w9 bd 49 (.pointer (some ⟨d, 0, none⟩))) (hbs : SnapAt w9 bs x) (hbn : Boxed w9 bn 9 (.string (nameB12 x.i))) (hg : w9.heap[g]? = some (.cells (rowS d bd bs bn) t (0, 0))) :
    Calls Tryz.prog 65 #[.slice (some ⟨g, 0, none⟩) 5 5] w9 fun e w' => e = .returned (.int .i64 ((sav5 M x.s).1 : Nat)) ∧ Disk8 w0 w' d (more8 S w w') (sav5 M x.s).2 ∧ Turn S w w' := by
  have hz := hb.size
  have hD0 : DiskT w0 w w9 d S (fun k => w.heap.size ≤ k ∧ k < w9.heap.size) M := (DiskT.of h).add hb fun k hk => .inr hk.1
  have hF9 := hF.below hb
  have hXS : ∀ k, inSn x k ∨ k = 0 → ApT w S (fun k => w.heap.size ≤ k ∧ k < w9.heap.size) k := fun k hk => .inr (by
    rcases hk with hk | rfl
    · exact ⟨hF.inSn_lt hk, hX k hk⟩
    · have h1 := h0.tab.1
      have h2 := h.bel.size
      exact ⟨by omega, fun hs => by have := (h.own 0 hs).1; omega⟩)
  have hown := h.own
  refine (inOrder_any 5 g fsS (fbS d) (lbS bd bs bn) w9
    (fun j X => (st12 M x.s j).1 = 0 ∧ DiskT w0 w X d S (fun k => w.heap.size ≤ k ∧ k < w9.heap.size) (st12 M x.s j).2 ∧ KeepS (ApT w S fun k => w.heap.size ≤ k ∧ k < w9.heap.size) w9 X)
    (fun r X => (sav5 M x.s).1 = r ∧ DiskT w0 w X d S (fun k => w.heap.size ≤ k ∧ k < w9.heap.size) (sav5 M x.s).2) (by decide) ?_ ?_ ?_ ⟨rfl, hD0, KeepS.refl _ _⟩).mono ?_
  · rintro X j ⟨-, -, hk⟩ hj
    have hgX : X.heap[g]? = some (.cells (rowS d bd bs bn) t (0, 0)) := (hk.same g (.inl ⟨lg, box_lt hg⟩)).trans hg
    refine ⟨?_, box_lt hgX⟩
    rw [box_cell hgX j]
    match j, hj with
    | 0, _ => rfl
    | 1, _ => rfl
    | 2, _ => rfl
    | 3, _ => rfl
    | 4, _ => rfl
  · intro j hj
    match j, hj with
    | 0, _ => exact enters_of Tryz.func66 (by kernel_rfl) rfl
    | 1, _ => exact enters_of Tryz.func67 (by kernel_rfl) rfl
    | 2, _ => exact enters_of Tryz.func69 (by kernel_rfl) rfl
    | 3, _ => exact enters_of Tryz.func70 (by kernel_rfl) rfl
    | 4, _ => exact enters_of Tryz.func72 (by kernel_rfl) rfl
  · rintro j X hj ⟨hz0, hDX, hkX⟩
    have hzX := hkX.size
    have hTX : ∀ k, (w.heap.size ≤ k ∧ k < w9.heap.size) → k < X.heap.size := fun k hk => by omega
    have bd' : Boxed X bd 49 (.pointer (some ⟨d, 0, none⟩)) := hkX.box hbd (.inl ⟨lbd, hbd.lt⟩)
    have bs' : SnapAt X bs x := (hkX.same bs (.inl ⟨lbs, box_lt hbs⟩)).trans hbs
    have bn' : Boxed X bn 9 (.string (nameB12 x.i)) := hkX.box hbn (.inl ⟨lbn, hbn.lt⟩)
    have hFX : FitsS X x := hF9.keepS12 hkX fun k hk => hXS k (.inl hk)
    have hOj := st12_ok (s := x.s) hO hF.b hf hd j (by omega)
    have fin : ∀ {P : Program} {f : FuncId} {args : Array Value}, (Calls P f args X fun e w' => e = .returned (.int .i64 ((st12 M x.s (j + 1)).1 : Nat)) ∧ DiskT w0 w w' d S (fun k => w.heap.size ≤ k ∧ k < w9.heap.size) (st12 M x.s (j + 1)).2 ∧ KeepS (ApT w S fun k => w.heap.size ≤ k ∧ k < w9.heap.size) X w') →
        Calls P f args X fun e Y => ∃ r : Nat, e = .returned (.int .i64 (r : Nat)) ∧ (r = 0 → (st12 M x.s (j + 1)).1 = 0 ∧ DiskT w0 w Y d S (fun k => w.heap.size ≤ k ∧ k < w9.heap.size) (st12 M x.s (j + 1)).2 ∧ KeepS (ApT w S fun k => w.heap.size ≤ k ∧ k < w9.heap.size) w9 Y) ∧ (r ≠ 0 → (sav5 M x.s).1 = r ∧ DiskT w0 w Y d S (fun k => w.heap.size ≤ k ∧ k < w9.heap.size) (sav5 M x.s).2) := fun hc => hc.mono fun e Y he => by
      refine ⟨_, he.1, fun h => ⟨h, he.2.1, hkX.trans he.2.2⟩, fun h => ?_⟩
      have e5 : st12 M x.s (j + 1 + (4 - j)) = st12 M x.s (j + 1) := st12_end M x.s (4 - j) (j + 1) (by omega) h
      rw [show j + 1 + (4 - j) = 5 by omega] at e5
      have e6 : sav5 M x.s = st12 M x.s (j + 1) := e5
      rw [e6]
      exact ⟨rfl, he.2.1⟩
    have hbd2 : ApT w S (fun k => w.heap.size ≤ k ∧ k < w9.heap.size) bd := .inl ⟨lbd, hbd.lt⟩
    have hbs2 : ApT w S (fun k => w.heap.size ≤ k ∧ k < w9.heap.size) bs := .inl ⟨lbs, box_lt hbs⟩
    have hj5 : j = 0 ∨ j = 1 ∨ j = 2 ∨ j = 3 ∨ j = 4 := by omega
    rcases hj5 with rfl | rfl | rfl | rfl | rfl
    · exact fin (save1_any hDX hTX hOj (by omega) bd')
    · have e : st12 M x.s (1 + 1) = app12 newB12 (st12 M x.s 1).2 (chunks12 x.s) := if_pos hz0
      exact fin (by rw [e]; exact save2_any hDX hTX h0 hOj (by omega) bd' bs' hFX hXS hbd2 hbs2 hf hd)
    · have e : st12 M x.s (2 + 1) = (st12 M x.s 2).2.syncs := if_pos hz0
      exact fin (by rw [e]; exact hDX.sync hTX hOj (by omega))
    · have e : st12 M x.s (3 + 1) = (st12 M x.s 3).2.rename newB12 (nameB12 x.i) := if_pos hz0
      exact fin (by rw [e]; exact save3_any hDX hTX hOj (by omega) bd' bn' (by have := nameB_size12 x.i; unfold maxLen; omega))
    · have e : st12 M x.s (4 + 1) = drop12 x.i (st12 M x.s 4).2 (files12 (st12 M x.s 4).2.listT).reverse := if_pos hz0
      exact fin (by rw [e]; exact save4_any hDX hTX h0 hOj (by omega) bd' bs')
  · rintro e Y ⟨r, rfl, h1, h2⟩
    by_cases hr : r = 0
    · obtain ⟨g1, g2, -⟩ := h1 hr
      subst hr
      have g1' : (sav5 M x.s).1 = 0 := g1
      exact ⟨by rw [g1'], g2.disk hown⟩
    · obtain ⟨g1, g2⟩ := h2 hr
      exact ⟨by rw [g1], g2.disk hown⟩
theorem name_empty12 {n : Int} : nameB12 n = ⟨#[]⟩ ↔ ¬ (1 ≤ n ∧ n ≤ 999999999) := by
  constructor
  · intro h hn
    have := name_num12 hn.1 hn.2
    rw [h] at this
    have e : num12 ⟨#[]⟩ = (0, false) := by decide +kernel
    rw [e] at this
    cases this
  · intro h
    unfold nameB12 name12
    rw [if_neg h]
    decide +kernel
set_option maxRecDepth 100000 in
set_option maxHeartbeats 1000000 in
theorem saveS_any {w0 w : World} {d c : Nat} {S : Nat → Prop} {M : DM} (h : Disk8 w0 w d S M) (h0 : Gl11 w0) (hO : M.OkN c) (hc : c + 16778000 < 1099511627776) (x : SnapV) (hF : FitsS w x) (hX : ∀ k, inSn x k → ¬ S k) (hd : x.d.length ≤ 1048576) :
    Calls Tryz.prog 19 #[.pointer (some ⟨d, 0, none⟩), .agg x.arr] w fun e w' => e = .returned (.int .i64 ((save12 M x.s).1 : Nat)) ∧ Disk8 w0 w' d (more8 S w w') (save12 M x.s).2 ∧ Turn S w w' := by
  have hmf : ∀ (fn : Fn) (first cap : Array Value) (w : World), (Instr.makeFunc fn first cap).run Tryz.prog w = .ok (.func fn first cap) w := fun _ _ _ _ => rfl
  obtain ⟨w2, hw2⟩ : ∃ w2, (w.alloc (.cells #[.pointer (some ⟨d, 0, none⟩)] 49)).alloc (.cells x.arr 27) = w2 := ⟨_, rfl⟩
  have hb2 : Below w.heap.size w w2 := by rw [← hw2]; exact ((Below.refl _ w).alloc (Nat.le_refl _) _).alloc (by simp) _
  have hz2 : w2.heap.size = w.heap.size + 2 := by rw [← hw2]; simp
  have d2 : Boxed w2 w.heap.size 49 (.pointer (some ⟨d, 0, none⟩)) := by rw [← hw2]; exact (Boxed.new w _ _).alloc _
  have x2 : SnapAt w2 (w.heap.size + 1) x := by
    have := heap_alloc_new (w.alloc (.cells #[.pointer (some ⟨d, 0, none⟩)] 49)) (.cells x.arr 27)
    rw [World.size_alloc] at this
    rw [← hw2]; exact this
  have kr := readyS_any (h.below hb2).at8 hO.inv (names_empty12 hO.inv)
  have stay : ∀ {w'}, Below w.heap.size w w' → Disk8 w0 w' d (more8 S w w') M ∧ Turn S w w' := fun {w'} hb => ((DiskT.of h).below hb).disk h.own
  have Hstay : Hid _ := @stay
  have c2 := d2.cell
  have l2 := d2.lt
  unfold readyS at kr
  cases hoff : M.off with
  | true =>
    rw [hoff, if_pos rfl] at kr
    have HE : Hid (save12 M x.s = (9, M)) := if_pos hoff
    generalize save12 M x.s = R at *
    clear h h0 hO hF hX d2 x2 stay
    go_enter Tryz.func19, Tryz.ntmps19
    go_wp2_with fail
    refine kr.mono ?_
    rintro _ w3 ⟨rfl, hb3⟩
    have HB : Hid (Below w.heap.size w w3) := hb2.trans (hb3.mono hb2.size)
    clear kr c2 hb3
    go_wp2
    go_ret
    exact ⟨by rw [HE.out]; rfl, by rw [HE.out]; exact Hstay.out HB.out⟩
  | false =>
    rw [hoff, if_neg (by decide)] at kr
    have HE : Hid (save12 M x.s = if goodS10 x.s = true ∧ x.i ≤ 999999999 then sav5 M x.s else (2, M)) := if_neg (by rw [hoff]; decide)
    generalize save12 M x.s = R at *
    obtain ⟨cx, -⟩ := SnapAt.cells x2
    have lx := box_lt x2
    have HD2 : Hid (Boxed w2 w.heap.size 49 (.pointer (some ⟨d, 0, none⟩))) := d2
    have HX2 : Hid (SnapAt w2 (w.heap.size + 1) x) := x2
    have HH : Hid (Disk8 w0 w d S M) := h
    have HG : Hid (Gl11 w0) := h0
    have HO : Hid (M.OkN c) := hO
    have HF : Hid (FitsS w x) := hF
    have HXX : Hid _ := hX
    have HB2 : Hid (Below w.heap.size w w2) := hb2
    clear h h0 hO hF hX d2 x2 stay
    go_enter Tryz.func19, Tryz.ntmps19
    go_wp2_with fail
    refine kr.mono ?_
    rintro _ w3 ⟨rfl, hb3⟩
    have HB3 : Hid (Below w.heap.size w w3) := HB2.out.trans (hb3.mono HB2.out.size)
    have x3 : SnapAt w3 (w.heap.size + 1) x := box_below HX2.out hb3
    have d3 : Boxed w3 w.heap.size 49 (.pointer (some ⟨d, 0, none⟩)) := (hb3.block _ l2).trans HD2.out
    obtain ⟨cx3, -⟩ := SnapAt.cells x3
    have lx3 := box_lt x3
    have kn := nameS_any x.i HF.out.i w3 ((HG.out.below HH.out.bel (Nat.le_refl _)).below HB3.out (Nat.le_refl _))
    have HX3 : Hid (SnapAt w3 (w.heap.size + 1) x) := x3
    have HD3 : Hid (Boxed w3 w.heap.size 49 (.pointer (some ⟨d, 0, none⟩))) := d3
    clear kr c2 cx hb3 x3 d3 HX2 HD2 lx
    go_wp2_with fail
    refine kn.mono ?_
    rintro _ w4 ⟨rfl, hb4⟩
    have hb5 : Below w4.heap.size w4 (w4.alloc (.cells #[.string (nameB12 x.i)] 9)) := (Below.refl _ w4).alloc (Nat.le_refl _) _
    have n5 : Boxed (w4.alloc (.cells #[.string (nameB12 x.i)] 9)) w4.heap.size 9 (.string (nameB12 x.i)) := Boxed.new w4 9 _
    have HB4 : Hid (Below w.heap.size w w4) := HB3.out.trans (hb4.mono HB3.out.size)
    have HB5 : Hid (Below w.heap.size w (w4.alloc (.cells #[.string (nameB12 x.i)] 9))) := HB4.out.trans (hb5.mono HB4.out.size)
    have X4 : SnapAt w4 (w.heap.size + 1) x := box_below HX3.out hb4
    have D4 : Boxed w4 w.heap.size 49 (.pointer (some ⟨d, 0, none⟩)) := (hb4.block _ HD3.out.lt).trans HD3.out
    have HX5 : Hid (SnapAt (w4.alloc (.cells #[.string (nameB12 x.i)] 9)) (w.heap.size + 1) x) := box_below X4 hb5
    have HD5 : Hid (Boxed (w4.alloc (.cells #[.string (nameB12 x.i)] 9)) w.heap.size 49 (.pointer (some ⟨d, 0, none⟩))) := (hb5.block _ D4.lt).trans D4
    have HN5 : Hid (Boxed (w4.alloc (.cells #[.string (nameB12 x.i)] 9)) w4.heap.size 9 (.string (nameB12 x.i))) := n5
    have hz4 : w.heap.size ≤ w4.heap.size := HB4.out.size
    clear hb4 hb5 n5 kn cx3 lx3 X4 D4 HX3 HD3
    go_upto_region 5 with fail
    generalize w4.alloc (.cells #[.string (nameB12 x.i)] 9) = w5 at *
    generalize w4.heap.size = bn at *
    have cn := HN5.out.cell
    have ln := HN5.out.lt
    by_cases hem : 1 ≤ x.i ∧ x.i ≤ 999999999
    · have hq : ¬ (nameB12 x.i).toList = [] := by
        intro e
        exact name_empty12.1 (toListC.1 (e.trans (show ([] : List UInt8) = (⟨#[]⟩ : ByteArray).toList by simp))) hem
      have hq3 : (nameB12 x.i).toList.isEmpty = false := by
        rw [Bool.eq_false_iff]
        intro e
        exact hq (List.isEmpty_iff.1 e)
      have kg := goodSnap_any x w5 (HF.out.below HB5.out)
      have hld := ldS_box w5 _ _ _ _ HX5.out rfl
      have lx5 := box_lt HX5.out
      cases hgd : goodS10 x.s with
      | false =>
        rw [hgd] at kg HE
        rw [if_neg (by intro h; cases h.1)] at HE
        generalize nameB12 x.i = nm at *
        go_wp2_with fail
        refine kg.mono ?_
        rintro _ w6 ⟨rfl, hb6⟩
        have HB6 : Hid (Below w.heap.size w w6) := HB5.out.trans (hb6.mono HB5.out.size)
        clear kg hld hb6 cn
        go_wp2
        go_ret
        exact ⟨by rw [HE.out]; rfl, by rw [HE.out]; exact Hstay.out HB6.out⟩
      | true =>
        rw [hgd] at kg
        rw [if_pos ⟨hgd, hem.2⟩] at HE
        have hfw := good_few hgd
        have HFew : Hid (FewF x.f.f) := ⟨by have : x.f.f.vs.length ≤ 9 := hfw.1; omega, by have : x.f.f.ls.length ≤ 9 := hfw.2.1; omega⟩
        obtain ⟨nm, Hnm⟩ : ∃ nm, Hid (nameB12 x.i = nm) := ⟨_, rfl⟩
        rw [Hnm.out] at hq hq3 cn HN5
        clear hfw hgd
        go_wp2_with fail
        refine kg.mono ?_
        rintro _ w6 ⟨rfl, hb6⟩
        have HB6 : Hid (Below w.heap.size w w6) := HB5.out.trans (hb6.mono HB5.out.size)
        have d6 : Boxed w6 w.heap.size 49 (.pointer (some ⟨d, 0, none⟩)) := (hb6.block _ HD5.out.lt).trans HD5.out
        have c6 := d6.cell
        have l6 := d6.lt
        have hb7 : Below w6.heap.size w6 (w6.alloc (.cells (rowS d w.heap.size (w.heap.size + 1) bn) 108)) := (Below.refl _ w6).alloc (Nat.le_refl _) _
        have HB7 : Hid (Below w.heap.size w (w6.alloc (.cells (rowS d w.heap.size (w.heap.size + 1) bn) 108))) := HB6.out.trans (hb7.mono HB6.out.size)
        have hz6 := HB6.out.size
        have d7 : Boxed (w6.alloc (.cells (rowS d w.heap.size (w.heap.size + 1) bn) 108)) w.heap.size 49 (.pointer (some ⟨d, 0, none⟩)) := (hb7.block _ l6).trans d6
        have x7 : SnapAt (w6.alloc (.cells (rowS d w.heap.size (w.heap.size + 1) bn) 108)) (w.heap.size + 1) x := box_below (box_below HX5.out hb6) hb7
        have n7 : Boxed (w6.alloc (.cells (rowS d w.heap.size (w.heap.size + 1) bn) 108)) bn 9 (.string (nameB12 x.i)) := by
          rw [Hnm.out]
          exact (hb7.block _ (Nat.lt_of_lt_of_le HN5.out.lt hb6.size)).trans ((hb6.block _ HN5.out.lt).trans HN5.out)
        have ki := steps_any HH.out HB7.out HG.out HO.out hc x HF.out HXX.out HFew.out hd (Nat.le_refl _) (Nat.le_succ _) hz4 hz6 d7 x7 n7 (heap_alloc_new w6 _)
        unfold rowS at ki
        clear kg hld hb6 cn hb7 d7 x7 n7 d6 HB7 HN5 HX5 HD5
        go_wp2_with fail
        refine ki.mono ?_
        rintro _ w8 ⟨rfl, h8⟩
        clear ki c6
        go_wp2
        go_ret
        exact ⟨by rw [HE.out]; rfl, by rw [HE.out]; exact h8⟩
    · have hnm := name_empty12.2 hem
      rw [if_neg (fun h => hem ⟨by
        have h1 := h.1
        unfold goodS10 at h1
        simp only [Bool.and_eq_true, decide_eq_true_eq] at h1
        exact h1.1.1.1, h.2⟩)] at HE
      rw [hnm] at cn
      clear hnm HX5 HD5 HN5
      go_wp2
      go_ret
      exact ⟨by rw [HE.out]; rfl, by rw [HE.out]; exact Hstay.out HB5.out⟩
end Go.Proofs.YthlelcmifolnfaaGreatDoor

namespace Go.Proofs.YthlelcmifolnfaaGreatDoor
open Go.RowKit Go.Shelf
attribute [local go_sem ↓] slF_exec slF_execI
theorem contentsS_any (p : Option Addr) (n c : Nat) (w : World) : Calls Tryz.prog 52 #[.slice p n c] w fun e w' => e = .returned (.func (.func 115) #[] #[.pointer (some ⟨w.heap.size, 0, none⟩)]) ∧ w' = w.alloc (.cells #[.slice p n c] 25) := by
  have hmf : ∀ (fn : Fn) (first cap : Array Value) (w : World), (Instr.makeFunc fn first cap).run Tryz.prog w = .ok (.func fn first cap) w := fun _ _ _ _ => rfl
  go_enter Tryz.func52, Tryz.ntmps52
  go_wp2
  go_ret
  exact ⟨rfl, rfl⟩
def lenV : Value → Nat
  | .slice _ n _ => n
  | _ => 0
theorem Has.sl12 {w : World} {s : Sl10} {xs : List Int} (h : Has w (.slice s.p s.n s.c) xs) : s.n = xs.length ∧ s.n ≤ s.c ∧ (s.p = none → s.c = 0) := by
  obtain ⟨q, d, e, h1, h2, h3⟩ := h
  simp only [Value.slice.injEq] at e
  obtain ⟨e1, e2, e3⟩ := e
  exact ⟨e2, by omega, fun h => by rw [e3]; exact h2 (by rw [← e1, h])⟩
theorem Has.cut12 {w : World} {s : Sl10} {xs : List Int} (h : Has w (.slice s.p s.n s.c) xs) {lo : Nat} (hlo : lo ≤ s.n) : ∃ s' : Sl10, Go.Proofs.YthlelcmifolnfaaGreatDoor.cutV s.p s.n s.c lo = .slice s'.p s'.n s'.c ∧ Has w (.slice s'.p s'.n s'.c) (xs.drop lo) ∧ ∀ k, inSl s' k → inSl s k := by
  have hc := h.cutV lo hlo
  obtain ⟨e1, e2, e3⟩ := h.sl12
  unfold Go.Proofs.YthlelcmifolnfaaGreatDoor.cutV at hc ⊢
  by_cases e : s.c = lo
  · rw [if_pos e] at hc ⊢
    exact ⟨⟨s.p, 0, 0⟩, rfl, hc, fun k hk => absurd hk.1 (Nat.lt_irrefl 0)⟩
  · rw [if_neg e] at hc ⊢
    refine ⟨⟨s.p.map fun a => a.add lo, s.n - lo, s.c - lo⟩, rfl, hc, fun k hk => ?_⟩
    obtain ⟨h0, a, ha, rfl⟩ := hk
    have h0' : 0 < s.n - lo := h0
    dsimp only at ha
    obtain ⟨b, hb, rfl⟩ := Option.map_eq_some_iff.1 ha
    exact ⟨by omega, b, hb, by unfold Addr.add; split <;> rfl⟩
theorem slF_at12 {w : World} {s : Sl10} {xs : List Int} (h : Has w (.slice s.p s.n s.c) xs) {lo : Nat} (hlo : lo ≤ s.n) (W : World) : (slF (.slice s.p s.n s.c) (.int .i64 (lo : Nat))).run Tryz.prog W = .ok (cutV s.p s.n s.c lo) W := slF_run W s.p s.n s.c lo hlo h.sl12.2.1

theorem unframe_isB12 {xs : List Int} (h : IsB xs) : IsB (unframeS xs).1 := by
  unfold unframeS
  repeat' split
  all_goals first | exact IsB.nil | exact IsB.cutB h _ _

def coS (s : Sl10) (Bm k : Nat) : Prop := k = 0 ∨ k = Bm ∨ inSl s k
structure OkT (L : List (List Int)) (pre : List (Sl10 × List Int)) (y : Sl10 × List Int) (X : World) : Prop where
  has : Has X (.slice y.1.p y.1.n y.1.c) y.2
  pre : (pre ++ [y]).map Prod.snd <+: L
  isB : IsB y.2
  len : y.2.length ≤ 1048576
theorem OkT.soft {L : List (List Int)} {pre : List (Sl10 × List Int)} {y : Sl10 × List Int} {X Y : World} (h : OkT L pre y X) (hs : Soft X Y) : OkT L pre y Y := ⟨h.has.soft hs, h.pre, h.isB, h.len⟩

set_option maxRecDepth 100000 in
set_option maxHeartbeats 400000 in
theorem contents1_seq (s0 : Sl10) (Bm : Nat) (xs : List Int) (w : World) (hT : Tab w) (hv : Has w (.slice s0.p s0.n s0.c) xs) (hB : IsB xs) (hl : xs.length ≤ 1073741824) (hm : Boxed w Bm 25 (.slice s0.p s0.n s0.c)) :
    SeqZ Tryz.prog 115 #[] #[.pointer (some ⟨Bm, 0, none⟩)] (fun y : Sl10 × List Int => #[.slice y.1.p y.1.n y.1.c]) (coS s0 Bm) (fun _ _ => False) (fun _ _ => OkT (conts12 xs)) (fun pre => pre.map Prod.snd = conts12 xs) w := by
  intro l J Jx W hK hJ hJx hY h0
  have hTW := hT.keepS12 hK (.inl rfl)
  have hvW := hv.keepS12 hK fun k hk => .inr (.inr hk)
  have hmW := hK.box hm (.inr (.inl rfl))
  have HSlt : Hid (∀ k, coS s0 Bm k → k < W.heap.size) := fun k hk => by
    rcases hk with rfl | rfl | hk
    · exact hTW.1
    · exact hmW.lt
    · exact hvW.inSl_lt hk
  have y0 := hmW.cell
  have ly := hmW.lt
  have HT : Hid (Tab W) := hTW
  have HB : Hid (IsB xs) := hB
  have HV : Hid (Has W (.slice s0.p s0.n s0.c) xs) := hvW
  have HJ : Hid _ := hJ
  have HY : Hid _ := hY
  have H0 : Hid (J (fun _ => False) [] W) := h0
  clear hT hv hB hm hK h0 hTW hvW hmW hJx hJ hY
  refine (callsIn_wide (n := 3)).1 ?_
  refine callsIn_of_wp Tryz.func115 rfl trivial ?_ rfl
  simp only [Tryz.ntmps115, List.size_toArray, List.length_cons, List.length_nil, Nat.reduceAdd, Nat.reduceSub, Array.replicate_succ, Array.replicate_zero, List.push_toArray, List.append_toArray, List.nil_append, List.cons_append]
  gi_wp2
  gi_loopw [3] (fun s3 wr => ∃ (pre : List (Sl10 × List Int)) (k : Nat) (s : Sl10), s3 = .slice s.p s.n s.c ∧ Hid (Has wr (.slice s.p s.n s.c) (xs.drop k)) ∧ k ≤ xs.length ∧ Hid (conts12 xs = pre.map Prod.snd ++ conts12 (xs.drop k)) ∧ Hid (∀ k, inSl s k → inSl s0 k) ∧ W.heap.size ≤ wr.heap.size ∧ Hid (KeepS (coS s0 Bm) W wr) ∧ Hid (J (fun _ => False) pre wr)) (fun s3 _ => lenV s3)
  case atStart => exact ⟨[], 0, s0, rfl, HV, Nat.zero_le _, by simp [Hid], fun _ h => h, Nat.le_refl _, KeepS.refl _ _, H0⟩
  case round =>
    obtain ⟨pre, k, s, rfl, HH, hk, HC, HSl, hz, HK, HJr⟩ := hrel
    have hlen : (xs.drop k).length = xs.length - k := List.length_drop
    have hBd : IsB (xs.drop k) := fun z hz => HB.out z (List.mem_of_mem_drop hz)
    have ku := unframe_any _ _ wr (HT.out.keepS12 HK.out (.inl rfl)) HH.out (by omega) hBd
    have hul := @unframe_len (xs.drop k)
    have hiu := unframe_isB12 hBd
    have H1 : Hid (¬ (unframeS (xs.drop k)).2.2 = 0 → conts12 (xs.drop k) = []) := conts_none
    have H2 : Hid ((unframeS (xs.drop k)).2.2 = 0 → conts12 (xs.drop k) = (unframeS (xs.drop k)).1 :: conts12 (xs.drop (k + (unframeS (xs.drop k)).2.1.toNat))) := fun h => by
      rw [conts_cons h, List.drop_drop]
    have Hsn : Hid (s.n = (xs.drop k).length ∧ s.n ≤ s.c ∧ (s.p = none → s.c = 0)) := HH.out.sl12
    generalize unframeS (xs.drop k) = U at *
    obtain ⟨cx, cn, ce⟩ := U
    dsimp only at ku hul hiu H1 H2
    by_cases he : ce = 0
    · subst he
      obtain ⟨l1, l2, l3, l4⟩ := hul rfl
      obtain ⟨m, rfl⟩ : ∃ m : Nat, cn = (m : Int) := ⟨cn.toNat, by omega⟩
      rw [Int.toNat_natCast] at l1 l2 l3 H2
      have HC2 : Hid (conts12 xs = pre.map Prod.snd ++ cx :: conts12 (xs.drop (k + m))) := by rw [Hid, HC.out, H2.out rfl]
      obtain ⟨s', hs1, hs2, hs3⟩ := HH.out.cut12 (lo := m) (by have := Hsn.out.1; omega)
      have hsl := slF_at12 HH.out (lo := m) (by have := Hsn.out.1; omega)
      rw [hs1] at hsl
      have HS2 : Hid (Has wr (.slice s'.p s'.n s'.c) (xs.drop (k + m))) := by rw [Hid, ← List.drop_drop]; exact hs2
      have HS3 : Hid (∀ k, inSl s' k → inSl s0 k) := fun k hk => HSl.out k (hs3 k hk)
      have Hsn' : Hid (s'.n = ((xs.drop k).drop m).length ∧ s'.n ≤ s'.c ∧ (s'.p = none → s'.c = 0)) := hs2.sl12
      clear hul H1 H2 hs1 hs2 hs3 HC
      have KY : Hid (∀ w1 v1, Has w1 v1 cx → Below wr.heap.size wr w1 → ∃ p1 c1, v1 = .slice p1 cx.length c1 ∧ YieldAt Fence.wide 2 Tryz.prog l #[v1] w1 fun e Y => ∃ b : Bool, e = .returned (.bool b) ∧ KeepS (coS s0 Bm) w1 Y ∧ KeepS (fun _ => False) w1 Y ∧ (if b = true then J (fun _ => False) (pre ++ [((⟨p1, cx.length, c1⟩ : Sl10), cx)]) Y else Jx (fun _ => False) (pre ++ [((⟨p1, cx.length, c1⟩ : Sl10), cx)]) Y)) := fun w1 v1 h1 hb1 => by
        obtain ⟨p1, c1, rfl, -⟩ := id h1
        have hz1 := hb1.size
        exact ⟨p1, c1, rfl, YieldAt.wide (HY.out (fun _ => False) pre (⟨p1, cx.length, c1⟩, cx) w1 (by omega) (fun _ h => h.elim) ⟨h1, by rw [List.map_append, HC2.out]; exact ⟨conts12 (xs.drop (k + m)), by simp⟩, hiu, l4⟩ (HJ.out _ _ _ _ _ HJr.out (Turn.of_below hb1 (Nat.le_refl _)) fun _ h => h.elim (fun h => .inl h) (fun h => h.elim)))⟩
      gi_wp2_with (refine ⟨trivial, ?_⟩; gi_at_call 51; (with_reducible refine (callsIn_wide.2 ku).mono ?_); rintro _ w1 ⟨v1, rfl, h1, hb1⟩; obtain ⟨p1, c1, rfl, fn, tmps, assign, body, hy, hR⟩ := KY.out w1 v1 h1 hb1)
      have hz1 := hb1.size
      have HK1 : Hid (KeepS (coS s0 Bm) W w1) := HK.out.trans (KeepS.of_below hb1 fun k hk => by have := HSlt.out k hk; omega)
      have HS4 : Hid (Has w1 (.slice s'.p s'.n s'.c) (xs.drop (k + m))) := HS2.out.below hb1 (Nat.le_refl _)
      clear ku h1 hb1 HS2 KY
      refine hR.mono ?_
      clear hR hy
      rintro e' Z ⟨bb, rfl, hk1, hk2, hb⟩
      have hzZ := hk1.size
      have HKZ : Hid (KeepS (coS s0 Bm) W Z) := HK1.out.trans hk1
      have HS5 : Hid (Has Z (.slice s'.p s'.n s'.c) (xs.drop (k + m))) := HS4.out.keepS12 hk1 fun k hk => .inr (.inr (HS3.out k hk))
      have HC3 : Hid (conts12 xs = (pre ++ [((⟨p1, cx.length, c1⟩ : Sl10), cx)]).map Prod.snd ++ conts12 (xs.drop (k + m))) := by rw [Hid, HC2.out]; simp
      clear hk1 hk2 HS4
      cases bb with
      | true =>
        rw [if_pos rfl] at hb
        have HJZ : Hid (J (fun _ => False) (pre ++ [((⟨p1, cx.length, c1⟩ : Sl10), cx)]) Z) := hb
        clear hb
        gi_wp2
        go_roundw
        case rel => exact ⟨pre ++ [((⟨p1, cx.length, c1⟩ : Sl10), cx)], k + m, s', rfl, HS5, by omega, HC3, HS3, by omega, HKZ, HJZ⟩
        case measure =>
          show s'.n < s.n
          have h1 := Hsn.out.1
          have h2 := Hsn'.out.1
          rw [List.length_drop, List.length_drop] at h2
          rw [List.length_drop] at h1
          omega
      | false =>
        rw [if_neg (by simp)] at hb
        have HJZ : Hid (Jx (fun _ => False) (pre ++ [((⟨p1, cx.length, c1⟩ : Sl10), cx)]) Z) := hb
        clear hb
        gi_wp2
        refine bodyPost_ret (results_none rfl _ _ _) rfl ?_
        exact ⟨⟨_, rfl⟩, _, _, by omega, (fun _ h => h.elim), .inr HJZ.out⟩
    · have he' : (ce != 0) = true := by simpa using he
      have HF : Hid (pre.map Prod.snd = conts12 xs) := by rw [Hid, HC.out, H1.out he, List.append_nil]
      clear H1 H2 hul hiu
      gi_wp2_with (refine ⟨trivial, ?_⟩; gi_at_call 51; refine (callsIn_wide.2 ku).mono ?_; rintro _ w1 ⟨v1, rfl, h1, hb1⟩)
      refine ⟨(fun _ h => by cases h), ?_⟩
      gi_wp2
      refine bodyPost_ret (results_none rfl _ _ _) rfl ?_
      exact ⟨⟨_, rfl⟩, _, pre, Nat.le_trans hz hb1.size, (fun _ h => h.elim), .inl ⟨HF.out, HJ.out _ _ _ _ _ HJr.out (Turn.of_below hb1 (Nat.le_refl _)) fun _ h => .inl h⟩⟩
end Go.Proofs.YthlelcmifolnfaaGreatDoor

namespace Go.Proofs.YthlelcmifolnfaaGreatDoor
open Go.RowKit Go.Shelf
attribute [local go_sem ↓] slF_exec slF_execI
def slT (v hi : Value) : Sem Value := Instr.sliceAt 25 v none (some hi) none
theorem slT_exec (ρ : Operand → Value) (d : Option Tmp) (x y : Operand) (t : TypeId) (p : String) (af : Array Edge) (g : Option (Nat × Bool)) (w : World) : (execOp ρ { dst := d, op := .slice 25 x none (some y) none, type := t, pos := p, after := af, guard := g }).run Tryz.prog w = ((slT (ρ x) (ρ y)).run Tryz.prog w).andThen fun v w' => .ok (.value v) w' := by
  unfold execOp slT
  simp only [Sem.run_bind, Sem.run_pure, Option.map_some, Option.map_none]
set_option maxRecDepth 100000 in
theorem slT_run (w : World) (p : Option Addr) (n c hi : Nat) (h : hi ≤ c) : (slT (.slice p n c) (.int .i64 (hi : Nat))).run Tryz.prog w = .ok (.slice p hi c) w := by
  unfold slT
  by_cases e : c = 0
  · have e2 : hi = 0 := by omega
    subst e e2
    cases p <;> go_simp
  · cases p <;> go_simp
theorem Has.take12 {w : World} {s : Sl10} {xs : List Int} (h : Has w (.slice s.p s.n s.c) xs) {hi : Nat} (hh : hi ≤ s.n) : Has w (.slice s.p hi s.c) (xs.take hi) := by
  obtain ⟨q, d, e, h1, h2, h3⟩ := h
  simp only [Value.slice.injEq] at e
  obtain ⟨e1, e2, e3⟩ := e
  have hl : (xs.take hi).length = hi := by rw [List.length_take]; omega
  refine ⟨q, d, by rw [e1, e3, hl], by omega, h2, fun h0 => ?_⟩
  obtain ⟨b, o, hp, hb, hc⟩ := h3 (by omega)
  refine ⟨b, o, hp, hb, fun i hi' => ?_⟩
  rw [hc i (by omega), List.getD_eq_getElem?_getD, List.getD_eq_getElem?_getD, List.getElem?_take_of_lt (by omega)]
theorem strOf_inj12 {xs ys : List Int} (hx : IsB xs) (hy : IsB ys) : ((strOfNums xs).toList == (strOfNums ys).toList) = decide (xs = ys) := by
  rw [Bool.eq_iff_iff, beq_iff_eq, toListC, decide_eq_true_eq]
  constructor
  · intro e
    rw [← nats_strOf (isB_eq12 hx), ← nats_strOf (isB_eq12 hy), e]
  · intro e
    rw [e]

set_option maxRecDepth 100000 in
set_option maxHeartbeats 400000 in
theorem equalB_any (s t : Sl10) (xs ys : List Int) (w : World) (hx : Has w (.slice s.p s.n s.c) xs) (hy : Has w (.slice t.p t.n t.c) ys) (bx : IsB xs) (bY : IsB ys) :
    Calls Tryz.prog 190 #[.slice s.p s.n s.c, .slice t.p t.n t.c] w fun e w' => e = .returned (.bool (decide (xs = ys))) ∧ w' = w := by
  have k1 := Has.conv (P := Tryz.prog) hx 25 5 9 Tryz.underlying25 Tryz.underlying5 Tryz.underlying9
  have k2 := Has.conv (P := Tryz.prog) hy 25 5 9 Tryz.underlying25 Tryz.underlying5 Tryz.underlying9
  have hq := strOf_inj12 bx bY
  clear hx hy
  generalize strOfNums xs = a at *
  generalize strOfNums ys = b at *
  generalize decide (xs = ys) = r at *
  go_enter Tryz.func190, Tryz.ntmps190
  go_wp2
  go_ret
  exact ⟨by first | rfl | rw [hq] | simp_all, rfl⟩
attribute [local go_sem ↓] slT_exec slT_run
set_option maxRecDepth 100000 in
set_option maxHeartbeats 400000 in
theorem hasPrefix_any (s t : Sl10) (xs ys : List Int) (w : World) (hx : Has w (.slice s.p s.n s.c) xs) (hy : Has w (.slice t.p t.n t.c) ys) (bx : IsB xs) (bY : IsB ys) :
    Calls Tryz.prog 156 #[.slice s.p s.n s.c, .slice t.p t.n t.c] w fun e w' => e = .returned (.bool (decide (ys <+: xs))) ∧ w' = w := by
  obtain ⟨a1, a2, a3⟩ := hx.sl12
  obtain ⟨b1, b2, b3⟩ := hy.sl12
  by_cases hlt : s.n < t.n
  · have HF : Hid (decide (ys <+: xs) = false) := decide_eq_false fun h => by have := h.length_le; omega
    generalize decide (ys <+: xs) = r at *
    obtain ⟨sp, sn, sc⟩ := s
    obtain ⟨tp, tn, tc⟩ := t
    dsimp only at *
    have hge : ¬ (tn : Int) ≤ (sn : Int) := by omega
    clear hx hy a1 b1 a3 b3
    go_enter Tryz.func156, Tryz.ntmps156
    go_wp2
    go_ret
    exact ⟨by rw [HF.out]; rfl, rfl⟩
  · have ht := hx.take12 (hi := t.n) (by omega)
    have ke := equalB_any ⟨s.p, t.n, s.c⟩ t (xs.take t.n) ys w ht hy (fun z hz => bx z (List.mem_of_mem_take hz)) bY
    have HE : Hid (decide (ys <+: xs) = decide (xs.take t.n = ys)) := by
      rw [Hid]
      congr 1
      rw [List.prefix_iff_eq_take, b1]
      exact propext ⟨fun h => h.symm, fun h => h.symm⟩
    dsimp only at ke
    generalize decide (xs.take t.n = ys) = r2 at *
    generalize decide (ys <+: xs) = r at *
    obtain ⟨sp, sn, sc⟩ := s
    obtain ⟨tp, tn, tc⟩ := t
    dsimp only at *
    have hge : (tn : Int) ≤ (sn : Int) := by omega
    have hsc : tn ≤ sc := by omega
    clear hx hy a1 b1 a3 b3 ht
    go_enter Tryz.func156, Tryz.ntmps156
    go_wp2_with fail
    refine same_mono ke ?_
    go_wp2
    go_ret
    exact ⟨by rw [HE.out]; rfl, rfl⟩
set_option maxRecDepth 100000 in
set_option maxHeartbeats 400000 in
theorem cutPrefix_any (s t : Sl10) (xs ys : List Int) (w : World) (hx : Has w (.slice s.p s.n s.c) xs) (hy : Has w (.slice t.p t.n t.c) ys) (bx : IsB xs) (bY : IsB ys) :
    Calls Tryz.prog 119 #[.slice s.p s.n s.c, .slice t.p t.n t.c] w fun e w' => (∃ s' : Sl10, e = .returned (.tuple #[.slice s'.p s'.n s'.c, .bool (decide (ys <+: xs))]) ∧ (ys <+: xs → Has w (.slice s'.p s'.n s'.c) (xs.drop ys.length)) ∧ ∀ k, inSl s' k → inSl s k) ∧ w' = w := by
  have kp := hasPrefix_any s t xs ys w hx hy bx bY
  by_cases hp : ys <+: xs
  · obtain ⟨b1, b2, b3⟩ := hy.sl12
    obtain ⟨a1, a2, a3⟩ := hx.sl12
    have hlen := hp.length_le
    obtain ⟨s', hs1, hs2, hs3⟩ := hx.cut12 (lo := t.n) (by omega)
    have hsl := slF_at12 hx (lo := t.n) (by omega)
    rw [hs1] at hsl
    rw [decide_eq_true hp] at kp ⊢
    have HS : Hid (Has w (.slice s'.p s'.n s'.c) (xs.drop ys.length)) := by rw [Hid, ← b1]; exact hs2
    have HS3 : Hid (∀ k, inSl s' k → inSl s k) := hs3
    clear hx hy a1 b1 a3 b3 hs1 hs2 hs3 a2 b2
    go_enter Tryz.func119, Tryz.ntmps119
    go_wp2_with fail
    refine same_mono kp ?_
    go_wp2
    go_ret2
    exact ⟨⟨s', rfl, fun _ => HS.out, HS3.out⟩, rfl⟩
  · rw [decide_eq_false hp] at kp ⊢
    clear hx hy
    go_enter Tryz.func119, Tryz.ntmps119
    go_wp2_with fail
    refine same_mono kp ?_
    go_wp2
    go_ret2
    exact ⟨⟨s, rfl, fun h => absurd h hp, fun _ h => h⟩, rfl⟩
end Go.Proofs.YthlelcmifolnfaaGreatDoor

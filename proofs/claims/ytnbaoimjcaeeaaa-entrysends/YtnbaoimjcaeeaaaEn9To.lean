import Derived.Test.YtnbaoimjcaeeaaaEn6To
import Derived.Test.YtnbaoimjcaeeaaaCmKTo
/-
  Contracts: corbelref10.rises, GoodConf, Good; entry.Same, corbelref10.Same.
-/
namespace Go.Proofs.Ytnbaoimjcaeeaaa
open Go.RowKit Go.Shelf

set_option maxRecDepth 100000 in
set_option maxHeartbeats 1500000 in
theorem rrises_any (p : Option Addr) (n c : Nat) (xs : List Int) (w : World) (h : HasI w (.slice p n c) xs) (hl : xs.length ≤ 17592186044416) :
    Calls Try.prog 39 #[.slice p n c] w fun e w' => e = .returned (.bool (rises10 xs)) ∧ w' = w := by
  obtain ⟨hn, hc, -⟩ := h.len
  have HN : Hid (xs.length = n) := hn
  rw [hn] at hl
  have HX : Hid (HasI w (.slice p n c) xs) := h
  clear hn h
  go_enter Try.func39, Try.ntmps39
  go_wp2
  go_loopw [7] (fun s7 wr => ∃ j : Nat, j ≤ n ∧ s7 = .int .i64 (j : Nat) ∧ wr = w ∧ Hid (∀ i, i < j → okAt10 xs i = true)) (fun s7 _ => n - (intOf s7).toNat)
  case atStart => exact ⟨0, Nat.zero_le _, rfl, rfl, fun i hi => by omega⟩
  case round =>
    obtain ⟨j, hj, rfl, rfl, hok⟩ := hrel
    by_cases hlt : j < n
    · obtain ⟨b, o, hp, hb, hcell⟩ := HX.out.at hlt
      have HO : Hid (okAt10 xs j = true ↔ (1 ≤ xs.getD j 0 ∧ xs.getD j 0 ≤ 9) ∧ (j = 0 ∨ xs.getD (j - 1) 0 < xs.getD j 0)) := okAt10_iff xs j
      have HF : Hid (¬ ((1 ≤ xs.getD j 0 ∧ xs.getD j 0 ≤ 9) ∧ (j = 0 ∨ xs.getD (j - 1) 0 < xs.getD j 0)) → rises10 xs = false) := fun hno => rises10_no (i := j) (by rw [HN.out]; exact hlt) (by
        cases hk : okAt10 xs j with
        | false => rfl
        | true => exact absurd (HO.out.1 hk) hno)
      have HS : Hid (((1 ≤ xs.getD j 0 ∧ xs.getD j 0 ≤ 9) ∧ (j = 0 ∨ xs.getD (j - 1) 0 < xs.getD j 0)) → ∀ i, i < j + 1 → okAt10 xs i = true) := fun hyes i hi => by
        by_cases e : i = j
        · rw [e]; exact HO.out.2 hyes
        · exact hok.out i (by omega)
      clear HO hok
      cases j with
      | zero =>
        subst hp
        rw [Nat.add_zero] at hcell
        generalize xs.getD 0 0 = x at *
        by_cases h1 : x < 1
        · have HR : Hid (rises10 xs = false) := HF.out (by omega)
          go_wp2
          go_ret
          rw [HR.out]
          exact ⟨rfl, rfl⟩
        by_cases h9 : 9 < x
        · have HR : Hid (rises10 xs = false) := HF.out (by omega)
          go_wp2
          go_ret
          rw [HR.out]
          exact ⟨rfl, rfl⟩
        have HR : Hid (∀ i, i < 0 + 1 → okAt10 xs i = true) := HS.out ⟨by omega, .inl rfl⟩
        clear HF HS
        go_wp2
        go_roundw
        case rel => exact ⟨0 + 1, by omega, by go_num, by trivial, HR.out⟩
        case measure => simp only [intOf]; omega
      | succ k =>
        obtain ⟨b', o', hp', hb', hcell'⟩ := HX.out.at (j := k) (by omega)
        rw [hp] at hp'
        simp only [Option.some.injEq, Addr.mk.injEq, and_true] at hp'
        obtain ⟨rfl, rfl⟩ := hp'
        subst hp
        rw [Nat.add_sub_cancel] at HF HS
        generalize xs.getD (k + 1) 0 = x at *
        generalize xs.getD k 0 = y at *
        have e1 : ((k + 1 : Nat) : Int) - 1 = (k : Int) := by omega
        by_cases h1 : x < 1
        · have HR : Hid (rises10 xs = false) := HF.out (by omega)
          go_wp2
          go_ret
          rw [HR.out]
          exact ⟨rfl, rfl⟩
        by_cases h9 : 9 < x
        · have HR : Hid (rises10 xs = false) := HF.out (by omega)
          go_wp2
          go_ret
          rw [HR.out]
          exact ⟨rfl, rfl⟩
        by_cases hxy : x ≤ y
        · have HR : Hid (rises10 xs = false) := HF.out (by omega)
          go_wp2
          go_ret
          rw [HR.out]
          exact ⟨rfl, rfl⟩
        have HR : Hid (∀ i, i < k + 1 + 1 → okAt10 xs i = true) := HS.out ⟨by omega, .inr (by omega)⟩
        clear HF HS
        go_wp2
        go_roundw
        case rel => exact ⟨k + 1 + 1, by omega, by go_num, by trivial, HR.out⟩
        case measure => simp only [intOf]; omega
    · have HT : Hid (rises10 xs = true) := rises10_yes fun i hi => hok.out i (by rw [HN.out] at hi; omega)
      go_wp2
      go_ret
      rw [HT.out]
      exact ⟨rfl, rfl⟩

theorem goodF10_apart {c : Conf10} {i : Nat} (hi : i < c.vs.length) (h : hasI10 c.ls (c.vs.getD i 0) = true) : goodF10 c = false := by
  rw [goodF10_is]
  have : (c.vs.any fun x => hasI10 c.ls x) = true := by
    rw [List.any_eq_true]
    refine ⟨c.vs.getD i 0, ?_, h⟩
    rw [List.getD_eq_getElem?_getD, List.getElem?_eq_getElem hi]
    exact List.getElem_mem _
  rw [this]
  simp
theorem goodF10_all {c : Conf10} (h1 : rises10 c.vs = true) (h2 : rises10 c.ls = true) (h3 : c.vs.length ≠ 0) (h : ∀ i, i < c.vs.length → hasI10 c.ls (c.vs.getD i 0) = false) : goodF10 c = true := by
  rw [goodF10_is, h1, h2]
  have e1 : c.vs.isEmpty = false := by
    cases hv : c.vs with
    | nil => rw [hv] at h3; exact absurd rfl h3
    | cons => rfl
  have e2 : (c.vs.any fun x => hasI10 c.ls x) = false := by
    rw [List.any_eq_false]
    intro a ha
    obtain ⟨i, hi, rfl⟩ := List.getElem_of_mem ha
    have := h i hi
    rw [List.getD_eq_getElem?_getD, List.getElem?_eq_getElem hi] at this
    simpa using this
  rw [e1, e2]
  rfl

set_option maxRecDepth 100000 in
set_option maxHeartbeats 2000000 in
theorem rgoodConf_any (x : ConfV) (w : World) (h : FitsF w x) : Calls Try.prog 12 #[.agg x.arr] w fun e w' => e = .returned (.bool (goodF10 x.f)) ∧ Below w.heap.size w w' := by
  have HG : Hid (goodF10 x.f = (!x.f.vs.isEmpty && rises10 x.f.vs && rises10 x.f.ls && !(x.f.vs.any fun a => hasI10 x.f.ls a))) := goodF10_is x.f
  have hB1 : Below w.heap.size w (w.alloc (.cells x.arr 26)) := (Below.refl _ _).alloc (Nat.le_refl _) _
  have hbox : ConfAt (w.alloc (.cells x.arr 26)) w.heap.size x := heap_alloc_new w _
  have h1 := h.below hB1
  have k1 := rrises_any _ _ _ _ _ h1.u h1.lu
  have k2 := rrises_any _ _ _ _ _ h1.v h1.lv
  have hn := h.u.len.1
  have hm := h.v.len.1
  have HE : Hid (x.f.vs.isEmpty = decide (x.u.n = 0)) := by
    rw [Hid, ← hn]
    cases x.f.vs <;> simp
  have HY : Hid (∀ i, i < x.u.n → hasI10 x.f.ls (x.f.vs.getD i 0) = true → goodF10 x.f = false) := fun i hi h => goodF10_apart (by rw [hn]; exact hi) h
  have HA : Hid (rises10 x.f.vs = true → rises10 x.f.ls = true → x.u.n ≠ 0 → (∀ i, i < x.u.n → hasI10 x.f.ls (x.f.vs.getD i 0) = false) → goodF10 x.f = true) := fun a b c d => goodF10_all a b (by rw [hn]; exact c) fun i hi => d i (by rw [← hn]; exact hi)
  have HU : Hid (HasI (w.alloc (.cells x.arr 26)) (.slice x.u.p x.u.n x.u.c) x.f.vs) := h1.u
  have HV : Hid (HasI (w.alloc (.cells x.arr 26)) (.slice x.v.p x.v.n x.v.c) x.f.ls) := h1.v
  have hln := h.lu
  have hlm := h.lv
  have HM : Hid (x.f.ls.length = x.v.n) := hm
  rw [hn] at hln
  rw [hm] at hlm
  have hU := h1.u.len.2.1
  have hV := h1.v.len.2.1
  obtain ⟨⟨p, n, c⟩, ⟨q, m, d⟩, f⟩ := x
  unfold ConfV.arr at *
  dsimp only at *
  generalize hr1 : rises10 f.vs = r1 at *
  generalize hr2 : rises10 f.ls = r2 at *
  have hbz := hB1.size
  clear h h1 hn hm hr1 hr2
  cases r1 with
  | false =>
    have HF : Hid (goodF10 f = false) := by rw [Hid, HG.out]; simp
    clear HG HE HY HA HU HV
    go_enter Try.func12, Try.ntmps12
    go_wp2_with fail
    refine same_mono k1 ?_
    go_wp2
    go_ret
    rw [HF.out]
    exact ⟨rfl, hB1⟩
  | true =>
    cases r2 with
    | false =>
      have HF : Hid (goodF10 f = false) := by rw [Hid, HG.out]; simp
      clear HG HE HY HA HU HV
      go_enter Try.func12, Try.ntmps12
      go_wp2_with fail
      refine same_mono k1 ?_
      go_wp2_with fail
      refine same_mono k2 ?_
      go_wp2
      go_ret
      rw [HF.out]
      exact ⟨rfl, hB1⟩
    | true =>
      by_cases h0 : n = 0
      · have HF : Hid (goodF10 f = false) := by rw [Hid, HG.out, HE.out, decide_eq_true h0]; rfl
        subst h0
        clear HG HE HY HA HU HV
        go_enter Try.func12, Try.ntmps12
        go_wp2_with fail
        refine same_mono k1 ?_
        go_wp2_with fail
        refine same_mono k2 ?_
        go_wp2
        go_ret
        rw [HF.out]
        exact ⟨rfl, hB1⟩
      · have h00 : ((n : Int) == 0) = false := by simp; omega
        have HA2 : Hid ((∀ i, i < n → hasI10 f.ls (f.vs.getD i 0) = false) → goodF10 f = true) := HA.out rfl rfl h0
        clear HG HE HA
        go_enter Try.func12, Try.ntmps12
        go_wp2_with fail
        refine same_mono k1 ?_
        go_wp2_with fail
        refine same_mono k2 ?_
        go_wp2
        generalize w.alloc (.cells #[.slice p n c, .slice q m d] 26) = W1 at *
        obtain ⟨c0, c1⟩ := hbox.cells
        dsimp only at c0 c1
        have hlt := box_lt hbox
        generalize hbb : w.heap.size = bb at *
        have Hbb : Hid (w.heap.size = bb) := hbb
        clear hbb k1 k2 hbox
        go_loopw [26] (fun s26 wr => ∃ j : Nat, j ≤ n ∧ s26 = .int .i64 (j : Nat) ∧ wr = W1 ∧ Hid (∀ i, i < j → hasI10 f.ls (f.vs.getD i 0) = false)) (fun s26 _ => n - (intOf s26).toNat)
        case atStart => exact ⟨0, Nat.zero_le _, rfl, rfl, fun i hi => by omega⟩
        case round =>
          obtain ⟨j, hj, rfl, rfl, hok⟩ := hrel
          by_cases hjn : j < n
          · obtain ⟨b1, o1, rfl, hb1, hc1⟩ := HU.out.at hjn
            have HJ : Hid (hasI10 f.ls (f.vs.getD j 0) = true → goodF10 f = false) := HY.out j hjn
            have HK : Hid (hasI10 f.ls (f.vs.getD j 0) = false → ∀ i, i < j + 1 → hasI10 f.ls (f.vs.getD i 0) = false) := fun hh i hi => by
              by_cases e : i = j
              · rw [e]; exact hh
              · exact hok.out i (by omega)
            clear hok
            generalize f.vs.getD j 0 = a at *
            go_wp2
            go_loopw [33] (fun s33 wq => ∃ k : Nat, k ≤ m ∧ s33 = .int .i64 (k : Nat) ∧ wq = wr ∧ Hid (∀ i, i < k → a ≠ f.ls.getD i 0)) (fun s33 _ => m - (intOf s33).toNat)
            case atStart => exact ⟨0, Nat.zero_le _, rfl, rfl, fun i hi => by omega⟩
            case round =>
              obtain ⟨k, hk, rfl, rfl, hno⟩ := hrel
              by_cases hkm : k < m
              · obtain ⟨b2, o2, rfl, hb2, hc2⟩ := HV.out.at hkm
                by_cases hab : a = f.ls.getD k 0
                · have HF : Hid (goodF10 f = false) := HJ.out (hasI10_yes (by rw [HM.out]; exact hkm) hab)
                  have he : (a == f.ls.getD k 0) = true := by simpa using hab
                  clear hno hab
                  generalize f.ls.getD k 0 = b at *
                  go_wp2
                  go_ret
                  rw [HF.out]
                  exact ⟨rfl, by rw [Hbb.out]; exact hB1⟩
                · have HS : Hid (∀ i, i < k + 1 → a ≠ f.ls.getD i 0) := fun i hi => by
                    by_cases e : i = k
                    · rw [e]; exact hab
                    · exact hno.out i (by omega)
                  have he : (a == f.ls.getD k 0) = false := by simpa using hab
                  clear hno hab
                  generalize f.ls.getD k 0 = b at *
                  go_wp2
                  go_roundw
                  case rel => exact ⟨k + 1, by omega, by go_num, by trivial, HS.out⟩
                  case measure => simp only [intOf]; omega
              · have HS : Hid (∀ i, i < j + 1 → hasI10 f.ls (f.vs.getD i 0) = false) := HK.out (hasI10_no fun i hi => hno.out i (by rw [HM.out] at hi; omega))
                clear hno HK HJ
                go_wp2
                go_roundw
                case rel => exact ⟨j + 1, by omega, by go_num, by trivial, HS.out⟩
                case measure => simp only [intOf]; omega
          · have HF : Hid (goodF10 f = true) := HA2.out fun i hi => hok.out i (by omega)
            go_wp2
            go_ret
            rw [HF.out]
            exact ⟨rfl, by rw [Hbb.out]; exact hB1⟩

set_option maxRecDepth 100000 in
set_option maxHeartbeats 2000000 in
theorem rgoodE_any (x : EntV) (w : World) (hF : FitsE w x) : Calls Try.prog 10 #[.agg x.arr] w fun e w' => e = .returned (.bool (goodE10 x.e)) ∧ Below w.heap.size w w' := by
  have hb1 : Below w.heap.size w (w.alloc (.cells x.arr 28)) := (Below.refl _ _).alloc (Nat.le_refl _) _
  have hbox : EntAt (w.alloc (.cells x.arr 28)) w.heap.size x := heap_alloc_new w _
  have HG : Hid (goodE10 x.e = (decide (1 ≤ x.i) && decide (1 ≤ x.t) && (if x.k = 1 then emptyF10 x.f.f && same9 x.c zeroC9 else if x.k = 2 then emptyF10 x.f.f && good9 x.c else if x.k = 3 then goodF10 x.f.f && same9 x.c zeroC9 else false))) := rfl
  have hn := hF.f.u.len.1
  have hm := hF.f.v.len.1
  have hln := hF.f.lu
  have hlm := hF.f.lv
  rw [hn] at hln
  rw [hm] at hlm
  have HE : Hid (emptyF10 x.f.f = decide ((x.f.u.n : Int) + (x.f.v.n : Int) = 0)) := by
    rw [Hid, ← hn, ← hm]
    unfold emptyF10
    cases x.f.f.vs <;> cases x.f.f.ls <;> simp <;> omega
  have kc := fun W => rgood_any x.c W
  have kf := rgoodConf_any x.f _ (hF.f.below hb1)
  have he := fun W => eqlC x.c.k x.c.s x.c.q x.c.key x.c.old x.c.val x.c.unt x.c.lim 0 0 0 em9 em9 em9 em9 0 W
  have hg := grdC
  have HZ : Hid (same9 x.c zeroC9 = same9 ⟨x.c.k, x.c.s, x.c.q, x.c.key, x.c.old, x.c.val, x.c.unt, x.c.lim⟩ ⟨0, 0, 0, em9, em9, em9, em9, 0⟩) := rfl
  rw [HZ.out] at HG
  clear HZ hn hm
  generalize same9 ⟨x.c.k, x.c.s, x.c.q, x.c.key, x.c.old, x.c.val, x.c.unt, x.c.lim⟩ ⟨0, 0, 0, em9, em9, em9, em9, 0⟩ = rz at *
  generalize hre : emptyF10 x.f.f = re at *
  generalize good9 x.c = rc at *
  generalize goodF10 x.f.f = rf at *
  generalize hr : goodE10 x.e = r at *
  clear hr hF hre
  have hbz := hb1.size
  obtain ⟨i, t, k, ⟨ck, cs, cq, ckey, cold, cval, cunt, clim⟩, ⟨⟨p, n, c⟩, ⟨q, m, d⟩, f⟩⟩ := x
  unfold EntV.arr at *
  unfold ConfV.arr Cmd9.arr at *
  dsimp only at *
  by_cases hi : i < 1
  · have HF : Hid (r = false) := by rw [Hid, HG.out, decide_eq_false (by omega)]; rfl
    clear HG HE kc kf he hg
    go_enter Try.func10, Try.ntmps10
    go_wp2
    go_ret
    rw [HF.out]
    exact ⟨rfl, hb1⟩
  by_cases ht : t < 1
  · have HF : Hid (r = false) := by rw [Hid, HG.out, decide_eq_false (p := 1 ≤ t) (by omega), Bool.and_false]; rfl
    clear HG HE kc kf he hg
    go_enter Try.func10, Try.ntmps10
    go_wp2
    go_ret
    rw [HF.out]
    exact ⟨rfl, hb1⟩
  have HF : Hid (r = (if k = 1 then re && rz else if k = 2 then re && rc else if k = 3 then rf && rz else false)) := by
    rw [Hid, HG.out, decide_eq_true (p := 1 ≤ i) (by omega), decide_eq_true (p := 1 ≤ t) (by omega)]
    rfl
  clear HG
  have HB : (((n : Int) + (m : Int)) == 0) = re := by
    rw [HE.out]
    rfl
  have Hre : Hid (re = true ∨ re = false) := by cases re <;> simp [Hid]
  clear HE
  by_cases h1 : k = 1
  · have HF1 : Hid (r = (re && rz)) := by rw [Hid, HF.out, if_pos h1]
    clear HF kc kf
    subst h1
    cases re <;> cases rz
    all_goals
      go_enter Try.func10, Try.ntmps10
      go_wp2
      go_ret
      rw [HF1.out]
      exact ⟨rfl, hb1⟩
  have e1 : (k == 1) = false := by simpa using h1
  by_cases h2 : k = 2
  · have HF1 : Hid (r = (re && rc)) := by rw [Hid, HF.out, if_neg h1, if_pos h2]
    clear HF kf h1 e1
    subst h2
    cases re with
    | false =>
      go_enter Try.func10, Try.ntmps10
      go_wp2
      go_ret
      rw [HF1.out]
      exact ⟨rfl, hb1⟩
    | true =>
      go_enter Try.func10, Try.ntmps10
      go_wp2_with fail
      refine (kc _).mono ?_
      rintro e w3 ⟨rfl, hb3⟩
      have hb9 := hb1.trans (hb3.mono hbz)
      go_wp2
      go_ret
      rw [HF1.out]
      exact ⟨by simp, hb9⟩
  have e2 : (k == 2) = false := by simpa using h2
  by_cases h3 : k = 3
  · have HF1 : Hid (r = (rf && rz)) := by rw [Hid, HF.out, if_neg h1, if_neg h2, if_pos h3]
    clear HF kc h1 e1 h2 e2
    subst h3
    go_enter Try.func10, Try.ntmps10
    go_wp2_with fail
    generalize w.alloc (.cells #[.int .i64 i, .int .i64 t, .int .i64 3, .int .i64 ck, .int .i64 cs, .int .i64 cq, .string ckey, .string cold, .string cval, .string cunt, .int .i64 clim, .slice p n c, .slice q m d] 28) = W1 at *
    refine kf.mono ?_
    rintro e w3 ⟨rfl, hb3⟩
    have hb9 := hb1.trans (hb3.mono hbz)
    have hbox2 : EntAt w3 w.heap.size ⟨i, t, 3, ⟨ck, cs, cq, ckey, cold, cval, cunt, clim⟩, ⟨⟨p, n, c⟩, ⟨q, m, d⟩, f⟩⟩ := box_below hbox hb3
    obtain ⟨c0, c1, c2, c3, c4, c5, c6, c7, c8, c9, c10, c11, c12⟩ := hbox2.cells
    dsimp only at c0 c1 c2 c3 c4 c5 c6 c7 c8 c9 c10 c11 c12
    have hlt2 := box_lt hbox2
    clear hbox kf
    cases rf <;> cases rz
    all_goals
      go_wp2
      go_ret
      rw [HF1.out]
      exact ⟨rfl, hb9⟩
  have e3 : (k == 3) = false := by simpa using h3
  have HF1 : Hid (r = false) := by rw [Hid, HF.out, if_neg h1, if_neg h2, if_neg h3]
  clear HF kc kf h1 h2 h3
  go_enter Try.func10, Try.ntmps10
  go_wp2
  go_ret
  rw [HF1.out]
  exact ⟨rfl, hb1⟩

set_option maxRecDepth 100000 in
set_option maxHeartbeats 2000000 in
theorem sameE_any (x y : EntV) (w : World) (hx : FitsF w x.f) (hy : FitsF w y.f) : Calls Try.prog 16 #[.agg x.arr, .agg y.arr] w fun e w' => e = .returned (.bool (sameE10 x.e y.e)) ∧ Below w.heap.size w w' := by
  have hb1 : Below w.heap.size w (w.alloc (.cells x.arr 28)) := (Below.refl _ _).alloc (Nat.le_refl _) _
  have hb2 := (Below.refl _ (w.alloc (.cells x.arr 28))).alloc (Nat.le_refl _) (.cells y.arr 28)
  have hB := hb1.trans (hb2.mono hb1.size)
  have hbz := hB.size
  have ks := sameConf_any x.f y.f _ ((hx.below hb1).below hb2) ((hy.below hb1).below hb2)
  have HS : Hid (sameE10 x.e y.e = (decide (x.i = y.i) && decide (x.t = y.t) && decide (x.k = y.k) && same9 x.c y.c && sameF10 x.f.f y.f.f)) := rfl
  have he := fun W => eqlC x.c.k x.c.s x.c.q x.c.key x.c.old x.c.val x.c.unt x.c.lim y.c.k y.c.s y.c.q y.c.key y.c.old y.c.val y.c.unt y.c.lim W
  have hg := grdC
  have HZ : Hid (same9 x.c y.c = same9 ⟨x.c.k, x.c.s, x.c.q, x.c.key, x.c.old, x.c.val, x.c.unt, x.c.lim⟩ ⟨y.c.k, y.c.s, y.c.q, y.c.key, y.c.old, y.c.val, y.c.unt, y.c.lim⟩) := rfl
  rw [HZ.out] at HS
  clear HZ
  generalize same9 ⟨x.c.k, x.c.s, x.c.q, x.c.key, x.c.old, x.c.val, x.c.unt, x.c.lim⟩ ⟨y.c.k, y.c.s, y.c.q, y.c.key, y.c.old, y.c.val, y.c.unt, y.c.lim⟩ = rz at *
  generalize sameF10 x.f.f y.f.f = rf at *
  generalize hr : sameE10 x.e y.e = r at *
  clear hr hx hy hb1 hb2
  obtain ⟨i, t, k, ⟨ck, cs, cq, ckey, cold, cval, cunt, clim⟩, ⟨⟨p, n, c⟩, ⟨q, m, d⟩, f⟩⟩ := x
  obtain ⟨i', t', k', ⟨ck', cs', cq', ckey', cold', cval', cunt', clim'⟩, ⟨⟨p', n', c'⟩, ⟨q', m', d'⟩, f'⟩⟩ := y
  unfold EntV.arr at *
  unfold ConfV.arr at *
  dsimp only at *
  by_cases h1 : i = i'
  case neg =>
    have HF : Hid (r = false) := by rw [Hid, HS.out, decide_eq_false h1]; simp
    have e9 : (i == i') = false := by simpa using h1
    clear HS ks he hg
    go_enter Try.func16, Try.ntmps16
    go_wp2
    go_ret
    rw [HF.out]
    exact ⟨rfl, hB⟩
  subst h1
  by_cases h2 : t = t'
  case neg =>
    have HF : Hid (r = false) := by rw [Hid, HS.out, decide_eq_false h2]; simp
    have e9 : (t == t') = false := by simpa using h2
    clear HS ks he hg
    go_enter Try.func16, Try.ntmps16
    go_wp2
    go_ret
    rw [HF.out]
    exact ⟨rfl, hB⟩
  subst h2
  by_cases h3 : k = k'
  case neg =>
    have HF : Hid (r = false) := by rw [Hid, HS.out, decide_eq_false h3]; simp
    have e9 : (k == k') = false := by simpa using h3
    clear HS ks he hg
    go_enter Try.func16, Try.ntmps16
    go_wp2
    go_ret
    rw [HF.out]
    exact ⟨rfl, hB⟩
  subst h3
  have HF : Hid (r = (rz && rf)) := by rw [Hid, HS.out, decide_eq_true rfl, decide_eq_true rfl, decide_eq_true rfl]; rfl
  clear HS
  cases rz with
  | false =>
    clear ks
    go_enter Try.func16, Try.ntmps16
    go_wp2
    go_ret
    rw [HF.out]
    exact ⟨rfl, hB⟩
  | true =>
    go_enter Try.func16, Try.ntmps16
    go_wp2_with fail
    refine ks.mono ?_
    rintro e w3 ⟨rfl, hb3⟩
    have hb9 := hB.trans (hb3.mono hbz)
    go_wp2
    go_ret
    rw [HF.out]
    exact ⟨by simp, hb9⟩

set_option maxRecDepth 100000 in
set_option maxHeartbeats 2000000 in
theorem rsameE_any (x y : EntV) (w : World) (hx : FitsF w x.f) (hy : FitsF w y.f) : Calls Try.prog 17 #[.agg x.arr, .agg y.arr] w fun e w' => e = .returned (.bool (sameE10 x.e y.e)) ∧ Below w.heap.size w w' := by
  have hb1 : Below w.heap.size w (w.alloc (.cells x.arr 28)) := (Below.refl _ _).alloc (Nat.le_refl _) _
  have hb2 := (Below.refl _ (w.alloc (.cells x.arr 28))).alloc (Nat.le_refl _) (.cells y.arr 28)
  have hB := hb1.trans (hb2.mono hb1.size)
  have hbz := hB.size
  have ks := rsameConf_any x.f y.f _ ((hx.below hb1).below hb2) ((hy.below hb1).below hb2)
  have HS : Hid (sameE10 x.e y.e = (decide (x.i = y.i) && decide (x.t = y.t) && decide (x.k = y.k) && same9 x.c y.c && sameF10 x.f.f y.f.f)) := rfl
  have he := fun W => eqlC x.c.k x.c.s x.c.q x.c.key x.c.old x.c.val x.c.unt x.c.lim y.c.k y.c.s y.c.q y.c.key y.c.old y.c.val y.c.unt y.c.lim W
  have hg := grdC
  have HZ : Hid (same9 x.c y.c = same9 ⟨x.c.k, x.c.s, x.c.q, x.c.key, x.c.old, x.c.val, x.c.unt, x.c.lim⟩ ⟨y.c.k, y.c.s, y.c.q, y.c.key, y.c.old, y.c.val, y.c.unt, y.c.lim⟩) := rfl
  rw [HZ.out] at HS
  clear HZ
  generalize same9 ⟨x.c.k, x.c.s, x.c.q, x.c.key, x.c.old, x.c.val, x.c.unt, x.c.lim⟩ ⟨y.c.k, y.c.s, y.c.q, y.c.key, y.c.old, y.c.val, y.c.unt, y.c.lim⟩ = rz at *
  generalize sameF10 x.f.f y.f.f = rf at *
  generalize hr : sameE10 x.e y.e = r at *
  clear hr hx hy hb1 hb2
  obtain ⟨i, t, k, ⟨ck, cs, cq, ckey, cold, cval, cunt, clim⟩, ⟨⟨p, n, c⟩, ⟨q, m, d⟩, f⟩⟩ := x
  obtain ⟨i', t', k', ⟨ck', cs', cq', ckey', cold', cval', cunt', clim'⟩, ⟨⟨p', n', c'⟩, ⟨q', m', d'⟩, f'⟩⟩ := y
  unfold EntV.arr at *
  unfold ConfV.arr at *
  dsimp only at *
  by_cases h1 : i = i'
  case neg =>
    have HF : Hid (r = false) := by rw [Hid, HS.out, decide_eq_false h1]; simp
    have e9 : (i == i') = false := by simpa using h1
    clear HS ks he hg
    go_enter Try.func17, Try.ntmps17
    go_wp2
    go_ret
    rw [HF.out]
    exact ⟨rfl, hB⟩
  subst h1
  by_cases h2 : t = t'
  case neg =>
    have HF : Hid (r = false) := by rw [Hid, HS.out, decide_eq_false h2]; simp
    have e9 : (t == t') = false := by simpa using h2
    clear HS ks he hg
    go_enter Try.func17, Try.ntmps17
    go_wp2
    go_ret
    rw [HF.out]
    exact ⟨rfl, hB⟩
  subst h2
  by_cases h3 : k = k'
  case neg =>
    have HF : Hid (r = false) := by rw [Hid, HS.out, decide_eq_false h3]; simp
    have e9 : (k == k') = false := by simpa using h3
    clear HS ks he hg
    go_enter Try.func17, Try.ntmps17
    go_wp2
    go_ret
    rw [HF.out]
    exact ⟨rfl, hB⟩
  subst h3
  have HF : Hid (r = (rz && rf)) := by rw [Hid, HS.out, decide_eq_true rfl, decide_eq_true rfl, decide_eq_true rfl]; rfl
  clear HS
  cases rz with
  | false =>
    clear ks
    go_enter Try.func17, Try.ntmps17
    go_wp2
    go_ret
    rw [HF.out]
    exact ⟨rfl, hB⟩
  | true =>
    go_enter Try.func17, Try.ntmps17
    go_wp2_with fail
    refine ks.mono ?_
    rintro e w3 ⟨rfl, hb3⟩
    have hb9 := hB.trans (hb3.mono hbz)
    go_wp2
    go_ret
    rw [HF.out]
    exact ⟨by simp, hb9⟩
end Go.Proofs.Ytnbaoimjcaeeaaa

/-
  Contracts: entry.GoodSnap, corbelref10.GoodSnap; what few of the statements of stage 10 tells.
-/
namespace Go.Proofs.Ytnbaoimjcaeeaaa
open Go.RowKit Go.Shelf

set_option maxRecDepth 100000 in
set_option maxHeartbeats 2000000 in
theorem goodSnap_any (x : SnapV) (w : World) (hF : FitsS w x) : Calls Try.prog 21 #[.agg x.arr] w fun e w' => e = .returned (.bool (goodS10 x.s)) ∧ Below w.heap.size w w' := by
  have hb1 : Below w.heap.size w (w.alloc (.cells x.arr 39)) := (Below.refl _ _).alloc (Nat.le_refl _) _
  have hbox : SnapAt (w.alloc (.cells x.arr 39)) w.heap.size x := heap_alloc_new w _
  have hbz := hb1.size
  have kf := goodConf_any x.f _ (hF.f.below hb1)
  have hn := hF.w.len.1
  have HG : Hid (goodS10 x.s = (decide (1 ≤ x.i) && decide (1 ≤ x.t) && goodF10 x.f.f && decide ((x.w.n : Int) ≤ 1048576))) := by
    rw [Hid, ← hn]
    unfold goodS10 SnapV.s
    dsimp only
    congr 1
    rw [decide_eq_decide]
    omega
  generalize goodF10 x.f.f = rf at *
  generalize goodS10 x.s = r at *
  clear hF hn
  obtain ⟨i, t, ⟨⟨p, n, c⟩, ⟨q, m, d⟩, f⟩, ⟨a, b, e⟩, dd⟩ := x
  unfold SnapV.arr at *
  unfold ConfV.arr at *
  dsimp only at *
  by_cases h1 : 1 ≤ i
  case neg =>
    have HF : Hid (r = false) := by rw [Hid, HG.out, decide_eq_false h1]; rfl
    clear HG kf
    go_enter Try.func21, Try.ntmps21
    go_wp2
    go_ret
    rw [HF.out]
    exact ⟨rfl, hb1⟩
  by_cases h2 : 1 ≤ t
  case neg =>
    have HF : Hid (r = false) := by rw [Hid, HG.out, decide_eq_false h2]; simp
    clear HG kf
    go_enter Try.func21, Try.ntmps21
    go_wp2
    go_ret
    rw [HF.out]
    exact ⟨rfl, hb1⟩
  have HF : Hid (r = (rf && decide ((b : Int) ≤ 1048576))) := by rw [Hid, HG.out, decide_eq_true h1, decide_eq_true h2]; rfl
  clear HG
  cases rf with
  | false =>
    go_enter Try.func21, Try.ntmps21
    go_wp2_with fail
    refine kf.mono ?_
    rintro e w3 ⟨rfl, hb3⟩
    have hb9 := hb1.trans (hb3.mono hbz)
    go_wp2
    go_ret
    rw [HF.out]
    exact ⟨rfl, hb9⟩
  | true =>
    go_enter Try.func21, Try.ntmps21
    go_wp2_with fail
    generalize w.alloc (.cells #[.int .i64 i, .int .i64 t, .slice p n c, .slice q m d, .slice a b e] 39) = W1 at *
    refine kf.mono ?_
    rintro e' w3 ⟨rfl, hb3⟩
    have hb9 := hb1.trans (hb3.mono hbz)
    have hbox3 : SnapAt w3 w.heap.size ⟨i, t, ⟨⟨p, n, c⟩, ⟨q, m, d⟩, f⟩, ⟨a, b, e⟩, dd⟩ := box_below hbox hb3
    obtain ⟨c0, c1, c2, c3, c4⟩ := hbox3.cells
    dsimp only at c0 c1 c2 c3 c4
    have hlt := box_lt hbox3
    clear hbox kf
    go_wp2
    go_ret
    rw [HF.out]
    exact ⟨rfl, hb9⟩

set_option maxRecDepth 100000 in
set_option maxHeartbeats 2000000 in
theorem rgoodSnap_any (x : SnapV) (w : World) (hF : FitsS w x) : Calls Try.prog 22 #[.agg x.arr] w fun e w' => e = .returned (.bool (goodS10 x.s)) ∧ Below w.heap.size w w' := by
  have hb1 : Below w.heap.size w (w.alloc (.cells x.arr 39)) := (Below.refl _ _).alloc (Nat.le_refl _) _
  have hbox : SnapAt (w.alloc (.cells x.arr 39)) w.heap.size x := heap_alloc_new w _
  have hbz := hb1.size
  have kf := rgoodConf_any x.f _ (hF.f.below hb1)
  have hn := hF.w.len.1
  have HG : Hid (goodS10 x.s = (decide (1 ≤ x.i) && decide (1 ≤ x.t) && goodF10 x.f.f && decide ((x.w.n : Int) ≤ 1048576))) := by
    rw [Hid, ← hn]
    unfold goodS10 SnapV.s
    dsimp only
    congr 1
    rw [decide_eq_decide]
    omega
  generalize goodF10 x.f.f = rf at *
  generalize goodS10 x.s = r at *
  clear hF hn
  obtain ⟨i, t, ⟨⟨p, n, c⟩, ⟨q, m, d⟩, f⟩, ⟨a, b, e⟩, dd⟩ := x
  unfold SnapV.arr at *
  unfold ConfV.arr at *
  dsimp only at *
  by_cases h1 : 1 ≤ i
  case neg =>
    have HF : Hid (r = false) := by rw [Hid, HG.out, decide_eq_false h1]; rfl
    clear HG kf
    go_enter Try.func22, Try.ntmps22
    go_wp2
    go_ret
    rw [HF.out]
    exact ⟨rfl, hb1⟩
  by_cases h2 : 1 ≤ t
  case neg =>
    have HF : Hid (r = false) := by rw [Hid, HG.out, decide_eq_false h2]; simp
    clear HG kf
    go_enter Try.func22, Try.ntmps22
    go_wp2
    go_ret
    rw [HF.out]
    exact ⟨rfl, hb1⟩
  have HF : Hid (r = (rf && decide ((b : Int) ≤ 1048576))) := by rw [Hid, HG.out, decide_eq_true h1, decide_eq_true h2]; rfl
  clear HG
  cases rf with
  | false =>
    go_enter Try.func22, Try.ntmps22
    go_wp2_with fail
    refine kf.mono ?_
    rintro e w3 ⟨rfl, hb3⟩
    have hb9 := hb1.trans (hb3.mono hbz)
    go_wp2
    go_ret
    rw [HF.out]
    exact ⟨rfl, hb9⟩
  | true =>
    go_enter Try.func22, Try.ntmps22
    go_wp2_with fail
    generalize w.alloc (.cells #[.int .i64 i, .int .i64 t, .slice p n c, .slice q m d, .slice a b e] 39) = W1 at *
    refine kf.mono ?_
    rintro e' w3 ⟨rfl, hb3⟩
    have hb9 := hb1.trans (hb3.mono hbz)
    have hbox3 : SnapAt w3 w.heap.size ⟨i, t, ⟨⟨p, n, c⟩, ⟨q, m, d⟩, f⟩, ⟨a, b, e⟩, dd⟩ := box_below hbox hb3
    obtain ⟨c0, c1, c2, c3, c4⟩ := hbox3.cells
    dsimp only at c0 c1 c2 c3 c4
    have hlt := box_lt hbox3
    clear hbox kf
    go_wp2
    go_ret
    rw [HF.out]
    exact ⟨rfl, hb9⟩

/-- An entry of a row of entries. -/
theorem HasE.at {W : World} {s : Sl10} {es : List EntV} (h : HasE W s es) {j : Nat} (hj : j < s.n) : ∃ b o x, s.p = some ⟨b, o, none⟩ ∧ b < W.heap.size ∧ x = es.getD j noEV ∧ x ∈ es ∧ FitsE W x ∧ W.cell? ⟨b, o + j * 13, none⟩ = some (.int .i64 x.i) ∧ W.cell? ⟨b, o + j * 13 + 1, none⟩ = some (.int .i64 x.t) ∧ W.cell? ⟨b, o + j * 13 + 2, none⟩ = some (.int .i64 x.k) ∧ W.cell? ⟨b, o + j * 13 + 3, none⟩ = some (.int .i64 x.c.k) ∧ W.cell? ⟨b, o + j * 13 + 4, none⟩ = some (.int .i64 x.c.s) ∧ W.cell? ⟨b, o + j * 13 + 5, none⟩ = some (.int .i64 x.c.q) ∧ W.cell? ⟨b, o + j * 13 + 6, none⟩ = some (.string x.c.key) ∧ W.cell? ⟨b, o + j * 13 + 7, none⟩ = some (.string x.c.old) ∧ W.cell? ⟨b, o + j * 13 + 8, none⟩ = some (.string x.c.val) ∧ W.cell? ⟨b, o + j * 13 + 9, none⟩ = some (.string x.c.unt) ∧ W.cell? ⟨b, o + j * 13 + 10, none⟩ = some (.int .i64 x.c.lim) ∧ W.cell? ⟨b, o + j * 13 + 11, none⟩ = some (.slice x.f.u.p x.f.u.n x.f.u.c) ∧ W.cell? ⟨b, o + j * 13 + 12, none⟩ = some (.slice x.f.v.p x.f.v.n x.f.v.c) := by
  obtain ⟨b, o, hp, hb, hc⟩ := h.at' (by omega)
  have hjl : j < es.length := by rw [h.n]; exact hj
  have hm : es.getD j noEV ∈ es := by
    rw [List.getD_eq_getElem?_getD, List.getElem?_eq_getElem hjl]
    exact List.getElem_mem hjl
  exact ⟨b, o, es.getD j noEV, hp, hb, rfl, hm, h.all _ hm, hc j hj 0 (by omega), hc j hj 1 (by omega), hc j hj 2 (by omega), hc j hj 3 (by omega), hc j hj 4 (by omega), hc j hj 5 (by omega), hc j hj 6 (by omega), hc j hj 7 (by omega), hc j hj 8 (by omega), hc j hj 9 (by omega), hc j hj 10 (by omega), hc j hj 11 (by omega), hc j hj 12 (by omega)⟩

/-- What is looked at of a message. -/
structure FewM (x : MsgV) : Prop where
  es : x.es.length ≤ 400
  each : ∀ e ∈ x.es, weightE e.e ≤ 400
  d : x.sn.d.length ≤ 20049
  vs : x.sn.f.f.vs.length ≤ 400
  ls : x.sn.f.f.ls.length ≤ 400


set_option maxRecDepth 100000 in
set_option maxHeartbeats 3000000 in
theorem few10_any (x : MsgV) (w : World) (hF : FitsM w x) : Calls Try.prog 20 #[.agg x.arr] w fun e w' => ∃ r : Bool, e = .returned (.bool r) ∧ (r = true → FewM x) ∧ Below w.heap.size w w' := by
  have hb1 : Below w.heap.size w (w.alloc (.cells x.arr 45)) := (Below.refl _ _).alloc (Nat.le_refl _) _
  have hbox : MsgAt (w.alloc (.cells x.arr 45)) w.heap.size x := heap_alloc_new w _
  have hbz := hb1.size
  have hd := hF.sn.w.len.1
  have hn := hF.sn.f.u.len.1
  have hm := hF.sn.f.v.len.1
  have ld := hF.sn.l
  have ln := hF.sn.f.lu
  have lm := hF.sn.f.lv
  have he := hF.es.n
  have hlen := hF.len
  rw [hd] at ld
  rw [hn] at ln
  rw [hm] at lm
  obtain ⟨Q, hQ⟩ : ∃ Q : Nat, x.sn.w.n / 50 = Q := ⟨_, rfl⟩
  have hq : (x.sn.w.n : Int).tdiv 50 = (Q : Int) := by
    rw [Int.tdiv_eq_ediv_of_nonneg (by omega)]
    omega
  have hQ2 : Q ≤ 2814749767107 := by omega
  have HD : Hid (x.sn.w.n / 50 = Q) := hQ
  have HX : Hid (∀ W, Below w.heap.size w W → HasE W x.w x.es) := fun W h => hF.es.below h
  have HE : Hid (x.es.length = x.w.n) := he
  have HF : Hid (∀ N : Nat, Q + x.sn.f.u.n + x.sn.f.v.n + x.w.n ≤ N → (∀ i, i < x.w.n → weightE (x.es.getD i noEV).e ≤ N) → N ≤ 400 → FewM x) := fun N h1 h2 h3 => by
    refine ⟨by omega, fun e hme => ?_, by omega, by omega, by omega⟩
    obtain ⟨i, hi, rfl⟩ := List.getElem_of_mem hme
    have := h2 i (by omega)
    rw [List.getD_eq_getElem?_getD, List.getElem?_eq_getElem hi] at this
    exact Nat.le_trans this h3
  clear hF hd hn hm he hQ
  generalize FewM x = FM at *
  obtain ⟨k, fr, too, t, i, lt, cm, ro, rej, hint, ⟨a, b, e⟩, es, ⟨si, st, ⟨⟨p, n, c⟩, ⟨q, m, d⟩, f⟩, ⟨a', b', e'⟩, dd⟩⟩ := x
  unfold MsgV.arr at *
  dsimp only at *
  go_enter Try.func20, Try.ntmps20
  go_wp2
  generalize w.alloc (.cells #[.int .i64 k, .int .i64 fr, .int .i64 too, .int .i64 t, .int .i64 i, .int .i64 lt, .int .i64 cm, .int .i64 ro, .bool rej, .int .i64 hint, .slice a b e, .int .i64 si, .int .i64 st, .slice p n c, .slice q m d, .slice a' b' e'] 45) = W1 at *
  clear hbox
  go_loopw [3, 26] (fun s3 s26 wr => ∃ (j N : Nat), j ≤ b ∧ s26 = .int .i64 (j : Nat) ∧ s3 = .int .i64 (N : Nat) ∧ N ≤ 70368744177664 ∧ (Q + n + m + j ≤ N) ∧ Hid (∀ i, i < j → weightE (es.getD i noEV).e ≤ N) ∧ Below w.heap.size w wr) (fun _ s26 _ => b - (intOf s26).toNat)
  case atStart => exact ⟨0, Q + n + m, Nat.zero_le _, rfl, rfl, by omega, by omega, (fun i hi => by omega), hb1⟩
  case round =>
    obtain ⟨j, N, hj, rfl, rfl, hN, hQN, hok, hb⟩ := hrel
    by_cases hlt : j < b
    · obtain ⟨bb, o, x, hp, hbl, Hx, -, hfit, g0, g1, g2, g3, g4, g5, g6, g7, g8, g9, g10, g11, g12⟩ := (HX.out wr hb).at (j := j) hlt
      dsimp only at hp
      subst hp
      have HXj : Hid (weightE x.e = weightE (es.getD j noEV).e) := by rw [Hid, ← Hx]
      have hba : Below wr.heap.size wr (wr.alloc (.cells x.arr 28)) := (Below.refl _ _).alloc (Nat.le_refl _) _
      have kw := weight_any x _ (hfit.below hba)
      have hwb : 1 ≤ weightE x.e ∧ weightE x.e ≤ 70368744177664 := by
        obtain ⟨s1, s2, s3, s4, -⟩ := hfit.c
        have := hfit.f.lu
        have := hfit.f.lv
        unfold weightE EntV.e
        dsimp only
        omega
      have hbw := hba.size
      generalize weightE x.e = wx at *
      clear hfit Hx
      obtain ⟨xi, xt, xk, ⟨ck, cs, cq, ckey, cold, cval, cunt, clim⟩, ⟨⟨p1, n1, c1⟩, ⟨q1, m1, d1⟩, f1⟩⟩ := x
      unfold EntV.arr at *
      dsimp only at *
      go_wp2_with fail
      generalize wr.alloc (.cells #[.int .i64 xi, .int .i64 xt, .int .i64 xk, .int .i64 ck, .int .i64 cs, .int .i64 cq, .string ckey, .string cold, .string cval, .string cunt, .int .i64 clim, .slice p1 n1 c1, .slice q1 m1 d1] 28) = W2 at *
      refine kw.mono ?_
      rintro e2 w3 ⟨rfl, hb3⟩
      have hB3 := hb.trans ((hba.trans (hb3.mono hbw)).mono hb.size)
      have HOK : Hid (∀ i, i < j + 1 → weightE (es.getD i noEV).e ≤ N + wx) := fun i hi => by
        by_cases e : i = j
        · rw [e, ← HXj.out]; omega
        · have := hok.out i (by omega)
          omega
      clear kw g0 g1 g2 g3 g4 g5 g6 g7 g8 g9 g10 g11 g12 hok
      by_cases hbig : 400 < N + wx
      · have hbig' : (400 : Int) < (N : Int) + (wx : Int) := by omega
        go_wp2
        go_ret
        exact ⟨false, rfl, (fun h => by cases h), hB3⟩
      · have hbig' : ¬ (400 : Int) < (N : Int) + (wx : Int) := by omega
        go_wp2
        go_roundw
        case rel => exact ⟨j + 1, N + wx, by omega, by go_num, rfl, by omega, by omega, HOK.out, hB3⟩
        case measure => simp only [intOf]; omega
    · have HD2 : Hid (N ≤ 400 → FM) := HF.out N (by omega) fun i hi => hok.out i (by omega)
      go_wp2
      go_ret
      exact ⟨_, rfl, (fun h => HD2.out (by have := of_decide_eq_true h; omega)), hb⟩
end Go.Proofs.Ytnbaoimjcaeeaaa

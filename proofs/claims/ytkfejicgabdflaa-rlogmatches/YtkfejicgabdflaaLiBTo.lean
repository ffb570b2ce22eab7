import Derived.Test.YtkfejicgabdflaaLhJTo
import Derived.Test.YtkfejicgabdflaaLxTo
import Derived.Test.YtkfejicgabdflaaHRowETo
namespace Go.Proofs.Ytkfejicgabdflaa
open Go.RowKit Go.Shelf
attribute [local go_sem ↓] ldE_exec stE_exec ldE_execI stE_execI ldE_box ldC_exec stC_exec ldC_execI stC_execI ldC_run oc_int oc_bool oc_string oc_slice oc_pointer
theorem HasE.drop {w : World} {s : Sl10} {es : List EntV} (h : HasE w s es) {k g o : Nat} (hk : k < s.n) (hp : s.p = some ⟨g, o, none⟩) : HasE w ⟨some ⟨g, o + k * 13, none⟩, s.n - k, s.c - k⟩ (es.drop k) := by
  have hn := h.n
  have hc := h.c
  obtain ⟨b, o', hp', hlt, hcell⟩ := h.at' (by omega)
  rw [hp] at hp'
  cases hp'
  refine ⟨by rw [List.length_drop, hn], by show s.n - k ≤ s.c - k; omega, (fun h => by cases h), fun _ => ⟨g, o + k * 13, rfl, hlt, fun i hi j hj => ?_⟩, fun e he => h.all e (List.mem_of_mem_drop he)⟩
  have hi' : i < s.n - k := hi
  have e1 : (es.drop k).getD i noEV = es.getD (k + i) noEV := by rw [List.getD_eq_getElem?_getD, List.getD_eq_getElem?_getD, List.getElem?_drop]
  rw [e1, ← hcell (k + i) (by omega) j hj]
  congr 2
  omega
section
variable {w : World} {b : Nat} {G : Nat → Prop} {s : Sl10} {es : List EntV} {g : Int} {L : LG}
set_option maxRecDepth 100000 in
set_option maxHeartbeats 4000000 in
theorem match13_any (h : LogG w b G s es g L) (i t : Int) (sx : Sl10) (xs : List EntV) (hE : ∀ W, Turn (fun k => k = b ∨ G k) w W → HasE W sx xs) (hi : inI i) (hl : es.length + sx.n ≤ 837723144948) (htp : L.end + sx.n ≤ 1125899906842624) :
    Calls Try.prog 18 #[.pointer (some ⟨b, 0, none⟩), .int .i64 i, .int .i64 t, .slice sx.p sx.n sx.c] w fun e w' => e = .returned (.tuple #[.int .i64 (L.match_ i t (xs.map EntV.e)).1.1, .bool (L.match_ i t (xs.map EntV.e)).1.2]) ∧ Turns13 w b G (L.match_ i t (xs.map EntV.e)).2 w' := by
  have hB1 : Below w.heap.size w (w.alloc (.cells #[.pointer (some ⟨b, 0, none⟩)] 30)) := (Below.refl _ w).alloc (Nat.le_refl _) _
  have hbx := heap_alloc_new w (.cells #[.pointer (some ⟨b, 0, none⟩)] 30)
  have q0 := box_cell hbx 0
  replace q0 : (w.alloc (.cells #[.pointer (some ⟨b, 0, none⟩)] 30)).cell? ⟨w.heap.size, 0, none⟩ = some (.pointer (some ⟨b, 0, none⟩)) := q0
  have hlq := box_lt hbx
  have kt := term13_any (h.below hB1) i
  have HH : Hid (LogG w b G s es g L) := h
  have HB1 : Hid _ := hB1
  have HBX : Hid _ := hbx
  have HI : Hid (inI i) := hi
  have HE : Hid (∀ W, Turn (fun k => k = b ∨ G k) w W → HasE W sx xs) := hE
  have HS : Hid (es.length + sx.n ≤ 837723144948 ∧ L.end + sx.n ≤ 1125899906842624 ∧ sx.n ≤ sx.c ∧ xs.length = sx.n) := ⟨hl, htp, (hE w (Turn.refl _ _)).c, (hE w (Turn.refl _ _)).n⟩
  obtain ⟨R, HR⟩ : ∃ R, Hid (L.match_ i t (xs.map EntV.e) = R) := ⟨_, rfl⟩
  rw [HR.out]
  obtain ⟨q, HQ⟩ : ∃ q, Hid (L.term i = q) := ⟨_, rfl⟩
  rw [HQ.out] at kt
  obtain ⟨tt, c⟩ := q
  dsimp only at kt
  clear h hB1 hbx hE hi hl htp
  by_cases hc : c = 0 ∧ tt = t
  · obtain ⟨rfl, rfl⟩ := hc
    obtain ⟨hi0, hi1, -⟩ := LG.term_ok HQ.out
    have hix := HH.out.nums
    have hx0 := hix.x0
    have hxe := hix.e1
    have wr : IntKind.i64.wrap (i + (sx.n : Int)) = i + (sx.n : Int) := by rw [IntKind.wrap_i64]; have := HS.out.2.1; omega
    obtain ⟨ch, HCh⟩ : ∃ ch, Hid (chain13 i tt (xs.map EntV.e) = ch) := ⟨_, rfl⟩
    have HK2 : Hid (∀ W, Below w.heap.size w W → Calls Try.prog 36 #[.int .i64 i, .int .i64 tt, .slice sx.p sx.n sx.c] W fun e w' => e = .returned (.bool ch) ∧ Below W.heap.size W w') := fun W hb => by
      have := follow13_any W i tt sx xs (HE.out _ (Turn.of_below hb (Nat.le_refl _))) (by have := HS.out; omega) HI.out.1 HI.out.2
      rw [HCh.out] at this
      exact this
    have HK3 : Hid (∀ (W : World) (q : Nat), Below w.heap.size w W → W.heap[q]? = some (Obj.cells #[Value.pointer (some ⟨b, 0, none⟩)] 30 (0, 0)) → Calls Try.prog 58 #[.slice sx.p sx.n sx.c, .func (.func 59) #[] #[.pointer (some ⟨q, 0, none⟩)]] W fun e w' => (∃ r : Int, e = .returned (.int .i64 r) ∧ ((r = -1 ∧ L.diff (xs.map EntV.e) = none) ∨ ∃ k : Nat, r = k ∧ k < sx.n ∧ L.diff (xs.map EntV.e) = some ((xs.drop k).map EntV.e))) ∧ Below W.heap.size W w') := fun W q hb hq => index13_any (HH.out.below hb) (q := q) hq sx xs (HE.out _ (Turn.of_below hb (Nat.le_refl _))) (by have := HS.out; omega)
    cases ch with
    | false =>
      have HF : Hid (R = ((0, false), L)) := by
        rw [Hid, ← HR.out]
        unfold LG.match_
        rw [if_neg]
        rintro ⟨-, h2⟩
        rw [HCh.out] at h2
        cases h2
      rw [HF.out]
      go_enter Try.func18, Try.ntmps18
      go_wp2_with fail
      generalize w.alloc (.cells #[.pointer (some ⟨b, 0, none⟩)] 30) = W1 at *
      refine kt.mono ?_
      rintro _ w2 ⟨rfl, hb2⟩
      have HB2 : Hid (Below w.heap.size w w2) := HB1.out.trans (hb2.mono HB1.out.size)
      have kf := HK2.out w2 HB2.out
      clear kt hb2 q0 hlq
      go_wp2_with fail
      refine kf.mono ?_
      rintro _ w3 ⟨rfl, hb3⟩
      have HT : Hid (Turns13 w b G L w3) := .of_below HH.out.log (HB2.out.trans (hb3.mono HB2.out.size))
      clear kf hb3
      go_wp2
      go_ret2
      exact ⟨rfl, HT.out⟩
    | true =>
      go_enter Try.func18, Try.ntmps18
      go_wp2_with fail
      generalize w.alloc (.cells #[.pointer (some ⟨b, 0, none⟩)] 30) = W1 at *
      refine kt.mono ?_
      rintro _ w2 ⟨rfl, hb2⟩
      have HB2 : Hid (Below w.heap.size w w2) := HB1.out.trans (hb2.mono HB1.out.size)
      have HX2 : Hid (w2.heap[w.heap.size]? = some (.cells #[.pointer (some ⟨b, 0, none⟩)] 30 (0, 0))) := box_below HBX.out hb2
      have kf := HK2.out w2 HB2.out
      clear kt hb2 q0 hlq HBX
      go_wp2_with fail
      refine kf.mono ?_
      rintro _ w3 ⟨rfl, hb3⟩
      have HB3 : Hid (Below w.heap.size w w3) := HB2.out.trans (hb3.mono HB2.out.size)
      have HX3 : Hid (w3.heap[w.heap.size]? = some (.cells #[.pointer (some ⟨b, 0, none⟩)] 30 (0, 0))) := box_below HX2.out hb3
      have ki := HK3.out w3 w.heap.size HB3.out HX3.out
      clear kf hb3 HX2 HB2
      go_wp2_with fail
      refine ki.mono ?_
      rintro _ w4 ⟨⟨r, rfl, hr⟩, hb4⟩
      have HB4 : Hid (Below w.heap.size w w4) := HB3.out.trans (hb4.mono HB3.out.size)
      have HX4 : Hid (w4.heap[w.heap.size]? = some (.cells #[.pointer (some ⟨b, 0, none⟩)] 30 (0, 0))) := box_below HX3.out hb4
      clear ki hb4 HX3 HB3
      rcases hr with ⟨rfl, hr⟩ | ⟨k, rfl, hkn, hr⟩
      · have HF : Hid (R = ((i + (sx.n : Int), true), L)) := by
          rw [Hid, ← HR.out]
          unfold LG.match_
          rw [if_pos ⟨HQ.out, HCh.out⟩, hr, List.length_map, HS.out.2.2.2]
        have HT : Hid (Turns13 w b G L (w4.drewN 1)) := .of_below HH.out.log (HB4.out.trans ((below_drewN (Below.refl _ _) 1).mono HB4.out.size))
        have HT2 : Hid (∀ m, Turns13 w b G L (w4.drewN m)) := fun m => .of_below HH.out.log (HB4.out.trans ((below_drewN (Below.refl _ _) m).mono HB4.out.size))
        clear hr
        go_wp2
        go_quiet (fail)
        go_wp2
        go_ret2
        exact ⟨by rw [HF.out]; rfl, by rw [HF.out]; exact HT2.out _⟩
      · have hkl : k < xs.length := by rw [HS.out.2.2.2]; exact hkn
        have HDk : Hid (xs.drop k = xs[k] :: xs.drop (k + 1)) := List.drop_eq_getElem_cons hkl
        rw [HDk.out, List.map_cons] at hr
        obtain ⟨k', p, hp⟩ := LG.place HQ.out HCh.out hr
        have HP : Hid (L.Place i tt (xs.map EntV.e) xs[k].e ((xs.drop (k + 1)).map EntV.e) k' p) := hp
        have hxi : xs[k].i = L.ix + p + 1 := by have h1 : xs[k].e.i = i + k' + 1 := hp.at'; have h2 := hp.pi; have h3 : xs[k].e.i = xs[k].i := rfl; omega
        have HF : Hid (R = if L.done < xs[k].i then ((i + (sx.n : Int), true), L.cut xs[k].e ((xs[k] :: xs.drop (k + 1)).map EntV.e)) else ((0, false), L)) := by
          rw [Hid, ← HR.out]
          unfold LG.match_
          rw [if_pos ⟨HQ.out, HCh.out⟩, hr, List.length_map, HS.out.2.2.2]
          dsimp only
          by_cases h5 : L.done < xs[k].i
          · rw [if_pos h5, if_neg (show ¬ xs[k].e.i ≤ L.done from Int.not_le.2 h5)]
            rfl
          · rw [if_neg h5, if_pos (show xs[k].e.i ≤ L.done from Int.not_lt.1 h5)]
        obtain ⟨g', o, hsp, -, -⟩ := (HE.out w (Turn.refl _ _)).at' (by omega)
        have HKp : Hid (∀ W, Below w.heap.size w W → Calls Try.prog 61 #[.pointer (some ⟨b, 0, none⟩), .slice (some ⟨g', o + k * 13, none⟩) (sx.n - k) (sx.c - k)] W fun e w' => e = .returned (.bool (decide (L.done < xs[k].i))) ∧ Turns13 W b G (if L.done < xs[k].i then L.cut xs[k].e ((xs[k] :: xs.drop (k + 1)).map EntV.e) else L) w') := fun W hb => by
          refine put13_any (HH.out.below hb) ⟨some ⟨g', o + k * 13, none⟩, sx.n - k, sx.c - k⟩ xs[k] (xs.drop (k + 1)) (fun Z hz => ?_) (fun e he => ?_) p hp.le hxi ?_ (fun hd => hp.inv HH.out.inv HCh.out hd) ?_
          · rw [← HDk.out]
            exact (HE.out Z ((Turn.of_below hb (Nat.le_refl _)).trans hz)).drop hkn hsp
          · rw [← HDk.out] at he
            exact goodE_few (chain_few HCh.out e.e (List.mem_map_of_mem (List.mem_of_mem_drop he)))
          · show es.length + (sx.n - k) ≤ _
            have := HS.out.1
            omega
          · rw [List.map_cons, LG.cut_end hp, List.length_map, HS.out.2.2.2]
            have := HS.out.2.1
            omega
        have hkc : k < sx.c := by have := HS.out.2.2.1; omega
        have hkn0 := HS.out.2.2.1
        have ld0 : w4.cell? ⟨w.heap.size, 0, none⟩ = some (.pointer (some ⟨b, 0, none⟩)) := box_cell HX4.out 0
        have hlt0 := box_lt HX4.out
        obtain ⟨px, nx, cx⟩ := sx
        dsimp only at *
        subst hsp
        obtain ⟨x, HX⟩ : ∃ x, Hid (xs[k] = x) := ⟨xs[k], rfl⟩
        rw [HX.out] at HKp HF
        obtain ⟨d, HD⟩ : ∃ d, Hid (decide (L.done < x.i) = d) := ⟨_, rfl⟩
        rw [HD.out] at HKp
        obtain ⟨L2, HL2⟩ : ∃ L2, Hid ((if L.done < x.i then L.cut x.e ((x :: xs.drop (k + 1)).map EntV.e) else L) = L2) := ⟨_, rfl⟩
        rw [HL2.out] at HKp
        have HF2 : Hid (R = if d = true then ((i + (nx : Int), true), L2) else ((0, false), L2)) := by
          rw [Hid, HF.out, ← HD.out, ← HL2.out]
          by_cases h5 : L.done < x.i
          · rw [if_pos h5, if_pos (decide_eq_true h5), if_pos h5]
          · rw [if_neg h5, if_neg (by rw [decide_eq_false h5]; exact Bool.noConfusion), if_neg h5]
        clear hr hp hxi HX HF HDk HP HK3 HK2
        have hk0 : (0 : Int) ≤ (k : Int) := by omega
        go_wp2_with fail
        go_region_with (go_at_call 61; refine (HKp.out _ (by first | exact HB4.out | exact below_ad13 HB4.out)).mono ?_; rintro e w5 ⟨rfl, hT5⟩)
        all_goals
          have HT5 : Hid (Turns13 w b G L2 w5) := hT5.after ((Turn.of_below HB4.out (Nat.le_refl _)).trans (Turn.of_below (below_drew13 w4) (Nat.le_refl _)))
          clear hT5
          cases d with
          | true =>
            go_wp2
            go_ret2
            exact ⟨by rw [HF2.out]; rfl, by rw [HF2.out]; exact HT5.out⟩
          | false =>
            go_wp2
            go_ret2
            exact ⟨by rw [HF2.out]; rfl, by rw [HF2.out]; exact HT5.out⟩
  · have HF : Hid (R = ((0, false), L)) := by
      rw [Hid, ← HR.out]
      unfold LG.match_
      rw [HQ.out, if_neg]
      rintro ⟨h1, -⟩
      simp only [Prod.mk.injEq] at h1
      exact hc ⟨h1.2, h1.1⟩
    rw [HF.out]
    go_enter Try.func18, Try.ntmps18
    go_wp2_with fail
    generalize w.alloc (.cells #[.pointer (some ⟨b, 0, none⟩)] 30) = W1 at *
    refine kt.mono ?_
    rintro _ w2 ⟨rfl, hb2⟩
    have HT : Hid (Turns13 w b G L w2) := .of_below HH.out.log (HB1.out.trans (hb2.mono HB1.out.size))
    clear kt hb2 q0 hlq
    by_cases h2 : c = 0
    · have h3 : tt ≠ t := fun e => hc ⟨h2, e⟩
      subst h2
      have h3' : (tt != t) = true := by rw [bne_iff_ne]; exact h3
      clear hc h3
      go_wp2
      go_ret2
      exact ⟨rfl, HT.out⟩
    · have h2' : (c != 0) = true := by rw [bne_iff_ne]; exact h2
      clear hc h2
      go_wp2
      go_ret2
      exact ⟨rfl, HT.out⟩
end
set_option maxRecDepth 100000 in
set_option maxHeartbeats 1000000 in
theorem hint1_any {w : World} {ub tb : Nat} {T1 T2 : TypeId} {su : Sl10} {us : List EntV} {t : Int} (hu : w.heap[ub]? = some (.cells #[.slice su.p su.n su.c] T1 (0, 0))) (ht : w.heap[tb]? = some (.cells #[.int .i64 t] T2 (0, 0))) (hE : HasE w su us) {k : Nat} (hk : k < su.n) :
    Calls Try.prog 67 #[.int .i64 (k : Nat), .pointer (some ⟨ub, 0, none⟩), .pointer (some ⟨tb, 0, none⟩)] w fun e w' => e = .returned (.bool (decide (t < (us.getD k noEV).t))) ∧ Below w.heap.size w w' := by
  have u0 : w.cell? ⟨ub, 0, none⟩ = some (.slice su.p su.n su.c) := box_cell hu 0
  have t0 : w.cell? ⟨tb, 0, none⟩ = some (.int .i64 t) := box_cell ht 0
  have l1 := box_lt hu
  have l2 := box_lt ht
  have hcc := hE.c
  obtain ⟨g', o, hp, hg, hc⟩ := hE.at' (by omega)
  have c1 : w.cell? ⟨g', o + k * 13 + 1, none⟩ = some (.int .i64 (us.getD k noEV).t) := hc k hk 1 (by decide)
  generalize (us.getD k noEV).t = x at *
  rw [hp] at u0
  clear hu ht hE hp hc
  go_enter Try.func67, Try.ntmps67
  go_wp2
  go_quiet (fail)
  go_wp2
  go_ret
  exact ⟨rfl, below_drewN (Below.refl _ _) _⟩
structure Srch13 (us : List EntV) (t : Int) (a c n : Nat) : Prop where
  ac : a ≤ c
  cn : c ≤ n
  low : ∀ k, k < a → (us.getD k noEV).t ≤ t
  up : ∀ k, c ≤ k → k < n → t < (us.getD k noEV).t
set_option maxRecDepth 100000 in
set_option maxHeartbeats 2000000 in
theorem search13_any {w : World} {ub tb : Nat} {T1 T2 : TypeId} {su : Sl10} {us : List EntV} {t : Int} (hu : w.heap[ub]? = some (.cells #[.slice su.p su.n su.c] T1 (0, 0))) (ht : w.heap[tb]? = some (.cells #[.int .i64 t] T2 (0, 0))) (hE : HasE w su us) (hl : su.n ≤ 1099511627776)
    (hm : ∀ i j, i ≤ j → j < su.n → (us.getD i noEV).t ≤ (us.getD j noEV).t) :
    Calls Try.prog 66 #[.int .i64 (su.n : Nat), .func (.func 67) #[] #[.pointer (some ⟨ub, 0, none⟩), .pointer (some ⟨tb, 0, none⟩)]] w fun e w' => (∃ r : Nat, e = .returned (.int .i64 r) ∧ Srch13 us t r r su.n) ∧ Below w.heap.size w w' := by
  have HU : Hid _ := hu
  have HT : Hid _ := ht
  have HE : Hid (HasE w su us) := hE
  have HM : Hid (∀ i j, i ≤ j → j < su.n → (us.getD i noEV).t ≤ (us.getD j noEV).t) := hm
  have HK : Hid (∀ W k, Below w.heap.size w W → k < su.n → _) := fun W k hb hk => hint1_any (w := W) (box_below hu hb) (box_below ht hb) (hE.below hb) (k := k) hk
  clear hu ht hE hm
  generalize su.n = n at *
  go_enter Try.func66, Try.ntmps66
  go_wp2
  go_loopw [5, 6, 7] (fun s5 s6 s7 wr => ∃ a c : Nat, s5 = .int .i64 (a : Nat) ∧ s6 = .int .i64 (c : Nat) ∧ Hid (Srch13 us t a c n) ∧ Below w.heap.size w wr) (fun s5 s6 _ _ => (intOf s6).toNat - (intOf s5).toNat)
  case atStart => exact ⟨0, n, rfl, rfl, ⟨Nat.zero_le _, Nat.le_refl _, fun _ h => absurd h (Nat.not_lt_zero _), fun _ h1 h2 => absurd h2 (Nat.not_lt.2 h1)⟩, Below.refl _ _⟩
  case round =>
    obtain ⟨a, c, rfl, rfl, HS, hb⟩ := hrel
    have hac := HS.out.ac
    have hcn := HS.out.cn
    by_cases hlt : a < c
    · obtain ⟨h, hh⟩ : ∃ h, h = (a + c) / 2 := ⟨_, rfl⟩
      have h1 : a ≤ h := by omega
      have h2 : h < c := by omega
      have km := HK.out wr h hb (by omega)
      have w1 : IntKind.i64.wrap ((a : Int) + (c : Int)) = ((a + c : Nat) : Int) := by rw [IntKind.wrap_i64]; omega
      have w2 : ((a : Int) + (c : Int)) / 2 = (h : Int) := by omega
      have HM1 : Hid (∀ k, k < h + 1 → (us.getD k noEV).t ≤ (us.getD h noEV).t) := fun k hk => HM.out k h (by omega) (by omega)
      have HM2 : Hid (∀ k, h ≤ k → k < n → (us.getD h noEV).t ≤ (us.getD k noEV).t) := fun k hk hk2 => HM.out h k hk hk2
      generalize (us.getD h noEV).t = x at *
      have hent := enters_of Try.func67 (by kernel_rfl) rfl
      clear hh
      go_wp2_with fail
      refine km.mono ?_
      rintro _ w2 ⟨rfl, hb2⟩
      have HB2 : Hid (Below w.heap.size w w2) := hb.trans (hb2.mono hb.size)
      clear km hb2 hent
      obtain ⟨d, hd⟩ : ∃ d, decide (t < x) = d := ⟨_, rfl⟩
      rw [hd]
      cases d with
      | true =>
        have hx : t < x := of_decide_eq_true hd
        have HS2 : Hid (Srch13 us t a h n) := ⟨h1, by omega, HS.out.low, fun k hk hk2 => by have := HM2.out k hk hk2; omega⟩
        clear hd hx
        go_wp2
        go_roundw
        case rel => exact ⟨a, h, rfl, rfl, HS2, HB2.out⟩
        case measure => simp only [intOf]; omega
      | false =>
        have hx : ¬ t < x := of_decide_eq_false hd
        have HS2 : Hid (Srch13 us t (h + 1) c n) := ⟨by omega, hcn, fun k hk => by have := HM1.out k hk; omega, HS.out.up⟩
        clear hd hx
        go_wp2
        go_roundw
        case rel => exact ⟨h + 1, c, by go_num, rfl, HS2, HB2.out⟩
        case measure => simp only [intOf]; omega
    · obtain rfl : a = c := by omega
      go_wp2
      go_ret
      exact ⟨⟨a, rfl, HS.out⟩, hb⟩
theorem hintN_srch13 {L : LG} {es : List EntV} (hm : es.map EntV.e = L.l) {t : Int} : ∀ {n r : Nat}, n ≤ L.l.length → Srch13 es t r r n → L.hintN t n = L.ix + r
  | 0, r, _, h => by have := h.cn; obtain rfl : r = 0 := (by omega); show L.ix = L.ix + 0; omega
  | n + 1, r, hn, h => by
    have ht : (L.term (L.ix + n + 1)).1 = (es.getD n noEV).t := by rw [LG.term_at (by omega), ← entGet13 hm (by omega)]; rfl
    unfold LG.hintN
    rw [ht]
    rcases Nat.lt_or_ge n r with h1 | h1
    · have h2 := h.cn
      obtain rfl : r = n + 1 := by omega
      rw [if_pos (h.low n h1)]
      omega
    · rw [if_neg (by have := h.up n h1 (by omega); omega)]
      exact hintN_srch13 hm (by omega) ⟨Nat.le_refl _, h1, h.low, fun k hk hk2 => h.up k hk (by omega)⟩
theorem Srch13.of_take {es : List EntV} {t : Int} {r n : Nat} (h : Srch13 (es.take n) t r r n) : Srch13 es t r r n := by
  have e : ∀ k, k < n → (es.take n).getD k noEV = es.getD k noEV := fun k hk => by rw [List.getD_eq_getElem?_getD, List.getD_eq_getElem?_getD, List.getElem?_take_of_lt hk]
  refine ⟨h.ac, h.cn, fun k hk => ?_, fun k hk hk2 => ?_⟩
  · rw [← e k (by have := h.cn; omega)]; exact h.low k hk
  · rw [← e k hk2]; exact h.up k hk hk2
structure Fin13 (w Z : World) (ub tb : Nat) (t : Int) (cs : Sl10) : Prop where
  bel : Below w.heap.size w Z
  u : Z.heap[ub]? = some (.cells #[.slice cs.p cs.n cs.c] 22 (0, 0))
  t : Z.heap[tb]? = some (.cells #[.int .i64 t] 3 (0, 0))
theorem Fin13.make {w W1 Z : World} {t : Int} {cs : Sl10} (hb : Below w.heap.size w W1) (ht : W1.heap[w.heap.size]? = some (.cells #[.int .i64 t] 3 (0, 0))) (h1 : Below W1.heap.size W1 Z) (h2 : Z.heap[W1.heap.size]? = some (.cells #[.slice none 0 0] 22 (0, 0))) : Fin13 w (Z.setCell ⟨W1.heap.size, 0, none⟩ (.slice cs.p cs.n cs.c)) W1.heap.size w.heap.size t cs := by
  have hS : Below W1.heap.size W1 (Z.setCell ⟨W1.heap.size, 0, none⟩ (.slice cs.p cs.n cs.c)) := h1.setCell (Nat.le_refl _) _
  exact ⟨hb.trans (hS.mono hb.size), set_block9 h2 0 _ (by show 0 < 1; decide), box_below ht hS⟩
structure Bel13 (w W : World) : Prop where
  out : Below w.heap.size w W
theorem kr13 {w wA wB : World} {b c i j : Nat} {u v : Value} (hl : b < w.heap.size) (hm : c < w.heap.size) (h : wA.cell? ⟨b, i, none⟩ = some u ∧ wA.cell? ⟨c, j, none⟩ = some v ∧ Below w.heap.size w wA) (hb : Below wA.heap.size wA wB) : wB.cell? ⟨b, i, none⟩ = some u ∧ wB.cell? ⟨c, j, none⟩ = some v ∧ Below w.heap.size w wB :=
  ⟨(hb.cell (p := ⟨b, i, none⟩) (Nat.lt_of_lt_of_le hl h.2.2.size)).trans h.1, (hb.cell (p := ⟨c, j, none⟩) (Nat.lt_of_lt_of_le hm h.2.2.size)).trans h.2.1, h.2.2.trans (hb.mono h.2.2.size)⟩
theorem kr13b {w wA : World} {b c i j : Nat} {u v : Value} (h : wA.cell? ⟨b, i, none⟩ = some u ∧ wA.cell? ⟨c, j, none⟩ = some v ∧ Below w.heap.size w wA) : Below w.heap.size w wA := h.2.2
section
variable {w : World} {b : Nat} {G : Nat → Prop} {s : Sl10} {es : List EntV} {g : Int} {L : LG}
theorem LogG.mono13 (h : LogG w b G s es g L) {i j : Nat} (hij : i ≤ j) (hj : j < L.l.length) : (es.getD i noEV).t ≤ (es.getD j noEV).t := by
  have h1 := entGet13 h.map (j := i) (by omega)
  have h2 := entGet13 h.map hj
  have h3 := chain_mono13 h.inv.row hij hj
  rw [← h1, ← h2] at h3
  exact h3
set_option maxRecDepth 100000 in
set_option maxHeartbeats 2000000 in
theorem hint13_any (h : LogG w b G s es g L) (i t : Int) (hi : inI i) :
    Calls Try.prog 32 #[.pointer (some ⟨b, 0, none⟩), .int .i64 i, .int .i64 t] w fun e w' => e = .returned (.int .i64 (L.hint i t)) ∧ Below w.heap.size w w' := by
  have hB1 : Below w.heap.size w (w.alloc (.cells #[.int .i64 t] 3)) := (Below.refl _ w).alloc (Nat.le_refl _) _
  have hbx := heap_alloc_new w (.cells #[.int .i64 t] 3)
  have hL1 := h.below hB1
  have kn := none13_any hL1
  have c1 : (w.alloc (.cells #[.int .i64 t] 3)).cell? ⟨b, 1, none⟩ = some (.int .i64 L.ix) := hL1.cells.2.1
  have hlb := hL1.lt
  have HN : Hid (Nums13 L s.n) := h.nums
  have HB1 : Hid _ := hB1
  have HBX : Hid _ := hbx
  have HH : Hid (LogG w b G s es g L) := h
  have w1 : IntKind.i64.wrap (L.ix + 1) = L.ix + 1 := by rw [IntKind.wrap_i64]; have := HN.out.x0; have := HN.out.x1; omega
  have HL : Hid (∀ W, Below w.heap.size w W → Calls Try.prog 56 #[.pointer (some ⟨b, 0, none⟩)] W fun e w' => e = .returned (.int .i64 L.end) ∧ ∃ m, w' = W.drewN m) := fun W hb => last13q (h.below hb)
  have HC : Hid (∀ W, Below w.heap.size w W → Calls Try.prog 57 #[.pointer (some ⟨b, 0, none⟩), .int .i64 (L.ix + 1), .int .i64 (min i L.end)] W fun e w' => e = .returned (.slice (cutS13 s L.ix (L.ix + 1) (min i L.end)).p (cutS13 s L.ix (L.ix + 1) (min i L.end)).n (cutS13 s L.ix (L.ix + 1) (min i L.end)).c) ∧ ∃ m, w' = W.drewN m) := fun W hb => cut13q (h.below hb) (L.ix + 1) (min i L.end) (by omega) (by have := HN.out.x1; omega) (by have := hi.1; have := HN.out.x0; have := h.le_end; omega) (by omega)
  have HR : Hid (∀ W, Below w.heap.size w W → Cut13 W G s es L (L.ix + 1) (min i L.end) (cutS13 s L.ix (L.ix + 1) (min i L.end))) := fun W hb => (h.below hb).cut (L.ix + 1) (min i L.end) (by omega) (by omega)
  generalize cutS13 s L.ix (L.ix + 1) (min i L.end) = cs at *
  have hcn : cs.n = (min i L.end - L.ix).toNat := by rw [(HR.out w (Below.refl _ _)).n]; congr 1; omega
  have HRow : Hid (∀ W, Below w.heap.size w W → HasE W cs (es.take cs.n)) := fun W hb => by
    have := (HR.out W hb).row.has
    rwa [show (L.ix + 1 - L.ix - 1).toNat = 0 by omega, List.drop_zero, show (min i L.end - (L.ix + 1) + 1).toNat = cs.n by rw [hcn]; congr 1; omega] at this
  have hcl : cs.n ≤ L.l.length := by have : L.end = L.ix + L.l.length := rfl; omega
  have HCn : Hid (cs.n ≤ L.l.length ∧ cs.n ≤ 1099511627776) := ⟨hcl, by have := HN.out.n1; have := h.n; omega⟩
  have HMo : Hid (∀ i j, i ≤ j → j < cs.n → ((es.take cs.n).getD i noEV).t ≤ ((es.take cs.n).getD j noEV).t) := fun i j hij hj => by
    have e : ∀ k, k < cs.n → (es.take cs.n).getD k noEV = es.getD k noEV := fun k hk => by rw [List.getD_eq_getElem?_getD, List.getD_eq_getElem?_getD, List.getElem?_take_of_lt hk]
    rw [e i (by omega), e j hj]
    exact h.mono13 hij (by omega)
  have HF0 : Hid (∀ r, Srch13 (es.take cs.n) t r r cs.n → L.hint i t = L.ix + r) := fun r hr => by
    have h1 := hintN_srch13 h.map hcl hr.of_take
    unfold LG.hint
    rw [← h1, hcn]
    congr 2
    split <;> omega
  obtain ⟨R, HRr⟩ : ∃ R, Hid (L.hint i t = R) := ⟨_, rfl⟩
  rw [HRr.out] at HF0 ⊢
  clear h hB1 hbx hL1 hcl hcn HR
  go_enter Try.func32, Try.ntmps32
  go_wp2_with fail
  generalize w.alloc (.cells #[.int .i64 t] 3) = W1 at *
  refine same_mono kn ?_
  have hlw : w.heap.size < W1.heap.size := box_lt HBX.out
  go_wp2_with fail
  clear kn
  have A1 : ∀ m, ((W1.drewN m).alloc (.cells #[.slice none 0 0] 22)).cell? ⟨W1.heap.size, 0, none⟩ = some (.slice none 0 0) := fun m => box_cell (heap_alloc_new (W1.drewN m) (.cells #[.slice none 0 0] 22)) 0
  have A2 : ∀ m, ((W1.drewN m).alloc (.cells #[.slice none 0 0] 22)).frozen? ⟨W1.heap.size, 0, none⟩ = false := fun m => frozen9 (heap_alloc_new (W1.drewN m) (.cells #[.slice none 0 0] 22)) 0
  have A3 : ∀ m, ((W1.drewN m).alloc (.cells #[.slice none 0 0] 22)).cell? ⟨b, 1, none⟩ = some (.int .i64 L.ix) := fun m => (((Below.refl _ (W1.drewN m)).alloc (Nat.le_refl _) (.cells #[.slice none 0 0] 22)).cell (p := ⟨b, 1, none⟩) hlb).trans c1
  have F1 : Hid (∀ m, Fin13 w (((W1.drewN m).alloc (.cells #[.slice none 0 0] 22)).setCell ⟨W1.heap.size, 0, none⟩ (.slice cs.p cs.n cs.c)) W1.heap.size w.heap.size t cs) := fun m => Fin13.make HB1.out HBX.out ((below_drewN (Below.refl _ _) m).alloc (Nat.le_refl _) _) (heap_alloc_new (W1.drewN m) _)
  have F2 : Hid (∀ m m', Fin13 w ((((W1.drewN m).alloc (.cells #[.slice none 0 0] 22)).drewN m').setCell ⟨W1.heap.size, 0, none⟩ (.slice cs.p cs.n cs.c)) W1.heap.size w.heap.size t cs) := fun m m' => Fin13.make HB1.out HBX.out (below_drewN8 ((below_drewN (Below.refl _ _) m).alloc (Nat.le_refl _) _) m') (heap_alloc_new (W1.drewN m) _)
  go_region_law (first
    | (go_simp; go_at_call 56; refine (HL.out _ (by (repeat (first | exact HB1.out | refine below_ad13 ?_ | refine below_drewN ?_ _ | refine below_same13 ?_ _)))).mono ?_; rintro _ w4 ⟨rfl, m4, rfl⟩; dsimp only)
    | (go_simp; go_at_call 57; refine (HC.out _ (by (repeat (first | exact HB1.out | refine below_ad13 ?_ | refine below_drewN ?_ _ | refine below_same13 ?_ _)))).mono ?_; rintro _ w5 ⟨rfl, m5, rfl⟩; dsimp only))
  all_goals
    generalize hZ : World.setCell _ ⟨W1.heap.size, 0, none⟩ (.slice cs.p cs.n cs.c) = Z
    have hF : Fin13 w Z W1.heap.size w.heap.size t cs := by rw [← hZ]; first | exact F1.out _ | exact F2.out _ _
    clear hZ A1 A2 A3 c1 hlb hlw HL HC
    have HF : Hid _ := hF
    have hb := HF.out.bel
    have KS : Hid (∀ W, Below Z.heap.size Z W → Calls Try.prog 66 #[.int .i64 (cs.n : Nat), .func (.func 67) #[] #[.pointer (some ⟨W1.heap.size, 0, none⟩), .pointer (some ⟨w.heap.size, 0, none⟩)]] W fun e w' => (∃ r : Nat, e = .returned (.int .i64 r) ∧ Srch13 (es.take cs.n) t r r cs.n) ∧ Below W.heap.size W w') := fun W hbW => search13_any (box_below HF.out.u hbW) (box_below HF.out.t hbW) (HRow.out W (hb.trans (hbW.mono hb.size))) HCn.out.2 HMo.out
    have z1 : Z.drew.cell? ⟨b, 1, none⟩ = some (.int .i64 L.ix) := (HH.out.below hb).cells.2.1
    have z2 : Z.drew.cell? ⟨W1.heap.size, 0, none⟩ = some (.slice cs.p cs.n cs.c) := box_cell HF.out.u 0
    have l1 : b < Z.heap.size := (HH.out.below hb).lt
    have l2 : W1.heap.size < Z.heap.size := box_lt HF.out.u
    have s0 : Z.drew.cell? ⟨b, 1, none⟩ = some (.int .i64 L.ix) ∧ Z.drew.cell? ⟨W1.heap.size, 0, none⟩ = some (.slice cs.p cs.n cs.c) ∧ Below Z.heap.size Z Z.drew := ⟨z1, z2, below_drew13 Z⟩
    have HBZ : Hid (∀ W, Below Z.heap.size Z W → Bel13 w W) := fun W hW => ⟨hb.trans (hW.mono hb.size)⟩
    clear z1 z2 hb HRow HB1 HBX F1 F2 hF
    generalize W1.heap.size = ub at *
    generalize w.heap.size = tb at *
    have hent := enters_of Try.func67 (by kernel_rfl) rfl
    go_wp2_with fail
    go_region_held3 (fun w' => w'.cell? ⟨b, 1, none⟩ = some (.int .i64 L.ix) ∧ w'.cell? ⟨ub, 0, none⟩ = some (.slice cs.p cs.n cs.c) ∧ Below Z.heap.size Z w')
      (first | exact s0 | assumption | exact kr13 l1 l2 (by assumption) (by assumption))
      (first
        | (go_at_call 66; (with_reducible refine Calls.mono (KS.out _ (kr13b (by assumption))) ?_); rintro e7 w7 ⟨⟨r, rfl, hS7⟩, hb7⟩))
    have hrn : r ≤ cs.n := hS7.cn
    have hwr : IntKind.i64.wrap (L.ix + (r : Int)) = L.ix + (r : Int) := by rw [IntKind.wrap_i64]; have := HN.out.x0; have := HN.out.x1; have := HCn.out.2; omega
    have HF7 : Hid (R = L.ix + r) := HF0.out r hS7
    have HB7 : Hid (Bel13 w w7) := HBZ.out w7 (kr13b (by assumption))
    rw [hwr]
    clear s0 hb7 hS7 hwr hrn KS
    go_wp2
    go_ret
    exact ⟨by rw [HF7.out]; rfl, HB7.out.out⟩
end
end Go.Proofs.Ytkfejicgabdflaa

namespace Go.Proofs.Ytkfejicgabdflaa
open Go.RowKit Go.Shelf
attribute [local go_sem ↓] ldE_exec stE_exec ldE_execI stE_execI ldE_box ldC_exec stC_exec ldC_execI stC_execI ldC_run oc_int oc_bool oc_string oc_slice oc_pointer
structure Lg13 (w0 w : World) (b : Nat) (G : Nat → Prop) (L : LG) : Prop where
  log : Log13 w b G L
  own : ∀ k, G k → w0.heap.size ≤ k ∧ k < w.heap.size
  ob : w0.heap.size ≤ b
  bel : Below w0.heap.size w0 w
section
variable {w0 w w' : World} {b : Nat} {G : Nat → Prop} {L L' : LG}
theorem Lg13.lt (h : Lg13 w0 w b G L) : b < w.heap.size := by
  obtain ⟨s, es, g, hl⟩ := h.log
  exact hl.lt
theorem Lg13.foot (h : Lg13 w0 w b G L) : ∀ k, (k = b ∨ G k) → w0.heap.size ≤ k := fun k hk => by
  rcases hk with rfl | hk
  · exact h.ob
  · exact (h.own k hk).1
theorem Lg13.below (h : Lg13 w0 w b G L) (hb : Below w.heap.size w w') : Lg13 w0 w' b G L := ⟨h.log.below hb, fun k hk => ⟨(h.own k hk).1, Nat.lt_of_lt_of_le (h.own k hk).2 hb.size⟩, h.ob, h.bel.trans (hb.mono h.bel.size)⟩
theorem Lg13.turns (h : Lg13 w0 w b G L) (ht : Turns13 w b G L' w') : Lg13 w0 w' b (more8 G w w') L' := by
  have hz := ht.turn.size
  have hz0 := h.bel.size
  refine ⟨ht.log, fun k hk => ?_, h.ob, h.bel.trans (ht.turn.below h.foot h.bel.size)⟩
  rcases hk with hk | hk
  · exact ⟨(h.own k hk).1, Nat.lt_of_lt_of_le (h.own k hk).2 hz⟩
  · exact ⟨by omega, hk.2⟩
theorem Lg13.args (h : Lg13 w0 w b G L) {W : World} (ht : Turn (fun k => k = b ∨ G k) w W) : Below w0.heap.size w0 W := h.bel.trans (ht.below h.foot h.bel.size)
theorem lg13_new {e : Ending} (hb : Below w0.heap.size w0 w) (h : NewE13 w (some L) e w') : ∃ b, e = .returned (.pointer (some ⟨b, 0, none⟩)) ∧ w.heap.size ≤ b ∧ Lg13 w0 w' b (fun k => w.heap.size ≤ k ∧ k < w'.heap.size) L := by
  obtain ⟨b, he, h1, h2, h3⟩ := h.yes L rfl
  have hz := hb.size
  exact ⟨b, he, h1, h3, fun k hk => ⟨by omega, hk.2⟩, by omega, hb.trans (h.bel.mono hz)⟩
end

def noopV13 (i t : Int) : EntV := ⟨i, t, 1, zeroC9, noFV⟩
theorem in1_13 : inI 1 := by unfold inI; exact ⟨by decide, by decide⟩
theorem in2_13 : inI 2 := by unfold inI; exact ⟨by decide, by decide⟩
theorem in3_13 : inI 3 := by unfold inI; exact ⟨by decide, by decide⟩
theorem fits_noop13 (w : World) {i t : Int} (hi : inI i) (ht : inI t) : FitsE w (noopV13 i t) := ⟨hi, ht, in1_13, fits_zeroC, FitsF.nil w⟩
set_option maxRecDepth 100000 in
set_option maxHeartbeats 1000000 in
theorem noop13_any (w : World) (i t : Int) : Calls Try.prog 30 #[.int .i64 i, .int .i64 t] w fun e w' => e = .returned (.agg (noopV13 i t).arr) ∧ Below w.heap.size w w' := by
  have hB1 : Below w.heap.size w (w.alloc (.cells #[.int .i64 0, .int .i64 0, .int .i64 0, .int .i64 0, .int .i64 0, .int .i64 0, .string ⟨#[]⟩, .string ⟨#[]⟩, .string ⟨#[]⟩, .string ⟨#[]⟩, .int .i64 0, .slice none 0 0, .slice none 0 0] 51)) := (Below.refl _ w).alloc (Nat.le_refl _) _
  have hbx := heap_alloc_new w (.cells #[.int .i64 0, .int .i64 0, .int .i64 0, .int .i64 0, .int .i64 0, .int .i64 0, .string ⟨#[]⟩, .string ⟨#[]⟩, .string ⟨#[]⟩, .string ⟨#[]⟩, .int .i64 0, .slice none 0 0, .slice none 0 0] 51)
  have hth := there_box hbx 0 13 (Nat.le_refl _)
  have hst := stE_arr 0 (noopV13 i t) hth
  have hF := setE_box (noopV13 i t) hbx rfl
  have hB9 := setCells_below (Nat.le_refl w.heap.size) (noopV13 i t).arr.toList 0 hB1
  unfold noopV13 EntV.arr zeroC9 noFV nilS10 at *
  dsimp only at *
  go_enter Try.func30, Try.ntmps30
  go_wp2
  refine bodyPost_ret (ret_one rfl _ _ w.heap.size _ _ _ _ rfl hF Try.underlying51 rfl (by kernel_rfl)) rfl ⟨rfl, hB9⟩

def bsE3 (x y z : Value) : Sem Value := Instr.buildSlice 22 3 #[(0, x), (1, y), (2, z)]
theorem bsE3_exec (ρ : Operand → Value) (d : Option Tmp) (x y z : Operand) (t : TypeId) (p : String) (af : Array Edge) (g : Option (Nat × Bool)) (w : World) : (execOp ρ { dst := d, op := .buildSlice 22 3 #[(0, x), (1, y), (2, z)], type := t, pos := p, after := af, guard := g }).run Try.prog w = ((bsE3 (ρ x) (ρ y) (ρ z)).run Try.prog w).andThen fun v w' => .ok (.value v) w' := by
  unfold execOp bsE3
  simp only [Sem.run_bind, Sem.run_pure, List.map_toArray, List.map_cons, List.map_nil]
set_option maxRecDepth 100000 in
theorem bsE3_run (w : World) (x y z : EntV) : (bsE3 (.agg x.arr) (.agg y.arr) (.agg z.arr)).run Try.prog w = .ok (.slice (some ⟨w.heap.size, 0, none⟩) 3 3) (w.alloc (.cells (x.arr ++ y.arr ++ z.arr) 51)) := by
  obtain ⟨xi, xt, xk, ⟨ck, cs, cq, ckey, cold, cval, cunt, clim⟩, ⟨⟨p1, n1, c1⟩, ⟨q1, m1, d1⟩, f1⟩⟩ := x
  obtain ⟨yi, yt, yk, ⟨dk, ds, dq, dkey, dold, dval, dunt, dlim⟩, ⟨⟨p2, n2, c2⟩, ⟨q2, m2, d2⟩, f2⟩⟩ := y
  obtain ⟨zi, zt, zk, ⟨ek, es, eq, ekey, eold, eval, eunt, elim⟩, ⟨⟨p3, n3, c3⟩, ⟨q3, m3, d3⟩, f3⟩⟩ := z
  unfold bsE3 EntV.arr
  go_simp
theorem eArr13 (x : EntV) : x.arr.size = 13 := rfl
theorem hasE13_at {w : World} {k : Nat} {x : EntV} (h : w.heap[k]? = some (.cells x.arr 51 (0, 0))) (hx : FitsE w x) : HasE w ⟨some ⟨k, 0, none⟩, 1, 1⟩ [x] := by
  refine ⟨rfl, Nat.le_refl _, (fun h => by cases h), fun _ => ⟨k, 0, rfl, box_lt h, fun i hi j hj => ?_⟩, fun e he => ?_⟩
  · have hi0 : i = 0 := by have : i < 1 := hi; omega
    subst hi0
    rw [box_cell h]
    show x.arr[0 + 0 * 13 + j]? = x.arr[j]?
    rw [Nat.zero_mul, Nat.zero_add]
  · rw [List.mem_singleton.1 he]
    exact hx
theorem hasE13_three (w : World) (x y z : EntV) (hx : FitsE w x) (hy : FitsE w y) (hz : FitsE w z) : HasE (w.alloc (.cells (x.arr ++ y.arr ++ z.arr) 51)) ⟨some ⟨w.heap.size, 0, none⟩, 3, 3⟩ [x, y, z] := by
  have hb : Below w.heap.size w (w.alloc (.cells (x.arr ++ y.arr ++ z.arr) 51)) := (Below.refl _ w).alloc (Nat.le_refl _) _
  refine ⟨rfl, Nat.le_refl _, (fun h => by cases h), fun _ => ⟨w.heap.size, 0, rfl, by simp, fun i hi j hj => ?_⟩, fun e he => ?_⟩
  · rw [box_cell (heap_alloc_new w _)]
    have h2 : (x.arr ++ y.arr).size = 26 := by rw [Array.size_append, eArr13, eArr13]
    have hi2 : i = 0 ∨ i = 1 ∨ i = 2 := by have : i < 3 := hi; omega
    rcases hi2 with rfl | rfl | rfl
    · show (x.arr ++ y.arr ++ z.arr)[0 + 0 * 13 + j]? = x.arr[j]?
      rw [Nat.zero_mul, Nat.zero_add, Array.getElem?_append_left (by rw [h2]; omega), Array.getElem?_append_left (by rw [eArr13]; exact hj)]
    · show (x.arr ++ y.arr ++ z.arr)[0 + 1 * 13 + j]? = y.arr[j]?
      rw [Nat.one_mul, Nat.zero_add, Array.getElem?_append_left (by rw [h2]; omega), Array.getElem?_append_right (by rw [eArr13]; omega), eArr13, Nat.add_sub_cancel_left]
    · show (x.arr ++ y.arr ++ z.arr)[0 + 2 * 13 + j]? = z.arr[j]?
      rw [Nat.zero_add, Array.getElem?_append_right (by rw [h2]; omega), h2, show 2 * 13 + j - 26 = j by omega]
  · simp only [List.mem_cons, List.not_mem_nil, or_false] at he
    rcases he with rfl | rfl | rfl
    · exact hx.below hb
    · exact hy.below hb
    · exact hz.below hb
attribute [local go_sem ↓] bsE_exec bsE_execI bsE_run bsE3_exec bsE3_run
def lL0 : LG := ⟨0, 0, [noopV13 1 1, noopV13 2 1, noopV13 3 1].map EntV.e, 0, 0, 3⟩
theorem lL0_new : new13 0 0 ([noopV13 1 1, noopV13 2 1, noopV13 3 1].map EntV.e) = some lL0 := if_pos ⟨by decide, by decide, by decide, by decide +kernel⟩
theorem lL0_hint : lL0.hint 9 1 = 3 := by decide +kernel
def lL1 : LG := (lL0.match_ 2 1 ([noopV13 3 2].map EntV.e)).2
theorem lL1_is : (lL0.match_ 2 1 ([noopV13 3 2].map EntV.e)).1.1 = 3 ∧ (lL0.match_ 2 1 ([noopV13 3 2].map EntV.e)).1.2 = true ∧ lL1.endT = 2 ∧ lL1.safe = 2 ∧ lL1.unsure.length = 1 := by
  refine ⟨by decide +kernel, by decide +kernel, by decide +kernel, by decide +kernel, by decide +kernel⟩

set_option maxRecDepth 100000 in
set_option maxHeartbeats 2000000 in
theorem lives13_any (w : World) : Calls Try.prog 10 #[] w fun e w' => e = .returned (.bool true) ∧ Below w.heap.size w w' := by
  go_enter Try.func10, Try.ntmps10
  go_wp2_with fail
  refine (noop13_any w 1 1).mono ?_
  rintro _ w1 ⟨rfl, hb1⟩
  go_wp2_with fail
  refine (noop13_any w1 2 1).mono ?_
  rintro _ w2 ⟨rfl, hb2⟩
  go_wp2_with fail
  refine (noop13_any w2 3 1).mono ?_
  rintro _ w3 ⟨rfl, hb3⟩
  have hB3 := (hb1.trans (hb2.mono hb1.size)).trans (hb3.mono (Nat.le_trans hb1.size hb2.size))
  have hE := hasE13_three w3 (noopV13 1 1) (noopV13 2 1) (noopV13 3 1) (fits_noop13 _ in1_13 in1_13) (fits_noop13 _ in2_13 in1_13) (fits_noop13 _ in3_13 in1_13)
  have kn := new13_any (w3.alloc (.cells ((noopV13 1 1).arr ++ (noopV13 2 1).arr ++ (noopV13 3 1).arr) 51)) 0 0 ⟨some ⟨w3.heap.size, 0, none⟩, 3, 3⟩ _ hE (show 3 ≤ 837723144948 by decide) (show inI 0 by unfold inI; exact ⟨by decide, by decide⟩)
  rw [lL0_new] at kn
  have HB4 : Hid (Below w.heap.size w (w3.alloc (.cells ((noopV13 1 1).arr ++ (noopV13 2 1).arr ++ (noopV13 3 1).arr) 51))) := below_same13 hB3 _
  clear hb1 hb2 hb3 hB3 hE
  go_wp2_with fail
  refine kn.mono ?_
  intro e w5 hN
  obtain ⟨b, rfl, hbb, hL⟩ := lg13_new HB4.out hN
  clear kn hN
  obtain ⟨s, es, g, hLG⟩ := hL.log
  have kh := hint13_any hLG 9 1 (by unfold inI; exact ⟨by decide, by decide⟩)
  rw [lL0_hint] at kh
  have HL : Hid _ := hL
  clear hLG hL
  go_wp2_with fail
  refine kh.mono ?_
  rintro _ w6 ⟨rfl, hb6⟩
  have HL6 : Hid _ := HL.out.below hb6
  clear kh hb6 HL
  go_wp2_with fail
  refine (noop13_any w6 3 2).mono ?_
  rintro _ w7 ⟨rfl, hb7⟩
  have hL7 := HL6.out.below hb7
  have hba : Below w7.heap.size w7 (w7.alloc (.cells (noopV13 3 2).arr 51)) := (Below.refl _ _).alloc (Nat.le_refl _) _
  have hL8 := hL7.below hba
  obtain ⟨s, es, g, hLG⟩ := hL8.log
  have hlt7 := hL7.lt
  have hlen : es.length = 3 := hLG.len
  have km := match13_any hLG 2 1 ⟨some ⟨w7.heap.size, 0, none⟩, 1, 1⟩ [noopV13 3 2] (fun W ht => by
    refine hasE13_at ((ht.block w7.heap.size (box_lt (heap_alloc_new w7 _)) ?_).trans (heap_alloc_new w7 _)) (fits_noop13 _ in3_13 in2_13)
    rintro (h | h)
    · omega
    · have := (hL7.own _ h).2
      omega) in2_13 (show es.length + 1 ≤ _ by omega) (show lL0.end + 1 ≤ _ by decide +kernel)
  have hL1 := lL1_is
  unfold lL1 at hL1
  rw [hL1.1, hL1.2.1] at km
  have HL8 : Hid _ := hL8
  clear hb7 hL7 hba hL8 hLG hlt7 hlen HL6
  go_wp2_with fail
  refine km.mono ?_
  rintro _ w9 ⟨rfl, hT⟩
  have hL9 := HL8.out.turns hT
  obtain ⟨s, es, g, hLG⟩ := hL9.log
  have kl := lastT13_any hLG
  rw [hL1.2.2.1] at kl
  have HL9 : Hid _ := hL9
  clear km hT hL9 hLG HL8
  go_wp2_with fail
  refine kl.mono ?_
  rintro _ w10 ⟨rfl, hb10⟩
  have hL10 := HL9.out.below hb10
  obtain ⟨s, es, g, hLG⟩ := hL10.log
  have ks := safe13_any hLG
  have ku := unsure13_any hLG
  rw [hL1.2.2.2.1] at ks
  have HL10 : Hid _ := hL10
  clear kl hb10 hL10 hLG HL9
  go_wp2_with fail
  refine same_mono ks ?_
  go_wp2_with fail
  refine ku.mono ?_
  rintro _ w11 ⟨s', ys, rfl, ho, hm, hb11⟩
  have hn : s'.n = 1 := by
    have h1 := ho.fits.n
    have h2 := congrArg List.length hm
    rw [List.length_map, hL1.2.2.2.2] at h2
    omega
  have HB : Hid (Below w.heap.size w w11) := (HL10.out.below hb11).bel
  rw [hn]
  clear ks ku ho hm hb11 hL1 HL10
  go_wp2
  go_ret
  exact ⟨rfl, HB.out⟩
end Go.Proofs.Ytkfejicgabdflaa

namespace Go.Proofs.Ytkfejicgabdflaa
open Go.RowKit Go.Shelf
attribute [local go_sem ↓] ldE_exec stE_exec ldE_execI stE_execI ldE_box ldC_exec stC_exec ldC_execI stC_execI ldC_run oc_int oc_bool oc_string oc_slice oc_pointer
def sum13 : List Ent10 → Nat
  | [] => 0
  | e :: l => weightE e + sum13 l
theorem sum_len13 : ∀ l : List Ent10, l.length ≤ sum13 l
  | [] => Nat.le_refl _
  | e :: l => by
    have h := sum_len13 l
    have : 1 ≤ weightE e := by unfold weightE; omega
    rw [sum13, List.length_cons]
    omega
def heavy13 (l : List Ent10) : Bool := decide (200 < sum13 l)
theorem weight_lt13 {x : EntV} {w : World} (h : FitsE w x) : weightE x.e ≤ 1125899906842624 := by
  obtain ⟨s1, s2, s3, s4, -⟩ := h.c
  have l1 := h.f.lu
  have l2 := h.f.lv
  unfold weightE
  show 1 + (x.c.key.size + x.c.old.size + x.c.val.size + x.c.unt.size) / 20 + x.f.f.vs.length + x.f.f.ls.length ≤ _
  omega

set_option maxRecDepth 100000 in
set_option maxHeartbeats 1000000 in
theorem heavy13_any (w : World) (s : Sl10) (es : List EntV) (hE : HasE w s es) (hl : s.n ≤ 1099511627776) :
    Calls Try.prog 9 #[.slice s.p s.n s.c] w fun e w' => e = .returned (.bool (heavy13 (es.map EntV.e))) ∧ Below w.heap.size w w' := by
  have hnn : Hid (es.length = s.n) := hE.n
  have hcc := hE.c
  have HE : Hid (HasE w s es) := hE
  obtain ⟨r, HR⟩ : ∃ r, Hid (heavy13 (es.map EntV.e) = r) := ⟨_, rfl⟩
  rw [HR.out]
  clear hE
  go_enter Try.func9, Try.ntmps9
  go_wp2
  go_loopw [3, 5, 8] (fun s3 s5 s8 wr => ∃ (j n : Nat), s3 = .int .i64 (n : Nat) ∧ s8 = .int .i64 (j : Nat) ∧ j ≤ s.n ∧ n ≤ 200 ∧ Hid (sum13 (es.map EntV.e) = n + sum13 ((es.drop j).map EntV.e)) ∧ Below w.heap.size w wr) (fun _ _ s8 _ => s.n - (intOf s8).toNat)
  case atStart => exact ⟨0, 0, rfl, rfl, Nat.zero_le _, Nat.zero_le _, (Nat.zero_add _).symm, Below.refl _ _⟩
  case round =>
    obtain ⟨j, n, rfl, rfl, hj, hn, HS, hb⟩ := hrel
    by_cases hjn : j < s.n
    · have hEr := HE.out.below hb
      obtain ⟨g, o, hp, hg, hld⟩ := hEr.ld hjn
      have hej : es.getD j noEV ∈ es := getD_memE (by rw [hnn.out]; exact hjn)
      have hFe := hEr.all _ hej
      have HS2 : Hid (sum13 (es.map EntV.e) = n + weightE (es.getD j noEV).e + sum13 ((es.drop (j + 1)).map EntV.e)) := by
        have hjl : j < es.length := by rw [hnn.out]; exact hjn
        rw [Hid, HS.out, List.drop_eq_getElem_cons hjl, List.map_cons, List.getD_eq_getElem?_getD, List.getElem?_eq_getElem hjl, sum13, Option.getD_some]
        omega
      have hwl := weight_lt13 hFe
      clear hEr HS hej
      generalize es.getD j noEV = e at *
      rw [hp] at *
      have hbE := heap_alloc_new wr (.cells #[.int .i64 0, .int .i64 0, .int .i64 0, .int .i64 0, .int .i64 0, .int .i64 0, .string ⟨#[]⟩, .string ⟨#[]⟩, .string ⟨#[]⟩, .string ⟨#[]⟩, .int .i64 0, .slice none 0 0, .slice none 0 0] 51)
      have hth := there_box hbE 0 13 (Nat.le_refl _)
      have hst := stE_arr 0 e hth
      have hbE2 := setE_box e hbE rfl
      have hB2 : Below wr.heap.size wr ((wr.alloc (.cells #[.int .i64 0, .int .i64 0, .int .i64 0, .int .i64 0, .int .i64 0, .int .i64 0, .string ⟨#[]⟩, .string ⟨#[]⟩, .string ⟨#[]⟩, .string ⟨#[]⟩, .int .i64 0, .slice none 0 0, .slice none 0 0] 51)).setCells wr.heap.size 0 e.arr.toList) := setCells_below (Nat.le_refl _) _ _ ((Below.refl _ _).alloc (Nat.le_refl _) _)
      have hld2 := ldE_box _ _ _ _ _ hbE2 rfl
      have kw := weight_any e _ (hFe.below hB2)
      have HB2 : Hid _ := hB2
      have hl2 := box_lt hbE2
      clear hbE hbE2 hB2 hFe
      generalize hwe : weightE e.e = we at *
      clear hwe
      go_wp2_with fail
      generalize (wr.alloc (.cells #[.int .i64 0, .int .i64 0, .int .i64 0, .int .i64 0, .int .i64 0, .int .i64 0, .string ⟨#[]⟩, .string ⟨#[]⟩, .string ⟨#[]⟩, .string ⟨#[]⟩, .int .i64 0, .slice none 0 0, .slice none 0 0] 51)).setCells wr.heap.size 0 e.arr.toList = W2 at *
      clear hld hth hst hld2
      refine kw.mono ?_
      rintro _ w3 ⟨rfl, hb3⟩
      have HBf : Hid (Below w.heap.size w w3) := hb.trans ((HB2.out.trans (hb3.mono HB2.out.size)).mono hb.size)
      have hwr : IntKind.i64.wrap ((n : Int) + (we : Int)) = ((n + we : Nat) : Int) := by rw [IntKind.wrap_i64]; omega
      clear kw HB2 hb3
      by_cases h2 : 200 < n + we
      · have HF : Hid (r = true) := by
          rw [Hid, ← HR.out]
          exact decide_eq_true (by rw [HS2.out]; omega)
        have h2' : (200 : Int) < (n : Int) + (we : Int) := by omega
        go_wp2
        go_ret
        exact ⟨by rw [HF.out]; rfl, HBf.out⟩
      · have h2' : ¬ (200 : Int) < (n : Int) + (we : Int) := by omega
        go_wp2
        go_roundw
        case rel => exact ⟨j + 1, n + we, by go_num, by go_num, by omega, by omega, HS2, HBf.out⟩
        case measure => simp only [intOf]; omega
    · obtain rfl : j = s.n := by omega
      have HF : Hid (r = false) := by
        rw [Hid, ← HR.out]
        refine decide_eq_false ?_
        rw [HS.out, ← hnn.out, List.drop_length]
        show ¬ 200 < n + 0
        omega
      go_wp2
      go_ret
      exact ⟨by rw [HF.out]; rfl, hb⟩
structure BegV where
  i : Int
  t : Int
  w : Sl10
  es : List EntV
def BegV.arr (x : BegV) : Array Value := #[.int .i64 x.i, .int .i64 x.t, .slice x.w.p x.w.n x.w.c]
structure FitsB13 (W : World) (x : BegV) : Prop where
  i : inI x.i
  t : inI x.t
  e : HasE W x.w x.es
  l : x.w.n ≤ 837723144948
theorem FitsB13.below {W W' : World} {x : BegV} (h : FitsB13 W x) (hb : Below W.heap.size W W') : FitsB13 W' x := ⟨h.i, h.t, h.e.below hb, h.l⟩

end Go.Proofs.Ytkfejicgabdflaa

namespace Go.Proofs.Ytkfejicgabdflaa
open Go.ChangeShapes Go.WideShapes Go.ChangeAt Go.RowKit Go.Deep
section
variable {H : Type} {enc : TypeId × Value → H} {W : World} {spare : Nat → Bool} {held : Bool} {b0 base fuel : Nat}

theorem ents_in13 {a : Option Addr} {n c : Nat} {x : DataW H × List MemPlace} (h : DataW.trod enc Try.prog W base spare held fuel 22 [.slice a n c] = some x) (hw : ∀ q ∈ x.1.weights Try.prog 22, q ≤ reachBytes) :
    ∃ zs : List EntV, HasE W ⟨a, n, c⟩ zs ∧ n ≤ 837723144948 := by
  obtain ⟨zs, hz, _⟩ := ents_in10 h hw
  refine ⟨zs, hz, ?_⟩
  rcases open_slice Try.underlying22 h with ⟨hcs, _⟩ | ⟨a', len, cap, m, k, D, Pl, hcs, hb, hl, hm, hmm, rfl, hx⟩
  · simp only [List.cons.injEq, Value.slice.injEq, and_true] at hcs
    obtain ⟨rfl, rfl, rfl⟩ := hcs
    omega
  · simp only [List.cons.injEq, Value.slice.injEq, and_true] at hcs
    obtain ⟨rfl, rfl, rfl⟩ := hcs
    have hlm : n ≤ m := by rw [hmm]; split <;> omega
    have := hw _ (by simp only [DataW.weights, Try.underlying22]; exact List.mem_cons_self)
    rw [show Try.prog.bytesOf 51 = 168 by kernel_rfl] at this
    simp only [List.length_map, List.length_range, reachBytes] at this
    omega

set_option maxRecDepth 100000 in
theorem beg_in13 {cs : List Value} {x : DataW H × List MemPlace} (hlen : cs.length = 3) (h : DataW.trod enc Try.prog W base spare held fuel 24 cs = some x) (hw : ∀ q ∈ x.1.weights Try.prog 24, q ≤ reachBytes) :
    ∃ A : BegV, cs = A.arr.toList ∧ FitsB13 W A := by
  obtain ⟨xs, k', hk, hxy, _, hxl, hf⟩ := DataW.trod_struct Try.underlying24 h
  match xs, hxl, cs, hlen with
  | [y0, y1, y2], _, [v0, v1, v2], _ =>
    have g0 := hf 0 _ rfl
    have g1 := hf 1 _ rfl
    have g2 := hf 2 _ rfl
    simp [show Try.prog.cellsOf 3 = 1 by kernel_rfl, show Try.prog.cellsOf 22 = 1 by kernel_rfl] at g0 g1 g2
    simp only [List.map_cons, List.map_nil] at hxy
    have hx1 : x.1 = .agg [y0.1, y1.1, y2.1] := by rw [hxy]
    rw [hx1] at hw
    simp only [DataW.weights, Try.underlying24, DataW.weightsEach, List.map_cons, List.map_nil, List.append_nil, List.mem_append] at hw
    obtain ⟨z0, hz0, rfl, w0⟩ := DataW.trod_int Try.underlying3 g0
    obtain ⟨z1, hz1, rfl, w1⟩ := DataW.trod_int Try.underlying3 g1
    cases hz0; cases hz1
    obtain ⟨a, n, c, rfl⟩ := slice_form10 Try.underlying22 g2
    obtain ⟨zs, h1, h2⟩ := ents_in13 g2 fun q hq => hw q (by simp only [hq, or_true])
    exact ⟨⟨z0, z1, ⟨a, n, c⟩, zs⟩, rfl, ⟨bounds_i64 w0, bounds_i64 w1, h1, h2⟩⟩
set_option maxRecDepth 100000 in
theorem open_beg13 {v : Value} {d : DataW H} {p : List MemPlace} (hv : Value.okWide Try.prog W .any b0 24 v) (h : DataW.Trod enc Try.prog W base spare held 24 v d p) (hw : ∀ q ∈ d.weights Try.prog 24, q ≤ reachBytes) :
    ∃ A : BegV, v = .agg A.arr ∧ FitsB13 W A := by
  obtain ⟨cs, rfl, hsz⟩ := okWide_struct Try.underlying24 hv
  rw [show Try.prog.cellsOf 24 = 3 by kernel_rfl] at hsz
  obtain ⟨fuel, hf⟩ := h
  obtain ⟨A, hA, hF⟩ := beg_in13 (x := (d, p)) (by simpa [Value.cells] using hsz) hf hw
  refine ⟨A, ?_, hF⟩
  rw [show cs = A.arr from Array.toList_inj.1 (by simpa [Value.cells] using hA)]
end
end Go.Proofs.Ytkfejicgabdflaa

namespace Go.Proofs.Ytkfejicgabdflaa
open Go.RowKit Go.Shelf
attribute [local go_sem ↓] ldE_exec stE_exec ldE_execI stE_execI ldE_box ldC_exec stC_exec ldC_execI stC_execI ldC_run oc_int oc_bool oc_string oc_slice oc_pointer
structure NewV13 (w : World) (o : Option LG) (v : Value) (w' : World) : Prop where
  bel : Below w.heap.size w w'
  no : o = none → v = .pointer none
  yes : ∀ L, o = some L → ∃ b, v = .pointer (some ⟨b, 0, none⟩) ∧ w.heap.size ≤ b ∧ b < w'.heap.size ∧ Log13 w' b (fun k => w.heap.size ≤ k ∧ k < w'.heap.size) L
theorem newV13_any (w : World) (ix t : Int) (s : Sl10) (es : List EntV) (hE : HasE w s es) (hl : s.n ≤ 837723144948) (hx : inI ix) :
    Calls Try.prog 11 #[.int .i64 ix, .int .i64 t, .slice s.p s.n s.c] w fun e w' => ∃ v, e = .returned v ∧ NewV13 w (new13 ix t (es.map EntV.e)) v w' := by
  refine (new13_any w ix t s es hE hl hx).mono ?_
  intro e w' h
  cases ho : new13 ix t (es.map EntV.e) with
  | none =>
    rw [ho] at h
    exact ⟨_, h.no rfl, h.bel, fun _ => rfl, fun _ h => by cases h⟩
  | some L =>
    rw [ho] at h
    obtain ⟨b, rfl, h1, h2, h3⟩ := h.yes L rfl
    exact ⟨_, rfl, h.bel, (fun h => by cases h), fun L' hL => by obtain rfl := Option.some.inj hL; exact ⟨b, rfl, h1, h2, h3⟩⟩
theorem LogG.turn {w w' : World} {b : Nat} {G S : Nat → Prop} {s : Sl10} {es : List EntV} {g : Int} {L : LG} (h : LogG w b G s es g L) (ht : Turn S w w') (hs : ∀ k, S k → ¬ (k = b ∨ G k)) : LogG w' b G s es g L :=
  ⟨(ht.block b h.lt fun hb => hs b hb (.inl rfl)).trans h.obj, h.row.stay (.of_turn ht fun k hk hS => hs k hS (.inr hk)) (.of_turn ht fun k hk hS => hs k hS (.inr hk)), h.map, h.inv, h.top, h.sz, h.g0, h.g1⟩
theorem Log13.turn {w w' : World} {b : Nat} {G S : Nat → Prop} {L : LG} (h : Log13 w b G L) (ht : Turn S w w') (hs : ∀ k, S k → ¬ (k = b ∨ G k)) : Log13 w' b G L := by
  obtain ⟨s, es, g, h⟩ := h
  exact ⟨s, es, g, h.turn ht hs⟩
structure Two13 (w0 w : World) (b1 : Nat) (G1 : Nat → Prop) (L1 : LG) (b2 : Nat) (G2 : Nat → Prop) (L2 : LG) : Prop where
  one : Lg13 w0 w b1 G1 L1
  two : Lg13 w0 w b2 G2 L2
  apart : ∀ k, (k = b1 ∨ G1 k) → ¬ (k = b2 ∨ G2 k)
section
variable {w0 w w' : World} {b1 b2 : Nat} {G1 G2 : Nat → Prop} {L1 L2 L' : LG}
theorem Two13.below (h : Two13 w0 w b1 G1 L1 b2 G2 L2) (hb : Below w.heap.size w w') : Two13 w0 w' b1 G1 L1 b2 G2 L2 := ⟨h.one.below hb, h.two.below hb, h.apart⟩
theorem Two13.left (h : Two13 w0 w b1 G1 L1 b2 G2 L2) (ht : Turns13 w b1 G1 L' w') : Two13 w0 w' b1 (more8 G1 w w') L' b2 G2 L2 := by
  have h1 := h.one.turns ht
  have hz := ht.turn.size
  refine ⟨h1, ⟨h.two.log.turn ht.turn h.apart, fun k hk => ⟨(h.two.own k hk).1, Nat.lt_of_lt_of_le (h.two.own k hk).2 hz⟩, h.two.ob, h1.bel⟩, fun k hk hk2 => ?_⟩
  rcases hk with hk | hk | hk
  · exact h.apart k (.inl hk) hk2
  · exact h.apart k (.inr hk) hk2
  · rcases hk2 with hk2 | hk2
    · subst hk2; have := h.two.lt; omega
    · have := (h.two.own k hk2).2; omega
theorem Two13.swap (h : Two13 w0 w b1 G1 L1 b2 G2 L2) : Two13 w0 w b2 G2 L2 b1 G1 L1 := ⟨h.two, h.one, fun k h1 h2 => h.apart k h2 h1⟩
end
theorem lgV13_new {w0 w w' : World} {L : LG} {v : Value} (hb : Below w0.heap.size w0 w) (h : NewV13 w (some L) v w') : ∃ b, v = .pointer (some ⟨b, 0, none⟩) ∧ w.heap.size ≤ b ∧ Lg13 w0 w' b (fun k => w.heap.size ≤ k ∧ k < w'.heap.size) L := by
  obtain ⟨b, he, h1, h2, h3⟩ := h.yes L rfl
  have hz := hb.size
  exact ⟨b, he, h1, h3, fun k hk => ⟨by omega, hk.2⟩, by omega, hb.trans (h.bel.mono hz)⟩
theorem two13_new {w0 wa wb wc : World} {b1 b2 : Nat} {L1 L2 : LG} {G1 : Nat → Prop} (h1 : Lg13 w0 wa b1 G1 L1) (hb : Below wa.heap.size wa wb) (h2 : Lg13 w0 wc b2 (fun k => wb.heap.size ≤ k ∧ k < wc.heap.size) L2) (hb2 : wb.heap.size ≤ b2) (hbc : Below wb.heap.size wb wc) : Two13 w0 wc b1 G1 L1 b2 (fun k => wb.heap.size ≤ k ∧ k < wc.heap.size) L2 := by
  refine ⟨(h1.below hb).below hbc, h2, fun k hk hk2 => ?_⟩
  have hz := hb.size
  have hlt : k < wa.heap.size := by
    rcases hk with rfl | hk
    · exact h1.lt
    · exact (h1.own k hk).2
  rcases hk2 with rfl | hk2
  · omega
  · have := hk2.1; omega
theorem new_zero13 {l : List Ent10} {L : LG} (h : new13 0 0 l = some L) : L.ix = 0 ∧ L.t0 = 0 ∧ L.done = 0 ∧ L.end = l.length := by
  obtain ⟨-, rfl⟩ := new_inv13 h
  exact ⟨rfl, rfl, rfl, by show (0 : Int) + (l.length : Int) = _; omega⟩
theorem heavy_len13 {w : World} {s : Sl10} {es : List EntV} (h : heavy13 (es.map EntV.e) = false) (hE : HasE w s es) : s.n ≤ 200 := by
  have h1 := of_decide_eq_false h
  have h2 := sum_len13 (es.map EntV.e)
  rw [List.length_map] at h2
  have := hE.n
  omega
theorem ks13 {w wA wB : World} {b c : Nat} {u v : Value} (hl : b < w.heap.size) (hm : c < w.heap.size) (h : wA.cell? ⟨b, 2, none⟩ = some u ∧ wA.cell? ⟨c, 2, none⟩ = some v ∧ Below w.heap.size w wA) (hb : Below wA.heap.size wA wB) : wB.cell? ⟨b, 2, none⟩ = some u ∧ wB.cell? ⟨c, 2, none⟩ = some v ∧ Below w.heap.size w wB := kr13 hl hm h hb

set_option maxRecDepth 100000 in
set_option maxHeartbeats 4000000 in
theorem rlogMatches_walk (w : World) (x y : BegV) (sz : Sl10) (zs : List EntV) (hx : FitsB13 w x) (hy : FitsB13 w y) (hz : HasE w sz zs) (hzl : sz.n ≤ 837723144948) :
    Calls Try.prog 5 #[.agg x.arr, .agg y.arr, .slice sz.p sz.n sz.c] w fun e w' => e = .returned (.bool true) ∧ Below w.heap.size w w' := by
  have hB1 : Below w.heap.size w ((w.alloc (.cells x.arr 24)).alloc (.cells y.arr 24)) := ((Below.refl _ w).alloc (Nat.le_refl _) _).alloc (by simp) _
  have hbx : ((w.alloc (.cells x.arr 24)).alloc (.cells y.arr 24)).heap[w.heap.size]? = some (.cells x.arr 24 (0, 0)) := box_below (heap_alloc_new w _) ((Below.refl _ _).alloc (Nat.le_refl _) _)
  have hby : ((w.alloc (.cells x.arr 24)).alloc (.cells y.arr 24)).heap[w.heap.size + 1]? = some (.cells y.arr 24 (0, 0)) := by
    have := heap_alloc_new (w.alloc (.cells x.arr 24)) (.cells y.arr 24)
    rwa [World.size_alloc] at this
  have b2 : ((w.alloc (.cells x.arr 24)).alloc (.cells y.arr 24)).cell? ⟨w.heap.size, 2, none⟩ = some (.slice x.w.p x.w.n x.w.c) := box_cell hbx 2
  have hlt := box_lt hbx
  have HB1 : Hid _ := hB1
  have HBX : Hid _ := hbx
  have HBY : Hid _ := hby
  have HX : Hid (FitsB13 w x) := hx
  have HY : Hid (FitsB13 w y) := hy
  have HZ : Hid (HasE w sz zs) := hz
  have HZl : Hid (sz.n ≤ 837723144948) := hzl
  have HV : ∀ (W : World), Below w.heap.size w W → Calls Try.prog 10 #[] W fun e w' => e = .returned (.bool true) ∧ Below w.heap.size w w' := fun W hW => (lives13_any W).mono fun e w' ⟨a, b⟩ => ⟨a, hW.trans (b.mono hW.size)⟩
  have HLv : Hid _ := HV
  have kx := heavy13_any _ x.w x.es (hx.below hB1).e (by have := hx.l; omega)
  have HKy : Hid (∀ W, Below w.heap.size w W → Calls Try.prog 9 #[.slice y.w.p y.w.n y.w.c] W fun e w' => e = .returned (.bool (heavy13 (y.es.map EntV.e))) ∧ Below W.heap.size W w') := fun W hW => heavy13_any W y.w y.es (hy.below hW).e (by have := hy.l; omega)
  have HKz : Hid (∀ W, Below w.heap.size w W → Calls Try.prog 9 #[.slice sz.p sz.n sz.c] W fun e w' => e = .returned (.bool (heavy13 (zs.map EntV.e))) ∧ Below W.heap.size W w') := fun W hW => heavy13_any W sz zs (hz.below hW) (by omega)
  obtain ⟨hv1, HV1⟩ : ∃ r, Hid (heavy13 (x.es.map EntV.e) = r) := ⟨_, rfl⟩
  obtain ⟨hv2, HV2⟩ : ∃ r, Hid (heavy13 (y.es.map EntV.e) = r) := ⟨_, rfl⟩
  obtain ⟨hv3, HV3⟩ : ∃ r, Hid (heavy13 (zs.map EntV.e) = r) := ⟨_, rfl⟩
  rw [HV1.out] at kx
  rw [HV2.out] at HKy
  rw [HV3.out] at HKz
  clear hB1 hbx hby hx hy hz hzl HV
  go_enter Try.func5, Try.ntmps5
  go_wp2_with fail
  generalize (w.alloc (.cells x.arr 24)).alloc (.cells y.arr 24) = W1 at *
  refine kx.mono ?_
  rintro _ w2 ⟨rfl, hb2⟩
  have HB2 : Hid (Below w.heap.size w w2) := HB1.out.trans (hb2.mono HB1.out.size)
  have HBX2 : Hid _ := box_below HBX.out hb2
  have HBY2 : Hid _ := box_below HBY.out hb2
  clear kx b2 hlt hb2 HBX HBY HB1
  cases hv1 with
  | true =>
    go_wp2_with fail
    refine (HLv.out w2 HB2.out).mono ?_
    rintro _ w3 ⟨rfl, hb3⟩
    go_wp2
    go_ret
    exact ⟨rfl, hb3⟩
  | false =>
    have c2 : w2.cell? ⟨w.heap.size + 1, 2, none⟩ = some (.slice y.w.p y.w.n y.w.c) := box_cell HBY2.out 2
    have hlt := box_lt HBY2.out
    have ky := HKy.out w2 HB2.out
    go_wp2_with fail
    refine ky.mono ?_
    rintro _ w3 ⟨rfl, hb3⟩
    have HB3 : Hid (Below w.heap.size w w3) := HB2.out.trans (hb3.mono HB2.out.size)
    have HBX3 : Hid _ := box_below HBX2.out hb3
    have HBY3 : Hid _ := box_below HBY2.out hb3
    clear ky c2 hlt hb3 HBX2 HBY2 HB2
    cases hv2 with
    | true =>
      go_wp2_with fail
      refine (HLv.out w3 HB3.out).mono ?_
      rintro _ w4 ⟨rfl, hb4⟩
      go_wp2
      go_ret
      exact ⟨rfl, hb4⟩
    | false =>
      have kz := HKz.out w3 HB3.out
      go_wp2_with fail
      refine kz.mono ?_
      rintro _ w4 ⟨rfl, hb4⟩
      have HB4 : Hid (Below w.heap.size w w4) := HB3.out.trans (hb4.mono HB3.out.size)
      have HBX4 : Hid _ := box_below HBX3.out hb4
      have HBY4 : Hid _ := box_below HBY3.out hb4
      clear kz hb4 HBX3 HBY3 HB3
      cases hv3 with
      | true =>
        go_wp2_with fail
        refine (HLv.out w4 HB4.out).mono ?_
        rintro _ w5 ⟨rfl, hb5⟩
        go_wp2
        go_ret
        exact ⟨rfl, hb5⟩
      | false =>
        have HKnx : Hid (∀ W, Below w.heap.size w W → Calls Try.prog 11 #[.int .i64 0, .int .i64 0, .slice x.w.p x.w.n x.w.c] W fun e w' => ∃ v, e = .returned v ∧ NewV13 W (new13 0 0 (x.es.map EntV.e)) v w') := fun W hW => newV13_any W 0 0 x.w x.es (HX.out.below hW).e HX.out.l (by unfold inI; exact ⟨by decide, by decide⟩)
        have HKny : Hid (∀ W, Below w.heap.size w W → Calls Try.prog 11 #[.int .i64 0, .int .i64 0, .slice y.w.p y.w.n y.w.c] W fun e w' => ∃ v, e = .returned v ∧ NewV13 W (new13 0 0 (y.es.map EntV.e)) v w') := fun W hW => newV13_any W 0 0 y.w y.es (HY.out.below hW).e HY.out.l (by unfold inI; exact ⟨by decide, by decide⟩)
        have d1 : w4.drew.cell? ⟨w.heap.size, 2, none⟩ = some (.slice x.w.p x.w.n x.w.c) := box_cell HBX4.out 2
        have d2 : w4.drew.cell? ⟨w.heap.size + 1, 2, none⟩ = some (.slice y.w.p y.w.n y.w.c) := box_cell HBY4.out 2
        have l1 := box_lt HBX4.out
        have l2 := box_lt HBY4.out
        have s0 : w4.drew.cell? ⟨w.heap.size, 2, none⟩ = some (.slice x.w.p x.w.n x.w.c) ∧ w4.drew.cell? ⟨w.heap.size + 1, 2, none⟩ = some (.slice y.w.p y.w.n y.w.c) ∧ Below w4.heap.size w4 w4.drew := ⟨d1, d2, below_drew13 w4⟩
        clear d1 d2 HBX4 HBY4 HKy HKz
        go_wp2_with fail
        go_region_held3 (fun w' => w'.cell? ⟨w.heap.size, 2, none⟩ = some (.slice x.w.p x.w.n x.w.c) ∧ w'.cell? ⟨w.heap.size + 1, 2, none⟩ = some (.slice y.w.p y.w.n y.w.c) ∧ Below w4.heap.size w4 w')
          (first | exact s0 | assumption | exact ks13 l1 l2 (by assumption) (by assumption))
          (first
            | (go_at_call 11; (with_reducible refine Calls.mono (HKnx.out _ (HB4.out.trans ((kr13b (by assumption)).mono HB4.out.size))) ?_); rintro e5 w5 ⟨v1, rfl, hN1⟩; have hb5 := hN1.bel)
            | (go_at_call 11; (with_reducible refine Calls.mono (HKny.out _ (HB4.out.trans ((kr13b (by assumption)).mono HB4.out.size))) ?_); rintro e6 w6 ⟨v2, rfl, hN2⟩; have hb6 := hN2.bel))
        have HS6 : Hid (Below w4.heap.size w4 w6) := kr13b (by assumption)
        clear s0 l1 l2 hb5 hb6 HKnx HKny
        have HB6 : Hid (Below w.heap.size w w6) := HB4.out.trans (HS6.out.mono HB4.out.size)
        cases ho1 : new13 0 0 (x.es.map EntV.e) with
        | none =>
          rw [ho1] at hN1
          obtain rfl := hN1.no rfl
          have hsh : ∃ p, v2 = .pointer p := by
            cases ho2 : new13 0 0 (y.es.map EntV.e) with
            | none => rw [ho2] at hN2; exact ⟨_, hN2.no rfl⟩
            | some L2 => rw [ho2] at hN2; obtain ⟨b, hb, -⟩ := hN2.yes L2 rfl; exact ⟨_, hb⟩
          obtain ⟨p, rfl⟩ := hsh
          clear hN1 hN2
          go_wp2_with fail
          refine (HLv.out w6 HB6.out).mono ?_
          rintro _ w7 ⟨rfl, hb7⟩
          go_wp2
          go_ret
          exact ⟨rfl, hb7⟩
        | some L1 =>
          rw [ho1] at hN1
          have hB4d : Below w.heap.size w w4.drew := below_ad13 HB4.out
          obtain ⟨b1, rfl, -, hL1⟩ := lgV13_new hB4d hN1
          cases ho2 : new13 0 0 (y.es.map EntV.e) with
          | none =>
            rw [ho2] at hN2
            obtain rfl := hN2.no rfl
            clear hN1 hN2 hL1
            go_wp2_with fail
            refine (HLv.out w6 HB6.out).mono ?_
            rintro _ w7 ⟨rfl, hb7⟩
            go_wp2
            go_ret
            exact ⟨rfl, hb7⟩
          | some L2 =>
            rw [ho2] at hN2
            have hB5 : Below w.heap.size w w5 := hL1.bel
            obtain ⟨b2, rfl, hb2, hL2⟩ := lgV13_new hB5 hN2
            have HT : Hid _ := two13_new hL1 (Below.refl _ _) hL2 hb2 hN2.bel
            have n1 := new_zero13 ho1
            have n2 := new_zero13 ho2
            have g1 := heavy_len13 HV1.out HX.out.e
            have g2 := heavy_len13 HV2.out HY.out.e
            have g3 := heavy_len13 HV3.out HZ.out
            have hlx : (x.es.map EntV.e).length = x.w.n := by rw [List.length_map]; exact HX.out.e.n
            have hly : (y.es.map EntV.e).length = y.w.n := by rw [List.length_map]; exact HY.out.e.n
            have HN : Hid (L1.end ≤ 200 ∧ L2.end ≤ 200 ∧ sz.n ≤ 200) := ⟨by rw [n1.2.2.2]; omega, by rw [n2.2.2.2]; omega, g3⟩
            have m1 := LG.match_ok (es := zs.map EntV.e) n1.1 n1.2.1 n1.2.2.1
            have m2 := LG.match_ok (es := zs.map EntV.e) n2.1 n2.2.1 n2.2.2.1
            clear hN1 hN2 hL1 hL2 hB4d hB5 ho1 ho2 n1 n2 g1 g2 g3 hlx hly HV1 HV2 HV3 HS6
            obtain ⟨s, es, g, hLG⟩ := HT.out.one.log
            have km := match13_any hLG 0 0 sz zs (fun W ht => HZ.out.below (HT.out.one.args ht)) (by unfold inI; exact ⟨by decide, by decide⟩) (by have h1 := hLG.nums; have h2 := hLG.n; have h3 := hLG.len; have := h1.end'; have := HN.out; have := h1.x0; omega) (by have := HN.out; omega)
            clear hLG
            have HL : Hid ((zs.map EntV.e).length = sz.n ∧ sz.n ≤ sz.c) := ⟨by rw [List.length_map]; exact HZ.out.n, HZ.out.c⟩
            have t1 : (L1.match_ 0 0 (zs.map EntV.e)).1.2 = true → ∀ q, q < sz.n → (L1.match_ 0 0 (zs.map EntV.e)).2.term ((q : Int) + 1) = ((zs.getD q noEV).t, 0) := fun h q hq => by
              have := (LG.match_term h).2.2 q (by rw [HL.out.1]; exact hq)
              rw [Int.zero_add, ← map_getE (by have := HZ.out.n; omega)] at this
              exact this
            have t2 : (L2.match_ 0 0 (zs.map EntV.e)).1.2 = true → ∀ q, q < sz.n → (L2.match_ 0 0 (zs.map EntV.e)).2.term ((q : Int) + 1) = ((zs.getD q noEV).t, 0) := fun h q hq => by
              have := (LG.match_term h).2.2 q (by rw [HL.out.1]; exact hq)
              rw [Int.zero_add, ← map_getE (by have := HZ.out.n; omega)] at this
              exact this
            rw [HL.out.1] at m1 m2
            have HT1 : Hid _ := t1
            have HT2 : Hid _ := t2
            have HM1 : Hid _ := m1
            have HM2 : Hid _ := m2
            have HK2 : Hid (∀ (W : World) (G1 : Nat → Prop) (L : LG), Two13 w W b1 G1 L b2 (fun k => w5.heap.size ≤ k ∧ k < w6.heap.size) L2 → Calls Try.prog 18 #[.pointer (some ⟨b2, 0, none⟩), .int .i64 0, .int .i64 0, .slice sz.p sz.n sz.c] W fun e w' => e = .returned (.tuple #[.int .i64 (L2.match_ 0 0 (zs.map EntV.e)).1.1, .bool (L2.match_ 0 0 (zs.map EntV.e)).1.2]) ∧ Turns13 W b2 (fun k => w5.heap.size ≤ k ∧ k < w6.heap.size) (L2.match_ 0 0 (zs.map EntV.e)).2 w') := fun W G1 L hT => by
              obtain ⟨s, es, g, hLG⟩ := hT.two.log
              exact match13_any hLG 0 0 sz zs (fun W ht => HZ.out.below (hT.two.args ht)) (by unfold inI; exact ⟨by decide, by decide⟩) (by have h1 := hLG.nums; have h2 := hLG.n; have h3 := hLG.len; have := h1.end'; have := HN.out; have := h1.x0; omega) (by have := HN.out; omega)
            obtain ⟨⟨⟨i1, o1⟩, N1⟩, HR1⟩ : ∃ r, Hid (L1.match_ 0 0 (zs.map EntV.e) = r) := ⟨_, rfl⟩
            obtain ⟨⟨⟨i2, o2⟩, N2⟩, HR2⟩ : ∃ r, Hid (L2.match_ 0 0 (zs.map EntV.e) = r) := ⟨_, rfl⟩
            clear t1 t2 m1 m2
            rw [HR1.out] at km HM1 HT1
            rw [HR2.out] at HK2 HM2 HT2
            dsimp only at km HM1 HT1 HK2 HM2 HT2
            obtain ⟨ch, HCh⟩ : ∃ ch, Hid (chain13 0 0 (zs.map EntV.e) = ch) := ⟨_, rfl⟩
            rw [HCh.out] at HM1 HM2
            have e1 := HM1.out
            have e2 := HM2.out
            clear HM1 HM2
            go_wp2_with fail
            refine km.mono ?_
            rintro _ w7 ⟨rfl, hT7⟩
            have hT7' := HT.out.left hT7
            have km2 := HK2.out _ _ _ hT7'
            have HT7 : Hid _ := hT7'
            clear km hT7 hT7' HT HK2
            go_wp2_with fail
            refine km2.mono ?_
            rintro _ w8 ⟨rfl, hT8⟩
            have HT8 : Hid _ := (HT7.out.swap.left hT8).swap
            clear km2 hT8 HT7
            generalize (more8 (fun k => w4.drew.heap.size ≤ k ∧ k < w5.heap.size) w6 w7) = G1 at *
            generalize (more8 (fun k => w5.heap.size ≤ k ∧ k < w6.heap.size) w7 w8) = G2 at *
            cases ch with
            | false =>
              rw [if_neg (fun h => Bool.noConfusion h)] at e1 e2
              simp only [Prod.mk.injEq] at e1 e2
              obtain ⟨rfl, rfl⟩ := e1
              obtain ⟨rfl, rfl⟩ := e2
              have HB8 : Hid (Below w.heap.size w w8) := HT8.out.one.bel
              clear HT8
              go_wp2_with fail
              refine (HLv.out w8 HB8.out).mono ?_
              rintro _ w9 ⟨rfl, hb9⟩
              go_wp2
              go_ret
              exact ⟨rfl, hb9⟩
            | true =>
              rw [if_pos rfl] at e1 e2
              simp only [Prod.mk.injEq] at e1 e2
              obtain ⟨rfl, rfl⟩ := e1
              obtain ⟨rfl, rfl⟩ := e2
              have hcc := HL.out.2
              have HTt : Hid (∀ q, q < sz.n → N1.term ((q : Int) + 1) = ((zs.getD q noEV).t, 0) ∧ N2.term ((q : Int) + 1) = ((zs.getD q noEV).t, 0)) := fun q hq => ⟨HT1.out rfl q hq, HT2.out rfl q hq⟩
              clear HT1 HT2
              go_wp2
              go_loopw [13, 14, 15, 16, 17, 18, 79] (fun s13 s14 s15 s16 s17 s18 s79 wr => ∃ j : Nat, s79 = .int .i64 (j : Nat) ∧ j ≤ sz.n ∧ Hid (Two13 w wr b1 G1 N1 b2 G2 N2)) (fun _ _ _ _ _ _ s79 _ => sz.n - (intOf s79).toNat)
              case atStart => exact ⟨0, rfl, Nat.zero_le _, HT8⟩
              case round =>
                obtain ⟨j, rfl, hj, HTr⟩ := hrel
                clear HT8
                by_cases hjn : j < sz.n
                · have hbr := HTr.out.one.bel
                  have hEr := HZ.out.below hbr
                  obtain ⟨g, o, hp, hg, hld⟩ := hEr.ld hjn
                  obtain ⟨q1, q2⟩ := HTt.out j hjn
                  generalize zs.getD j noEV = e at *
                  rw [hp] at *
                  have hbE := heap_alloc_new wr (.cells #[.int .i64 0, .int .i64 0, .int .i64 0, .int .i64 0, .int .i64 0, .int .i64 0, .string ⟨#[]⟩, .string ⟨#[]⟩, .string ⟨#[]⟩, .string ⟨#[]⟩, .int .i64 0, .slice none 0 0, .slice none 0 0] 51)
                  have hth := there_box hbE 0 13 (Nat.le_refl _)
                  have hst := stE_arr 0 e hth
                  have hbE2 := setE_box e hbE rfl
                  have hB2 : Below wr.heap.size wr ((wr.alloc (.cells #[.int .i64 0, .int .i64 0, .int .i64 0, .int .i64 0, .int .i64 0, .int .i64 0, .string ⟨#[]⟩, .string ⟨#[]⟩, .string ⟨#[]⟩, .string ⟨#[]⟩, .int .i64 0, .slice none 0 0, .slice none 0 0] 51)).setCells wr.heap.size 0 e.arr.toList) := setCells_below (Nat.le_refl _) _ _ ((Below.refl _ _).alloc (Nat.le_refl _) _)
                  have hl2 := box_lt hbE2
                  have hT2 := HTr.out.below hB2
                  have HbE2 : Hid _ := hbE2
                  have HT2 : Hid _ := hT2
                  clear hbE hbE2 hB2 hEr hbr hT2 HTr
                  obtain ⟨s, es, g', hLG⟩ := HT2.out.one.log
                  have k1 := term13_any hLG ((j : Int) + 1)
                  rw [q1] at k1
                  have wj : IntKind.i64.wrap ((j : Int) + 1) = (j : Int) + 1 := by rw [IntKind.wrap_i64]; have := HN.out.2.2; omega
                  clear hLG
                  go_wp2_with fail
                  generalize (wr.alloc (.cells #[.int .i64 0, .int .i64 0, .int .i64 0, .int .i64 0, .int .i64 0, .int .i64 0, .string ⟨#[]⟩, .string ⟨#[]⟩, .string ⟨#[]⟩, .string ⟨#[]⟩, .int .i64 0, .slice none 0 0, .slice none 0 0] 51)).setCells wr.heap.size 0 e.arr.toList = W2 at *
                  clear hld hth hst
                  refine k1.mono ?_
                  rintro _ w9 ⟨rfl, hb9⟩
                  have HT9 : Hid _ := HT2.out.below hb9
                  have HbE3 : Hid _ := box_below HbE2.out hb9
                  clear k1 hb9 HT2 HbE2
                  obtain ⟨s, es, g', hLG⟩ := HT9.out.two.log
                  have k2 := term13_any hLG ((j : Int) + 1)
                  rw [q2] at k2
                  clear hLG
                  go_wp2_with fail
                  refine k2.mono ?_
                  rintro _ w10 ⟨rfl, hb10⟩
                  have HT10 : Hid _ := HT9.out.below hb10
                  have hbx := box_below HbE3.out hb10
                  have y1 : w10.cell? ⟨wr.heap.size, 1, none⟩ = some (.int .i64 e.t) := box_cell hbx 1
                  have hlx := box_lt hbx
                  clear k2 hb10 HT9 HbE3 hbx q1 q2
                  go_wp2
                  go_roundw
                  case rel => exact ⟨j + 1, by go_num, by omega, HT10⟩
                  case measure => simp only [intOf]; omega
                · have HB8 : Hid (Below w.heap.size w wr) := HTr.out.one.bel
                  clear HTr
                  go_wp2_with fail
                  refine (HLv.out wr HB8.out).mono ?_
                  rintro _ w9 ⟨rfl, hb9⟩
                  go_wp2
                  go_ret
                  exact ⟨rfl, hb9⟩
theorem rlogMatches_row (w : World) (x y : BegV) (sz : Sl10) (zs : List EntV) (hx : FitsB13 w x) (hy : FitsB13 w y) (hz : HasE w sz zs) (hzl : sz.n ≤ 837723144948) :
    Calls Try.prog 5 #[.agg x.arr, .agg y.arr, .slice sz.p sz.n sz.c] w fun e w' => e = .returned (.bool true) ∧ Below w.heap.size w w' := rlogMatches_walk w x y sz zs hx hy hz hzl
end Go.Proofs.Ytkfejicgabdflaa

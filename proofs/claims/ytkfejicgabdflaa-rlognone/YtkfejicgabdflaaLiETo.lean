import Derived.Test.YtkfejicgabdflaaLhJTo
import Derived.Test.YtkfejicgabdflaaLxTo
import Derived.Test.YtkfejicgabdflaaHRowETo
namespace Go.Proofs.Ytkfejicgabdflaa
open Go.RowKit Go.Shelf
attribute [local go_sem ↓] ldE_exec stE_exec ldE_execI stE_execI ldE_box ldC_exec stC_exec ldC_execI stC_execI ldC_run oc_int oc_bool oc_string oc_slice oc_pointer
theorem HasE.drop {w : World} {s : Sl10} {es : List EntV} (h : HasE w s es) {k g o : Nat} (hk : k < s.n) (hp : s.p = some ⟨g, o, none⟩) : HasE w ⟨some ⟨g, o + k * 13, none⟩, s.n - k, s.c - k⟩ (es.drop k) := by
  have hn := h.n
  have hc := h.c
  obtain ⟨b, o', hp', hlt, hcell⟩ := h.at' (by omega)
  rw [hp] at hp'
  cases hp'
  refine ⟨by rw [List.length_drop, hn], by show s.n - k ≤ s.c - k; omega, (fun h => by cases h), fun _ => ⟨g, o + k * 13, rfl, hlt, fun i hi j hj => ?_⟩, fun e he => h.all e (List.mem_of_mem_drop he)⟩
  have hi' : i < s.n - k := hi
  have e1 : (es.drop k).getD i noEV = es.getD (k + i) noEV := by rw [List.getD_eq_getElem?_getD, List.getD_eq_getElem?_getD, List.getElem?_drop]
  rw [e1, ← hcell (k + i) (by omega) j hj]
  congr 2
  omega
section
variable {w : World} {b : Nat} {G : Nat → Prop} {s : Sl10} {es : List EntV} {g : Int} {L : LG}
set_option maxRecDepth 100000 in
set_option maxHeartbeats 4000000 in
theorem match13_any (h : LogG w b G s es g L) (i t : Int) (sx : Sl10) (xs : List EntV) (hE : ∀ W, Turn (fun k => k = b ∨ G k) w W → HasE W sx xs) (hi : inI i) (hl : es.length + sx.n ≤ 837723144948) (htp : L.end + sx.n ≤ 1125899906842624) :
    Calls Try.prog 18 #[.pointer (some ⟨b, 0, none⟩), .int .i64 i, .int .i64 t, .slice sx.p sx.n sx.c] w fun e w' => e = .returned (.tuple #[.int .i64 (L.match_ i t (xs.map EntV.e)).1.1, .bool (L.match_ i t (xs.map EntV.e)).1.2]) ∧ Turns13 w b G (L.match_ i t (xs.map EntV.e)).2 w' := by
  have hB1 : Below w.heap.size w (w.alloc (.cells #[.pointer (some ⟨b, 0, none⟩)] 30)) := (Below.refl _ w).alloc (Nat.le_refl _) _
  have hbx := heap_alloc_new w (.cells #[.pointer (some ⟨b, 0, none⟩)] 30)
  have q0 := box_cell hbx 0
  replace q0 : (w.alloc (.cells #[.pointer (some ⟨b, 0, none⟩)] 30)).cell? ⟨w.heap.size, 0, none⟩ = some (.pointer (some ⟨b, 0, none⟩)) := q0
  have hlq := box_lt hbx
  have kt := term13_any (h.below hB1) i
  have HH : Hid (LogG w b G s es g L) := h
  have HB1 : Hid _ := hB1
  have HBX : Hid _ := hbx
  have HI : Hid (inI i) := hi
  have HE : Hid (∀ W, Turn (fun k => k = b ∨ G k) w W → HasE W sx xs) := hE
  have HS : Hid (es.length + sx.n ≤ 837723144948 ∧ L.end + sx.n ≤ 1125899906842624 ∧ sx.n ≤ sx.c ∧ xs.length = sx.n) := ⟨hl, htp, (hE w (Turn.refl _ _)).c, (hE w (Turn.refl _ _)).n⟩
  obtain ⟨R, HR⟩ : ∃ R, Hid (L.match_ i t (xs.map EntV.e) = R) := ⟨_, rfl⟩
  rw [HR.out]
  obtain ⟨q, HQ⟩ : ∃ q, Hid (L.term i = q) := ⟨_, rfl⟩
  rw [HQ.out] at kt
  obtain ⟨tt, c⟩ := q
  dsimp only at kt
  clear h hB1 hbx hE hi hl htp
  by_cases hc : c = 0 ∧ tt = t
  · obtain ⟨rfl, rfl⟩ := hc
    obtain ⟨hi0, hi1, -⟩ := LG.term_ok HQ.out
    have hix := HH.out.nums
    have hx0 := hix.x0
    have hxe := hix.e1
    have wr : IntKind.i64.wrap (i + (sx.n : Int)) = i + (sx.n : Int) := by rw [IntKind.wrap_i64]; have := HS.out.2.1; omega
    obtain ⟨ch, HCh⟩ : ∃ ch, Hid (chain13 i tt (xs.map EntV.e) = ch) := ⟨_, rfl⟩
    have HK2 : Hid (∀ W, Below w.heap.size w W → Calls Try.prog 36 #[.int .i64 i, .int .i64 tt, .slice sx.p sx.n sx.c] W fun e w' => e = .returned (.bool ch) ∧ Below W.heap.size W w') := fun W hb => by
      have := follow13_any W i tt sx xs (HE.out _ (Turn.of_below hb (Nat.le_refl _))) (by have := HS.out; omega) HI.out.1 HI.out.2
      rw [HCh.out] at this
      exact this
    have HK3 : Hid (∀ (W : World) (q : Nat), Below w.heap.size w W → W.heap[q]? = some (Obj.cells #[Value.pointer (some ⟨b, 0, none⟩)] 30 (0, 0)) → Calls Try.prog 58 #[.slice sx.p sx.n sx.c, .func (.func 59) #[] #[.pointer (some ⟨q, 0, none⟩)]] W fun e w' => (∃ r : Int, e = .returned (.int .i64 r) ∧ ((r = -1 ∧ L.diff (xs.map EntV.e) = none) ∨ ∃ k : Nat, r = k ∧ k < sx.n ∧ L.diff (xs.map EntV.e) = some ((xs.drop k).map EntV.e))) ∧ Below W.heap.size W w') := fun W q hb hq => index13_any (HH.out.below hb) (q := q) hq sx xs (HE.out _ (Turn.of_below hb (Nat.le_refl _))) (by have := HS.out; omega)
    cases ch with
    | false =>
      have HF : Hid (R = ((0, false), L)) := by
        rw [Hid, ← HR.out]
        unfold LG.match_
        rw [if_neg]
        rintro ⟨-, h2⟩
        rw [HCh.out] at h2
        cases h2
      rw [HF.out]
      go_enter Try.func18, Try.ntmps18
      go_wp2_with fail
      generalize w.alloc (.cells #[.pointer (some ⟨b, 0, none⟩)] 30) = W1 at *
      refine kt.mono ?_
      rintro _ w2 ⟨rfl, hb2⟩
      have HB2 : Hid (Below w.heap.size w w2) := HB1.out.trans (hb2.mono HB1.out.size)
      have kf := HK2.out w2 HB2.out
      clear kt hb2 q0 hlq
      go_wp2_with fail
      refine kf.mono ?_
      rintro _ w3 ⟨rfl, hb3⟩
      have HT : Hid (Turns13 w b G L w3) := .of_below HH.out.log (HB2.out.trans (hb3.mono HB2.out.size))
      clear kf hb3
      go_wp2
      go_ret2
      exact ⟨rfl, HT.out⟩
    | true =>
      go_enter Try.func18, Try.ntmps18
      go_wp2_with fail
      generalize w.alloc (.cells #[.pointer (some ⟨b, 0, none⟩)] 30) = W1 at *
      refine kt.mono ?_
      rintro _ w2 ⟨rfl, hb2⟩
      have HB2 : Hid (Below w.heap.size w w2) := HB1.out.trans (hb2.mono HB1.out.size)
      have HX2 : Hid (w2.heap[w.heap.size]? = some (.cells #[.pointer (some ⟨b, 0, none⟩)] 30 (0, 0))) := box_below HBX.out hb2
      have kf := HK2.out w2 HB2.out
      clear kt hb2 q0 hlq HBX
      go_wp2_with fail
      refine kf.mono ?_
      rintro _ w3 ⟨rfl, hb3⟩
      have HB3 : Hid (Below w.heap.size w w3) := HB2.out.trans (hb3.mono HB2.out.size)
      have HX3 : Hid (w3.heap[w.heap.size]? = some (.cells #[.pointer (some ⟨b, 0, none⟩)] 30 (0, 0))) := box_below HX2.out hb3
      have ki := HK3.out w3 w.heap.size HB3.out HX3.out
      clear kf hb3 HX2 HB2
      go_wp2_with fail
      refine ki.mono ?_
      rintro _ w4 ⟨⟨r, rfl, hr⟩, hb4⟩
      have HB4 : Hid (Below w.heap.size w w4) := HB3.out.trans (hb4.mono HB3.out.size)
      have HX4 : Hid (w4.heap[w.heap.size]? = some (.cells #[.pointer (some ⟨b, 0, none⟩)] 30 (0, 0))) := box_below HX3.out hb4
      clear ki hb4 HX3 HB3
      rcases hr with ⟨rfl, hr⟩ | ⟨k, rfl, hkn, hr⟩
      · have HF : Hid (R = ((i + (sx.n : Int), true), L)) := by
          rw [Hid, ← HR.out]
          unfold LG.match_
          rw [if_pos ⟨HQ.out, HCh.out⟩, hr, List.length_map, HS.out.2.2.2]
        have HT : Hid (Turns13 w b G L (w4.drewN 1)) := .of_below HH.out.log (HB4.out.trans ((below_drewN (Below.refl _ _) 1).mono HB4.out.size))
        have HT2 : Hid (∀ m, Turns13 w b G L (w4.drewN m)) := fun m => .of_below HH.out.log (HB4.out.trans ((below_drewN (Below.refl _ _) m).mono HB4.out.size))
        clear hr
        go_wp2
        go_quiet (fail)
        go_wp2
        go_ret2
        exact ⟨by rw [HF.out]; rfl, by rw [HF.out]; exact HT2.out _⟩
      · have hkl : k < xs.length := by rw [HS.out.2.2.2]; exact hkn
        have HDk : Hid (xs.drop k = xs[k] :: xs.drop (k + 1)) := List.drop_eq_getElem_cons hkl
        rw [HDk.out, List.map_cons] at hr
        obtain ⟨k', p, hp⟩ := LG.place HQ.out HCh.out hr
        have HP : Hid (L.Place i tt (xs.map EntV.e) xs[k].e ((xs.drop (k + 1)).map EntV.e) k' p) := hp
        have hxi : xs[k].i = L.ix + p + 1 := by have h1 : xs[k].e.i = i + k' + 1 := hp.at'; have h2 := hp.pi; have h3 : xs[k].e.i = xs[k].i := rfl; omega
        have HF : Hid (R = if L.done < xs[k].i then ((i + (sx.n : Int), true), L.cut xs[k].e ((xs[k] :: xs.drop (k + 1)).map EntV.e)) else ((0, false), L)) := by
          rw [Hid, ← HR.out]
          unfold LG.match_
          rw [if_pos ⟨HQ.out, HCh.out⟩, hr, List.length_map, HS.out.2.2.2]
          dsimp only
          by_cases h5 : L.done < xs[k].i
          · rw [if_pos h5, if_neg (show ¬ xs[k].e.i ≤ L.done from Int.not_le.2 h5)]
            rfl
          · rw [if_neg h5, if_pos (show xs[k].e.i ≤ L.done from Int.not_lt.1 h5)]
        obtain ⟨g', o, hsp, -, -⟩ := (HE.out w (Turn.refl _ _)).at' (by omega)
        have HKp : Hid (∀ W, Below w.heap.size w W → Calls Try.prog 61 #[.pointer (some ⟨b, 0, none⟩), .slice (some ⟨g', o + k * 13, none⟩) (sx.n - k) (sx.c - k)] W fun e w' => e = .returned (.bool (decide (L.done < xs[k].i))) ∧ Turns13 W b G (if L.done < xs[k].i then L.cut xs[k].e ((xs[k] :: xs.drop (k + 1)).map EntV.e) else L) w') := fun W hb => by
          refine put13_any (HH.out.below hb) ⟨some ⟨g', o + k * 13, none⟩, sx.n - k, sx.c - k⟩ xs[k] (xs.drop (k + 1)) (fun Z hz => ?_) (fun e he => ?_) p hp.le hxi ?_ (fun hd => hp.inv HH.out.inv HCh.out hd) ?_
          · rw [← HDk.out]
            exact (HE.out Z ((Turn.of_below hb (Nat.le_refl _)).trans hz)).drop hkn hsp
          · rw [← HDk.out] at he
            exact goodE_few (chain_few HCh.out e.e (List.mem_map_of_mem (List.mem_of_mem_drop he)))
          · show es.length + (sx.n - k) ≤ _
            have := HS.out.1
            omega
          · rw [List.map_cons, LG.cut_end hp, List.length_map, HS.out.2.2.2]
            have := HS.out.2.1
            omega
        have hkc : k < sx.c := by have := HS.out.2.2.1; omega
        have hkn0 := HS.out.2.2.1
        have ld0 : w4.cell? ⟨w.heap.size, 0, none⟩ = some (.pointer (some ⟨b, 0, none⟩)) := box_cell HX4.out 0
        have hlt0 := box_lt HX4.out
        obtain ⟨px, nx, cx⟩ := sx
        dsimp only at *
        subst hsp
        obtain ⟨x, HX⟩ : ∃ x, Hid (xs[k] = x) := ⟨xs[k], rfl⟩
        rw [HX.out] at HKp HF
        obtain ⟨d, HD⟩ : ∃ d, Hid (decide (L.done < x.i) = d) := ⟨_, rfl⟩
        rw [HD.out] at HKp
        obtain ⟨L2, HL2⟩ : ∃ L2, Hid ((if L.done < x.i then L.cut x.e ((x :: xs.drop (k + 1)).map EntV.e) else L) = L2) := ⟨_, rfl⟩
        rw [HL2.out] at HKp
        have HF2 : Hid (R = if d = true then ((i + (nx : Int), true), L2) else ((0, false), L2)) := by
          rw [Hid, HF.out, ← HD.out, ← HL2.out]
          by_cases h5 : L.done < x.i
          · rw [if_pos h5, if_pos (decide_eq_true h5), if_pos h5]
          · rw [if_neg h5, if_neg (by rw [decide_eq_false h5]; exact Bool.noConfusion), if_neg h5]
        clear hr hp hxi HX HF HDk HP HK3 HK2
        have hk0 : (0 : Int) ≤ (k : Int) := by omega
        go_wp2_with fail
        go_region_with (go_at_call 61; refine (HKp.out _ (by first | exact HB4.out | exact below_ad13 HB4.out)).mono ?_; rintro e w5 ⟨rfl, hT5⟩)
        all_goals
          have HT5 : Hid (Turns13 w b G L2 w5) := hT5.after ((Turn.of_below HB4.out (Nat.le_refl _)).trans (Turn.of_below (below_drew13 w4) (Nat.le_refl _)))
          clear hT5
          cases d with
          | true =>
            go_wp2
            go_ret2
            exact ⟨by rw [HF2.out]; rfl, by rw [HF2.out]; exact HT5.out⟩
          | false =>
            go_wp2
            go_ret2
            exact ⟨by rw [HF2.out]; rfl, by rw [HF2.out]; exact HT5.out⟩
  · have HF : Hid (R = ((0, false), L)) := by
      rw [Hid, ← HR.out]
      unfold LG.match_
      rw [HQ.out, if_neg]
      rintro ⟨h1, -⟩
      simp only [Prod.mk.injEq] at h1
      exact hc ⟨h1.2, h1.1⟩
    rw [HF.out]
    go_enter Try.func18, Try.ntmps18
    go_wp2_with fail
    generalize w.alloc (.cells #[.pointer (some ⟨b, 0, none⟩)] 30) = W1 at *
    refine kt.mono ?_
    rintro _ w2 ⟨rfl, hb2⟩
    have HT : Hid (Turns13 w b G L w2) := .of_below HH.out.log (HB1.out.trans (hb2.mono HB1.out.size))
    clear kt hb2 q0 hlq
    by_cases h2 : c = 0
    · have h3 : tt ≠ t := fun e => hc ⟨h2, e⟩
      subst h2
      have h3' : (tt != t) = true := by rw [bne_iff_ne]; exact h3
      clear hc h3
      go_wp2
      go_ret2
      exact ⟨rfl, HT.out⟩
    · have h2' : (c != 0) = true := by rw [bne_iff_ne]; exact h2
      clear hc h2
      go_wp2
      go_ret2
      exact ⟨rfl, HT.out⟩
end
set_option maxRecDepth 100000 in
set_option maxHeartbeats 1000000 in
theorem hint1_any {w : World} {ub tb : Nat} {T1 T2 : TypeId} {su : Sl10} {us : List EntV} {t : Int} (hu : w.heap[ub]? = some (.cells #[.slice su.p su.n su.c] T1 (0, 0))) (ht : w.heap[tb]? = some (.cells #[.int .i64 t] T2 (0, 0))) (hE : HasE w su us) {k : Nat} (hk : k < su.n) :
    Calls Try.prog 67 #[.int .i64 (k : Nat), .pointer (some ⟨ub, 0, none⟩), .pointer (some ⟨tb, 0, none⟩)] w fun e w' => e = .returned (.bool (decide (t < (us.getD k noEV).t))) ∧ Below w.heap.size w w' := by
  have u0 : w.cell? ⟨ub, 0, none⟩ = some (.slice su.p su.n su.c) := box_cell hu 0
  have t0 : w.cell? ⟨tb, 0, none⟩ = some (.int .i64 t) := box_cell ht 0
  have l1 := box_lt hu
  have l2 := box_lt ht
  have hcc := hE.c
  obtain ⟨g', o, hp, hg, hc⟩ := hE.at' (by omega)
  have c1 : w.cell? ⟨g', o + k * 13 + 1, none⟩ = some (.int .i64 (us.getD k noEV).t) := hc k hk 1 (by decide)
  generalize (us.getD k noEV).t = x at *
  rw [hp] at u0
  clear hu ht hE hp hc
  go_enter Try.func67, Try.ntmps67
  go_wp2
  go_quiet (fail)
  go_wp2
  go_ret
  exact ⟨rfl, below_drewN (Below.refl _ _) _⟩
structure Srch13 (us : List EntV) (t : Int) (a c n : Nat) : Prop where
  ac : a ≤ c
  cn : c ≤ n
  low : ∀ k, k < a → (us.getD k noEV).t ≤ t
  up : ∀ k, c ≤ k → k < n → t < (us.getD k noEV).t
set_option maxRecDepth 100000 in
set_option maxHeartbeats 2000000 in
theorem search13_any {w : World} {ub tb : Nat} {T1 T2 : TypeId} {su : Sl10} {us : List EntV} {t : Int} (hu : w.heap[ub]? = some (.cells #[.slice su.p su.n su.c] T1 (0, 0))) (ht : w.heap[tb]? = some (.cells #[.int .i64 t] T2 (0, 0))) (hE : HasE w su us) (hl : su.n ≤ 1099511627776)
    (hm : ∀ i j, i ≤ j → j < su.n → (us.getD i noEV).t ≤ (us.getD j noEV).t) :
    Calls Try.prog 66 #[.int .i64 (su.n : Nat), .func (.func 67) #[] #[.pointer (some ⟨ub, 0, none⟩), .pointer (some ⟨tb, 0, none⟩)]] w fun e w' => (∃ r : Nat, e = .returned (.int .i64 r) ∧ Srch13 us t r r su.n) ∧ Below w.heap.size w w' := by
  have HU : Hid _ := hu
  have HT : Hid _ := ht
  have HE : Hid (HasE w su us) := hE
  have HM : Hid (∀ i j, i ≤ j → j < su.n → (us.getD i noEV).t ≤ (us.getD j noEV).t) := hm
  have HK : Hid (∀ W k, Below w.heap.size w W → k < su.n → _) := fun W k hb hk => hint1_any (w := W) (box_below hu hb) (box_below ht hb) (hE.below hb) (k := k) hk
  clear hu ht hE hm
  generalize su.n = n at *
  go_enter Try.func66, Try.ntmps66
  go_wp2
  go_loopw [5, 6, 7] (fun s5 s6 s7 wr => ∃ a c : Nat, s5 = .int .i64 (a : Nat) ∧ s6 = .int .i64 (c : Nat) ∧ Hid (Srch13 us t a c n) ∧ Below w.heap.size w wr) (fun s5 s6 _ _ => (intOf s6).toNat - (intOf s5).toNat)
  case atStart => exact ⟨0, n, rfl, rfl, ⟨Nat.zero_le _, Nat.le_refl _, fun _ h => absurd h (Nat.not_lt_zero _), fun _ h1 h2 => absurd h2 (Nat.not_lt.2 h1)⟩, Below.refl _ _⟩
  case round =>
    obtain ⟨a, c, rfl, rfl, HS, hb⟩ := hrel
    have hac := HS.out.ac
    have hcn := HS.out.cn
    by_cases hlt : a < c
    · obtain ⟨h, hh⟩ : ∃ h, h = (a + c) / 2 := ⟨_, rfl⟩
      have h1 : a ≤ h := by omega
      have h2 : h < c := by omega
      have km := HK.out wr h hb (by omega)
      have w1 : IntKind.i64.wrap ((a : Int) + (c : Int)) = ((a + c : Nat) : Int) := by rw [IntKind.wrap_i64]; omega
      have w2 : ((a : Int) + (c : Int)) / 2 = (h : Int) := by omega
      have HM1 : Hid (∀ k, k < h + 1 → (us.getD k noEV).t ≤ (us.getD h noEV).t) := fun k hk => HM.out k h (by omega) (by omega)
      have HM2 : Hid (∀ k, h ≤ k → k < n → (us.getD h noEV).t ≤ (us.getD k noEV).t) := fun k hk hk2 => HM.out h k hk hk2
      generalize (us.getD h noEV).t = x at *
      have hent := enters_of Try.func67 (by kernel_rfl) rfl
      clear hh
      go_wp2_with fail
      refine km.mono ?_
      rintro _ w2 ⟨rfl, hb2⟩
      have HB2 : Hid (Below w.heap.size w w2) := hb.trans (hb2.mono hb.size)
      clear km hb2 hent
      obtain ⟨d, hd⟩ : ∃ d, decide (t < x) = d := ⟨_, rfl⟩
      rw [hd]
      cases d with
      | true =>
        have hx : t < x := of_decide_eq_true hd
        have HS2 : Hid (Srch13 us t a h n) := ⟨h1, by omega, HS.out.low, fun k hk hk2 => by have := HM2.out k hk hk2; omega⟩
        clear hd hx
        go_wp2
        go_roundw
        case rel => exact ⟨a, h, rfl, rfl, HS2, HB2.out⟩
        case measure => simp only [intOf]; omega
      | false =>
        have hx : ¬ t < x := of_decide_eq_false hd
        have HS2 : Hid (Srch13 us t (h + 1) c n) := ⟨by omega, hcn, fun k hk => by have := HM1.out k hk; omega, HS.out.up⟩
        clear hd hx
        go_wp2
        go_roundw
        case rel => exact ⟨h + 1, c, by go_num, rfl, HS2, HB2.out⟩
        case measure => simp only [intOf]; omega
    · obtain rfl : a = c := by omega
      go_wp2
      go_ret
      exact ⟨⟨a, rfl, HS.out⟩, hb⟩
theorem hintN_srch13 {L : LG} {es : List EntV} (hm : es.map EntV.e = L.l) {t : Int} : ∀ {n r : Nat}, n ≤ L.l.length → Srch13 es t r r n → L.hintN t n = L.ix + r
  | 0, r, _, h => by have := h.cn; obtain rfl : r = 0 := (by omega); show L.ix = L.ix + 0; omega
  | n + 1, r, hn, h => by
    have ht : (L.term (L.ix + n + 1)).1 = (es.getD n noEV).t := by rw [LG.term_at (by omega), ← entGet13 hm (by omega)]; rfl
    unfold LG.hintN
    rw [ht]
    rcases Nat.lt_or_ge n r with h1 | h1
    · have h2 := h.cn
      obtain rfl : r = n + 1 := by omega
      rw [if_pos (h.low n h1)]
      omega
    · rw [if_neg (by have := h.up n h1 (by omega); omega)]
      exact hintN_srch13 hm (by omega) ⟨Nat.le_refl _, h1, h.low, fun k hk hk2 => h.up k hk (by omega)⟩
theorem Srch13.of_take {es : List EntV} {t : Int} {r n : Nat} (h : Srch13 (es.take n) t r r n) : Srch13 es t r r n := by
  have e : ∀ k, k < n → (es.take n).getD k noEV = es.getD k noEV := fun k hk => by rw [List.getD_eq_getElem?_getD, List.getD_eq_getElem?_getD, List.getElem?_take_of_lt hk]
  refine ⟨h.ac, h.cn, fun k hk => ?_, fun k hk hk2 => ?_⟩
  · rw [← e k (by have := h.cn; omega)]; exact h.low k hk
  · rw [← e k hk2]; exact h.up k hk hk2
structure Fin13 (w Z : World) (ub tb : Nat) (t : Int) (cs : Sl10) : Prop where
  bel : Below w.heap.size w Z
  u : Z.heap[ub]? = some (.cells #[.slice cs.p cs.n cs.c] 22 (0, 0))
  t : Z.heap[tb]? = some (.cells #[.int .i64 t] 3 (0, 0))
theorem Fin13.make {w W1 Z : World} {t : Int} {cs : Sl10} (hb : Below w.heap.size w W1) (ht : W1.heap[w.heap.size]? = some (.cells #[.int .i64 t] 3 (0, 0))) (h1 : Below W1.heap.size W1 Z) (h2 : Z.heap[W1.heap.size]? = some (.cells #[.slice none 0 0] 22 (0, 0))) : Fin13 w (Z.setCell ⟨W1.heap.size, 0, none⟩ (.slice cs.p cs.n cs.c)) W1.heap.size w.heap.size t cs := by
  have hS : Below W1.heap.size W1 (Z.setCell ⟨W1.heap.size, 0, none⟩ (.slice cs.p cs.n cs.c)) := h1.setCell (Nat.le_refl _) _
  exact ⟨hb.trans (hS.mono hb.size), set_block9 h2 0 _ (by show 0 < 1; decide), box_below ht hS⟩
structure Bel13 (w W : World) : Prop where
  out : Below w.heap.size w W
theorem kr13 {w wA wB : World} {b c i j : Nat} {u v : Value} (hl : b < w.heap.size) (hm : c < w.heap.size) (h : wA.cell? ⟨b, i, none⟩ = some u ∧ wA.cell? ⟨c, j, none⟩ = some v ∧ Below w.heap.size w wA) (hb : Below wA.heap.size wA wB) : wB.cell? ⟨b, i, none⟩ = some u ∧ wB.cell? ⟨c, j, none⟩ = some v ∧ Below w.heap.size w wB :=
  ⟨(hb.cell (p := ⟨b, i, none⟩) (Nat.lt_of_lt_of_le hl h.2.2.size)).trans h.1, (hb.cell (p := ⟨c, j, none⟩) (Nat.lt_of_lt_of_le hm h.2.2.size)).trans h.2.1, h.2.2.trans (hb.mono h.2.2.size)⟩
theorem kr13b {w wA : World} {b c i j : Nat} {u v : Value} (h : wA.cell? ⟨b, i, none⟩ = some u ∧ wA.cell? ⟨c, j, none⟩ = some v ∧ Below w.heap.size w wA) : Below w.heap.size w wA := h.2.2
section
variable {w : World} {b : Nat} {G : Nat → Prop} {s : Sl10} {es : List EntV} {g : Int} {L : LG}
theorem LogG.mono13 (h : LogG w b G s es g L) {i j : Nat} (hij : i ≤ j) (hj : j < L.l.length) : (es.getD i noEV).t ≤ (es.getD j noEV).t := by
  have h1 := entGet13 h.map (j := i) (by omega)
  have h2 := entGet13 h.map hj
  have h3 := chain_mono13 h.inv.row hij hj
  rw [← h1, ← h2] at h3
  exact h3
set_option maxRecDepth 100000 in
set_option maxHeartbeats 2000000 in
theorem hint13_any (h : LogG w b G s es g L) (i t : Int) (hi : inI i) :
    Calls Try.prog 32 #[.pointer (some ⟨b, 0, none⟩), .int .i64 i, .int .i64 t] w fun e w' => e = .returned (.int .i64 (L.hint i t)) ∧ Below w.heap.size w w' := by
  have hB1 : Below w.heap.size w (w.alloc (.cells #[.int .i64 t] 3)) := (Below.refl _ w).alloc (Nat.le_refl _) _
  have hbx := heap_alloc_new w (.cells #[.int .i64 t] 3)
  have hL1 := h.below hB1
  have kn := none13_any hL1
  have c1 : (w.alloc (.cells #[.int .i64 t] 3)).cell? ⟨b, 1, none⟩ = some (.int .i64 L.ix) := hL1.cells.2.1
  have hlb := hL1.lt
  have HN : Hid (Nums13 L s.n) := h.nums
  have HB1 : Hid _ := hB1
  have HBX : Hid _ := hbx
  have HH : Hid (LogG w b G s es g L) := h
  have w1 : IntKind.i64.wrap (L.ix + 1) = L.ix + 1 := by rw [IntKind.wrap_i64]; have := HN.out.x0; have := HN.out.x1; omega
  have HL : Hid (∀ W, Below w.heap.size w W → Calls Try.prog 56 #[.pointer (some ⟨b, 0, none⟩)] W fun e w' => e = .returned (.int .i64 L.end) ∧ ∃ m, w' = W.drewN m) := fun W hb => last13q (h.below hb)
  have HC : Hid (∀ W, Below w.heap.size w W → Calls Try.prog 57 #[.pointer (some ⟨b, 0, none⟩), .int .i64 (L.ix + 1), .int .i64 (min i L.end)] W fun e w' => e = .returned (.slice (cutS13 s L.ix (L.ix + 1) (min i L.end)).p (cutS13 s L.ix (L.ix + 1) (min i L.end)).n (cutS13 s L.ix (L.ix + 1) (min i L.end)).c) ∧ ∃ m, w' = W.drewN m) := fun W hb => cut13q (h.below hb) (L.ix + 1) (min i L.end) (by omega) (by have := HN.out.x1; omega) (by have := hi.1; have := HN.out.x0; have := h.le_end; omega) (by omega)
  have HR : Hid (∀ W, Below w.heap.size w W → Cut13 W G s es L (L.ix + 1) (min i L.end) (cutS13 s L.ix (L.ix + 1) (min i L.end))) := fun W hb => (h.below hb).cut (L.ix + 1) (min i L.end) (by omega) (by omega)
  generalize cutS13 s L.ix (L.ix + 1) (min i L.end) = cs at *
  have hcn : cs.n = (min i L.end - L.ix).toNat := by rw [(HR.out w (Below.refl _ _)).n]; congr 1; omega
  have HRow : Hid (∀ W, Below w.heap.size w W → HasE W cs (es.take cs.n)) := fun W hb => by
    have := (HR.out W hb).row.has
    rwa [show (L.ix + 1 - L.ix - 1).toNat = 0 by omega, List.drop_zero, show (min i L.end - (L.ix + 1) + 1).toNat = cs.n by rw [hcn]; congr 1; omega] at this
  have hcl : cs.n ≤ L.l.length := by have : L.end = L.ix + L.l.length := rfl; omega
  have HCn : Hid (cs.n ≤ L.l.length ∧ cs.n ≤ 1099511627776) := ⟨hcl, by have := HN.out.n1; have := h.n; omega⟩
  have HMo : Hid (∀ i j, i ≤ j → j < cs.n → ((es.take cs.n).getD i noEV).t ≤ ((es.take cs.n).getD j noEV).t) := fun i j hij hj => by
    have e : ∀ k, k < cs.n → (es.take cs.n).getD k noEV = es.getD k noEV := fun k hk => by rw [List.getD_eq_getElem?_getD, List.getD_eq_getElem?_getD, List.getElem?_take_of_lt hk]
    rw [e i (by omega), e j hj]
    exact h.mono13 hij (by omega)
  have HF0 : Hid (∀ r, Srch13 (es.take cs.n) t r r cs.n → L.hint i t = L.ix + r) := fun r hr => by
    have h1 := hintN_srch13 h.map hcl hr.of_take
    unfold LG.hint
    rw [← h1, hcn]
    congr 2
    split <;> omega
  obtain ⟨R, HRr⟩ : ∃ R, Hid (L.hint i t = R) := ⟨_, rfl⟩
  rw [HRr.out] at HF0 ⊢
  clear h hB1 hbx hL1 hcl hcn HR
  go_enter Try.func32, Try.ntmps32
  go_wp2_with fail
  generalize w.alloc (.cells #[.int .i64 t] 3) = W1 at *
  refine same_mono kn ?_
  have hlw : w.heap.size < W1.heap.size := box_lt HBX.out
  go_wp2_with fail
  clear kn
  have A1 : ∀ m, ((W1.drewN m).alloc (.cells #[.slice none 0 0] 22)).cell? ⟨W1.heap.size, 0, none⟩ = some (.slice none 0 0) := fun m => box_cell (heap_alloc_new (W1.drewN m) (.cells #[.slice none 0 0] 22)) 0
  have A2 : ∀ m, ((W1.drewN m).alloc (.cells #[.slice none 0 0] 22)).frozen? ⟨W1.heap.size, 0, none⟩ = false := fun m => frozen9 (heap_alloc_new (W1.drewN m) (.cells #[.slice none 0 0] 22)) 0
  have A3 : ∀ m, ((W1.drewN m).alloc (.cells #[.slice none 0 0] 22)).cell? ⟨b, 1, none⟩ = some (.int .i64 L.ix) := fun m => (((Below.refl _ (W1.drewN m)).alloc (Nat.le_refl _) (.cells #[.slice none 0 0] 22)).cell (p := ⟨b, 1, none⟩) hlb).trans c1
  have F1 : Hid (∀ m, Fin13 w (((W1.drewN m).alloc (.cells #[.slice none 0 0] 22)).setCell ⟨W1.heap.size, 0, none⟩ (.slice cs.p cs.n cs.c)) W1.heap.size w.heap.size t cs) := fun m => Fin13.make HB1.out HBX.out ((below_drewN (Below.refl _ _) m).alloc (Nat.le_refl _) _) (heap_alloc_new (W1.drewN m) _)
  have F2 : Hid (∀ m m', Fin13 w ((((W1.drewN m).alloc (.cells #[.slice none 0 0] 22)).drewN m').setCell ⟨W1.heap.size, 0, none⟩ (.slice cs.p cs.n cs.c)) W1.heap.size w.heap.size t cs) := fun m m' => Fin13.make HB1.out HBX.out (below_drewN8 ((below_drewN (Below.refl _ _) m).alloc (Nat.le_refl _) _) m') (heap_alloc_new (W1.drewN m) _)
  go_region_law (first
    | (go_simp; go_at_call 56; refine (HL.out _ (by (repeat (first | exact HB1.out | refine below_ad13 ?_ | refine below_drewN ?_ _ | refine below_same13 ?_ _)))).mono ?_; rintro _ w4 ⟨rfl, m4, rfl⟩; dsimp only)
    | (go_simp; go_at_call 57; refine (HC.out _ (by (repeat (first | exact HB1.out | refine below_ad13 ?_ | refine below_drewN ?_ _ | refine below_same13 ?_ _)))).mono ?_; rintro _ w5 ⟨rfl, m5, rfl⟩; dsimp only))
  all_goals
    generalize hZ : World.setCell _ ⟨W1.heap.size, 0, none⟩ (.slice cs.p cs.n cs.c) = Z
    have hF : Fin13 w Z W1.heap.size w.heap.size t cs := by rw [← hZ]; first | exact F1.out _ | exact F2.out _ _
    clear hZ A1 A2 A3 c1 hlb hlw HL HC
    have HF : Hid _ := hF
    have hb := HF.out.bel
    have KS : Hid (∀ W, Below Z.heap.size Z W → Calls Try.prog 66 #[.int .i64 (cs.n : Nat), .func (.func 67) #[] #[.pointer (some ⟨W1.heap.size, 0, none⟩), .pointer (some ⟨w.heap.size, 0, none⟩)]] W fun e w' => (∃ r : Nat, e = .returned (.int .i64 r) ∧ Srch13 (es.take cs.n) t r r cs.n) ∧ Below W.heap.size W w') := fun W hbW => search13_any (box_below HF.out.u hbW) (box_below HF.out.t hbW) (HRow.out W (hb.trans (hbW.mono hb.size))) HCn.out.2 HMo.out
    have z1 : Z.drew.cell? ⟨b, 1, none⟩ = some (.int .i64 L.ix) := (HH.out.below hb).cells.2.1
    have z2 : Z.drew.cell? ⟨W1.heap.size, 0, none⟩ = some (.slice cs.p cs.n cs.c) := box_cell HF.out.u 0
    have l1 : b < Z.heap.size := (HH.out.below hb).lt
    have l2 : W1.heap.size < Z.heap.size := box_lt HF.out.u
    have s0 : Z.drew.cell? ⟨b, 1, none⟩ = some (.int .i64 L.ix) ∧ Z.drew.cell? ⟨W1.heap.size, 0, none⟩ = some (.slice cs.p cs.n cs.c) ∧ Below Z.heap.size Z Z.drew := ⟨z1, z2, below_drew13 Z⟩
    have HBZ : Hid (∀ W, Below Z.heap.size Z W → Bel13 w W) := fun W hW => ⟨hb.trans (hW.mono hb.size)⟩
    clear z1 z2 hb HRow HB1 HBX F1 F2 hF
    generalize W1.heap.size = ub at *
    generalize w.heap.size = tb at *
    have hent := enters_of Try.func67 (by kernel_rfl) rfl
    go_wp2_with fail
    go_region_held3 (fun w' => w'.cell? ⟨b, 1, none⟩ = some (.int .i64 L.ix) ∧ w'.cell? ⟨ub, 0, none⟩ = some (.slice cs.p cs.n cs.c) ∧ Below Z.heap.size Z w')
      (first | exact s0 | assumption | exact kr13 l1 l2 (by assumption) (by assumption))
      (first
        | (go_at_call 66; (with_reducible refine Calls.mono (KS.out _ (kr13b (by assumption))) ?_); rintro e7 w7 ⟨⟨r, rfl, hS7⟩, hb7⟩))
    have hrn : r ≤ cs.n := hS7.cn
    have hwr : IntKind.i64.wrap (L.ix + (r : Int)) = L.ix + (r : Int) := by rw [IntKind.wrap_i64]; have := HN.out.x0; have := HN.out.x1; have := HCn.out.2; omega
    have HF7 : Hid (R = L.ix + r) := HF0.out r hS7
    have HB7 : Hid (Bel13 w w7) := HBZ.out w7 (kr13b (by assumption))
    rw [hwr]
    clear s0 hb7 hS7 hwr hrn KS
    go_wp2
    go_ret
    exact ⟨by rw [HF7.out]; rfl, HB7.out.out⟩
end
end Go.Proofs.Ytkfejicgabdflaa

namespace Go.Proofs.Ytkfejicgabdflaa
open Go.RowKit Go.Shelf
attribute [local go_sem ↓] ldE_exec stE_exec ldE_execI stE_execI ldE_box ldC_exec stC_exec ldC_execI stC_execI ldC_run oc_int oc_bool oc_string oc_slice oc_pointer
structure Lg13 (w0 w : World) (b : Nat) (G : Nat → Prop) (L : LG) : Prop where
  log : Log13 w b G L
  own : ∀ k, G k → w0.heap.size ≤ k ∧ k < w.heap.size
  ob : w0.heap.size ≤ b
  bel : Below w0.heap.size w0 w
section
variable {w0 w w' : World} {b : Nat} {G : Nat → Prop} {L L' : LG}
theorem Lg13.lt (h : Lg13 w0 w b G L) : b < w.heap.size := by
  obtain ⟨s, es, g, hl⟩ := h.log
  exact hl.lt
theorem Lg13.foot (h : Lg13 w0 w b G L) : ∀ k, (k = b ∨ G k) → w0.heap.size ≤ k := fun k hk => by
  rcases hk with rfl | hk
  · exact h.ob
  · exact (h.own k hk).1
theorem Lg13.below (h : Lg13 w0 w b G L) (hb : Below w.heap.size w w') : Lg13 w0 w' b G L := ⟨h.log.below hb, fun k hk => ⟨(h.own k hk).1, Nat.lt_of_lt_of_le (h.own k hk).2 hb.size⟩, h.ob, h.bel.trans (hb.mono h.bel.size)⟩
theorem Lg13.turns (h : Lg13 w0 w b G L) (ht : Turns13 w b G L' w') : Lg13 w0 w' b (more8 G w w') L' := by
  have hz := ht.turn.size
  have hz0 := h.bel.size
  refine ⟨ht.log, fun k hk => ?_, h.ob, h.bel.trans (ht.turn.below h.foot h.bel.size)⟩
  rcases hk with hk | hk
  · exact ⟨(h.own k hk).1, Nat.lt_of_lt_of_le (h.own k hk).2 hz⟩
  · exact ⟨by omega, hk.2⟩
theorem lg13_new {e : Ending} (hb : Below w0.heap.size w0 w) (h : NewE13 w (some L) e w') : ∃ b, e = .returned (.pointer (some ⟨b, 0, none⟩)) ∧ w.heap.size ≤ b ∧ Lg13 w0 w' b (fun k => w.heap.size ≤ k ∧ k < w'.heap.size) L := by
  obtain ⟨b, he, h1, h2, h3⟩ := h.yes L rfl
  have hz := hb.size
  exact ⟨b, he, h1, h3, fun k hk => ⟨by omega, hk.2⟩, by omega, hb.trans (h.bel.mono hz)⟩
end

def noopV13 (i t : Int) : EntV := ⟨i, t, 1, zeroC9, noFV⟩
theorem in1_13 : inI 1 := by unfold inI; exact ⟨by decide, by decide⟩
theorem in2_13 : inI 2 := by unfold inI; exact ⟨by decide, by decide⟩
theorem in3_13 : inI 3 := by unfold inI; exact ⟨by decide, by decide⟩
theorem fits_noop13 (w : World) {i t : Int} (hi : inI i) (ht : inI t) : FitsE w (noopV13 i t) := ⟨hi, ht, in1_13, fits_zeroC, FitsF.nil w⟩
set_option maxRecDepth 100000 in
set_option maxHeartbeats 1000000 in
theorem noop13_any (w : World) (i t : Int) : Calls Try.prog 30 #[.int .i64 i, .int .i64 t] w fun e w' => e = .returned (.agg (noopV13 i t).arr) ∧ Below w.heap.size w w' := by
  have hB1 : Below w.heap.size w (w.alloc (.cells #[.int .i64 0, .int .i64 0, .int .i64 0, .int .i64 0, .int .i64 0, .int .i64 0, .string ⟨#[]⟩, .string ⟨#[]⟩, .string ⟨#[]⟩, .string ⟨#[]⟩, .int .i64 0, .slice none 0 0, .slice none 0 0] 51)) := (Below.refl _ w).alloc (Nat.le_refl _) _
  have hbx := heap_alloc_new w (.cells #[.int .i64 0, .int .i64 0, .int .i64 0, .int .i64 0, .int .i64 0, .int .i64 0, .string ⟨#[]⟩, .string ⟨#[]⟩, .string ⟨#[]⟩, .string ⟨#[]⟩, .int .i64 0, .slice none 0 0, .slice none 0 0] 51)
  have hth := there_box hbx 0 13 (Nat.le_refl _)
  have hst := stE_arr 0 (noopV13 i t) hth
  have hF := setE_box (noopV13 i t) hbx rfl
  have hB9 := setCells_below (Nat.le_refl w.heap.size) (noopV13 i t).arr.toList 0 hB1
  unfold noopV13 EntV.arr zeroC9 noFV nilS10 at *
  dsimp only at *
  go_enter Try.func30, Try.ntmps30
  go_wp2
  refine bodyPost_ret (ret_one rfl _ _ w.heap.size _ _ _ _ rfl hF Try.underlying51 rfl (by kernel_rfl)) rfl ⟨rfl, hB9⟩

def bsE3 (x y z : Value) : Sem Value := Instr.buildSlice 22 3 #[(0, x), (1, y), (2, z)]
theorem bsE3_exec (ρ : Operand → Value) (d : Option Tmp) (x y z : Operand) (t : TypeId) (p : String) (af : Array Edge) (g : Option (Nat × Bool)) (w : World) : (execOp ρ { dst := d, op := .buildSlice 22 3 #[(0, x), (1, y), (2, z)], type := t, pos := p, after := af, guard := g }).run Try.prog w = ((bsE3 (ρ x) (ρ y) (ρ z)).run Try.prog w).andThen fun v w' => .ok (.value v) w' := by
  unfold execOp bsE3
  simp only [Sem.run_bind, Sem.run_pure, List.map_toArray, List.map_cons, List.map_nil]
set_option maxRecDepth 100000 in
theorem bsE3_run (w : World) (x y z : EntV) : (bsE3 (.agg x.arr) (.agg y.arr) (.agg z.arr)).run Try.prog w = .ok (.slice (some ⟨w.heap.size, 0, none⟩) 3 3) (w.alloc (.cells (x.arr ++ y.arr ++ z.arr) 51)) := by
  obtain ⟨xi, xt, xk, ⟨ck, cs, cq, ckey, cold, cval, cunt, clim⟩, ⟨⟨p1, n1, c1⟩, ⟨q1, m1, d1⟩, f1⟩⟩ := x
  obtain ⟨yi, yt, yk, ⟨dk, ds, dq, dkey, dold, dval, dunt, dlim⟩, ⟨⟨p2, n2, c2⟩, ⟨q2, m2, d2⟩, f2⟩⟩ := y
  obtain ⟨zi, zt, zk, ⟨ek, es, eq, ekey, eold, eval, eunt, elim⟩, ⟨⟨p3, n3, c3⟩, ⟨q3, m3, d3⟩, f3⟩⟩ := z
  unfold bsE3 EntV.arr
  go_simp
theorem eArr13 (x : EntV) : x.arr.size = 13 := rfl
theorem hasE13_at {w : World} {k : Nat} {x : EntV} (h : w.heap[k]? = some (.cells x.arr 51 (0, 0))) (hx : FitsE w x) : HasE w ⟨some ⟨k, 0, none⟩, 1, 1⟩ [x] := by
  refine ⟨rfl, Nat.le_refl _, (fun h => by cases h), fun _ => ⟨k, 0, rfl, box_lt h, fun i hi j hj => ?_⟩, fun e he => ?_⟩
  · have hi0 : i = 0 := by have : i < 1 := hi; omega
    subst hi0
    rw [box_cell h]
    show x.arr[0 + 0 * 13 + j]? = x.arr[j]?
    rw [Nat.zero_mul, Nat.zero_add]
  · rw [List.mem_singleton.1 he]
    exact hx
theorem hasE13_three (w : World) (x y z : EntV) (hx : FitsE w x) (hy : FitsE w y) (hz : FitsE w z) : HasE (w.alloc (.cells (x.arr ++ y.arr ++ z.arr) 51)) ⟨some ⟨w.heap.size, 0, none⟩, 3, 3⟩ [x, y, z] := by
  have hb : Below w.heap.size w (w.alloc (.cells (x.arr ++ y.arr ++ z.arr) 51)) := (Below.refl _ w).alloc (Nat.le_refl _) _
  refine ⟨rfl, Nat.le_refl _, (fun h => by cases h), fun _ => ⟨w.heap.size, 0, rfl, by simp, fun i hi j hj => ?_⟩, fun e he => ?_⟩
  · rw [box_cell (heap_alloc_new w _)]
    have h2 : (x.arr ++ y.arr).size = 26 := by rw [Array.size_append, eArr13, eArr13]
    have hi2 : i = 0 ∨ i = 1 ∨ i = 2 := by have : i < 3 := hi; omega
    rcases hi2 with rfl | rfl | rfl
    · show (x.arr ++ y.arr ++ z.arr)[0 + 0 * 13 + j]? = x.arr[j]?
      rw [Nat.zero_mul, Nat.zero_add, Array.getElem?_append_left (by rw [h2]; omega), Array.getElem?_append_left (by rw [eArr13]; exact hj)]
    · show (x.arr ++ y.arr ++ z.arr)[0 + 1 * 13 + j]? = y.arr[j]?
      rw [Nat.one_mul, Nat.zero_add, Array.getElem?_append_left (by rw [h2]; omega), Array.getElem?_append_right (by rw [eArr13]; omega), eArr13, Nat.add_sub_cancel_left]
    · show (x.arr ++ y.arr ++ z.arr)[0 + 2 * 13 + j]? = z.arr[j]?
      rw [Nat.zero_add, Array.getElem?_append_right (by rw [h2]; omega), h2, show 2 * 13 + j - 26 = j by omega]
  · simp only [List.mem_cons, List.not_mem_nil, or_false] at he
    rcases he with rfl | rfl | rfl
    · exact hx.below hb
    · exact hy.below hb
    · exact hz.below hb
attribute [local go_sem ↓] bsE_exec bsE_execI bsE_run bsE3_exec bsE3_run
def lL0 : LG := ⟨0, 0, [noopV13 1 1, noopV13 2 1, noopV13 3 1].map EntV.e, 0, 0, 3⟩
theorem lL0_new : new13 0 0 ([noopV13 1 1, noopV13 2 1, noopV13 3 1].map EntV.e) = some lL0 := if_pos ⟨by decide, by decide, by decide, by decide +kernel⟩
theorem lL0_hint : lL0.hint 9 1 = 3 := by decide +kernel
def lL1 : LG := (lL0.match_ 2 1 ([noopV13 3 2].map EntV.e)).2
theorem lL1_is : (lL0.match_ 2 1 ([noopV13 3 2].map EntV.e)).1.1 = 3 ∧ (lL0.match_ 2 1 ([noopV13 3 2].map EntV.e)).1.2 = true ∧ lL1.endT = 2 ∧ lL1.safe = 2 ∧ lL1.unsure.length = 1 := by
  refine ⟨by decide +kernel, by decide +kernel, by decide +kernel, by decide +kernel, by decide +kernel⟩

set_option maxRecDepth 100000 in
set_option maxHeartbeats 2000000 in
theorem lives13_any (w : World) : Calls Try.prog 10 #[] w fun e w' => e = .returned (.bool true) ∧ Below w.heap.size w w' := by
  go_enter Try.func10, Try.ntmps10
  go_wp2_with fail
  refine (noop13_any w 1 1).mono ?_
  rintro _ w1 ⟨rfl, hb1⟩
  go_wp2_with fail
  refine (noop13_any w1 2 1).mono ?_
  rintro _ w2 ⟨rfl, hb2⟩
  go_wp2_with fail
  refine (noop13_any w2 3 1).mono ?_
  rintro _ w3 ⟨rfl, hb3⟩
  have hB3 := (hb1.trans (hb2.mono hb1.size)).trans (hb3.mono (Nat.le_trans hb1.size hb2.size))
  have hE := hasE13_three w3 (noopV13 1 1) (noopV13 2 1) (noopV13 3 1) (fits_noop13 _ in1_13 in1_13) (fits_noop13 _ in2_13 in1_13) (fits_noop13 _ in3_13 in1_13)
  have kn := new13_any (w3.alloc (.cells ((noopV13 1 1).arr ++ (noopV13 2 1).arr ++ (noopV13 3 1).arr) 51)) 0 0 ⟨some ⟨w3.heap.size, 0, none⟩, 3, 3⟩ _ hE (show 3 ≤ 837723144948 by decide) (show inI 0 by unfold inI; exact ⟨by decide, by decide⟩)
  rw [lL0_new] at kn
  have HB4 : Hid (Below w.heap.size w (w3.alloc (.cells ((noopV13 1 1).arr ++ (noopV13 2 1).arr ++ (noopV13 3 1).arr) 51))) := below_same13 hB3 _
  clear hb1 hb2 hb3 hB3 hE
  go_wp2_with fail
  refine kn.mono ?_
  intro e w5 hN
  obtain ⟨b, rfl, hbb, hL⟩ := lg13_new HB4.out hN
  clear kn hN
  obtain ⟨s, es, g, hLG⟩ := hL.log
  have kh := hint13_any hLG 9 1 (by unfold inI; exact ⟨by decide, by decide⟩)
  rw [lL0_hint] at kh
  have HL : Hid _ := hL
  clear hLG hL
  go_wp2_with fail
  refine kh.mono ?_
  rintro _ w6 ⟨rfl, hb6⟩
  have HL6 : Hid _ := HL.out.below hb6
  clear kh hb6 HL
  go_wp2_with fail
  refine (noop13_any w6 3 2).mono ?_
  rintro _ w7 ⟨rfl, hb7⟩
  have hL7 := HL6.out.below hb7
  have hba : Below w7.heap.size w7 (w7.alloc (.cells (noopV13 3 2).arr 51)) := (Below.refl _ _).alloc (Nat.le_refl _) _
  have hL8 := hL7.below hba
  obtain ⟨s, es, g, hLG⟩ := hL8.log
  have hlt7 := hL7.lt
  have hlen : es.length = 3 := hLG.len
  have km := match13_any hLG 2 1 ⟨some ⟨w7.heap.size, 0, none⟩, 1, 1⟩ [noopV13 3 2] (fun W ht => by
    refine hasE13_at ((ht.block w7.heap.size (box_lt (heap_alloc_new w7 _)) ?_).trans (heap_alloc_new w7 _)) (fits_noop13 _ in3_13 in2_13)
    rintro (h | h)
    · omega
    · have := (hL7.own _ h).2
      omega) in2_13 (show es.length + 1 ≤ _ by omega) (show lL0.end + 1 ≤ _ by decide +kernel)
  have hL1 := lL1_is
  unfold lL1 at hL1
  rw [hL1.1, hL1.2.1] at km
  have HL8 : Hid _ := hL8
  clear hb7 hL7 hba hL8 hLG hlt7 hlen HL6
  go_wp2_with fail
  refine km.mono ?_
  rintro _ w9 ⟨rfl, hT⟩
  have hL9 := HL8.out.turns hT
  obtain ⟨s, es, g, hLG⟩ := hL9.log
  have kl := lastT13_any hLG
  rw [hL1.2.2.1] at kl
  have HL9 : Hid _ := hL9
  clear km hT hL9 hLG HL8
  go_wp2_with fail
  refine kl.mono ?_
  rintro _ w10 ⟨rfl, hb10⟩
  have hL10 := HL9.out.below hb10
  obtain ⟨s, es, g, hLG⟩ := hL10.log
  have ks := safe13_any hLG
  have ku := unsure13_any hLG
  rw [hL1.2.2.2.1] at ks
  have HL10 : Hid _ := hL10
  clear kl hb10 hL10 hLG HL9
  go_wp2_with fail
  refine same_mono ks ?_
  go_wp2_with fail
  refine ku.mono ?_
  rintro _ w11 ⟨s', ys, rfl, ho, hm, hb11⟩
  have hn : s'.n = 1 := by
    have h1 := ho.fits.n
    have h2 := congrArg List.length hm
    rw [List.length_map, hL1.2.2.2.2] at h2
    omega
  have HB : Hid (Below w.heap.size w w11) := (HL10.out.below hb11).bel
  rw [hn]
  clear ks ku ho hm hb11 hL1 HL10
  go_wp2
  go_ret
  exact ⟨rfl, HB.out⟩
end Go.Proofs.Ytkfejicgabdflaa

namespace Go.Proofs.Ytkfejicgabdflaa
open Go.RowKit Go.Shelf
attribute [local go_sem ↓] ldE_exec stE_exec ldE_execI stE_execI ldE_box ldC_exec stC_exec ldC_execI stC_execI ldC_run oc_int oc_bool oc_string oc_slice oc_pointer
structure BegV where
  i : Int
  t : Int
  w : Sl10
  es : List EntV
def BegV.arr (x : BegV) : Array Value := #[.int .i64 x.i, .int .i64 x.t, .slice x.w.p x.w.n x.w.c]
structure FitsB13 (W : World) (x : BegV) : Prop where
  i : inI x.i
  t : inI x.t
  e : HasE W x.w x.es
  l : x.w.n ≤ 837723144948
end Go.Proofs.Ytkfejicgabdflaa

namespace Go.Proofs.Ytkfejicgabdflaa
open Go.RowKit Go.Shelf
structure ActV13 where
  k : Int
  n : Int
  m : Int
  w : Sl10
  es : List EntV
def ActV13.arr (a : ActV13) : Array Value := #[.int .i64 a.k, .int .i64 a.n, .int .i64 a.m, .slice a.w.p a.w.n a.w.c]
structure FitsA13 (W : World) (a : ActV13) : Prop where
  k : inI a.k
  n : inI a.n
  m : inI a.m
  e : HasE W a.w a.es
  l : a.w.n ≤ 837723144948
end Go.Proofs.Ytkfejicgabdflaa

namespace Go.Proofs.Ytkfejicgabdflaa
open Go.ChangeShapes Go.WideShapes Go.ChangeAt Go.RowKit Go.Deep
section
variable {H : Type} {enc : TypeId × Value → H} {W : World} {spare : Nat → Bool} {held : Bool} {b0 base fuel : Nat}

theorem ents_in13 {a : Option Addr} {n c : Nat} {x : DataW H × List MemPlace} (h : DataW.trod enc Try.prog W base spare held fuel 22 [.slice a n c] = some x) (hw : ∀ q ∈ x.1.weights Try.prog 22, q ≤ reachBytes) :
    ∃ zs : List EntV, HasE W ⟨a, n, c⟩ zs ∧ n ≤ 837723144948 := by
  obtain ⟨zs, hz, _⟩ := ents_in10 h hw
  refine ⟨zs, hz, ?_⟩
  rcases open_slice Try.underlying22 h with ⟨hcs, _⟩ | ⟨a', len, cap, m, k, D, Pl, hcs, hb, hl, hm, hmm, rfl, hx⟩
  · simp only [List.cons.injEq, Value.slice.injEq, and_true] at hcs
    obtain ⟨rfl, rfl, rfl⟩ := hcs
    omega
  · simp only [List.cons.injEq, Value.slice.injEq, and_true] at hcs
    obtain ⟨rfl, rfl, rfl⟩ := hcs
    have hlm : n ≤ m := by rw [hmm]; split <;> omega
    have := hw _ (by simp only [DataW.weights, Try.underlying22]; exact List.mem_cons_self)
    rw [show Try.prog.bytesOf 51 = 168 by kernel_rfl] at this
    simp only [List.length_map, List.length_range, reachBytes] at this
    omega

set_option maxRecDepth 100000 in
theorem beg_in13 {cs : List Value} {x : DataW H × List MemPlace} (hlen : cs.length = 3) (h : DataW.trod enc Try.prog W base spare held fuel 24 cs = some x) (hw : ∀ q ∈ x.1.weights Try.prog 24, q ≤ reachBytes) :
    ∃ A : BegV, cs = A.arr.toList ∧ FitsB13 W A := by
  obtain ⟨xs, k', hk, hxy, _, hxl, hf⟩ := DataW.trod_struct Try.underlying24 h
  match xs, hxl, cs, hlen with
  | [y0, y1, y2], _, [v0, v1, v2], _ =>
    have g0 := hf 0 _ rfl
    have g1 := hf 1 _ rfl
    have g2 := hf 2 _ rfl
    simp [show Try.prog.cellsOf 3 = 1 by kernel_rfl, show Try.prog.cellsOf 22 = 1 by kernel_rfl] at g0 g1 g2
    simp only [List.map_cons, List.map_nil] at hxy
    have hx1 : x.1 = .agg [y0.1, y1.1, y2.1] := by rw [hxy]
    rw [hx1] at hw
    simp only [DataW.weights, Try.underlying24, DataW.weightsEach, List.map_cons, List.map_nil, List.append_nil, List.mem_append] at hw
    obtain ⟨z0, hz0, rfl, w0⟩ := DataW.trod_int Try.underlying3 g0
    obtain ⟨z1, hz1, rfl, w1⟩ := DataW.trod_int Try.underlying3 g1
    cases hz0; cases hz1
    obtain ⟨a, n, c, rfl⟩ := slice_form10 Try.underlying22 g2
    obtain ⟨zs, h1, h2⟩ := ents_in13 g2 fun q hq => hw q (by simp only [hq, or_true])
    exact ⟨⟨z0, z1, ⟨a, n, c⟩, zs⟩, rfl, ⟨bounds_i64 w0, bounds_i64 w1, h1, h2⟩⟩
set_option maxRecDepth 100000 in
theorem act_in13 {cs : List Value} {x : DataW H × List MemPlace} (hlen : cs.length = 4) (h : DataW.trod enc Try.prog W base spare held fuel 29 cs = some x) (hw : ∀ q ∈ x.1.weights Try.prog 29, q ≤ reachBytes) :
    ∃ A : ActV13, cs = A.arr.toList ∧ FitsA13 W A := by
  obtain ⟨xs, k', hk, hxy, _, hxl, hf⟩ := DataW.trod_struct Try.underlying29 h
  match xs, hxl, cs, hlen with
  | [y0, y1, y2, y3], _, [v0, v1, v2, v3], _ =>
    have g0 := hf 0 _ rfl
    have g1 := hf 1 _ rfl
    have g2 := hf 2 _ rfl
    have g3 := hf 3 _ rfl
    simp [show Try.prog.cellsOf 3 = 1 by kernel_rfl, show Try.prog.cellsOf 22 = 1 by kernel_rfl] at g0 g1 g2 g3
    simp only [List.map_cons, List.map_nil] at hxy
    have hx1 : x.1 = .agg [y0.1, y1.1, y2.1, y3.1] := by rw [hxy]
    rw [hx1] at hw
    simp only [DataW.weights, Try.underlying29, DataW.weightsEach, List.map_cons, List.map_nil, List.append_nil, List.mem_append] at hw
    obtain ⟨z0, hz0, rfl, w0⟩ := DataW.trod_int Try.underlying3 g0
    obtain ⟨z1, hz1, rfl, w1⟩ := DataW.trod_int Try.underlying3 g1
    obtain ⟨z2, hz2, rfl, w2⟩ := DataW.trod_int Try.underlying3 g2
    cases hz0; cases hz1; cases hz2
    obtain ⟨a, n, c, rfl⟩ := slice_form10 Try.underlying22 g3
    obtain ⟨zs, h1, h2⟩ := ents_in13 g3 fun q hq => hw q (by simp only [hq, or_true])
    exact ⟨⟨z0, z1, z2, ⟨a, n, c⟩, zs⟩, rfl, ⟨bounds_i64 w0, bounds_i64 w1, bounds_i64 w2, h1, h2⟩⟩
set_option maxRecDepth 100000 in
theorem open_act13 {v : Value} {d : DataW H} {p : List MemPlace} (hv : Value.okWide Try.prog W .any b0 29 v) (h : DataW.Trod enc Try.prog W base spare held 29 v d p) (hw : ∀ q ∈ d.weights Try.prog 29, q ≤ reachBytes) :
    ∃ A : ActV13, v = .agg A.arr ∧ FitsA13 W A := by
  obtain ⟨cs, rfl, hsz⟩ := okWide_struct Try.underlying29 hv
  rw [show Try.prog.cellsOf 29 = 4 by kernel_rfl] at hsz
  obtain ⟨fuel, hf⟩ := h
  obtain ⟨A, hA, hF⟩ := act_in13 (x := (d, p)) (by simpa [Value.cells] using hsz) hf hw
  refine ⟨A, ?_, hF⟩
  rw [show cs = A.arr from Array.toList_inj.1 (by simpa [Value.cells] using hA)]
end
end Go.Proofs.Ytkfejicgabdflaa

namespace Go.Proofs.Ytkfejicgabdflaa
open Go.RowKit Go.Shelf
attribute [local go_sem ↓] ldE_exec stE_exec ldE_execI stE_execI ldE_box ldC_exec stC_exec ldC_execI stC_execI ldC_run oc_int oc_bool oc_string oc_slice oc_pointer
def Dead13 (q : Value) (w : World) : Prop := q = .pointer none ∨ ∃ z, q = .pointer (some ⟨z, 0, none⟩) ∧ w.heap[z]? = some (.cells #[.bool false, .int .i64 0, .int .i64 0, .slice none 0 0, .int .i64 0, .int .i64 0, .int .i64 0, .int .i64 0] 62 (0, 0))
theorem Dead13.below {q : Value} {w w' : World} (h : Dead13 q w) (hb : Below w.heap.size w w') : Dead13 q w' := by
  rcases h with h | ⟨z, h1, h2⟩
  · exact .inl h
  · exact .inr ⟨z, h1, box_below h2 hb⟩
section
variable {q : Value} {w : World}
set_option maxRecDepth 100000 in
set_option maxHeartbeats 1000000 in
theorem noneD13 (h : Dead13 q w) : Calls Try.prog 55 #[q] w fun e w' => e = .returned (.bool true) ∧ w' = w := by
  rcases h with rfl | ⟨z, rfl, hz⟩
  · go_enter Try.func55, Try.ntmps55
    go_wp2
    go_ret
    exact ⟨rfl, rfl⟩
  · have c0 : w.cell? ⟨z, 0, none⟩ = some (.bool false) := box_cell hz 0
    have hlt := box_lt hz
    clear hz
    go_enter Try.func55, Try.ntmps55
    go_wp2
    go_ret
    exact ⟨rfl, rfl⟩
theorem Dead13.ptr (h : Dead13 q w) : ∃ p, q = .pointer p := by
  rcases h with rfl | ⟨z, rfl, -⟩ <;> exact ⟨_, rfl⟩
set_option maxRecDepth 100000 in
set_option maxHeartbeats 1000000 in
theorem baseD13 (h : Dead13 q w)  : Calls Try.prog 16 #[q] w fun e w' => e = .returned (.tuple #[.int .i64 0, .int .i64 0]) ∧ w' = w := by
  have kn := noneD13 h
  obtain ⟨p, rfl⟩ := h.ptr
  clear h
  go_enter Try.func16, Try.ntmps16
  go_wp2_with fail
  refine same_mono kn ?_
  go_wp2
  go_ret2
  exact ⟨rfl, rfl⟩
set_option maxRecDepth 100000 in
set_option maxHeartbeats 1000000 in
theorem lastD13 (h : Dead13 q w)  : Calls Try.prog 26 #[q] w fun e w' => e = .returned (.tuple #[.int .i64 0, .int .i64 0]) ∧ w' = w := by
  have kn := noneD13 h
  obtain ⟨p, rfl⟩ := h.ptr
  clear h
  go_enter Try.func26, Try.ntmps26
  go_wp2_with fail
  refine same_mono kn ?_
  go_wp2
  go_ret2
  exact ⟨rfl, rfl⟩
set_option maxRecDepth 100000 in
set_option maxHeartbeats 1000000 in
theorem termD13 (h : Dead13 q w) (i : Int) : Calls Try.prog 22 #[q, .int .i64 i] w fun e w' => e = .returned (.tuple #[.int .i64 0, .int .i64 1]) ∧ w' = w := by
  have kn := noneD13 h
  obtain ⟨p, rfl⟩ := h.ptr
  clear h
  go_enter Try.func22, Try.ntmps22
  go_wp2_with fail
  refine same_mono kn ?_
  go_wp2
  go_ret2
  exact ⟨rfl, rfl⟩
set_option maxRecDepth 100000 in
set_option maxHeartbeats 1000000 in
theorem sureD13 (h : Dead13 q w) (i : Int) : Calls Try.prog 28 #[q, .int .i64 i] w fun e w' => e = .returned (.tuple #[]) ∧ w' = w := by
  have kn := noneD13 h
  obtain ⟨p, rfl⟩ := h.ptr
  clear h
  go_enter Try.func28, Try.ntmps28
  go_wp2_with fail
  refine same_mono kn ?_
  go_wp2
  refine bodyPost_ret (results_none rfl _ _ _) rfl ?_
  exact ⟨rfl, rfl⟩
set_option maxRecDepth 100000 in
set_option maxHeartbeats 1000000 in
theorem restoreD13 (h : Dead13 q w) (i t : Int) : Calls Try.prog 29 #[q, .int .i64 i, .int .i64 t] w fun e w' => e = .returned (.tuple #[]) ∧ w' = w := by
  have kn := noneD13 h
  obtain ⟨p, rfl⟩ := h.ptr
  clear h
  go_enter Try.func29, Try.ntmps29
  go_wp2_with fail
  refine same_mono kn ?_
  go_wp2
  refine bodyPost_ret (results_none rfl _ _ _) rfl ?_
  exact ⟨rfl, rfl⟩
set_option maxRecDepth 100000 in
set_option maxHeartbeats 1000000 in
theorem commitD13 (h : Dead13 q w) (i : Int) : Calls Try.prog 23 #[q, .int .i64 i] w fun e w' => e = .returned (.bool false) ∧ w' = w := by
  have kn := noneD13 h
  obtain ⟨p, rfl⟩ := h.ptr
  clear h
  go_enter Try.func23, Try.ntmps23
  go_wp2_with fail
  refine same_mono kn ?_
  go_wp2
  go_ret
  exact ⟨rfl, rfl⟩
set_option maxRecDepth 100000 in
set_option maxHeartbeats 1000000 in
theorem newerD13 (h : Dead13 q w) (i t : Int) : Calls Try.prog 31 #[q, .int .i64 i, .int .i64 t] w fun e w' => e = .returned (.bool false) ∧ w' = w := by
  have kn := noneD13 h
  obtain ⟨p, rfl⟩ := h.ptr
  clear h
  go_enter Try.func31, Try.ntmps31
  go_wp2_with fail
  refine same_mono kn ?_
  go_wp2
  go_ret
  exact ⟨rfl, rfl⟩
set_option maxRecDepth 100000 in
set_option maxHeartbeats 1000000 in
theorem doneD13 (h : Dead13 q w)  : Calls Try.prog 15 #[q] w fun e w' => e = .returned (.int .i64 0) ∧ w' = w := by
  have kn := noneD13 h
  obtain ⟨p, rfl⟩ := h.ptr
  clear h
  go_enter Try.func15, Try.ntmps15
  go_wp2_with fail
  refine same_mono kn ?_
  go_wp2
  go_ret
  exact ⟨rfl, rfl⟩
set_option maxRecDepth 100000 in
set_option maxHeartbeats 1000000 in
theorem safeD13 (h : Dead13 q w)  : Calls Try.prog 33 #[q] w fun e w' => e = .returned (.int .i64 0) ∧ w' = w := by
  have kn := noneD13 h
  obtain ⟨p, rfl⟩ := h.ptr
  clear h
  go_enter Try.func33, Try.ntmps33
  go_wp2_with fail
  refine same_mono kn ?_
  go_wp2
  go_ret
  exact ⟨rfl, rfl⟩
set_option maxRecDepth 100000 in
set_option maxHeartbeats 1000000 in
theorem usedD13 (h : Dead13 q w)  : Calls Try.prog 20 #[q] w fun e w' => e = .returned (.int .i64 0) ∧ w' = w := by
  have kn := noneD13 h
  obtain ⟨p, rfl⟩ := h.ptr
  clear h
  go_enter Try.func20, Try.ntmps20
  go_wp2_with fail
  refine same_mono kn ?_
  go_wp2
  go_ret
  exact ⟨rfl, rfl⟩
set_option maxRecDepth 100000 in
set_option maxHeartbeats 1000000 in
theorem sliceD13 (h : Dead13 q w) (i t : Int) : Calls Try.prog 17 #[q, .int .i64 i, .int .i64 t] w fun e w' => e = .returned (.slice none 0 0) ∧ w' = w := by
  have kn := noneD13 h
  obtain ⟨p, rfl⟩ := h.ptr
  clear h
  go_enter Try.func17, Try.ntmps17
  go_wp2_with fail
  refine same_mono kn ?_
  go_wp2
  go_ret
  exact ⟨rfl, rfl⟩
set_option maxRecDepth 100000 in
set_option maxHeartbeats 1000000 in
theorem unsureD13 (h : Dead13 q w)  : Calls Try.prog 34 #[q] w fun e w' => e = .returned (.slice none 0 0) ∧ w' = w := by
  have kn := noneD13 h
  obtain ⟨p, rfl⟩ := h.ptr
  clear h
  go_enter Try.func34, Try.ntmps34
  go_wp2_with fail
  refine same_mono kn ?_
  go_wp2
  go_ret
  exact ⟨rfl, rfl⟩
set_option maxRecDepth 100000 in
set_option maxHeartbeats 1000000 in
theorem applyD13 (h : Dead13 q w) (i : Int) : Calls Try.prog 24 #[q, .int .i64 i] w fun e w' => e = .returned (.slice none 0 0) ∧ w' = w := by
  have kn := noneD13 h
  obtain ⟨p, rfl⟩ := h.ptr
  clear h
  go_enter Try.func24, Try.ntmps24
  go_wp2_with fail
  refine same_mono kn ?_
  go_wp2
  go_ret
  exact ⟨rfl, rfl⟩
set_option maxRecDepth 100000 in
set_option maxHeartbeats 1000000 in
theorem compactD13 (h : Dead13 q w) (i : Int) : Calls Try.prog 25 #[q, .int .i64 i] w fun e w' => e = .returned (.bool false) ∧ Below w.heap.size w w' := by
  have kn : ∀ m, Calls Try.prog 55 #[q] (w.drewN m) fun e w' => e = .returned (.bool true) ∧ w' = w.drewN m := fun m => noneD13 (h.below (below_drewN (Below.refl _ _) m))
  obtain ⟨p, rfl⟩ := h.ptr
  clear h
  go_enter Try.func25, Try.ntmps25
  go_wp2
  go_quiet ((go_at_call 55; exact Calls.quiet_of_same (kn _)))
  go_wp2
  go_ret
  exact ⟨rfl, below_drewN (Below.refl _ _) _⟩
set_option maxRecDepth 100000 in
set_option maxHeartbeats 1000000 in
theorem hintD13 (h : Dead13 q w) (i t : Int) : Calls Try.prog 32 #[q, .int .i64 i, .int .i64 t] w fun e w' => e = .returned (.int .i64 0) ∧ Below w.heap.size w w' := by
  have hB1 : Below w.heap.size w (w.alloc (.cells #[.int .i64 t] 3)) := (Below.refl _ w).alloc (Nat.le_refl _) _
  have kn := noneD13 (h.below hB1)
  obtain ⟨p, rfl⟩ := h.ptr
  clear h
  go_enter Try.func32, Try.ntmps32
  go_wp2_with fail
  refine same_mono kn ?_
  go_wp2
  go_ret
  exact ⟨rfl, hB1⟩
set_option maxRecDepth 100000 in
set_option maxHeartbeats 1000000 in
theorem appendD13 (h : Dead13 q w) (x : EntV) : Calls Try.prog 19 #[q, .agg x.arr] w fun e w' => e = .returned (.int .i64 1) ∧ Below w.heap.size w w' := by
  have hB1 : Below w.heap.size w (w.alloc (.cells x.arr 51)) := (Below.refl _ w).alloc (Nat.le_refl _) _
  have kn := noneD13 (h.below hB1)
  obtain ⟨p, rfl⟩ := h.ptr
  clear h
  go_enter Try.func19, Try.ntmps19
  go_wp2_with fail
  refine same_mono kn ?_
  go_wp2
  go_ret
  exact ⟨rfl, hB1⟩
set_option maxRecDepth 100000 in
set_option maxHeartbeats 1000000 in
theorem matchD13 (h : Dead13 q w) (i t : Int) (s : Sl10) : Calls Try.prog 18 #[q, .int .i64 i, .int .i64 t, .slice s.p s.n s.c] w fun e w' => e = .returned (.tuple #[.int .i64 0, .bool false]) ∧ Below w.heap.size w w' := by
  have hB1 : Below w.heap.size w (w.alloc (.cells #[q] 30)) := (Below.refl _ w).alloc (Nat.le_refl _) _
  have kt := termD13 (h.below hB1) i
  have q0 : (w.alloc (.cells #[q] 30)).cell? ⟨w.heap.size, 0, none⟩ = some q := box_cell (heap_alloc_new w _) 0
  have hlt := box_lt (heap_alloc_new w (.cells #[q] 30))
  obtain ⟨p, rfl⟩ := h.ptr
  clear h
  go_enter Try.func18, Try.ntmps18
  go_wp2_with fail
  refine same_mono kt ?_
  go_wp2
  go_ret2
  exact ⟨rfl, hB1⟩
end
theorem load_int13 (k : Nat) (v : Value) (W : World) (h : W.cell? ⟨k, 0, none⟩ = some v) : (loadVar 3 ⟨k, 0, none⟩).run Try.prog W = .ok v W := by
  simp [loadVar, go_sem, h]
theorem ret_cells13 {fn : Func} {p q : Tmp} {ty : TypeId} (h : fn.results = #[.cell p ty, .cell q 3]) (tmps : Array Value) (w : World) (g k : Nat) (u v : Value)
    (hp : tmps.getD p undef = .pointer (some ⟨g, 0, none⟩)) (hq : tmps.getD q undef = .pointer (some ⟨k, 0, none⟩)) (hg : (loadVar ty ⟨g, 0, none⟩).run Try.prog w = .ok u w) (hk : w.cell? ⟨k, 0, none⟩ = some v) :
    (results fn tmps).run Try.prog w = .ok (.tuple #[u, v]) w := by
  have hp' : tmps[p]?.getD undef = .pointer (some ⟨g, 0, none⟩) := by simpa using hp
  have hq' : tmps[q]?.getD undef = .pointer (some ⟨k, 0, none⟩) := by simpa using hq
  simp [results, h, hp', hq', asAddr, hg, load_int13 k v w hk]

set_option maxRecDepth 100000 in
set_option maxHeartbeats 1000000 in
theorem confD13 {q : Value} {w : World} (h : Dead13 q w) : Calls Try.prog 27 #[q] w fun e w' => e = .returned (.tuple #[.agg noFV.arr, .int .i64 0]) ∧ Below w.heap.size w w' := by
  have hB1 : Below w.heap.size w ((w.alloc (.cells #[.slice none 0 0, .slice none 0 0] 49)).alloc (.cells #[.int .i64 0] 3)) := ((Below.refl _ w).alloc (Nat.le_refl _) _).alloc (by simp) _
  have kn := noneD13 (h.below hB1)
  have hx : ((w.alloc (.cells #[.slice none 0 0, .slice none 0 0] 49)).alloc (.cells #[.int .i64 0] 3)).heap[w.heap.size]? = some (.cells #[.slice none 0 0, .slice none 0 0] 49 (0, 0)) := box_below (heap_alloc_new w _) ((Below.refl _ _).alloc (Nat.le_refl _) _)
  have hy : ((w.alloc (.cells #[.slice none 0 0, .slice none 0 0] 49)).alloc (.cells #[.int .i64 0] 3)).heap[w.heap.size + 1]? = some (.cells #[.int .i64 0] 3 (0, 0)) := by
    have := heap_alloc_new (w.alloc (.cells #[.slice none 0 0, .slice none 0 0] 49)) (.cells #[.int .i64 0] 3)
    rwa [World.size_alloc] at this
  have x0 := box_cell hx 0
  have x1 := box_cell hx 1
  have y0 := box_cell hy 0
  have fx := frozen9 hx
  have fy := frozen9 hy
  have lx := box_lt hx
  have ly := box_lt hy
  obtain ⟨p, rfl⟩ := h.ptr
  have HB1 : Hid _ := hB1
  have HX : Hid _ := hx
  have HY : Hid _ := hy
  clear h hB1 hx hy
  go_enter Try.func27, Try.ntmps27
  go_wp2_with fail
  generalize (w.alloc (.cells #[.slice none 0 0, .slice none 0 0] 49)).alloc (.cells #[.int .i64 0] 3) = W1 at *
  refine same_mono kn ?_
  go_wp2
  have z1 : (((W1.setCell ⟨w.heap.size, 0, none⟩ (.slice none 0 0)).setCell ⟨w.heap.size, 1, none⟩ (.slice none 0 0)).setCell ⟨w.heap.size + 1, 0, none⟩ (.int .i64 0)).heap[w.heap.size]? = some (.cells noFV.arr 49 (0, 0)) := (Below.heap_setCell _ _ _ _ (by show w.heap.size ≠ w.heap.size + 1; omega)).trans (set_block9 (set_block9 HX.out 0 (.slice none 0 0) (by show 0 < 2; decide)) 1 (.slice none 0 0) (by show 1 < 2; decide))
  have z2 : (((W1.setCell ⟨w.heap.size, 0, none⟩ (.slice none 0 0)).setCell ⟨w.heap.size, 1, none⟩ (.slice none 0 0)).setCell ⟨w.heap.size + 1, 0, none⟩ (.int .i64 0)).heap[w.heap.size + 1]? = some (.cells #[.int .i64 0] 3 (0, 0)) := set_block9 ((Below.heap_setCell _ _ _ _ (by show w.heap.size + 1 ≠ w.heap.size; omega)).trans ((Below.heap_setCell _ _ _ _ (by show w.heap.size + 1 ≠ w.heap.size; omega)).trans HY.out)) 0 (.int .i64 0) (by show 0 < 1; decide)
  have zb : Below w.heap.size w (((W1.setCell ⟨w.heap.size, 0, none⟩ (.slice none 0 0)).setCell ⟨w.heap.size, 1, none⟩ (.slice none 0 0)).setCell ⟨w.heap.size + 1, 0, none⟩ (.int .i64 0)) := ((HB1.out.setCell (p := ⟨w.heap.size, 0, none⟩) (Nat.le_refl _) _).setCell (p := ⟨w.heap.size, 1, none⟩) (Nat.le_refl _) _).setCell (p := ⟨w.heap.size + 1, 0, none⟩) (by show w.heap.size ≤ w.heap.size + 1; omega) _
  refine bodyPost_ret (ret_cells13 rfl _ _ w.heap.size (w.heap.size + 1) _ _ rfl rfl (run_loadVar_row _ _ _ _ _ _ _ z1 Try.underlying49 rfl (by kernel_rfl)) (box_cell z2 0)) rfl ⟨rfl, zb⟩
end Go.Proofs.Ytkfejicgabdflaa

import Derived.Test.YtephoegcpjdglaaLjXTo
import Derived.Deep.RegionHeld3
import Derived.Test.YtephoegcpjdglaaLjY
import Derived.Test.YtephoegcpjdglaaLjOTo
import Derived.Test.YtephoegcpjdglaaLxTo
import Derived.Deep.DeepCutAuto
namespace Go.Proofs.Ytephoegcpjdglaa
open Go.RowKit Go.Shelf
attribute [local go_sem ↓] ldE_exec stE_exec ldE_execI stE_execI ldE_run ldE_box ldC_exec stC_exec ldC_execI stC_execI ldC_run oc_int oc_bool oc_string oc_slice oc_pointer
section
variable {w0 wB w w' w2 : World} {F G H : Nat → Prop} {b r : Nat} {L M : LG}
theorem Duo13.hold (h : Duo13 w0 wB w F b G L r H M) (hb : Below w.heap.size w w2) : ∃ F' : Nat → Prop, (∀ k, w.heap.size ≤ k → k < w2.heap.size → F' k) ∧ Duo13 w0 w2 w2 F' b G L r H M ∧
    ∀ {w' : World} {G' H' : Nat → Prop} {L' M' : LG}, Duo13 w0 w2 w' F' b G' L' r H' M' → Duo13 w0 wB w' F b G' L' r H' M' :=
  ⟨_, fun k h1 h2 => .inr ⟨h1, h2⟩, h.more hb, fun h2 => h2.rebase (Nat.le_trans h.sz hb.size) fun k hk => by
    obtain ⟨h3, h4, -⟩ := h.fix k hk
    exact ⟨.inl hk, h3, (hb.block k (Nat.lt_of_lt_of_le h3 h.sz)).trans h4⟩⟩
structure App13 (w0 wB wr : World) (F : Nat → Prop) (b r : Nat) (L L' : LG) (q : Nat) (l : List Ent10) : Prop where
  duo : ∃ G' H', Duo13 w0 wB wr F b G' L' r H' L'
  len : L'.l.length ≤ L.l.length + q
  top : L'.end ≤ L.end + q
  is : L' = L.apps13 (l.take q)
theorem LG.app_len13 (L : LG) (e : Ent10) : (L.app e).2.l.length ≤ L.l.length + 1 := by
  unfold LG.app
  split
  · show (L.l ++ [e]).length ≤ _
    rw [List.length_append, List.length_singleton]
    exact Nat.le_refl _
  · exact Nat.le_succ _
set_option maxRecDepth 100000 in
set_option maxHeartbeats 2000000 in
theorem act0_13 (h : Duo13 w0 wB w F b G L r H L) (n m : Int) (s : Sl10) (xs : List EntV) (hE : HasE w0 s xs) (hl : L.l.length + s.n ≤ 1000000000) (htp : L.end + s.n ≤ 1125899906842624) :
    Calls Try.prog 9 #[.pointer (some ⟨b, 0, none⟩), .pointer (some ⟨r, 0, none⟩), .agg #[.int .i64 0, .int .i64 n, .int .i64 m, .slice s.p s.n s.c]] w (Alike13 w0 wB F b r (L.apps13 (xs.map EntV.e))) := by
  obtain ⟨F', hab, hD, hback⟩ := h.act ⟨0, n, m, s, []⟩
  have hA := heap_alloc_new w (.cells #[.int .i64 0, .int .i64 n, .int .i64 m, .slice s.p s.n s.c] 29)
  have a0 : (w.alloc (.cells #[.int .i64 0, .int .i64 n, .int .i64 m, .slice s.p s.n s.c] 29)).cell? ⟨w.heap.size, 0, none⟩ = some (.int .i64 0) := box_cell hA 0
  have a3 : (w.alloc (.cells #[.int .i64 0, .int .i64 n, .int .i64 m, .slice s.p s.n s.c] 29)).cell? ⟨w.heap.size, 3, none⟩ = some (.slice s.p s.n s.c) := box_cell hA 3
  have hlt := box_lt hA
  have hcc := hE.c
  have hsn : s.n ≤ 1000000000 := by omega
  have HE : Hid (HasE w0 s xs) := hE
  have HLn : Hid (xs.length = s.n ∧ L.l.length + s.n ≤ 1000000000 ∧ L.end + s.n ≤ 1125899906842624) := ⟨hE.n, hl, htp⟩
  have HBk : Hid (∀ {w' : World} {G' H' : Nat → Prop} {L' M' : LG}, Duo13 w0 (w.alloc (.cells (ActV13.arr ⟨0, n, m, s, []⟩) 29)) w' F' b G' L' r H' M' → Duo13 w0 wB w' F b G' L' r H' M') := @hback
  unfold ActV13.arr at hD HBk
  dsimp only at hD HBk
  have H0 : Hid (App13 w0 (w.alloc (.cells #[.int .i64 0, .int .i64 n, .int .i64 m, .slice s.p s.n s.c] 29)) (w.alloc (.cells #[.int .i64 0, .int .i64 n, .int .i64 m, .slice s.p s.n s.c] 29)) F' b r L L 0 (xs.map EntV.e)) := ⟨⟨G, H, hD⟩, Nat.le_refl _, by simp, rfl⟩
  clear hA h hback hD hE hl htp
  go_enter Try.func9, Try.ntmps9
  go_upto_region 3 with fail
  generalize w.alloc (.cells #[.int .i64 0, .int .i64 n, .int .i64 m, .slice s.p s.n s.c] 29) = W at *
  generalize w.heap.size = ab at *
  go_wp2
  go_loopw [24] (fun s24 wr => ∃ (q : Nat) (L' : LG), s24 = .int .i64 (q : Nat) ∧ q ≤ s.n ∧ Hid (App13 w0 W wr F' b r L L' q (xs.map EntV.e))) (fun s24 _ => s.n - (intOf s24).toNat)
  case atStart => exact ⟨0, L, rfl, Nat.zero_le _, H0⟩
  case round =>
    obtain ⟨q, L', rfl, hq, HQ⟩ := hrel
    clear H0
    by_cases hqn : q < s.n
    · obtain ⟨G1, H1, hD⟩ := HQ.out.duo
      obtain ⟨g, o, hp, hg, hld⟩ := (HE.out.below hD.bel).ld hqn
      have hql : q < xs.length := by rw [HLn.out.1]; exact hqn
      have HFe : Hid (FitsE w0 (xs.getD q noEV)) := HE.out.all _ (getD_memE hql)
      have HTk : Hid ((xs.map EntV.e).take (q + 1) = (xs.map EntV.e).take q ++ [(xs.getD q noEV).e]) := by
        rw [Hid, List.take_add_one, List.getElem?_eq_getElem (by rw [List.length_map]; exact hql), Option.toList_some, map_getE hql]
      generalize xs.getD q noEV = e at *
      rw [hp] at *
      have hbE := heap_alloc_new wr (.cells #[.int .i64 0, .int .i64 0, .int .i64 0, .int .i64 0, .int .i64 0, .int .i64 0, .string ⟨#[]⟩, .string ⟨#[]⟩, .string ⟨#[]⟩, .string ⟨#[]⟩, .int .i64 0, .slice none 0 0, .slice none 0 0] 51)
      have hth := there_box hbE 0 13 (Nat.le_refl _)
      have hst := stE_arr 0 e hth
      have hbE2 := setE_box e hbE rfl
      have hBE : Below wr.heap.size wr ((wr.alloc (.cells #[.int .i64 0, .int .i64 0, .int .i64 0, .int .i64 0, .int .i64 0, .int .i64 0, .string ⟨#[]⟩, .string ⟨#[]⟩, .string ⟨#[]⟩, .string ⟨#[]⟩, .int .i64 0, .slice none 0 0, .slice none 0 0] 51)).setCells wr.heap.size 0 e.arr.toList) := setCells_below (Nat.le_refl _) _ _ ((Below.refl _ _).alloc (Nat.le_refl _) _)
      obtain ⟨F2, hF2, hD2, hback2⟩ := hD.hold hBE
      have hef := hF2 wr.heap.size (Nat.le_refl _) (box_lt hbE2)
      have HBk2 : Hid (∀ {w' : World} {G' H' : Nat → Prop} {L' M' : LG}, Duo13 w0 ((wr.alloc (.cells #[.int .i64 0, .int .i64 0, .int .i64 0, .int .i64 0, .int .i64 0, .int .i64 0, .string ⟨#[]⟩, .string ⟨#[]⟩, .string ⟨#[]⟩, .string ⟨#[]⟩, .int .i64 0, .slice none 0 0, .slice none 0 0] 51)).setCells wr.heap.size 0 e.arr.toList) w' F2 b G' L' r H' M' → Duo13 w0 W w' F' b G' L' r H' M') := @hback2
      clear hbE hBE hD hF2 hback2
      go_upto_region 6 with fail
      generalize (wr.alloc (.cells #[.int .i64 0, .int .i64 0, .int .i64 0, .int .i64 0, .int .i64 0, .int .i64 0, .string ⟨#[]⟩, .string ⟨#[]⟩, .string ⟨#[]⟩, .string ⟨#[]⟩, .int .i64 0, .slice none 0 0, .slice none 0 0] 51)).setCells wr.heap.size 0 e.arr.toList = W2 at *
      generalize wr.heap.size = eb at *
      clear hld hth hst
      have HX2 : Hid (W2.heap[eb]? = some (.cells e.arr 51 (0, 0))) := hbE2
      have hD3 := hD2.below (below_drew13 W2)
      have hL1 : L'.l.length ≤ 1000000000 := by have h1 := HQ.out.len; have h2 := HLn.out.2.1; omega
      have hL2 : L'.end + 1 ≤ 1125899906842624 := by have h1 := HQ.out.top; have h2 := HLn.out.2.2; omega
      have HI : Hid (L'.Inv) := hD2.inv
      have HAp : Hid (L'.apps13 [] = L' ∧ (L'.app e.e).2.l.length ≤ L.l.length + (q + 1) ∧ (L'.app e.e).2.end ≤ L.end + ((q + 1 : Nat) : Int) ∧ (L'.app e.e).2 = L.apps13 ((xs.map EntV.e).take (q + 1))) := by
        refine ⟨rfl, ?_, ?_, ?_⟩
        · have h1 := HQ.out.len
          have h2 := LG.app_len13 L' e.e
          omega
        · have h1 := HQ.out.top
          have h2 := LG.end_app L' e.e
          omega
        · rw [HTk.out, LG.apps_snoc13, ← HQ.out.is]
      have HK2 : Hid (∀ (w1 : World) (G' : Nat → Prop), Duo13 w0 W2 w1 F2 b G' (L'.app e.e).2 r H1 L' → Calls Try.prog 27 #[.pointer (some ⟨r, 0, none⟩), .agg e.arr] w1 fun x w' => x = .returned (.int .i64 (L'.app e.e).1) ∧ ∃ H', Duo13 w0 W2 w' F2 b G' (L'.app e.e).2 r H' (L'.app e.e).2) := fun w1 G' h1 => rappendD13 h1 e HFe.out hL1 hL2
      have k1 := lappend13 hD3 e HFe.out hL1 hL2
      have s0 : (ldE (.pointer (some ⟨eb, 0, none⟩))).run Try.prog W2.drew = .ok (.agg e.arr) W2.drew := ldE_box W2.drew _ _ _ _ HX2.out rfl
      have HK1 : Hid _ := k1
      clear hbE2 hD2 k1
      generalize hR : L'.app e.e = R at *
      clear hR
      obtain ⟨ri, L2⟩ := R
      dsimp only at HAp HK1 HK2
      have w24 : IntKind.i64.wrap ((q : Int) + 1) = (q : Int) + 1 := by rw [IntKind.wrap_i64]; omega
      go_region_held3 (fun w' => (ldE (.pointer (some ⟨eb, 0, none⟩))).run Try.prog w' = .ok (.agg e.arr) w')
        (first | exact s0 | exact ldE_box _ _ _ _ _ (Duo13.box (by assumption) hef HX2.out) rfl)
        (first
          | (go_at_call 15; refine Calls.mono HK1.out ?_; rintro _ w1 ⟨rfl, G2, h1⟩)
          | (go_at_call 27; refine Calls.mono (HK2.out _ _ h1) ?_; rintro _ w2 ⟨rfl, H2, h2⟩))
      have HX : Hid (App13 w0 W w2 F' b r L L2 (q + 1) (xs.map EntV.e)) := ⟨⟨G2, H2, HBk2.out h2⟩, HAp.out.2.1, HAp.out.2.2.1, HAp.out.2.2.2⟩
      clear s0 h1 h2 HK1 HK2 HQ hD3
      go_wp2
      go_roundw
      case rel => exact ⟨q + 1, L2, by go_num, by omega, HX⟩
      case measure => simp only [intOf]; omega
    · have hqq : q = s.n := by omega
      obtain ⟨G1, H1, hD⟩ := HQ.out.duo
      have hfin : L' = L.apps13 (xs.map EntV.e) := by
        rw [HQ.out.is, List.take_of_length_le]
        rw [List.length_map, HLn.out.1, hqq]
        exact Nat.le_refl _
      have HDf : Hid (Duo13 w0 wB wr F b G1 (L.apps13 (xs.map EntV.e)) r H1 (L.apps13 (xs.map EntV.e))) := by
        have h9 := HBk.out hD
        rw [hfin] at h9
        exact h9
      clear HQ hD hfin
      go_wp2
      go_ret
      exact ⟨rfl, G1, H1, HDf.out⟩
end
end Go.Proofs.Ytephoegcpjdglaa

namespace Go.Proofs.Ytephoegcpjdglaa
open Go.RowKit Go.Shelf
theorem LG.apps_grow13 : ∀ (l : List Ent10) (L : LG), (L.apps13 l).l.length ≤ L.l.length + l.length ∧ (L.apps13 l).end ≤ L.end + l.length
  | [], L => ⟨Nat.le_refl _, by show L.end ≤ L.end + ((0 : Nat) : Int); omega⟩
  | e :: l, L => by
    obtain ⟨h1, h2⟩ := LG.apps_grow13 l (L.app e).2
    have h3 := LG.app_len13 L e
    have h4 := LG.end_app L e
    have h5 : (L.apps13 (e :: l)) = (L.app e).2.apps13 l := rfl
    rw [h5]
    simp only [List.length_cons]
    omega
theorem LG.done_grow13 {L : LG} (hI : L.Inv) (a : ActV13) : (L.done13 a).l.length ≤ L.l.length + a.es.length ∧ ((L.done13 a).end ≤ L.end + a.es.length ∨ (L.done13 a).end ≤ 1099511627776) := by
  unfold LG.done13
  split
  · have h := LG.apps_grow13 (a.es.map EntV.e) L
    rw [List.length_map] at h
    exact ⟨h.1, .inl h.2⟩
  split
  · have h : Keep13 L (L.match_ a.n a.m (a.es.map EntV.e)).2 (a.es.map EntV.e).length := ⟨LG.keeps_match L _ _ _, LG.end_match _ _ _⟩
    have h1 := h.len
    have h2 := h.top
    rw [List.length_map] at h1 h2
    exact ⟨h1, .inl h2⟩
  split
  · unfold LG.restore
    split
    · rename_i hc
      refine ⟨Nat.zero_le _, .inr ?_⟩
      show a.n + (([] : List Ent10).length : Int) ≤ _
      simp only [List.length_nil]
      omega
    · exact ⟨Nat.le_add_right _ _, .inl (by omega)⟩
  · obtain ⟨h1, h2⟩ := LG.acted_keeps hI a.k a.n
    have h3 : Keep13 L (L.acted13 a.k a.n) 0 := ⟨h1, by rw [h2]; simp⟩
    have h4 := h3.len
    exact ⟨by omega, .inl (by omega)⟩
section
variable {w0 wB w w' : World} {F G H : Nat → Prop} {b r : Nat} {L : LG}
theorem actA_13 (h : Duo13 w0 wB w F b G L r H L) (a : ActV13) (hF : FitsA13 w0 a) (hl : L.l.length + a.w.n ≤ 1000000000) (htp : L.end + a.w.n ≤ 1125899906842624) :
    Calls Try.prog 9 #[.pointer (some ⟨b, 0, none⟩), .pointer (some ⟨r, 0, none⟩), .agg a.arr] w (Alike13 w0 wB F b r (L.done13 a)) := by
  by_cases h0 : a.k = 0
  · obtain ⟨k, n, m, s, es⟩ := a
    dsimp only at h0 hl htp
    subst h0
    exact act0_13 h n m s es hF.e hl htp
  by_cases h1 : a.k = 1
  · obtain ⟨k, n, m, s, es⟩ := a
    dsimp only at h1 hl htp
    subst h1
    exact act1_13 h n m hF.n s es hF.e (by omega) htp
  by_cases h6 : a.k = 6
  · obtain ⟨k, n, m, s, es⟩ := a
    dsimp only at h6
    subst h6
    exact act6_13 h n m hF.n s
  · have hd : L.done13 a = L.acted13 a.k a.n := by
      unfold LG.done13
      rw [if_neg h0, if_neg h1, if_neg h6]
    rw [hd]
    refine (actS_13 h (.inl rfl) a hF.n h0 h1 h6).mono ?_
    rintro e w' ⟨q, rfl, hq, G', H', hd'⟩
    exact ⟨by rw [hq rfl], G', H', hd'⟩
end
def tot13 : List ActV13 → Nat
  | [] => 0
  | a :: l => a.w.n + tot13 l
theorem tot_app13 : ∀ l m : List ActV13, tot13 (l ++ m) = tot13 l + tot13 m
  | [], m => by simp [tot13]
  | a :: l, m => by
    rw [List.cons_append, tot13, tot_app13 l m, tot13]
    omega
theorem tot_snoc13 {l : List ActV13} {j : Nat} (hj : j < l.length) : tot13 (l.take (j + 1)) = tot13 (l.take j) + (l.getD j noAV13).w.n := by
  rw [List.take_add_one, List.getElem?_eq_getElem hj, Option.toList_some, tot_app13, List.getD_eq_getElem?_getD, List.getElem?_eq_getElem hj, Option.getD_some]
  simp [tot13]
theorem tot_le13 (l : List ActV13) (j : Nat) : tot13 (l.take j) ≤ tot13 l := by
  have := tot_app13 (l.take j) (l.drop j)
  rw [List.take_append_drop] at this
  omega
structure St13 (w wB wr : World) (b r : Nat) (L : LG) (nn : Nat) : Prop where
  duo : ∃ G H, Duo13 w wB wr (fun _ => False) b G L r H L
  len : L.l.length ≤ 200 + nn
  top : L.end ≤ 1099511628000 + nn
theorem St13.below {w wB wr w' : World} {b r : Nat} {L : LG} {nn : Nat} (h : St13 w wB wr b r L nn) (hb : Below wr.heap.size wr w') : St13 w wB w' b r L nn := by
  obtain ⟨G, H, hd⟩ := h.duo
  exact ⟨⟨G, H, hd.below hb⟩, h.len, h.top⟩
theorem St13.bel {w wB wr : World} {b r : Nat} {L : LG} {nn : Nat} (h : St13 w wB wr b r L nn) : Below w.heap.size w wr := by
  obtain ⟨G, H, hd⟩ := h.duo
  exact hd.bel
theorem duo_new13 {w w5 w6 : World} {b r : Nat} {G H : Nat → Prop} {s : Sl10} {es : List EntV} {L : LG} (h : Lg13 w w5 b G L) (hb : Below w5.heap.size w5 w6) (h2 : RfG w w6 r H s es L) (hr : ∀ k, (k = r ∨ H k) → w5.heap.size ≤ k) : Duo13 w w6 w6 (fun _ => False) b G L r H L := by
  refine ⟨h.below hb, ⟨s, es, h2⟩, fun k hk hk2 => ?_, Nat.le_refl _, fun _ hk => hk.elim⟩
  have h3 := hr k hk2
  rcases hk with rfl | hk
  · have := h.lt; omega
  · have := (h.own k hk).2; omega
end Go.Proofs.Ytephoegcpjdglaa

namespace Go.Proofs.Ytephoegcpjdglaa
open Go.RowKit Go.Shelf
attribute [local go_sem ↓] ldE_exec stE_exec ldE_execI stE_execI ldE_run ldE_box ldC_exec stC_exec ldC_execI stC_execI ldC_run oc_int oc_bool oc_string oc_slice oc_pointer
theorem HasA13.get {W : World} {s : Sl10} {l : List ActV13} (h : HasA13 W s l) {j : Nat} (hj : j < s.n) : ∃ b o, s.p = some ⟨b, o, none⟩ ∧ b < W.heap.size ∧ (W.cell? ⟨b, o + j * 4, none⟩ = some (.int .i64 (l.getD j noAV13).k) ∧ W.cell? ⟨b, o + j * 4 + 1, none⟩ = some (.int .i64 (l.getD j noAV13).n) ∧ W.cell? ⟨b, o + j * 4 + 2, none⟩ = some (.int .i64 (l.getD j noAV13).m) ∧ W.cell? ⟨b, o + j * 4 + 3, none⟩ = some (.slice (l.getD j noAV13).w.p (l.getD j noAV13).w.n (l.getD j noAV13).w.c)) ∧ FitsA13 W (l.getD j noAV13) := by
  obtain ⟨b, o, hp, hlt, hc⟩ := h.at' (by omega)
  refine ⟨b, o, hp, hlt, ⟨hc j hj 0 (by decide), hc j hj 1 (by decide), hc j hj 2 (by decide), hc j hj 3 (by decide)⟩, h.all _ ?_⟩
  have hl : j < l.length := by rw [h.n]; exact hj
  rw [List.getD_eq_getElem?_getD, List.getElem?_eq_getElem hl]
  exact List.getElem_mem hl
theorem kz13a {w wA wB : World} {A B C : Prop} (h : A ∧ B ∧ C ∧ Below w.heap.size w wA) (hb : Below wA.heap.size wA wB) : Below w.heap.size w wB := h.2.2.2.trans (hb.mono h.2.2.2.size)
theorem len_ents13 {es : List EntV} {s : Sl10} {w : World} (h : HasE w s es) : (es.map EntV.e).length = s.n := by rw [List.length_map]; exact h.n
theorem ky13 {w wA : World} {A B C : Prop} (h : A ∧ B ∧ C ∧ Below w.heap.size w wA) : Below w.heap.size w wA := h.2.2.2
set_option maxRecDepth 100000 in
set_option maxHeartbeats 2000000 in
theorem rlogActs_walk (w : World) (x : BegV) (sa : Sl10) (xs : List ActV13) (hx : FitsB13 w x) (ha : HasA13 w sa xs) (hal : sa.n ≤ 140737488355328) :
    Calls Try.prog 3 #[.agg x.arr, .slice sa.p sa.n sa.c] w fun e w' => e = .returned (.bool true) ∧ Below w.heap.size w w' := by
  have hB1 : Below w.heap.size w (w.alloc (.cells x.arr 24)) := (Below.refl _ w).alloc (Nat.le_refl _) _
  have hbx := heap_alloc_new w (.cells x.arr 24)
  have b2 : (w.alloc (.cells x.arr 24)).cell? ⟨w.heap.size, 2, none⟩ = some (.slice x.w.p x.w.n x.w.c) := box_cell hbx 2
  have hlt := box_lt hbx
  have hx1 := hx.below hB1
  have kh := heavy13_any _ x.w x.es hx1.e (by have := hx1.l; omega)
  obtain ⟨hv, HV⟩ : ∃ r, Hid (heavy13 (x.es.map EntV.e) = r) := ⟨_, rfl⟩
  rw [HV.out] at kh
  have HB1 : Hid _ := hB1
  have HBX : Hid _ := hbx
  have HX : Hid (FitsB13 w x) := hx
  have HA : Hid (HasA13 w sa xs) := ha
  have HXs : Hid (xs.length = sa.n) := ha.n
  have hsa : sa.n ≤ sa.c := ha.c
  have HLv : Hid (∀ (W : World), Below w.heap.size w W → Calls Try.prog 6 #[] W fun e w' => e = .returned (.bool true) ∧ Below w.heap.size w w') := fun W hW => (lives13_any W).mono fun e w' ⟨a, b⟩ => ⟨a, hW.trans (b.mono hW.size)⟩
  clear hB1 hbx hx hx1 ha
  go_enter Try.func3, Try.ntmps3
  go_wp2_with fail
  generalize w.alloc (.cells x.arr 24) = W1 at *
  refine kh.mono ?_
  rintro _ w2 ⟨rfl, hb2⟩
  have HB2 : Hid (Below w.heap.size w w2) := HB1.out.trans (hb2.mono HB1.out.size)
  have HX2 : Hid _ := box_below HBX.out hb2
  clear kh b2 hlt hb2 HB1 HBX
  cases hv with
  | true =>
    go_wp2_with fail
    refine (HLv.out w2 HB2.out).mono ?_
    rintro _ w3 ⟨rfl, hb3⟩
    go_wp2
    go_ret
    exact ⟨rfl, hb3⟩
  | false =>
    by_cases h200 : 200 < sa.n
    · go_wp2_with fail
      refine (HLv.out w2 HB2.out).mono ?_
      rintro _ w3 ⟨rfl, hb3⟩
      go_wp2
      go_ret
      exact ⟨rfl, hb3⟩
    · have HS200 : Hid (sa.n ≤ 200) := by rw [Hid]; omega
      have HS0 : Hid (Below w.heap.size w w2 ∧ w2.heap[w.heap.size]? = some (.cells x.arr 24 (0, 0)) ∧ 0 = tot13 (xs.take 0) ∧ 0 ≤ 200 * 0) := ⟨HB2.out, HX2.out, by rw [List.take_zero]; rfl, Nat.zero_le _⟩
      go_wp2
      go_loopw [5, 23] (fun s5 s23 wr => ∃ (j nn : Nat), s5 = .int .i64 (nn : Nat) ∧ s23 = .int .i64 (j : Nat) ∧ j ≤ sa.n ∧ Hid (Below w.heap.size w wr ∧ wr.heap[w.heap.size]? = some (.cells x.arr 24 (0, 0)) ∧ nn = tot13 (xs.take j) ∧ nn ≤ 200 * j)) (fun _ s23 _ => sa.n - (intOf s23).toNat)
      case atStart => exact ⟨0, 0, rfl, rfl, Nat.zero_le _, HS0⟩
      case round =>
        obtain ⟨j, nn, rfl, rfl, hj, HR⟩ := hrel
        clear HS0
        by_cases hjn : j < sa.n
        · obtain ⟨ga, oa, hpa, hga, ⟨a0, a1, a2, a3⟩, -⟩ := (HA.out.below HR.out.1).get hjn
          obtain ⟨-, -, -, -, -, hFA⟩ := HA.out.get hjn
          have HTt : Hid (tot13 (xs.take (j + 1)) = tot13 (xs.take j) + (xs.getD j noAV13).w.n) := tot_snoc13 (by rw [HXs.out]; exact hjn)
          generalize xs.getD j noAV13 = a at *
          obtain ⟨k, n, m, sm, am⟩ := a
          dsimp only at a0 a1 a2 a3 HTt
          rw [hpa] at *
          have hbx := heap_alloc_new wr (.cells #[.int .i64 k, .int .i64 n, .int .i64 m, .slice sm.p sm.n sm.c] 29)
          have hB2 : Below wr.heap.size wr (wr.alloc (.cells #[.int .i64 k, .int .i64 n, .int .i64 m, .slice sm.p sm.n sm.c] 29)) := (Below.refl _ wr).alloc (Nat.le_refl _) _
          have HBw : Hid (Below w.heap.size w (wr.alloc (.cells #[.int .i64 k, .int .i64 n, .int .i64 m, .slice sm.p sm.n sm.c] 29))) := HR.out.1.trans (hB2.mono HR.out.1.size)
          have HXw : Hid _ := box_below HR.out.2.1 hB2
          have HBX : Hid _ := hbx
          have HFA : Hid (FitsA13 w ⟨k, n, m, sm, am⟩) := hFA
          have hlx := box_lt hbx
          have y3 : (wr.alloc (.cells #[.int .i64 k, .int .i64 n, .int .i64 m, .slice sm.p sm.n sm.c] 29)).cell? ⟨wr.heap.size, 3, none⟩ = some (.slice sm.p sm.n sm.c) := box_cell hbx 3
          have HNn : Hid (nn = tot13 (xs.take j) ∧ nn ≤ 200 * j) := HR.out.2.2
          clear hbx hB2 hFA HR
          go_upto_region 7 with fail
          generalize wr.alloc (.cells #[.int .i64 k, .int .i64 n, .int .i64 m, .slice sm.p sm.n sm.c] 29) = W2 at *
          generalize wr.heap.size = ab at *
          clear a0 a1 a2 a3
          have kh := heavy13_any W2 sm am (HFA.out.e.below HBw.out) (by have h1 : sm.n ≤ 837723144948 := HFA.out.l; omega)
          obtain ⟨hv2, HV2⟩ : ∃ r, Hid (heavy13 (am.map EntV.e) = r) := ⟨_, rfl⟩
          rw [HV2.out] at kh
          go_wp2_with fail
          refine kh.mono ?_
          rintro _ w5 ⟨rfl, hb5⟩
          have HB5 : Hid (Below w.heap.size w w5) := HBw.out.trans (hb5.mono HBw.out.size)
          have HX5 : Hid _ := box_below HXw.out hb5
          have y3' : w5.cell? ⟨ab, 3, none⟩ = some (.slice sm.p sm.n sm.c) := box_cell (box_below HBX.out hb5) 3
          have hlx5 := box_lt (box_below HBX.out hb5)
          clear kh hb5 y3 hlx HBX HBw HXw
          cases hv2 with
          | true =>
            go_wp2_with fail
            refine (HLv.out w5 HB5.out).mono ?_
            rintro _ w6 ⟨rfl, hb6⟩
            go_wp2
            go_ret
            exact ⟨rfl, hb6⟩
          | false =>
            have hsm : sm.n ≤ 200 := heavy_len13 HV2.out HFA.out.e
            have hw : IntKind.i64.wrap ((nn : Int) + (sm.n : Int)) = (nn : Int) + (sm.n : Int) := by
              have h1 := HNn.out.2
              have h2 := HS200.out
              rw [IntKind.wrap_i64]; omega
            have HN : Hid (Below w.heap.size w w5 ∧ w5.heap[w.heap.size]? = some (.cells x.arr 24 (0, 0)) ∧ nn + sm.n = tot13 (xs.take (j + 1)) ∧ nn + sm.n ≤ 200 * (j + 1)) := ⟨HB5.out, HX5.out, by rw [HTt.out, ← HNn.out.1], by have h1 := HNn.out.2; omega⟩
            clear HB5 HX5
            go_wp2
            go_roundw
            case rel => exact ⟨j + 1, nn + sm.n, by go_num, by go_num, by omega, HN⟩
            case measure => simp only [intOf]; omega
        · have hqq : j = sa.n := by omega
          have HNn : Hid (nn = tot13 xs) := by rw [Hid, HR.out.2.2.1, hqq, ← HXs.out, List.take_length]
          have HBr : Hid (Below w.heap.size w wr) := HR.out.1
          have HXr : Hid _ := HR.out.2.1
          clear HR hqq
          have hbw : Below w.heap.size w wr := HBr.out
          have HBr' : Hid (Below w.heap.size w wr) := hbw
          have HKn : Hid (∀ W, Below wr.heap.size wr W → Calls Try.prog 7 #[.int .i64 x.i, .int .i64 x.t, .slice x.w.p x.w.n x.w.c] W fun e w' => ∃ v, e = .returned v ∧ NewV13 W (new13 x.i x.t (x.es.map EntV.e)) v w') := fun W hW => newV13_any W x.i x.t x.w x.es (HX.out.below (HBr'.out.trans (hW.mono HBr'.out.size))).e HX.out.l HX.out.i
          have HKr : Hid (∀ W, Below wr.heap.size wr W → Calls Try.prog 8 #[.int .i64 x.i, .int .i64 x.t, .slice x.w.p x.w.n x.w.c] W fun e w' => ∃ v, e = .returned v ∧ RNew13 w W (new13 x.i x.t (x.es.map EntV.e)) v w') := fun W hW => rnew13_any (HBr'.out.trans (hW.mono HBr'.out.size)) x.i x.t (HX.out.e.below (HBr'.out.trans (hW.mono HBr'.out.size))) (fun e he => HX.out.e.all e he) HX.out.l HX.out.i
          have KS : ∀ W, Below wr.heap.size wr W → W.cell? ⟨w.heap.size, 0, none⟩ = some (.int .i64 x.i) ∧ W.cell? ⟨w.heap.size, 1, none⟩ = some (.int .i64 x.t) ∧ W.cell? ⟨w.heap.size, 2, none⟩ = some (.slice x.w.p x.w.n x.w.c) ∧ Below wr.heap.size wr W := fun W hW => ⟨box_cell (box_below HXr.out hW) 0, box_cell (box_below HXr.out hW) 1, box_cell (box_below HXr.out hW) 2, hW⟩
          have HKS : Hid _ := KS
          have s0 := KS _ (below_drew13 wr)
          clear KS hbw
          go_wp2_with fail
          go_region_held3 (fun w' => w'.cell? ⟨w.heap.size, 0, none⟩ = some (.int .i64 x.i) ∧ w'.cell? ⟨w.heap.size, 1, none⟩ = some (.int .i64 x.t) ∧ w'.cell? ⟨w.heap.size, 2, none⟩ = some (.slice x.w.p x.w.n x.w.c) ∧ Below wr.heap.size wr w')
            (first | exact s0 | assumption | exact HKS.out _ (kz13a (by assumption) (by assumption)))
            (first
              | (go_at_call 7; (with_reducible refine Calls.mono (HKn.out _ (ky13 (by assumption))) ?_); rintro e5 w5 ⟨v1, rfl, hN1⟩; have hb5 := hN1.bel)
              | (go_at_call 8; (with_reducible refine Calls.mono (HKr.out _ (ky13 (by assumption))) ?_); rintro e6 w6 ⟨v2, rfl, hN2⟩; have hb6 := hN2.bel))
          have HS6 : Hid (Below wr.heap.size wr w6) := ky13 (by assumption)
          have HB6 : Hid (Below w.heap.size w w6) := HBr'.out.trans (HS6.out.mono HBr'.out.size)
          clear s0 hb5 hb6 HKn HKr HKS
          cases ho : new13 x.i x.t (x.es.map EntV.e) with
          | none =>
            rw [ho] at hN1 hN2
            obtain rfl := hN1.no rfl
            obtain rfl := hN2.no rfl
            clear hN1 hN2
            go_wp2_with fail
            refine (HLv.out w6 HB6.out).mono ?_
            rintro _ w7 ⟨rfl, hb7⟩
            go_wp2
            go_ret
            exact ⟨rfl, hb7⟩
          | some L0 =>
            rw [ho] at hN1 hN2
            have hBd : Below w.heap.size w wr.drew := below_ad13 HBr'.out
            obtain ⟨b, rfl, -, hL⟩ := lgV13_new hBd hN1
            obtain ⟨r, rfl, hr, s, es, hRf⟩ := hN2.yes L0 rfl
            obtain ⟨hI0, hL0⟩ := new_inv13 ho
            have hi0 : x.i ≤ 1099511627776 := by
              unfold new13 at ho
              split at ho
              · rename_i hc; exact hc.2.1
              · cases ho
            have hz2 := heavy_len13 HV.out HX.out.e
            have hSt : St13 w w6 w6 b r L0 (tot13 (xs.take 0)) := by
              refine ⟨⟨_, _, duo_new13 hL hN2.bel hRf fun k hk => ?_⟩, ?_, ?_⟩
              · rcases hk with rfl | hk
                · exact hr
                · exact hk.1
              · rw [hL0]
                show (x.es.map EntV.e).length ≤ _
                rw [len_ents13 HX.out.e]; omega
              · have h1 : L0.ix = x.i := by rw [hL0]
                have h2 : L0.l.length = x.w.n := by rw [hL0]; exact len_ents13 HX.out.e
                unfold LG.end
                omega
            have HS : Hid (St13 w w6 w6 b r L0 (tot13 (xs.take 0))) := hSt
            clear hN1 hN2 hL hRf hI0 hL0 hi0 hz2 hSt hBd ho hr
            by_cases h300 : 300 < nn
            · go_wp2_with fail
              refine (HLv.out w6 HB6.out).mono ?_
              rintro _ w7 ⟨rfl, hb7⟩
              go_wp2
              go_ret
              exact ⟨rfl, hb7⟩
            · have hgo : ¬ (300 : Int) < (nn : Int) := by omega
              go_wp2
              go_loopw [65] (fun s65 wr => ∃ (j : Nat) (L' : LG), s65 = .int .i64 (j : Nat) ∧ j ≤ sa.n ∧ Hid (St13 w w6 wr b r L' (tot13 (xs.take j)))) (fun s65 _ => sa.n - (intOf s65).toNat)
              case atStart => exact ⟨0, L0, rfl, Nat.zero_le _, HS⟩
              case round =>
                obtain ⟨j, L', rfl, hj, HR⟩ := hrel
                clear HS
                by_cases hjn : j < sa.n
                · obtain ⟨ga, oa, hpa, hga, ⟨a0, a1, a2, a3⟩, -⟩ := (HA.out.below HR.out.bel).get hjn
                  obtain ⟨-, -, -, -, -, hFA⟩ := HA.out.get hjn
                  have HTt : Hid (tot13 (xs.take (j + 1)) = tot13 (xs.take j) + (xs.getD j noAV13).w.n) := tot_snoc13 (by rw [HXs.out]; exact hjn)
                  have HTl : Hid (tot13 (xs.take (j + 1)) ≤ 300) := by have h1 := tot_le13 xs (j + 1); have h2 := HNn.out; rw [Hid]; omega
                  generalize xs.getD j noAV13 = a at *
                  obtain ⟨k, n, m, sm, am⟩ := a
                  dsimp only at a0 a1 a2 a3 HTt
                  rw [hpa] at *
                  have hbx := heap_alloc_new wr (.cells #[.int .i64 k, .int .i64 n, .int .i64 m, .slice sm.p sm.n sm.c] 29)
                  have hB2 : Below wr.heap.size wr (wr.alloc (.cells #[.int .i64 k, .int .i64 n, .int .i64 m, .slice sm.p sm.n sm.c] 29)) := (Below.refl _ wr).alloc (Nat.le_refl _) _
                  have HR2 : Hid (St13 w w6 (wr.alloc (.cells #[.int .i64 k, .int .i64 n, .int .i64 m, .slice sm.p sm.n sm.c] 29)) b r L' (tot13 (xs.take j))) := HR.out.below hB2
                  have HFA : Hid (FitsA13 w ⟨k, n, m, sm, am⟩) := hFA
                  have hlx := box_lt hbx
                  have y0 : (wr.alloc (.cells #[.int .i64 k, .int .i64 n, .int .i64 m, .slice sm.p sm.n sm.c] 29)).cell? ⟨wr.heap.size, 0, none⟩ = some (.int .i64 k) := box_cell hbx 0
                  have y1 : (wr.alloc (.cells #[.int .i64 k, .int .i64 n, .int .i64 m, .slice sm.p sm.n sm.c] 29)).cell? ⟨wr.heap.size, 1, none⟩ = some (.int .i64 n) := box_cell hbx 1
                  have y2 : (wr.alloc (.cells #[.int .i64 k, .int .i64 n, .int .i64 m, .slice sm.p sm.n sm.c] 29)).cell? ⟨wr.heap.size, 2, none⟩ = some (.int .i64 m) := box_cell hbx 2
                  have y3 : (wr.alloc (.cells #[.int .i64 k, .int .i64 n, .int .i64 m, .slice sm.p sm.n sm.c] 29)).cell? ⟨wr.heap.size, 3, none⟩ = some (.slice sm.p sm.n sm.c) := box_cell hbx 3
                  clear hbx hB2 hFA HR
                  go_upto_region 19 with fail
                  generalize wr.alloc (.cells #[.int .i64 k, .int .i64 n, .int .i64 m, .slice sm.p sm.n sm.c] 29) = W2 at *
                  generalize wr.heap.size = ab at *
                  clear a0 a1 a2 a3
                  obtain ⟨G1, H1, hD⟩ := HR2.out.duo
                  have kA := actA_13 hD ⟨k, n, m, sm, am⟩ HFA.out (by have h1 := HR2.out.len; have h2 := HTt.out; have h3 := HTl.out; show L'.l.length + sm.n ≤ _; omega) (by have h1 := HR2.out.top; have h2 := HTt.out; have h3 := HTl.out; show L'.end + (sm.n : Int) ≤ _; omega)
                  have hgr := LG.done_grow13 hD.inv ⟨k, n, m, sm, am⟩
                  have HGr : Hid ((L'.done13 ⟨k, n, m, sm, am⟩).l.length ≤ 200 + tot13 (xs.take (j + 1)) ∧ (L'.done13 ⟨k, n, m, sm, am⟩).end ≤ 1099511628000 + (tot13 (xs.take (j + 1)) : Nat)) := by
                    have h1 := HR2.out.len
                    have h2 := HR2.out.top
                    have h3 := HTt.out
                    have h4 : am.length = sm.n := HFA.out.e.n
                    dsimp only at hgr
                    exact ⟨by omega, by omega⟩
                  generalize L'.done13 ⟨k, n, m, sm, am⟩ = L2 at *
                  unfold ActV13.arr at kA
                  dsimp only at kA
                  clear hD hgr
                  go_wp2_with fail
                  refine kA.mono ?_
                  rintro _ w8 ⟨rfl, G2, H2, hD8⟩
                  have kl := alike13_any hD8
                  clear kA hD8 y0 y1 y2 y3 hlx HR2
                  go_wp2_with fail
                  refine kl.mono ?_
                  rintro _ w9 ⟨rfl, hD9⟩
                  have HX9 : Hid (St13 w w6 w9 b r L2 (tot13 (xs.take (j + 1)))) := ⟨⟨G2, H2, hD9⟩, HGr.out.1, HGr.out.2⟩
                  clear kl hD9
                  go_wp2
                  go_roundw
                  case rel => exact ⟨j + 1, L2, by go_num, by omega, HX9⟩
                  case measure => simp only [intOf]; omega
                · have hB8 := HR.out.bel
                  clear HR
                  go_wp2_with fail
                  refine (HLv.out wr hB8).mono ?_
                  rintro _ w9 ⟨rfl, hb9⟩
                  go_wp2
                  go_ret
                  exact ⟨rfl, hb9⟩
theorem rlogActs_row (w : World) (x : BegV) (sa : Sl10) (xs : List ActV13) (hx : FitsB13 w x) (ha : HasA13 w sa xs) (hal : sa.n ≤ 140737488355328) :
    Calls Try.prog 3 #[.agg x.arr, .slice sa.p sa.n sa.c] w fun e w' => e = .returned (.bool true) ∧ Below w.heap.size w w' := rlogActs_walk w x sa xs hx ha hal
end Go.Proofs.Ytephoegcpjdglaa

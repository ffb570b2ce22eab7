import Derived.Test.YthlghokgknkpaaaGreatDoorRM6To
import Derived.Test.YthlghokgknkpaaaGreatDoorSwB3To
import Derived.Test.YthlghokgknkpaaaGreatDoorImVTo
import Derived.Test.YthlghokgknkpaaaGreatDoorRM4To
import Derived.Test.YthlghokgknkpaaaGreatDoorSip3To
import Derived.Test.YthlghokgknkpaaaGreatDoorImFTo
/-
  Contracts: corbelref05's Put.
-/
namespace Go.Proofs.YthlghokgknkpaaaGreatDoor
open Go.RowKit Go.Shelf

set_option maxRecDepth 100000 in
set_option maxHeartbeats 4000000 in
theorem rput_any (b bw bs : Nat) (M : SM) (key : ByteArray) (sv : ByteArray) (w : World) (_h0 : 0 < w.heap.size) (h : Lies 63 76 w b bw bs M) (hS : M.Sane IsV_s) (hk : key.size < 140737488355328) :
    Calls Tryz.prog 11 #[.pointer (some ⟨b, 0, none⟩), .string key, .string sv] w fun e w' => e = .returned (.tuple #[.bool (M.put key (.string sv) (.string ⟨#[]⟩)).1, .int .i64 ((M.put key (.string sv) (.string ⟨#[]⟩)).2.1 : Nat)]) ∧
      ∃ bw' bs', Lies 63 76 w' b bw' bs' (M.put key (.string sv) (.string ⟨#[]⟩)).2.2 ∧ But [b, bw, bs] w w' ∧ (bw' = bw ∨ w.heap.size ≤ bw') ∧ (bs' = bs ∨ w.heap.size ≤ bs') := by
  have hF := hS.fit
  have hr := good_range hF.good
  have hfew := hF.few
  have hlt := h.lt
  obtain ⟨cw, cs, c0, c1, c2, c3, c4, c5, hcw, hcs⟩ := h.cells
  have hfind := rfind_any b bw bs M key w h hF hk
  cases hfd : M.find key with
  | some p =>
    obtain ⟨hp1, _, _, _⟩ := find_some hF hfd
    have hput : M.put key (.string sv) (.string ⟨#[]⟩) = (true, 0, { M with ss := M.ss.set p ((M.s p).1, .string sv) }) := by unfold SM.put; rw [hfd]
    rw [hput]
    rw [hfd] at hfind
    clear hput hfd
    go_enter Tryz.func11, Tryz.ntmps11
    go_wp2_with fail
    refine hfind.mono ?_
    rintro e w1 ⟨rfl, hb⟩
    have hl := h.below hb (Nat.le_refl _)
    obtain ⟨dw, ds, _, _, _, k3, _, _, _, hds⟩ := hl.cells
    have kv := hl.val p hp1
    have fv := hl.freeS (p * 2 + 1)
    have hp2 : (p : Int) < M.ss.length := by omega
    have hp3 : (0 : Int) ≤ (p : Int) := by omega
    have hset := hl.setV p (.string sv) hp1
    clear c0 c1 c2 c3 c4 c5
    go_wp2
    go_ret2
    exact ⟨rfl, bw, bs, hset, (But.of_below hb (Nat.le_refl _)).setCell (p := ⟨bs, p * 2 + 1, none⟩) (.inl (by simp)) _, .inl rfl, .inl rfl⟩
  | none =>
    rw [hfd] at hfind
    by_cases hfull : 2000 ≤ M.n
    · have hput : M.put key (.string sv) (.string ⟨#[]⟩) = (false, 7, M) := by unfold SM.put; rw [hfd]; simp only; rw [if_pos hfull]
      rw [hput]
      clear hput hfd
      go_enter Tryz.func11, Tryz.ntmps11
      go_wp2_with fail
      refine hfind.mono ?_
      rintro e w1 ⟨rfl, hb⟩
      have hl := h.below hb (Nat.le_refl _)
      obtain ⟨dw, ds, _, _, _, _, k4, _, _, _⟩ := hl.cells
      clear c0 c1 c2 c3 c4 c5
      go_wp2
      go_ret2
      exact ⟨rfl, bw, bs, hl, But.of_below hb (Nat.le_refl _), .inl rfl, .inl rfl⟩
    · by_cases hroom : 7 * M.ws.length ≤ M.n + M.t
      · have hput : M.put key (.string sv) (.string ⟨#[]⟩) = (false, 0, (M.rehash (.string ⟨#[]⟩)).place key (.string sv)) := by unfold SM.put; rw [hfd]; simp only; rw [if_neg hfull, if_pos hroom]
        rw [hput]
        have hg := hS.room hroom (by omega)
        obtain ⟨f1, f2, f3⟩ := rehash_fit hF hg (.string ⟨#[]⟩)
        clear hput hfd
        go_enter Tryz.func11, Tryz.ntmps11
        go_wp2_with fail
        refine hfind.mono ?_
        rintro e w1 ⟨rfl, hb⟩
        have hl := h.below hb (Nat.le_refl _)
        obtain ⟨dw, ds, _, _, k2, _, k4, k5, _, _⟩ := hl.cells
        have hz := hb.size
        clear c0 c1 c2 c3 c4 c5
        have hi1 : 7 * (M.ws.length : Int) ≤ M.n + M.t := by omega
        have hi2 : ¬ 2000 ≤ (M.n : Int) := by omega
        go_wp2
        go_quiet (fail)
        go_wp2_with fail
        refine (rrehash_any b bw bs M (w1.drewN nq) (by show 0 < w1.heap.size; have := hb.size; omega) (hl.drewN nq) hF hS.typed hg).mono ?_
        rintro e w2 ⟨⟨u, rfl⟩, bw', bs', hl2, g1, g2, hb2⟩
        go_wp2_with fail
        refine (rlay_any b bw' bs' (M.rehash (.string ⟨#[]⟩)) key sv w2 hl2 f1 hk (fun g i hg hi he => absurd he (f2 g i hg hi))).mono ?_
        rintro e w3 ⟨⟨u, rfl⟩, hl3, hb3⟩
        go_wp2
        go_ret2
        have g1' : w.heap.size ≤ bw' := Nat.le_trans hz g1
        have g2' : w.heap.size ≤ bs' := Nat.le_trans hz g2
        have hbb : But [b, bw, bs] w w2 := ((But.of_below hb (Nat.le_refl _)).drewN nq).wide hb2 (by simp)
        exact ⟨rfl, bw', bs', hl3, hbb.wide hb3 (by simp; omega), .inr g1', .inr g2'⟩
      · have hput : M.put key (.string sv) (.string ⟨#[]⟩) = (false, 0, M.place key (.string sv)) := by unfold SM.put; rw [hfd]; simp only; rw [if_neg hfull, if_neg hroom]
        rw [hput]
        clear hput hfd
        go_enter Tryz.func11, Tryz.ntmps11
        go_wp2_with fail
        refine hfind.mono ?_
        rintro e w1 ⟨rfl, hb⟩
        have hl := h.below hb (Nat.le_refl _)
        obtain ⟨dw, ds, _, _, k2, _, k4, k5, _, _⟩ := hl.cells
        clear c0 c1 c2 c3 c4 c5
        have hi1 : ¬ 7 * (M.ws.length : Int) ≤ M.n + M.t := by omega
        have hi2 : ¬ 2000 ≤ (M.n : Int) := by omega
        go_wp2
        go_quiet (fail)
        go_wp2_with fail
        refine (rlay_any b bw bs M key sv (w1.drewN nq) (hl.drewN nq) hF hk hS.tombs).mono ?_
        rintro e w3 ⟨⟨u, rfl⟩, hl3, hb3⟩
        go_wp2
        go_ret2
        exact ⟨rfl, bw, bs, hl3, ((But.of_below hb (Nat.le_refl _)).drewN nq).trans hb3, .inl rfl, .inl rfl⟩
end Go.Proofs.YthlghokgknkpaaaGreatDoor

/-
  The document's map alone; contract: corbelref07.Import.
-/
namespace Go.Proofs.YthlghokgknkpaaaGreatDoor
open Go.RowKit Go.Shelf Go.Lib

/-- The document's map at b is M, and is the call's own. -/
def One8 (w wr : World) (b c : Nat) (M : SM) : Prop :=
  (∃ bw bs, Lies 63 76 wr b bw bs M ∧ w.heap.size ≤ b ∧ w.heap.size ≤ bw ∧ w.heap.size ≤ bs) ∧ Fine c M ∧ Below w.heap.size w wr
theorem One8.bel {w wr : World} {b c : Nat} {M : SM} (h : One8 w wr b c M) : Below w.heap.size w wr := h.2.2
theorem One8.below {w wr w' : World} {b c : Nat} {M : SM} (h : One8 w wr b c M) (hb : Below wr.heap.size wr w') : One8 w w' b c M := by
  obtain ⟨⟨bw, bs, h1, h2⟩, h3, h4⟩ := h
  exact ⟨⟨bw, bs, h1.below hb (Nat.le_refl _), h2⟩, h3, h4.trans (hb.mono h4.size)⟩
theorem One8.put {w wr : World} {b c : Nat} {M : SM} (h : One8 w wr b c M) (hw0 : 0 < w.heap.size) (hc : c < 2000) (p : ByteArray × ByteArray) (hp : p.1.size ≤ 131072 ∧ p.2.size ≤ 131072) :
    Calls Tryz.prog 11 #[.pointer (some ⟨b, 0, none⟩), .string p.1, .string p.2] wr fun e w' => (∃ x y, e = .returned (.tuple #[.bool x, .int .i64 y])) ∧ One8 w w' b (c + 1) (putP M p) ∧ Kinds [63, 22, 76] wr w' := by
  obtain ⟨⟨bw, bs, h1, g1, g2, g3⟩, h4, h6⟩ := h
  refine (rput_any b bw bs M p.1 p.2 wr (by have := h6.size; omega) h1 (sane_of_inv h4.inv) (by omega)).mono ?_
  rintro e w' ⟨rfl, bw', bs', f1, f2, f3, f4⟩
  have := h6.size
  exact ⟨⟨_, _, rfl⟩, ⟨⟨bw', bs', f1, g1, by omega, by omega⟩, fine_putP h4 hc p hp, h6.trans (f2.below (by simp; omega) h6.size)⟩, Kinds.of h1 f2⟩

set_option maxRecDepth 100000 in
set_option maxHeartbeats 1500000 in
theorem rimport_any (v : Value) (xs : List Int) (k0 k1 : Int) (w : World) (hw0 : 0 < w.heap.size) (hv : Has w v xs) (hB : IsB xs) (hl : xs.length ≤ 1099511627776) (hs : rdOk xs = true → ∀ p ∈ (rdE xs).1, p.1.size ≤ 131072 ∧ p.2.size ≤ 131072) :
    Calls Tryz.prog 24 #[v, .int .u64 k0, .int .u64 k1] w fun e w' =>
      (rdOk xs = false ∧ e = .returned (.tuple #[.pointer none, .int .i64 8]) ∧ Below w.heap.size w w') ∨
      (rdOk xs = true ∧ ∃ b, e = .returned (.tuple #[.pointer (some ⟨b, 0, none⟩), .int .i64 0]) ∧ One8 w w' b (rdE xs).1.length (putL (SM.empty k0 k1 (.string ⟨#[]⟩) (needI ((rdE xs).1.length : Int)).toNat) (rdE xs).1)) := by
  have hel := rdE_len xs
  have hrd := rread_any v xs w hv hB hl
  obtain ⟨pb, cb, hvb, -, -, -⟩ := id hv
  generalize hnb : xs.length = nb at hvb
  subst hvb
  clear hnb hv
  generalize (rdE xs).1 = l at *
  obtain ⟨hne, hgd⟩ := need7 l.length hel
  go_enter Tryz.func24, Tryz.ntmps24
  go_wp2_with fail
  refine hrd.mono ?_
  rintro e w1 (⟨hok, rfl, hB1⟩ | ⟨hok, pv, rfl, ho1, hB1⟩)
  · clear hrd
    go_wp2
    go_ret2
    exact .inl ⟨hok, rfl, hB1⟩
  · have hb1z := hB1.size
    have Hs : Hid (∀ p ∈ l, p.1.size ≤ 131072 ∧ p.2.size ≤ 131072) := hs hok
    obtain ⟨pp, cp, rfl, -, -, -⟩ := id ho1.has
    have hnew := rnew_any k0 k1 (l.length : Int) w1 (by omega) (by omega) (by omega) hne
    clear hrd hs
    have Hok : Hid (rdOk xs = true) := hok
    clear hok
    generalize hG : (needI (l.length : Int)).toNat = g at *
    have HG : Hid ((needI (l.length : Int)).toNat = g) := hG
    clear hG
    generalize hN : l.length = N at *
    have HN : Hid (l.length = N) := hN
    clear hN
    have HX : Hid (RowP w1 (.slice pp N cp) l) := RowP.of_owns ho1
    clear ho1
    go_wp2_with fail
    refine hnew.mono ?_
    rintro e w2 ⟨b, bw, bs, rfl, hl2, g1, g2, g3, hb2⟩
    have h2 : One8 w w2 b 0 (SM.empty k0 k1 (.string ⟨#[]⟩) g) := ⟨⟨bw, bs, hl2, by omega, by omega, by omega⟩, fine_empty k0 k1 g hgd, hB1.trans (hb2.mono hb1z)⟩
    have hX2 := HX.out.below hb2
    clear hnew hl2 g1 g2 g3 HX
    generalize hM : SM.empty k0 k1 (.string ⟨#[]⟩) g = M0 at *
    have HM : Hid (SM.empty k0 k1 (.string ⟨#[]⟩) g = M0) := hM
    clear hM
    go_wp2
    go_loopw [28] (fun i wr => ∃ j : Nat, j ≤ N ∧ i = .int .i64 (j : Nat) ∧ One8 w wr b j (putL M0 (l.take j)) ∧ RowP wr (.slice pp N cp) l) (fun i _ => N - (intOf i).toNat)
    case atStart => exact ⟨0, Nat.zero_le _, rfl, by rw [List.take_zero]; exact h2, hX2⟩
    case round =>
      clear h2 hX2
      obtain ⟨j, hj, rfl, hD, hX⟩ := hrel
      by_cases hlt : j < N
      · obtain ⟨bb, oo, rfl, hbb, hcc, -, c1, c2⟩ := hX.has.at (j := j) hlt
        have hjx : j < l.length := by rw [HN.out]; exact hlt
        have Ht : Hid (l.take j ++ [l.getD j default] = l.take (j + 1)) := ptake_snoc hjx
        have hsz := Hs.out _ (pgetD_mem hjx)
        clear hjx
        generalize l.getD j default = x at *
        have hba : Below wr.heap.size wr (wr.alloc (.cells #[.string x.1, .string x.2] 35)) := (Below.refl _ _).alloc (Nat.le_refl _) _
        have hput := (hD.below hba).put hw0 (by omega) x hsz
        have hX' := hX.below hba
        go_wp2_with fail
        generalize wr.alloc (.cells #[.string x.1, .string x.2] 35) = wa at *
        refine hput.mono ?_
        rintro e w3 ⟨⟨y1, y2, rfl⟩, hD3, hk3⟩
        have hX3 := hX'.kinds hk3 (by decide)
        clear hput hD hX hX' hba c1 c2
        go_wp2
        go_roundw
        case rel => exact ⟨j + 1, by omega, by go_num, by rw [← Ht.out, putL_snoc]; exact hD3, hX3⟩
        case measure => simp only [intOf]; omega
      · obtain rfl : j = N := by omega
        rw [show l.take j = l by rw [← HN.out, List.take_length]] at hD
        clear hX
        go_wp2
        go_ret2
        refine .inr ⟨Hok.out, b, rfl, ?_⟩
        rw [HN.out]
        have hg9 := HG.out
        rw [hg9, HM.out]
        exact hD
end Go.Proofs.YthlghokgknkpaaaGreatDoor

/-
  The walk of corbellaw07.lives: the document's example.
-/
namespace Go.Proofs.YthlghokgknkpaaaGreatDoor
open Go.RowKit Go.Shelf Go.Lib

set_option maxRecDepth 100000 in
set_option maxHeartbeats 4000000 in
theorem lives7_any (w : World) (hT : Tab w) : Calls Tryz.prog 9 #[] w fun e w' => e = .returned (.bool true) ∧ Below w.heap.size w w' := by
  have hw0 := hT.1
  have hnew := new_any_s 0 0 0 w (by omega) (by omega) (by decide)
  rw [show (needI 0).toNat = 1 by decide] at hnew
  have heq : ∀ (a b : ByteArray × ByteArray) (W : World), Sem.run Tryz.prog (binOp .eql 35 (.agg #[.string a.1, .string a.2]) (.agg #[.string b.1, .string b.2])) W = .ok (.bool (decide (a = b))) W := eqlP.1
  have hgd : ∀ (op : BinOp) (o1 o2 : Operand) (a b : ByteArray × ByteArray) (W : World), Sem.run Tryz.prog (eqGuard op 35 o1 o2 (.agg #[.string a.1, .string a.2]) (.agg #[.string b.1, .string b.2])) W = .ok () W := eqlP.2
  have heq1 := fun W => heq (⟨#[97]⟩, ⟨#[49]⟩) (⟨#[97]⟩, ⟨#[49]⟩) W
  have hgd1 := fun op o1 o2 W => hgd op o1 o2 (⟨#[97]⟩, ⟨#[49]⟩) (⟨#[97]⟩, ⟨#[49]⟩) W
  rw [decide_eq_true rfl] at heq1
  dsimp only at heq1 hgd1
  clear heq hgd
  go_enter Tryz.func9, Tryz.ntmps9
  go_wp2_with fail
  refine hnew.mono ?_
  rintro e w1 ⟨b, bw, bs, rfl, hl1, g1, g2, g3, hb1⟩
  have h1 := one7_new (Below.refl _ w) hl1 (by decide) g1 g2 g3 hb1
  have hp1 := h1.put hT (by omega) (⟨#[98]⟩, ⟨#[50]⟩) (by exact ⟨by show 1 ≤ _; omega, by show 1 ≤ _; omega⟩)
  clear hnew hl1 g1 g2 g3 hb1
  go_wp2_with fail
  refine hp1.mono ?_
  rintro e w2 ⟨⟨x1, y1, rfl⟩, h2, -⟩
  have hp2 := h2.put hT (by omega) (⟨#[97]⟩, ⟨#[49]⟩) (by exact ⟨by show 1 ≤ _; omega, by show 1 ≤ _; omega⟩)
  clear hp1
  go_wp2_with fail
  refine hp2.mono ?_
  rintro e w3 ⟨⟨x2, y2, rfl⟩, h3, -⟩
  clear hp2 h1 h2
  have hr := h3.range hT (by omega) ⟨#[97]⟩ ⟨#[]⟩ 1 (by omega)
  rw [live_put, live_cut] at hr
  go_wp2_with fail
  refine hr.mono ?_
  rintro e w4 ⟨v4, rfl, ho4, hb4⟩
  have h4 := h3.below hb4
  have hx := h4.exp hT (by omega)
  rw [live_put, live_exp] at hx
  obtain ⟨p4, c4, rfl, -, -, -⟩ := id ho4.has
  clear hr h3
  go_wp2_with fail
  refine hx.mono ?_
  rintro e w5 ⟨v5, rfl, ho5, hb5⟩
  have h5 := h4.below hb5
  have ho45 := ho4.below hb5 (Nat.le_refl _)
  clear hx h4 ho4
  have hlit := Has.lit w5 [2, 1, 97, 1, 49, 1, 98, 1, 50] 5
  have hba : Below w5.heap.size w5 (w5.alloc (.cells ([2, 1, 97, 1, 49, 1, 98, 1, 50].map (Value.int .u8)).toArray 5)) := (Below.refl _ _).alloc (Nat.le_refl _) _
  have hsm := same_any v5 _ _ _ _ (ho5.has.below hba (Nat.le_refl _)) hlit live_isB live_isB
  have h6 := h5.below hba
  have ho46 := ho45.below hba (Nat.le_refl _)
  simp only [List.length_cons, List.length_nil, Nat.reduceAdd, List.map_cons, List.map_nil] at hsm h6 hba ho46
  rw [show (([2, 1, 97, 1, 49, 1, 98, 1, 50] : List Int) == [2, 1, 97, 1, 49, 1, 98, 1, 50]) = true by decide] at hsm
  clear hlit ho5 ho45
  go_wp2_with fail
  generalize w5.alloc _ = w6 at *
  refine same_mono hsm ?_
  obtain ⟨bb, oo, rfl, hbb, hcc, -, c1, c2⟩ := ho46.has.at (j := 0) (by simp)
  simp only [Nat.zero_mul, Nat.add_zero, List.getD_cons_zero] at c1 c2
  clear hsm ho46
  obtain ⟨⟨bw6, bs6, hl6, -⟩, hf6, -⟩ := id h6
  have hcp := copy_any_s b bw6 bs6 _ w6 hl6 hf6.inv.fit hf6.inv.typed
  go_wp2_with fail
  refine hcp.mono ?_
  rintro e w7 ⟨d, dw, ds, rfl, hl7, f1, f2, f3, hb7⟩
  have h7 := h6.more hl7 hf6 f1 f2 f3 hb7
  have hsame := h7.one.same h7.swap.one hT (by omega) (by omega)
  rw [decide_eq_true rfl] at hsame
  clear hcp hl6 hf6 hl7 f1 f2 f3 c1 c2
  go_wp2_with fail
  refine hsame.mono ?_
  rintro e w8 ⟨rfl, hb8⟩
  go_wp2
  go_ret
  exact ⟨rfl, h7.bel.trans (hb8.mono h7.bel.size)⟩
end Go.Proofs.YthlghokgknkpaaaGreatDoor

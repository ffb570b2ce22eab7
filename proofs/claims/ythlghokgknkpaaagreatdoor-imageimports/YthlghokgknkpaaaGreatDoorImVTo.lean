import Derived.Test.YthlghokgknkpaaaGreatDoorImFTo
import Derived.BigQuiet
import Derived.Test.YthlghokgknkpaaaGreatDoorImXTo
/-
  Contracts: image.rise, image.read, image.Import.
-/
namespace Go.Proofs.YthlghokgknkpaaaGreatDoor
open Go.RowKit Go.Shelf Go.Lib

theorem riseB_take {l : List (ByteArray × ByteArray)} {i : Nat} (h1 : 1 ≤ i) (hi : i < l.length) (hr : Rise (l.take i)) : Rise (l.take (i + 1)) ↔ ltT (l.getD (i - 1) default).1 (l.getD i default).1 = true := by
  have e1 : l.take i = l.take (i - 1) ++ [l.getD (i - 1) default] := by
    have := ptake_snoc (l := l) (i := i - 1) (by omega)
    rw [show i - 1 + 1 = i by omega] at this
    exact this.symm
  rw [← ptake_snoc hi, e1, rise_snoc, ← e1]
  exact ⟨fun h => h.2, fun h => ⟨hr, h⟩⟩

set_option maxRecDepth 100000 in
set_option maxHeartbeats 1500000 in
theorem rise_any (v : Value) (l : List (ByteArray × ByteArray)) (w : World) (hx : HasP w v l) (hl : l.length ≤ 1099511627776) :
    Calls Tryz.prog 93 #[v] w fun e w' => e = .returned (.bool (riseB l)) ∧ Below w.heap.size w w' := by
  obtain ⟨p, c, rfl, -, -, -⟩ := id hx
  have hmix : Tryz.prog.follows Departure.mixedOrders = true := by kernel_rfl
  have HX : Hid (HasP w (.slice p l.length c) l) := hx
  clear hx
  generalize hN : l.length = N at *
  have HN : Hid (l.length = N) := hN
  clear hN
  go_enter Tryz.func93, Tryz.ntmps93
  go_wp2
  go_loopg [3] N (fun g s3 wr => ∃ i q : Nat, 1 ≤ i ∧ (i ≤ N ∨ i = 1) ∧ N - i ≤ g ∧ s3 = .int .i64 (i : Nat) ∧ wr = w.drewN q ∧ Hid (Rise (l.take i)))
  case atStart =>
    refine ⟨1, 0, Nat.le_refl _, .inr rfl, by omega, rfl, rfl, ?_⟩
    show Rise _
    match l with
    | [] => exact Rise.nil
    | a :: l => rw [List.take_succ_cons, List.take_zero]; exact List.pairwise_singleton _ _
  case round =>
    obtain ⟨i, q, hi1, hiN, hg, rfl, rfl, hr⟩ := hrel
    by_cases hlt : i < N
    · obtain ⟨b1, o1, rfl, hb1, hc1, -, k1, -⟩ := HX.out.at (j := i) hlt
      obtain ⟨b2, o2, e2, -, -, -, k2, -⟩ := HX.out.at (j := i - 1) (by omega)
      cases e2
      have hT := riseB_take hi1 (by rw [HN.out]; exact hlt) hr.out
      have HT : Hid (Rise (l.take (i + 1)) ↔ ltT (l.getD (i - 1) default).1 (l.getD i default).1 = true) := hT
      clear hT
      generalize l.getD i default = x at *
      generalize l.getD (i - 1) default = y at *
      obtain ⟨xk, xv⟩ := x
      obtain ⟨yk, yv⟩ := y
      dsimp only at k1 k2
      have g1 : (w.drewN q).cell? ⟨b1, o1 + i * 2, none⟩ = some (.string xk) := k1
      have g2 : (w.drewN q).cell? ⟨b1, o1 + (i - 1) * 2, none⟩ = some (.string yk) := k2
      clear k1 k2
      have hi2 : (((i : Int) - 1)).toNat = i - 1 := by omega
      have hi3 : (i : Int) - 1 < (N : Int) := by omega
      have hi4 : (0 : Int) ≤ (i : Int) - 1 := by omega
      generalize hwq : w.drewN q = wq at g1 g2 ⊢
      have HW : Hid (w.drewN q = wq) := hwq
      clear hwq
      cases hyx : ltT yk xk with
      | true =>
        have hA : Op.bytesLess xk.toList yk.toList = false := ltT_asymm hyx
        have hB : (xk.toList == yk.toList) = false := by rw [toList_beq, decide_eq_false (fun e => ltT_ne hyx e.symm)]
        have HT2 : Hid (Rise (l.take (i + 1))) := HT.out.2 hyx
        clear hyx
        go_wp2_with fail
        go_big_quiet (fail)
        go_wp2
        go_roundg (N - (i + 1))
        case measure => omega
        case rel => exact ⟨i + 1, q + nq, by omega, .inl (by omega), Nat.le_refl _, by go_num, by rw [← HW.out, World.drewN_drewN], HT2⟩
      | false =>
        have HT2 : Hid (riseB l = false) := by
          show _ = _
          cases hb : riseB l with
          | false => rfl
          | true =>
            have := HT.out.1 (((riseB_iff l).1 hb).take _)
            rw [show ltT yk xk = false from hyx] at this
            cases this
        have hAB : (Op.bytesLess xk.toList yk.toList = true) ∨ (Op.bytesLess xk.toList yk.toList = false ∧ xk = yk) := by
          cases h : ltT xk yk with
          | true => exact .inl h
          | false => exact .inr ⟨h, ltT_tri h hyx⟩
        clear hyx HT
        rcases hAB with hA | ⟨hA, rfl⟩
        all_goals
          go_wp2_with fail
          go_big_quiet (fail)
          go_wp2
          go_ret
          rw [HT2.out]
          exact ⟨rfl, by rw [← HW.out, World.drewN_drewN]; exact below_drewN (Below.refl _ _) _⟩
    · have HT2 : Hid (riseB l = true) := by
        refine (riseB_iff l).2 ?_
        have := hr.out
        rwa [List.take_of_length_le (by rw [HN.out]; omega)] at this
      go_wp2
      go_ret
      rw [HT2.out]
      exact ⟨rfl, below_drewN (Below.refl _ _) _⟩

theorem need7 (n : Nat) (h : n ≤ 2000) : needI (n : Int) ≠ 0 ∧ isGood (((needI (n : Int)).toNat : Nat) : Int) = true := by
  have h0 : needI (n : Int) ≠ 0 ∧ 0 ≤ needI (n : Int) := by
    unfold needI
    repeat' split
    all_goals omega
  refine ⟨h0.1, ?_⟩
  rw [Int.toNat_of_nonneg h0.2]
  exact (need_good n).resolve_left h0.1
theorem frozen7 {W : World} {k : Nat} {c : Array Value} {t : TypeId} (h : W.heap[k]? = some (.cells c t (0, 0))) (j : Nat) : W.frozen? ⟨k, j, none⟩ = false := by simp [World.frozen?, h]
/-- An append to a row of pairs that lies behind block K: what lies ahead of K is as it was. -/
theorem OwnsP.kept7 {w w' : World} {B r : Nat} {v : Value} {l : List (ByteArray × ByteArray)} (h : OwnsP w B v l) (hg : w.grownBy w' (some r)) (hr : r < B) : OwnsP w' B v l := by
  refine World.ownsRow.kept h hg ?_
  cases hv : v.ownBlock with
  | none => exact .inl rfl
  | some k =>
    have := (World.ownsRow.lt h k hv).1
    exact .inr (fun e => by cases e; omega)

set_option maxRecDepth 100000 in
set_option maxHeartbeats 1500000 in
theorem read_any (v : Value) (xs : List Int) (w : World) (hv : Has w v xs) (hB : IsB xs) (hl : xs.length ≤ 1099511627776) :
    Calls Tryz.prog 58 #[v] w fun e w' => ∃ pv, e = .returned (.tuple #[pv, .bool (rdOk xs)]) ∧ OwnsP w' w.heap.size pv (rdE xs).1 ∧ Below w.heap.size w w' := by
  obtain ⟨i1, hi1, hz1, hs1, hb1⟩ := info_parts infoP
  obtain ⟨pb, cb, hvb, -, -, -⟩ := id hv
  generalize hnb : xs.length = nb at hvb
  subst hvb
  clear hnb
  have hbox := heap_alloc_new w (.cells #[.slice pb nb cb, .bool false] 129)
  have hBA : Below w.heap.size w (w.alloc (.cells #[.slice pb nb cb, .bool false] 129)) := (Below.refl _ _).alloc (Nat.le_refl _) _
  have hz0 : (w.alloc (.cells #[.slice pb nb cb, .bool false] 129)).heap.size = w.heap.size + 1 := by simp
  have hmf : ∀ (fn : Fn) (first cap : Array Value) (w : World), (Instr.makeFunc fn first cap).run Tryz.prog w = .ok (.func fn first cap) w := fun _ _ _ _ => rfl
  have hR : Rd (w.alloc (.cells #[.slice pb nb cb, .bool false] 129)) w.heap.size w.heap.size (.slice pb nb cb) xs false :=
    ⟨by simp, Nat.le_refl _, by unfold World.cell?; dsimp only; rw [hbox]; rfl, by unfold World.cell?; dsimp only; rw [hbox]; rfl, frozen7 hbox 0, frozen7 hbox 1, hv.inn.below hBA (Nat.le_refl _)⟩
  have hcnt := count_any 2000 _ _ _ (.slice pb nb cb) xs false hR hB hl (by omega)
  rw [show srcS xs false = xs from rfl] at hcnt
  have hrc := rdC_le xs
  have hbd := countS_bd 2000 xs
  have HI := inv_rd0 xs
  have HL := rd0_length xs
  have HBy := rd0_isB hB
  rw [← hrc.2] at hcnt
  have H0 : Hid (loseS xs false (countS 2000 xs).2 = rd0 xs) := rfl
  have HE : Hid (rdE xs = rdN (rdC xs) (rd0 xs)) := rfl
  have HO : Hid (rdOk xs = (((rdE xs).2.1.isEmpty && !(rdE xs).2.2) && riseB (rdE xs).1)) := rfl
  rw [H0.out] at hcnt
  replace hrc := hrc.1
  generalize rdC xs = N at *
  generalize rd0 xs = s0 at *
  clear hR hbox H0 hbd
  go_enter Tryz.func58, Tryz.ntmps58
  go_wp2_with fail
  generalize w.alloc (.cells #[.slice pb nb cb, .bool false] 129) = W0 at *
  generalize hs : w.heap.size = rb at *
  have Hs : Hid (w.heap.size = rb) := hs
  clear hs
  refine hcnt.mono ?_
  rintro e w1 ⟨rfl, ⟨v1, hR1⟩, hg1⟩
  have hz1' := hg1.size
  have hB1 : Below rb w w1 := hBA.trans ⟨hg1.os, hg1.tape, hg1.output, hg1.size, fun k hk => hg1.block k (by omega) (by intro e; cases e; omega)⟩
  clear hcnt hg1 hBA
  go_wp2
  go_loopw [8, 22] (fun s8 s22 wr => ∃ (j : Nat) (pv v' : Value), pv = s8 ∧ j ≤ N ∧ s22 = .int .i64 (j : Nat) ∧ OwnsP wr (rb + 1) pv (rdN j s0).1 ∧ Rd wr rb rb v' (rdN j s0).2.1 (rdN j s0).2.2 ∧ Below rb w wr) (fun _ s22 _ => N - (intOf s22).toNat)
  case atStart => exact ⟨0, _, v1, rfl, Nat.zero_le _, rfl, OwnsP.nil0 _ _, hR1, hB1⟩
  case round =>
    clear hR1 hB1
    obtain ⟨j, pv, v', hpv, hj, rfl, ho, hR, hB2⟩ := hrel
    subst hpv
    have hI2 := rdN_inv HI j
    have hBy2 := rdN_isB HBy j
    have hln := rdN_length s0 j
    by_cases hlt : j < N
    · have HP : Hid (rdN (j + 1) s0 = ((rdN j s0).1 ++ [(pairS (rdN j s0).2).1], (pairS (rdN j s0).2).2)) := rfl
      have hlj := rdN_len j s0
      generalize rdN j s0 = S at *
      obtain ⟨l, st⟩ := S
      obtain ⟨ys, wr1⟩ := st
      dsimp only at ho hR hI2 hBy2 hln HP hlj
      have ht1 := text_any wr rb rb v' ys wr1 hR hBy2 (by omega)
      rw [hI2.src] at ht1
      have hI3 := hI2.lose (getTextS ys).2
      have hBy3 := loseS_isB hBy2 wr1 (getTextS ys).2
      have hln3 := loseS_length ys wr1 (getTextS ys).2
      have HPS : Hid (pairS (ys, wr1) = ((strOfNums (getTextS ys).1, strOfNums (getTextS (loseS ys wr1 (getTextS ys).2).1).1), loseS (loseS ys wr1 (getTextS ys).2).1 (loseS ys wr1 (getTextS ys).2).2 (getTextS (loseS ys wr1 (getTextS ys).2).1).2)) := rfl
      generalize loseS ys wr1 (getTextS ys).2 = s1 at *
      obtain ⟨zs, wr2⟩ := s1
      dsimp only at ht1 hI3 hBy3 hln3 HPS
      have hlt8 : l.length + 1 ≤ 2000 := by omega
      clear hR
      go_wp2_with fail
      refine ht1.mono ?_
      rintro e w3 ⟨rfl, ⟨v3, hR3⟩, hg3⟩
      have ht2 := text_any w3 rb rb v3 zs wr2 hR3 hBy3 (by omega)
      rw [hI3.src] at ht2
      have ho3 := ho.kept7 hg3 (by omega)
      have hB3 : Below rb w w3 := hB2.trans ⟨hg3.os, hg3.tape, hg3.output, hg3.size, fun k hk => hg3.block k (by have := hB2.size; rw [Hs.out] at this; omega) (by intro e; cases e; omega)⟩
      clear ht1 ho hB2 hg3 hR3
      go_wp2_with fail
      refine ht2.mono ?_
      rintro e w4 ⟨rfl, ⟨v4, hR4⟩, hg4⟩
      have ho4 := ho3.kept7 hg4 (by omega)
      have hB4 : Below rb w w4 := hB3.trans ⟨hg4.os, hg4.tape, hg4.output, hg4.size, fun k hk => hg4.block k (by have := hB3.size; rw [Hs.out] at this; omega) (by intro e; cases e; omega)⟩
      clear ht2 ho3 hB3 hg4
      generalize strOfNums (getTextS ys).1 = xk at *
      generalize strOfNums (getTextS zs).1 = xv at *
      have hrl := hR4.lt
      have hoA := World.ownsRow.alloc ho4 (.cells #[.string xk, .string xv] 35)
      go_wp2_with (at_builtin; refine wpList_append_own _ rfl _ _ 25 rfl (rb + 1) 35 i1 (.agg #[.string ⟨#[]⟩, .string ⟨#[]⟩]) 2 32 Tryz.underlying25 hi1 hz1 hs1 hb1 rfl (by decide) pv l.length (pairsV l) rfl hoA ⟨w4.heap.size, 0, none⟩ 1 1 [.string xk, .string xv] rfl rfl (new_two _ _ _ _) (by simp [Value.oneCell']) (by unfold maxLen; omega) (by omega) (by simp; omega) ?_; intro v5 w5 ho5 hg5 _)
      have hb5 : Below (rb + 1) w4 w5 := ((Below.refl (rb + 1) w4).alloc (by omega) _).grown hg5 (by simp; omega) fun k hk => (World.ownsRow.lt ho4 k hk).1
      go_roundw
      case rel =>
        refine ⟨j + 1, _, v4, rfl, by omega, by go_num, ?_, ?_, hB4.trans (hb5.mono (by omega))⟩
        · rw [HP.out, HPS.out]
          unfold OwnsP
          rw [List.length_append, List.length_singleton, pairsV_append]
          exact ho5
        · rw [HP.out, HPS.out]
          exact hR4.below hb5 (by omega)
      case measure => simp only [intOf]; omega
    · obtain rfl : j = N := by omega
      rw [← HE.out] at ho hR
      have hel := rdE_len xs
      have hend := end_any wr rb rb v' _ _ hR
      generalize hE : rdE xs = E at *
      obtain ⟨l, ys, wr1⟩ := E
      have HEq : Hid (rdE xs = (l, ys, wr1)) := hE
      clear hE
      dsimp only at ho hend HO hel
      have hrs := rise_any pv l wr ho.has (by omega)
      have hBz := hB2.size
      rw [Hs.out] at hBz
      cases hee : (ys.isEmpty && !wr1) with
      | false =>
        rw [hee] at hend
        have HO2 : Hid (rdOk xs = false) := by rw [Hid, HO.out, hee]; rfl
        clear hR HO hee
        go_wp2_with fail
        refine same_mono hend ?_
        go_wp2
        go_ret2
        rw [HO2.out, HEq.out]
        exact ⟨_, rfl, ho.mono (by have := Hs.out; omega), by rw [Hs.out]; exact hB2⟩
      | true =>
        rw [hee] at hend
        have HO2 : Hid (rdOk xs = riseB l) := by rw [Hid, HO.out, hee]; rfl
        clear hR HO hee
        generalize riseB l = r at *
        go_wp2_with fail
        refine same_mono hend ?_
        go_wp2_with fail
        refine hrs.mono ?_
        rintro e w3 ⟨rfl, hb3⟩
        go_wp2
        go_ret2
        rw [HO2.out, HEq.out]
        exact ⟨_, rfl, (ho.below hb3 (Nat.le_refl _)).mono (by have := Hs.out; omega), by rw [Hs.out]; exact hB2.trans (hb3.mono hBz)⟩

set_option maxRecDepth 100000 in
set_option maxHeartbeats 1500000 in
theorem import_any (v : Value) (xs : List Int) (k0 k1 : Int) (w : World) (hT : Tab w) (hv : Has w v xs) (hB : IsB xs) (hl : xs.length ≤ 1099511627776) (hs : rdOk xs = true → ∀ p ∈ (rdE xs).1, p.1.size ≤ 131072 ∧ p.2.size ≤ 131072) :
    Calls Tryz.prog 23 #[v, .agg #[.int .u64 k0, .int .u64 k1]] w fun e w' =>
      (rdOk xs = false ∧ e = .returned (.tuple #[.pointer none, .int .i64 8]) ∧ Below w.heap.size w w') ∨
      (rdOk xs = true ∧ ∃ b, e = .returned (.tuple #[.pointer (some ⟨b, 0, none⟩), .int .i64 0]) ∧ One7 w w' b (rdE xs).1.length (putL (SM.empty k0 k1 (.string ⟨#[]⟩) (needI ((rdE xs).1.length : Int)).toNat) (rdE xs).1)) := by
  have hw0 := hT.1
  have hel := rdE_len xs
  have hbox := heap_alloc_new w (.cells #[.int .u64 k0, .int .u64 k1] 24)
  have hBA : Below w.heap.size w (w.alloc (.cells #[.int .u64 k0, .int .u64 k1] 24)) := (Below.refl _ _).alloc (Nat.le_refl _) _
  have hz0 : (w.alloc (.cells #[.int .u64 k0, .int .u64 k1] 24)).heap.size = w.heap.size + 1 := by simp
  have hrd := read_any v xs _ (hv.below hBA (Nat.le_refl _)) hB hl
  obtain ⟨pb, cb, hvb, -, -, -⟩ := id hv
  generalize hnb : xs.length = nb at hvb
  subst hvb
  clear hnb hv
  generalize (rdE xs).1 = l at *
  obtain ⟨hne, hgd⟩ := need7 l.length hel
  go_enter Tryz.func23, Tryz.ntmps23
  go_wp2_with fail
  generalize w.alloc (.cells #[.int .u64 k0, .int .u64 k1] 24) = W0 at *
  refine hrd.mono ?_
  rintro e w1 ⟨pv, rfl, ho1, hb1⟩
  have hb1z := hb1.size
  have hB1 : Below w.heap.size w w1 := hBA.trans (hb1.mono (by omega))
  cases hok : rdOk xs with
  | false =>
    clear hrd
    go_wp2
    go_ret2
    exact .inl ⟨hok, rfl, hB1⟩
  | true =>
    have Hs : Hid (∀ p ∈ l, p.1.size ≤ 131072 ∧ p.2.size ≤ 131072) := hs hok
    obtain ⟨pp, cp, rfl, -, -, -⟩ := id ho1.has
    have hbx := (hb1.block w.heap.size (by omega)).trans hbox
    have c0 : w1.cell? ⟨w.heap.size, 0, none⟩ = some (.int .u64 k0) := by unfold World.cell?; dsimp only; rw [hbx]; rfl
    have c1 : w1.cell? ⟨w.heap.size, 1, none⟩ = some (.int .u64 k1) := by unfold World.cell?; dsimp only; rw [hbx]; rfl
    have hnew := new_any_s k0 k1 (l.length : Int) w1 (by omega) (by omega) hne
    clear hrd hs hbox hbx
    have Hok : Hid (rdOk xs = true) := hok
    clear hok
    generalize hG : (needI (l.length : Int)).toNat = g at *
    have HG : Hid ((needI (l.length : Int)).toNat = g) := hG
    clear hG
    generalize hN : l.length = N at *
    have HN : Hid (l.length = N) := hN
    clear hN
    have HX : Hid (RowP w1 (.slice pp N cp) l) := RowP.of_owns ho1
    clear ho1
    go_wp2_with fail
    refine hnew.mono ?_
    rintro e w2 ⟨b, bw, bs, rfl, hl2, g1, g2, g3, hb2⟩
    have h2 := one7_new hB1 hl2 hgd g1 g2 g3 hb2
    have hX2 := HX.out.below hb2
    clear hnew hl2 g1 g2 g3 c0 c1 HX
    generalize hM : SM.empty k0 k1 (.string ⟨#[]⟩) g = M0 at *
    have HM : Hid (SM.empty k0 k1 (.string ⟨#[]⟩) g = M0) := hM
    clear hM
    go_wp2
    go_loopw [24] (fun i wr => ∃ j : Nat, j ≤ N ∧ i = .int .i64 (j : Nat) ∧ One7 w wr b j (putL M0 (l.take j)) ∧ RowP wr (.slice pp N cp) l) (fun i _ => N - (intOf i).toNat)
    case atStart => exact ⟨0, Nat.zero_le _, rfl, by rw [List.take_zero]; exact h2, hX2⟩
    case round =>
      clear h2 hX2
      obtain ⟨j, hj, rfl, hD, hX⟩ := hrel
      by_cases hlt : j < N
      · obtain ⟨bb, oo, rfl, hbb, hcc, -, c1, c2⟩ := hX.has.at (j := j) hlt
        have hjx : j < l.length := by rw [HN.out]; exact hlt
        have Ht : Hid (l.take j ++ [l.getD j default] = l.take (j + 1)) := ptake_snoc hjx
        have hsz := Hs.out _ (pgetD_mem hjx)
        clear hjx
        generalize l.getD j default = x at *
        have hba : Below wr.heap.size wr (wr.alloc (.cells #[.string x.1, .string x.2] 35)) := (Below.refl _ _).alloc (Nat.le_refl _) _
        have hput := (hD.below hba).put hT (by omega) x hsz
        have hX' := hX.below hba
        go_wp2_with fail
        generalize wr.alloc (.cells #[.string x.1, .string x.2] 35) = wa at *
        refine hput.mono ?_
        rintro e w3 ⟨⟨y1, y2, rfl⟩, hD3, hk3⟩
        have hX3 := hX'.kinds hk3 (by decide)
        clear hput hD hX hX' hba c1 c2
        go_wp2
        go_roundw
        case rel => exact ⟨j + 1, by omega, by go_num, by rw [← Ht.out, putL_snoc]; exact hD3, hX3⟩
        case measure => simp only [intOf]; omega
      · obtain rfl : j = N := by omega
        rw [show l.take j = l by rw [← HN.out, List.take_length]] at hD
        clear hX
        go_wp2
        go_ret2
        refine .inr ⟨Hok.out, b, rfl, ?_⟩
        rw [HN.out]
        have hg9 := HG.out
        rw [hg9, HM.out]
        exact hD
end Go.Proofs.YthlghokgknkpaaaGreatDoor

/-
  Contracts: corbelref01's Reader: Num, Int, Text, Bool, Count, End.
-/
namespace Go.Proofs.YthlghokgknkpaaaGreatDoor
open Go.RowKit

theorem getS_zero (xs : List Int) : (getS xs).2 = 0 → (getS xs).1 = 0 := by
  unfold getS
  split
  · intro _; rfl
  · split
    · intro h; simp at h
    · intro _; rfl
theorem getTextS_zero (xs : List Int) : (getTextS xs).2 = 0 → (getTextS xs).1 = [] := by
  unfold getTextS
  split
  · intro _; rfl
  · intro h; simp only at h; omega
theorem getBoolS_zero (xs : List Int) : (getBoolS xs).2 = 0 → (getBoolS xs).1 = false := by
  unfold getBoolS
  split
  · intro _; rfl
  · intro h; simp at h

set_option maxRecDepth 100000 in
set_option maxHeartbeats 1000000 in
theorem rnum_any (w : World) (rb L : Nat) (v : Value) (xs : List Int) (wrong : Bool) (h : Rd w rb L v xs wrong) (hI : Inv xs wrong) (hB : IsB xs) (hl : xs.length ≤ 1099511627776) :
    Calls Tryz.prog 130 #[.pointer (some ⟨rb, 0, none⟩)] w fun e w' =>
      e = .returned (.int .u64 (getS xs).1) ∧ (∃ v', Rd w' rb L v' (loseS xs wrong (getS xs).2).1 (loseS xs wrong (getS xs).2).2) ∧ w.grownBy w' (some rb) := by
  have hbd := getS_bd xs
  have hL := Nat.le_of_lt (Nat.lt_of_le_of_lt h.le h.lt)
  have H : Hid (Rd w rb L v xs wrong) := h
  have hlt := h.lt
  have c0 := h.c0
  clear h
  have HC : Hid (Calls Tryz.prog 146 #[v] w fun e w' => e = .returned (.tuple #[.int .u64 (getS xs).1, .int .i64 ((getS xs).2 : Nat)]) ∧ Below w.heap.size w w') :=
    (rget_cod v xs w (H.out.has.has hL) hB hl).mono (R' := fun e w' => e = .returned (.tuple #[.int .u64 (getS xs).1, .int .i64 ((getS xs).2 : Nat)]) ∧ Below w.heap.size w w') fun e w' ⟨h1, h2⟩ => ⟨h1, by subst h2; exact Below.refl _ _⟩
  have HZ : Hid ((getS xs).2 = 0 → (getS xs).1 = 0) := getS_zero xs
  generalize getS xs = g at *
  obtain ⟨u, n⟩ := g
  simp only at hbd
  have HC2 : Hid (Calls Tryz.prog 146 #[v] w fun e w' => e = .returned (.tuple #[.int .u64 u, .int .i64 (n : Nat)]) ∧ Below w.heap.size w w') := HC
  clear HC
  by_cases hn : n = 0
  · subst hn
    have hz : u = 0 := HZ.out rfl
    subst hz
    go_enter Tryz.func130, Tryz.ntmps130
    go_wp2_with (first
      | (go_at_call 146; refine HC2.out.mono ?_; rintro e w1 ⟨rfl, hb1⟩)
      | (go_at_call 131; refine (rpass_no _ rb L _ v xs wrong (H.out.below hb1 hlt) (Or.inr rfl)).mono ?_; rintro e w2 ⟨rfl, hr2, hg2⟩))
    go_ret
    exact ⟨rfl, hr2, grown_trans (grown_of_below hb1 (Nat.le_refl _) _) hg2⟩
  · have hwf : wrong = false := by
      cases wrong
      · rfl
      · have := hI rfl; rw [this] at hbd; simp at hbd; omega
    subst hwf
    have HLs : Hid (loseS xs false n = (xs.drop n, false)) := by rw [Hid, loseS, if_neg hn]
    go_enter Tryz.func130, Tryz.ntmps130
    go_wp2_with (first
      | (go_at_call 146; refine HC2.out.mono ?_; rintro e w1 ⟨rfl, hb1⟩)
      | (go_at_call 131; refine (rpass_yes _ rb L n v xs (H.out.below hb1 hlt) (by omega) (by omega) hl).mono ?_; rintro e w2 ⟨rfl, hr2, hg2⟩))
    go_ret
    exact ⟨rfl, by rw [HLs.out]; exact hr2, grown_trans (grown_of_below hb1 (Nat.le_refl _) _) hg2⟩

set_option maxRecDepth 100000 in
set_option maxHeartbeats 1000000 in
theorem rtext_any (w : World) (rb L : Nat) (v : Value) (xs : List Int) (wrong : Bool) (h : Rd w rb L v xs wrong) (hI : Inv xs wrong) (hB : IsB xs) (hl : xs.length ≤ 1099511627776) :
    Calls Tryz.prog 95 #[.pointer (some ⟨rb, 0, none⟩)] w fun e w' =>
      e = .returned (.string (strOfNums (getTextS xs).1)) ∧ (∃ v', Rd w' rb L v' (loseS xs wrong (getTextS xs).2).1 (loseS xs wrong (getTextS xs).2).2) ∧ w.grownBy w' (some rb) := by
  have hbd := getTextS_bd xs
  have hL := Nat.le_of_lt (Nat.lt_of_le_of_lt h.le h.lt)
  have H : Hid (Rd w rb L v xs wrong) := h
  have hlt := h.lt
  have c0 := h.c0
  clear h
  have HC : Hid (Calls Tryz.prog 132 #[v] w fun e w' => e = .returned (.tuple #[.string (strOfNums (getTextS xs).1), .int .i64 ((getTextS xs).2 : Nat)]) ∧ Below w.heap.size w w') :=
    rgetText_any v xs w (H.out.has.has hL) hB hl
  have HZ : Hid ((getTextS xs).2 = 0 → (getTextS xs).1 = []) := getTextS_zero xs
  generalize getTextS xs = g at *
  obtain ⟨u, n⟩ := g
  simp only at hbd
  have HC2 : Hid (Calls Tryz.prog 132 #[v] w fun e w' => e = .returned (.tuple #[.string (strOfNums u), .int .i64 (n : Nat)]) ∧ Below w.heap.size w w') := HC
  clear HC
  by_cases hn : n = 0
  · subst hn
    have hz : u = [] := HZ.out rfl
    subst hz
    go_enter Tryz.func95, Tryz.ntmps95
    go_wp2_with (first
      | (go_at_call 132; refine HC2.out.mono ?_; rintro e w1 ⟨rfl, hb1⟩)
      | (go_at_call 131; refine (rpass_no _ rb L _ v xs wrong (H.out.below hb1 hlt) (Or.inr rfl)).mono ?_; rintro e w2 ⟨rfl, hr2, hg2⟩))
    go_ret
    exact ⟨rfl, hr2, grown_trans (grown_of_below hb1 (Nat.le_refl _) _) hg2⟩
  · have hwf : wrong = false := by
      cases wrong
      · rfl
      · have := hI rfl; rw [this] at hbd; simp at hbd; omega
    subst hwf
    have HLs : Hid (loseS xs false n = (xs.drop n, false)) := by rw [Hid, loseS, if_neg hn]
    go_enter Tryz.func95, Tryz.ntmps95
    go_wp2_with (first
      | (go_at_call 132; refine HC2.out.mono ?_; rintro e w1 ⟨rfl, hb1⟩)
      | (go_at_call 131; refine (rpass_yes _ rb L n v xs (H.out.below hb1 hlt) (by omega) (by omega) hl).mono ?_; rintro e w2 ⟨rfl, hr2, hg2⟩))
    go_ret
    exact ⟨rfl, by rw [HLs.out]; exact hr2, grown_trans (grown_of_below hb1 (Nat.le_refl _) _) hg2⟩

set_option maxRecDepth 100000 in
set_option maxHeartbeats 1000000 in
theorem rcount_cod (m : Int) (w : World) (rb L : Nat) (v : Value) (xs : List Int) (wrong : Bool) (h : Rd w rb L v xs wrong) (hI : Inv xs wrong) (hB : IsB xs) (hl : xs.length ≤ 1099511627776) (hm : m ≤ 9223372036854775807) :
    Calls Tryz.prog 94 #[.pointer (some ⟨rb, 0, none⟩), .int .i64 m] w fun e w' =>
      e = .returned (.int .i64 (countS m xs).1) ∧ (∃ v', Rd w' rb L v' (loseS xs wrong (countS m xs).2).1 (loseS xs wrong (countS m xs).2).2) ∧ w.grownBy w' (some rb) := by
  have hbd := getS_bd xs
  have HN : Hid (Calls Tryz.prog 130 #[.pointer (some ⟨rb, 0, none⟩)] w fun e w' =>
      e = .returned (.int .u64 (getS xs).1) ∧ (∃ v', Rd w' rb L v' (loseS xs wrong (getS xs).2).1 (loseS xs wrong (getS xs).2).2) ∧ w.grownBy w' (some rb)) := rnum_any w rb L v xs wrong h hI hB hl
  have HT : Hid (countS m xs = if m < 0 ∨ m < (getS xs).1 then (0, 0) else getS xs) := rfl
  clear h
  generalize getS xs = g at *
  obtain ⟨u, n⟩ := g
  simp only at hbd
  have HN2 : Hid (Calls Tryz.prog 130 #[.pointer (some ⟨rb, 0, none⟩)] w fun e w' =>
      e = .returned (.int .u64 u) ∧ (∃ v', Rd w' rb L v' (loseS xs wrong n).1 (loseS xs wrong n).2) ∧ w.grownBy w' (some rb)) := HN
  clear HN
  by_cases hbad : m < 0 ∨ m < u
  · have HT0 : Hid (countS m xs = (0, 0)) := by rw [Hid, HT.out, if_pos hbad]
    have HL0 : Hid (loseS xs wrong 0 = ([], true)) := rfl
    clear HT
    rcases (show m < 0 ∨ (¬ m < 0 ∧ m < u) by omega) with hm0 | ⟨hm0, hmu⟩
    all_goals
      clear hbad
      go_enter Tryz.func94, Tryz.ntmps94
      go_wp2_with (first
        | (go_at_call 130; refine HN2.out.mono ?_; rintro e w1 ⟨rfl, ⟨v1, hr1⟩, hg1⟩)
        | (go_at_call 131; refine (rpass_no _ rb L _ v1 _ _ hr1 (Or.inr rfl)).mono ?_; rintro e w2 ⟨rfl, hr2, hg2⟩))
      go_ret
      rw [HT0.out]
      exact ⟨rfl, hr2, grown_trans hg1 hg2⟩
  · have HT0 : Hid (countS m xs = (u, n)) := by rw [Hid, HT.out, if_neg hbad]
    have hm0 : ¬ m < 0 := fun h => hbad (Or.inl h)
    have hmu : ¬ m < u := fun h => hbad (Or.inr h)
    clear HT hbad
    go_enter Tryz.func94, Tryz.ntmps94
    go_wp2_with (go_at_call 130; refine HN2.out.mono ?_; rintro e w1 ⟨rfl, hr1, hg1⟩)
    go_ret
    rw [HT0.out]
    exact ⟨rfl, hr1, hg1⟩

set_option maxRecDepth 100000 in
set_option maxHeartbeats 1000000 in
theorem rend_any (w : World) (rb L : Nat) (v : Value) (xs : List Int) (wrong : Bool) (h : Rd w rb L v xs wrong) :
    Calls Tryz.prog 96 #[.pointer (some ⟨rb, 0, none⟩)] w fun e w' => e = .returned (.bool (xs.isEmpty && !wrong)) ∧ w' = w := by
  have c0 := h.c0
  have c1 := h.c1
  obtain ⟨p, c, rfl, _, _, _⟩ := h.has
  clear h
  have hb : ((xs.length : Int) == 0) = xs.isEmpty := by
    cases xs with
    | nil => rfl
    | cons a l => simp; omega
  generalize xs.isEmpty = emp at *
  generalize xs.length = n at *
  have HB : Hid (((n : Int) == 0) = emp) := hb
  cases wrong <;> cases emp
  all_goals
    have hb1 := HB.out
    clear HB hb
    go_enter Tryz.func96, Tryz.ntmps96
    go_wp2
    go_ret
    exact ⟨rfl, rfl⟩
end Go.Proofs.YthlghokgknkpaaaGreatDoor

/-
  Contract: corbelref07.Read.
-/
namespace Go.Proofs.YthlghokgknkpaaaGreatDoor
open Go.RowKit Go.Shelf Go.Lib

/-- A block of another kind is turned: a row of pairs stays. -/
theorem OwnsP.kept8 {w w' : World} {B r s : Nat} {v : Value} {l : List (ByteArray × ByteArray)} (h : OwnsP w B v l) (hg : w.grownBy w' (some r)) (hs : ∀ k, v.ownBlock = some k → k < s) (hr : s ≤ r) : OwnsP w' B v l := by
  refine World.ownsRow.kept h hg ?_
  cases hv : v.ownBlock with
  | none => exact .inl rfl
  | some k => have := hs k hv; exact .inr (fun e => by cases e; omega)
theorem cells_pair {W : World} {k : Nat} {x y : Value} (h : W.heap[k]? = some (.cells #[x, y] 35 (0, 0))) : W.cell? ⟨k, 0, none⟩ = some x ∧ W.cell? ⟨k, 1, none⟩ = some y := by
  constructor
  all_goals
    unfold World.cell?
    dsimp only
    rw [h]
    rfl
theorem two_setCell {w : World} {b : Nat} {x y u : Value} {t : TypeId} (h : w.heap[b]? = some (.cells #[x, y] t (0, 0))) : (w.setCell ⟨b, 1, none⟩ u).heap[b]? = some (.cells #[x, u] t (0, 0)) := by
  have hlt := (Array.getElem?_eq_some_iff.1 h).1
  have h' : w.heap[b] = .cells #[x, y] t (0, 0) := by simpa [Array.getElem?_eq_getElem hlt] using h
  show (w.heap.modify b _)[b]? = _
  rw [Array.getElem?_eq_getElem (by simpa using hlt), Array.getElem_modify_self, h']
  rfl
theorem rise_next {l : List (ByteArray × ByteArray)} {x : ByteArray × ByteArray} (h0 : 0 < l.length) (hr : Rise l) : Rise (l ++ [x]) ↔ ltT (l.getD (l.length - 1) default).1 x.1 = true := by
  have e1 := ptake_snoc (l := l) (i := l.length - 1) (by omega)
  rw [show l.length - 1 + 1 = l.length by omega, List.take_length] at e1
  have h2 := rise_snoc (l := l.take (l.length - 1)) (q := l.getD (l.length - 1) default) (p := x)
  rw [e1] at h2
  rw [h2]
  exact ⟨fun h => h.2, fun h => ⟨hr, h⟩⟩

set_option maxRecDepth 100000 in
set_option maxHeartbeats 1500000 in
theorem rread_any (v : Value) (xs : List Int) (w : World) (hv : Has w v xs) (hB : IsB xs) (hl : xs.length ≤ 1099511627776) :
    Calls Tryz.prog 59 #[v] w fun e w' =>
      (rdOk xs = false ∧ e = .returned (.tuple #[.slice none 0 0, .int .i64 8]) ∧ Below w.heap.size w w') ∨
      (rdOk xs = true ∧ ∃ pv, e = .returned (.tuple #[pv, .int .i64 0]) ∧ OwnsP w' w.heap.size pv (rdE xs).1 ∧ Below w.heap.size w w') := by
  obtain ⟨i1, hi1, hz1, hs1, hb1⟩ := info_parts infoP
  have hmix : Tryz.prog.follows Departure.mixedOrders = true := by kernel_rfl
  obtain ⟨pb, cb, hvb, -, -, -⟩ := id hv
  generalize hnb : xs.length = nb at hvb
  subst hvb
  clear hnb
  have hbox := heap_alloc_new w (.cells #[.slice pb nb cb, .bool false] 132)
  have hBA : Below w.heap.size w (w.alloc (.cells #[.slice pb nb cb, .bool false] 132)) := (Below.refl _ _).alloc (Nat.le_refl _) _
  have hz0 : (w.alloc (.cells #[.slice pb nb cb, .bool false] 132)).heap.size = w.heap.size + 1 := by simp
  have hR : Rd (w.alloc (.cells #[.slice pb nb cb, .bool false] 132)) w.heap.size w.heap.size (.slice pb nb cb) xs false :=
    ⟨by simp, Nat.le_refl _, by unfold World.cell?; dsimp only; rw [hbox]; rfl, by unfold World.cell?; dsimp only; rw [hbox]; rfl, frozen7 hbox 0, frozen7 hbox 1, hv.inn.below hBA (Nat.le_refl _)⟩
  have hcnt := rcount_cod 2000 _ _ _ (.slice pb nb cb) xs false hR (fun h => by cases h) hB hl (by omega)
  have hrc := rdC_le xs
  have HI := inv_rd0 xs
  have HL := rd0_length xs
  have HBy := rd0_isB hB
  rw [← hrc.2] at hcnt
  have H0 : Hid (loseS xs false (countS 2000 xs).2 = rd0 xs) := rfl
  have HE : Hid (rdE xs = rdN (rdC xs) (rd0 xs)) := rfl
  have HO : Hid (rdOk xs = (((rdE xs).2.1.isEmpty && !(rdE xs).2.2) && riseB (rdE xs).1)) := rfl
  have HW : Hid (∀ j, j ≤ rdC xs → (rdN j (rd0 xs)).2.2 = true → rdOk xs = false) := fun j => rd_bad_wrong
  have HRi : Hid (∀ j, j ≤ rdC xs → ¬ Rise (rdN j (rd0 xs)).1 → rdOk xs = false) := fun j => rd_bad_rise
  rw [H0.out] at hcnt
  replace hrc := hrc.1
  generalize rdC xs = N at *
  generalize rd0 xs = s0 at *
  clear hR hbox H0
  go_enter Tryz.func59, Tryz.ntmps59
  go_wp2_with fail
  generalize w.alloc (.cells #[.slice pb nb cb, .bool false] 132) = W0 at *
  generalize hs : w.heap.size = rb at *
  have Hs : Hid (w.heap.size = rb) := hs
  clear hs
  refine hcnt.mono ?_
  rintro e w1 ⟨rfl, ⟨v1, hR1⟩, hg1⟩
  have hz1' := hg1.size
  have hB1 : Below rb w w1 := hBA.trans ⟨hg1.os, hg1.tape, hg1.output, hg1.size, fun k hk => hg1.block k (by omega) (by intro e; cases e; omega)⟩
  clear hcnt hg1 hBA
  go_wp2
  go_loopw [6, 7] (fun s8 s22 wr => ∃ (j : Nat) (pv v' : Value), pv = s8 ∧ j ≤ N ∧ s22 = .int .i64 (j : Nat) ∧ OwnsP wr (rb + 1) pv (rdN j s0).1 ∧ Rd wr rb rb v' (rdN j s0).2.1 (rdN j s0).2.2 ∧ Below rb w wr ∧ Hid (Rise (rdN j s0).1)) (fun _ s22 _ => N - (intOf s22).toNat)
  case atStart => exact ⟨0, _, v1, rfl, Nat.zero_le _, rfl, OwnsP.nil0 _ _, hR1, hB1, Rise.nil⟩
  case round =>
    clear hR1 hB1
    obtain ⟨j, pv, v', hpv, hj, rfl, ho, hR, hB2, hRi⟩ := hrel
    subst hpv
    have hI2 := rdN_inv HI j
    have hBy2 := rdN_isB HBy j
    have hln := rdN_length s0 j
    have hBz := hB2.size
    rw [Hs.out] at hBz
    have c1 := hR.c1
    by_cases hlt : j < N
    · cases hwr : (rdN j s0).2.2 with
      | true =>
        have hbad : Hid (rdOk xs = false) := HW.out j hj hwr
        have hend := rend_any wr rb rb v' _ _ hR
        rw [hwr] at c1 hend
        rw [show ((rdN j s0).2.1.isEmpty && !true) = false by simp] at hend
        clear hR hwr
        go_wp2_with fail
        refine same_mono hend ?_
        go_wp2
        go_ret2
        exact .inl ⟨hbad.out, rfl, by rw [Hs.out]; exact hB2⟩
      | false =>
        have HP : Hid (rdN (j + 1) s0 = ((rdN j s0).1 ++ [(pairS (rdN j s0).2).1], (pairS (rdN j s0).2).2)) := rfl
        have hlj := rdN_len j s0
        have HRj : Hid (¬ Rise (rdN (j + 1) s0).1 → rdOk xs = false) := HRi.out (j + 1) (by omega)
        generalize rdN j s0 = S at *
        obtain ⟨l, st⟩ := S
        obtain ⟨ys, wr1⟩ := st
        dsimp only at ho hR hI2 hBy2 hln HP hlj c1 hwr hRi
        subst hwr
        have ht1 := rtext_any wr rb rb v' ys false hR hI2 hBy2 (by omega)
        have hI3 := hI2.lose (getTextS ys).2
        have hBy3 := loseS_isB hBy2 false (getTextS ys).2
        have hln3 := loseS_length ys false (getTextS ys).2
        have HPS : Hid (pairS (ys, false) = ((strOfNums (getTextS ys).1, strOfNums (getTextS (loseS ys false (getTextS ys).2).1).1), loseS (loseS ys false (getTextS ys).2).1 (loseS ys false (getTextS ys).2).2 (getTextS (loseS ys false (getTextS ys).2).1).2)) := rfl
        generalize loseS ys false (getTextS ys).2 = s1 at *
        obtain ⟨zs, wr2⟩ := s1
        dsimp only at ht1 hI3 hBy3 hln3 HPS
        have hlt8 : l.length + 1 ≤ 2000 := by omega
        clear hR
        go_wp2_with fail
        refine ht1.mono ?_
        rintro e w3 ⟨rfl, ⟨v3, hR3⟩, hg3⟩
        have ho3 := ho.kept7 hg3 (by omega)
        have hB3 : Below rb w w3 := hB2.trans ⟨hg3.os, hg3.tape, hg3.output, hg3.size, fun k hk => hg3.block k (by omega) (by intro e; cases e; omega)⟩
        have hz3 := hg3.size
        generalize strOfNums (getTextS ys).1 = xk at *
        have hbn : Below w3.heap.size w3 (w3.alloc (.cells #[.string xk, .string ⟨#[]⟩] 35)) := (Below.refl _ _).alloc (Nat.le_refl _) _
        have hbx := heap_alloc_new w3 (.cells #[.string xk, .string ⟨#[]⟩] 35)
        have hR3' := hR3.below hbn hR3.lt
        have hrb3 := hR3.lt
        have hoA := World.ownsRow.alloc ho3 (.cells #[.string xk, .string ⟨#[]⟩] 35)
        have hown : ∀ k, pv.ownBlock = some k → k < w3.heap.size := fun k hk => (World.ownsRow.lt ho3 k hk).2
        have hza : (w3.alloc (.cells #[.string xk, .string ⟨#[]⟩] 35)).heap.size = w3.heap.size + 1 := by simp
        have ht2 := rtext_any _ rb rb v3 zs wr2 hR3' hI3 hBy3 (by omega)
        have hBn : Below rb w (w3.alloc (.cells #[.string xk, .string ⟨#[]⟩] 35)) := hB3.trans (hbn.mono (by omega))
        clear ht1 ho hB2 hg3 hR3 hR3' hB3 ho3 hbn
        go_wp2_with fail
        generalize w3.alloc (.cells #[.string xk, .string ⟨#[]⟩] 35) = w3' at *
        generalize w3.heap.size = ab at *
        refine ht2.mono ?_
        rintro e w4 ⟨rfl, ⟨v4, hR4⟩, hg4⟩
        have hbx4 := (hg4.block ab (by omega) (by intro e; cases e; omega)).trans hbx
        have hz4 := hg4.size
        have ho4 : OwnsP w4 (rb + 1) pv l := OwnsP.kept7 hoA hg4 (by omega)
        have hB4 : Below rb w w4 := hBn.trans ⟨hg4.os, hg4.tape, hg4.output, hg4.size, fun k hk => hg4.block k (by omega) (by intro e; cases e; omega)⟩
        generalize strOfNums (getTextS zs).1 = xv at *
        have hfz := frozen7 hbx4 1
        obtain ⟨d0, d1⟩ := cells_pair hbx4
        have hgs := grown_set w4 ab 1 (.string xv)
        have ho5 : OwnsP (w4.setCell ⟨ab, 1, none⟩ (.string xv)) (rb + 1) pv l := ho4.kept8 hgs hown (Nat.le_refl _)
        have hR5 := hR4.grown hgs (by omega) (by omega)
        have hB5 : Below rb w (w4.setCell ⟨ab, 1, none⟩ (.string xv)) := hB4.setCell (by show rb ≤ ab; omega) _
        have hbx5 : (w4.setCell ⟨ab, 1, none⟩ (.string xv)).heap[ab]? = some (.cells #[.string xk, .string xv] 35 (0, 0)) := two_setCell hbx4
        obtain ⟨d2, d3⟩ := cells_pair hbx5
        clear ht2 hoA hBn hg4 hbx hgs ho4 hR4 hB4
        go_wp2_with fail
        clear d0 d1 hfz hbx4
        generalize w4.setCell ⟨ab, 1, none⟩ (.string xv) = w5 at *
        have Hrow : Hid (rdN (j + 1) s0 = (l ++ [(xk, xv)], loseS zs wr2 (getTextS zs).2)) := by rw [Hid, HP.out, HPS.out]
        have Hz5 : Hid (rb < w5.heap.size) := by show rb < _; have := hR5.lt; omega
        have hl0 : l.length = j := hlj
        have hprev : (j = 0 ∧ Hid (Rise (l ++ [(xk, xv)]))) ∨ ∃ (y : ByteArray × ByteArray) (bb oo cc : Nat), 0 < j ∧ pv = .slice (some ⟨bb, oo, none⟩) j cc ∧ oo + j * 2 ≤ oo + cc * 2 ∧ w5.cell? ⟨bb, oo + (j - 1) * 2, none⟩ = some (.string y.1) ∧ Hid (Rise (l ++ [(xk, xv)]) ↔ Op.bytesLess y.1.toList xk.toList = true) := by
          by_cases h0 : j = 0
          · refine .inl ⟨h0, ?_⟩
            have : l = [] := List.eq_nil_of_length_eq_zero (by omega)
            rw [this]
            exact List.pairwise_singleton _ _
          · obtain ⟨p8, c8, e8, h8, -, -⟩ := id ho5.has
            obtain ⟨b2, o2, e2, -, -, -, k1, -⟩ := (e8 ▸ ho5.has).at (j := j - 1) (by omega)
            subst e2
            refine .inr ⟨_, b2, o2, c8, by omega, by rw [e8, hl0], by omega, k1, ?_⟩
            have := rise_next (x := (xk, xv)) (by omega) hRi.out
            rw [hl0] at this
            exact this
        have hjj : (j : Int) = (j : Int) := rfl
        clear hl0 hjj
        rcases hprev with ⟨hj0, hR0⟩ | ⟨⟨yk, yv⟩, bb, oo, cc, hi5, rfl, hcc, hy, HR0⟩
        · subst hj0
          go_big_quiet (fail)
          have hbq := below_drewN (Below.refl w5.heap.size w5) nq
          have ho6 := ho5.below hbq (Nat.le_refl _)
          have hR6 := hR5.below hbq hR5.lt
          have hB6 : Below rb w (w5.drewN nq) := hB5.trans (hbq.mono (by have := Hz5.out; omega))
          have d4 : (w5.drewN nq).cell? ⟨ab, 0, none⟩ = some (.string xk) := d2
          have d5 : (w5.drewN nq).cell? ⟨ab, 1, none⟩ = some (.string xv) := d3
          have hoA := World.ownsRow.alloc ho6 (.cells #[.string xk, .string xv] 35)
          clear d2 d3 ho5 hR5 hB5 hbq hbx5
          generalize w5.drewN nq = w6 at *
          have hrl := hR6.lt
          go_wp2_with (at_builtin; refine wpList_append_own _ rfl _ _ 25 rfl (rb + 1) 35 i1 (.agg #[.string ⟨#[]⟩, .string ⟨#[]⟩]) 2 32 Tryz.underlying25 hi1 hz1 hs1 hb1 rfl (by decide) pv l.length (pairsV l) rfl hoA ⟨w6.heap.size, 0, none⟩ 1 1 [.string xk, .string xv] rfl rfl (new_two _ _ _ _) (by simp [Value.oneCell']) (by unfold maxLen; omega) (by omega) (by simp; omega) ?_; intro v7 w7 ho7 hg7 _)
          have hb7 : Below (rb + 1) w6 w7 := ((Below.refl (rb + 1) w6).alloc (by omega) _).grown hg7 (by simp; omega) fun k hk => (World.ownsRow.lt ho6 k hk).1
          go_roundw
          case rel =>
            refine ⟨1, _, v4, rfl, by omega, by go_num, ?_, ?_, hB6.trans (hb7.mono (by omega)), ?_⟩
            · rw [Hrow.out]
              unfold OwnsP
              rw [List.length_append, List.length_singleton, pairsV_append]
              exact ho7
            · rw [Hrow.out]
              exact hR6.below hb7 (by omega)
            · rw [Hrow.out]
              exact hR0.out
          case measure => simp only [intOf]; omega
        · dsimp only at hy HR0
          have hi1' : (0 : Int) < (j : Int) := by omega
          have hi2 : (((j : Int) - 1)).toNat = j - 1 := by omega
          have hi3 : (j : Int) - 1 < (j : Int) := by omega
          have hi4 : (0 : Int) ≤ (j : Int) - 1 := by omega
          cases hlt2 : Op.bytesLess yk.toList xk.toList with
          | true =>
            have hR0 : Hid (Rise (l ++ [(xk, xv)])) := HR0.out.2 hlt2
            go_big_quiet (fail)
            have hbq := below_drewN (Below.refl w5.heap.size w5) nq
            have ho6 := ho5.below hbq (Nat.le_refl _)
            have hR6 := hR5.below hbq hR5.lt
            have hB6 : Below rb w (w5.drewN nq) := hB5.trans (hbq.mono (by have := Hz5.out; omega))
            have d4 : (w5.drewN nq).cell? ⟨ab, 0, none⟩ = some (.string xk) := d2
            have d5 : (w5.drewN nq).cell? ⟨ab, 1, none⟩ = some (.string xv) := d3
            have hoA := World.ownsRow.alloc ho6 (.cells #[.string xk, .string xv] 35)
            clear d2 d3 ho5 hR5 hB5 hbq hbx5
            generalize w5.drewN nq = w6 at *
            have hrl := hR6.lt
            go_wp2_with (at_builtin; refine wpList_append_own _ rfl _ _ 25 rfl (rb + 1) 35 i1 (.agg #[.string ⟨#[]⟩, .string ⟨#[]⟩]) 2 32 Tryz.underlying25 hi1 hz1 hs1 hb1 rfl (by decide) (.slice (some ⟨bb, oo, none⟩) j cc) l.length (pairsV l) rfl hoA ⟨w6.heap.size, 0, none⟩ 1 1 [.string xk, .string xv] rfl rfl (new_two _ _ _ _) (by simp [Value.oneCell']) (by unfold maxLen; omega) (by omega) (by simp; omega) ?_; intro v7 w7 ho7 hg7 _)
            have hb7 : Below (rb + 1) w6 w7 := ((Below.refl (rb + 1) w6).alloc (by omega) _).grown hg7 (by simp; omega) fun k hk => (World.ownsRow.lt ho6 k hk).1
            go_roundw
            case rel =>
              refine ⟨j + 1, _, v4, rfl, by omega, by go_num, ?_, ?_, hB6.trans (hb7.mono (by omega)), ?_⟩
              · rw [Hrow.out]
                unfold OwnsP
                rw [List.length_append, List.length_singleton, pairsV_append]
                exact ho7
              · rw [Hrow.out]
                exact hR6.below hb7 (by omega)
              · rw [Hrow.out]
                exact hR0.out
            case measure => simp only [intOf]; omega
          | false =>
            have hbad : Hid (rdOk xs = false) := by
              refine HRj.out fun h => ?_
              rw [Hrow.out] at h
              have := HR0.out.1 h
              rw [hlt2] at this
              cases this
            go_big_quiet (fail)
            go_wp2
            go_ret2
            exact .inl ⟨hbad.out, rfl, by rw [Hs.out]; exact below_drewN hB5 _⟩
    · obtain rfl : j = N := by omega
      rw [← HE.out] at ho hR hRi c1
      have hend := rend_any wr rb rb v' _ _ hR
      generalize hE : rdE xs = E at *
      obtain ⟨l, ys, wr1⟩ := E
      have HEq : Hid (rdE xs = (l, ys, wr1)) := hE
      clear hE
      dsimp only at ho hend HO hRi
      cases hee : (ys.isEmpty && !wr1) with
      | false =>
        rw [hee] at hend
        have HO2 : Hid (rdOk xs = false) := by rw [Hid, HO.out, hee]; rfl
        clear hR HO hee
        go_wp2_with fail
        refine same_mono hend ?_
        go_wp2
        go_ret2
        exact .inl ⟨HO2.out, rfl, by rw [Hs.out]; exact hB2⟩
      | true =>
        rw [hee] at hend
        have HO2 : Hid (rdOk xs = true) := by rw [Hid, HO.out, hee, (riseB_iff l).2 hRi.out]; rfl
        clear hR HO hee
        go_wp2_with fail
        refine same_mono hend ?_
        go_wp2
        go_ret2
        rw [HEq.out]
        exact .inr ⟨HO2.out, _, rfl, ho.mono (by have := Hs.out; omega), by rw [Hs.out]; exact hB2⟩
end Go.Proofs.YthlghokgknkpaaaGreatDoor

import Derived.Test.YthlelcmifolnfaaGreatDoorDkTTo
import Derived.Lib.BitFns
import Derived.BigQuiet
import Derived.WalkSmall
namespace Go.Proofs.YthlelcmifolnfaaGreatDoor
open Go.RowKit Go.Maps
section
variable {w w' w'' : World} {d : Nat} {S : Nat → Prop} {φ : ByteArray → Nat} {σ : ByteArray → Value} {mb : Nat} {vb : Value} {R : RD} {M : DM}
theorem DiskF.open8 (hD : DiskF w d S φ M) (hI : M.Inv) : ∃ σ mb vb kv, Lies8 w d S φ σ mb vb (M.raw M.names.length kv) ∧ (M.n ≠ 0 → kv = M.keep) ∧ M.names.length ≤ 16777216 := by
  obtain ⟨σ, mb, vb, mn, kv, h, hkv⟩ := hD
  refine ⟨σ, mb, vb, kv, h.norm hI.nodup hI.short, hkv, ?_⟩
  have := hI.count
  show (nms M.L).length ≤ _
  unfold nms
  rw [List.length_map]
  exact this
theorem ren_lies {kv : Int} (hI : M.Inv) {a b : ByteArray} (ha : a ∈ M.names) (hb : b ∉ M.names) {mn mn' : Nat} (h : Lies8 w d S φ σ mb vb { M.raw mn kv with names := b :: without M.names a, bt := upd M.bytes b (M.bytes a), su := upd (fun y => (lk M.L y).length) b (lk M.L a).length, wr := renW (wrs M.buf) a b, mn := mn' }) : Lies8 w d S φ σ mb vb ((M.ren a b).raw mn' kv) := by
  have hab : a ≠ b := fun e => hb (e ▸ ha)
  have hnb : ∀ w ∈ M.buf, w.1 ≠ b := fun w hw (e : w.1 = b) => hb (by rw [← e]; exact hI.mem w hw)
  have hbf : b ∉ nms (M.L.filter fun f => decide (f.1 ≠ a)) := fun hm => hb ((nms_filter M.L a b).1 hm).1
  have hlk : ∀ y ∈ b :: without M.names a, lk (M.ren a b).L y = upd (lk M.L) b (lk M.L a) y := by
    intro y hy
    show lk (insF b (lk M.L a) _) y = _
    rw [lk_ins hbf]
    by_cases e : y = b
    · rw [if_pos e, e, upd_at]
    · have hya := ((mem_without _ _ _).1 ((List.mem_cons.1 hy).resolve_left e)).2
      rw [if_neg e, upd_ne e, lk_filter hya]
  refine h.congr (fun y => ?_) (fun y hy => ?_) (fun y hy => ?_) ?_ rfl ?_ rfl ?_ rfl rfl rfl rfl
  · show y ∈ (M.ren a b).names ↔ y ∈ b :: without M.names a
    rw [DM.names_ren, List.mem_cons, mem_without]
  · show lk (M.ren a b).L y ++ pend (renB M.buf a b) y = upd M.bytes b (M.bytes a) y
    rw [hlk y hy]
    by_cases e : y = b
    · rw [e, upd_at, upd_at, pend_ren_to hnb]; rfl
    · have hya := ((mem_without _ _ _).1 ((List.mem_cons.1 hy).resolve_left e)).2
      rw [upd_ne e, upd_ne e, pend_ren_other hya e]; rfl
  · show (lk (M.ren a b).L y).length = upd (fun y => (lk M.L y).length) b (lk M.L a).length y
    rw [hlk y hy]
    by_cases e : y = b
    · rw [e, upd_at, upd_at]
    · rw [upd_ne e, upd_ne e]
  · show wrs (renB M.buf a b) = renW (wrs M.buf) a b
    unfold wrs renB renW
    rw [List.map_map, List.map_map]
    refine List.map_congr_left fun v _ => ?_
    show ((if v.1 = a then (b, v.2) else v).1, (if v.1 = a then (b, v.2) else v).2.length) = if v.1 = a then (b, v.2.length) else (v.1, v.2.length)
    by_cases e : v.1 = a
    · rw [if_pos e, if_pos e]
    · rw [if_neg e, if_neg e]
  · show ((tot (renB M.buf a b) : Nat) : Int) = (tot M.buf : Nat)
    rw [tot_ren]
  · show (((M.ren a b).used : Nat) : Int) = (M.used : Nat)
    rw [DM.used_ren hI ha hb]
set_option maxRecDepth 10000 in
set_option maxHeartbeats 2000000 in
theorem rename_any (hD : DiskAt w d S M) (hO : M.Ok) (hS : ∀ k, w.heap.size ≤ k → S k) {a b : ByteArray} (hsa : a.size ≤ maxLen) (hsb : b.size ≤ maxLen) :
    Calls Tryz.prog 71 #[.pointer (some ⟨d, 0, none⟩), .string a, .string b] w fun e w' => e = .returned (.int .i64 ((M.rename a b).1 : Nat)) ∧ DiskAt w' d S (M.rename a b).2 ∧ Turn S w w' := by
  cases hf : M.off with
  | true =>
    have e : M.rename a b = (9, M) := by unfold DM.rename; rw [if_pos hf]
    rw [e]
    have hr := ready_off hD hf
    go_enter Tryz.func71, Tryz.ntmps71
    go_wp2_with fail
    refine same_mono hr ?_
    go_wp2
    go_ret
    exact ⟨rfl, hD, Turn.refl _ _⟩
  | false =>
    have hr := ready_on hD hf
    have hgd := good_dk b hsb
    cases hg : goodN b with
    | false =>
      have e : M.rename a b = (3, M) := by unfold DM.rename; rw [if_neg (by rw [hf]; decide), if_pos hg]
      rw [e]
      rw [hg] at hgd
      go_enter Tryz.func71, Tryz.ntmps71
      go_wp2_with fail
      refine same_mono hr ?_
      go_wp2_with fail
      refine same_mono (hgd _) ?_
      go_wp2
      go_ret
      exact ⟨rfl, hD, Turn.refl _ _⟩
    | true =>
      rw [hg] at hgd
      by_cases ha : a ∈ M.names
      · obtain ⟨φ, hDF⟩ := hD
        have hfi : Calls Tryz.prog 82 #[.pointer (some ⟨d, 0, none⟩), .string a] w fun e w' => e = .returned (.tuple #[.pointer (some ⟨φ a, 0, none⟩), .int .i64 0]) ∧ w' = w := by
          obtain ⟨σ, mb, vb, mn, kv, h, _⟩ := hDF
          exact findM_yes h hsa hf ha
        cases hbe : M.begins with
        | false =>
          have e : M.rename a b = (9, M.begun) := by unfold DM.rename DM.act; rw [if_neg (by rw [hf]; decide), if_neg (by rw [hg]; decide), if_neg (by simpa using ha), hbe]; rfl
          rw [e]
          have hb := begin_noF hDF hO hS hbe
          go_enter Tryz.func71, Tryz.ntmps71
          go_wp2_with fail
          refine same_mono hr ?_
          go_wp2_with fail
          refine same_mono (hgd _) ?_
          go_wp2_with fail
          refine same_mono hfi ?_
          go_wp2_with fail
          refine hb.mono ?_
          rintro e w2 ⟨rfl, r1, r2⟩
          go_wp2
          go_ret
          exact ⟨rfl, ⟨φ, r1⟩, r2⟩
        | true =>
          have e : M.rename a b = (0, M.begun.rename1 a b) := by unfold DM.rename DM.act; rw [if_neg (by rw [hf]; decide), if_neg (by rw [hg]; decide), if_neg (by simpa using ha), hbe]; rfl
          rw [e]
          have hb := begin_yesF hDF hO hS hbe
          have hI1 := hO.inv.begun
          have ha1 : a ∈ M.begun.names := by show a ∈ nms M.begun.L; rw [(DM.begun_off hbe).2.1]; exact ha
          generalize M.begun = M1 at *
          clear e hO hDF hf hbe
          by_cases hab : a = b
          · have Hc : Hid (M1.rename1 a b = M1) := by show _ = _; unfold DM.rename1; rw [if_pos hab]
            subst hab
            go_enter Tryz.func71, Tryz.ntmps71
            go_wp2_with fail
            refine same_mono hr ?_
            go_wp2_with fail
            refine same_mono (hgd _) ?_
            go_wp2_with fail
            refine same_mono hfi ?_
            go_wp2_with fail
            refine hb.mono ?_
            rintro e w2 ⟨rfl, r1, r2⟩
            go_wp2
            go_ret
            exact ⟨rfl, by rw [Hc.out]; exact ⟨φ, r1⟩, r2⟩
          · have Hc : Hid (M1.rename1 a b = (M1.gone b).ren a b) := by show _ = _; unfold DM.rename1; rw [if_neg hab]
            have hab' := beq_false_of_ne (show a.toList ≠ b.toList from fun e => hab (data_inj e))
            go_enter Tryz.func71, Tryz.ntmps71
            go_wp2_with fail
            refine same_mono hr ?_
            go_wp2_with fail
            refine same_mono (hgd _) ?_
            go_wp2_with fail
            refine same_mono hfi ?_
            go_wp2_with fail
            refine hb.mono ?_
            rintro e w2 ⟨rfl, r1, r2⟩
            clear hr hgd hb hfi
            go_wp2_with fail
            refine (dropMF r1 hI1 (fun k hk => hS k (Nat.le_trans r2.size hk)) hsb).mono ?_
            rintro e w3 ⟨⟨v, rfl⟩, r3, r4⟩
            have t3 : Turn S w w3 := r2.trans r4
            have hIg := hI1.gone b
            obtain ⟨σ3, mb3, vb3, kv3, h3, hkv3, hcnt⟩ := r3.open8 hIg
            have hag : a ∈ (M1.gone b).names := (DM.names_gone M1 b a).2 ⟨ha1, hab⟩
            have hbg : b ∉ (M1.gone b).names := fun hm => ((DM.names_gone M1 b b).1 hm).2 rfl
            clear r1 r2 r3 r4 hI1 ha1
            generalize M1.gone b = M2 at *
            obtain ⟨m0, -⟩ := h3.cells
            obtain ⟨w4, hrun, hm4, hg4⟩ := h3.map.drop (names' := without M2.names a) hsa (fun y => mem_without _ _ _) 0
            obtain ⟨w5, hrun5, hm5, hg5⟩ := hm4.store (by show M2.names.length < maxLen; unfold maxLen; omega) hsb (φ a)
            have hg6 : w3.grownBy w5 (some mb3) := ⟨hg5.os.trans hg4.os, hg5.tape.trans hg4.tape, hg5.output.trans hg4.output, Nat.le_trans hg4.size hg5.size, fun i hi hn => (hg5.block i (Nat.lt_of_lt_of_le hi hg4.size) hn).trans (hg4.block i hi hn)⟩
            have h5 := ren_lies hIg hag hbg (h3.renM hag hbg hm5 hg6)
            have t5 := t3.grown hg6 fun k hk => .inl (by cases hk; exact h3.sM)
            have m0' : w4.cell? ⟨d, 0, none⟩ = some (.map (some mb3)) := (hg4.cell (a := ⟨d, 0, none⟩) m0 fun e => h3.dM (Option.some.inj e).symm)
            clear h3 hm4 hg4 hm5 hg5 hg6
            go_wp2
            go_ret
            refine ⟨rfl, ?_, t5⟩
            rw [Hc.out]
            exact ⟨_, _, _, _, _, _, h5, hkv3⟩
      · have e : M.rename a b = (4, M) := by unfold DM.rename; rw [if_neg (by rw [hf]; decide), if_neg (by rw [hg]; decide), if_pos ha]
        rw [e]
        have hfi := findM_none hD hsa hf ha
        go_enter Tryz.func71, Tryz.ntmps71
        go_wp2_with fail
        refine same_mono hr ?_
        go_wp2_with fail
        refine same_mono (hgd _) ?_
        go_wp2_with fail
        refine same_mono hfi ?_
        go_wp2
        go_ret
        exact ⟨rfl, hD, Turn.refl _ _⟩
end
def HasX (w : World) (S : Nat → Prop) (v : Value) (xs : List Int) : Prop :=
  ∃ p c, v = .slice p xs.length c ∧ xs.length ≤ c ∧ (p = none → c = 0) ∧
    (0 < xs.length → ∃ b o, p = some ⟨b, o, none⟩ ∧ ¬ S b ∧ b < w.heap.size ∧ ∀ i, i < xs.length → w.cell? ⟨b, o + i, none⟩ = some (.int .u8 (xs.getD i 0)))
theorem HasX.has {w : World} {S : Nat → Prop} {v : Value} {xs : List Int} (h : HasX w S v xs) : Has w v xs := by
  obtain ⟨p, c, rfl, h1, h2, h3⟩ := h
  refine ⟨p, c, rfl, h1, h2, fun h0 => ?_⟩
  obtain ⟨b, o, rfl, _, hb, hc⟩ := h3 h0
  exact ⟨b, o, rfl, hb, hc⟩
theorem HasX.turn {w w' : World} {S : Nat → Prop} {v : Value} {xs : List Int} (h : HasX w S v xs) (ht : Turn S w w') : HasX w' S v xs := by
  obtain ⟨p, c, rfl, h1, h2, h3⟩ := h
  refine ⟨p, c, rfl, h1, h2, fun h0 => ?_⟩
  obtain ⟨b, o, rfl, hS, hb, hc⟩ := h3 h0
  exact ⟨b, o, rfl, hS, Nat.lt_of_lt_of_le hb ht.size, fun i hi => (ht.cell (p := ⟨b, o + i, none⟩) hb hS).trans (hc i hi)⟩
theorem HasX.mono {w : World} {S S' : Nat → Prop} {v : Value} {xs : List Int} (h : HasX w S v xs) (hS : ∀ k, k < w.heap.size → S' k → S k) : HasX w S' v xs := by
  obtain ⟨p, c, rfl, h1, h2, h3⟩ := h
  refine ⟨p, c, rfl, h1, h2, fun h0 => ?_⟩
  obtain ⟨b, o, rfl, hn, hb, hc⟩ := h3 h0
  exact ⟨b, o, rfl, fun h => hn (hS b hb h), hb, hc⟩
structure Halt8 (p : Prop) : Prop where
  out : p
theorem elemB : Elem8 Tryz.prog 25 5 1 1 := elem8 Tryz.underlying25 (z := .int .u8 0) (by kernel_rfl) rfl (by decide)
theorem elemW : Elem8 Tryz.prog 103 117 2 16 := elem8 Tryz.underlying103 (z := .agg #[.pointer none, .int .i64 0]) (by kernel_rfl) rfl (by decide)
section
variable {w w' w'' : World} {d : Nat} {S : Nat → Prop} {φ : ByteArray → Nat} {σ : ByteArray → Value} {mb : Nat} {vb : Value} {R : RD} {M : DM}
theorem need_sum (n m : Nat) (w : World) (hn : n + m ≤ 140737488355328) : Calls Tryz.prog 94 #[.int .i64 ((n : Int) + (m : Nat))] w fun e w' => e = .returned (.int .i64 (need (n + m) : Nat)) ∧ w' = w := by
  have := need_any (n + m) w hn
  rw [Int.natCast_add] at this
  exact this
theorem append_lies {kv : Int} (hI : M.Inv) {x : ByteArray} (hx : x ∈ M.names) {mn : Nat} {bs : List Int} {R' : RD} (h : Lies8 w d S φ σ mb vb R')
    (hR : R' = { M.raw mn kv with bt := upd M.bytes x (M.bytes x ++ bs), wr := wrs M.buf ++ [(x, bs.length)], pending := (tot M.buf : Nat) + (bs.length : Nat), used := (M.used : Nat) + (M.more x bs : Nat) }) : Lies8 w d S φ σ mb vb (DM.raw { M with buf := M.buf ++ [(x, bs)] } mn kv) := by
  subst hR
  refine h.congr (fun y => Iff.rfl) (fun y hy => ?_) (fun y hy => rfl) ?_ rfl ?_ rfl ?_ rfl rfl rfl rfl
  · show lk M.L y ++ pend (M.buf ++ [(x, bs)]) y = upd M.bytes x (M.bytes x ++ bs) y
    rw [pend_append, pend]
    by_cases e : y = x
    · rw [e, if_pos rfl, upd_at]
      unfold DM.bytes
      simp [pend]
    · rw [if_neg (Ne.symm e), upd_ne e]
      unfold DM.bytes
      simp [pend]
  · show wrs (M.buf ++ [(x, bs)]) = wrs M.buf ++ [(x, bs.length)]
    unfold wrs
    rw [List.map_append]
    rfl
  · show ((tot (M.buf ++ [(x, bs)]) : Nat) : Int) = (tot M.buf : Nat) + (bs.length : Nat)
    rw [tot_append]
    simp only [tot]
    omega
  · show ((DM.used { M with buf := M.buf ++ [(x, bs)] } : Nat) : Int) = (M.used : Nat) + (M.more x bs : Nat)
    rw [DM.used_append hI hx]
    omega
set_option maxRecDepth 10000 in
set_option maxHeartbeats 2000000 in
theorem append_any (hD : DiskAt w d S M) (hO : M.Ok) (hS : ∀ k, w.heap.size ≤ k → S k) {x : ByteArray} (hs : x.size ≤ maxLen) {v : Value} {bs : List Int} (hb : HasX w S v bs) (hbl : bs.length ≤ 1099511627776) :
    Calls Tryz.prog 31 #[.pointer (some ⟨d, 0, none⟩), .string x, v] w fun e w' => e = .returned (.int .i64 ((M.append x bs).1 : Nat)) ∧ DiskAt w' d S (M.append x bs).2 ∧ Turn S w w' := by
  obtain ⟨pv, cv, rfl⟩ : ∃ p c, v = .slice p bs.length c := by obtain ⟨p, c, e, _⟩ := hb; exact ⟨p, c, e⟩
  cases hf : M.off with
  | true =>
    have e : M.append x bs = (9, M) := by unfold DM.append; rw [if_pos hf]
    rw [e]
    have hr := findM_off hD x hf
    go_enter Tryz.func31, Tryz.ntmps31
    go_wp2_with fail
    refine same_mono hr ?_
    go_wp2
    go_ret
    exact ⟨rfl, hD, Turn.refl _ _⟩
  | false =>
    by_cases hx : x ∈ M.names
    · obtain ⟨φ, hDF⟩ := hD
      have hfi : Calls Tryz.prog 82 #[.pointer (some ⟨d, 0, none⟩), .string x] w fun e w' => e = .returned (.tuple #[.pointer (some ⟨φ x, 0, none⟩), .int .i64 0]) ∧ w' = w := by
        obtain ⟨σ, mb, vb, mn, kv, h, _⟩ := hDF
        exact findM_yes h hs hf hx
      cases hbe : M.begins with
      | false =>
        have e : M.append x bs = (9, M.begun) := by unfold DM.append DM.act; rw [if_neg (by rw [hf]; decide), if_neg (by simpa using hx), hbe]; rfl
        rw [e]
        have hb := begin_noF hDF hO hS hbe
        go_enter Tryz.func31, Tryz.ntmps31
        go_wp2_with fail
        refine same_mono hfi ?_
        go_wp2_with fail
        refine hb.mono ?_
        rintro e w2 ⟨rfl, r1, r2⟩
        go_wp2
        go_ret
        exact ⟨rfl, ⟨φ, r1⟩, r2⟩
      | true =>
        have e : M.append x bs = M.begun.append1 x bs := by unfold DM.append DM.act; rw [if_neg (by rw [hf]; decide), if_neg (by simpa using hx), hbe]; rfl
        rw [e]
        have hbg := begin_yesF hDF hO hS hbe
        have hI1 := hO.inv.begun
        have hx1 : x ∈ M.begun.names := by show x ∈ nms M.begun.L; rw [(DM.begun_off hbe).2.1]; exact hx
        have hfew : M.begun.buf.length < 1099511627776 := by
          rw [(DM.begun_off hbe).2.2.1]
          exact Nat.lt_of_le_of_lt hO.inv.few hO.ops
        generalize M.begun = M1 at *
        clear e hO hDF hf hbe hx
        go_enter Tryz.func31, Tryz.ntmps31
        go_wp2_with fail
        refine same_mono hfi ?_
        go_wp2_with fail
        refine hbg.mono ?_
        rintro e w2 ⟨rfl, r1, r2⟩
        replace hb := hb.turn r2
        have hS2 : ∀ k, w2.heap.size ≤ k → S k := fun k hk => hS k (Nat.le_trans r2.size hk)
        clear hfi hbg
        obtain ⟨σ, mb, vb, kv, h2, hkv, -⟩ := r1.open8 hI1
        obtain ⟨-, -, -, g3, g4, -⟩ := h2.cells
        have c3 : w2.cell? ⟨d, 3, none⟩ = some (.int .i64 (M1.blocks : Nat)) := g3
        have c4 : w2.cell? ⟨d, 4, none⟩ = some (.int .i64 (M1.used : Nat)) := g4
        obtain ⟨z1, z2, z3⟩ := hI1.sizes
        have zb := hI1.top
        obtain ⟨k0, -, kf⟩ := h2.fcells hx1
        obtain ⟨px, cx, hσ⟩ := (h2.row x hx1).shape
        change σ x = .slice px (M1.bytes x).length cx at hσ
        rw [hσ] at k0
        have Hσ : Hid (σ x = .slice px (M1.bytes x).length cx) := hσ
        clear hσ g3 g4
        have z4 := (z3 x).1
        have Hmore : Hid (M1.more x bs = need ((M1.bytes x).length + bs.length) - need (M1.bytes x).length) := rfl
        obtain ⟨n, Hn⟩ : ∃ n, Hid ((M1.bytes x).length = n) := ⟨_, rfl⟩
        obtain ⟨m, Hm⟩ : ∃ m, Hid (bs.length = m) := ⟨_, rfl⟩
        rw [Hn.out] at k0 Hσ Hmore z4
        rw [Hm.out] at Hmore hbl
        have hnm : need n ≤ need (n + m) := need_mono (by omega)
        have hnn : need (n + m) ≤ 1099511627776 := by unfold need; omega
        obtain ⟨q1, Hq1⟩ : ∃ q1, Hid (need n = q1) := ⟨_, rfl⟩
        obtain ⟨q2, Hq2⟩ : ∃ q2, Hid (need (n + m) = q2) := ⟨_, rfl⟩
        have hb1 := blocks_any (φ x) px n cx w2 k0 (by omega)
        have hb2 := need_sum n m w2 (by omega)
        rw [Hq1.out, Hq2.out] at hnm Hmore
        rw [Hq1.out] at hb1
        rw [Hq2.out] at hb2 hnn
        rw [Hm.out]
        have hfit := hI1.fits
        have Hu : ∃ u, Hid (M1.used = u) := ⟨_, rfl⟩
        obtain ⟨u, Hu⟩ := Hu
        have Hbk : ∃ u, Hid (M1.blocks = u) := ⟨_, rfl⟩
        obtain ⟨bk, Hbk⟩ := Hbk
        rw [Hu.out] at c4 z1 hfit
        rw [Hbk.out] at c3 zb hfit
        go_wp2_with fail
        refine same_mono hb2 ?_
        go_wp2_with fail
        refine same_mono hb1 ?_
        clear hb1 hb2
        by_cases hfull : bk - u < q2 - q1
        · have Hc : Hid (M1.append1 x bs = (7, M1)) := by show _ = _; unfold DM.append1; rw [Hmore.out, Hu.out, Hbk.out, if_pos hfull]
          have hcmp : (bk : Int) - u < (q2 : Int) - q1 := by omega
          go_wp2_with fail
          refine wp_region_quiet_lit (by kernel_rfl) (by kernel_rfl) ?_
          repeat (go_big_quiet_step (fail))
          refine wpQuiet_nil ?_
          rintro _ ⟨nq, rfl⟩
          go_wp2
          go_ret
          exact ⟨by rw [Hc.out]; rfl, by rw [Hc.out]; exact ⟨φ, r1.same fun _ _ _ => rfl⟩, r2.drewN nq⟩
        · have Hc : Hid (M1.append1 x bs = (0, { M1 with buf := M1.buf ++ [(x, bs)] })) := by show _ = _; unfold DM.append1; rw [Hmore.out, Hu.out, Hbk.out, if_neg hfull]
          have hcmp : ¬ (bk : Int) - u < (q2 : Int) - q1 := by omega
          have hcmp' : (q2 : Int) - q1 ≤ (bk : Int) - u := by omega
          have hq2 : n + m < 64 * q2 := by rw [← Hq2.out]; exact need_le _
          have hq1 : q1 ≤ 16777217 := by rw [← Hq1.out]; unfold need; omega
          have hsum : n + m ≤ 4294967296 := by omega
          go_wp2_with fail
          refine wp_region_quiet_lit (by kernel_rfl) (by kernel_rfl) ?_
          repeat (go_big_quiet_step (fail))
          refine wpQuiet_nil ?_
          rintro _ ⟨nq, rfl⟩
          have h3 := h2.drewN nq
          have t3 := r2.drewN nq
          replace hb := hb.turn ((Turn.refl S w2).drewN nq)
          have hS3 : ∀ k, (w2.drewN nq).heap.size ≤ k → S k := hS2
          generalize w2.drewN nq = W at *
          clear h2 r1 r2 hS2 k0 kf c3 c4
          obtain ⟨k0, -, kf⟩ := h3.fcells hx1
          have hown := h3.row x hx1
          change Owns W 0 5 (σ x) (M1.bytes x) at hown
          unfold Owns at hown
          rw [Hσ.out] at k0 hown
          rw [Hn.out] at hown
          have hR := hasR_of_has hb.has
          rw [Hm.out] at hR
          go_wp2_with (at_builtin; refine ap_row elemB _ rfl _ _ rfl 0 _ _ n m (cellsB (M1.bytes x)) (cellsB bs) rfl rfl hR (cellsB_one _) hown (by omega) (by omega) (Nat.zero_le _) ?_; intro v' w4 hown4 hgrow4 hwh4; refine Halt8.out ?_)
          obtain ⟨p4, c4, rfl⟩ := writes_shape hown4
          have hfile := (hgrow4.block (φ x) (h3.ltF hx1) fun e => row_apart hown (h3.file x hx1) (by decide) e.symm).trans (h3.file x hx1)
          rw [Hσ.out] at hfile
          have k4 := cell_of hfile (i := 0) (v := .slice px n cx) rfl
          have kf4 := froz_of hfile (i := 0)
          have ho4 : Owns w4 0 5 (.slice p4 (n + m) c4) (M1.bytes x ++ bs) := by
            unfold Owns
            rw [List.length_append, Hn.out, Hm.out, show cellsB (M1.bytes x ++ bs) = cellsB (M1.bytes x) ++ cellsB bs by simp [cellsB]]
            exact hown4
          have h4 := h3.setR hx1 (by rw [Hσ.out]; exact hgrow4) ho4 (by rw [Hσ.out]; exact hwh4) hS3
          have t4 : Turn S w (w4.setCell ⟨φ x, 0, none⟩ (.slice p4 (n + m) c4)) := (t3.grown hgrow4 fun k hk => .inl (h3.sR x hx1 k (by rw [Hσ.out]; exact hk))).setCell (p := ⟨φ x, 0, none⟩) (.inl (h3.sF x hx1)) _
          have hsz4 : W.heap.size ≤ (w4.setCell ⟨φ x, 0, none⟩ (.slice p4 (n + m) c4)).heap.size := by simp [World.setCell]; exact hgrow4.size
          clear hgrow4 hwh4 hown hown4 ho4 hR k0 kf h3 t3 hb hfile
          obtain ⟨-, -, -, -, m4, -, -, -, -, mf⟩ := h4.cells
          have m4' : (w4.setCell ⟨φ x, 0, none⟩ (.slice p4 (n + m) c4)).cell? ⟨d, 4, none⟩ = some (.int .i64 (u : Nat)) := by rw [m4]; show some (Value.int .i64 (M1.used : Nat)) = _; rw [Hu.out]
          have mf4 := mf 4
          have h5 := h4.setD 4 (.int .i64 ((u : Int) + ((q2 : Int) - q1))) { M1.raw M1.names.length kv with bt := upd M1.bytes x (M1.bytes x ++ bs), used := (u : Int) + ((q2 : Int) - q1) } rfl rfl rfl rfl rfl rfl
          have t5 := t4.setCell (p := ⟨d, 4, none⟩) (.inl h4.sD) (.int .i64 ((u : Int) + ((q2 : Int) - q1)))
          have hsz5 : W.heap.size ≤ ((w4.setCell ⟨φ x, 0, none⟩ (.slice p4 (n + m) c4)).setCell ⟨d, 4, none⟩ (.int .i64 ((u : Int) + ((q2 : Int) - q1)))).heap.size := by simpa [World.setCell] using hsz4
          clear m4 mf t4 h4
          obtain ⟨pb, cb, rfl⟩ := writes_shape h5.buf
          obtain ⟨-, m1, -, -, -, -, -, -, -, -⟩ := h5.cells
          dsimp only at m1
          have hwrl : (wrs M1.buf).length = M1.buf.length := List.length_map _
          have hbl0 := h5.lt
          have hba := (Below.refl _ ((w4.setCell ⟨φ x, 0, none⟩ (.slice p4 (n + m) c4)).setCell ⟨d, 4, none⟩ (.int .i64 ((u : Int) + ((q2 : Int) - q1))))).alloc (Nat.le_refl _) (.cells #[.pointer (some ⟨φ x, 0, none⟩), .int .i64 (m : Nat)] 117)
          have hA := heap_alloc_new ((w4.setCell ⟨φ x, 0, none⟩ (.slice p4 (n + m) c4)).setCell ⟨d, 4, none⟩ (.int .i64 ((u : Int) + ((q2 : Int) - q1)))) (.cells #[.pointer (some ⟨φ x, 0, none⟩), .int .i64 (m : Nat)] 117)
          have hsize : ((w4.setCell ⟨φ x, 0, none⟩ (.slice p4 (n + m) c4)).setCell ⟨d, 4, none⟩ (.int .i64 ((u : Int) + ((q2 : Int) - q1)))).heap.size = w4.heap.size := by simp [World.setCell]
          rw [hsize] at hA
          have hL1 : (wrs M1.buf).length + 1 ≤ 1099511627776 := by omega
          have hL2 : ((wrs M1.buf).length + 1) * 16 ≤ 140737488355328 := by omega
          clear hwrl
          have h6 := h5.below hba
          have hbuf6 : (((w4.setCell ⟨φ x, 0, none⟩ (.slice p4 (n + m) c4)).setCell ⟨d, 4, none⟩ (.int .i64 ((u : Int) + ((q2 : Int) - q1)))).alloc (.cells #[.pointer (some ⟨φ x, 0, none⟩), .int .i64 (m : Nat)] 117)).ownsRow 0 117 2 (.slice pb (wrs M1.buf).length cb) (wrs M1.buf).length (writesV φ (wrs M1.buf)) := h6.buf
          have h1c : ∀ z ∈ [Value.pointer (some ⟨φ x, 0, none⟩), .int .i64 (m : Nat)], z.oneCell' = true := by intro z hz; simp at hz; rcases hz with rfl | rfl <;> rfl
          change _ = some (Value.slice pb (wrs M1.buf).length cb) at m1
          have t6 := t5.alloc (.cells #[.pointer (some ⟨φ x, 0, none⟩), .int .i64 (m : Nat)] 117)
          have hR6 := hasR_lit (size := 2) (xs := [.pointer (some ⟨φ x, 0, none⟩), .int .i64 (m : Nat)]) hA 1 1 rfl (Nat.le_refl _)
          have hS6 : ∀ k, (((w4.setCell ⟨φ x, 0, none⟩ (.slice p4 (n + m) c4)).setCell ⟨d, 4, none⟩ (.int .i64 ((u : Int) + ((q2 : Int) - q1)))).alloc (.cells #[.pointer (some ⟨φ x, 0, none⟩), .int .i64 (m : Nat)] 117)).heap.size ≤ k → S k := fun k hk => hS3 k (Nat.le_trans hsz5 (Nat.le_trans hba.size hk))
          constructor
          go_wp2_with (at_builtin; refine ap_row elemW _ rfl _ _ rfl 0 _ _ (wrs M1.buf).length 1 (writesV φ (wrs M1.buf)) [.pointer (some ⟨φ x, 0, none⟩), .int .i64 (m : Nat)] rfl rfl hR6 h1c hbuf6 hL1 hL2 (Nat.zero_le _) ?_; intro v' w7 hown7 hgrow7 hwh7; refine Halt8.out ?_)
          obtain ⟨p7, c7, rfl⟩ := writes_shape hown7
          have ho7 : w7.ownsRow 0 117 2 (.slice p7 ((wrs M1.buf).length + 1) c7) (wrs M1.buf ++ [(x, m)]).length (writesV φ (wrs M1.buf ++ [(x, m)])) := by
            rw [List.length_append, writesV_append]
            exact hown7
          have hobj := (hgrow7.block d h6.lt fun e => h6.dB e.symm).trans h6.obj
          have m1' := cell_of hobj (i := 1) (v := .slice pb (wrs M1.buf).length cb) rfl
          have f1' := froz_of hobj (i := 1)
          have h7 := h6.setB hgrow7 ho7 (fun v hv => by
            rcases List.mem_append.1 hv with hv | hv
            · exact h6.mem v hv
            · rw [List.mem_singleton.1 hv]; exact hx1) (hwh7.imp id fun ⟨k, e, hk⟩ k' e' => by rw [e] at e'; cases e'; exact hk) hS6
          have t7 : Turn S w (w7.setCell ⟨d, 1, none⟩ (.slice p7 ((wrs M1.buf).length + 1) c7)) := (t6.grown hgrow7 fun k hk => .inl (h6.sB k hk)).setCell (p := ⟨d, 1, none⟩) (.inl h6.sD) _
          obtain ⟨-, -, m2, -, -, -, -, -, -, mf⟩ := h7.cells
          have m2' : (w7.setCell ⟨d, 1, none⟩ (.slice p7 ((wrs M1.buf).length + 1) c7)).cell? ⟨d, 2, none⟩ = some (.int .i64 (tot M1.buf : Nat)) := m2
          have mf2 := mf 2
          have h8 := h7.setD 2 (.int .i64 ((tot M1.buf : Nat) + (m : Nat))) { M1.raw M1.names.length kv with bt := upd M1.bytes x (M1.bytes x ++ bs), wr := wrs M1.buf ++ [(x, m)], pending := (tot M1.buf : Nat) + (m : Nat), used := (u : Int) + ((q2 : Int) - q1) } rfl rfl rfl rfl rfl rfl
          have t8 := t7.setCell (p := ⟨d, 2, none⟩) (.inl h6.sD) (.int .i64 ((tot M1.buf : Nat) + (m : Nat)))
          have eU : (u : Int) + ((q2 : Int) - q1) = (M1.used : Nat) + (M1.more x bs : Nat) := by rw [Hmore.out, Hu.out]; omega
          have h9 := append_lies (bs := bs) hI1 hx1 h8 (by rw [Hm.out, eU])
          clear eU
          clear h5 h6 h7 h8 t5 t6 t7 hown7 hgrow7 ho7 hwh7 hobj hR6 hbuf6 hA hba hS6 m1 m2 mf m4' mf4
          constructor
          go_wp2
          go_ret
          exact ⟨by rw [Hc.out]; rfl, by rw [Hc.out]; exact ⟨_, _, _, _, _, _, h9, hkv⟩, t8⟩
    · have e : M.append x bs = (4, M) := by unfold DM.append; rw [if_neg (by rw [hf]; decide), if_pos hx]
      rw [e]
      have hr := findM_none hD hs hf hx
      go_enter Tryz.func31, Tryz.ntmps31
      go_wp2_with fail
      refine same_mono hr ?_
      go_wp2
      go_ret
      exact ⟨rfl, hD, Turn.refl _ _⟩
end
section
variable {w w' : World} {d : Nat} {S : Nat → Prop} {φ : ByteArray → Nat} {σ : ByteArray → Value} {mb : Nat} {vb : Value} {R : RD} {M : DM}
theorem on_any (hD : DiskAt w d S M) : Calls Tryz.prog 99 #[.pointer (some ⟨d, 0, none⟩)] w fun e w' => e = .returned (.bool (!M.off)) ∧ w' = w := by
  cases hf : M.off with
  | true =>
    have hr := ready_off hD hf
    go_enter Tryz.func99, Tryz.ntmps99
    go_wp2_with fail
    refine same_mono hr ?_
    go_wp2
    go_ret
    exact ⟨rfl, rfl⟩
  | false =>
    have hr := ready_on hD hf
    go_enter Tryz.func99, Tryz.ntmps99
    go_wp2_with fail
    refine same_mono hr ?_
    go_wp2
    go_ret
    exact ⟨rfl, rfl⟩
theorem ops_any (hD : DiskAt w d S M) : Calls Tryz.prog 40 #[.pointer (some ⟨d, 0, none⟩)] w fun e w' => e = .returned (.int .i64 (M.ops : Nat)) ∧ w' = w := by
  obtain ⟨φ, σ, mb, vb, mn, kv, h, -⟩ := hD
  obtain ⟨c0, -, -, -, -, -, c6, -⟩ := h.cells
  have c6' : w.cell? ⟨d, 6, none⟩ = some (.int .i64 (M.ops : Nat)) := c6
  have hm := made_any8 d (some mb) w c0
  clear c6
  go_enter Tryz.func40, Tryz.ntmps40
  go_wp2_with fail
  refine same_mono hm ?_
  go_wp2
  go_ret
  exact ⟨rfl, rfl⟩
set_option maxRecDepth 10000 in
theorem start_any (hD : DiskAt w d S M) : Calls Tryz.prog 25 #[.pointer (some ⟨d, 0, none⟩)] w fun e w' => (∃ v, e = .returned v) ∧ DiskAt w' d S M.start ∧ Turn S w w' := by
  obtain ⟨φ, σ, mb, vb, mn, kv, h, -⟩ := hD
  obtain ⟨c0, -, -, -, -, c5, -, c7, c8, cf⟩ := h.cells
  have hm := made_any8 d (some mb) w c0
  have f5 := cf 5
  have f7 := cf 7
  have f8 := cf 8
  have h1 := h.setD 5 (.bool true) { M.raw mn kv with on := true } rfl rfl rfl rfl rfl rfl
  have h2 := h1.setD 7 (.int .i64 0) { M.raw mn kv with on := true, armed := 0 } rfl rfl rfl rfl rfl rfl
  have h3 := h2.setD 8 (.int .i64 0) { M.raw mn kv with on := true, armed := 0, keep := 0 } rfl rfl rfl rfl rfl rfl
  have t3 := (((Turn.refl S w).setCell (p := ⟨d, 5, none⟩) (.inl h.sD) (.bool true)).setCell (p := ⟨d, 7, none⟩) (.inl h.sD) (.int .i64 0)).setCell (p := ⟨d, 8, none⟩) (.inl h.sD) (.int .i64 0)
  clear h1 h2
  go_enter Tryz.func25, Tryz.ntmps25
  go_wp2_with fail
  refine same_mono hm ?_
  go_wp2
  go_end0
  exact ⟨⟨_, rfl⟩, ⟨φ, σ, mb, vb, mn, 0, h3.congr (fun _ => Iff.rfl) (fun _ _ => rfl) (fun _ _ => rfl) rfl rfl rfl rfl rfl rfl rfl rfl rfl, fun h => absurd rfl h⟩, t3⟩
set_option maxRecDepth 10000 in
theorem arm_any (hD : DiskAt w d S M) (n k : Int) (hn : -9223372036854775808 ≤ n ∧ n ≤ 9223372036854775807) : Calls Tryz.prog 21 #[.pointer (some ⟨d, 0, none⟩), .int .i64 n, .int .i64 k] w fun e w' => e = .returned (.int .i64 ((M.arm n k).1 : Nat)) ∧ DiskAt w' d S (M.arm n k).2 ∧ Turn S w w' := by
  cases hf : M.off with
  | true =>
    have e : M.arm n k = (9, M) := by unfold DM.arm; rw [if_pos hf]
    rw [e]
    have hr := ready_off hD hf
    go_enter Tryz.func21, Tryz.ntmps21
    go_wp2_with fail
    refine same_mono hr ?_
    go_wp2
    go_ret
    exact ⟨rfl, hD, Turn.refl _ _⟩
  | false =>
    have e : M.arm n k = (0, { M with n := n.toNat, keep := k }) := by unfold DM.arm; rw [if_neg (by rw [hf]; decide)]
    rw [e]
    have hr := ready_on hD hf
    obtain ⟨φ, σ, mb, vb, mn, kv, h, -⟩ := hD
    obtain ⟨-, -, -, -, -, -, -, c7, c8, cf⟩ := h.cells
    have f7 := cf 7
    have f8 := cf 8
    by_cases hn0 : 0 ≤ n
    · have h1 := h.setD 7 (.int .i64 n) { M.raw mn kv with armed := n } rfl rfl rfl rfl rfl rfl
      have h2 := h1.setD 8 (.int .i64 k) { M.raw mn kv with armed := n, keep := k } rfl rfl rfl rfl rfl rfl
      have t2 := ((Turn.refl S w).setCell (p := ⟨d, 7, none⟩) (.inl h.sD) (.int .i64 n)).setCell (p := ⟨d, 8, none⟩) (.inl h.sD) (.int .i64 k)
      clear h1
      go_enter Tryz.func21, Tryz.ntmps21
      go_wp2_with fail
      refine same_mono hr ?_
      go_wp2
      go_ret
      refine ⟨rfl, ⟨φ, σ, mb, vb, mn, k, h2.congr (fun _ => Iff.rfl) (fun _ _ => rfl) (fun _ _ => rfl) rfl rfl rfl rfl rfl rfl rfl ?_ rfl, fun _ => rfl⟩, t2⟩
      show ((n.toNat : Nat) : Int) = n
      omega
    · have hn0' : n < 0 := by omega
      have h1 := h.setD 7 (.int .i64 0) { M.raw mn kv with armed := 0 } rfl rfl rfl rfl rfl rfl
      have h2 := h1.setD 8 (.int .i64 k) { M.raw mn kv with armed := 0, keep := k } rfl rfl rfl rfl rfl rfl
      have t2 := ((Turn.refl S w).setCell (p := ⟨d, 7, none⟩) (.inl h.sD) (.int .i64 0)).setCell (p := ⟨d, 8, none⟩) (.inl h.sD) (.int .i64 k)
      clear h1
      go_enter Tryz.func21, Tryz.ntmps21
      go_wp2_with fail
      refine same_mono hr ?_
      go_wp2
      go_ret
      refine ⟨rfl, ⟨φ, σ, mb, vb, mn, k, h2.congr (fun _ => Iff.rfl) (fun _ _ => rfl) (fun _ _ => rfl) rfl rfl rfl rfl rfl rfl rfl ?_ rfl, fun _ => rfl⟩, t2⟩
      show ((n.toNat : Nat) : Int) = 0
      omega
end
set_option maxRecDepth 10000 in
theorem new_good (b : Nat) (w : World) (hb : b ≤ 16777216) : Calls Tryz.prog 17 #[.int .i64 (b : Nat)] w fun e w' => e = .returned (.pointer (some ⟨w.heap.size + 1, 0, none⟩)) ∧ DiskAt w' (w.heap.size + 1) (fun k => w.heap.size ≤ k ∧ k < w'.heap.size) (DM.empty b) ∧ Below w.heap.size w w' := by
  have hmm := @run_makeMap Tryz.prog
  have hb' : (b : Int) ≤ 16777216 := by omega
  have hm := MapAt.made w (fun _ => 0)
  go_enter Tryz.func17, Tryz.ntmps17
  go_wp2
  go_ret
  have hA := heap_alloc_new (w.alloc (.map #[] 0)) (.cells #[.map (some w.heap.size), .slice none 0 0, .int .i64 0, .int .i64 (b : Nat), .int .i64 0, .bool true, .int .i64 0, .int .i64 0, .int .i64 0] 105)
  rw [World.size_alloc] at hA
  refine ⟨rfl, ⟨fun _ => 0, fun _ => .slice none 0 0, w.heap.size, .slice none 0 0, 0, 0, ?_, fun h => absurd rfl h⟩, ((Below.refl _ _).alloc (Nat.le_refl _) _).alloc (by simp) _⟩
  refine ⟨hA, hm.same (Below.heap_alloc _ _ _ (by simp)), World.ownsRow_nil _ _ _ _, (fun x hx => by cases hx), (fun x hx => by cases hx), (fun x hx => by cases hx), (fun x hx => by cases hx), (fun x hx => by cases hx), ⟨by omega, by simp⟩, ⟨Nat.le_refl _, by simp; omega⟩, (fun g hg => by cases hg), (fun x hx => by cases hx), fun x hx => by cases hx⟩
theorem equal_slice8 {P : Program} (d : Nat) (t e : TypeId) (a : Addr) (n c : Nat) (W : World) (h : P.underlying t = some (.slice e)) : (Op.equalIn (d + 1) t (.slice (some a) n c) (.slice none 0 0)).run P W = .ok false W := by
  simp [Op.equalIn, run_underlying h]
theorem sliceB_nil (a : Addr) (n c : Nat) (W : World) : (binOp .eql 25 (.slice (some a) n c) (.slice none 0 0)).run Tryz.prog W = .ok (.bool false) W := by
  simp [binOp, go_sem]
  show ((Op.equalIn (9999 + 1) 25 (.slice (some a) n c) (.slice none 0 0)).run Tryz.prog W).andThen _ = _
  rw [equal_slice8 9999 _ _ a n c W Tryz.underlying25]
  rfl
theorem equal_slice9 {P : Program} (d : Nat) (t e : TypeId) (W : World) (h : P.underlying t = some (.slice e)) : (Op.equalIn (d + 1) t (.slice none 0 0) (.slice none 0 0)).run P W = .ok true W := by
  simp [Op.equalIn, run_underlying h]
theorem sliceB_nil2 (W : World) : (binOp .eql 25 (.slice none 0 0) (.slice none 0 0)).run Tryz.prog W = .ok (.bool true) W := by
  simp [binOp, go_sem]
  show ((Op.equalIn (9999 + 1) 25 (.slice none 0 0) (.slice none 0 0)).run Tryz.prog W).andThen _ = _
  rw [equal_slice9 9999 _ _ W Tryz.underlying25]
  rfl
set_option maxRecDepth 10000 in
theorem clone8 {v : Value} {xs : List Int} (w : World) (h : Has w v xs) (hl : xs.length ≤ 1099511627776) :
    Calls Tryz.prog 137 #[v] w fun e w' => (∃ v', e = .returned v' ∧ Owns w' w.heap.size 5 v' xs) ∧ Below w.heap.size w w' := by
  have hR := hasR_of_has h
  obtain ⟨p, c, rfl, h1, h2, h3⟩ := h
  obtain ⟨n, Hn⟩ : ∃ n, Hid (xs.length = n) := ⟨_, rfl⟩
  rw [Hn.out] at hR h1 h3 hl ⊢
  cases p with
  | none =>
    obtain rfl := h2 rfl
    obtain rfl : n = 0 := by omega
    obtain rfl : xs = [] := List.eq_nil_of_length_eq_zero Hn.out
    have hnil := sliceB_nil2
    go_enter Tryz.func137, Tryz.ntmps137
    go_wp2
    go_ret
    exact ⟨⟨_, rfl, Owns.nil _ _ _⟩, Below.refl _ _⟩
  | some a =>
    have hnil := sliceB_nil a n c
    have he := Owns.empty w w.heap.size 5 (Nat.le_refl _)
    have hba : Below w.heap.size w (w.alloc (.cells #[] 5)) := (Below.refl _ _).alloc (Nat.le_refl _) _
    have hR' : HasR (w.alloc (.cells #[] 5)) 1 (.slice (some a) n c) n (cellsB xs) := by
      obtain ⟨p, c', e, q1, q2, q3, q4⟩ := hR
      refine ⟨p, c', e, q1, q2, q3, fun h0 => ?_⟩
      obtain ⟨b, o, e, hb, hc⟩ := q4 h0
      exact ⟨b, o, e, Nat.lt_of_lt_of_le hb hba.size, fun j u hj => (hba.cell (p := ⟨b, o + j, none⟩) hb).trans (hc j u hj)⟩
    have hsz : w.heap.size ≤ (w.alloc (.cells #[] 5)).heap.size := hba.size
    have h0n : 0 + n ≤ 1099511627776 := by omega
    have h0m : (0 + n) * 1 ≤ 140737488355328 := by omega
    go_enter Tryz.func137, Tryz.ntmps137
    go_wp2_with (at_builtin; refine ap_row elemB _ rfl _ _ rfl w.heap.size _ _ 0 n [] (cellsB xs) rfl rfl hR' (cellsB_one _) he h0n h0m hsz ?_; intro v' w' hown' hgrow hwh; refine Halt8.out ?_)
    rw [Nat.zero_add, List.nil_append] at hown'
    have hb : Below w.heap.size w w' := hba.trans ((Below.refl _ _).grown hgrow hsz fun k hk => (World.ownsRow.lt he k hk).1)
    obtain ⟨p', c', rfl⟩ := writes_shape hown'
    have ho : Owns w' w.heap.size 5 (.slice p' n c') xs := by unfold Owns; rw [Hn.out]; exact hown'
    clear hgrow hwh hown' hR hR' he
    constructor
    go_wp2
    go_ret
    exact ⟨⟨_, rfl, ho⟩, hb⟩
section
variable {w w' : World} {d : Nat} {S : Nat → Prop} {φ : ByteArray → Nat} {σ : ByteArray → Value} {mb : Nat} {vb : Value} {R : RD} {M : DM}
def DM.readE (M : DM) (x : ByteArray) : Nat := if M.off = true then 9 else if x ∉ M.names then 4 else 0
def DM.readB (M : DM) (x : ByteArray) : List Int := if M.off = true then [] else if x ∉ M.names then [] else M.bytes x
set_option maxRecDepth 10000 in
theorem read_any (hD : DiskAt w d S M) (hI : M.Inv) {x : ByteArray} (hs : x.size ≤ maxLen) :
    Calls Tryz.prog 97 #[.pointer (some ⟨d, 0, none⟩), .string x] w fun e w' => (∃ v, e = .returned (.tuple #[v, .int .i64 (M.readE x : Nat)]) ∧ Owns w' w.heap.size 5 v (M.readB x)) ∧ Below w.heap.size w w' := by
  cases hf : M.off with
  | true =>
    have e1 : M.readE x = 9 := by unfold DM.readE; rw [if_pos hf]
    have e2 : M.readB x = [] := by unfold DM.readB; rw [if_pos hf]
    rw [e1, e2]
    have hr := findM_off hD x hf
    go_enter Tryz.func97, Tryz.ntmps97
    go_wp2_with fail
    refine same_mono hr ?_
    go_wp2
    go_ret2
    exact ⟨⟨_, rfl, Owns.nil _ _ _⟩, Below.refl _ _⟩
  | false =>
    have hf' : ¬ M.off = true := by rw [hf]; decide
    by_cases hx : x ∈ M.names
    · have e1 : M.readE x = 0 := by unfold DM.readE; rw [if_neg hf', if_neg (fun h => h hx)]
      have e2 : M.readB x = M.bytes x := by unfold DM.readB; rw [if_neg hf', if_neg (fun h => h hx)]
      rw [e1, e2]
      obtain ⟨φ, σ, mb, vb, mn, kv, h, -⟩ := hD
      have hfi := findM_yes h hs hf hx
      obtain ⟨k0, -, -⟩ := h.fcells hx
      have ho := h.row x hx
      change Owns w 0 5 (σ x) (M.bytes x) at ho
      obtain ⟨px, cx, hσ⟩ := ho.shape
      rw [hσ] at k0 ho
      clear hσ
      have hcl := clone8 w ho.has (by have := hI.size x; omega)
      go_enter Tryz.func97, Tryz.ntmps97
      go_wp2_with fail
      refine same_mono hfi ?_
      go_wp2_with fail
      refine hcl.mono ?_
      rintro e w2 ⟨⟨v', rfl, ho2⟩, hb2⟩
      obtain ⟨p', c', rfl⟩ := ho2.shape
      go_wp2
      go_ret2
      exact ⟨⟨_, rfl, ho2⟩, hb2⟩
    · have e1 : M.readE x = 4 := by unfold DM.readE; rw [if_neg hf', if_pos hx]
      have e2 : M.readB x = [] := by unfold DM.readB; rw [if_neg hf', if_pos hx]
      rw [e1, e2]
      have hr := findM_none hD hs hf hx
      go_enter Tryz.func97, Tryz.ntmps97
      go_wp2_with fail
      refine same_mono hr ?_
      go_wp2
      go_ret2
      exact ⟨⟨_, rfl, Owns.nil _ _ _⟩, Below.refl _ _⟩
end

theorem flipB_wrs : ∀ (buf : List (ByteArray × List Int)) (x : ByteArray) (i : Nat) (y : Int), wrs (flipB buf x i y) = wrs buf ∧ tot (flipB buf x i y) = tot buf
  | [], _, _, _ => ⟨rfl, rfl⟩
  | w :: r, x, i, y => by
    rw [flipB]
    split
    · split
      · refine ⟨?_, ?_⟩
        · show (w.1, (w.2.set i _).length) :: wrs r = (w.1, w.2.length) :: wrs r
          rw [List.length_set]
        · rw [tot, tot, List.length_set]
      · obtain ⟨h1, h2⟩ := flipB_wrs r x (i - w.2.length) y
        exact ⟨by show _ :: wrs (flipB _ _ _ _) = _ :: wrs r; rw [h1], by rw [tot, tot, h2]⟩
    · obtain ⟨h1, h2⟩ := flipB_wrs r x i y
      exact ⟨by show _ :: wrs (flipB _ _ _ _) = _ :: wrs r; rw [h1], by rw [tot, tot, h2]⟩
theorem flipB_other : ∀ (buf : List (ByteArray × List Int)) (x z : ByteArray) (i : Nat) (y : Int), z ≠ x → pend (flipB buf x i y) z = pend buf z
  | [], _, _, _, _, _ => rfl
  | w :: r, x, z, i, y, h => by
    rw [flipB]
    split
    · rename_i hw
      split
      · rw [pend, pend, if_neg (by rw [hw]; exact Ne.symm h), if_neg (by rw [hw]; exact Ne.symm h)]
      · rw [pend, pend, flipB_other r x z _ y h]
    · rw [pend, pend, flipB_other r x z _ y h]
theorem flipB_pend : ∀ (buf : List (ByteArray × List Int)) (x : ByteArray) (i : Nat) (y : Int), i < (pend buf x).length → pend (flipB buf x i y) x = (pend buf x).set i (xor8 ((pend buf x).getD i 0) y)
  | [], _, _, _, h => by simp [pend] at h
  | w :: r, x, i, y, h => by
    rw [pend] at h ⊢
    rw [flipB]
    by_cases hw : w.1 = x
    · rw [if_pos hw] at h ⊢
      rw [if_pos hw]
      split
      · rename_i hi
        rw [pend, if_pos hw, List.set_append_left _ _ hi, List.getD_eq_getElem?_getD, List.getD_eq_getElem?_getD, List.getElem?_append_left hi]
      · rename_i hi
        rw [List.length_append] at h
        rw [pend, if_pos hw, flipB_pend r x (i - w.2.length) y (by omega), List.set_append_right _ _ (by omega), List.getD_eq_getElem?_getD, List.getD_eq_getElem?_getD, List.getElem?_append_right (by omega)]
    · rw [if_neg hw] at h ⊢
      rw [if_neg hw, pend, if_neg hw]
      rw [List.nil_append] at h ⊢
      rw [List.nil_append]
      exact flipB_pend r x i y h
theorem flipL_lk {l : List (ByteArray × List Int)} (x : ByteArray) (i : Nat) (y : Int) (z : ByteArray) : lk (flipL l x i y) z = if z = x then (lk l z).set i (xor8 ((lk l z).getD i 0) y) else lk l z := by
  induction l with
  | nil => simp [flipL, lk]
  | cons f r ih =>
    show lk ((if f.1 = x then (f.1, f.2.set i (xor8 (f.2.getD i 0) y)) else f) :: flipL r x i y) z = _
    rw [lk, lk, ih]
    by_cases hf : f.1 = x
    · rw [if_pos hf]
      by_cases hz : f.1 = z
      · rw [if_pos hz, if_pos hz, if_pos (by rw [← hz]; exact hf)]
      · rw [if_neg hz, if_neg hz]
    · rw [if_neg hf]
      by_cases hz : f.1 = z
      · rw [if_pos hz, if_pos hz, if_neg (by rw [← hz]; exact hf)]
      · rw [if_neg hz, if_neg hz]
theorem flipL_nms (l : List (ByteArray × List Int)) (x : ByteArray) (i : Nat) (y : Int) : nms (flipL l x i y) = nms l := by
  unfold nms flipL
  rw [List.map_map]
  refine List.map_congr_left fun f _ => ?_
  show (if f.1 = x then (f.1, f.2.set i (xor8 (f.2.getD i 0) y)) else f).1 = f.1
  split <;> rfl
theorem flip_bytes {M : DM} {x : ByteArray} {i : Nat} (y : Int) (hi : i < (M.bytes x).length) (z : ByteArray) : (M.flip x i y).bytes z = upd M.bytes x ((M.bytes x).set i (xor8 ((M.bytes x).getD i 0) y)) z ∧ (lk (M.flip x i y).L z).length = (lk M.L z).length ∧ (M.flip x i y).names = M.names := by
  unfold DM.flip
  split
  · rename_i hl
    refine ⟨?_, ?_, flipL_nms _ _ _ _⟩
    · show lk (flipL M.L x i y) z ++ pend M.buf z = _
      rw [flipL_lk]
      by_cases hz : z = x
      · subst hz
        rw [if_pos rfl, upd_at]
        unfold DM.bytes
        rw [List.set_append_left _ _ hl, List.getD_eq_getElem?_getD, List.getD_eq_getElem?_getD, List.getElem?_append_left hl]
      · rw [if_neg hz, upd_ne hz]
        rfl
    · show (lk (flipL M.L x i y) z).length = _
      rw [flipL_lk]
      split
      · rw [List.length_set]
      · rfl
  · rename_i hl
    refine ⟨?_, rfl, rfl⟩
    show lk M.L z ++ pend (flipB M.buf x (i - (lk M.L x).length) y) z = _
    by_cases hz : z = x
    · subst hz
      rw [upd_at]
      unfold DM.bytes at hi ⊢
      rw [List.length_append] at hi
      rw [flipB_pend _ _ _ _ (by omega), List.set_append_right _ _ (by omega), List.getD_eq_getElem?_getD, List.getD_eq_getElem?_getD, List.getElem?_append_right (by omega)]
    · rw [flipB_other _ _ _ _ _ hz, upd_ne hz]
      rfl
theorem flip_lies {w : World} {d : Nat} {S : Nat → Prop} {φ : ByteArray → Nat} {σ : ByteArray → Value} {mb : Nat} {vb : Value} {M : DM} {mn : Nat} {kv : Int} {x : ByteArray} {i : Nat} {y : Int} (hI : M.Inv) (hi : i < (M.bytes x).length)
    (h : Lies8 w d S φ σ mb vb { M.raw mn kv with bt := upd M.bytes x ((M.bytes x).set i (xor8 ((M.bytes x).getD i 0) y)) }) : Lies8 w d S φ σ mb vb ((M.flip x i y).raw mn kv) := by
  have hb := flip_bytes (M := M) y hi
  have hn := (hb x).2.2
  have hlen : ∀ z, ((M.flip x i y).bytes z).length = (M.bytes z).length := fun z => by
    rw [(hb z).1]
    by_cases hz : z = x
    · subst hz; rw [upd_at, List.length_set]
    · rw [upd_ne hz]
  have hbuf : wrs (M.flip x i y).buf = wrs M.buf ∧ tot (M.flip x i y).buf = tot M.buf := by
    unfold DM.flip
    split
    · exact ⟨rfl, rfl⟩
    · exact flipB_wrs _ _ _ _
  have hrest : (M.flip x i y).blocks = M.blocks ∧ (M.flip x i y).off = M.off ∧ (M.flip x i y).ops = M.ops ∧ (M.flip x i y).n = M.n ∧ (M.flip x i y).keep = M.keep := by
    unfold DM.flip
    split <;> exact ⟨rfl, rfl, rfl, rfl, rfl⟩
  have hnd := hI.nodup
  refine h.congr (fun z => by show z ∈ (M.flip x i y).names ↔ z ∈ M.names; rw [hn]) (fun z _ => (hb z).1) (fun z _ => (hb z).2.1) hbuf.1 rfl ?_ ?_ ?_ ?_ ?_ ?_ rfl
  · show ((tot (M.flip x i y).buf : Nat) : Int) = (tot M.buf : Nat)
    rw [hbuf.2]
  · show (((M.flip x i y).blocks : Nat) : Int) = (M.blocks : Nat)
    rw [hrest.1]
  · show (((M.flip x i y).used : Nat) : Int) = (M.used : Nat)
    unfold DM.used
    rw [used_sum (by rw [show nms (M.flip x i y).L = nms M.L from hn]; exact hnd), used_sum hnd, show nms (M.flip x i y).L = nms M.L from hn]
    congr 1
    exact sumN_congr fun z _ => congrArg need (hlen z)
  · show (!(M.flip x i y).off) = !M.off
    rw [hrest.2.1]
  · show (((M.flip x i y).ops : Nat) : Int) = (M.ops : Nat)
    rw [hrest.2.2.1]
  · show (((M.flip x i y).n : Nat) : Int) = (M.n : Nat)
    rw [hrest.2.2.2.1]
theorem xor_u8 (a b : Nat) (ha : a < 256) (hb : b < 256) : bits .xor .u8 (a : Int) (b : Int) = ((a ^^^ b : Nat) : Int) := by
  have hx : a ^^^ b < 2 ^ 8 := Nat.xor_lt_two_pow (by omega) (by omega)
  have h1 : (BitVec.ofInt 8 (a : Int)).toNat = a := by
    rw [BitVec.ofInt_natCast, BitVec.toNat_ofNat]; exact Nat.mod_eq_of_lt (by omega)
  have h2 : (BitVec.ofInt 8 (b : Int)).toNat = b := by
    rw [BitVec.ofInt_natCast, BitVec.toNat_ofNat]; exact Nat.mod_eq_of_lt (by omega)
  show IntKind.u8.wrap ((BitVec.ofInt 8 (a : Int) ^^^ BitVec.ofInt 8 (b : Int)).toNat : Int) = _
  rw [BitVec.toNat_xor, h1, h2, IntKind.wrap_u8]
  omega
theorem pow8 {k : Nat} (hk : k < 8) : 2 ^ k < 256 := Nat.lt_of_lt_of_le (Nat.pow_lt_pow_right (by decide) hk) (by decide)
theorem xor_bit {z : Int} (hz : 0 ≤ z ∧ z < 256) {k : Nat} (hk : k < 8) : bits .xor .u8 z ((2 : Int) ^ k % 256) = xor8 z ((2 ^ k : Nat) : Int) := by
  have hp := pow8 hk
  obtain ⟨a, rfl⟩ : ∃ a : Nat, z = a := ⟨z.toNat, by omega⟩
  have e : ((2 : Int) ^ k % 256) = ((2 ^ k : Nat) : Int) := by
    have : ((2 ^ k : Nat) : Int) = (2 : Int) ^ k := by simp
    rw [← this]
    exact Int.emod_eq_of_lt (Int.natCast_nonneg _) (Int.ofNat_lt.2 hp)
  rw [e, xor_u8 a (2 ^ k) (by omega) hp]
  unfold xor8
  rw [Int.toNat_natCast, Int.toNat_natCast]
theorem Lies8.setY {w : World} {d : Nat} {S : Nat → Prop} {φ : ByteArray → Nat} {σ : ByteArray → Value} {mb : Nat} {vb : Value} {R : RD} (h : Lies8 w d S φ σ mb vb R) {x : ByteArray} (hx : x ∈ R.names) {g n c : Nat} (hσ : σ x = .slice (some ⟨g, 0, none⟩) n c) (j : Nat) (z : Int) :
    Lies8 (w.setCell ⟨g, j, none⟩ (.int .u8 z)) d S φ σ mb vb { R with bt := upd R.bt x ((R.bt x).set j z) } := by
  have ho := h.row x hx
  rw [hσ] at ho
  have hn : n = (R.bt x).length := by
    rcases ho.2 with ⟨e, _⟩ | ⟨g', cap, cur, e, _⟩
    · cases e
    · simp only [Value.slice.injEq] at e; exact e.2.1
  subst hn
  obtain ⟨s1, s2⟩ := ho.store j z
  have hb : (σ x).ownBlock = some g := by rw [hσ]; rfl
  refine ⟨(heap_set_other fun e => h.dR hx (by rw [hb, e])).trans h.obj, h.map.same (heap_set_other fun e => h.mR hx (by rw [hb, e])), row_same h.buf fun k hk => heap_set_other fun e => h.rB hx hb (by rw [hk, e]), fun y hy => (heap_set_other fun e => h.fR hx hy (by rw [hb, e])).trans (h.file y hy), fun y hy => ?_, h.inj, h.apart, h.mem, h.sD, h.sM, h.sB, h.sF, h.sR⟩
  show Owns _ 0 _ (σ y) (upd R.bt x _ y)
  by_cases e : y = x
  · subst e
    rw [upd_at, hσ]
    rw [show (R.bt y).length = ((R.bt y).set j z).length by simp] at s1
    rw [show (R.bt y).length = ((R.bt y).set j z).length by simp]
    exact s1
  · rw [upd_ne e]
    exact row_same (h.row y hy) fun k hk => heap_set_other fun e1 => h.apart x hx y hy (Ne.symm e) g hb (by rw [hk, e1])
section
variable {w w' : World} {d : Nat} {S : Nat → Prop} {φ : ByteArray → Nat} {σ : ByteArray → Value} {mb : Nat} {vb : Value} {R : RD} {M : DM}
set_option maxRecDepth 10000 in
set_option maxHeartbeats 1000000 in
theorem spoil_any (hD : DiskAt w d S M) (hI : M.Inv) {x : ByteArray} (hs : x.size ≤ maxLen) (i b : Int) (hi : -9223372036854775808 ≤ i ∧ i ≤ 9223372036854775807) (hb : -9223372036854775808 ≤ b ∧ b ≤ 9223372036854775807) :
    Calls Tryz.prog 27 #[.pointer (some ⟨d, 0, none⟩), .string x, .int .i64 i, .int .i64 b] w fun e w' => e = .returned (.int .i64 ((M.spoil x i b).1 : Nat)) ∧ DiskAt w' d S (M.spoil x i b).2 ∧ Turn S w w' := by
  cases hf : M.off with
  | true =>
    have e : M.spoil x i b = (9, M) := by unfold DM.spoil; rw [if_pos hf]
    rw [e]
    have hr := findM_off hD x hf
    go_enter Tryz.func27, Tryz.ntmps27
    go_wp2_with fail
    refine same_mono hr ?_
    go_wp2
    go_ret
    exact ⟨rfl, hD, Turn.refl _ _⟩
  | false =>
    have hf' : ¬ M.off = true := by rw [hf]; decide
    by_cases hx : x ∈ M.names
    · have hD0 := hD
      obtain ⟨φ, σ, mb, vb, mn, kv, h, hkv⟩ := hD
      have hfi := findM_yes h hs hf hx
      obtain ⟨k0, -, -⟩ := h.fcells hx
      have ho := h.row x hx
      change Owns w 0 5 (σ x) (M.bytes x) at ho
      obtain ⟨px, cx, hσ⟩ := ho.shape
      rw [hσ] at k0 ho
      have Hσ : Hid (σ x = .slice px (M.bytes x).length cx) := hσ
      clear hσ
      have hsz := hI.size x
      have hisb := hI.isB x
      by_cases hbad : i < 0 ∨ ((M.bytes x).length : Int) ≤ i ∨ b < 0 ∨ 7 < b
      · have e : M.spoil x i b = (6, M) := by unfold DM.spoil; rw [if_neg hf', if_neg (fun h => h hx), if_pos hbad]
        rw [e]
        obtain ⟨n, Hn⟩ : ∃ n, Hid ((M.bytes x).length = n) := ⟨_, rfl⟩
        rw [Hn.out] at k0 hbad hsz
        clear Hσ ho hisb e
        by_cases h1 : i < 0
        · go_enter Tryz.func27, Tryz.ntmps27
          go_wp2_with fail
          refine same_mono hfi ?_
          go_wp2
          go_ret
          exact ⟨rfl, hD0, Turn.refl _ _⟩
        · have h1' : 0 ≤ i := by omega
          by_cases h2 : (n : Int) ≤ i
          · go_enter Tryz.func27, Tryz.ntmps27
            go_wp2_with fail
            refine same_mono hfi ?_
            go_wp2
            go_ret
            exact ⟨rfl, hD0, Turn.refl _ _⟩
          · have h2' : i < (n : Int) := by omega
            by_cases h3 : b < 0
            · go_enter Tryz.func27, Tryz.ntmps27
              go_wp2_with fail
              refine same_mono hfi ?_
              go_wp2
              go_ret
              exact ⟨rfl, hD0, Turn.refl _ _⟩
            · have h3' : 0 ≤ b := by omega
              have h4 : 7 < b := by omega
              go_enter Tryz.func27, Tryz.ntmps27
              go_wp2_with fail
              refine same_mono hfi ?_
              go_wp2
              go_ret
              exact ⟨rfl, hD0, Turn.refl _ _⟩
      · have e : M.spoil x i b = (0, M.flip x i.toNat ((2 ^ b.toNat : Nat) : Int)) := by unfold DM.spoil; rw [if_neg hf', if_neg (fun h => h hx), if_neg hbad]
        rw [e]
        obtain ⟨j, rfl⟩ : ∃ j : Nat, i = j := ⟨i.toNat, by omega⟩
        obtain ⟨k, rfl⟩ : ∃ k : Nat, b = k := ⟨b.toNat, by omega⟩
        rw [Int.toNat_natCast, Int.toNat_natCast]
        have hj : j < (M.bytes x).length := by omega
        have hk7 : k < 8 := by omega
        have hk7' : (k : Int) ≤ 7 := by omega
        obtain ⟨g, cap, e1, -, hgl, hcap, hcell, hfz⟩ := ho.form (by omega)
        simp only [Value.slice.injEq, true_and] at e1
        obtain ⟨rfl, rfl⟩ := e1
        have c0 := hcell j hj
        have f0 := hfz j
        have hz : 0 ≤ (M.bytes x).getD j 0 ∧ (M.bytes x).getD j 0 < 256 := by
          refine hisb _ ?_
          rw [List.getD_eq_getElem?_getD, List.getElem?_eq_getElem hj]
          exact List.getElem_mem hj
        obtain ⟨z, Hz⟩ : ∃ z, Hid ((M.bytes x).getD j 0 = z) := ⟨_, rfl⟩
        rw [Hz.out] at c0 hz
        obtain ⟨n, Hn⟩ : ∃ n, Hid ((M.bytes x).length = n) := ⟨_, rfl⟩
        have hj' := hj
        rw [Hn.out] at k0 hj' hcap
        clear hcell hbad e hfz hisb hi hb hsz
        have hjn : (j : Int) < n := by omega
        go_enter Tryz.func27, Tryz.ntmps27
        go_wp2_with fail
        refine same_mono hfi ?_
        go_wp2_with fail
        refine wp_last (by kernel_rfl) (by kernel_rfl) ?_
        dsimp only [initL, lastL]
        repeat (go_big_quiet_step (fail))
        refine wpQuiet_nil ?_
        rintro _ ⟨nq, rfl⟩
        have hxb := xor_bit hz hk7
        have h3 := (h.drewN nq).setY hx Hσ.out j (xor8 ((M.bytes x).getD j 0) ((2 ^ k : Nat) : Int))
        have t3 := ((Turn.refl S w).drewN nq).setCell (p := ⟨g, j, none⟩) (.inl (h.sR x hx g (by rw [Hσ.out]; rfl))) (.int .u8 (xor8 ((M.bytes x).getD j 0) ((2 ^ k : Nat) : Int)))
        have h4 := flip_lies hI hj h3
        rw [Hz.out] at h4 t3
        clear h3
        have hnk : (M.flip x j ((2 ^ k : Nat) : Int)).n = M.n ∧ (M.flip x j ((2 ^ k : Nat) : Int)).keep = M.keep := by
          unfold DM.flip
          split <;> exact ⟨rfl, rfl⟩
        generalize xor8 z ((2 ^ k : Nat) : Int) = zx at *
        gi_wp2
        go_wp2
        go_ret
        refine ⟨rfl, ⟨φ, σ, mb, vb, mn, kv, h4, fun h0 => ?_⟩, t3⟩
        rw [hnk.1] at h0
        rw [hnk.2]
        exact hkv h0
    · have e : M.spoil x i b = (4, M) := by unfold DM.spoil; rw [if_neg hf', if_pos hx]
      rw [e]
      have hr := findM_none hD hs hf hx
      go_enter Tryz.func27, Tryz.ntmps27
      go_wp2_with fail
      refine same_mono hr ?_
      go_wp2
      go_ret
      exact ⟨rfl, hD, Turn.refl _ _⟩
end
end Go.Proofs.YthlelcmifolnfaaGreatDoor

namespace Go.Proofs.YthlelcmifolnfaaGreatDoor
open Go.RowKit
theorem below_drewN8 {B : Nat} {a w : World} (h : Below B a w) (m : Nat) : Below B a (w.drewN m) := ⟨h.os, h.tape, h.output, h.size, h.block⟩
theorem str_ne8 {a b : ByteArray} (h : ¬ a = b) : (a.toList == b.toList) = false := by
  rw [beq_eq_false_iff_ne]
  intro e
  exact h (ByteArray.ext (by simpa [ByteArray.toList_eq] using e))
def HasT8 (w : World) (v : Value) (xs : List ByteArray) : Prop :=
  ∃ p c, v = .slice p xs.length c ∧ xs.length ≤ c ∧ (p = none → c = 0) ∧
    (0 < xs.length → ∃ b o, p = some ⟨b, o, none⟩ ∧ b < w.heap.size ∧ ∀ i, i < xs.length → w.cell? ⟨b, o + i, none⟩ = some (.string (xs.getD i ByteArray.empty)))
theorem HasT8.below {w w' : World} {B : Nat} {v : Value} {xs : List ByteArray} (h : HasT8 w v xs) (hb : Below B w w') (hB : w.heap.size ≤ B) : HasT8 w' v xs := by
  obtain ⟨p, c, rfl, h1, h2, h3⟩ := h
  refine ⟨p, c, rfl, h1, h2, fun h0 => ?_⟩
  obtain ⟨b, o, rfl, hlt, hc⟩ := h3 h0
  exact ⟨b, o, rfl, Nat.lt_of_lt_of_le hlt hb.size, fun i hi => (hb.cell (p := ⟨b, o + i, none⟩) (by exact Nat.lt_of_lt_of_le hlt hB)).trans (hc i hi)⟩

set_option maxRecDepth 10000 in
set_option maxHeartbeats 2000000 in
theorem texts8 (u v : Value) (xs ys : List ByteArray) (w : World) (hx : HasT8 w u xs) (hy : HasT8 w v ys) (lx : xs.length ≤ 1099511627776) (ly : ys.length ≤ 1099511627776) :
    Calls Tryz.prog 37 #[u, v] w fun e w' => e = .returned (.bool (decide (xs = ys))) ∧ Below w.heap.size w w' := by
  obtain ⟨p, c, rfl, hc, _, hcx⟩ := hx
  obtain ⟨q, d, rfl, hd, _, hcy⟩ := hy
  by_cases hl : xs.length = ys.length
  · rcases Nat.eq_zero_or_pos xs.length with h0 | h0
    · obtain rfl : xs = [] := List.eq_nil_of_length_eq_zero h0
      obtain rfl : ys = [] := List.eq_nil_of_length_eq_zero (by simpa using hl.symm)
      go_enter Tryz.func37, Tryz.ntmps37
      go_wp2
      go_loop [13] (fun t => t = .int .i64 0) (fun _ => 0)
      case atStart => rfl
      case round =>
        obtain rfl := hrel
        go_wp2
        go_ret
        exact ⟨rfl, Below.refl _ _⟩
    · obtain ⟨b, o, rfl, hbl, hcx⟩ := hcx h0
      obtain ⟨b', o', rfl, hbl', hcy⟩ := hcy (by omega)
      have hl' : ((xs.length : Int) == (ys.length : Int)) = true := by rw [hl]; simp
      go_enter Tryz.func37, Tryz.ntmps37
      go_wp2
      go_loopw [13] (fun t wr => ∃ j : Nat, j ≤ xs.length ∧ t = .int .i64 j ∧ Hid (∀ i, i < j → xs.getD i ByteArray.empty = ys.getD i ByteArray.empty) ∧ Below w.heap.size w wr) (fun t _ => xs.length - (intOf t).toNat)
      case atStart => exact ⟨0, by omega, rfl, fun i hi => by omega, Below.refl _ _⟩
      case round =>
        obtain ⟨j, hj, rfl, hs, hb⟩ := hrel
        by_cases hlt : j < xs.length
        · have c1 : wr.cell? ⟨b, o + j, none⟩ = some (.string (xs.getD j ByteArray.empty)) := (hb.cell (p := ⟨b, o + j, none⟩) hbl).trans (hcx j hlt)
          have c2 : wr.cell? ⟨b', o' + j, none⟩ = some (.string (ys.getD j ByteArray.empty)) := (hb.cell (p := ⟨b', o' + j, none⟩) hbl').trans (hcy j (by omega))
          have hj1 : (j : Int) < (xs.length : Int) := by omega
          have hj2 : (j : Int) < (ys.length : Int) := by omega
          by_cases he : xs.getD j ByteArray.empty = ys.getD j ByteArray.empty
          · have he' : ((xs.getD j ByteArray.empty).toList == (ys.getD j ByteArray.empty).toList) = true := by rw [he]; exact beq_self_eq_true _
            have hs' : Hid (∀ i, i < j + 1 → xs.getD i ByteArray.empty = ys.getD i ByteArray.empty) := fun i hi => by
              by_cases e : i = j
              · rw [e]; exact he
              · exact hs.out i (by omega)
            clear hs he hcx hcy
            generalize xs.getD j ByteArray.empty = x at *
            generalize ys.getD j ByteArray.empty = y at *
            go_wp2
            go_quiet (fail)
            go_wp2
            go_roundw
            case rel => exact ⟨j + 1, by omega, by simp, hs', below_drewN8 hb _⟩
            case measure => simp only [intOf]; omega
          · have he' : ((xs.getD j ByteArray.empty).toList == (ys.getD j ByteArray.empty).toList) = false := str_ne8 he
            have hd0 : Hid (decide (xs = ys) = false) := decide_eq_false fun e => he (by rw [e])
            clear hs he hcx hcy
            generalize xs.getD j ByteArray.empty = x at *
            generalize ys.getD j ByteArray.empty = y at *
            go_wp2
            go_quiet (fail)
            go_wp2
            go_ret
            exact ⟨by rw [hd0.out]; rfl, below_drewN8 hb _⟩
        · obtain rfl : j = xs.length := by omega
          have he : Hid (decide (xs = ys) = true) := decide_eq_true (List.ext_getElem hl fun i h1 h2 => by
            have := hs.out i h1
            simpa [List.getD_eq_getElem?_getD, List.getElem?_eq_getElem h1, List.getElem?_eq_getElem h2] using this)
          clear hs hcx hcy
          go_wp2
          go_ret
          exact ⟨by rw [he.out]; rfl, hb⟩
  · have hne : xs ≠ ys := fun e => hl (by rw [e])
    have hd0 : decide (xs = ys) = false := decide_eq_false hne
    have hl' : ((xs.length : Int) == (ys.length : Int)) = false := by
      rw [beq_eq_false_iff_ne]; omega
    clear hcx hcy
    rw [hd0]
    go_enter Tryz.func37, Tryz.ntmps37
    go_wp2
    go_ret
    exact ⟨rfl, Below.refl _ _⟩

end Go.Proofs.YthlelcmifolnfaaGreatDoor

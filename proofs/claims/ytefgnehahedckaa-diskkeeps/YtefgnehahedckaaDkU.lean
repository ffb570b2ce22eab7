/-
  Contract: Rename.
-/
import Derived.Test.YtefgnehahedckaaDkT
namespace Go.Proofs.Ytefgnehahedckaa
open Go.RowKit Go.Maps

section
variable {w w' w'' : World} {d : Nat} {S : Nat → Prop} {φ : ByteArray → Nat} {σ : ByteArray → Value} {mb : Nat} {vb : Value} {R : RD} {M : DM}
theorem DiskF.open8 (hD : DiskF w d S φ M) (hI : M.Inv) : ∃ σ mb vb kv, Lies8 w d S φ σ mb vb (M.raw M.names.length kv) ∧ (M.n ≠ 0 → kv = M.keep) ∧ M.names.length ≤ 16777216 := by
  obtain ⟨σ, mb, vb, mn, kv, h, hkv⟩ := hD
  refine ⟨σ, mb, vb, kv, h.norm hI.nodup hI.short, hkv, ?_⟩
  have := hI.count
  show (nms M.L).length ≤ _
  unfold nms
  rw [List.length_map]
  exact this
theorem ren_lies {kv : Int} (hI : M.Inv) {a b : ByteArray} (ha : a ∈ M.names) (hb : b ∉ M.names) {mn mn' : Nat} (h : Lies8 w d S φ σ mb vb { M.raw mn kv with names := b :: without M.names a, bt := upd M.bytes b (M.bytes a), su := upd (fun y => (lk M.L y).length) b (lk M.L a).length, wr := renW (wrs M.buf) a b, mn := mn' }) : Lies8 w d S φ σ mb vb ((M.ren a b).raw mn' kv) := by
  have hab : a ≠ b := fun e => hb (e ▸ ha)
  have hnb : ∀ w ∈ M.buf, w.1 ≠ b := fun w hw (e : w.1 = b) => hb (by rw [← e]; exact hI.mem w hw)
  have hbf : b ∉ nms (M.L.filter fun f => decide (f.1 ≠ a)) := fun hm => hb ((nms_filter M.L a b).1 hm).1
  have hlk : ∀ y ∈ b :: without M.names a, lk (M.ren a b).L y = upd (lk M.L) b (lk M.L a) y := by
    intro y hy
    show lk (insF b (lk M.L a) _) y = _
    rw [lk_ins hbf]
    by_cases e : y = b
    · rw [if_pos e, e, upd_at]
    · have hya := ((mem_without _ _ _).1 ((List.mem_cons.1 hy).resolve_left e)).2
      rw [if_neg e, upd_ne e, lk_filter hya]
  refine h.congr (fun y => ?_) (fun y hy => ?_) (fun y hy => ?_) ?_ rfl ?_ rfl ?_ rfl rfl rfl rfl
  · show y ∈ (M.ren a b).names ↔ y ∈ b :: without M.names a
    rw [DM.names_ren, List.mem_cons, mem_without]
  · show lk (M.ren a b).L y ++ pend (renB M.buf a b) y = upd M.bytes b (M.bytes a) y
    rw [hlk y hy]
    by_cases e : y = b
    · rw [e, upd_at, upd_at, pend_ren_to hnb]; rfl
    · have hya := ((mem_without _ _ _).1 ((List.mem_cons.1 hy).resolve_left e)).2
      rw [upd_ne e, upd_ne e, pend_ren_other hya e]; rfl
  · show (lk (M.ren a b).L y).length = upd (fun y => (lk M.L y).length) b (lk M.L a).length y
    rw [hlk y hy]
    by_cases e : y = b
    · rw [e, upd_at, upd_at]
    · rw [upd_ne e, upd_ne e]
  · show wrs (renB M.buf a b) = renW (wrs M.buf) a b
    unfold wrs renB renW
    rw [List.map_map, List.map_map]
    refine List.map_congr_left fun v _ => ?_
    show ((if v.1 = a then (b, v.2) else v).1, (if v.1 = a then (b, v.2) else v).2.length) = if v.1 = a then (b, v.2.length) else (v.1, v.2.length)
    by_cases e : v.1 = a
    · rw [if_pos e, if_pos e]
    · rw [if_neg e, if_neg e]
  · show ((tot (renB M.buf a b) : Nat) : Int) = (tot M.buf : Nat)
    rw [tot_ren]
  · show (((M.ren a b).used : Nat) : Int) = (M.used : Nat)
    rw [DM.used_ren hI ha hb]
set_option maxRecDepth 10000 in
set_option maxHeartbeats 2000000 in
theorem rename_any (hD : DiskAt w d S M) (hO : M.Ok) (hS : ∀ k, w.heap.size ≤ k → S k) {a b : ByteArray} (hsa : a.size ≤ maxLen) (hsb : b.size ≤ maxLen) :
    Calls Try.prog 25 #[.pointer (some ⟨d, 0, none⟩), .string a, .string b] w fun e w' => e = .returned (.int .i64 ((M.rename a b).1 : Nat)) ∧ DiskAt w' d S (M.rename a b).2 ∧ Turn S w w' := by
  cases hf : M.off with
  | true =>
    have e : M.rename a b = (9, M) := by unfold DM.rename; rw [if_pos hf]
    rw [e]
    have hr := ready_off hD hf
    go_enter Try.func25, Try.ntmps25
    go_wp2_with fail
    refine same_mono hr ?_
    go_wp2
    go_ret
    exact ⟨rfl, hD, Turn.refl _ _⟩
  | false =>
    have hr := ready_on hD hf
    have hgd := good_any b hsb
    cases hg : goodN b with
    | false =>
      have e : M.rename a b = (3, M) := by unfold DM.rename; rw [if_neg (by rw [hf]; decide), if_pos hg]
      rw [e]
      rw [hg] at hgd
      go_enter Try.func25, Try.ntmps25
      go_wp2_with fail
      refine same_mono hr ?_
      go_wp2_with fail
      refine same_mono (hgd _) ?_
      go_wp2
      go_ret
      exact ⟨rfl, hD, Turn.refl _ _⟩
    | true =>
      rw [hg] at hgd
      by_cases ha : a ∈ M.names
      · obtain ⟨φ, hDF⟩ := hD
        have hfi : Calls Try.prog 57 #[.pointer (some ⟨d, 0, none⟩), .string a] w fun e w' => e = .returned (.tuple #[.pointer (some ⟨φ a, 0, none⟩), .int .i64 0]) ∧ w' = w := by
          obtain ⟨σ, mb, vb, mn, kv, h, _⟩ := hDF
          exact findM_yes h hsa hf ha
        cases hbe : M.begins with
        | false =>
          have e : M.rename a b = (9, M.begun) := by unfold DM.rename DM.act; rw [if_neg (by rw [hf]; decide), if_neg (by rw [hg]; decide), if_neg (by simpa using ha), hbe]; rfl
          rw [e]
          have hb := begin_noF hDF hO hS hbe
          go_enter Try.func25, Try.ntmps25
          go_wp2_with fail
          refine same_mono hr ?_
          go_wp2_with fail
          refine same_mono (hgd _) ?_
          go_wp2_with fail
          refine same_mono hfi ?_
          go_wp2_with fail
          refine hb.mono ?_
          rintro e w2 ⟨rfl, r1, r2⟩
          go_wp2
          go_ret
          exact ⟨rfl, ⟨φ, r1⟩, r2⟩
        | true =>
          have e : M.rename a b = (0, M.begun.rename1 a b) := by unfold DM.rename DM.act; rw [if_neg (by rw [hf]; decide), if_neg (by rw [hg]; decide), if_neg (by simpa using ha), hbe]; rfl
          rw [e]
          have hb := begin_yesF hDF hO hS hbe
          have hI1 := hO.inv.begun
          have ha1 : a ∈ M.begun.names := by show a ∈ nms M.begun.L; rw [(DM.begun_off hbe).2.1]; exact ha
          generalize M.begun = M1 at *
          clear e hO hDF hf hbe
          by_cases hab : a = b
          · have Hc : Hid (M1.rename1 a b = M1) := by show _ = _; unfold DM.rename1; rw [if_pos hab]
            subst hab
            go_enter Try.func25, Try.ntmps25
            go_wp2_with fail
            refine same_mono hr ?_
            go_wp2_with fail
            refine same_mono (hgd _) ?_
            go_wp2_with fail
            refine same_mono hfi ?_
            go_wp2_with fail
            refine hb.mono ?_
            rintro e w2 ⟨rfl, r1, r2⟩
            go_wp2
            go_ret
            exact ⟨rfl, by rw [Hc.out]; exact ⟨φ, r1⟩, r2⟩
          · have Hc : Hid (M1.rename1 a b = (M1.gone b).ren a b) := by show _ = _; unfold DM.rename1; rw [if_neg hab]
            have hab' := beq_false_of_ne (show a.toList ≠ b.toList from fun e => hab (data_inj e))
            go_enter Try.func25, Try.ntmps25
            go_wp2_with fail
            refine same_mono hr ?_
            go_wp2_with fail
            refine same_mono (hgd _) ?_
            go_wp2_with fail
            refine same_mono hfi ?_
            go_wp2_with fail
            refine hb.mono ?_
            rintro e w2 ⟨rfl, r1, r2⟩
            clear hr hgd hb hfi
            go_wp2_with fail
            refine (dropMF r1 hI1 (fun k hk => hS k (Nat.le_trans r2.size hk)) hsb).mono ?_
            rintro e w3 ⟨⟨v, rfl⟩, r3, r4⟩
            have t3 : Turn S w w3 := r2.trans r4
            have hIg := hI1.gone b
            obtain ⟨σ3, mb3, vb3, kv3, h3, hkv3, hcnt⟩ := r3.open8 hIg
            have hag : a ∈ (M1.gone b).names := (DM.names_gone M1 b a).2 ⟨ha1, hab⟩
            have hbg : b ∉ (M1.gone b).names := fun hm => ((DM.names_gone M1 b b).1 hm).2 rfl
            clear r1 r2 r3 r4 hI1 ha1
            generalize M1.gone b = M2 at *
            obtain ⟨m0, -⟩ := h3.cells
            obtain ⟨w4, hrun, hm4, hg4⟩ := h3.map.drop (names' := without M2.names a) hsa (fun y => mem_without _ _ _) 0
            obtain ⟨w5, hrun5, hm5, hg5⟩ := hm4.store (by show M2.names.length < maxLen; unfold maxLen; omega) hsb (φ a)
            have hg6 : w3.grownBy w5 (some mb3) := ⟨hg5.os.trans hg4.os, hg5.tape.trans hg4.tape, hg5.output.trans hg4.output, Nat.le_trans hg4.size hg5.size, fun i hi hn => (hg5.block i (Nat.lt_of_lt_of_le hi hg4.size) hn).trans (hg4.block i hi hn)⟩
            have h5 := ren_lies hIg hag hbg (h3.renM hag hbg hm5 hg6)
            have t5 := t3.grown hg6 fun k hk => .inl (by cases hk; exact h3.sM)
            have m0' : w4.cell? ⟨d, 0, none⟩ = some (.map (some mb3)) := (hg4.cell (a := ⟨d, 0, none⟩) m0 fun e => h3.dM (Option.some.inj e).symm)
            clear h3 hm4 hg4 hm5 hg5 hg6
            go_wp2
            go_ret
            refine ⟨rfl, ?_, t5⟩
            rw [Hc.out]
            exact ⟨_, _, _, _, _, _, h5, hkv3⟩
      · have e : M.rename a b = (4, M) := by unfold DM.rename; rw [if_neg (by rw [hf]; decide), if_neg (by rw [hg]; decide), if_pos ha]
        rw [e]
        have hfi := findM_none hD hsa hf ha
        go_enter Try.func25, Try.ntmps25
        go_wp2_with fail
        refine same_mono hr ?_
        go_wp2_with fail
        refine same_mono (hgd _) ?_
        go_wp2_with fail
        refine same_mono hfi ?_
        go_wp2
        go_ret
        exact ⟨rfl, hD, Turn.refl _ _⟩
end
end Go.Proofs.Ytefgnehahedckaa

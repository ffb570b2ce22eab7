import Derived.Test.YthlelcmifolnfaaGreatDoorRg5To
import Derived.Test.YthlelcmifolnfaaGreatDoorDs4To
import Derived.Deep.RegionHeld3
namespace Go.Proofs.YthlelcmifolnfaaGreatDoor
open Go.RowKit Go.Maps
theorem keepR8 {w w1 w2 : World} {c i : Nat} {v : Value} (hc : c < w.heap.size) (hb : Below w1.heap.size w1 w2) (h : w1.cell? ⟨c, i, none⟩ = some v ∧ Below w.heap.size w w1) : w2.cell? ⟨c, i, none⟩ = some v ∧ Below w.heap.size w w2 :=
  ⟨(hb.cell (p := ⟨c, i, none⟩) (Nat.lt_of_lt_of_le hc h.2.size)).trans h.1, h.2.trans (hb.mono h.2.size)⟩
theorem heldR8 {w w1 : World} {c i : Nat} {v : Value} (h : w1.cell? ⟨c, i, none⟩ = some v ∧ Below w.heap.size w w1) : Below w.heap.size w w1 := h.2
theorem lk_at8 {t : List Tr} {i : Nat} (hi : i < t.length) {L : List (ByteArray × List Int)} (hL : trM t = L) (hn : (nms L).Nodup) : lk L (t.getD i default).1 = (t.getD i default).2.2 := by
  have hm : ((t.getD i default).1, (t.getD i default).2.2) ∈ L := by rw [← hL]; exact trM_mem (getD_mem8 hi)
  exact lk_mem hn hm
theorem name_at8 {t : List Tr} {i : Nat} (hi : i < t.length) {L : List (ByteArray × List Int)} (hL : trM t = L) {x : ByteArray} (hx : (t.getD i default).1 = x) : x ∈ nms L := by
  rw [← hL, ← hx]
  exact List.mem_map.2 ⟨_, trM_mem (getD_mem8 hi), rfl⟩
section
variable {w : World} {r : Nat} {S : Nat → Prop} {M : DM}
set_option maxRecDepth 10000 in
theorem rnew_good (b : Nat) (w : World) (hb : b ≤ 16777216) : Calls Tryz.prog 18 #[.int .i64 (b : Nat)] w fun e w' => e = .returned (.pointer (some ⟨w.heap.size, 0, none⟩)) ∧ RefAt w' w.heap.size (fun k => w.heap.size ≤ k ∧ k < w'.heap.size) (DM.empty b) ∧ Below w.heap.size w w' := by
  have h1 : ¬ (b : Int) < 0 := by omega
  have h2 : ¬ (16777216 : Int) < b := by omega
  have h2' : (b : Int) ≤ 16777216 := by omega
  go_enter Tryz.func18, Tryz.ntmps18
  go_wp2
  go_ret
  refine ⟨rfl, ⟨.slice none 0 0, .slice none 0 0, [], [], 0, ⟨heap_alloc_new w _, World.ownsRow_nil _ _ _ _, World.ownsRow_nil _ _ _ _, ⟨Nat.le_refl _, by simp⟩, (fun g hg => by cases hg), (fun g hg => by cases hg), (fun f hf => by cases hf), (fun f hf => by cases hf)⟩, rfl, rfl, rfl⟩, (Below.refl _ _).alloc (Nat.le_refl _) _⟩
theorem RefAt.cell3 (h : RefAt w r S M) : w.cell? ⟨r, 3, none⟩ = some (.bool M.off) ∧ r < w.heap.size := by
  obtain ⟨vl, vb, tl, tb, n0, h1, -⟩ := h
  obtain ⟨-, -, -, c3, -⟩ := h1.cells
  exact ⟨c3, h1.lt⟩
set_option maxRecDepth 10000 in
theorem rsync_any (h : RefAt w r S M) (hO : M.Ok) (hS : ∀ k, w.heap.size ≤ k → S k) :
    Calls Tryz.prog 74 #[.pointer (some ⟨r, 0, none⟩)] w fun e w' => e = .returned (.int .i64 (M.syncs.1 : Nat)) ∧ RefAt w' r S M.syncs.2 ∧ Turn S w w' := by
  obtain ⟨c3, hlt⟩ := h.cell3
  have hR : Hid (RefAt w r S M) := h
  cases hf : M.off with
  | true =>
    have e1 : M.syncs = (9, M) := by unfold DM.syncs; rw [if_pos hf]
    rw [e1]
    rw [hf] at c3
    clear h
    go_enter Tryz.func74, Tryz.ntmps74
    go_wp2
    go_ret
    exact ⟨rfl, hR.out, Turn.refl _ _⟩
  | false =>
    have hbg := rbegin_any h hO hS
    rw [hf] at c3
    cases hbe : M.begins with
    | false =>
      have e1 : M.syncs = (9, M.begun) := by unfold DM.syncs DM.act; rw [if_neg (by rw [hf]; decide), hbe, if_neg (by decide)]
      rw [e1]
      rw [hbe] at hbg
      clear h hR e1
      go_enter Tryz.func74, Tryz.ntmps74
      go_wp2_with fail
      refine hbg.mono ?_
      rintro e w2 ⟨rfl, h2, t2⟩
      clear hbg
      go_wp2
      go_ret
      exact ⟨rfl, h2, t2⟩
    | true =>
      have e1 : M.syncs = (0, M.begun.sync) := by unfold DM.syncs DM.act; rw [if_neg (by rw [hf]; decide), hbe, if_pos rfl]
      rw [e1]
      rw [hbe] at hbg
      have hI1 := hO.inv.begun
      have ho1 : M.begun.ops ≤ 1099511627776 := by rw [DM.begun_ops]; exact hO.ops
      have hS' : Hid (∀ k, w.heap.size ≤ k → S k) := hS
      generalize M.begun = M1 at *
      clear h hR e1 hS
      go_enter Tryz.func74, Tryz.ntmps74
      go_wp2_with fail
      refine hbg.mono ?_
      rintro e w2 ⟨rfl, h2, t2⟩
      clear hbg c3
      have h2' : Hid (RefAt w2 r S M1) := h2
      obtain ⟨vl, vb, tl, tb, n0, h3, hL, hB, hn⟩ := h2
      obtain ⟨z1, z2, z3, z4, z5⟩ := ref_sizes hI1 hL hB
      have hpe := rpending_any h3 (by omega) (by omega)
      rw [hB] at hpe z4
      clear h3 hL hn z3 z5 hB
      go_wp2_with fail
      refine hpe.mono ?_
      rintro e w3 ⟨rfl, hb3⟩
      have hsu := rsure_at (h2'.out.below hb3) hI1 ho1 (fun k hk => hS'.out k (Nat.le_trans t2.size (Nat.le_trans hb3.size hk))) (tot M1.buf) (by omega)
      rw [← DM.sync_eq] at hsu
      clear hpe
      go_wp2_with fail
      refine hsu.mono ?_
      rintro e w4 ⟨⟨v, rfl⟩, h4, t4⟩
      clear hsu
      go_wp2
      go_ret
      exact ⟨rfl, h4, t2.trans ((Turn.of_below hb3 (Nat.le_refl _)).trans t4)⟩
set_option maxRecDepth 10000 in
theorem rremove_any (h : RefAt w r S M) (hO : M.Ok) (hS : ∀ k, w.heap.size ≤ k → S k) (x : ByteArray) :
    Calls Tryz.prog 34 #[.pointer (some ⟨r, 0, none⟩), .string x] w fun e w' => e = .returned (.int .i64 ((M.remove x).1 : Nat)) ∧ RefAt w' r S (M.remove x).2 ∧ Turn S w w' := by
  obtain ⟨c3, hlt⟩ := h.cell3
  have hR : Hid (RefAt w r S M) := h
  cases hf : M.off with
  | true =>
    have e1 : M.remove x = (9, M) := by unfold DM.remove; rw [if_pos hf]
    rw [e1]
    rw [hf] at c3
    clear h
    go_enter Tryz.func34, Tryz.ntmps34
    go_wp2
    go_ret
    exact ⟨rfl, hR.out, Turn.refl _ _⟩
  | false =>
    have hf' : ¬ M.off = true := by rw [hf]; decide
    rw [hf] at c3
    obtain ⟨vl, vb, tl, tb, n0, h1, hL, hB, hn⟩ := h
    obtain ⟨z1, z2, z3, z4, z5⟩ := ref_sizes hO.inv hL hB
    have hfi := rfind_any h1 (by omega) x
    clear h1 z3 z5 hn
    go_enter Tryz.func34, Tryz.ntmps34
    go_wp2_with fail
    refine hfi.mono ?_
    rintro e w2 ⟨⟨z, rfl, hz⟩, hb2⟩
    clear hfi
    have h2 := hR.out.below hb2
    have t2 : Turn S w w2 := Turn.of_below hb2 (Nat.le_refl _)
    rcases hz with ⟨rfl, hno⟩ | ⟨i, rfl, hi, hnm, -⟩
    · rw [hL] at hno
      have e1 : Hid (M.remove x = (4, M)) := by show _ = _; unfold DM.remove; rw [if_neg hf', if_pos hno]
      clear hno
      go_wp2
      go_ret
      exact ⟨by rw [e1.out]; rfl, by rw [e1.out]; exact h2, t2⟩
    · have hx := name_at8 hi hL hnm
      have hS2 : ∀ k, w2.heap.size ≤ k → S k := fun k hk => hS k (Nat.le_trans hb2.size hk)
      have hbg := rbegin_any h2 hO hS2
      have hi0 : ¬ (i : Int) < 0 := by omega
      cases hbe : M.begins with
      | false =>
        have e1 : Hid (M.remove x = (9, M.begun)) := by show _ = _; unfold DM.remove DM.act; rw [if_neg hf', if_neg (fun h => h hx), hbe, if_neg (by decide)]
        rw [hbe] at hbg
        clear hnm hx hi h2
        go_wp2_with fail
        refine hbg.mono ?_
        rintro e w3 ⟨rfl, h3, t3⟩
        clear hbg
        go_wp2
        go_ret
        exact ⟨by rw [e1.out]; rfl, by rw [e1.out]; exact h3, t2.trans t3⟩
      | true =>
        have e1 : Hid (M.remove x = (0, M.begun.gone x)) := by show _ = _; unfold DM.remove DM.act; rw [if_neg hf', if_neg (fun h => h hx), hbe, if_pos rfl]
        rw [hbe] at hbg
        have hI1 := hO.inv.begun
        have hx1 : Hid (x ∈ nms M.begun.L) := by show _ ∈ _; rw [(DM.begun_off hbe).2.1]; exact hx
        have hops : M.begun.ops ≤ 1099511627776 := by rw [DM.begun_ops]; exact hO.ops
        generalize M.begun = M1 at *
        clear hnm hx hi h2
        go_wp2_with fail
        refine hbg.mono ?_
        rintro e w3 ⟨rfl, h3, t3⟩
        clear hbg
        clear hL hB z1 z2 z4 tl tb
        obtain ⟨vl, vb, tl, tb, n0, h3, hL, hB, hn⟩ := h3
        obtain ⟨z1, z2, z3, z4, z5⟩ := ref_sizes hI1 hL hB
        have hfi := rfind_any h3 (by omega) x
        have hS3 : ∀ k, w3.heap.size ≤ k → S k := fun k hk => hS2 k (Nat.le_trans t3.size hk)
        go_wp2_with fail
        refine hfi.mono ?_
        rintro e w4 ⟨⟨z, rfl, hz⟩, hb4⟩
        clear hfi
        rcases hz with ⟨rfl, hno⟩ | ⟨i2, rfl, hi2, hnm2, -⟩
        · rw [hL] at hno
          exact absurd hx1.out hno
        have h4 := h3.below hb4
        have hgo := rgone_any h4 (fun k hk => hS3 k (Nat.le_trans hb4.size hk)) hi2 (by rw [hL]; exact hI1.nodup) z1 (by omega) hnm2
        rw [hL, hB] at hgo
        clear h3 h4 hi2 hnm2 z3
        go_wp2_with fail
        refine hgo.mono ?_
        rintro e w5 ⟨⟨v, rfl⟩, ⟨vl', vb', tl', tb', h5, hL5, hB5⟩, t5⟩
        clear hgo
        have hfin : Hid (RefAt w5 r S (M1.gone x)) := ⟨vl', vb', tl', tb', n0, h5, hL5, hB5, hn⟩
        clear h5 hL5 hB5
        go_wp2
        go_ret
        exact ⟨by rw [e1.out]; rfl, by rw [e1.out]; exact hfin.out, t2.trans (t3.trans ((Turn.of_below hb4 (Nat.le_refl _)).trans t5))⟩
set_option maxRecDepth 10000 in
theorem rread_any (h : RefAt w r S M) (hO : M.Ok) (x : ByteArray) :
    Calls Tryz.prog 98 #[.pointer (some ⟨r, 0, none⟩), .string x] w fun e w' => (∃ v, e = .returned (.tuple #[v, .int .i64 (M.readE x : Nat)]) ∧ Owns w' w.heap.size 5 v (M.readB x)) ∧ Below w.heap.size w w' := by
  obtain ⟨c3, hlt⟩ := h.cell3
  cases hf : M.off with
  | true =>
    have e1 : M.readE x = 9 := by unfold DM.readE; rw [if_pos hf]
    have e2 : M.readB x = [] := by unfold DM.readB; rw [if_pos hf]
    rw [e1, e2]
    rw [hf] at c3
    clear h
    go_enter Tryz.func98, Tryz.ntmps98
    go_wp2
    go_ret2
    exact ⟨⟨_, rfl, Owns.nil _ _ _⟩, Below.refl _ _⟩
  | false =>
    have hf' : ¬ M.off = true := by rw [hf]; decide
    have hops := hO.ops
    rw [hf] at c3
    obtain ⟨vl, vb, tl, tb, n0, h1, hL, hB, hn⟩ := h
    obtain ⟨z1, z2, z3, z4, z5⟩ := ref_sizes hO.inv hL hB
    have hfi := rfind_any h1 (by omega) x
    go_enter Tryz.func98, Tryz.ntmps98
    go_wp2_with fail
    refine hfi.mono ?_
    rintro e w2 ⟨⟨z, rfl, hz⟩, hb2⟩
    clear hfi
    rcases hz with ⟨rfl, hno⟩ | ⟨i, rfl, hi, hnm, -⟩
    · rw [hL] at hno
      have e1 : Hid (M.readE x = 4) := by show _ = _; unfold DM.readE; rw [if_neg hf', if_pos hno]
      have e2 : Hid (M.readB x = []) := by show _ = _; unfold DM.readB; rw [if_neg hf', if_pos hno]
      clear hno z3
      go_wp2
      go_ret2
      exact ⟨⟨_, by rw [e1.out]; rfl, by rw [e2.out]; exact Owns.nil _ _ _⟩, hb2⟩
    · have hx := name_at8 hi hL hnm
      have e1 : Hid (M.readE x = 0) := by show _ = _; unfold DM.readE; rw [if_neg hf', if_neg (fun h => h hx)]
      have e2 : Hid (M.readB x = (tl.getD i default).2.2 ++ pend (trM tb) (tl.getD i default).1) := by
        show _ = _
        have := lk_at8 hi hL hO.inv.nodup
        unfold DM.readB DM.bytes
        rw [if_neg hf', if_neg (fun h => h hx), ← this, hnm, hB]
      have h2 := h1.below hb2
      have hal := rall_any h2 hi (by omega) (by have := z3 _ (getD_mem8 hi); omega)
      have hi0 : ¬ (i : Int) < 0 := by omega
      rw [← e2.out] at hal
      clear hx hnm z3 h2 h1
      go_wp2_with fail
      refine hal.mono ?_
      rintro e w3 ⟨⟨v', rfl, ho⟩, hb3⟩
      clear hal
      have ho' : Hid (Owns w3 w2.heap.size 5 v' (M.readB x)) := ho
      obtain ⟨p, c, rfl⟩ := ho.shape
      clear ho e2
      go_wp2
      go_ret2
      exact ⟨⟨_, by rw [e1.out]; rfl, ho'.out.mono hb2.size⟩, hb2.trans (hb3.mono hb2.size)⟩
end
section
variable {w : World} {r : Nat} {S : Nat → Prop} {M : DM}
set_option maxRecDepth 10000 in
set_option maxHeartbeats 2000000 in
theorem rcreate_any (h : RefAt w r S M) (hO : M.Ok) (hS : ∀ k, w.heap.size ≤ k → S k) {x : ByteArray} (hs : x.size ≤ maxLen) :
    Calls Tryz.prog 30 #[.pointer (some ⟨r, 0, none⟩), .string x] w fun e w' => e = .returned (.int .i64 ((M.create x).1 : Nat)) ∧ RefAt w' r S (M.create x).2 ∧ Turn S w w' := by
  obtain ⟨c3, hlt⟩ := h.cell3
  have hR : Hid (RefAt w r S M) := h
  cases hf : M.off with
  | true =>
    have e1 : M.create x = (9, M) := by unfold DM.create; rw [if_pos hf]
    rw [e1]
    rw [hf] at c3
    clear h
    go_enter Tryz.func30, Tryz.ntmps30
    go_wp2
    go_ret
    exact ⟨rfl, hR.out, Turn.refl _ _⟩
  | false =>
    have hf' : ¬ M.off = true := by rw [hf]; decide
    rw [hf] at c3
    have hgd := rgood_dk x hs w
    cases hg : goodN x with
    | false =>
      have e1 : M.create x = (3, M) := by unfold DM.create; rw [if_neg hf', if_pos hg]
      rw [e1]
      rw [hg] at hgd
      clear h e1
      go_enter Tryz.func30, Tryz.ntmps30
      go_wp2_with fail
      refine same_mono hgd ?_
      clear hgd
      go_wp2
      go_ret
      exact ⟨rfl, hR.out, Turn.refl _ _⟩
    | true =>
      have hbg := rbegin_any h hO hS
      rw [hg] at hgd
      cases hbe : M.begins with
      | false =>
        have e1 : M.create x = (9, M.begun) := by unfold DM.create DM.act; rw [if_neg hf', if_neg (by rw [hg]; decide), hbe, if_neg (by decide)]
        rw [e1]
        rw [hbe] at hbg
        clear h hR e1
        go_enter Tryz.func30, Tryz.ntmps30
        go_wp2_with fail
        refine same_mono hgd ?_
        clear hgd
        go_wp2_with fail
        refine hbg.mono ?_
        rintro e w2 ⟨rfl, h2, t2⟩
        clear hbg
        go_wp2
        go_ret
        exact ⟨rfl, h2, t2⟩
      | true =>
        have e1 : M.create x = M.begun.create1 x := by unfold DM.create DM.act; rw [if_neg hf', if_neg (by rw [hg]; decide), hbe, if_pos rfl]
        rw [e1]
        rw [hbe] at hbg
        have hI1 := hO.inv.begun
        have hops : M.begun.ops ≤ 1099511627776 := by rw [DM.begun_ops]; exact hO.ops
        have hof : M.begun.off = false := by rw [(DM.begun_off hbe).1, hf]
        have hS' : Hid (∀ k, w.heap.size ≤ k → S k) := hS
        generalize M.begun = M1 at *
        clear h hR e1 hS
        go_enter Tryz.func30, Tryz.ntmps30
        go_wp2_with fail
        refine same_mono hgd ?_
        clear hgd
        go_wp2_with fail
        refine hbg.mono ?_
        rintro e w2 ⟨rfl, h2, t2⟩
        clear hbg c3
        have h2' : Hid (RefAt w2 r S M1) := h2
        obtain ⟨vl, vb, tl, tb, n0, h3, hL, hB, hn⟩ := h2
        obtain ⟨z1, z2, z3, z4, z5⟩ := ref_sizes hI1 hL hB
        have hfi := rfind_any h3 (by omega) x
        have hS2 : ∀ k, w2.heap.size ≤ k → S k := fun k hk => hS'.out k (Nat.le_trans t2.size hk)
        have hS2' : Hid (∀ k, w2.heap.size ≤ k → S k) := hS2
        clear hS2
        go_wp2_with fail
        refine hfi.mono ?_
        rintro e w4 ⟨⟨z, rfl, hz⟩, hb4⟩
        clear hfi
        have h4 := h3.below hb4
        have t4 : Turn S w w4 := t2.trans (Turn.of_below hb4 (Nat.le_refl _))
        rcases hz with ⟨rfl, hno⟩ | ⟨i, rfl, hi, hnm, -⟩
        · rw [hL] at hno
          obtain ⟨d0, -⟩ := h4.cells
          have hlt4 := h4.lt
          have s0 : w4.drew.cell? ⟨r, 0, none⟩ = some (.int .i64 (M1.blocks : Nat)) ∧ Below w4.heap.size w4 w4.drew := ⟨d0, ext_drew8 _⟩
          have hus : Hid (∀ W, Below w4.heap.size w4 W → Calls Tryz.prog 92 #[.pointer (some ⟨r, 0, none⟩)] W fun e w' => e = .returned (.int .i64 (M1.used : Nat)) ∧ Below W.heap.size W w') := by
            intro W hbW
            have := rused_any (h4.below hbW) (by omega) (by omega) (fun f hf => by have := z3 f hf; omega) (by omega)
            rw [if_neg (by rw [hof]; decide), hL, hB] at this
            exact this
          have hend : Hid (∀ W, Below w4.heap.size w4 W → RefAt W r S M1 ∧ Calls Tryz.prog 93 #[.pointer (some ⟨r, 0, none⟩), .agg #[.string x, .slice none 0 0]] W fun e w' => (∃ v, e = .returned v) ∧ RefAt w' r S (M1.put x []) ∧ Turn S W w') := by
            intro W hbW
            have h5 := h4.below hbW
            refine ⟨⟨vl, vb, tl, tb, n0, h5, hL, hB, hn⟩, (rput_any h5 (fun k hk => hS2'.out k (Nat.le_trans hb4.size (Nat.le_trans hbW.size hk))) (x := x) (v := .slice none 0 0) (bs := []) (Owns.nil _ _ _) (fun g hg => by cases hg) z1).mono ?_⟩
            rintro e w' ⟨he, ⟨vl', h6⟩, t6⟩
            exact ⟨he, ⟨vl', vb, _, tb, n0, h6, by rw [trM_ins, hL]; rfl, hB, hn⟩, t6⟩
          have hfit := hI1.fits
          have htop := hI1.top
          have e2 : Hid (M1.create1 x = if M1.blocks ≤ M1.used then (7, M1) else (0, M1.put x [])) := by show _ = _; unfold DM.create1; rw [if_neg hno]
          clear h3 h4 d0 z3 z5 hno
          obtain ⟨u, hu⟩ : ∃ u, Hid (M1.used = u) := ⟨_, rfl⟩
          obtain ⟨bk, hbk⟩ : ∃ u, Hid (M1.blocks = u) := ⟨_, rfl⟩
          rw [hu.out] at hus hfit e2
          rw [hbk.out] at hfit htop e2 s0
          by_cases hfull : bk ≤ u
          · have hcmp : (bk : Int) ≤ u := by omega
            rw [if_pos hfull] at e2
            go_wp2_with fail
            go_region_held3 (fun w' => w'.cell? ⟨r, 0, none⟩ = some (.int .i64 (bk : Nat)) ∧ Below w4.heap.size w4 w')
              (first | exact s0 | exact keepR8 hlt4 (by assumption) (by assumption))
              (first
                | (go_at_call 92; refine (hus.out _ (heldR8 (by assumption))).mono ?_; rintro e w5 ⟨rfl, hb5⟩))
            go_wp2
            go_ret
            rename_i hlast
            exact ⟨by rw [e2.out]; rfl, by rw [e2.out]; exact (hend.out _ (heldR8 (by assumption))).1, t4.trans (Turn.of_below (heldR8 (by assumption)) (Nat.le_refl _))⟩
          · have hcmp : ¬ (bk : Int) ≤ u := by omega
            have hcmp' : (u : Int) < bk := by omega
            rw [if_neg hfull] at e2
            go_wp2_with fail
            go_region_held3 (fun w' => w'.cell? ⟨r, 0, none⟩ = some (.int .i64 (bk : Nat)) ∧ Below w4.heap.size w4 w')
              (first | exact s0 | exact keepR8 hlt4 (by assumption) (by assumption))
              (first
                | (go_at_call 92; refine (hus.out _ (heldR8 (by assumption))).mono ?_; rintro e w5 ⟨rfl, hb5⟩))
            go_wp2_with fail
            refine ((hend.out _ (heldR8 (by assumption))).2).mono ?_
            rintro e w7 ⟨⟨v, rfl⟩, h7, t7⟩
            have t6 : Turn S w w7 := t4.trans ((Turn.of_below (heldR8 (by assumption)) (Nat.le_refl _)).trans t7)
            go_wp2
            go_ret
            exact ⟨by rw [e2.out]; rfl, by rw [e2.out]; exact h7, t6⟩
        · have hx := name_at8 hi hL hnm
          have e2 : Hid (M1.create1 x = (0, (M1.gone x).put x [])) := by show _ = _; unfold DM.create1; rw [if_pos hx]
          have hS4 : ∀ k, w4.heap.size ≤ k → S k := fun k hk => hS2'.out k (Nat.le_trans hb4.size hk)
          have hgo := rgone_any h4 hS4 hi (by rw [hL]; exact hI1.nodup) z1 (by omega) hnm
          rw [hL, hB] at hgo
          have hi0 : (0 : Int) ≤ i := by omega
          have hIg := hI1.gone x
          clear h3 h4 z3 z5 hx hnm
          go_wp2_with fail
          refine hgo.mono ?_
          rintro e w5 ⟨⟨v, rfl⟩, ⟨vl', vb', tl', tb', h5, hL5, hB5⟩, t5⟩
          clear hgo
          have hpu := rput_any h5 (fun k hk => hS4 k (Nat.le_trans t5.size hk)) (x := x) (v := .slice none 0 0) (bs := []) (Owns.nil _ _ _) (fun g hg => by cases hg) (ref_sizes (M := M1.gone x) hIg hL5 hB5).1
          clear h5
          go_wp2_with fail
          refine hpu.mono ?_
          rintro e w6 ⟨⟨v, rfl⟩, ⟨vl6, h6⟩, t6⟩
          clear hpu
          have hfin : Hid (RefAt w6 r S ((M1.gone x).put x [])) := ⟨vl6, vb', _, tb', n0, h6, by rw [trM_ins, hL5]; rfl, hB5, hn⟩
          clear h6 hL5 hB5
          go_wp2
          go_ret
          exact ⟨by rw [e2.out]; rfl, by rw [e2.out]; exact hfin.out, t4.trans (t5.trans t6)⟩
end
theorem step_grow8 {t e : TypeId} {size bytes : Nat} (E8 : Elem8 Tryz.prog t e size bytes) {ops : Array Oper} {o : Oper} {a : Act} {K : Act → World → Prop} {Q : Exit → Act → World → Prop} {E : Prop} (W : World) (hgd : o.guard = none) (s x : Operand)
    (ho : o.op = .call { callee := .builtin .append, args := #[s, x], argTypes := #[t, t] })
    (v u : Value) (n m : Nat) (xs news : List Value) (hs : a.eval s = v) (hu : a.eval x = u) (hz : HasR W size u m news) (h1 : ∀ u ∈ news, u.oneCell' = true) (hown : W.ownsRow 0 e size v n xs) (hlen : n + m ≤ 1099511627776) (hby : (n + m) * bytes ≤ 140737488355328)
    (h : ∀ v' w', w'.ownsRow 0 e size v' (n + m) (xs ++ news) → W.grownBy w' v.ownBlock → (v'.ownBlock = v.ownBlock ∨ ∃ k, v'.ownBlock = some k ∧ W.heap.size ≤ k) → K (a.put o.dst v') w') :
    if Region.wanted o (yielded ops a.tmps) = true then Oper.wp Tryz.prog o a W K Q else E := by
  have hw : Region.wanted o (yielded ops a.tmps) = true := by simp [Region.wanted, hgd]
  rw [if_pos hw]
  obtain ⟨v', w', hr, h3, h2, h4⟩ := run_row E8 W o.type 0 v u n m xs news hz h1 hown hlen hby (Nat.zero_le _)
  unfold Oper.wp execOp
  simp only [ho, resolve, invoke, builtin, Sem.run_bind, Sem.run_pure, Result.andThen_ok, List.map_toArray, List.map_cons, List.map_nil, hs, hu, hr]
  exact h v' w' h3 h2 h4
section
variable {w : World} {r : Nat} {S : Nat → Prop} {M : DM}
theorem RefLies.addB {w6 : World} {vl vb : Value} {tl tb : List Tr} {blocks : Nat} {off : Bool} {ops : Nat} {n keep : Int} (h : RefLies w6 r S vl vb tl tb blocks off ops n keep) (hS : ∀ k, w6.heap.size ≤ k → S k) {w7 w8 : World} {v7 v8 : Value} {bs : List Int} {x : ByteArray} (ho7 : Owns w7 w6.heap.size 5 v7 bs) (hb7 : Below w6.heap.size w6 w7)
    (ho8 : w8.ownsRow 0 126 2 v8 (tb.length + 1) (trs tb ++ [.string x, v7])) (hg8 : (w7.alloc (.cells #[.string x, v7] 126)).grownBy w8 vb.ownBlock) (hw8 : v8.ownBlock = vb.ownBlock ∨ ∃ k, v8.ownBlock = some k ∧ (w7.alloc (.cells #[.string x, v7] 126)).heap.size ≤ k) :
    RefLies (w8.setCell ⟨r, 2, none⟩ v8) r S vl v8 tl (tb ++ [(x, v7, bs)]) blocks off ops n keep ∧ Turn S w6 (w8.setCell ⟨r, 2, none⟩ v8) ∧ w8.frozen? ⟨r, 2, none⟩ = false ∧ w8.cell? ⟨r, 2, none⟩ = some vb := by
  have hbA : Below w6.heap.size w6 (w7.alloc (.cells #[.string x, v7] 126)) := hb7.alloc hb7.size _
  have h2 := h.below hbA
  obtain ⟨-, q2, -, -⟩ := h2.apart
  have hblk : w8.heap[r]? = _ := (hg8.block r h2.lt fun e => q2 e.symm).trans h2.blk
  have hs8 : ∀ g, v8.ownBlock = some g → S g := fun g hg => by
    rcases hw8 with e | ⟨k, e, hk⟩
    · exact h.sB g (by rw [← e]; exact hg)
    · rw [hg] at e
      cases e
      exact hS g (Nat.le_trans hbA.size hk)
  have hrow : RowQ w8 0 126 v8 (tb ++ [(x, v7, bs)]) := RowQ.snoc (f := (x, v7, bs)) ho8
  have hkeep : ∀ (v : Value) (ys : List Int), Owns (w7.alloc (.cells #[.string x, v7] 126)) 0 5 v ys → Owns w8 0 5 v ys := fun v ys ho => row_same ho fun g hg => hg8.block g (World.ownsRow.lt ho g hg).2 fun e => rowsQ_apart h2.rowB ho (by decide) e.symm hg
  refine ⟨h2.growB hg8 hrow hs8 fun f hf => ?_, ?_, by simp [World.frozen?, hblk], by simp [World.cell?, hblk]⟩
  · rcases List.mem_append.1 hf with hf | hf
    · exact ⟨hkeep _ _ (h2.byB f hf).1, (h2.byB f hf).2⟩
    · rw [List.mem_singleton.1 hf]
      have ho7' : Owns (w7.alloc (.cells #[.string x, v7] 126)) 0 5 v7 bs := (ho7.below ((Below.refl w7.heap.size w7).alloc (Nat.le_refl _) _) (Nat.le_refl _)).mono (Nat.zero_le _)
      exact ⟨hkeep _ _ ho7', fun g hg => hS g (World.ownsRow.lt ho7 g hg).1⟩
  · exact ((Turn.of_below hbA (Nat.le_refl _)).grown hg8 fun k hk => .inl (h.sB k hk)).setCell (p := ⟨r, 2, none⟩) (.inl h.sR) _
theorem at_same8 {t t' : List Tr} (h : trM t = trM t') {i : Nat} (hi : i < t.length) : i < t'.length ∧ (t'.getD i default).1 = (t.getD i default).1 := by
  have hl : t.length = t'.length := by rw [← trM_length t, h, trM_length]
  have hi' : i < t'.length := by omega
  have h1 := trM_at hi
  rw [h, trM_at hi'] at h1
  exact ⟨hi', Option.some.inj h1⟩
set_option maxRecDepth 10000 in
set_option maxHeartbeats 4000000 in
theorem rappend_any (h : RefAt w r S M) (hO : M.Ok) (hS : ∀ k, w.heap.size ≤ k → S k) (x : ByteArray) {v : Value} {bs : List Int} (hb : HasX w S v bs) (hbl : bs.length ≤ 1099511627776) :
    Calls Tryz.prog 32 #[.pointer (some ⟨r, 0, none⟩), .string x, v] w fun e w' => e = .returned (.int .i64 ((M.append x bs).1 : Nat)) ∧ RefAt w' r S (M.append x bs).2 ∧ Turn S w w' := by
  obtain ⟨c3, hlt⟩ := h.cell3
  have hR : Hid (RefAt w r S M) := h
  obtain ⟨pz, cz, rfl, hcz, -⟩ := id hb
  cases hf : M.off with
  | true =>
    have e1 : M.append x bs = (9, M) := by unfold DM.append; rw [if_pos hf]
    rw [e1]
    rw [hf] at c3
    clear h
    go_enter Tryz.func32, Tryz.ntmps32
    go_wp2
    go_ret
    exact ⟨rfl, hR.out, Turn.refl _ _⟩
  | false =>
    have hf' : ¬ M.off = true := by rw [hf]; decide
    rw [hf] at c3
    obtain ⟨vl, vb, tl, tb, n0, h1, hL, hB, hn⟩ := h
    obtain ⟨z1, z2, z3, z4, z5⟩ := ref_sizes hO.inv hL hB
    have hfi := rfind_any h1 (by omega) x
    clear h1 z3 z5 hn
    go_enter Tryz.func32, Tryz.ntmps32
    go_wp2_with fail
    refine hfi.mono ?_
    rintro e w2 ⟨⟨z, rfl, hz⟩, hb2⟩
    clear hfi
    have h2 := hR.out.below hb2
    have t2 : Turn S w w2 := Turn.of_below hb2 (Nat.le_refl _)
    rcases hz with ⟨rfl, hno⟩ | ⟨i, rfl, hi, hnm, -⟩
    · rw [hL] at hno
      have e1 : Hid (M.append x bs = (4, M)) := by show _ = _; unfold DM.append; rw [if_neg hf', if_pos hno]
      clear hno
      go_wp2
      go_ret
      exact ⟨by rw [e1.out]; rfl, by rw [e1.out]; exact h2, t2⟩
    · have hx := name_at8 hi hL hnm
      have hS2 : ∀ k, w2.heap.size ≤ k → S k := fun k hk => hS k (Nat.le_trans hb2.size hk)
      have hbg := rbegin_any h2 hO hS2
      have hi0 : ¬ (i : Int) < 0 := by omega
      cases hbe : M.begins with
      | false =>
        have e1 : Hid (M.append x bs = (9, M.begun)) := by show _ = _; unfold DM.append DM.act; rw [if_neg hf', if_neg (fun h => h hx), hbe, if_neg (by decide)]
        rw [hbe] at hbg
        clear hnm hx hi h2
        go_wp2_with fail
        refine hbg.mono ?_
        rintro e w3 ⟨rfl, h3, t3⟩
        clear hbg
        go_wp2
        go_ret
        exact ⟨by rw [e1.out]; rfl, by rw [e1.out]; exact h3, t2.trans t3⟩
      | true =>
        have e1 : Hid (M.append x bs = M.begun.append1 x bs) := by show _ = _; unfold DM.append DM.act; rw [if_neg hf', if_neg (fun h => h hx), hbe, if_pos rfl]
        rw [hbe] at hbg
        have hI1 := hO.inv.begun
        have hL1 : Hid (M.begun.L = trM tl) := by show _ = _; rw [(DM.begun_off hbe).2.1, hL]
        have hops : M.begun.ops ≤ 1099511627776 := by rw [DM.begun_ops]; exact hO.ops
        have hfew : M.begun.buf.length < 1099511627776 := by
          rw [(DM.begun_off hbe).2.2.1]
          exact Nat.lt_of_le_of_lt hO.inv.few hO.ops
        have hof : M.begun.off = false := by rw [(DM.begun_off hbe).1, hf]
        generalize M.begun = M1 at *
        clear hx h2
        go_wp2_with fail
        refine hbg.mono ?_
        rintro e w3 ⟨rfl, h3, t3⟩
        clear hbg
        have t23 := t2.trans t3
        have hHX := (hb.turn t23).has
        have hS3 : ∀ k, w3.heap.size ≤ k → S k := fun k hk => hS2 k (Nat.le_trans t3.size hk)
        obtain ⟨vl3, vb3, tl3, tb3, n3, h3, hL3, hB3, hn3⟩ := h3
        obtain ⟨hi3, hnm3⟩ := at_same8 (hL1.out.symm.trans hL3.symm) hi
        rw [hnm] at hnm3
        clear hL1 hL hB z1 z2 z4 hi hnm hb hR c3 hS hS2 t2 t3
        obtain ⟨z1, z2, z3, z4, z5⟩ := ref_sizes hI1 hL3 hB3
        have hal := rall_any h3 hi3 (by omega) (by have := z3 _ (getD_mem8 hi3); omega)
        have hby : (tl3.getD i default).2.2 ++ pend (trM tb3) (tl3.getD i default).1 = M1.bytes x := by
          have := lk_at8 hi3 hL3 hI1.nodup
          unfold DM.bytes
          rw [← this, hnm3, hB3]
        rw [hby] at hal
        clear hby
        go_wp2_with fail
        refine hal.mono ?_
        rintro e w4 ⟨⟨v4, rfl, ho4⟩, hb4⟩
        clear hal
        obtain ⟨p4, c4, rfl⟩ := ho4.shape
        clear ho4
        have h4 := h3.below hb4
        have t4 : Turn S w w4 := t23.trans (Turn.of_below hb4 (Nat.le_refl _))
        replace hHX := hHX.below hb4 (Nat.le_refl _)
        have hS4 : Hid (∀ k, w4.heap.size ≤ k → S k) := fun k hk => hS3 k (Nat.le_trans hb4.size hk)
        clear h3 hS3 t23
        obtain ⟨d0, -⟩ := h4.cells
        have hlt4 := h4.lt
        have hfit := hI1.fits
        have htop := hI1.top
        have hbz := (hI1.sizes.2.2 x).1
        have Hmore : Hid (M1.more x bs = need ((M1.bytes x).length + bs.length) - need (M1.bytes x).length) := rfl
        have e2 : Hid (M1.append1 x bs = if M1.blocks - M1.used < M1.more x bs then (7, M1) else (0, { M1 with buf := M1.buf ++ [(x, bs)] })) := rfl
        have hus : Hid (∀ W, Below w4.heap.size w4 W → Calls Tryz.prog 92 #[.pointer (some ⟨r, 0, none⟩)] W fun e w' => e = .returned (.int .i64 (M1.used : Nat)) ∧ Below W.heap.size W w') := by
          intro W hbW
          have := rused_any (h4.below hbW) (by omega) (by omega) (fun f hf => by have := z3 f hf; omega) (by omega)
          rw [if_neg (by rw [hof]; decide), hL3, hB3] at this
          exact this
        have hmath : Hid (∀ u bk q1 q2 : Nat, M1.used = u → M1.blocks = bk → need (M1.bytes x).length = q1 → need ((M1.bytes x).length + bs.length) = q2 → M1.append1 x bs = if bk - u < q2 - q1 then (7, M1) else (0, { M1 with buf := M1.buf ++ [(x, bs)] })) := by
          rintro u bk q1 q2 rfl rfl rfl rfl
          rfl
        have hR4 : Hid (∀ W, Below w4.heap.size w4 W → RefAt W r S M1) := fun W hbW => ⟨vl3, vb3, tl3, tb3, n3, h4.below hbW, hL3, hB3, hn3⟩
        have hR4' : Hid (RefLies w4 r S vl3 vb3 tl3 tb3 M1.blocks M1.off M1.ops n3 M1.keep) := h4
        have htbl : tb3.length < 1099511627776 := by rw [← trM_length, hB3]; exact hfew
        obtain ⟨pb, cb, rfl, hcb⟩ := tr_shape h4.rowB
        clear h4 e2 Hmore z3 z5
        obtain ⟨u, hu⟩ : ∃ u, Hid (M1.used = u) := ⟨_, rfl⟩
        obtain ⟨bk, hbk⟩ : ∃ u, Hid (M1.blocks = u) := ⟨_, rfl⟩
        obtain ⟨n, hN⟩ : ∃ n, Hid ((M1.bytes x).length = n) := ⟨_, rfl⟩
        obtain ⟨m, hM⟩ : ∃ m, Hid (bs.length = m) := ⟨_, rfl⟩
        rw [hN.out]
        rw [hM.out]
        rw [hN.out] at hbz
        rw [hM.out] at hbl hcz
        rw [hu.out] at hus hfit
        rw [hbk.out] at hfit htop d0
        have hn1 : Hid (∀ W, Calls Tryz.prog 95 #[.int .i64 ((n : Int) + (m : Int))] W fun e w' => e = .returned (.int .i64 (need (n + m) : Nat)) ∧ w' = W) := fun W => needs_any (n + m) W (by omega)
        have hn2 : Hid (∀ W, Calls Tryz.prog 95 #[.int .i64 (n : Nat)] W fun e w' => e = .returned (.int .i64 (need n : Nat)) ∧ w' = W) := fun W => needs_any n W (by omega)
        have hnm : need n ≤ need (n + m) := need_mono (by omega)
        have hnn : need (n + m) ≤ 1099511627776 := by unfold need; omega
        obtain ⟨q1, hq1⟩ : ∃ q1, Hid (need n = q1) := ⟨_, rfl⟩
        obtain ⟨q2, hq2⟩ : ∃ q2, Hid (need (n + m) = q2) := ⟨_, rfl⟩
        have e2 := hmath.out u bk q1 q2 hu.out hbk.out (by rw [hN.out]; exact hq1.out) (by rw [hN.out, hM.out]; exact hq2.out)
        have e2' : Hid _ := e2
        clear e2 hmath
        rw [hq1.out] at hn2 hnm
        rw [hq2.out] at hn1 hnm hnn
        have s0 : w4.drew.cell? ⟨r, 0, none⟩ = some (.int .i64 (bk : Nat)) ∧ Below w4.heap.size w4 w4.drew := ⟨d0, ext_drew8 _⟩
        clear d0
        have hwr1 : IntKind.i64.wrap ((n : Int) + (m : Int)) = (n : Int) + m := by rw [IntKind.wrap_i64]; omega
        have hwr2 : IntKind.i64.wrap ((q2 : Int) - (q1 : Int)) = (q2 : Int) - q1 := by rw [IntKind.wrap_i64]; omega
        have hwr3 : IntKind.i64.wrap ((bk : Int) - (u : Int)) = (bk : Int) - u := by rw [IntKind.wrap_i64]; omega
        by_cases hfull : bk - u < q2 - q1
        · have hcmp : (bk : Int) - u < (q2 : Int) - q1 := by omega
          rw [if_pos hfull] at e2'
          go_wp2_with fail
          go_region_held3 (fun w' => w'.cell? ⟨r, 0, none⟩ = some (.int .i64 (bk : Nat)) ∧ Below w4.heap.size w4 w')
            (first | exact s0 | exact keepR8 hlt4 (by assumption) (by assumption) | assumption)
            (first
              | (go_at_call 92; refine (hus.out _ (heldR8 (by assumption))).mono ?_; rintro e w5 ⟨rfl, hb5⟩)
              | (go_at_call 95; with_reducible refine same_mono (hn1.out _) ?_)
              | (go_at_call 95; with_reducible refine same_mono (hn2.out _) ?_))
          go_wp2
          go_ret
          exact ⟨by rw [e1.out, e2'.out]; rfl, by rw [e1.out, e2'.out]; exact hR4.out _ (heldR8 (by assumption)), t4.trans (Turn.of_below (heldR8 (by assumption)) (Nat.le_refl _))⟩
        · have hcmp : ¬ (bk : Int) - u < (q2 : Int) - q1 := by omega
          have hcmp' : (q2 : Int) - q1 ≤ (bk : Int) - u := by omega
          rw [if_neg hfull] at e2'
          go_wp2_with fail
          go_region_held3 (fun w' => w'.cell? ⟨r, 0, none⟩ = some (.int .i64 (bk : Nat)) ∧ Below w4.heap.size w4 w')
            (first | exact s0 | exact keepR8 hlt4 (by assumption) (by assumption) | assumption)
            (first
              | (go_at_call 92; refine (hus.out _ (heldR8 (by assumption))).mono ?_; rintro e w5 ⟨rfl, hb5⟩)
              | (go_at_call 95; with_reducible refine same_mono (hn1.out _) ?_)
              | (go_at_call 95; with_reducible refine same_mono (hn2.out _) ?_))
          go_wp2_with fail
          have hB5 : Below w4.heap.size w4 w5 := heldR8 (by assumption)
          have h6 := hR4'.out.below hB5
          have hHX5 := hHX.below hB5 (Nat.le_refl _)
          rw [hM.out] at hHX5
          have t5 : Turn S w w5 := t4.trans (Turn.of_below hB5 (Nat.le_refl _))
          obtain ⟨-, -, d2, -⟩ := h6.cells
          have hlt5 := h6.lt
          have hadd : Hid (∀ w7 w8 v7 v8, Owns w7 w5.heap.size 5 v7 bs → Below w5.heap.size w5 w7 → w8.ownsRow 0 126 2 v8 (tb3.length + 1) (trs tb3 ++ [.string x, v7]) → (w7.alloc (.cells #[.string x, v7] 126)).grownBy w8 (Value.slice pb tb3.length cb).ownBlock → (v8.ownBlock = (Value.slice pb tb3.length cb).ownBlock ∨ ∃ k, v8.ownBlock = some k ∧ (w7.alloc (.cells #[.string x, v7] 126)).heap.size ≤ k) →
              RefAt (w8.setCell ⟨r, 2, none⟩ v8) r S { M1 with buf := M1.buf ++ [(x, bs)] } ∧ Turn S w (w8.setCell ⟨r, 2, none⟩ v8) ∧ w8.frozen? ⟨r, 2, none⟩ = false ∧ w8.cell? ⟨r, 2, none⟩ = some (.slice pb tb3.length cb)) := by
            intro w7 w8 v7 v8 k1 k2 k3 k4 k5
            obtain ⟨j1, j2, j3, j4⟩ := h6.addB (fun k hk => hS4.out k (Nat.le_trans hB5.size hk)) k1 k2 k3 k4 k5
            exact ⟨⟨_, _, _, _, n3, j1, hL3, by rw [trM_append, hB3]; rfl, hn3⟩, t5.trans j2, j3, j4⟩
          have hrow : Hid (∀ w7 o, Below w5.heap.size w5 w7 → RowQ (w7.alloc o) 0 126 (.slice pb tb3.length cb) tb3) := fun w7 o k => (h6.below (k.alloc k.size o)).rowB
          have hl1 : ([] : List Int).length + bs.length ≤ 1099511627776 := by rw [List.length_nil, hM.out]; omega
          have hl2 : tb3.length + 1 ≤ 1099511627776 := by omega
          have hl3 : (tb3.length + 1) * 40 ≤ 140737488355328 := by omega
          have hones : ∀ p c, ∀ u ∈ [Value.string x, .slice p bs.length c], u.oneCell' = true := by intro p c z hz; simp at hz; rcases hz with rfl | rfl <;> rfl
          clear h6 hR4 hR4' hus hn1 hn2
          apply once_proved9
          case main =>
            intro key
            go_region_law (first
              | (refine step_fresh8 _ rfl (.tmp 47) (.tmp 48) rfl (by first | exact ext_alloc8 (ext_drew8 _) _ | exact ext_on8 (ext_alloc8 (Below.refl _ _) _) | exact ext_alloc8 (Below.refl _ _) _) _ _ [] _ rfl rfl hHX5 (by first | exact World.ownsRow_made _ #[] 0 (Nat.le_refl _) (by decide) rfl | exact owns_none8 _) hl1 ?_; intro v7 w7 ho7 hb7; rw [List.nil_append] at ho7; obtain ⟨p7, c7, rfl⟩ := ho7.shape; have b2 := (hb7.cell (p := ⟨r, 2, none⟩) hlt5).trans d2; have hr7 : r < w7.heap.size := Nat.lt_of_lt_of_le hlt5 hb7.size)
              | (refine step_grow8 elemQ8 _ rfl (.tmp 45) (.tmp 51) rfl _ _ tb3.length 1 (trs tb3) [.string x, .slice p7 bs.length c7] rfl rfl (hasR_lit (heap_alloc_new w7 _) 1 1 rfl (Nat.le_refl _)) (hones _ _) (hrow.out _ _ hb7) hl2 hl3 ?_; intro v8 w8 ho8 hg8 hw8; have hst := hadd.out w7 w8 _ v8 ho7 hb7 ho8 hg8 hw8; obtain ⟨p8, c8, rfl⟩ := writes_shape ho8; obtain ⟨HR, HT, f28, c28⟩ := hst; have HRR : Hid _ := HR; clear HR hw8 hg8 ho8))
            all_goals
              revert p7 c7 w7 p8 c8 w8
              exact key.out
          case proof =>
            intro w7 hb7 p7 c7 ho7 b2 hr7 w8 p8 c8 HT f28 c28 HRR
            clear hadd hrow ho7 b2
            go_wp2
            go_ret
            exact ⟨by rw [e1.out, e2'.out]; rfl, by rw [e1.out, e2'.out]; exact HRR.out, HT⟩
end
def renT (a b : ByteArray) (f : Tr) : Tr := if f.1 = a then (b, f.2) else f
def mixR (a b : ByteArray) (t : List Tr) (j : Nat) : List Tr := (t.take j).map (renT a b) ++ t.drop j
theorem mixR_len (a b : ByteArray) (t : List Tr) (j : Nat) : (mixR a b t j).length = t.length := by
  unfold mixR
  rw [List.length_append, List.length_map, ← List.length_append, List.take_append_drop]
theorem mixR_at (a b : ByteArray) {t : List Tr} {j : Nat} (h : j < t.length) : (mixR a b t j).getD j default = t.getD j default := by
  unfold mixR
  rw [List.getD_eq_getElem?_getD, List.getD_eq_getElem?_getD, List.getElem?_append_right (by rw [List.length_map, List.length_take]; omega), List.length_map, List.length_take, Nat.min_eq_left (by omega), Nat.sub_self, List.getElem?_drop, Nat.add_zero]
theorem mixR_step (a b : ByteArray) {t : List Tr} {j : Nat} (h : j < t.length) : mixR a b t (j + 1) = (mixR a b t j).set j (renT a b (t.getD j default)) := by
  unfold mixR
  have hl : ((t.take j).map (renT a b)).length = j := by rw [List.length_map, List.length_take]; omega
  rw [List.set_append_right _ _ (by omega), hl, Nat.sub_self, take_snocT h, List.map_append, List.append_assoc]
  congr 1
  conv => rhs; rw [List.drop_eq_getElem_cons h]
  rw [List.set_cons_zero]
  rfl
theorem mixR_skip (a b : ByteArray) {t : List Tr} {j : Nat} (h : j < t.length) (hne : ¬ (t.getD j default).1 = a) : mixR a b t (j + 1) = mixR a b t j := by
  rw [mixR_step a b h]
  have hr : renT a b (t.getD j default) = (mixR a b t j).getD j default := by rw [mixR_at a b h]; unfold renT; rw [if_neg hne]
  rw [hr]
  have hj : j < (mixR a b t j).length := by rw [mixR_len]; exact h
  rw [List.getD_eq_getElem?_getD, List.getElem?_eq_getElem hj]
  exact List.set_getElem_self hj
theorem mixR_end (a b : ByteArray) (t : List Tr) : trM (mixR a b t t.length) = renB (trM t) a b := by
  unfold mixR renB trM
  rw [List.take_length, List.drop_length, List.append_nil, List.map_map, List.map_map]
  refine List.map_congr_left fun f _ => ?_
  show ((renT a b f).1, (renT a b f).2.2) = if f.1 = a then (b, f.2.2) else (f.1, f.2.2)
  unfold renT
  split <;> rfl
theorem mixR_by {w : World} {S : Nat → Prop} {t : List Tr} (h : ByQ w S t) (a b : ByteArray) (j : Nat) : ByQ w S (mixR a b t j) := by
  intro f hf
  unfold mixR at hf
  rcases List.mem_append.1 hf with hf | hf
  · obtain ⟨g, hg, rfl⟩ := List.mem_map.1 hf
    have := h g (List.mem_of_mem_take hg)
    unfold renT
    split
    · exact this
    · exact this
  · exact h f (List.mem_of_mem_drop hf)
theorem trs_setN : ∀ (t : List Tr) (i : Nat) (x : ByteArray), trs (t.set i (x, (t.getD i default).2)) = (trs t).set (i * 2) (.string x)
  | [], i, x => rfl
  | f :: t, 0, x => rfl
  | f :: t, i + 1, x => by
    rw [List.set_cons_succ, trs, show (i + 1) * 2 = (i * 2) + 1 + 1 by omega, trs, List.set_cons_succ, List.set_cons_succ]
    have := trs_setN t i x
    rw [show (f :: t).getD (i + 1) default = t.getD i default from rfl, this]
section
variable {w : World} {r : Nat} {S : Nat → Prop} {vl vb : Value} {tl tb : List Tr} {blocks : Nat} {off : Bool} {ops : Nat} {n keep : Int}
theorem RefLies.cutL (h : RefLies w r S vl vb tl tb blocks off ops n keep) (hS : ∀ k, w.heap.size ≤ k → S k) {i : Nat} (hi : i < tl.length) {w8 : World} {v8 : Value} (ho : w8.ownsRow w.heap.size 125 2 v8 (0 + i + (tl.length - (i + 1))) ([] ++ trs (tl.take i) ++ trs (tl.drop (i + 1)))) (hb : Below w.heap.size w w8) :
    RefLies (w8.setCell ⟨r, 1, none⟩ v8) r S v8 vb (tl.take i ++ tl.drop (i + 1)) tb blocks off ops n keep ∧ Turn S w (w8.setCell ⟨r, 1, none⟩ v8) ∧ w8.frozen? ⟨r, 1, none⟩ = false ∧ w8.cell? ⟨r, 1, none⟩ = some vl := by
  have h2 := h.below hb
  obtain ⟨-, d1, -⟩ := h2.cells
  have hlen : (tl.take i ++ tl.drop (i + 1)).length = 0 + i + (tl.length - (i + 1)) := by rw [List.length_append, List.length_take, List.length_drop]; omega
  have hrow : RowQ w8 w.heap.size 125 v8 (tl.take i ++ tl.drop (i + 1)) := by
    unfold RowQ
    rw [hlen, trs_append]
    exact ho
  exact ⟨h2.swapL (row_base hrow (Nat.zero_le _)) (fun k hk => hS k (World.ownsRow.lt hrow k hk).1) (ByQ.sub h2.byL fun f hf => (List.mem_append.1 hf).elim List.mem_of_mem_take List.mem_of_mem_drop), (Turn.of_below hb (Nat.le_refl _)).setCell (p := ⟨r, 1, none⟩) (.inl h.sR) _, h2.free 1, d1⟩
end
section
variable {w : World} {r : Nat} {S : Nat → Prop} {M : DM}
set_option maxRecDepth 10000 in
set_option maxHeartbeats 4000000 in
theorem rrename_any (h : RefAt w r S M) (hO : M.Ok) (hS : ∀ k, w.heap.size ≤ k → S k) {a b : ByteArray} (hsb : b.size ≤ maxLen) :
    Calls Tryz.prog 75 #[.pointer (some ⟨r, 0, none⟩), .string a, .string b] w fun e w' => e = .returned (.int .i64 ((M.rename a b).1 : Nat)) ∧ RefAt w' r S (M.rename a b).2 ∧ Turn S w w' := by
  obtain ⟨c3, hlt⟩ := h.cell3
  have hR : Hid (RefAt w r S M) := h
  cases hf : M.off with
  | true =>
    have e1 : M.rename a b = (9, M) := by unfold DM.rename; rw [if_pos hf]
    rw [e1]
    rw [hf] at c3
    clear h
    go_enter Tryz.func75, Tryz.ntmps75
    go_wp2
    go_ret
    exact ⟨rfl, hR.out, Turn.refl _ _⟩
  | false =>
    have hf' : ¬ M.off = true := by rw [hf]; decide
    rw [hf] at c3
    have hgd := rgood_dk b hsb w
    cases hg : goodN b with
    | false =>
      have e1 : M.rename a b = (3, M) := by unfold DM.rename; rw [if_neg hf', if_pos hg]
      rw [e1]
      rw [hg] at hgd
      clear h e1
      go_enter Tryz.func75, Tryz.ntmps75
      go_wp2_with fail
      refine same_mono hgd ?_
      clear hgd
      go_wp2
      go_ret
      exact ⟨rfl, hR.out, Turn.refl _ _⟩
    | true =>
      rw [hg] at hgd
      have hg' : ¬ goodN b = false := by rw [hg]; decide
      obtain ⟨vl, vb, tl, tb, n0, h1, hL, hB, hn⟩ := h
      obtain ⟨z1, z2, z3, z4, z5⟩ := ref_sizes hO.inv hL hB
      have hfi := rfind_any h1 (by omega) a
      clear h1 z3 z5 hn
      go_enter Tryz.func75, Tryz.ntmps75
      go_wp2_with fail
      refine same_mono hgd ?_
      clear hgd
      go_wp2_with fail
      refine hfi.mono ?_
      rintro e w2 ⟨⟨z, rfl, hz⟩, hb2⟩
      clear hfi
      have h2 := hR.out.below hb2
      have t2 : Turn S w w2 := Turn.of_below hb2 (Nat.le_refl _)
      rcases hz with ⟨rfl, hno⟩ | ⟨i, rfl, hi, hnm, -⟩
      · rw [hL] at hno
        have e1 : Hid (M.rename a b = (4, M)) := by show _ = _; unfold DM.rename; rw [if_neg hf', if_neg hg', if_pos hno]
        clear hno
        go_wp2
        go_ret
        exact ⟨by rw [e1.out]; rfl, by rw [e1.out]; exact h2, t2⟩
      · have hx := name_at8 hi hL hnm
        have hS2 : ∀ k, w2.heap.size ≤ k → S k := fun k hk => hS k (Nat.le_trans hb2.size hk)
        have hbg := rbegin_any h2 hO hS2
        have hi0 : ¬ (i : Int) < 0 := by omega
        cases hbe : M.begins with
        | false =>
          have e1 : Hid (M.rename a b = (9, M.begun)) := by show _ = _; unfold DM.rename DM.act; rw [if_neg hf', if_neg hg', if_neg (fun h => h hx), hbe, if_neg (by decide)]
          rw [hbe] at hbg
          clear hnm hx hi h2
          go_wp2_with fail
          refine hbg.mono ?_
          rintro e w3 ⟨rfl, h3, t3⟩
          clear hbg
          go_wp2
          go_ret
          exact ⟨by rw [e1.out]; rfl, by rw [e1.out]; exact h3, t2.trans t3⟩
        | true =>
          have e1 : Hid (M.rename a b = (0, M.begun.rename1 a b)) := by show _ = _; unfold DM.rename DM.act; rw [if_neg hf', if_neg hg', if_neg (fun h => h hx), hbe, if_pos rfl]
          rw [hbe] at hbg
          have hI1 := hO.inv.begun
          have hxa : Hid (a ∈ nms M.begun.L) := by show _ ∈ _; rw [(DM.begun_off hbe).2.1]; exact hx
          have hops : M.begun.ops ≤ 1099511627776 := by rw [DM.begun_ops]; exact hO.ops
          generalize M.begun = M1 at *
          clear hnm hx hi h2
          by_cases hab : a = b
          · subst hab
            have e2 : Hid (M1.rename1 a a = M1) := by show _ = _; unfold DM.rename1; rw [if_pos rfl]
            go_wp2_with fail
            refine hbg.mono ?_
            rintro e w3 ⟨rfl, h3, t3⟩
            clear hbg
            go_wp2
            go_ret
            exact ⟨by rw [e1.out]; rfl, by rw [e1.out, e2.out]; exact h3, t2.trans t3⟩
          have e2 : Hid (M1.rename1 a b = (M1.gone b).ren a b) := by show _ = _; unfold DM.rename1; rw [if_neg hab]
          have hne := str_ne8 hab
          have hab' : Hid (¬ a = b) := hab
          clear hab
          go_wp2_with fail
          refine hbg.mono ?_
          rintro e w3 ⟨rfl, h3, t3⟩
          clear hbg hL hB z1 z2 z4 tl tb c3
          have t23 := t2.trans t3
          have hS3 : ∀ k, w3.heap.size ≤ k → S k := fun k hk => hS2 k (Nat.le_trans t3.size hk)
          clear t2 t3 hS2 hR
          have h3' : Hid (RefAt w3 r S M1) := h3
          clear vl vb n0
          obtain ⟨vl, vb, tl, tb, n1, h4, hL, hB, hn⟩ := h3
          obtain ⟨z1, z2, z3, z4, z5⟩ := ref_sizes hI1 hL hB
          have hfi := rfind_any h4 (by omega) b
          have hIg := hI1.gone b
          have hag : Hid (a ∈ nms (M1.gone b).L) := (DM.names_gone M1 b a).2 ⟨hxa.out, hab'.out⟩
          have hog : (M1.gone b).ops ≤ 1099511627776 := hops
          go_wp2_with fail
          refine hfi.mono ?_
          rintro e w4 ⟨⟨z, rfl, hz⟩, hb4⟩
          clear hfi
          have h5 := h4.below hb4
          have t5 : Turn S w w4 := t23.trans (Turn.of_below hb4 (Nat.le_refl _))
          have hS4 : ∀ k, w4.heap.size ≤ k → S k := fun k hk => hS3 k (Nat.le_trans hb4.size hk)
          go_upto_if 38 with fail
          go_cut [7] (fun _ wc => RefAt wc r S (M1.gone b) ∧ Turn S w wc)
          case first =>
            rcases hz with ⟨rfl, hno⟩ | ⟨i2, rfl, hi2, hnm2, -⟩
            · rw [hL] at hno
              have hfin : Hid (RefAt w4 r S (M1.gone b)) := by
                show RefAt _ _ _ _
                rw [DM.gone_none hI1 hno]
                exact h3'.out.below hb4
              clear h4 h5 hno z3
              go_wp2
              go_meet
              case rel => exact ⟨hfin.out, t5⟩
            · have hgo := rgone_any h5 hS4 hi2 (by rw [hL]; exact hI1.nodup) z1 (by omega) hnm2
              rw [hL, hB] at hgo
              have hi2' : (0 : Int) ≤ i2 := by omega
              clear h4 h5 z3 hnm2
              go_wp2_with fail
              refine hgo.mono ?_
              rintro e w5 ⟨⟨v, rfl⟩, ⟨vl', vb', tl', tb', h6, hL6, hB6⟩, t6⟩
              clear hgo
              have hfin : Hid (RefAt w5 r S (M1.gone b)) := ⟨vl', vb', tl', tb', n1, h6, hL6, hB6, hn⟩
              clear h6 hL6 hB6
              go_wp2
              go_meet
              case rel => exact ⟨hfin.out, t5.trans t6⟩
          case rest =>
            obtain ⟨h6, t6⟩ := hcut
            clear hz h4 h5 h3' t5 hS4 hS3 t23 z1 z2 z3 z4 z5 hL hB hn hops hI1 hxa hb4
            rw [e2.out] at e1
            clear e2
            generalize M1.gone b = M2 at *
            clear vl vb tl tb n1
            obtain ⟨vl, vb, tl, tb, n2, h6, hL, hB, hn⟩ := h6
            obtain ⟨z1, z2, z3, z4, z5⟩ := ref_sizes hIg hL hB
            have hfi := rfind_any h6 (by omega) a
            go_wp2_with fail
            refine hfi.mono ?_
            rintro e w7 ⟨⟨z, rfl, hz⟩, hb7⟩
            clear hfi
            rcases hz with ⟨rfl, hno⟩ | ⟨i, rfl, hi, hnm, -⟩
            · rw [hL] at hno
              exact absurd hag.out hno
            have h7 := h6.below hb7
            have t7 : Turn S w w7 := t6.trans (Turn.of_below hb7 (Nat.le_refl _))
            have hSw : ∀ k, w7.heap.size ≤ k → S k := fun k hk => hS k (Nat.le_trans t7.size hk)
            clear h6 t6 hb7
            obtain ⟨g, c, rfl, hc, hg7, a0, a1⟩ := tr_at h7.rowL hi
            obtain ⟨pf, cf, hu⟩ := (h7.byL _ (getD_mem8 hi)).1.shape
            have hof := (h7.byL _ (getD_mem8 hi))
            have hlk := lk_at8 hi hL hIg.nodup
            have hml : Hid (trM (tl.take i ++ tl.drop (i + 1)) = M2.L.filter fun f => decide (f.1 ≠ a)) := by
              show _ = _
              rw [trM_append, trM_take, trM_drop, ← hL]
              exact erase_filter8 (by rw [hL]; exact hIg.nodup) (by rw [trM_at hi, hnm])
            rw [hnm] at a0 hlk
            rw [hu] at a1 hof
            obtain ⟨bs, hbs⟩ : ∃ bs, (tl.getD i default).2.2 = bs := ⟨_, rfl⟩
            rw [hbs] at a1 hof hlk
            have hlk' : Hid (lk M2.L a = bs) := hlk
            clear hu hbs hnm hlk
            obtain ⟨lf, hlf⟩ : ∃ lf, Hid (bs.length = lf) := ⟨_, rfl⟩
            rw [hlf.out] at a1 hof
            obtain ⟨-, r1, -⟩ := h7.cells
            have hlt7 := h7.lt
            have hA := heap_alloc_new w7 (.cells #[.string a, .slice pf lf cf] 125)
            have hbA : Below w7.heap.size w7 (w7.alloc (.cells #[.string a, .slice pf lf cf] 125)) := (Below.refl _ _).alloc (Nat.le_refl _) _
            have h8 := (h7.mono (S' := fun k => S k ∧ k ≠ w7.heap.size) fun k hk hs => ⟨hs, by omega⟩).below hbA
            have t8 := t7.alloc (.cells #[.string a, .slice pf lf cf] 125)
            have hS8 : Hid (∀ k, (w7.alloc (.cells #[.string a, .slice pf lf cf] 125)).heap.size ≤ k → S k ∧ k ≠ w7.heap.size) := fun k hk => by
              have : w7.heap.size < (w7.alloc (.cells #[.string a, .slice pf lf cf] 125)).heap.size := by simp
              exact ⟨hSw k (by omega), by omega⟩
            have hof8 : Hid (Owns (w7.alloc (.cells #[.string a, .slice pf lf cf] 125)) 0 5 (.slice pf lf cf) bs ∧ ∀ g, (Value.slice pf lf cf).ownBlock = some g → S g ∧ g ≠ w7.heap.size) := ⟨hof.1.below hbA (Nat.le_refl _), fun k hk => ⟨hof.2 k hk, by have := (World.ownsRow.lt hof.1 k hk).2; omega⟩⟩
            have hfb : w7.heap.size < (w7.alloc (.cells #[.string a, .slice pf lf cf] 125)).heap.size := by simp
            have hfr : r ≠ w7.heap.size := by omega
            have hfw : Hid (w.heap.size ≤ w7.heap.size) := t7.size
            clear h7 hof hbA hSw
            go_wp2_with fail
            generalize w7.alloc (.cells #[.string a, .slice pf lf cf] 125) = W at *
            generalize w7.heap.size = fb at *
            clear r1 a0 a1 hlt7 hg7
            obtain ⟨-, r1, -⟩ := h8.cells
            have hltW := h8.lt
            have hcut1 := hasQ_head h8.rowL (i := i) (by omega)
            obtain ⟨p2, hif, hcut2⟩ := hasQ_rest h8.rowL hi
            have one1 := trs_ones (ByQ.sub h8.byL fun f hf => List.mem_of_mem_take hf : ByQ W _ (tl.take i))
            have one2 := trs_ones (ByQ.sub h8.byL fun f hf => List.mem_of_mem_drop hf : ByQ W _ (tl.drop (i + 1)))
            have h8' : Hid _ := h8
            have hi1 : (i : Int) < (tl.length : Int) := by omega
            have hqc : i ≤ c := by omega
            have hq1 : i + 1 ≤ tl.length := by omega
            have hq2 : (i : Int) + 1 ≤ (tl.length : Int) := by omega
            have hq3 : ((i : Int) + 1).toNat = i + 1 := by omega
            have hq4 : (0 : Int) ≤ (i : Int) + 1 := by omega
            have hwq : IntKind.i64.wrap ((i : Int) + 1) = (i : Int) + 1 := by rw [IntKind.wrap_i64]; omega
            have hl1 : 0 + i ≤ 1099511627776 := by omega
            have hl2 : (0 + i) * 40 ≤ 140737488355328 := by omega
            have hl3 : 0 + i + (tl.length - (i + 1)) ≤ 1099511627776 := by omega
            have hl4 : (0 + i + (tl.length - (i + 1))) * 40 ≤ 140737488355328 := by omega
            clear h8
            apply once_proved9
            case main =>
              intro key
              go_region_law (first
                | (refine step_row8 elemF8 _ rfl (.tmp 53) (.tmp 59) rfl (w6 := W) (by first | exact ext_alloc8 (ext_drew8 _) _ | exact ext_on8 (ext_alloc8 (Below.refl _ _) _) | exact ext_alloc8 (Below.refl _ _) _) _ _ 0 i [] _ rfl rfl hcut1 one1 (by first | exact row_none9 W W.drew _ _ (Nat.le_refl _) | exact row_none9 W W _ _ (Nat.le_refl _) | exact row_none8 _ _ _) hl1 hl2 ?_; intro v7 w7 ho7 hb7; have b1 := (hb7.cell (p := ⟨r, 1, none⟩) hltW).trans r1)
                | (refine step_row8 elemF8 _ rfl (.tmp 60) (.tmp 67) rfl hb7 _ _ (0 + i) (tl.length - (i + 1)) _ _ rfl rfl hcut2 one2 ho7 hl3 hl4 ?_; intro v8 w8 ho8 hb8; have hst := h8'.out.cutL hS8.out hi ho8 hb8; obtain ⟨p8, q8, rfl⟩ := writes_shape ho8; obtain ⟨HR, HT, f18, c18⟩ := hst; have HRR : Hid _ := HR; clear HR))
              all_goals
                revert v7 w7 ho7 hb7 b1 p8 q8 w8
                exact key.out
            case proof =>
              intro v7 w7' ho7 hb7 b1 w8 hb8 p8 q8 ho8 HT f18 c18 HRR
              have h2 := HRR.out
              rw [Nat.zero_add] at h2 HT
              have hX : (w8.setCell ⟨r, 1, none⟩ (.slice p8 (i + (tl.length - (i + 1))) q8)).heap[fb]? = some (.cells #[.string a, .slice pf lf cf] 125 (0, 0)) := (Below.heap_setCell _ _ _ _ (fun e => hfr e.symm)).trans ((hb8.block fb hfb).trans hA)
              have hof2 : Owns (w8.setCell ⟨r, 1, none⟩ (.slice p8 (i + (tl.length - (i + 1))) q8)) 0 5 (.slice pf lf cf) bs := by
                have hk := hof8.out.1.below hb8 (Nat.le_refl _)
                exact row_same hk fun k hk2 => Below.heap_setCell _ _ _ _ fun e => row_apart hk (h8'.out.below hb8).blk (by decide) (by rw [hk2]; exact congrArg some e)
              have hof8' : Hid (∀ g, (Value.slice pf lf cf).ownBlock = some g → S g ∧ g ≠ fb) := hof8.out.2
              have t2 : Turn S w (w8.setCell ⟨r, 1, none⟩ (.slice p8 (i + (tl.length - (i + 1))) q8)) := t8.trans (HT.mono fun k hs => .inl hs.1)
              have hS2 : Hid (∀ k, (w8.setCell ⟨r, 1, none⟩ (.slice p8 (i + (tl.length - (i + 1))) q8)).heap.size ≤ k → S k ∧ k ≠ fb) := fun k hk => hS8.out k (Nat.le_trans HT.size hk)
              have hfb2 : fb < (w8.setCell ⟨r, 1, none⟩ (.slice p8 (i + (tl.length - (i + 1))) q8)).heap.size := Nat.lt_of_lt_of_le hfb HT.size
              have hll : (tl.take i ++ tl.drop (i + 1)).length ≤ 16777216 := by rw [List.length_append, List.length_take, List.length_drop]; omega
              clear HRR HT f18 c18 ho7 hb7 b1 ho8 hb8 hif hcut1 hcut2 one1 one2 hl1 hl2 hl3 hl4 hq1 hq2 hq3 hq4 hwq hqc r1 h8' hof8 t8 hS8 hfb hltW hA
              generalize w8.setCell ⟨r, 1, none⟩ (.slice p8 (i + (tl.length - (i + 1))) q8) = W2 at *
              have x0 : W2.cell? ⟨fb, 0, none⟩ = some (.string a) := by simp [World.cell?, hX]
              have xf : W2.frozen? ⟨fb, 0, none⟩ = false := by simp [World.frozen?, hX]
              have hX3 : (W2.setCell ⟨fb, 0, none⟩ (.string b)).heap[fb]? = some (.cells #[.string b, .slice pf lf cf] 125 (0, 0)) := by simp [World.setCell, Array.getElem?_modify, hX]
              have y0 : (W2.setCell ⟨fb, 0, none⟩ (.string b)).cell? ⟨fb, 0, none⟩ = some (.string b) := by simp [World.cell?, hX3]
              have y1 : (W2.setCell ⟨fb, 0, none⟩ (.string b)).cell? ⟨fb, 1, none⟩ = some (.slice pf lf cf) := by simp [World.cell?, hX3]
              have hs3 : (W2.setCell ⟨fb, 0, none⟩ (.string b)).heap.size = W2.heap.size := by simp [World.setCell]
              have h3 : RefLies (W2.setCell ⟨fb, 0, none⟩ (.string b)) r _ _ _ _ _ _ _ _ _ _ := h2.same fun k hk hs => Below.heap_setCell _ _ _ _ (fun e => hs.2 e)
              have hof3 : Owns (W2.setCell ⟨fb, 0, none⟩ (.string b)) 0 5 (.slice pf lf cf) bs := row_same hof2 fun k hk => Below.heap_setCell _ _ _ _ (fun e => (hof8'.out k hk).2 e)
              have t3 : Turn S w (W2.setCell ⟨fb, 0, none⟩ (.string b)) := t2.setCell (p := ⟨fb, 0, none⟩) (.inr hfw.out) _
              have hpu := rput_any h3 (fun k hk => hS2.out k (by rw [hs3] at hk; exact hk)) (x := b) hof3 hof8'.out hll
              clear hX hX3 h2 h3 hof2 hof3 t2
              go_wp2_with fail
              refine hpu.mono ?_
              rintro e w9 ⟨⟨v, rfl⟩, ⟨vl9, h9⟩, t9⟩
              clear hpu x0 xf y0 y1
              have T9 : Turn S w w9 := t3.trans (t9.mono fun k hs => .inl hs.1)
              have hS9 : Hid (∀ k, w9.heap.size ≤ k → S k ∧ k ≠ fb) := fun k hk => hS2.out k (by have := t9.size; omega)
              clear t9 t3 hS2
              obtain ⟨-, -, d2, -⟩ := h9.cells
              obtain ⟨pb, cb, rfl, hcb⟩ := tr_shape h9.rowB
              have hlt9 := h9.lt
              have hba : Below w9.heap.size w9 (w9.alloc (.cells #[] 126)) := (Below.refl _ _).alloc (Nat.le_refl _) _
              have hR9 := hasR_of_owns (h9.below hba).rowB
              have ones9 := trs_ones (h9.byB : ByQ w9 _ tb)
              have hl5 : 0 + tb.length ≤ 1099511627776 := by omega
              have hl6 : (0 + tb.length) * 40 ≤ 140737488355328 := by omega
              have hmade := row_none9 w9 w9 126 2 (Nat.le_refl _)
              go_wp2_with (at_builtin; refine ap_row elemQ8 _ rfl _ _ rfl w9.heap.size _ _ 0 tb.length [] (trs tb) rfl rfl hR9 ones9 hmade hl5 hl6 hba.size ?_; intro vq wq howq hgq hwq2; refine Halt8.out ?_)
              have hbq : Below w9.heap.size w9 wq := hba.trans ((Below.refl _ _).grown hgq hba.size fun k hk => (World.ownsRow.lt hmade k hk).1)
              rw [Nat.zero_add, List.nil_append] at howq
              have hq0 : Hid (RowQ wq w9.heap.size 126 vq (mixR a b tb 0)) := howq
              obtain ⟨pq, cq, rfl⟩ := writes_shape howq
              clear hmade hR9 ones9 hgq hwq2 howq hl5 hl6 hba d2
              constructor
              go_wp2
              go_loopw [84] (fun t wr => ∃ (j : Nat) (tq : List Tr), j ≤ tb.length ∧ t = .int .i64 (j : Nat) ∧ Hid (tq = mixR a b tb j) ∧ RowQ wr w9.heap.size 126 (.slice pq tb.length cq) tq ∧ Below w9.heap.size w9 wr) (fun t _ => tb.length - (intOf t).toNat)
              case atStart => exact ⟨0, _, by omega, rfl, rfl, hq0.out, hbq⟩
              case round =>
                obtain ⟨j, tq, hj, rfl, htq, ho, hb⟩ := hrel
                have htl : tq.length = tb.length := by rw [htq.out]; exact mixR_len a b tb j
                by_cases hjl : j < tb.length
                · have hqj : j < tq.length := by omega
                  obtain ⟨gq, c', e, _, hgq, d0, d1⟩ := tr_at (row_base ho (Nat.zero_le _)) hqj
                  simp only [Value.slice.injEq] at e
                  obtain ⟨rfl, -, rfl⟩ := e
                  have hat : Hid (tq.getD j default = tb.getD j default) := by show _ = _; rw [htq.out]; exact mixR_at a b hjl
                  have hj1 : (j : Int) < (tb.length : Int) := by omega
                  by_cases hy : (tq.getD j default).1 = a
                  · have ho1 := ho
                    unfold RowQ at ho1
                    rw [htl] at ho1
                    obtain ⟨k1, k2⟩ := World.ownsRow.stored ho1 (j * 2) (.string b)
                    have kf := World.ownsRow.frozenAt ho1 (j * 2)
                    have hrow : Hid (RowQ (wr.setCell ⟨gq, j * 2, none⟩ (.string b)) w9.heap.size 126 (.slice (some ⟨gq, 0, none⟩) tb.length cq) (tq.set j (b, (tq.getD j default).2))) := by
                      show RowQ _ _ _ _ _
                      unfold RowQ
                      rw [List.length_set, trs_setN, htl]
                      exact k1
                    have hstep : Hid (tq.set j (b, (tq.getD j default).2) = mixR a b tb (j + 1)) := by
                      show _ = _
                      rw [mixR_step a b hjl, ← htq.out, ← hat.out]
                      unfold renT
                      rw [if_pos hy]
                    have hbS : Hid (Below w9.heap.size w9 (wr.setCell ⟨gq, j * 2, none⟩ (.string b))) := hb.trans ((Below.refl _ _).grown k2 hb.size fun k hk => (World.ownsRow.lt ho k hk).1)
                    rw [hy] at d0
                    clear ho ho1 k1 k2 htl hy d1 hb
                    go_wp2
                    go_roundw
                    case rel => exact ⟨j + 1, _, by omega, by simp, hstep, hrow.out, hbS.out⟩
                    case measure => simp only [intOf]; omega
                  · have hny := str_ne8 hy
                    have hstep : Hid (tq = mixR a b tb (j + 1)) := by
                      show _ = _
                      rw [hat.out] at hy
                      rw [mixR_skip a b hjl hy, htq.out]
                    have ho' : Hid _ := ho
                    generalize (tq.getD j default).1 = y at *
                    clear ho htl hy d1
                    go_wp2
                    go_roundw
                    case rel => exact ⟨j + 1, tq, by omega, by simp, hstep, ho'.out, hb⟩
                    case measure => simp only [intOf]; omega
                · obtain rfl : j = tb.length := by omega
                  have h10 := h9.below hb
                  obtain ⟨-, -, d2, -⟩ := h10.cells
                  have f2 := h10.free 2
                  have h11 := h10.swapB (row_base ho (Nat.zero_le _)) (fun k hk => hS9.out k (World.ownsRow.lt ho k hk).1) (by rw [htq.out]; exact mixR_by h10.byB a b tb.length)
                  have t11 := (T9.trans (Turn.of_below hb (Nat.le_refl _))).setCell (p := ⟨r, 2, none⟩) (.inl h10.sR.1) (.slice pq tb.length cq)
                  have hfin : Hid (RefAt (wr.setCell ⟨r, 2, none⟩ (.slice pq tb.length cq)) r S (M2.ren a b)) := by
                    refine ⟨_, _, _, tq, n2, h11.mono fun k _ hs => hs.1, ?_, ?_, hn⟩
                    · rw [trM_ins, hml.out]
                      show insF b bs _ = insF b (lk M2.L a) _
                      rw [hlk'.out]
                    · rw [htq.out, mixR_end, hB]
                      rfl
                  clear ho h9 h10 h11 htq htl
                  go_wp2
                  go_ret
                  exact ⟨by rw [e1.out]; rfl, by rw [e1.out]; exact hfin.out, t11⟩
end
theorem flip_setL : ∀ {l : List (ByteArray × List Int)} {p : Nat} {x : ByteArray} {bs : List Int} (j : Nat) (y : Int), (nms l).Nodup → l[p]? = some (x, bs) → l.set p (x, bs.set j (xor8 (bs.getD j 0) y)) = flipL l x j y
  | [], p, x, bs, j, y, _, h => by simp at h
  | f :: l, 0, x, bs, j, y, hn, h => by
    have hd := List.nodup_cons.1 (by exact hn : (f.1 :: nms l).Nodup)
    have hf : f = (x, bs) := by simpa using h
    subst hf
    show _ :: l = (if x = x then _ else _) :: flipL l x j y
    rw [if_pos rfl]
    congr 1
    unfold flipL
    conv => lhs; rw [← List.map_id l]
    refine List.map_congr_left fun g hg => ?_
    rw [if_neg fun e => hd.1 (by show x ∈ nms l; rw [← e]; exact List.mem_map.2 ⟨g, hg, rfl⟩)]
    rfl
  | f :: l, p + 1, x, bs, j, y, hn, h => by
    have hd := List.nodup_cons.1 (by exact hn : (f.1 :: nms l).Nodup)
    have h' : l[p]? = some (x, bs) := by simpa using h
    have hne : ¬ f.1 = x := fun e => hd.1 (by rw [e]; exact List.mem_map.2 ⟨_, List.mem_of_getElem? h', rfl⟩)
    show f :: l.set p _ = (if f.1 = x then _ else f) :: flipL l x j y
    rw [if_neg hne, flip_setL j y hd.2 h']
theorem trM_get {t : List Tr} {i : Nat} (h : i < t.length) : (trM t)[i]? = some ((t.getD i default).1, (t.getD i default).2.2) := by
  unfold trM
  rw [List.getElem?_map, List.getElem?_eq_getElem h, List.getD_eq_getElem?_getD, List.getElem?_eq_getElem h]
  rfl
theorem drop_consT {t : List Tr} {q : Nat} (h : q < t.length) : trM (t.drop q) = ((t.getD q default).1, (t.getD q default).2.2) :: trM (t.drop (q + 1)) := by
  rw [List.drop_eq_getElem_cons h, List.getD_eq_getElem?_getD, List.getElem?_eq_getElem h]
  rfl
def Seek8 (tb : List Tr) (x : ByteArray) (j0 : Nat) (y : Int) (q m : Nat) : Prop := flipB (trM tb) x j0 y = trM (tb.take q) ++ flipB (trM (tb.drop q)) x m y ∧ m < (pend (trM (tb.drop q)) x).length
theorem Seek8.start {tb : List Tr} {x : ByteArray} {j0 : Nat} {y : Int} (h : j0 < (pend (trM tb) x).length) : Seek8 tb x j0 y 0 j0 := ⟨rfl, h⟩
theorem Seek8.other {tb : List Tr} {x : ByteArray} {j0 : Nat} {y : Int} {q m : Nat} (h : Seek8 tb x j0 y q m) (hq : q < tb.length) (hx : ¬ (tb.getD q default).1 = x) : Seek8 tb x j0 y (q + 1) m := by
  obtain ⟨h1, h2⟩ := h
  rw [drop_consT hq] at h1 h2
  rw [pend, if_neg hx, List.nil_append] at h2
  refine ⟨?_, h2⟩
  rw [h1, flipB, if_neg hx, take_snocT hq, trM_append, List.append_assoc]
  rfl
theorem Seek8.on {tb : List Tr} {x : ByteArray} {j0 : Nat} {y : Int} {q m : Nat} (h : Seek8 tb x j0 y q m) (hq : q < tb.length) (hx : (tb.getD q default).1 = x) (hm : ¬ m < (tb.getD q default).2.2.length) : Seek8 tb x j0 y (q + 1) (m - (tb.getD q default).2.2.length) := by
  obtain ⟨h1, h2⟩ := h
  rw [drop_consT hq] at h1 h2
  rw [pend, if_pos hx, List.length_append] at h2
  dsimp only at h2
  refine ⟨?_, by omega⟩
  rw [h1, flipB, if_pos hx, if_neg hm, take_snocT hq, trM_append, List.append_assoc]
  rfl
theorem Seek8.here {tb : List Tr} {x : ByteArray} {j0 : Nat} {y : Int} {q m : Nat} (h : Seek8 tb x j0 y q m) (hq : q < tb.length) (hx : (tb.getD q default).1 = x) (hm : m < (tb.getD q default).2.2.length) (v : Value) :
    trM (tb.set q ((tb.getD q default).1, v, (tb.getD q default).2.2.set m (xor8 ((tb.getD q default).2.2.getD m 0) y))) = flipB (trM tb) x j0 y := by
  obtain ⟨h1, h2⟩ := h
  rw [h1, drop_consT hq, flipB, if_pos hx, if_pos hm, trM_set, List.set_eq_take_append_cons_drop, if_pos (by rw [trM_length]; exact hq), trM_take, trM_drop]
theorem Seek8.not_end {tb : List Tr} {x : ByteArray} {j0 : Nat} {y : Int} {m : Nat} (h : Seek8 tb x j0 y tb.length m) : False := by
  have h2 := h.2
  rw [List.drop_length] at h2
  exact absurd h2 (by simp [trM, pend])
section
variable {w : World} {r : Nat} {S : Nat → Prop} {M : DM}
set_option maxRecDepth 10000 in
set_option maxHeartbeats 4000000 in
theorem rspoil_any (h : RefAt w r S M) (hO : M.Ok) (hS : ∀ k, w.heap.size ≤ k → S k) (x : ByteArray) (i b : Int) (hi : -9223372036854775808 ≤ i ∧ i ≤ 9223372036854775807) (hb : -9223372036854775808 ≤ b ∧ b ≤ 9223372036854775807) :
    Calls Tryz.prog 28 #[.pointer (some ⟨r, 0, none⟩), .string x, .int .i64 i, .int .i64 b] w fun e w' => e = .returned (.int .i64 ((M.spoil x i b).1 : Nat)) ∧ RefAt w' r S (M.spoil x i b).2 ∧ Turn S w w' := by
  obtain ⟨c3, hlt⟩ := h.cell3
  have hR : Hid (RefAt w r S M) := h
  cases hf : M.off with
  | true =>
    have e1 : M.spoil x i b = (9, M) := by unfold DM.spoil; rw [if_pos hf]
    rw [e1]
    rw [hf] at c3
    clear h
    go_enter Tryz.func28, Tryz.ntmps28
    go_wp2
    go_ret
    exact ⟨rfl, hR.out, Turn.refl _ _⟩
  | false =>
    have hf' : ¬ M.off = true := by rw [hf]; decide
    have hops := hO.ops
    have hI := hO.inv
    rw [hf] at c3
    obtain ⟨vl, vb, tl, tb, n0, h1, hL, hB, hn⟩ := h
    obtain ⟨z1, z2, z3, z4, z5⟩ := ref_sizes hI hL hB
    have hfi := rfind_any h1 (by omega) x
    go_enter Tryz.func28, Tryz.ntmps28
    go_wp2_with fail
    refine hfi.mono ?_
    rintro e w2 ⟨⟨z, rfl, hz⟩, hb2⟩
    clear hfi
    have h2 := h1.below hb2
    have hR2 : Hid (RefAt w2 r S M) := hR.out.below hb2
    have t2 : Turn S w w2 := Turn.of_below hb2 (Nat.le_refl _)
    clear h1 hR c3
    rcases hz with ⟨rfl, hno⟩ | ⟨p, rfl, hp, hnm, -⟩
    · rw [hL] at hno
      have e1 : Hid (M.spoil x i b = (4, M)) := by show _ = _; unfold DM.spoil; rw [if_neg hf', if_pos hno]
      clear hno z3 h2
      go_wp2
      go_ret
      exact ⟨by rw [e1.out]; rfl, by rw [e1.out]; exact hR2.out, t2⟩
    have hx := name_at8 hp hL hnm
    have hp0 : ¬ (p : Int) < 0 := by omega
    have hal := rall_any h2 hp (by omega) (by have := z3 _ (getD_mem8 hp); omega)
    have hlk := lk_at8 hp hL hI.nodup
    have hby : (tl.getD p default).2.2 ++ pend (trM tb) (tl.getD p default).1 = M.bytes x := by
      unfold DM.bytes
      rw [← hlk, hnm, hB]
    rw [hby] at hal
    rw [hnm] at hlk
    have hbz := (hI.sizes.2.2 x).1
    by_cases hbad : i < 0 ∨ ((M.bytes x).length : Int) ≤ i ∨ b < 0 ∨ 7 < b
    · have e1 : Hid (M.spoil x i b = (6, M)) := by show _ = _; unfold DM.spoil; rw [if_neg hf', if_neg (fun h => h hx), if_pos hbad]
      by_cases q1 : i < 0
      · clear hal z3 h2 hbad
        go_wp2
        go_ret
        exact ⟨by rw [e1.out]; rfl, by rw [e1.out]; exact hR2.out, t2⟩
      · have q1' : 0 ≤ i := by omega
        obtain ⟨nn, Hn⟩ : ∃ n, Hid ((M.bytes x).length = n) := ⟨_, rfl⟩
        rw [Hn.out] at hbad hbz
        clear z3 h2 hby hlk hnm
        go_wp2_with fail
        refine hal.mono ?_
        rintro e w3 ⟨⟨v3, rfl, ho3⟩, hb3⟩
        clear hal
        obtain ⟨p3, c3, rfl⟩ := ho3.shape
        rw [Hn.out]
        have hR3 : Hid (RefAt w3 r S M) := hR2.out.below hb3
        have t3 : Turn S w w3 := t2.trans (Turn.of_below hb3 (Nat.le_refl _))
        clear ho3
        by_cases q2 : (nn : Int) ≤ i
        · go_wp2
          go_ret
          exact ⟨by rw [e1.out]; rfl, by rw [e1.out]; exact hR3.out, t3⟩
        · have q2' : i < (nn : Int) := by omega
          by_cases q3 : b < 0
          · go_wp2
            go_ret
            exact ⟨by rw [e1.out]; rfl, by rw [e1.out]; exact hR3.out, t3⟩
          · have q3' : 0 ≤ b := by omega
            have q4 : 7 < b := by omega
            go_wp2
            go_ret
            exact ⟨by rw [e1.out]; rfl, by rw [e1.out]; exact hR3.out, t3⟩
    · have e1 : Hid (M.spoil x i b = (0, M.flip x i.toNat ((2 ^ b.toNat : Nat) : Int))) := by show _ = _; unfold DM.spoil; rw [if_neg hf', if_neg (fun h => h hx), if_neg hbad]
      obtain ⟨j, rfl⟩ : ∃ j : Nat, i = j := ⟨i.toNat, by omega⟩
      obtain ⟨k, rfl⟩ : ∃ k : Nat, b = k := ⟨b.toNat, by omega⟩
      rw [Int.toNat_natCast, Int.toNat_natCast] at e1
      have hj : j < (M.bytes x).length := by omega
      have hk7 : k < 8 := by omega
      have hk7' : (k : Int) ≤ 7 := by omega
      have hisB : Hid (∀ f ∈ M.L, isB8 f.2) := hI.isL
      have hisW : Hid (∀ f ∈ M.buf, isB8 f.2) := hI.isW
      obtain ⟨nn, Hn⟩ : ∃ n, Hid ((M.bytes x).length = n) := ⟨_, rfl⟩
      have hjn : (j : Int) < nn := by rw [← Hn.out]; omega
      have hjb : Hid ((M.bytes x).length = (lk M.L x).length + (pend M.buf x).length) := by show _ = _; unfold DM.bytes; rw [List.length_append]
      clear hbad hi hb hx
      go_wp2_with fail
      refine hal.mono ?_
      rintro e w3 ⟨⟨v3, rfl, ho3⟩, hb3⟩
      clear hal
      obtain ⟨p3, c3, rfl⟩ := ho3.shape
      rw [Hn.out]
      rw [Hn.out] at hbz
      have h3 := h2.below hb3
      have t3 : Turn S w w3 := t2.trans (Turn.of_below hb3 (Nat.le_refl _))
      have hS3 : Hid (∀ k, w3.heap.size ≤ k → S k) := fun k hk => hS k (Nat.le_trans t3.size hk)
      clear ho3 h2 hR2 t2 hS hby
      obtain ⟨g, c, rfl, hc, hg3, a0, a1⟩ := tr_at h3.rowL hp
      obtain ⟨-, r1, r2, -⟩ := h3.cells
      have hof := h3.byL _ (getD_mem8 hp)
      obtain ⟨pf, cf, hu⟩ := hof.1.shape
      rw [hu] at a1 hof
      have htr := trM_get hp
      rw [hnm, hL] at htr
      obtain ⟨bs, hbs⟩ : ∃ bs, (tl.getD p default).2.2 = bs := ⟨_, rfl⟩
      rw [hbs] at a1 hof htr hlk
      have hlk' : Hid (lk M.L x = bs) := hlk
      have hbs' : Hid ((tl.getD p default).2.2 = bs) := hbs
      have hnm' : Hid ((tl.getD p default).1 = x) := hnm
      have hbs1 : bs.length ≤ 2147483648 := by have := z3 _ (getD_mem8 hp); rw [hbs] at this; omega
      clear hbs hlk hu hnm
      have hlt3 := h3.lt
      have hp1 : (p : Int) < (tl.length : Int) := by omega
      by_cases hin : j < bs.length
      · have e2 : Hid (M.flip x j ((2 ^ k : Nat) : Int) = { M with L := flipL M.L x j ((2 ^ k : Nat) : Int) }) := by show _ = _; unfold DM.flip; rw [hlk'.out, if_pos hin]
        have hin' : (j : Int) < bs.length := by omega
        have hzb : 0 ≤ bs.getD j 0 ∧ bs.getD j 0 < 256 := by
          refine hisB.out (x, bs) (List.mem_of_getElem? htr) _ ?_
          rw [List.getD_eq_getElem?_getD, List.getElem?_eq_getElem hin]
          exact List.getElem_mem hin
        have hfl : Hid (∀ v, trM (tl.set p ((tl.getD p default).1, v, bs.set j (xor8 (bs.getD j 0) ((2 ^ k : Nat) : Int)))) = flipL M.L x j ((2 ^ k : Nat) : Int)) := by
          intro v
          rw [trM_set, hnm'.out, hL]
          exact flip_setL j _ hI.nodup htr
        have hxb := xor_bit hzb hk7
        have hba : Below w3.heap.size w3 (w3.alloc (.cells #[] 5)) := (Below.refl _ _).alloc (Nat.le_refl _) _
        have he := Owns.empty w3 w3.heap.size 5 (Nat.le_refl _)
        have hRf := hasR_of_has (hof.1.has.below hba (Nat.le_refl _))
        have hl1 : 0 + bs.length ≤ 1099511627776 := by omega
        have hl2 : (0 + bs.length) * 1 ≤ 140737488355328 := by omega
        have h3' : Hid _ := h3
        obtain ⟨zb, Hzb⟩ : ∃ z, Hid (bs.getD j 0 = z) := ⟨_, rfl⟩
        rw [Hzb.out] at hxb hzb hfl
        obtain ⟨zx, Hzx⟩ : ∃ z, Hid (xor8 zb ((2 ^ k : Nat) : Int) = z) := ⟨_, rfl⟩
        rw [Hzx.out] at hxb hfl
        clear h3 z3 htr hisB hisW
        go_wp2_with (at_builtin; refine ap_row elemB _ rfl _ _ rfl w3.heap.size _ _ 0 bs.length [] (cellsB bs) rfl rfl hRf (cellsB_one8 _) he hl1 hl2 hba.size ?_; intro v5 w5 hown5 hgrow5 hwh5; refine Halt8.out ?_)
        rw [Nat.zero_add, List.nil_append] at hown5
        have hb5 : Below w3.heap.size w3 w5 := hba.trans ((Below.refl _ _).grown hgrow5 hba.size fun k hk => (World.ownsRow.lt he k hk).1)
        have ho5 : Owns w5 w3.heap.size 5 v5 bs := hown5
        obtain ⟨gv, cv, rfl, hgB, hgl, hcv, hcell, hfz⟩ := ho5.form (by omega)
        have d0 := hcell j hin
        rw [Hzb.out] at d0
        have df := hfz j
        obtain ⟨s1, s2⟩ := ho5.store j zx
        have hb6 : Below w3.heap.size w3 (w5.setCell ⟨gv, j, none⟩ (.int .u8 zx)) := hb5.trans ((Below.refl _ _).grown s2 hb5.size fun k hk => by cases hk; exact hgB)
        have h6 := h3'.out.below hb6
        obtain ⟨-, r16, -⟩ := h6.cells
        have a16 := (hb6.cell (p := ⟨g, p * 2 + 1, none⟩) hg3).trans a1
        have hlen : (bs.set j zx).length = bs.length := List.length_set
        have s1' : Owns (w5.setCell ⟨gv, j, none⟩ (.int .u8 zx)) 0 5 (.slice (some ⟨gv, 0, none⟩) bs.length cv) (bs.set j zx) := row_base s1 (Nat.zero_le _)
        have h7 := h6.setF p s1' (fun k hk => by cases hk; exact hS3.out _ hgB)
        have ff := World.ownsRow.frozenAt h6.rowL (p * 2 + 1)
        have t7 := (t3.trans (Turn.of_below hb6 (Nat.le_refl _))).setCell (p := ⟨g, p * 2 + 1, none⟩) (.inl (h6.sL g rfl)) (.slice (some ⟨gv, 0, none⟩) bs.length cv)
        have hfin : Hid (RefAt ((w5.setCell ⟨gv, j, none⟩ (.int .u8 zx)).setCell ⟨g, p * 2 + 1, none⟩ (.slice (some ⟨gv, 0, none⟩) bs.length cv)) r S { M with L := flipL M.L x j ((2 ^ k : Nat) : Int) }) := ⟨_, _, _, _, n0, h7, hfl.out _, hB, hn⟩
        clear hgrow5 hwh5 hown5 hRf he hba ho5 hcell hfz s1 s2 h6 s1' h7 hb5 hlen
        constructor
        go_wp2
        go_ret
        exact ⟨by rw [e1.out]; rfl, by rw [e1.out, e2.out]; exact hfin.out, t7⟩
      · have e2 : Hid (M.flip x j ((2 ^ k : Nat) : Int) = { M with buf := flipB M.buf x (j - bs.length) ((2 ^ k : Nat) : Int) }) := by show _ = _; unfold DM.flip; rw [hlk'.out, if_neg hin]
        have hin' : ¬ (j : Int) < bs.length := by omega
        have hin2 : (bs.length : Int) ≤ j := by omega
        obtain ⟨j0, Hj0⟩ : ∃ j0, Hid (j - bs.length = j0) := ⟨_, rfl⟩
        have hj0 : (j : Int) - (bs.length : Int) = (j0 : Int) := by rw [← Hj0.out]; omega
        rw [Hj0.out] at e2
        have hsk : Hid (Seek8 tb x j0 ((2 ^ k : Nat) : Int) 0 j0) := by
          refine Seek8.start ?_
          have := hjb.out
          rw [hlk'.out] at this
          rw [hB, ← Hj0.out]
          omega
        have hj0b : j0 ≤ 1073741824 := by rw [← Hj0.out]; omega
        obtain ⟨pb, cb, rfl, hcb⟩ := tr_shape h3.rowB
        have hba : Below w3.heap.size w3 (w3.alloc (.cells #[] 126)) := (Below.refl _ _).alloc (Nat.le_refl _) _
        have hR9 := hasR_of_owns (h3.below hba).rowB
        have ones9 := trs_ones (h3.byB : ByQ w3 _ tb)
        have hl5 : 0 + tb.length ≤ 1099511627776 := by omega
        have hl6 : (0 + tb.length) * 40 ≤ 140737488355328 := by omega
        have hmade := row_none9 w3 w3 126 2 (Nat.le_refl _)
        have h3' : Hid _ := h3
        have hfl : Hid (∀ q m v, q < tb.length → Seek8 tb x j0 ((2 ^ k : Nat) : Int) q m → (tb.getD q default).1 = x → m < (tb.getD q default).2.2.length → trM (tb.set q ((tb.getD q default).1, v, (tb.getD q default).2.2.set m (xor8 ((tb.getD q default).2.2.getD m 0) ((2 ^ k : Nat) : Int)))) = flipB M.buf x j0 ((2 ^ k : Nat) : Int)) := by
          intro q m v k1 k2 k3 k4
          rw [k2.here k1 k3 k4, hB]
        have hisQ : Hid (∀ f ∈ tb, isB8 f.2.2) := fun f hf => hisW.out _ (by rw [← hB]; exact trM_mem hf)
        have hmx : Hid (∀ f ∈ tb, f.2.2.length ≤ 1073741824) := fun f hf => by
          have hq := List.append_of_mem hf
          obtain ⟨s, t, e⟩ := hq
          have := z4
          rw [e, trM_append, tot_append] at this
          show f.2.2.length ≤ _
          have h9 : tot (trM (f :: t)) = f.2.2.length + tot (trM t) := rfl
          omega
        clear z3 htr hisB hisW
        go_wp2_with (at_builtin; refine ap_row elemQ8 _ rfl _ _ rfl w3.heap.size _ _ 0 tb.length [] (trs tb) rfl rfl hR9 ones9 hmade hl5 hl6 hba.size ?_; intro vq wq howq hgq hwq2; refine Halt8.out ?_)
        have hbq : Below w3.heap.size w3 wq := hba.trans ((Below.refl _ _).grown hgq hba.size fun k hk => (World.ownsRow.lt hmade k hk).1)
        rw [Nat.zero_add, List.nil_append] at howq
        have hq0 : Hid (RowQ wq w3.heap.size 126 vq tb) := howq
        obtain ⟨pq, cq, rfl⟩ := writes_shape howq
        clear hmade hR9 ones9 hgq hwq2 howq hl5 hl6 hba r1 r2 a0 a1 hof
        constructor
        go_wp2
        go_loopw [101, 2] (fun t s wr => ∃ q m : Nat, q ≤ tb.length ∧ m ≤ 1073741824 ∧ t = .int .i64 (q : Nat) ∧ s = .int .i64 (m : Nat) ∧ Hid (Seek8 tb x j0 ((2 ^ k : Nat) : Int) q m) ∧ RowQ wr w3.heap.size 126 (.slice pq tb.length cq) tb ∧ Below w3.heap.size w3 wr) (fun t _ _ => tb.length - (intOf t).toNat)
        case atStart => exact ⟨0, j0, by omega, hj0b, rfl, rfl, hsk, hq0.out, hbq⟩
        case round =>
          obtain ⟨q, m, hq, hmb, rfl, rfl, hse, ho, hb⟩ := hrel
          by_cases hql : q < tb.length
          · obtain ⟨gq, c', e, _, hgq, d0, d1⟩ := tr_at (row_base ho (Nat.zero_le _)) hql
            simp only [Value.slice.injEq] at e
            obtain ⟨rfl, -, rfl⟩ := e
            have hq1 : (q : Int) < (tb.length : Int) := by omega
            have hw0 := ((h3'.out.below hb).byB _ (getD_mem8 hql)).1
            obtain ⟨pu, cu, hu⟩ := hw0.shape
            rw [hu] at d1 hw0
            have hgw : w3.heap.size ≤ gq := (World.ownsRow.lt ho gq rfl).1
            have hlu := hmx.out _ (getD_mem8 hql)
            have hisb := hisQ.out _ (getD_mem8 hql)
            have hflq := fun v => hfl.out q m v hql hse.out
            have hse1 := hse.out.other hql
            have hse2 := hse.out.on hql
            have hset := fun v xs => trs_set tb q v xs
            generalize hY : tb.getD q default = Y at *
            obtain ⟨y, uy, by_⟩ := Y
            dsimp only at hu d0 d1 hw0 hlu hisb hflq hse1 hse2 hset
            subst hu
            have hmem : Hid ((y, .slice pu by_.length cu, by_) ∈ tb) := by show _ ∈ _; rw [← hY]; exact getD_mem8 hql
            clear hY
            by_cases hyx : y = x
            · subst hyx
              replace hse2 := hse2 rfl
              have hfq2 := fun v => hflq v rfl
              clear hse1 hflq
              by_cases hm : m < by_.length
              · have hm' : (m : Int) < by_.length := by omega
                have hzb : 0 ≤ by_.getD m 0 ∧ by_.getD m 0 < 256 := by
                  refine hisb _ ?_
                  rw [List.getD_eq_getElem?_getD, List.getElem?_eq_getElem hm]
                  exact List.getElem_mem hm
                have hfq3 : Hid (∀ v, trM (tb.set q (y, v, by_.set m (xor8 (by_.getD m 0) ((2 ^ k : Nat) : Int)))) = flipB M.buf y j0 ((2 ^ k : Nat) : Int)) := fun v => hfq2 v hm
                clear hfq2
                have hxb := xor_bit hzb hk7
                have hlA := hb.alloc hb.size (.cells #[.string y, .slice pu by_.length cu] 126)
                have hal1 := (Below.refl wr.heap.size wr).alloc (Nat.le_refl _) (.cells #[.string y, .slice pu by_.length cu] 126)
                have hba := ext_alloc8 hal1 (.cells #[] 5)
                have he := Owns.empty (wr.alloc (.cells #[.string y, .slice pu by_.length cu] 126)) wr.heap.size 5 hal1.size
                rw [show (wr.alloc (.cells #[.string y, .slice pu by_.length cu] 126)).heap.size = wr.heap.size + 1 by simp] at he
                have hRf := hasR_of_has (hw0.has.below hba (Nat.le_refl _))
                have hl1 : 0 + by_.length ≤ 1099511627776 := by omega
                have hl2 : (0 + by_.length) * 1 ≤ 140737488355328 := by omega
                have hrowr : Hid (RowQ wr w3.heap.size 126 (.slice (some ⟨gq, 0, none⟩) tb.length cq) tb) := ho
                have hbr : Hid (Below w3.heap.size w3 wr) := hb
                obtain ⟨zb, Hzb⟩ : ∃ z, Hid (by_.getD m 0 = z) := ⟨_, rfl⟩
                rw [Hzb.out] at hxb hzb hfq3
                obtain ⟨zx, Hzx⟩ : ∃ z, Hid (xor8 zb ((2 ^ k : Nat) : Int) = z) := ⟨_, rfl⟩
                rw [Hzx.out] at hxb hfq3
                clear hse2 ho hisb hlA
                go_wp2_with (at_builtin; refine ap_row elemB _ rfl _ _ rfl wr.heap.size _ _ 0 by_.length [] (cellsB by_) rfl rfl hRf (cellsB_one8 _) he hl1 hl2 hba.size ?_; intro v5 w5 hown5 hgrow5 hwh5; refine Halt8.out ?_)
                rw [Nat.zero_add, List.nil_append] at hown5
                have hb5 : Below wr.heap.size wr w5 := hba.trans ((Below.refl _ _).grown hgrow5 hba.size fun k hk => (World.ownsRow.lt he k hk).1)
                have ho5 : Owns w5 wr.heap.size 5 v5 by_ := hown5
                obtain ⟨gv, cv, rfl, hgB, hgl, hcv, hcell, hfz⟩ := ho5.form (by omega)
                have k0 := hcell m hm
                rw [Hzb.out] at k0
                have kf := hfz m
                obtain ⟨s1, s2⟩ := ho5.store m zx
                have hb6 : Below wr.heap.size wr (w5.setCell ⟨gv, m, none⟩ (.int .u8 zx)) := hb5.trans ((Below.refl _ _).grown s2 hb5.size fun k hk => by cases hk; exact hgB)
                have ho6 : RowQ (w5.setCell ⟨gv, m, none⟩ (.int .u8 zx)) w3.heap.size 126 (.slice (some ⟨gq, 0, none⟩) tb.length cq) tb := row_same hrowr.out fun k hk => hb6.block k (World.ownsRow.lt hrowr.out k hk).2
                have d16 := (hb6.cell (p := ⟨gq, q * 2 + 1, none⟩) hgq).trans d1
                have ff := World.ownsRow.frozenAt ho6 (q * 2 + 1)
                obtain ⟨u1, u2⟩ := World.ownsRow.stored ho6 (q * 2 + 1) (.slice (some ⟨gv, 0, none⟩) by_.length cv)
                have hb63 : Below w3.heap.size w3 (w5.setCell ⟨gv, m, none⟩ (.int .u8 zx)) := hbr.out.trans (hb6.mono hbr.out.size)
                have hb7 : Below w3.heap.size w3 ((w5.setCell ⟨gv, m, none⟩ (.int .u8 zx)).setCell ⟨gq, q * 2 + 1, none⟩ (.slice (some ⟨gv, 0, none⟩) by_.length cv)) := hb63.trans ((Below.refl _ _).grown u2 hb63.size fun k hk => by cases hk; exact hgw)
                have h7 := h3'.out.below hb7
                have hrow7 : RowQ ((w5.setCell ⟨gv, m, none⟩ (.int .u8 zx)).setCell ⟨gq, q * 2 + 1, none⟩ (.slice (some ⟨gv, 0, none⟩) by_.length cv)) w3.heap.size 126 (.slice (some ⟨gq, 0, none⟩) tb.length cq) (tb.set q (y, .slice (some ⟨gv, 0, none⟩) by_.length cv, by_.set m zx)) := by
                  unfold RowQ
                  rw [List.length_set, hset]
                  exact u1
                have hnq : gv ≠ gq := by omega
                have s1' : Owns ((w5.setCell ⟨gv, m, none⟩ (.int .u8 zx)).setCell ⟨gq, q * 2 + 1, none⟩ (.slice (some ⟨gv, 0, none⟩) by_.length cv)) 0 5 (.slice (some ⟨gv, 0, none⟩) by_.length cv) (by_.set m zx) := row_same (row_base s1 (Nat.zero_le _)) fun k hk => Below.heap_setCell _ _ _ _ (fun e => hnq (by cases hk; exact e))
                obtain ⟨-, -, r27, -⟩ := h7.cells
                have f27 := h7.free 2
                have h8 := h7.swapB (row_base hrow7 (Nat.zero_le _)) (fun k hk => hS3.out k (World.ownsRow.lt hrow7 k hk).1) (fun f hf => by
                  rcases List.mem_or_eq_of_mem_set hf with hf | rfl
                  · exact h7.byB f hf
                  · exact ⟨s1', fun k hk => hS3.out k (by cases hk; exact Nat.le_trans hbr.out.size hgB)⟩)
                have t8 := (t3.trans (Turn.of_below hb7 (Nat.le_refl _))).setCell (p := ⟨r, 2, none⟩) (.inl h7.sR) (.slice (some ⟨gq, 0, none⟩) tb.length cq)
                have hfin : Hid (RefAt (((w5.setCell ⟨gv, m, none⟩ (.int .u8 zx)).setCell ⟨gq, q * 2 + 1, none⟩ (.slice (some ⟨gv, 0, none⟩) by_.length cv)).setCell ⟨r, 2, none⟩ (.slice (some ⟨gq, 0, none⟩) tb.length cq)) r S { M with buf := flipB M.buf y j0 ((2 ^ k : Nat) : Int) }) := ⟨_, _, _, _, n0, h8, hL, hfq3.out _, hn⟩
                clear hgrow5 hwh5 hown5 hRf he hba ho5 hcell hfz s1 s2 ho6 u1 u2 h7 hrow7 s1' h8 hb5 hb6 hb63 hal1
                constructor
                go_wp2
                go_ret
                exact ⟨by rw [e1.out]; rfl, by rw [e1.out, e2.out]; exact hfin.out, t8⟩
              · have hm' : ¬ (m : Int) < by_.length := by omega
                have hm2 : (by_.length : Int) ≤ m := by omega
                have hse3 : Hid _ := hse2 hm
                obtain ⟨m', Hm'⟩ : ∃ m', Hid (m - by_.length = m') := ⟨_, rfl⟩
                have hms : (m : Int) - (by_.length : Int) = (m' : Int) := by rw [← Hm'.out]; omega
                have hmb' : m' ≤ 1073741824 := by rw [← Hm'.out]; omega
                rw [Hm'.out] at hse3
                have ho2 : Hid _ := row_same (w' := wr.alloc (.cells #[.string y, .slice pu by_.length cu] 126)) ho fun k hk => Below.heap_alloc _ _ _ (World.ownsRow.lt ho k hk).2
                clear hse2 hfq2 ho hisb hm
                generalize by_.length = lu at *
                go_wp2
                go_roundw
                case rel => exact ⟨q + 1, m', by omega, hmb', by simp, by simp, hse3, ho2.out, hb.alloc hb.size _⟩
                case measure => simp only [intOf]; omega
            · have hne := str_ne8 hyx
              have hse3 : Hid _ := hse1 hyx
              have ho2 : Hid _ := row_same (w' := wr.alloc (.cells #[.string y, .slice pu by_.length cu] 126)) ho fun k hk => Below.heap_alloc _ _ _ (World.ownsRow.lt ho k hk).2
              clear hse1 hse2 hflq ho hisb hyx
              generalize by_.length = lu at *
              go_wp2
              go_roundw
              case rel => exact ⟨q + 1, m, by omega, hmb, by simp, rfl, hse3, ho2.out, hb.alloc hb.size _⟩
              case measure => simp only [intOf]; omega
          · obtain rfl : q = tb.length := by omega
            exact absurd hse.out (fun h => h.not_end)
end
end Go.Proofs.YthlelcmifolnfaaGreatDoor

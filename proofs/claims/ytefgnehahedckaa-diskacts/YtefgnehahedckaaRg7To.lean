import Derived.Test.YtefgnehahedckaaRg5To
import Derived.Test.YtefgnehahedckaaDs3To
import Derived.Deep.RegionHeld3
/-
  The document's own disk: New, Sync, Remove, Read, Create.
-/
namespace Go.Proofs.Ytefgnehahedckaa
open Go.RowKit Go.Maps

theorem keepR8 {w w1 w2 : World} {c i : Nat} {v : Value} (hc : c < w.heap.size) (hb : Below w1.heap.size w1 w2) (h : w1.cell? ⟨c, i, none⟩ = some v ∧ Below w.heap.size w w1) : w2.cell? ⟨c, i, none⟩ = some v ∧ Below w.heap.size w w2 :=
  ⟨(hb.cell (p := ⟨c, i, none⟩) (Nat.lt_of_lt_of_le hc h.2.size)).trans h.1, h.2.trans (hb.mono h.2.size)⟩
theorem heldR8 {w w1 : World} {c i : Nat} {v : Value} (h : w1.cell? ⟨c, i, none⟩ = some v ∧ Below w.heap.size w w1) : Below w.heap.size w w1 := h.2
theorem lk_at8 {t : List Tr} {i : Nat} (hi : i < t.length) {L : List (ByteArray × List Int)} (hL : trM t = L) (hn : (nms L).Nodup) : lk L (t.getD i default).1 = (t.getD i default).2.2 := by
  have hm : ((t.getD i default).1, (t.getD i default).2.2) ∈ L := by rw [← hL]; exact trM_mem (getD_mem8 hi)
  exact lk_mem hn hm
theorem name_at8 {t : List Tr} {i : Nat} (hi : i < t.length) {L : List (ByteArray × List Int)} (hL : trM t = L) {x : ByteArray} (hx : (t.getD i default).1 = x) : x ∈ nms L := by
  rw [← hL, ← hx]
  exact List.mem_map.2 ⟨_, trM_mem (getD_mem8 hi), rfl⟩
section
variable {w : World} {r : Nat} {S : Nat → Prop} {M : DM}
set_option maxRecDepth 10000 in
theorem rnew_good (b : Nat) (w : World) (hb : b ≤ 16777216) : Calls Try.prog 10 #[.int .i64 (b : Nat)] w fun e w' => e = .returned (.pointer (some ⟨w.heap.size, 0, none⟩)) ∧ RefAt w' w.heap.size (fun k => w.heap.size ≤ k ∧ k < w'.heap.size) (DM.empty b) ∧ Below w.heap.size w w' := by
  have h1 : ¬ (b : Int) < 0 := by omega
  have h2 : ¬ (16777216 : Int) < b := by omega
  have h2' : (b : Int) ≤ 16777216 := by omega
  go_enter Try.func10, Try.ntmps10
  go_wp2
  go_ret
  refine ⟨rfl, ⟨.slice none 0 0, .slice none 0 0, [], [], 0, ⟨heap_alloc_new w _, World.ownsRow_nil _ _ _ _, World.ownsRow_nil _ _ _ _, ⟨Nat.le_refl _, by simp⟩, (fun g hg => by cases hg), (fun g hg => by cases hg), (fun f hf => by cases hf), (fun f hf => by cases hf)⟩, rfl, rfl, rfl⟩, (Below.refl _ _).alloc (Nat.le_refl _) _⟩
set_option maxRecDepth 10000 in
theorem rnew_bad (b : Int) (w : World) (hb : b < 0 ∨ 16777216 < b) : Calls Try.prog 10 #[.int .i64 b] w fun e w' => e = .returned (.pointer none) ∧ w' = w := by
  by_cases h1 : b < 0
  · go_enter Try.func10, Try.ntmps10
    go_wp2
    go_ret
    exact ⟨rfl, rfl⟩
  · have h2 : (16777216 : Int) < b := by omega
    have h1' : 0 ≤ b := by omega
    go_enter Try.func10, Try.ntmps10
    go_wp2
    go_ret
    exact ⟨rfl, rfl⟩
theorem RefAt.cell3 (h : RefAt w r S M) : w.cell? ⟨r, 3, none⟩ = some (.bool M.off) ∧ r < w.heap.size := by
  obtain ⟨vl, vb, tl, tb, n0, h1, -⟩ := h
  obtain ⟨-, -, -, c3, -⟩ := h1.cells
  exact ⟨c3, h1.lt⟩
set_option maxRecDepth 10000 in
theorem rsync_any (h : RefAt w r S M) (hO : M.Ok) (hS : ∀ k, w.heap.size ≤ k → S k) :
    Calls Try.prog 37 #[.pointer (some ⟨r, 0, none⟩)] w fun e w' => e = .returned (.int .i64 (M.syncs.1 : Nat)) ∧ RefAt w' r S M.syncs.2 ∧ Turn S w w' := by
  obtain ⟨c3, hlt⟩ := h.cell3
  have hR : Hid (RefAt w r S M) := h
  cases hf : M.off with
  | true =>
    have e1 : M.syncs = (9, M) := by unfold DM.syncs; rw [if_pos hf]
    rw [e1]
    rw [hf] at c3
    clear h
    go_enter Try.func37, Try.ntmps37
    go_wp2
    go_ret
    exact ⟨rfl, hR.out, Turn.refl _ _⟩
  | false =>
    have hbg := rbegin_any h hO hS
    rw [hf] at c3
    cases hbe : M.begins with
    | false =>
      have e1 : M.syncs = (9, M.begun) := by unfold DM.syncs DM.act; rw [if_neg (by rw [hf]; decide), hbe, if_neg (by decide)]
      rw [e1]
      rw [hbe] at hbg
      clear h hR e1
      go_enter Try.func37, Try.ntmps37
      go_wp2_with fail
      refine hbg.mono ?_
      rintro e w2 ⟨rfl, h2, t2⟩
      clear hbg
      go_wp2
      go_ret
      exact ⟨rfl, h2, t2⟩
    | true =>
      have e1 : M.syncs = (0, M.begun.sync) := by unfold DM.syncs DM.act; rw [if_neg (by rw [hf]; decide), hbe, if_pos rfl]
      rw [e1]
      rw [hbe] at hbg
      have hI1 := hO.inv.begun
      have ho1 : M.begun.ops ≤ 1099511627776 := by rw [DM.begun_ops]; exact hO.ops
      have hS' : Hid (∀ k, w.heap.size ≤ k → S k) := hS
      generalize M.begun = M1 at *
      clear h hR e1 hS
      go_enter Try.func37, Try.ntmps37
      go_wp2_with fail
      refine hbg.mono ?_
      rintro e w2 ⟨rfl, h2, t2⟩
      clear hbg c3
      have h2' : Hid (RefAt w2 r S M1) := h2
      obtain ⟨vl, vb, tl, tb, n0, h3, hL, hB, hn⟩ := h2
      obtain ⟨z1, z2, z3, z4, z5⟩ := ref_sizes hI1 hL hB
      have hpe := rpending_any h3 (by omega) (by omega)
      rw [hB] at hpe z4
      clear h3 hL hn z3 z5 hB
      go_wp2_with fail
      refine hpe.mono ?_
      rintro e w3 ⟨rfl, hb3⟩
      have hsu := rsure_at (h2'.out.below hb3) hI1 ho1 (fun k hk => hS'.out k (Nat.le_trans t2.size (Nat.le_trans hb3.size hk))) (tot M1.buf) (by omega)
      rw [← DM.sync_eq] at hsu
      clear hpe
      go_wp2_with fail
      refine hsu.mono ?_
      rintro e w4 ⟨⟨v, rfl⟩, h4, t4⟩
      clear hsu
      go_wp2
      go_ret
      exact ⟨rfl, h4, t2.trans ((Turn.of_below hb3 (Nat.le_refl _)).trans t4)⟩
set_option maxRecDepth 10000 in
theorem rremove_any (h : RefAt w r S M) (hO : M.Ok) (hS : ∀ k, w.heap.size ≤ k → S k) (x : ByteArray) :
    Calls Try.prog 39 #[.pointer (some ⟨r, 0, none⟩), .string x] w fun e w' => e = .returned (.int .i64 ((M.remove x).1 : Nat)) ∧ RefAt w' r S (M.remove x).2 ∧ Turn S w w' := by
  obtain ⟨c3, hlt⟩ := h.cell3
  have hR : Hid (RefAt w r S M) := h
  cases hf : M.off with
  | true =>
    have e1 : M.remove x = (9, M) := by unfold DM.remove; rw [if_pos hf]
    rw [e1]
    rw [hf] at c3
    clear h
    go_enter Try.func39, Try.ntmps39
    go_wp2
    go_ret
    exact ⟨rfl, hR.out, Turn.refl _ _⟩
  | false =>
    have hf' : ¬ M.off = true := by rw [hf]; decide
    rw [hf] at c3
    obtain ⟨vl, vb, tl, tb, n0, h1, hL, hB, hn⟩ := h
    obtain ⟨z1, z2, z3, z4, z5⟩ := ref_sizes hO.inv hL hB
    have hfi := rfind_any h1 (by omega) x
    clear h1 z3 z5 hn
    go_enter Try.func39, Try.ntmps39
    go_wp2_with fail
    refine hfi.mono ?_
    rintro e w2 ⟨⟨z, rfl, hz⟩, hb2⟩
    clear hfi
    have h2 := hR.out.below hb2
    have t2 : Turn S w w2 := Turn.of_below hb2 (Nat.le_refl _)
    rcases hz with ⟨rfl, hno⟩ | ⟨i, rfl, hi, hnm, -⟩
    · rw [hL] at hno
      have e1 : Hid (M.remove x = (4, M)) := by show _ = _; unfold DM.remove; rw [if_neg hf', if_pos hno]
      clear hno
      go_wp2
      go_ret
      exact ⟨by rw [e1.out]; rfl, by rw [e1.out]; exact h2, t2⟩
    · have hx := name_at8 hi hL hnm
      have hS2 : ∀ k, w2.heap.size ≤ k → S k := fun k hk => hS k (Nat.le_trans hb2.size hk)
      have hbg := rbegin_any h2 hO hS2
      have hi0 : ¬ (i : Int) < 0 := by omega
      cases hbe : M.begins with
      | false =>
        have e1 : Hid (M.remove x = (9, M.begun)) := by show _ = _; unfold DM.remove DM.act; rw [if_neg hf', if_neg (fun h => h hx), hbe, if_neg (by decide)]
        rw [hbe] at hbg
        clear hnm hx hi h2
        go_wp2_with fail
        refine hbg.mono ?_
        rintro e w3 ⟨rfl, h3, t3⟩
        clear hbg
        go_wp2
        go_ret
        exact ⟨by rw [e1.out]; rfl, by rw [e1.out]; exact h3, t2.trans t3⟩
      | true =>
        have e1 : Hid (M.remove x = (0, M.begun.gone x)) := by show _ = _; unfold DM.remove DM.act; rw [if_neg hf', if_neg (fun h => h hx), hbe, if_pos rfl]
        rw [hbe] at hbg
        have hI1 := hO.inv.begun
        have hx1 : Hid (x ∈ nms M.begun.L) := by show _ ∈ _; rw [(DM.begun_off hbe).2.1]; exact hx
        have hops : M.begun.ops ≤ 1099511627776 := by rw [DM.begun_ops]; exact hO.ops
        generalize M.begun = M1 at *
        clear hnm hx hi h2
        go_wp2_with fail
        refine hbg.mono ?_
        rintro e w3 ⟨rfl, h3, t3⟩
        clear hbg
        clear hL hB z1 z2 z4 tl tb
        obtain ⟨vl, vb, tl, tb, n0, h3, hL, hB, hn⟩ := h3
        obtain ⟨z1, z2, z3, z4, z5⟩ := ref_sizes hI1 hL hB
        have hfi := rfind_any h3 (by omega) x
        have hS3 : ∀ k, w3.heap.size ≤ k → S k := fun k hk => hS2 k (Nat.le_trans t3.size hk)
        go_wp2_with fail
        refine hfi.mono ?_
        rintro e w4 ⟨⟨z, rfl, hz⟩, hb4⟩
        clear hfi
        rcases hz with ⟨rfl, hno⟩ | ⟨i2, rfl, hi2, hnm2, -⟩
        · rw [hL] at hno
          exact absurd hx1.out hno
        have h4 := h3.below hb4
        have hgo := rgone_any h4 (fun k hk => hS3 k (Nat.le_trans hb4.size hk)) hi2 (by rw [hL]; exact hI1.nodup) z1 (by omega) hnm2
        rw [hL, hB] at hgo
        clear h3 h4 hi2 hnm2 z3
        go_wp2_with fail
        refine hgo.mono ?_
        rintro e w5 ⟨⟨v, rfl⟩, ⟨vl', vb', tl', tb', h5, hL5, hB5⟩, t5⟩
        clear hgo
        have hfin : Hid (RefAt w5 r S (M1.gone x)) := ⟨vl', vb', tl', tb', n0, h5, hL5, hB5, hn⟩
        clear h5 hL5 hB5
        go_wp2
        go_ret
        exact ⟨by rw [e1.out]; rfl, by rw [e1.out]; exact hfin.out, t2.trans (t3.trans ((Turn.of_below hb4 (Nat.le_refl _)).trans t5))⟩
set_option maxRecDepth 10000 in
theorem rread_any (h : RefAt w r S M) (hO : M.Ok) (x : ByteArray) :
    Calls Try.prog 40 #[.pointer (some ⟨r, 0, none⟩), .string x] w fun e w' => (∃ v, e = .returned (.tuple #[v, .int .i64 (M.readE x : Nat)]) ∧ Owns w' w.heap.size 5 v (M.readB x)) ∧ Below w.heap.size w w' := by
  obtain ⟨c3, hlt⟩ := h.cell3
  cases hf : M.off with
  | true =>
    have e1 : M.readE x = 9 := by unfold DM.readE; rw [if_pos hf]
    have e2 : M.readB x = [] := by unfold DM.readB; rw [if_pos hf]
    rw [e1, e2]
    rw [hf] at c3
    clear h
    go_enter Try.func40, Try.ntmps40
    go_wp2
    go_ret2
    exact ⟨⟨_, rfl, Owns.nil _ _ _⟩, Below.refl _ _⟩
  | false =>
    have hf' : ¬ M.off = true := by rw [hf]; decide
    have hops := hO.ops
    rw [hf] at c3
    obtain ⟨vl, vb, tl, tb, n0, h1, hL, hB, hn⟩ := h
    obtain ⟨z1, z2, z3, z4, z5⟩ := ref_sizes hO.inv hL hB
    have hfi := rfind_any h1 (by omega) x
    go_enter Try.func40, Try.ntmps40
    go_wp2_with fail
    refine hfi.mono ?_
    rintro e w2 ⟨⟨z, rfl, hz⟩, hb2⟩
    clear hfi
    rcases hz with ⟨rfl, hno⟩ | ⟨i, rfl, hi, hnm, -⟩
    · rw [hL] at hno
      have e1 : Hid (M.readE x = 4) := by show _ = _; unfold DM.readE; rw [if_neg hf', if_pos hno]
      have e2 : Hid (M.readB x = []) := by show _ = _; unfold DM.readB; rw [if_neg hf', if_pos hno]
      clear hno z3
      go_wp2
      go_ret2
      exact ⟨⟨_, by rw [e1.out]; rfl, by rw [e2.out]; exact Owns.nil _ _ _⟩, hb2⟩
    · have hx := name_at8 hi hL hnm
      have e1 : Hid (M.readE x = 0) := by show _ = _; unfold DM.readE; rw [if_neg hf', if_neg (fun h => h hx)]
      have e2 : Hid (M.readB x = (tl.getD i default).2.2 ++ pend (trM tb) (tl.getD i default).1) := by
        show _ = _
        have := lk_at8 hi hL hO.inv.nodup
        unfold DM.readB DM.bytes
        rw [if_neg hf', if_neg (fun h => h hx), ← this, hnm, hB]
      have h2 := h1.below hb2
      have hal := rall_any h2 hi (by omega) (by have := z3 _ (getD_mem8 hi); omega)
      have hi0 : ¬ (i : Int) < 0 := by omega
      rw [← e2.out] at hal
      clear hx hnm z3 h2 h1
      go_wp2_with fail
      refine hal.mono ?_
      rintro e w3 ⟨⟨v', rfl, ho⟩, hb3⟩
      clear hal
      have ho' : Hid (Owns w3 w2.heap.size 5 v' (M.readB x)) := ho
      obtain ⟨p, c, rfl⟩ := ho.shape
      clear ho e2
      go_wp2
      go_ret2
      exact ⟨⟨_, by rw [e1.out]; rfl, ho'.out.mono hb2.size⟩, hb2.trans (hb3.mono hb2.size)⟩
end
end Go.Proofs.Ytefgnehahedckaa

/-
  The document's own disk: Create.
-/
namespace Go.Proofs.Ytefgnehahedckaa
open Go.RowKit Go.Maps

section
variable {w : World} {r : Nat} {S : Nat → Prop} {M : DM}
set_option maxRecDepth 10000 in
set_option maxHeartbeats 2000000 in
theorem rcreate_any (h : RefAt w r S M) (hO : M.Ok) (hS : ∀ k, w.heap.size ≤ k → S k) {x : ByteArray} (hs : x.size ≤ maxLen) :
    Calls Try.prog 33 #[.pointer (some ⟨r, 0, none⟩), .string x] w fun e w' => e = .returned (.int .i64 ((M.create x).1 : Nat)) ∧ RefAt w' r S (M.create x).2 ∧ Turn S w w' := by
  obtain ⟨c3, hlt⟩ := h.cell3
  have hR : Hid (RefAt w r S M) := h
  cases hf : M.off with
  | true =>
    have e1 : M.create x = (9, M) := by unfold DM.create; rw [if_pos hf]
    rw [e1]
    rw [hf] at c3
    clear h
    go_enter Try.func33, Try.ntmps33
    go_wp2
    go_ret
    exact ⟨rfl, hR.out, Turn.refl _ _⟩
  | false =>
    have hf' : ¬ M.off = true := by rw [hf]; decide
    rw [hf] at c3
    have hgd := rgood_any x hs w
    cases hg : goodN x with
    | false =>
      have e1 : M.create x = (3, M) := by unfold DM.create; rw [if_neg hf', if_pos hg]
      rw [e1]
      rw [hg] at hgd
      clear h e1
      go_enter Try.func33, Try.ntmps33
      go_wp2_with fail
      refine same_mono hgd ?_
      clear hgd
      go_wp2
      go_ret
      exact ⟨rfl, hR.out, Turn.refl _ _⟩
    | true =>
      have hbg := rbegin_any h hO hS
      rw [hg] at hgd
      cases hbe : M.begins with
      | false =>
        have e1 : M.create x = (9, M.begun) := by unfold DM.create DM.act; rw [if_neg hf', if_neg (by rw [hg]; decide), hbe, if_neg (by decide)]
        rw [e1]
        rw [hbe] at hbg
        clear h hR e1
        go_enter Try.func33, Try.ntmps33
        go_wp2_with fail
        refine same_mono hgd ?_
        clear hgd
        go_wp2_with fail
        refine hbg.mono ?_
        rintro e w2 ⟨rfl, h2, t2⟩
        clear hbg
        go_wp2
        go_ret
        exact ⟨rfl, h2, t2⟩
      | true =>
        have e1 : M.create x = M.begun.create1 x := by unfold DM.create DM.act; rw [if_neg hf', if_neg (by rw [hg]; decide), hbe, if_pos rfl]
        rw [e1]
        rw [hbe] at hbg
        have hI1 := hO.inv.begun
        have hops : M.begun.ops ≤ 1099511627776 := by rw [DM.begun_ops]; exact hO.ops
        have hof : M.begun.off = false := by rw [(DM.begun_off hbe).1, hf]
        have hS' : Hid (∀ k, w.heap.size ≤ k → S k) := hS
        generalize M.begun = M1 at *
        clear h hR e1 hS
        go_enter Try.func33, Try.ntmps33
        go_wp2_with fail
        refine same_mono hgd ?_
        clear hgd
        go_wp2_with fail
        refine hbg.mono ?_
        rintro e w2 ⟨rfl, h2, t2⟩
        clear hbg c3
        have h2' : Hid (RefAt w2 r S M1) := h2
        obtain ⟨vl, vb, tl, tb, n0, h3, hL, hB, hn⟩ := h2
        obtain ⟨z1, z2, z3, z4, z5⟩ := ref_sizes hI1 hL hB
        have hfi := rfind_any h3 (by omega) x
        have hS2 : ∀ k, w2.heap.size ≤ k → S k := fun k hk => hS'.out k (Nat.le_trans t2.size hk)
        have hS2' : Hid (∀ k, w2.heap.size ≤ k → S k) := hS2
        clear hS2
        go_wp2_with fail
        refine hfi.mono ?_
        rintro e w4 ⟨⟨z, rfl, hz⟩, hb4⟩
        clear hfi
        have h4 := h3.below hb4
        have t4 : Turn S w w4 := t2.trans (Turn.of_below hb4 (Nat.le_refl _))
        rcases hz with ⟨rfl, hno⟩ | ⟨i, rfl, hi, hnm, -⟩
        · rw [hL] at hno
          obtain ⟨d0, -⟩ := h4.cells
          have hlt4 := h4.lt
          have s0 : w4.drew.cell? ⟨r, 0, none⟩ = some (.int .i64 (M1.blocks : Nat)) ∧ Below w4.heap.size w4 w4.drew := ⟨d0, ext_drew8 _⟩
          have hus : Hid (∀ W, Below w4.heap.size w4 W → Calls Try.prog 48 #[.pointer (some ⟨r, 0, none⟩)] W fun e w' => e = .returned (.int .i64 (M1.used : Nat)) ∧ Below W.heap.size W w') := by
            intro W hbW
            have := rused_any (h4.below hbW) (by omega) (by omega) (fun f hf => by have := z3 f hf; omega) (by omega)
            rw [if_neg (by rw [hof]; decide), hL, hB] at this
            exact this
          have hend : Hid (∀ W, Below w4.heap.size w4 W → RefAt W r S M1 ∧ Calls Try.prog 67 #[.pointer (some ⟨r, 0, none⟩), .agg #[.string x, .slice none 0 0]] W fun e w' => (∃ v, e = .returned v) ∧ RefAt w' r S (M1.put x []) ∧ Turn S W w') := by
            intro W hbW
            have h5 := h4.below hbW
            refine ⟨⟨vl, vb, tl, tb, n0, h5, hL, hB, hn⟩, (rput_any h5 (fun k hk => hS2'.out k (Nat.le_trans hb4.size (Nat.le_trans hbW.size hk))) (x := x) (v := .slice none 0 0) (bs := []) (Owns.nil _ _ _) (fun g hg => by cases hg) z1).mono ?_⟩
            rintro e w' ⟨he, ⟨vl', h6⟩, t6⟩
            exact ⟨he, ⟨vl', vb, _, tb, n0, h6, by rw [trM_ins, hL]; rfl, hB, hn⟩, t6⟩
          have hfit := hI1.fits
          have htop := hI1.top
          have e2 : Hid (M1.create1 x = if M1.blocks ≤ M1.used then (7, M1) else (0, M1.put x [])) := by show _ = _; unfold DM.create1; rw [if_neg hno]
          clear h3 h4 d0 z3 z5 hno
          obtain ⟨u, hu⟩ : ∃ u, Hid (M1.used = u) := ⟨_, rfl⟩
          obtain ⟨bk, hbk⟩ : ∃ u, Hid (M1.blocks = u) := ⟨_, rfl⟩
          rw [hu.out] at hus hfit e2
          rw [hbk.out] at hfit htop e2 s0
          by_cases hfull : bk ≤ u
          · have hcmp : (bk : Int) ≤ u := by omega
            rw [if_pos hfull] at e2
            go_wp2_with fail
            go_region_held3 (fun w' => w'.cell? ⟨r, 0, none⟩ = some (.int .i64 (bk : Nat)) ∧ Below w4.heap.size w4 w')
              (first | exact s0 | exact keepR8 hlt4 (by assumption) (by assumption))
              (first
                | (go_at_call 48; refine (hus.out _ (heldR8 (by assumption))).mono ?_; rintro e w5 ⟨rfl, hb5⟩))
            go_wp2
            go_ret
            rename_i hlast
            exact ⟨by rw [e2.out]; rfl, by rw [e2.out]; exact (hend.out _ (heldR8 (by assumption))).1, t4.trans (Turn.of_below (heldR8 (by assumption)) (Nat.le_refl _))⟩
          · have hcmp : ¬ (bk : Int) ≤ u := by omega
            have hcmp' : (u : Int) < bk := by omega
            rw [if_neg hfull] at e2
            go_wp2_with fail
            go_region_held3 (fun w' => w'.cell? ⟨r, 0, none⟩ = some (.int .i64 (bk : Nat)) ∧ Below w4.heap.size w4 w')
              (first | exact s0 | exact keepR8 hlt4 (by assumption) (by assumption))
              (first
                | (go_at_call 48; refine (hus.out _ (heldR8 (by assumption))).mono ?_; rintro e w5 ⟨rfl, hb5⟩))
            go_wp2_with fail
            refine ((hend.out _ (heldR8 (by assumption))).2).mono ?_
            rintro e w7 ⟨⟨v, rfl⟩, h7, t7⟩
            have t6 : Turn S w w7 := t4.trans ((Turn.of_below (heldR8 (by assumption)) (Nat.le_refl _)).trans t7)
            go_wp2
            go_ret
            exact ⟨by rw [e2.out]; rfl, by rw [e2.out]; exact h7, t6⟩
        · have hx := name_at8 hi hL hnm
          have e2 : Hid (M1.create1 x = (0, (M1.gone x).put x [])) := by show _ = _; unfold DM.create1; rw [if_pos hx]
          have hS4 : ∀ k, w4.heap.size ≤ k → S k := fun k hk => hS2'.out k (Nat.le_trans hb4.size hk)
          have hgo := rgone_any h4 hS4 hi (by rw [hL]; exact hI1.nodup) z1 (by omega) hnm
          rw [hL, hB] at hgo
          have hi0 : (0 : Int) ≤ i := by omega
          have hIg := hI1.gone x
          clear h3 h4 z3 z5 hx hnm
          go_wp2_with fail
          refine hgo.mono ?_
          rintro e w5 ⟨⟨v, rfl⟩, ⟨vl', vb', tl', tb', h5, hL5, hB5⟩, t5⟩
          clear hgo
          have hpu := rput_any h5 (fun k hk => hS4 k (Nat.le_trans t5.size hk)) (x := x) (v := .slice none 0 0) (bs := []) (Owns.nil _ _ _) (fun g hg => by cases hg) (ref_sizes (M := M1.gone x) hIg hL5 hB5).1
          clear h5
          go_wp2_with fail
          refine hpu.mono ?_
          rintro e w6 ⟨⟨v, rfl⟩, ⟨vl6, h6⟩, t6⟩
          clear hpu
          have hfin : Hid (RefAt w6 r S ((M1.gone x).put x [])) := ⟨vl6, vb', _, tb', n0, h6, by rw [trM_ins, hL5]; rfl, hB5, hn⟩
          clear h6 hL5 hB5
          go_wp2
          go_ret
          exact ⟨by rw [e2.out]; rfl, by rw [e2.out]; exact hfin.out, t4.trans (t5.trans t6)⟩
end
end Go.Proofs.Ytefgnehahedckaa

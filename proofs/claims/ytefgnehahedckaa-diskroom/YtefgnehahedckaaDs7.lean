/-
  The walk of corbellaw08.DiskRoom.
-/
import Derived.Test.YtefgnehahedckaaDs6
import Derived.Test.YtefgnehahedckaaDs4
namespace Go.Proofs.Ytefgnehahedckaa
open Go.RowKit Go.Maps

/-- A row of texts that lies outside of S. -/
def TextsX (w : World) (S : Nat → Prop) (v : Value) (xs : List ByteArray) : Prop :=
  ∃ p c, v = .slice p xs.length c ∧ xs.length ≤ c ∧ (p = none → c = 0) ∧
    (0 < xs.length → ∃ b o, p = some ⟨b, o, none⟩ ∧ ¬ S b ∧ b < w.heap.size ∧ ∀ i, i < xs.length → w.cell? ⟨b, o + i, none⟩ = some (.string (xs.getD i ByteArray.empty)))
theorem TextsX.of_owns {w : World} {S : Nat → Prop} {B : Nat} {v : Value} {xs : List ByteArray} (h : w.ownsRow B 9 1 v xs.length (textsV8 xs)) (hS : ∀ k, S k → k < B) : TextsX w S v xs := by
  rcases id h.2 with ⟨rfl, hn⟩ | ⟨g, cap, cur, rfl, hB, hg, hnc, _, _, _⟩
  · exact ⟨none, 0, by rw [hn], by omega, fun _ => rfl, fun h0 => by omega⟩
  · refine ⟨_, _, rfl, hnc, fun h => (by cases h), fun h0 => ⟨g, 0, rfl, fun hs => absurd (hS g hs) (by omega), (World.ownsRow.lt h g rfl).2, fun i hi => ?_⟩⟩
    rw [Nat.zero_add, World.ownsRow.cellAt h i (by omega)]
    unfold textsV8
    rw [List.getElem?_map, List.getElem?_eq_getElem hi, List.getD_eq_getElem?_getD, List.getElem?_eq_getElem hi]
    rfl
theorem TextsX.turn {w w' : World} {S : Nat → Prop} {v : Value} {xs : List ByteArray} (h : TextsX w S v xs) (ht : Turn S w w') : TextsX w' (more8 S w w') v xs := by
  obtain ⟨p, c, rfl, h1, h2, h3⟩ := h
  refine ⟨p, c, rfl, h1, h2, fun h0 => ?_⟩
  obtain ⟨b, o, rfl, hn, hb, hc⟩ := h3 h0
  exact ⟨b, o, rfl, fun hs => hs.elim hn fun h => absurd h.1 (by omega), Nat.lt_of_lt_of_le hb ht.size, fun i hi => (ht.cell (p := ⟨b, o + i, none⟩) hb hn).trans (hc i hi)⟩

set_option maxRecDepth 10000 in
set_option maxHeartbeats 8000000 in
theorem diskRoom_any (b : Int) (p : Option Addr) (len cap : Nat) (xs : List Act8) (hlen : xs.length = len) (w : World) (hb : 0 ≤ b ∧ b ≤ 18446744073709551615) (hX : HasA8 w (.slice p len cap) xs) (hn : (len : Int) ≤ 9223372036854775807) :
    Calls Try.prog 6 #[.int .u64 b, .slice p len cap] w fun e w' => e = .returned (.bool true) ∧ Below w.heap.size w w' := by
  obtain ⟨nb, hnb⟩ : ∃ a : Nat, b % 20 = (a : Int) := ⟨(b % 20).toNat, by omega⟩
  have hnb20 : nb < 20 := by omega
  have h0 := Disk8.new nb w w (by omega) (Below.refl _ _)
  go_enter Try.func6, Try.ntmps6
  go_wp2_with fail
  refine h0.mono ?_
  clear h0
  rintro e w1 ⟨rfl, hD, -⟩
  have hf := few8 p len cap xs hlen w1 (hX.below hD.bel (Nat.le_refl _)) hn
  have hlen' : Hid (xs.length = len) := hlen
  clear hlen
  generalize w.heap.size + 1 = d at *
  generalize (fun k => w.heap.size ≤ k ∧ k < w1.heap.size) = S at *
  go_wp2_with fail
  refine hf.mono ?_
  clear hf
  rintro e w2 ⟨r, rfl, hfew, hb2⟩
  replace hD := hD.below hb2
  cases r with
  | false =>
    clear hfew
    go_wp2_with fail
    refine (lives8 w2).mono ?_
    rintro e w3 ⟨rfl, hb3⟩
    go_wp2
    go_ret
    exact ⟨rfl, (hD.below hb3).bel⟩
  | true =>
    have hF : Few8 xs := hfew rfl
    have hl300 : len ≤ 300 := by rw [← hlen'.out]; exact few_len8 hF
    have hS0 : ∃ (M : DM) (S : Nat → Prop), Disk8 w w2 d S M ∧ Calm8 nb 0 M := ⟨_, _, hD, okN_empty nb (by omega), rfl, rfl, rfl⟩
    have hF' : Hid (Few8 xs) := hF
    clear hfew hF hD
    go_wp2
    go_loopw [33] (fun t wr => ∃ j : Nat, j ≤ len ∧ t = .int .i64 (j : Nat) ∧ ∃ (M : DM) (S : Nat → Prop), Disk8 w wr d S M ∧ Calm8 nb j M) (fun t _ => len - (intOf t).toNat)
    case atStart => exact ⟨0, by omega, rfl, hS0⟩
    case round =>
      clear hS0
      obtain ⟨j, hj, rfl, M, S, hD, hC⟩ := hrel
      by_cases hlt : j < len
      · obtain ⟨p', c', hpv, hcc, _, hcell, hfit⟩ := hX.below hD.bel (Nat.le_refl _)
        obtain ⟨_, _, _, _, _, _, hfit0⟩ := id hX
        simp only [Value.slice.injEq] at hpv
        obtain ⟨rfl, hnn, rfl⟩ := hpv
        rw [← hnn] at hcc hcell
        clear hnn
        obtain ⟨bb, oo, rfl, hbb, hcell⟩ := hcell (by omega)
        obtain ⟨c1, c2, c3, c4, c5, c6⟩ := hcell j (by omega)
        have hjx : j < xs.length := by rw [hlen'.out]; exact hlt
        have hmem : xs.getD j default ∈ xs := by rw [List.getD_eq_getElem?_getD, List.getElem?_eq_getElem hjx]; exact List.getElem_mem hjx
        have hf := hfit0 _ hmem
        have hsz := few_size8 hF'.out hmem
        clear hcell hfit hfit0 hjx hmem
        generalize xs.getD j default = act at *
        obtain ⟨kd, ka, kb, kp, kc, kdat, kn, kk⟩ := act
        obtain ⟨hhas, hisB, _, _, _, hkd, _, _⟩ := hf
        dsimp only at c1 c2 c3 c4 c5 c6 hhas hisB hkd hsz
        have sa := short9 ka (by omega)
        have sb := short9 kb (by omega)
        have hal := (Below.refl wr.heap.size wr).alloc (Nat.le_refl _) (.cells #[.int .i64 kd, .string ka, .string kb, .slice kp kdat.length kc, .int .i64 kn, .int .i64 kk] 31)
        have hD1 := hD.below hal
        clear hD hal
        have hkd' : kd < 0 ∨ 5 < kd ∨ kd = 0 ∨ kd = 1 ∨ kd = 2 ∨ kd = 3 ∨ kd = 4 ∨ kd = 5 := by omega
        unfold in64 at hkd
        rcases hkd' with q | q | q | q | q | q | q | q
        · have hend : Hid (∃ (M : DM) (S : Nat → Prop), Disk8 w _ d S M ∧ Calm8 nb (j + 1) M) := ⟨M, S, hD1, hC.mono⟩
          clear hD1 hC
          go_wp2
          go_roundw
          case rel => exact ⟨j + 1, by omega, by simp, hend.out⟩
          case measure => simp only [intOf]; omega
        · have hend : Hid (∃ (M : DM) (S : Nat → Prop), Disk8 w _ d S M ∧ Calm8 nb (j + 1) M) := ⟨M, S, hD1, hC.mono⟩
          clear hD1 hC
          go_wp2
          go_roundw
          case rel => exact ⟨j + 1, by omega, by simp, hend.out⟩
          case measure => simp only [intOf]; omega
        · subst q
          have hc : Calls Try.prog 17 #[.pointer (some ⟨d, 0, none⟩), .string ka] _ fun e w' => RoomEnd w d nb (j + 1) M.usedT M.pendT e w' := (hD1.create hC.ok (by omega) sa).mono fun e w' he => RoomEnd.of hC (hC.create ka) he
          have hu := used_any hD1.at8
          have hp := pending_any hD1.at8
          clear hD1 hC
          generalize M.usedT = u at *
          generalize M.pendT = p at *
          go_wp2_with fail
          refine same_mono hu ?_
          go_wp2_with fail
          refine same_mono hp ?_
          clear hu hp
          go_wp2_with fail
          refine hc.mono ?_
          rintro e w4 he
          obtain ⟨r, rfl, M', S', hD', hC', hr⟩ := he
          have hu' := used_any hD'.at8
          have hp' := pending_any hD'.at8
          have hle : (M'.usedT : Int) ≤ (nb : Int) := by have := hC'.used; omega
          have hend : Hid (∃ (M : DM) (S : Nat → Prop), Disk8 w w4 d S M ∧ Calm8 nb (j + 1) M) := ⟨M', S', hD', hC'⟩
          clear hD' hC' hc
          generalize M'.usedT = u' at *
          generalize M'.pendT = p' at *
          rcases hr with rfl | ⟨hr, rfl, rfl⟩
          · go_wp2_with fail
            refine same_mono hu' ?_
            go_wp2_with fail
            refine same_mono hu' ?_
            go_wp2
            go_roundw
            case rel => exact ⟨j + 1, by omega, by simp, hend.out⟩
            case measure => simp only [intOf]; omega
          · have hr0 : ((r : Int) == 0) = false := by rw [beq_eq_false_iff_ne]; omega
            go_wp2_with fail
            refine same_mono hu' ?_
            go_wp2_with fail
            refine same_mono hu' ?_
            go_wp2_with fail
            refine same_mono hu' ?_
            go_wp2_with fail
            refine same_mono hp' ?_
            go_wp2
            go_roundw
            case rel => exact ⟨j + 1, by omega, by simp, hend.out⟩
            case measure => simp only [intOf]; omega
        · subst q
          have hc : Calls Try.prog 20 #[.pointer (some ⟨d, 0, none⟩), .string ka, .slice kp kdat.length kc] _ fun e w' => RoomEnd w d nb (j + 1) M.usedT M.pendT e w' := (hD1.append hC.ok (by omega) sa (hD1.old hhas) (by omega)).mono fun e w' he => RoomEnd.of hC (hC.append ka hisB) he
          have hu := used_any hD1.at8
          have hp := pending_any hD1.at8
          clear hD1 hC
          generalize M.usedT = u at *
          generalize M.pendT = p at *
          go_wp2_with fail
          refine same_mono hu ?_
          go_wp2_with fail
          refine same_mono hp ?_
          clear hu hp
          go_wp2_with fail
          refine hc.mono ?_
          rintro e w4 he
          obtain ⟨r, rfl, M', S', hD', hC', hr⟩ := he
          have hu' := used_any hD'.at8
          have hp' := pending_any hD'.at8
          have hle : (M'.usedT : Int) ≤ (nb : Int) := by have := hC'.used; omega
          have hend : Hid (∃ (M : DM) (S : Nat → Prop), Disk8 w w4 d S M ∧ Calm8 nb (j + 1) M) := ⟨M', S', hD', hC'⟩
          clear hD' hC' hc
          generalize M'.usedT = u' at *
          generalize M'.pendT = p' at *
          rcases hr with rfl | ⟨hr, rfl, rfl⟩
          · go_wp2_with fail
            refine same_mono hu' ?_
            go_wp2_with fail
            refine same_mono hu' ?_
            go_wp2
            go_roundw
            case rel => exact ⟨j + 1, by omega, by simp, hend.out⟩
            case measure => simp only [intOf]; omega
          · have hr0 : ((r : Int) == 0) = false := by rw [beq_eq_false_iff_ne]; omega
            go_wp2_with fail
            refine same_mono hu' ?_
            go_wp2_with fail
            refine same_mono hu' ?_
            go_wp2_with fail
            refine same_mono hu' ?_
            go_wp2_with fail
            refine same_mono hp' ?_
            go_wp2
            go_roundw
            case rel => exact ⟨j + 1, by omega, by simp, hend.out⟩
            case measure => simp only [intOf]; omega
        · subst q
          have hc : Calls Try.prog 18 #[.pointer (some ⟨d, 0, none⟩)] _ fun e w' => RoomEnd w d nb (j + 1) M.usedT M.pendT e w' := (hD1.sync hC.ok (by omega)).mono fun e w' he => RoomEnd.of hC ⟨hC.syncs.1, hC.syncs.2.1⟩ he
          have hu := used_any hD1.at8
          have hp := pending_any hD1.at8
          clear hD1 hC
          generalize M.usedT = u at *
          generalize M.pendT = p at *
          go_wp2_with fail
          refine same_mono hu ?_
          go_wp2_with fail
          refine same_mono hp ?_
          clear hu hp
          go_wp2_with fail
          refine hc.mono ?_
          rintro e w4 he
          obtain ⟨r, rfl, M', S', hD', hC', hr⟩ := he
          have hu' := used_any hD'.at8
          have hp' := pending_any hD'.at8
          have hle : (M'.usedT : Int) ≤ (nb : Int) := by have := hC'.used; omega
          have hend : Hid (∃ (M : DM) (S : Nat → Prop), Disk8 w w4 d S M ∧ Calm8 nb (j + 1) M) := ⟨M', S', hD', hC'⟩
          clear hD' hC' hc
          generalize M'.usedT = u' at *
          generalize M'.pendT = p' at *
          rcases hr with rfl | ⟨hr, rfl, rfl⟩
          · go_wp2_with fail
            refine same_mono hu' ?_
            go_wp2_with fail
            refine same_mono hu' ?_
            go_wp2
            go_roundw
            case rel => exact ⟨j + 1, by omega, by simp, hend.out⟩
            case measure => simp only [intOf]; omega
          · have hr0 : ((r : Int) == 0) = false := by rw [beq_eq_false_iff_ne]; omega
            go_wp2_with fail
            refine same_mono hu' ?_
            go_wp2_with fail
            refine same_mono hu' ?_
            go_wp2_with fail
            refine same_mono hu' ?_
            go_wp2_with fail
            refine same_mono hp' ?_
            go_wp2
            go_roundw
            case rel => exact ⟨j + 1, by omega, by simp, hend.out⟩
            case measure => simp only [intOf]; omega
        · subst q
          have hc : Calls Try.prog 25 #[.pointer (some ⟨d, 0, none⟩), .string ka, .string kb] _ fun e w' => RoomEnd w d nb (j + 1) M.usedT M.pendT e w' := (hD1.rename hC.ok (by omega) sa sb).mono fun e w' he => RoomEnd.of hC (hC.rename ka kb) he
          have hu := used_any hD1.at8
          have hp := pending_any hD1.at8
          clear hD1 hC
          generalize M.usedT = u at *
          generalize M.pendT = p at *
          go_wp2_with fail
          refine same_mono hu ?_
          go_wp2_with fail
          refine same_mono hp ?_
          clear hu hp
          go_wp2_with fail
          refine hc.mono ?_
          rintro e w4 he
          obtain ⟨r, rfl, M', S', hD', hC', hr⟩ := he
          have hu' := used_any hD'.at8
          have hp' := pending_any hD'.at8
          have hle : (M'.usedT : Int) ≤ (nb : Int) := by have := hC'.used; omega
          have hend : Hid (∃ (M : DM) (S : Nat → Prop), Disk8 w w4 d S M ∧ Calm8 nb (j + 1) M) := ⟨M', S', hD', hC'⟩
          clear hD' hC' hc
          generalize M'.usedT = u' at *
          generalize M'.pendT = p' at *
          rcases hr with rfl | ⟨hr, rfl, rfl⟩
          · go_wp2_with fail
            refine same_mono hu' ?_
            go_wp2_with fail
            refine same_mono hu' ?_
            go_wp2
            go_roundw
            case rel => exact ⟨j + 1, by omega, by simp, hend.out⟩
            case measure => simp only [intOf]; omega
          · have hr0 : ((r : Int) == 0) = false := by rw [beq_eq_false_iff_ne]; omega
            go_wp2_with fail
            refine same_mono hu' ?_
            go_wp2_with fail
            refine same_mono hu' ?_
            go_wp2_with fail
            refine same_mono hu' ?_
            go_wp2_with fail
            refine same_mono hp' ?_
            go_wp2
            go_roundw
            case rel => exact ⟨j + 1, by omega, by simp, hend.out⟩
            case measure => simp only [intOf]; omega
        · subst q
          have hRm := hC.remove ka
          have hc : Calls Try.prog 26 #[.pointer (some ⟨d, 0, none⟩), .string ka] _ fun e w' => ∃ r : Nat, e = .returned (.int .i64 (r : Nat)) ∧ ∃ (M' : DM) (S : Nat → Prop), Disk8 w w' d S M' ∧ Calm8 nb (j + 1) M' ∧ ((r = 0 ∧ (M'.usedT : Int) < M.usedT) ∨ (r ≠ 0 ∧ M'.usedT = M.usedT ∧ M'.pendT = M.pendT)) := (hD1.remove hC.ok (by omega) sa).mono fun e w' he => by
            obtain ⟨r, h1, M', S', h2, h3, h4⟩ := RoomEnd.of hC ⟨hRm.1, hRm.2.1⟩ he
            refine ⟨(M.remove ka).1, he.1, (M.remove ka).2, _, he.2.1, hRm.1, ?_⟩
            by_cases h0 : (M.remove ka).1 = 0
            · refine .inl ⟨h0, ?_⟩
              have := hRm.2.2.1 h0
              rw [hC.used.1, hRm.1.used.1]
              omega
            · obtain ⟨g1, g2⟩ := hRm.2.1 h0
              exact .inr ⟨h0, by rw [hRm.1.used.1, g1, hC.used.1], by rw [hRm.1.used.2.1, g2, hC.used.2.1]⟩
          have hu := used_any hD1.at8
          have hp := pending_any hD1.at8
          clear hD1 hC hRm
          generalize M.usedT = u at *
          generalize M.pendT = p at *
          go_wp2_with fail
          refine same_mono hu ?_
          go_wp2_with fail
          refine same_mono hp ?_
          clear hu hp
          go_wp2_with fail
          refine hc.mono ?_
          rintro e w4 ⟨r, rfl, M', S', hD', hC', hr⟩
          have hu' := used_any hD'.at8
          have hp' := pending_any hD'.at8
          have hle : (M'.usedT : Int) ≤ (nb : Int) := by have := hC'.used; omega
          have hend : Hid (∃ (M : DM) (S : Nat → Prop), Disk8 w w4 d S M ∧ Calm8 nb (j + 1) M) := ⟨M', S', hD', hC'⟩
          clear hD' hC' hc
          generalize M'.usedT = u' at *
          generalize M'.pendT = p' at *
          rcases hr with ⟨rfl, hlow⟩ | ⟨hr, rfl, rfl⟩
          · go_wp2_with fail
            refine same_mono hu' ?_
            go_wp2_with fail
            refine same_mono hu' ?_
            go_wp2_with fail
            refine same_mono hu' ?_
            go_wp2
            go_roundw
            case rel => exact ⟨j + 1, by omega, by simp, hend.out⟩
            case measure => simp only [intOf]; omega
          · have hr0 : ((r : Int) == 0) = false := by rw [beq_eq_false_iff_ne]; omega
            go_wp2_with fail
            refine same_mono hu' ?_
            go_wp2_with fail
            refine same_mono hu' ?_
            go_wp2_with fail
            refine same_mono hu' ?_
            go_wp2_with fail
            refine same_mono hp' ?_
            go_wp2
            go_roundw
            case rel => exact ⟨j + 1, by omega, by simp, hend.out⟩
            case measure => simp only [intOf]; omega
        · subst q
          have hu := used_any hD1.at8
          have hp := pending_any hD1.at8
          have hle : (M.usedT : Int) ≤ (nb : Int) := by have := hC.used; omega
          have hend : Hid (∃ (M : DM) (S : Nat → Prop), Disk8 w _ d S M ∧ Calm8 nb (j + 1) M) := ⟨M, S, hD1, hC.mono⟩
          clear hD1 hC
          generalize M.usedT = u at *
          generalize M.pendT = p at *
          go_wp2_with fail
          refine same_mono hu ?_
          go_wp2_with fail
          refine same_mono hp ?_
          go_wp2_with fail
          refine same_mono hu ?_
          go_wp2_with fail
          refine same_mono hu ?_
          go_wp2
          go_roundw
          case rel => exact ⟨j + 1, by omega, by simp, hend.out⟩
          case measure => simp only [intOf]; omega
      · obtain rfl : j = len := by omega
        have hc := list_any hD.at8 hC.ok.inv
        have hnd := hC.ok.inv.nodup
        have hcn := hC.ok.inv.count
        rw [hC.used.2.2.2] at hc
        obtain ⟨l, hl⟩ : ∃ l, l = M.names := ⟨_, rfl⟩
        rw [← hl] at hc
        have hl24 : l.length ≤ 16777216 := by rw [hl]; show (List.map _ _).length ≤ _; rw [List.length_map]; exact hcn
        have hC2 : Calm8 nb 300 M := ⟨hC.ok.mono (by omega), hC.off, hC.n, hC.blocks⟩
        have hst : Hid (M.names = l) := hl.symm
        have hnd' : Hid l.Nodup := by rw [hl]; exact hnd
        clear hnd hcn hl hC
        go_wp2_with fail
        refine hc.mono ?_
        clear hc
        rintro e w3 ⟨⟨vl, rfl, ol⟩, hb3⟩
        have ht := TextsX.of_owns (S := S) ol fun k hk => (hD.own k hk).2
        replace hD := hD.below hb3
        obtain ⟨pl, cl, rfl, hcl, -, -⟩ := id ht
        have hS1 : ∃ (M : DM) (S : Nat → Prop), Disk8 w w3 d S M ∧ Calm8 nb (300 + 0) M ∧ TextsX w3 S (.slice pl l.length cl) l ∧ Hid (M.names = l.drop 0) := ⟨M, S, hD, hC2, ht, hst⟩
        clear hD hC2 ht hst ol hb3
        go_wp2
        go_loopw [120] (fun t wr => ∃ i : Nat, i ≤ l.length ∧ t = .int .i64 (i : Nat) ∧ ∃ (M : DM) (S : Nat → Prop), Disk8 w wr d S M ∧ Calm8 nb (300 + i) M ∧ TextsX wr S (.slice pl l.length cl) l ∧ Hid (M.names = l.drop i)) (fun t _ => l.length - (intOf t).toNat)
        case atStart => exact ⟨0, by omega, rfl, hS1⟩
        case round =>
          clear hS1
          obtain ⟨i, hi, rfl, M, S, hD, hC, ht, hst⟩ := hrel
          by_cases hil : i < l.length
          · obtain ⟨pp, cc, hpv, -, -, hcell⟩ := id ht
            simp only [Value.slice.injEq] at hpv
            obtain ⟨rfl, -, rfl⟩ := hpv
            obtain ⟨b2, o2, rfl, hnS, hb2, hcell⟩ := hcell (by omega)
            have c1 := hcell i hil
            clear hcell
            have hdr : l.drop i = l.getD i ByteArray.empty :: l.drop (i + 1) := by
              rw [List.drop_eq_getElem_cons hil, List.getD_eq_getElem?_getD, List.getElem?_eq_getElem hil]
              rfl
            obtain ⟨x, hx⟩ : ∃ x, x = l.getD i ByteArray.empty := ⟨_, rfl⟩
            rw [← hx] at c1 hdr
            have hxm : x ∈ M.names := by rw [hst.out, hdr]; exact List.mem_cons_self
            have hRm := hC.remove x
            obtain ⟨g1, g2⟩ := hRm.2.2.2 hxm
            have sx : x.size ≤ maxLen := by
              have := good_size (hC.ok.inv.good x hxm)
              unfold maxLen
              omega
            have hst2 : Hid ((M.remove x).2.names = l.drop (i + 1)) := by
              show _ = _
              rw [g2, hst.out, hdr]
              exact filter_first (by rw [← hdr]; exact hnd'.out.sublist (List.drop_sublist _ _))
            have hc : Calls Try.prog 26 #[.pointer (some ⟨d, 0, none⟩), .string x] wr fun e w' => e = .returned (.int .i64 0) ∧ ∃ (M : DM) (S : Nat → Prop), Disk8 w w' d S M ∧ Calm8 nb (300 + (i + 1)) M ∧ TextsX w' S (.slice (some ⟨b2, o2, none⟩) l.length cl) l ∧ Hid (M.names = l.drop (i + 1)) := (hD.remove hC.ok (by omega) sx).mono fun e w' ⟨h1, h2, h3⟩ => ⟨by rw [h1, g1]; rfl, _, _, h2, hRm.1, ht.turn h3, hst2⟩
            clear hD hC hst hst2 hRm g1 g2 hxm sx hdr hx ht
            go_wp2_with fail
            refine hc.mono ?_
            clear hc
            rintro e w4 ⟨rfl, hend⟩
            go_wp2
            go_roundw
            case rel => exact ⟨i + 1, by omega, by simp, hend⟩
            case measure => simp only [intOf]; omega
          · obtain rfl : i = l.length := by omega
            have hno := hC.none (by rw [hst.out, List.drop_length])
            have hu := used_any hD.at8
            have hp := pending_any hD.at8
            rw [hno.1] at hu
            rw [hno.2] at hp
            clear hst hno ht
            go_wp2_with fail
            refine same_mono hu ?_
            go_wp2_with fail
            refine same_mono hp ?_
            go_wp2_with fail
            refine (lives8 wr).mono ?_
            rintro e w5 ⟨rfl, hb5⟩
            go_wp2
            go_ret
            exact ⟨rfl, (hD.below hb5).bel⟩
end Go.Proofs.Ytefgnehahedckaa

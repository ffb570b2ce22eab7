import Derived.Test.YtefgnehahedckaaRh3To
import Derived.Test.YtefgnehahedckaaDs6To
/-
  Contract: corbellaw08.alike, of a disk and the document's own that are the same.
-/
namespace Go.Proofs.Ytefgnehahedckaa
open Go.RowKit Go.Maps

section
variable {w : World} {r : Nat} {S : Nat → Prop} {M : DM}
theorem rlist_at (h : RefAt w r S M) (hI : M.Inv) : Calls Try.prog 47 #[.pointer (some ⟨r, 0, none⟩)] w fun e w' => (∃ v, e = .returned v ∧ HasT8 w' v M.listT) ∧ Below w.heap.size w w' := by
  obtain ⟨vl, vb, tl, tb, n0, h1, hL, hB, hn⟩ := h
  obtain ⟨z1, z2, z3, z4, z5⟩ := ref_sizes hI hL hB
  unfold DM.listT
  cases hf : M.off with
  | true =>
    rw [hf] at h1
    refine (rlist_off h1 z1).mono ?_
    rintro e w' ⟨rfl, hb⟩
    rw [if_pos rfl]
    exact ⟨⟨_, rfl, HasT8.of_owns (B := 0) (World.ownsRow_nil _ _ _ _)⟩, hb⟩
  | false =>
    rw [hf] at h1
    refine (rlist_on h1 z1).mono ?_
    rintro e w' ⟨⟨v, rfl, ho⟩, hb⟩
    rw [if_neg (by decide)]
    rw [hL] at ho
    exact ⟨⟨_, rfl, HasT8.of_owns ho⟩, hb⟩
theorem rused_at (h : RefAt w r S M) (hO : M.Ok) : Calls Try.prog 48 #[.pointer (some ⟨r, 0, none⟩)] w fun e w' => e = .returned (.int .i64 (M.usedT : Nat)) ∧ Below w.heap.size w w' := by
  obtain ⟨vl, vb, tl, tb, n0, h1, hL, hB, hn⟩ := h
  obtain ⟨z1, z2, z3, z4, z5⟩ := ref_sizes hO.inv hL hB
  have hops := hO.ops
  have := rused_any h1 (by omega) (by omega) (fun f hf => by have := z3 f hf; omega) (by omega)
  rw [hL, hB] at this
  exact this
theorem rpend_at (h : RefAt w r S M) (hO : M.Ok) : Calls Try.prog 46 #[.pointer (some ⟨r, 0, none⟩)] w fun e w' => e = .returned (.int .i64 (tot M.buf : Nat)) ∧ Below w.heap.size w w' := by
  obtain ⟨vl, vb, tl, tb, n0, h1, hL, hB, hn⟩ := h
  obtain ⟨z1, z2, z3, z4, z5⟩ := ref_sizes hO.inv hL hB
  have hops := hO.ops
  have := rpending_any h1 (by omega) (by omega)
  rw [hB] at this
  exact this
theorem RefAt.cell4 (h : RefAt w r S M) : w.cell? ⟨r, 4, none⟩ = some (.int .i64 (M.ops : Nat)) := by
  obtain ⟨vl, vb, tl, tb, n0, h1, -⟩ := h
  obtain ⟨-, -, -, -, c4, -⟩ := h1.cells
  exact c4
end
theorem keepL {w w1 w2 : World} {r : Nat} {x y : Value} (hc : r < w.heap.size) (hb : Below w1.heap.size w1 w2) (h : w1.cell? ⟨r, 4, none⟩ = some x ∧ w1.cell? ⟨r, 3, none⟩ = some y ∧ Below w.heap.size w w1) : w2.cell? ⟨r, 4, none⟩ = some x ∧ w2.cell? ⟨r, 3, none⟩ = some y ∧ Below w.heap.size w w2 :=
  ⟨(hb.cell (p := ⟨r, 4, none⟩) (Nat.lt_of_lt_of_le hc h.2.2.size)).trans h.1, (hb.cell (p := ⟨r, 3, none⟩) (Nat.lt_of_lt_of_le hc h.2.2.size)).trans h.2.1, h.2.2.trans (hb.mono h.2.2.size)⟩
theorem heldL {w w1 : World} {r : Nat} {x y : Value} (h : w1.cell? ⟨r, 4, none⟩ = some x ∧ w1.cell? ⟨r, 3, none⟩ = some y ∧ Below w.heap.size w w1) : Below w.heap.size w w1 := h.2.2
section
variable {w0 w : World} {d r c : Nat} {S G : Nat → Prop} {M : DM}
set_option maxRecDepth 10000 in
set_option maxHeartbeats 8000000 in
theorem alike_any8 (h : Two8 w0 w d r S G M M) (hO : M.OkN c) (hc : c < 1099511627776) :
    Calls Try.prog 14 #[.pointer (some ⟨d, 0, none⟩), .pointer (some ⟨r, 0, none⟩)] w fun e w' => e = .returned (.bool true) ∧ Below w.heap.size w w' := by
  have hOk := hO.ok hc
  have hpe := rpend_at h.ref hOk
  have hll : Hid (M.listT.length ≤ 1099511627776) := by
    show _ ≤ _
    have := hO.inv.count
    unfold DM.listT
    split
    · simp
    · unfold DM.names nms; rw [List.length_map]; omega
  obtain ⟨d3, hlt⟩ := h.ref.cell3
  have h' : Hid (Two8 w0 w d r S G M M) := h
  have hOk' : Hid M.Ok := hOk
  clear h hO hOk d3
  go_enter Try.func14, Try.ntmps14
  go_wp2_with fail
  refine hpe.mono ?_
  rintro e w1 ⟨rfl, hb1⟩
  clear hpe
  have h1 := h'.out.below hb1
  obtain ⟨d3, hlt1⟩ := h1.ref.cell3
  have d4 := h1.ref.cell4
  have h1' : Hid (Two8 w0 w1 d r S G M M) := h1
  have hpt : Hid (M.pendT = if M.off = true then 0 else tot M.buf) := rfl
  clear h1 h'
  go_upto_if 11 with fail
  go_cut [5] (fun s wc => s = .int .i64 (M.pendT : Nat) ∧ wc = w1)
  case first =>
    cases hf : M.off with
    | true =>
      rw [hf, if_pos rfl] at hpt
      rw [hf] at d3
      go_wp2
      go_meet
      case rel => exact ⟨by rw [hpt.out]; rfl, rfl⟩
    | false =>
      rw [hf, if_neg (by decide)] at hpt
      rw [hf] at d3
      go_wp2
      go_meet
      case rel => exact ⟨by rw [hpt.out], rfl⟩
  case rest =>
    obtain ⟨rfl, rfl⟩ := hcut
    have s0 : wc.drew.cell? ⟨r, 4, none⟩ = some (.int .i64 (M.ops : Nat)) ∧ wc.drew.cell? ⟨r, 3, none⟩ = some (.bool M.off) ∧ Below wc.heap.size wc wc.drew := ⟨d4, d3, ext_drew8 _⟩
    clear d3 d4 hpt
    have hon : Hid ((!M.off) != M.off) := by show _ = true; cases M.off <;> rfl
    have g1 : Hid (∀ W, Below wc.heap.size wc W → Calls Try.prog 27 #[.pointer (some ⟨d, 0, none⟩)] W fun e w' => (∃ v, e = .returned v ∧ HasT8 w' v M.listT) ∧ Below W.heap.size W w') := fun W hb => (list_any (h1'.out.below hb).disk.at8 hOk'.out.inv).mono fun e w' he => ⟨he.1.imp fun v hv => ⟨hv.1, HasT8.of_owns hv.2⟩, he.2⟩
    have g2 : Hid (∀ W, Below wc.heap.size wc W → Calls Try.prog 47 #[.pointer (some ⟨r, 0, none⟩)] W fun e w' => (∃ v, e = .returned v ∧ HasT8 w' v M.listT) ∧ Below W.heap.size W w') := fun W hb => rlist_at (h1'.out.below hb).ref hOk'.out.inv
    have g3 : Hid (∀ W, Below wc.heap.size wc W → Calls Try.prog 24 #[.pointer (some ⟨d, 0, none⟩)] W fun e w' => e = .returned (.int .i64 (M.usedT : Nat)) ∧ w' = W) := fun W hb => used_any (h1'.out.below hb).disk.at8
    have g4 : Hid (∀ W, Below wc.heap.size wc W → Calls Try.prog 48 #[.pointer (some ⟨r, 0, none⟩)] W fun e w' => e = .returned (.int .i64 (M.usedT : Nat)) ∧ Below W.heap.size W w') := fun W hb => rused_at (h1'.out.below hb).ref hOk'.out
    have g5 : Hid (∀ W, Below wc.heap.size wc W → Calls Try.prog 19 #[.pointer (some ⟨d, 0, none⟩)] W fun e w' => e = .returned (.int .i64 (M.pendT : Nat)) ∧ w' = W) := fun W hb => pending_any (h1'.out.below hb).disk.at8
    have g6 : Hid (∀ W, Below wc.heap.size wc W → Calls Try.prog 30 #[.pointer (some ⟨d, 0, none⟩)] W fun e w' => e = .returned (.int .i64 (M.ops : Nat)) ∧ w' = W) := fun W hb => ops_any (h1'.out.below hb).disk.at8
    have g7 : Hid (∀ W, Below wc.heap.size wc W → Calls Try.prog 29 #[.pointer (some ⟨d, 0, none⟩)] W fun e w' => e = .returned (.bool (!M.off)) ∧ w' = W) := fun W hb => on_any (h1'.out.below hb).disk.at8
    clear h1' hOk' hlt
    generalize M.usedT = us at *
    generalize M.pendT = pe at *
    generalize M.ops = op at *
    generalize M.off = fo at *
    generalize M.listT = li at *
    go_wp2_with fail
    go_region_held3 (fun w' => w'.cell? ⟨r, 4, none⟩ = some (.int .i64 (op : Nat)) ∧ w'.cell? ⟨r, 3, none⟩ = some (.bool fo) ∧ Below wc.heap.size wc w')
      (first | exact s0 | exact keepL hlt1 (by assumption) (by assumption) | assumption)
      (first
        | (go_at_call 27; refine (g1.out _ (heldL (by assumption))).mono ?_; rintro e w2 ⟨⟨v2, rfl, t2⟩, hb2⟩; replace t2 : Hid (HasT8 w2 v2 li) := t2)
        | (go_at_call 47; refine (g2.out _ (heldL (by assumption))).mono ?_; rintro e w3 ⟨⟨v3, rfl, t3⟩, hb3⟩; replace t3 : Hid (HasT8 w3 v3 li) := t3; replace t2 : Hid (HasT8 w3 v2 li) := t2.out.below hb3 (Nat.le_refl _))
        | (go_at_call 31; refine (texts8 _ _ li li _ t2.out t3.out hll.out hll.out).mono ?_; rintro e w4 ⟨rfl, hb4⟩; rw [decide_eq_true rfl])
        | (go_at_call 24; refine same_mono (g3.out _ (heldL (by assumption))) ?_)
        | (go_at_call 48; refine (g4.out _ (heldL (by assumption))).mono ?_; rintro e w5 ⟨rfl, hb5⟩)
        | (go_at_call 19; refine same_mono (g5.out _ (heldL (by assumption))) ?_)
        | (go_at_call 30; refine same_mono (g6.out _ (heldL (by assumption))) ?_)
        | (go_at_call 29; refine same_mono (g7.out _ (heldL (by assumption))) ?_))
    go_wp2
    go_ret
    have hfin := hb1.trans ((heldL (by assumption) : Below wc.heap.size wc _).mono hb1.size)
    exact ⟨by cases fo <;> rfl, hfin⟩
end
end Go.Proofs.Ytefgnehahedckaa

/-
  The walk of corbellaw08.DiskActs.
-/
namespace Go.Proofs.Ytefgnehahedckaa
open Go.RowKit Go.Maps

theorem two_new8 {w w1 w2 : World} {b : Nat} (h1 : Disk8 w w1 (w.heap.size + 1) (fun k => w.heap.size ≤ k ∧ k < w1.heap.size) (DM.empty b)) (h2 : RefAt w2 w1.heap.size (fun k => w1.heap.size ≤ k ∧ k < w2.heap.size) (DM.empty b)) (hb : Below w1.heap.size w1 w2) :
    Two8 w w2 (w.heap.size + 1) w1.heap.size (fun k => w.heap.size ≤ k ∧ k < w1.heap.size) (fun k => w1.heap.size ≤ k ∧ k < w2.heap.size) (DM.empty b) (DM.empty b) :=
  ⟨h1.below hb, h2, fun _ hk => ⟨Nat.le_trans h1.bel.size hk.1, hk.2⟩, fun _ hk hg => by omega⟩
set_option maxRecDepth 10000 in
set_option maxHeartbeats 8000000 in
theorem diskActs_any (b : Int) (p : Option Addr) (len cap : Nat) (xs : List Act8) (hlen : xs.length = len) (w : World) (hb : -9223372036854775808 ≤ b ∧ b ≤ 9223372036854775807) (hX : HasA8 w (.slice p len cap) xs) (hn : (len : Int) ≤ 9223372036854775807) :
    Calls Try.prog 3 #[.int .i64 b, .slice p len cap] w fun e w' => e = .returned (.bool true) ∧ Below w.heap.size w w' := by
  by_cases hbad : b < 0 ∨ 16777216 < b
  · have n1 := new_bad b w hbad
    have n2 := rnew_bad b w hbad
    have hl := lives8 w
    go_enter Try.func3, Try.ntmps3
    go_wp2_with fail
    refine same_mono n1 ?_
    go_wp2_with fail
    refine same_mono n2 ?_
    go_wp2_with fail
    refine hl.mono ?_
    rintro e w3 ⟨rfl, hb3⟩
    go_wp2
    go_ret
    exact ⟨rfl, hb3⟩
  obtain ⟨nb, rfl⟩ : ∃ a : Nat, b = (a : Int) := ⟨b.toNat, by omega⟩
  have hnb : nb ≤ 16777216 := by omega
  have n1 := Disk8.new nb w w hnb (Below.refl _ _)
  clear hbad hb
  go_enter Try.func3, Try.ntmps3
  go_wp2_with fail
  refine n1.mono ?_
  rintro e w1 ⟨rfl, hD1, hb1⟩
  have n2 := rnew_good nb w1 hnb
  clear n1
  go_wp2_with fail
  refine n2.mono ?_
  rintro e w2 ⟨rfl, hR2, hb2⟩
  have hT := two_new8 hD1 hR2 hb2
  have hbw : Below w.heap.size w w2 := hT.disk.bel
  have hf := few8 p len cap xs hlen w2 (hX.below hbw (Nat.le_refl _)) hn
  have hlen' : Hid (xs.length = len) := hlen
  clear n2 hlen hD1 hR2 hb2 hb1
  generalize (fun k => w.heap.size ≤ k ∧ k < w1.heap.size) = S at *
  generalize (fun k => w1.heap.size ≤ k ∧ k < w2.heap.size) = G at *
  generalize w.heap.size + 1 = d at *
  generalize w1.heap.size = r at *
  go_wp2_with fail
  refine hf.mono ?_
  clear hf
  rintro e w3 ⟨rf, rfl, hfew, hb3⟩
  replace hT := hT.below hb3
  cases rf with
  | false =>
    clear hfew
    go_wp2_with fail
    refine (lives8 w3).mono ?_
    rintro e w4 ⟨rfl, hb4⟩
    go_wp2
    go_ret
    exact ⟨rfl, (hT.below hb4).disk.bel⟩
  | true =>
    have hF : Few8 xs := hfew rfl
    have hl300 : len ≤ 300 := by rw [← hlen'.out]; exact few_len8 hF
    have hS0 : ∃ (M : DM) (S G : Nat → Prop), Two8 w w3 d r S G M M ∧ M.OkN 0 := ⟨_, _, _, hT, okN_empty nb hnb⟩
    have hF' : Hid (Few8 xs) := hF
    clear hfew hF hT hb3 hbw
    go_wp2
    go_loopw [28] (fun t wr => ∃ j : Nat, j ≤ len ∧ t = .int .i64 (j : Nat) ∧ ∃ (M : DM) (S G : Nat → Prop), Two8 w wr d r S G M M ∧ M.OkN j) (fun t _ => len - (intOf t).toNat)
    case atStart => exact ⟨0, by omega, rfl, hS0⟩
    case round =>
      clear hS0
      obtain ⟨j, hj, rfl, M, S, G, hD, hC⟩ := hrel
      by_cases hlt : j < len
      · obtain ⟨p', c', hpv, hcc, _, hcell, hfit⟩ := hX.below hD.disk.bel (Nat.le_refl _)
        obtain ⟨_, _, _, _, _, _, hfit0⟩ := id hX
        simp only [Value.slice.injEq] at hpv
        obtain ⟨rfl, hnn, rfl⟩ := hpv
        rw [← hnn] at hcc hcell
        clear hnn
        obtain ⟨bb, oo, rfl, hbb, hcell⟩ := hcell (by omega)
        obtain ⟨c1, c2, c3, c4, c5, c6⟩ := hcell j (by omega)
        have hjx : j < xs.length := by rw [hlen'.out]; exact hlt
        have hmem : xs.getD j default ∈ xs := by rw [List.getD_eq_getElem?_getD, List.getElem?_eq_getElem hjx]; exact List.getElem_mem hjx
        have hf := hfit0 _ hmem
        have hsz := few_size8 hF'.out hmem
        clear hcell hfit hfit0 hjx hmem
        generalize xs.getD j default = act at *
        obtain ⟨kd, ka, kb, kp, kc, kdat, kn, kk⟩ := act
        dsimp only at c1 c2 c3 c4 c5 c6 hsz
        have sa := short9 ka (by omega)
        have sb := short9 kb (by omega)
        have hal := (Below.refl wr.heap.size wr).alloc (Nat.le_refl _) (.cells #[.int .i64 kd, .string ka, .string kb, .slice kp kdat.length kc, .int .i64 kn, .int .i64 kk] 31)
        have hD1 := hD.below hal
        have hok := hC.acted hf
        have ha := act_any8 hD1 hC (by omega) kd ka kb kp kc kdat kn kk hf hsz.1 sa sb
        obtain ⟨M', hM'⟩ : ∃ M', M' = M.acted ⟨kd, ka, kb, kp, kc, kdat, kn, kk⟩ := ⟨_, rfl⟩
        rw [← hM'] at ha hok
        clear hD hD1 hC hf hal hM'
        go_wp2_with fail
        refine ha.mono ?_
        clear ha
        rintro e w5 ⟨rfl, S', G', hD5⟩
        have hali := alike_any8 hD5 hok (by omega)
        go_wp2_with fail
        refine hali.mono ?_
        clear hali
        rintro e w6 ⟨rfl, hb6⟩
        have hend : Hid (∃ (M : DM) (S G : Nat → Prop), Two8 w w6 d r S G M M ∧ M.OkN (j + 1)) := ⟨M', S', G', hD5.below hb6, hok⟩
        clear hD5 hok hb6
        go_wp2
        go_roundw
        case rel => exact ⟨j + 1, by omega, by simp, hend.out⟩
        case measure => simp only [intOf]; omega
      · obtain rfl : j = len := by omega
        have hbel := hD.disk.bel
        clear hD hC
        go_wp2_with fail
        refine (lives8 wr).mono ?_
        rintro e w7 ⟨rfl, hb7⟩
        go_wp2
        go_ret
        exact ⟨rfl, hbel.trans (hb7.mono hbel.size)⟩
end Go.Proofs.Ytefgnehahedckaa

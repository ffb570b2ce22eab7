/-
  The walk of corbellaw08.DiskKeeps.
-/
import Derived.Test.YtefgnehahedckaaDt1
import Derived.Test.YtefgnehahedckaaDs4
import Derived.Deep.RegionLaw
namespace Go.Proofs.Ytefgnehahedckaa
open Go.RowKit Go.Maps

/-- A text of a row that came in. -/
theorem HasT8.at8 {w w' : World} {p : Option Addr} {n c : Nat} {xs : List ByteArray} (h : HasT8 w (.slice p n c) xs) (hb : Below w.heap.size w w') {i : Nat} (hi : i < n) : ∃ b o, p = some ⟨b, o, none⟩ ∧ b < w'.heap.size ∧ n ≤ c ∧ xs.length = n ∧ w'.cell? ⟨b, o + i, none⟩ = some (.string (xs.getD i ByteArray.empty)) := by
  obtain ⟨p', c', e, h1, h2, h3⟩ := h
  simp only [Value.slice.injEq] at e
  obtain ⟨rfl, rfl, rfl⟩ := e
  obtain ⟨b, o, rfl, hlt, hc⟩ := h3 (by omega)
  exact ⟨b, o, rfl, Nat.lt_of_lt_of_le hlt hb.size, h1, rfl, (hb.cell (p := ⟨b, o + i, none⟩) hlt).trans (hc i hi)⟩
theorem getD_take8 {xs : List ByteArray} {i : Nat} (h : i < xs.length) : xs.take (i + 1) = xs.take i ++ [xs.getD i ByteArray.empty] := by
  rw [List.take_succ_eq_append_getElem h, List.getD_eq_getElem?_getD, List.getElem?_eq_getElem h]
  rfl

/-- The first m bytes. -/
theorem Has.head8 {w : World} {p : Option Addr} {n c : Nat} {xs : List Int} (h : Has w (.slice p n c) xs) {m : Nat} (hm : m ≤ xs.length) : Has w (.slice p m c) (xs.take m) := by
  obtain ⟨p', c', e, h1, h2, h3⟩ := h
  simp only [Value.slice.injEq] at e
  obtain ⟨rfl, rfl, rfl⟩ := e
  have hl : (xs.take m).length = m := by rw [List.length_take]; omega
  refine ⟨p, c, by rw [hl], by omega, h2, fun h0 => ?_⟩
  rw [hl] at h0
  obtain ⟨b, o, rfl, hb, hc⟩ := h3 (by omega)
  refine ⟨b, o, rfl, hb, fun i hi => ?_⟩
  rw [hl] at hi
  rw [hc i (by omega)]
  simp [hi]
/-- One goal for all the orders of a region. -/
structure Wrap8 (G : Prop) : Prop where
  out : G
theorem once_proved {G P : Prop} (proof : G) (main : Wrap8 G → P) : P := main ⟨proof⟩
/-- A row of which the first m entries are told by f, the others by g. -/
def mix8 (f g : ByteArray → List Int) (ns : List ByteArray) (m : Nat) : List (List Int) := (ns.take m).map f ++ (ns.drop m).map g
theorem mix8_zero (f g : ByteArray → List Int) (ns : List ByteArray) : mix8 f g ns 0 = ns.map g := by simp [mix8]
theorem mix8_all (f g : ByteArray → List Int) (ns : List ByteArray) {m : Nat} (h : m = ns.length) : mix8 f g ns m = ns.map f := by subst h; simp [mix8]
theorem mix8_len (f g : ByteArray → List Int) (ns : List ByteArray) (m : Nat) : (mix8 f g ns m).length = ns.length := by simp [mix8]; omega
theorem mix8_get (f g : ByteArray → List Int) (ns : List ByteArray) {m : Nat} (h : m < ns.length) : (mix8 f g ns m).getD m [] = g (ns.getD m ByteArray.empty) := by
  have hl : ((ns.take m).map f).length = m := by simp; omega
  unfold mix8
  rw [List.getD_eq_getElem?_getD, List.getElem?_append_right (by omega), hl, List.getD_eq_getElem?_getD, List.getElem?_eq_getElem h]
  simp [List.getElem?_eq_getElem h]
theorem mix8_set (f g : ByteArray → List Int) (ns : List ByteArray) {m : Nat} (h : m < ns.length) : (mix8 f g ns m).set m (f (ns.getD m ByteArray.empty)) = mix8 f g ns (m + 1) := by
  have hl : ((ns.take m).map f).length = m := by simp; omega
  unfold mix8
  rw [List.set_append_right _ _ (by omega), hl, Nat.sub_self, List.drop_eq_getElem_cons h, List.map_cons, List.set_cons_zero, List.take_succ_eq_append_getElem h, List.map_append, List.getD_eq_getElem?_getD, List.getElem?_eq_getElem h]
  simp
theorem mix8_skip (f g : ByteArray → List Int) (ns : List ByteArray) {m : Nat} (h : m < ns.length) (e : f (ns.getD m ByteArray.empty) = g (ns.getD m ByteArray.empty)) : mix8 f g ns (m + 1) = mix8 f g ns m := by
  rw [← mix8_set f g ns h, e, ← mix8_get f g ns h]
  have h' : m < (mix8 f g ns m).length := by rw [mix8_len]; exact h
  rw [List.getD_eq_getElem?_getD, List.getElem?_eq_getElem h']
  exact List.set_getElem_self h'
theorem map_getD8 (f : ByteArray → List Int) (ns : List ByteArray) {m : Nat} (h : m < ns.length) : (ns.map f).getD m [] = f (ns.getD m ByteArray.empty) := by
  simp [List.getD_eq_getElem?_getD, List.getElem?_eq_getElem h]
/-- An act's copy. -/
def Copy8 (w : World) (ab : Nat) (x : Act8) : Prop := w.heap[ab]? = some (.cells #[.int .i64 x.kind, .string x.a, .string x.b, .slice x.p x.data.length x.c, .int .i64 x.n, .int .i64 x.k] 31 (0, 0))
theorem Copy8.lt {w : World} {ab : Nat} {x : Act8} (h : Copy8 w ab x) : ab < w.heap.size := (Array.getElem?_eq_some_iff.1 h).1
theorem Copy8.cells {w : World} {ab : Nat} {x : Act8} (h : Copy8 w ab x) : w.cell? ⟨ab, 0, none⟩ = some (.int .i64 x.kind) ∧ w.cell? ⟨ab, 1, none⟩ = some (.string x.a) ∧ w.cell? ⟨ab, 3, none⟩ = some (.slice x.p x.data.length x.c) := by
  unfold Copy8 at h
  refine ⟨?_, ?_, ?_⟩ <;> simp [World.cell?, h]
theorem Copy8.block {w w' : World} {ab : Nat} {x : Act8} (h : Copy8 w ab x) (hb : w'.heap[ab]? = w.heap[ab]?) : Copy8 w' ab x := hb.trans h
theorem copy_new8 (w : World) (x : Act8) : Copy8 (w.alloc (.cells #[.int .i64 x.kind, .string x.a, .string x.b, .slice x.p x.data.length x.c, .int .i64 x.n, .int .i64 x.k] 31)) w.heap.size x := by
  show (w.heap.push _)[w.heap.size]? = _
  exact Array.getElem?_push_size
theorem sum_take8 {xs : List Act8} {j : Nat} (h : j < xs.length) : ((xs.take (j + 1)).map fun x => x.data.length).sum = ((xs.take j).map fun x => x.data.length).sum + (xs.getD j default).data.length := by
  rw [List.take_succ_eq_append_getElem h, List.map_append, List.sum_append, List.getD_eq_getElem?_getD, List.getElem?_eq_getElem h]
  simp
theorem sum_le8 (xs : List Act8) (j : Nat) : ((xs.take j).map fun x => x.data.length).sum ≤ (xs.map fun x => x.data.length).sum := by
  conv => rhs; rw [← List.take_append_drop j xs, List.map_append, List.sum_append]
  omega

set_option maxRecDepth 10000 in
set_option maxHeartbeats 8000000 in
theorem diskKeeps_any (pn : Option Addr) (ln cn : Nat) (ns : List ByteArray) (en : ns.length = ln) (pw : Option Addr) (lw cw : Nat) (xs : List Act8) (ew : xs.length = lw) (k : Int) (w : World) (hN : HasT8 w (.slice pn ln cn) ns) (hln : (ln : Int) ≤ 9223372036854775807) (hsz : ∀ s ∈ ns, s.size ≤ maxLen) (hX : HasA8 w (.slice pw lw cw) xs) (hlw : (lw : Int) ≤ 9223372036854775807) (hk : -9223372036854775808 ≤ k ∧ k ≤ 9223372036854775807) :
    Calls Try.prog 5 #[.slice pn ln cn, .slice pw lw cw, .int .i64 k] w fun e w' => e = .returned (.bool true) ∧ Below w.heap.size w w' := by
  have hf := few8 pw lw cw xs ew w hX hlw
  have en' : Hid (ns.length = ln) := en
  have ew' : Hid (xs.length = lw) := ew
  clear en ew
  go_enter Try.func5, Try.ntmps5
  go_wp2_with fail
  refine hf.mono ?_
  clear hf
  rintro e w1 ⟨r, rfl, hfew, hb1⟩
  cases r with
  | false =>
    clear hfew
    go_wp2_with fail
    refine (lives8 w1).mono ?_
    rintro e w2 ⟨rfl, hb2⟩
    go_wp2
    go_ret
    exact ⟨rfl, hb1.trans (hb2.mono hb1.size)⟩
  | true =>
  have hF : Hid (Few8 xs) := hfew rfl
  have hl300 : Hid (lw ≤ 300) := by
    show _
    rw [← ew'.out]
    exact few_len8 hF.out
  clear hfew
  by_cases h8 : 8 < ln
  · have h8' : (8 : Int) < ln := by omega
    go_wp2_with fail
    refine (lives8 w1).mono ?_
    rintro e w2 ⟨rfl, hb2⟩
    go_wp2
    go_ret
    exact ⟨rfl, hb1.trans (hb2.mono hb1.size)⟩
  have h8' : (ln : Int) ≤ 8 := by omega
  go_wp2_with fail
  refine (Disk8.new 100000 w w1 (by decide) hb1).mono ?_
  rintro e w2 ⟨rfl, hD, -⟩
  generalize w1.heap.size + 1 = d at *
  generalize (fun k => w1.heap.size ≤ k ∧ k < w2.heap.size) = S at *
  have hS0 : ∃ (M : DM) (S : Nat → Prop), Disk8 w w2 d S M ∧ Hid (Keep1 0 (ns.take 0) M) := ⟨_, _, hD, Keep1.empty⟩
  clear hD hb1
  go_wp2
  go_loopw [44] (fun t wr => ∃ j : Nat, j ≤ ln ∧ t = .int .i64 (j : Nat) ∧ ∃ (M : DM) (S : Nat → Prop), Disk8 w wr d S M ∧ Hid (Keep1 j (ns.take j) M)) (fun t _ => ln - (intOf t).toNat)
  case atStart => exact ⟨0, by omega, rfl, hS0⟩
  case round =>
    clear hS0
    obtain ⟨j, hj, rfl, M, S, hD, hK⟩ := hrel
    by_cases hlt : j < ln
    · obtain ⟨b, o, rfl, hbl, hnc, -, c1⟩ := hN.at8 hD.bel hlt
      have hjl : j < ns.length := by rw [en'.out]; exact hlt
      have hmem : ns.getD j ByteArray.empty ∈ ns := by rw [List.getD_eq_getElem?_getD, List.getElem?_eq_getElem hjl]; exact List.getElem_mem hjl
      have sx := hsz _ hmem
      have htk : Hid (ns.take (j + 1) = ns.take j ++ [ns.getD j ByteArray.empty]) := getD_take8 hjl
      clear hmem
      generalize ns.getD j ByteArray.empty = x at *
      by_cases h30 : 30 < x.size
      · have h30' : (30 : Int) < x.size := by omega
        clear hK htk hjl
        go_wp2_with fail
        refine (lives8 wr).mono ?_
        rintro e w3 ⟨rfl, hb3⟩
        go_wp2
        go_ret
        exact ⟨rfl, (hD.below hb3).bel⟩
      · have h30' : (x.size : Int) ≤ 30 := by omega
        obtain ⟨hK1, hK2⟩ := hK.out.step x (by rw [List.length_take]; omega)
        have hc := hD.create hK.out.calm.ok (by omega) sx
        rw [hK2] at hc
        have hend : Hid (Keep1 (j + 1) (ns.take (j + 1)) (M.create x).2) := by
          show _
          rw [htk.out]
          exact hK1
        clear hK1 hK2 hK htk hD hjl
        cases hg : goodN x with
        | true =>
          rw [hg, if_pos rfl] at hc
          go_wp2_with fail
          refine hc.mono ?_
          clear hc
          rintro e w3 ⟨rfl, hD, -⟩
          have hgd := good_any x sx w3
          rw [hg] at hgd
          go_wp2_with fail
          refine same_mono hgd ?_
          clear hgd hg
          go_wp2
          go_roundw
          case rel => exact ⟨j + 1, by omega, by simp, _, _, hD, hend⟩
          case measure => simp only [intOf]; omega
        | false =>
          rw [hg, if_neg (by decide)] at hc
          go_wp2_with fail
          refine hc.mono ?_
          clear hc
          rintro e w3 ⟨rfl, hD, -⟩
          have hgd := good_any x sx w3
          rw [hg] at hgd
          go_wp2_with fail
          refine same_mono hgd ?_
          clear hgd hg
          go_wp2
          go_roundw
          case rel => exact ⟨j + 1, by omega, by simp, _, _, hD, hend⟩
          case measure => simp only [intOf]; omega
    · obtain rfl : j = ln := by omega
      have hK0 : Keep1 j ns M := by
        have := hK.out
        rwa [List.take_of_length_le (by rw [en'.out]; exact Nat.le_refl _)] at this
      obtain ⟨hK2, hy1, hy2, hy3⟩ := hK0.two (by rw [en'.out]; omega)
      clear hK hK0
      obtain ⟨w3, hr3, hh3, hb3⟩ := makeRow8 wr j (by omega)
      obtain ⟨w4, hr4, hh4, hb4⟩ := makeRow8 w3 j (by omega)
      have hlt3 : wr.heap.size < w3.heap.size := (Array.getElem?_eq_some_iff.1 hh3).1
      have hD4 := (hD.below hb3).below hb4
      have hrow4 : w4.heap[wr.heap.size]? = some (.cells (List.replicate j (Value.slice none 0 0)).toArray 29 (0, 0)) := (hb4.block _ hlt3).trans hh3
      have hne1 : ¬ S wr.heap.size := fun h => absurd (hD.own _ h).2 (by omega)
      have hne2 : ¬ S w3.heap.size := fun h => absurd (hD.own _ h).2 (by omega)
      have hsz0 := hD.bel.size
      have hKp : ∃ (M : DM) (S : Nat → Prop) (us vs : List Value), Keep8 w w4 d w3.heap.size wr.heap.size S M us vs (ns.map M.bytes) (ns.map fun x => lk M.L x) ∧ Hid (Keep2 (8 + 0) (((xs.take 0).map fun x => x.data.length).sum) ns M) ∧ Hid (tot M.buf = 0) := by
        refine ⟨M, S, _, _, ⟨hD4, hne2, hne1, (by omega), (by omega), hsz0, row_made8 hh4 (by rw [List.length_map]; exact en'.out) ?_, row_made8 hrow4 (by rw [List.length_map]; exact en'.out) ?_⟩, ?_, hy3⟩
        · intro b hb
          obtain ⟨x, _, rfl⟩ := List.mem_map.1 hb
          exact hy1 x
        · intro b hb
          obtain ⟨x, _, rfl⟩ := List.mem_map.1 hb
          exact hy2 x
        · have : Keep2 (8 + 0) 0 ns M := ⟨⟨hK2.calm.ok.mono (by omega), hK2.calm.off, hK2.calm.n, hK2.calm.blocks⟩, hK2.mem, hK2.used⟩
          exact this
      clear hD hD4 hh3 hh4 hrow4 hne1 hne2 hb3 hb4 hsz0 hK2 hy1 hy2 hy3 hlt3
      generalize wr.heap.size = gs at *
      generalize hga : w3.heap.size = ga at *
      have hKq : ∃ (M : DM) (S : Nat → Prop) (us vs : List Value), Keep8 w w4 d ga gs S M us vs (ns.map M.bytes) (ns.map fun x => lk M.L x) ∧ Hid (Keep2 (8 + 0) (((xs.take 0).map fun x => x.data.length).sum) ns M) ∧ Value.int .i64 0 = .int .i64 ((tot M.buf : Nat) : Int) ∧ Hid (tot M.buf ≤ ((xs.take 0).map fun x => x.data.length).sum) := by
        obtain ⟨M, S, us, vs, h1, h2, h3⟩ := hKp
        exact ⟨M, S, us, vs, h1, h2, by rw [h3.out]; rfl, by show tot M.buf ≤ _; rw [h3.out]; exact Nat.zero_le _⟩
      clear hKp hga
      have hd30 : Hid ((xs.map fun x => x.data.length).sum ≤ 30000) := few_data8 hF.out
      go_wp2
      go_loopw [69, 13] (fun t q wr => ∃ i : Nat, i ≤ lw ∧ t = .int .i64 (i : Nat) ∧ ∃ (M : DM) (S : Nat → Prop) (us vs : List Value), Keep8 w wr d ga gs S M us vs (ns.map M.bytes) (ns.map fun x => lk M.L x) ∧ Hid (Keep2 (8 + i) (((xs.take i).map fun x => x.data.length).sum) ns M) ∧ q = .int .i64 ((tot M.buf : Nat) : Int) ∧ Hid (tot M.buf ≤ ((xs.take i).map fun x => x.data.length).sum)) (fun t _ _ => lw - (intOf t).toNat)
      case atStart => exact ⟨0, by omega, rfl, hKq⟩
      case round =>
        clear hKq
        obtain ⟨i, hi, rfl, M, S, us, vs, hP, hK, rfl, hT⟩ := hrel
        by_cases hil : i < lw
        · obtain ⟨p', c', hpv, hcc, _, hcell, -⟩ := hX.below hP.disk.bel (Nat.le_refl _)
          obtain ⟨_, _, _, _, _, _, hfit0⟩ := id hX
          simp only [Value.slice.injEq] at hpv
          obtain ⟨rfl, hnn, rfl⟩ := hpv
          rw [← hnn] at hcc hcell
          clear hnn
          obtain ⟨bb, oo, rfl, hbb, hcell⟩ := hcell (by omega)
          obtain ⟨c1, c2, c3, c4, c5, c6⟩ := hcell i (by omega)
          have hjx : i < xs.length := by rw [ew'.out]; exact hil
          have hmem : xs.getD i default ∈ xs := by rw [List.getD_eq_getElem?_getD, List.getElem?_eq_getElem hjx]; exact List.getElem_mem hjx
          have hf := hfit0 _ hmem
          have hsm := few_size8 hF.out hmem
          have hsum : Hid (((xs.take (i + 1)).map fun x => x.data.length).sum = ((xs.take i).map fun x => x.data.length).sum + (xs.getD i default).data.length) := sum_take8 hjx
          have hsle : Hid (((xs.take (i + 1)).map fun x => x.data.length).sum ≤ 30000) := Nat.le_trans (sum_le8 xs (i + 1)) hd30.out
          clear hcell hfit0 hjx hmem
          generalize xs.getD i default = act at *
          have hcp := copy_new8 wr act
          obtain ⟨kd, ka, kb, kp, kc, kdat, kn, kk⟩ := act
          obtain ⟨hhas, hisB, _, _, _, hkd, _, _⟩ := hf
          dsimp only at c1 c2 c3 c4 c5 c6 hhas hisB hkd hsm hsum hcp
          have sa := short9 ka (by omega)
          have hal := (Below.refl wr.heap.size wr).alloc (Nat.le_refl _) (.cells #[.int .i64 kd, .string ka, .string kb, .slice kp kdat.length kc, .int .i64 kn, .int .i64 kk] 31)
          have hP1 := hP.below hal
          have abS : ¬ S wr.heap.size := fun h => absurd (hP.disk.own _ h).2 (by omega)
          have abA : wr.heap.size ≠ ga := by have := hP.rowA.lt; omega
          have abG : wr.heap.size ≠ gs := by have := hP.rowS.lt; omega
          clear hP hal
          by_cases h2 : kd = 2
          · subst h2
            obtain ⟨hK', e1, e2, e3, e4⟩ := hK.out.sync
            have hc := hP1.disk.sync hK.out.calm.ok (by have := hl300.out; omega)
            rw [e1] at hc
            go_wp2_with fail
            refine hc.mono ?_
            clear hc
            rintro e w5 ⟨rfl, hD5, ht5⟩
            have hp5 := pending_any hD5.at8
            rw [hK'.calm.used.2.1, e2] at hp5
            have hP5 := hP1.op hD5 ht5
            have ef : M.syncs.2.bytes = M.bytes := funext e3
            have eg : (fun x => lk M.syncs.2.L x) = M.bytes := funext e4
            have hC0 : ∃ vs' : List Value, Keep8 w w5 d ga gs (more8 S (wr.alloc (.cells #[.int .i64 2, .string ka, .string kb, .slice kp kdat.length kc, .int .i64 kn, .int .i64 kk] 31)) w5) M.syncs.2 us vs' (ns.map M.bytes) (mix8 M.bytes (fun x => lk M.L x) ns 0) := ⟨vs, by rw [mix8_zero]; exact hP5⟩
            have hend : Hid (Keep2 (8 + (i + 1)) (((xs.take (i + 1)).map fun x => x.data.length).sum) ns M.syncs.2 ∧ tot M.syncs.2.buf = 0 ∧ ns.map M.syncs.2.bytes = ns.map M.bytes ∧ (ns.map fun x => lk M.syncs.2.L x) = ns.map M.bytes) := by
              refine ⟨⟨hK'.calm, hK'.mem, ?_⟩, e2, by rw [ef], by rw [eg]⟩
              have h1 := hK'.used
              have h2 := hsum.out
              omega
            clear hP5 hD5 ht5 hP1 hK hK' e1 e2 e3 e4 ef eg hcp abS abA abG c1 c2 c3 c4 c5 c6 hhas hisB hT
            generalize more8 S (wr.alloc (.cells #[.int .i64 2, .string ka, .string kb, .slice kp kdat.length kc, .int .i64 kn, .int .i64 kk] 31)) w5 = S5 at *
            generalize hM5 : M.syncs.2 = M5 at *
            go_wp2_with fail
            refine same_mono hp5 ?_
            clear hp5
            go_wp2
            go_loopw [86] (fun t wq => ∃ m : Nat, m ≤ j ∧ t = .int .i64 (m : Nat) ∧ ∃ vs' : List Value, Keep8 w wq d ga gs S5 M5 us vs' (ns.map M.bytes) (mix8 M.bytes (fun x => lk M.L x) ns m)) (fun t _ => j - (intOf t).toNat)
            case atStart => exact ⟨0, by omega, rfl, hC0⟩
            case round =>
              clear hC0
              obtain ⟨m, hm, rfl, vs', hP⟩ := hrel
              by_cases hml : m < j
              · have hmn : m < ns.length := by rw [en'.out]; exact hml
                have cA := hP.rowA.cell (i := m) (by rw [List.length_map]; exact hmn)
                have hA := hP.rowA.has m (by rw [List.length_map]; exact hmn)
                have cS := hP.rowS.cell (i := m) (by rw [mix8_len]; exact hmn)
                have fS := hP.rowS.free m
                have hP' := hP.setS m hA
                rw [map_getD8 _ _ hmn, mix8_set M.bytes (fun x => lk M.L x) ns hmn] at hP'
                rw [map_getD8 _ _ hmn] at hA
                have hHP' : Hid _ := hP'
                clear hP hP'
                generalize us.getD m undef = u0 at *
                generalize vs'.getD m undef = v0 at *
                obtain ⟨pu, cu, rfl, -, -, -⟩ := hA
                generalize (M.bytes (ns.getD m ByteArray.empty)).length = lu at *
                clear hmn
                go_wp2
                go_roundw
                case rel => exact ⟨m + 1, by omega, by simp, _, hHP'.out⟩
                case measure => simp only [intOf]; omega
              · obtain rfl : m = j := by omega
                rw [mix8_all _ _ _ en'.out.symm] at hP
                have hQ : Hid (Keep8 w wr d ga gs S5 M5 us vs' (ns.map M5.bytes) (ns.map fun x => lk M5.L x)) := by
                  show _
                  rw [hend.out.2.2.1, hend.out.2.2.2]
                  exact hP
                clear hP
                go_wp2
                go_roundw
                case rel => exact ⟨i + 1, by omega, by simp, M5, S5, us, vs', hQ.out, hend.out.1, by rw [hend.out.2.1]; rfl, by show tot M5.buf ≤ _; rw [hend.out.2.1]; exact Nat.zero_le _⟩
                case measure => simp only [intOf]; omega
          · have h2' : ((kd : Int) == 2) = false := by rw [beq_eq_false_iff_ne]; exact h2
            clear h2
            obtain ⟨hK', hcase, hlk⟩ := hK.out.append ka hisB (by have h1 := hsum.out; have h2 := hsle.out; omega)
            have hc := hP1.disk.append hK.out.calm.ok (by have := hl300.out; omega) sa ((hP1.old hhas).mono fun k _ h => .inl h) (by omega)
            have hlf : (fun x => lk (M.append ka kdat).2.L x) = fun x => lk M.L x := funext hlk
            clear hlk
            rcases hcase with ⟨hin, hg, e1, e2, e3⟩ | ⟨hno, e1, e2, e3⟩
            · rw [e1] at hc
              have hend : Hid (Keep2 (8 + (i + 1)) (((xs.take (i + 1)).map fun x => x.data.length).sum) ns (M.append ka kdat).2 ∧ tot (M.append ka kdat).2.buf = tot M.buf + kdat.length ∧ (ns.map fun x => lk (M.append ka kdat).2.L x) = (ns.map fun x => lk M.L x) ∧ tot M.buf + kdat.length ≤ ((xs.take (i + 1)).map fun x => x.data.length).sum) := by
                refine ⟨?_, e2, by rw [hlf], by have h1 := hT.out; have h2 := hsum.out; omega⟩
                rw [hsum.out]
                exact hK'
              have hby : Hid (∀ y, (M.append ka kdat).2.bytes y = M.bytes y ++ if ka = y then kdat else []) := e3
              have htb : tot M.buf ≤ 30000 := by have h1 := hT.out; have h2 := hsum.out; have h3 := hsle.out; omega
              have hbl : Hid (∀ y, (M.bytes y).length < 1073741824) := fun y => hK.out.calm.ok.inv.size y
              clear hK hK' e1 e2 e3 hlf hT hsum hsle
              go_wp2_with fail
              refine hc.mono ?_
              clear hc
              rintro e w5 ⟨rfl, hD5, ht5⟩
              have hP5 := hP1.op hD5 ht5
              have hcp5 := hcp.block (ht5.block _ hcp.lt abS)
              have hablt := hcp.lt
              have abS5 : ¬ more8 S (wr.alloc (.cells #[.int .i64 kd, .string ka, .string kb, .slice kp kdat.length kc, .int .i64 kn, .int .i64 kk] 31)) w5 wr.heap.size := fun h => h.elim abS fun h => absurd h.1 (by omega)
              generalize more8 S (wr.alloc (.cells #[.int .i64 kd, .string ka, .string kb, .slice kp kdat.length kc, .int .i64 kn, .int .i64 kk] 31)) w5 = S5 at *
              clear hP1 hD5 ht5 hcp hablt c1 c2 c3 c4 c5 c6
              generalize wr.heap.size = ab at *
              generalize hM5 : (M.append ka kdat).2 = M5 at *
              have hL0 : ∃ us' : List Value, Keep8 w w5 d ga gs S5 M5 us' vs (mix8 M5.bytes M.bytes ns 0) (ns.map fun x => lk M.L x) ∧ Hid (Copy8 w5 ab ⟨kd, ka, kb, kp, kc, kdat, kn, kk⟩) := ⟨us, by rw [mix8_zero]; exact hP5, hcp5⟩
              clear hP5 hcp5 hM5
              go_wp2
              go_loopw [105, 18] (fun t s wq => ∃ m : Nat, m ≤ j ∧ t = .int .i64 (m : Nat) ∧ s = .bool (decide (ka ∈ ns.take m)) ∧ ∃ us' : List Value, Keep8 w wq d ga gs S5 M5 us' vs (mix8 M5.bytes M.bytes ns m) (ns.map fun x => lk M.L x) ∧ Hid (Copy8 wq ab ⟨kd, ka, kb, kp, kc, kdat, kn, kk⟩)) (fun t _ _ => j - (intOf t).toNat)
              case atStart => exact ⟨0, by omega, rfl, by simp, hL0⟩
              case round =>
                clear hL0
                obtain ⟨m, hm, rfl, rfl, us', hP, hcp⟩ := hrel
                obtain ⟨a0, a1, a3⟩ := hcp.out.cells
                dsimp only at a0 a1 a3
                by_cases hml : m < j
                · have hmn : m < ns.length := by rw [en'.out]; exact hml
                  obtain ⟨b, o, rfl, hbl2, hnc, -, cN⟩ := hN.at8 hP.disk.bel hml
                  have htk : Hid (ns.take (m + 1) = ns.take m ++ [ns.getD m ByteArray.empty]) := getD_take8 hmn
                  have hsx := hsz (ns.getD m ByteArray.empty) (by rw [List.getD_eq_getElem?_getD, List.getElem?_eq_getElem hmn]; exact List.getElem_mem hmn)
                  by_cases hxe : ns.getD m ByteArray.empty = ka
                  · have cA := hP.rowA.cell (i := m) (by rw [mix8_len]; exact hmn)
                    have hA := hP.rowA.has m (by rw [mix8_len]; exact hmn)
                    rw [mix8_get _ _ _ hmn, hxe] at hA
                    rw [hxe] at cN htk hsx
                    have hgd := good_any ka sa wr
                    rw [hg] at hgd
                    have hab := hcp.out.lt
                    have hga := hP.rowA.lt
                    have hblen := hbl.out ka
                    have hAH := hA.has
                    have hset : Hid (∀ w' v', Below wr.heap.size wr w' → Owns w' wr.heap.size 5 v' (M.bytes ka ++ kdat) → Keep8 w (w'.setCell ⟨ga, m, none⟩ v') d ga gs S5 M5 (us'.set m v') vs (mix8 M5.bytes M.bytes ns (m + 1)) (ns.map fun x => lk M.L x) ∧ Copy8 (w'.setCell ⟨ga, m, none⟩ v') ab ⟨kd, ka, kb, kp, kc, kdat, kn, kk⟩ ∧ w'.frozen? ⟨ga, m, none⟩ = false) := by
                      intro w' v' hb' ho'
                      have hPb := hP.below hb'
                      have h1 := hPb.setA m (hP.fresh ho')
                      have e : M.bytes ka ++ kdat = M5.bytes (ns.getD m ByteArray.empty) := by rw [hxe, hby.out ka, if_pos rfl]
                      rw [e, mix8_set _ _ _ hmn] at h1
                      refine ⟨h1, ?_, hPb.rowA.free m⟩
                      exact (hcp.out.block (hb'.block ab hcp.out.lt)).block (Below.heap_setCell _ _ _ _ (fun e => abA e))
                    have hdec : Hid (decide (ka ∈ ns.take (m + 1)) = true) := by
                      show _ = _
                      rw [htk.out]
                      simp
                    have hhas5 : Has wr (.slice kp kdat.length kc) kdat := hhas.below hP.disk.bel (Nat.le_refl _)
                    clear hP hcp htk hxe
                    generalize us'.getD m undef = u0 at *
                    obtain ⟨pu, cu, rfl, -, -, -⟩ := hA
                    go_wp2_with fail
                    refine same_mono hgd ?_
                    clear hgd
                    go_wp2_with fail
                    apply once_proved
                    case main =>
                      intro key
                      go_region_law (first
                        | (refine step_fresh8 _ rfl (.tmp 120) (.tmp 124) rfl (by first | exact ext_alloc8 (ext_drew8 _) _ | exact ext_on8 (ext_alloc8 (Below.refl _ _) _) | exact ext_alloc8 (Below.refl _ _) _) _ _ [] _ rfl rfl hAH (by first | exact World.ownsRow_made _ #[] 0 (Nat.le_refl _) (by decide) rfl | exact owns_none8 _) (by simp; omega) ?_; intro v7 w7 ho7 hb7; have b3 := (hb7.cell (p := ⟨ab, 3, none⟩) hab).trans a3; have bA := (hb7.cell (p := ⟨ga, m, none⟩) hga).trans cA)
                        | (refine step_fresh8 _ rfl (.tmp 125) (.tmp 127) rfl hb7 _ _ _ _ rfl rfl hhas5 ho7 (by simp; omega) ?_; intro v8 w8 ho8 hb8; obtain ⟨p8, q8, rfl⟩ := ho8.shape; have cA8 := (hb8.cell (p := ⟨ga, m, none⟩) hga).trans cA; have hst := hset.out w8 _ hb8 ho8; have fA8 := hst.2.2; have HST : Hid _ := hst; clear hst))
                      all_goals
                        revert v7 w7 ho7 hb7 b3 bA p8 q8 w8
                        exact key.out
                    case proof =>
                      intro v7 w7 ho7 hb7 b3 bA w8 hb8 p8 q8 ho8 cA8 fA8 HST
                      clear hset
                      go_wp2
                      go_roundw
                      case rel =>
                        have H := HST.out
                        rw [List.nil_append, List.length_append] at H
                        exact ⟨m + 1, by omega, by simp, by rw [hdec.out], _, H.1, H.2.1⟩
                      case measure => simp only [intOf]; omega
                  · have hne := str_ne8 hxe
                    have hQ : Hid (Keep8 w wr d ga gs S5 M5 us' vs (mix8 M5.bytes M.bytes ns (m + 1)) (ns.map fun x => lk M.L x)) := by
                      show _
                      rw [mix8_skip _ _ _ hmn (by rw [hby.out, if_neg (fun e => hxe e.symm), List.append_nil])]
                      exact hP
                    have hdec : Hid (decide (ka ∈ ns.take (m + 1)) = decide (ka ∈ ns.take m)) := by
                      show _ = _
                      rw [htk.out]
                      exact decide_eq_decide.2 ⟨fun h => (List.mem_append.1 h).elim id fun h => absurd (List.mem_singleton.1 h).symm hxe, fun h => List.mem_append_left _ h⟩
                    clear hP htk hxe hby hmn
                    generalize ns.getD m ByteArray.empty = x at *
                    go_wp2
                    go_roundw
                    case rel => exact ⟨m + 1, by omega, by simp, by rw [hdec.out], us', hQ.out, hcp⟩
                    case measure => simp only [intOf]; omega
                · obtain rfl : m = j := by omega
                  have hall : decide (ka ∈ ns.take m) = true := by rw [List.take_of_length_le (by rw [en'.out]; exact Nat.le_refl _)]; exact decide_eq_true hin
                  rw [mix8_all _ _ _ en'.out.symm] at hP
                  have hQ : Hid (Keep8 w wr d ga gs S5 M5 us' vs (ns.map M5.bytes) (ns.map fun x => lk M5.L x)) := by
                    show _
                    rw [hend.out.2.2.1]
                    exact hP
                  clear hP
                  rw [hall]
                  go_wp2
                  go_roundw
                  case rel => exact ⟨i + 1, by omega, by simp, M5, S5, us', vs, hQ.out, hend.out.1, by rw [hend.out.2.1]; simp, by show tot M5.buf ≤ _; rw [hend.out.2.1]; exact hend.out.2.2.2⟩
                  case measure => simp only [intOf]; omega
            · rw [e1] at hc
              have hend : Hid (Keep2 (8 + (i + 1)) (((xs.take (i + 1)).map fun x => x.data.length).sum) ns (M.append ka kdat).2 ∧ tot (M.append ka kdat).2.buf = tot M.buf ∧ ns.map (M.append ka kdat).2.bytes = ns.map M.bytes ∧ (ns.map fun x => lk (M.append ka kdat).2.L x) = (ns.map fun x => lk M.L x) ∧ tot M.buf ≤ ((xs.take (i + 1)).map fun x => x.data.length).sum) := by
                refine ⟨?_, e2, by rw [show (M.append ka kdat).2.bytes = M.bytes from funext e3], by rw [hlf], by have h1 := hT.out; have h2 := hsum.out; omega⟩
                rw [hsum.out]
                exact hK'
              clear hK hK' e1 e2 e3 hlf hT hsum hsle
              go_wp2_with fail
              refine hc.mono ?_
              clear hc
              rintro e w5 ⟨rfl, hD5, ht5⟩
              have hP5 := hP1.op hD5 ht5
              obtain ⟨a0, a1, a3⟩ := (hcp.block (ht5.block _ hcp.lt abS)).cells
              dsimp only at a0 a1 a3
              have hNc : Hid (∀ m, m < j → ∃ b o, pn = some ⟨b, o, none⟩ ∧ b < w5.heap.size ∧ j ≤ cn ∧ ns.length = j ∧ w5.cell? ⟨b, o + m, none⟩ = some (.string (ns.getD m ByteArray.empty))) := fun m hm => hN.at8 hP5.disk.bel hm
              have hQ : Hid (∃ S5, Keep8 w w5 d ga gs S5 (M.append ka kdat).2 us vs (ns.map (M.append ka kdat).2.bytes) (ns.map fun x => lk (M.append ka kdat).2.L x)) := ⟨_, by rw [hend.out.2.2.1, hend.out.2.2.2.1]; exact hP5⟩
              clear hP5 hP1 hD5 ht5 hcp c1 c2 c3 c4 c5 c6 abS abA abG
              generalize wr.heap.size = ab at *
              generalize hM5 : (M.append ka kdat).2 = M5 at *
              clear hM5
              go_wp2
              go_loop [105, 18] (fun t s => ∃ m : Nat, m ≤ j ∧ t = .int .i64 (m : Nat) ∧ s = .bool false) (fun t _ => j - (intOf t).toNat)
              case atStart => exact ⟨0, by omega, rfl, rfl⟩
              case round =>
                obtain ⟨m, hm, rfl, rfl⟩ := hrel
                by_cases hml : m < j
                · obtain ⟨b, o, rfl, hbl2, hnc, -, cN⟩ := hNc.out m hml
                  have hmn : m < ns.length := by rw [en'.out]; exact hml
                  have hmem : ns.getD m ByteArray.empty ∈ ns := by rw [List.getD_eq_getElem?_getD, List.getElem?_eq_getElem hmn]; exact List.getElem_mem hmn
                  by_cases hxe : ns.getD m ByteArray.empty = ka
                  · rw [hxe] at cN hmem
                    have hgd := good_any ka sa w5
                    rw [show goodN ka = false from by cases h : goodN ka; rfl; exact absurd ⟨hmem, h⟩ hno] at hgd
                    clear hmem hxe hmn
                    go_wp2_with fail
                    refine same_mono hgd ?_
                    clear hgd
                    go_wp2
                    go_round
                    case rel => exact ⟨m + 1, by omega, by simp, rfl⟩
                    case measure => simp only [intOf]; omega
                  · have hne := str_ne8 hxe
                    clear hmem hxe hmn
                    generalize ns.getD m ByteArray.empty = x at *
                    go_wp2
                    go_round
                    case rel => exact ⟨m + 1, by omega, by simp, rfl⟩
                    case measure => simp only [intOf]; omega
                · obtain rfl : m = j := by omega
                  clear hNc
                  go_wp2
                  go_roundw
                  case rel =>
                    obtain ⟨S5, hQ⟩ := hQ.out
                    exact ⟨i + 1, by omega, by simp, M5, S5, us, vs, hQ, hend.out.1, by rw [hend.out.2.1], by show tot M5.buf ≤ _; rw [hend.out.2.1]; exact hend.out.2.2.2.2⟩
                  case measure => simp only [intOf]; omega
        · obtain rfl : i = lw := by omega
          have hp := pending_any hP.disk.at8
          rw [hK.out.calm.used.2.1] at hp
          have htb : tot M.buf ≤ 30000 := Nat.le_trans hT.out (Nat.le_trans (sum_le8 xs i) hd30.out)
          have hC := hP.disk.crash hK.out.calm.ok (by have := hl300.out; omega) k hk
          have hO5 := (hK.out.calm.ok.crash k).start
          have hfall : Hid (∀ x, x ∈ ns → goodN x = true → (M.crash k).start.readE x = 0 ∧ (M.crash k).start.readB x = lk M.L x ++ left k.toNat M.buf x) := fun x h1 h2 => hK.out.fall k h1 h2
          have hall : Hid (sumL k.toNat M.buf (once8 [] ns) = min k.toNat (tot M.buf)) := hK.out.sum k.toNat
          clear hT hK hd30
          go_wp2_with fail
          refine same_mono hp ?_
          clear hp
          go_wp2_with fail
          refine hC.mono ?_
          clear hC
          rintro e w5 ⟨⟨z5, rfl⟩, hD5, ht5⟩
          have hP5 := hP.op hD5 ht5
          clear hP hD5 ht5
          have hC := hP5.disk.start
          go_wp2_with fail
          refine hC.mono ?_
          clear hC
          rintro e w6 ⟨⟨z6, rfl⟩, hD6, ht6⟩
          have hP6 := hP5.op hD6 ht6
          clear hP5 hD6 ht6
          generalize (more8 _ w5 w6) = S6 at *
          go_wp2
          go_loopw [153, 21] (fun t q wq => ∃ m : Nat, m ≤ j ∧ t = .int .i64 (m : Nat) ∧ q = .int .i64 ((sumL k.toNat M.buf (once8 [] (ns.take m)) : Nat) : Int) ∧ Keep8 w wq d ga gs S6 (M.crash k).start us vs (ns.map M.bytes) (ns.map fun x => lk M.L x)) (fun t _ _ => j - (intOf t).toNat)
          case atStart => exact ⟨0, by omega, rfl, rfl, hP6⟩
          case round =>
            clear hP6
            obtain ⟨m, hm, rfl, rfl, hP⟩ := hrel
            by_cases hml : m < j
            · have hmn : m < ns.length := by rw [en'.out]; exact hml
              obtain ⟨b, o, rfl, hbl2, hnc, -, cN⟩ := hN.at8 hP.disk.bel hml
              have hmem : ns.getD m ByteArray.empty ∈ ns := by rw [List.getD_eq_getElem?_getD, List.getElem?_eq_getElem hmn]; exact List.getElem_mem hmn
              have hsn := sumL_snoc k.toNat M.buf (ns.take m) (ns.getD m ByteArray.empty)
              rw [← getD_take8 hmn] at hsn
              have hle := Nat.le_trans (sumL_take k.toNat M.buf ns (m + 1)) (Nat.le_of_eq hall.out)
              have sx := hsz _ hmem
              have hgd := good_any (ns.getD m ByteArray.empty) sx wr
              cases hg : goodN (ns.getD m ByteArray.empty) with
              | false =>
                rw [hg] at hgd
                have hQ : Hid (Keep8 w wr d ga gs S6 (M.crash k).start us vs (ns.map M.bytes) (ns.map fun x => lk M.L x)) := hP
                have hsn' : Hid (sumL k.toNat M.buf (once8 [] (ns.take (m + 1))) = sumL k.toNat M.buf (once8 [] (ns.take m))) := by
                  show _ = _
                  rw [hsn, if_neg (fun h => by rw [hg] at h; exact absurd h.1 (by decide)), Nat.add_zero]
                clear hP hsn hle hmem hmn hfall hall
                generalize ns.getD m ByteArray.empty = x at *
                clear hg
                generalize sumL k.toNat M.buf (once8 [] (ns.take m)) = sm at *
                go_wp2_with fail
                refine same_mono hgd ?_
                clear hgd
                go_wp2
                go_roundw
                case rel => exact ⟨m + 1, by omega, by simp, by rw [hsn'.out], hQ.out⟩
                case measure => simp only [intOf]; omega
              | true =>
                rw [hg] at hgd
                obtain ⟨r1, r2⟩ := hfall.out _ hmem hg
                have hc := read_any hP.disk.at8 hO5.inv sx
                rw [r1, r2] at hc
                have cA := hP.rowA.cell (i := m) (by rw [List.length_map]; exact hmn)
                have hA := hP.rowA.has m (by rw [List.length_map]; exact hmn)
                have cS := hP.rowS.cell (i := m) (by rw [List.length_map]; exact hmn)
                have hS := hP.rowS.has m (by rw [List.length_map]; exact hmn)
                rw [map_getD8 _ _ hmn] at hA hS
                have hga := hP.rowA.lt
                have hgs := hP.rowS.lt
                have hNc : Hid (∀ w' q, Below wr.heap.size wr w' → q < m → w'.cell? ⟨b, o + q, none⟩ = some (.string (ns.getD q ByteArray.empty))) := by
                  intro w' q hb' hq
                  obtain ⟨b', o', e, _, _, _, h⟩ := hN.at8 (w' := w') (hP.disk.bel.trans (hb'.mono hP.disk.bel.size)) (i := q) (by omega)
                  simp only [Option.some.injEq, Addr.mk.injEq] at e
                  obtain ⟨rfl, rfl, -⟩ := e
                  exact h
                have hQ : Hid (∀ w', Below wr.heap.size wr w' → Keep8 w w' d ga gs S6 (M.crash k).start us vs (ns.map M.bytes) (ns.map fun x => lk M.L x)) := fun w' hb' => hP.below hb'
                rw [hg] at hsn
                have hsn1 : Hid (ns.getD m ByteArray.empty ∈ ns.take m → sumL k.toNat M.buf (once8 [] (ns.take (m + 1))) = sumL k.toNat M.buf (once8 [] (ns.take m))) := fun h => by rw [hsn, if_neg (fun h' => h'.2 h), Nat.add_zero]
                have hsn2 : Hid (ns.getD m ByteArray.empty ∉ ns.take m → sumL k.toNat M.buf (once8 [] (ns.take (m + 1))) = sumL k.toNat M.buf (once8 [] (ns.take m)) + (left k.toNat M.buf (ns.getD m ByteArray.empty)).length) := fun h => by rw [hsn, if_pos ⟨rfl, h⟩]
                have hle' : Hid (sumL k.toNat M.buf (once8 [] (ns.take m)) + (left k.toNat M.buf (ns.getD m ByteArray.empty)).length ≤ 60000) := by
                  have h1 := sumL_take k.toNat M.buf ns m
                  have h2 := hall.out
                  have h3 := left_le M.buf (ns.getD m ByteArray.empty) k.toNat
                  have h4 := pend_le_tot M.buf (ns.getD m ByteArray.empty)
                  show _ ≤ _
                  omega
                have hpre := left_pre M.buf (ns.getD m ByteArray.empty) k.toNat
                have hbs := hO5
                clear hP hsn hle hmem hmn hfall hall hg r1 r2 hbs
                have hbA : M.bytes (ns.getD m ByteArray.empty) = lk M.L (ns.getD m ByteArray.empty) ++ pend M.buf (ns.getD m ByteArray.empty) := rfl
                rw [hbA] at hA
                clear hbA
                generalize hxx : ns.getD m ByteArray.empty = x at *
                generalize lk M.L x = L0 at *
                generalize hlf : left k.toNat M.buf x = lf at *
                generalize pend M.buf x = pe at *
                generalize sumL k.toNat M.buf (once8 [] (ns.take m)) = sm at *
                clear hlf hxx
                obtain ⟨tl, rfl⟩ := hpre
                generalize us.getD m undef = u0 at *
                generalize vs.getD m undef = v0 at *
                have hAH := hA.has
                obtain ⟨pu, cu, rfl, hcu, -, -⟩ := hA
                obtain ⟨pv, cv, rfl, -, -, -⟩ := hS
                go_wp2_with fail
                refine same_mono hgd ?_
                clear hgd
                go_wp2_with fail
                refine hc.mono ?_
                clear hc
                rintro e w7 ⟨⟨vb, rfl, ob⟩, hb7⟩
                have cA7 := (hb7.cell (p := ⟨ga, m, none⟩) hga).trans cA
                have cS7 := (hb7.cell (p := ⟨gs, m, none⟩) hgs).trans cS
                have hAH7 := hAH.below hb7 (Nat.le_refl _)
                have hcut := hAH7.head8 (m := (L0 ++ lf).length) (by simp only [List.length_append]; omega)
                rw [← List.append_assoc, List.take_left' rfl] at hcut
                obtain ⟨pb, cb, rfl⟩ := ob.shape
                have k1 := fun n => (ob.has.below (below_drewN8 (Below.refl w7.heap.size w7) n) (Nat.le_refl _)).conv (P := Try.prog) 29 5 9 Try.underlying29 Try.underlying5 Try.underlying9
                have k2 := fun n => (hcut.below (below_drewN8 (Below.refl w7.heap.size w7) n) (Nat.le_refl _)).conv (P := Try.prog) 29 5 9 Try.underlying29 Try.underlying5 Try.underlying9
                rw [List.length_append] at k1 k2
                rw [List.length_append, List.length_append] at hcu cA7
                have hl1 : ((L0.length : Int) + lf.length) ≤ (L0.length : Int) + ((lf.length : Int) + tl.length) := by omega
                have hl2 : (L0.length : Int) ≤ (L0.length : Int) + lf.length := by omega
                clear hcut ob hAH hAH7 cA cS
                have hz1 : decide ((L0.length : Int) + (lf.length : Int) < (L0.length : Int)) = false := decide_eq_false (by omega)
                have hz2 : decide ((L0.length : Int) + ((lf.length : Int) + (tl.length : Int)) < (L0.length : Int) + (lf.length : Int)) = false := decide_eq_false (by omega)
                have hz3 : decide ((lf.length : Int) + (tl.length : Int) < (lf.length : Int)) = false := decide_eq_false (by omega)
                have hz4 : decide ((tl.length : Int) < 0) = false := decide_eq_false (by omega)
                have hz5 : ((lf.length : Int) + (tl.length : Int) < (lf.length : Int)) = False := eq_false (by omega)
                have hz6 : ((tl.length : Int) < 0) = False := eq_false (by omega)
                have hz7 : ((L0.length : Int) + ((lf.length : Int) + (tl.length : Int)) < (L0.length : Int) + (lf.length : Int)) = False := eq_false (by omega)
                have hz8 : (L0.length + (lf.length + tl.length) < L0.length + lf.length) = False := eq_false (by omega)
                go_wp2_with fail
                go_quiet (fail)
                clear k1 k2 cA7 hcu hz1 hz2 hz3 hz4 hz5 hz6 hz7 hz8
                go_wp2
                go_loop [206, 26] (fun t s => ∃ q : Nat, q ≤ m ∧ t = .int .i64 (q : Nat) ∧ s = .bool (decide (x ∈ ns.take q))) (fun t _ => m - (intOf t).toNat)
                case atStart => exact ⟨0, by omega, rfl, by simp⟩
                case round =>
                  obtain ⟨q, hq, rfl, rfl⟩ := hrel
                  by_cases hqm : q < m
                  · have cq := hNc.out w7 q hb7 hqm
                    have htk : Hid (ns.take (q + 1) = ns.take q ++ [ns.getD q ByteArray.empty]) := getD_take8 (by rw [en'.out]; omega)
                    by_cases hin : x ∈ ns.take q
                    · have hd1 : decide (x ∈ ns.take q) = true := decide_eq_true hin
                      have hd2 : Hid (decide (x ∈ ns.take (q + 1)) = true) := by
                        show _ = _
                        rw [htk.out]
                        exact decide_eq_true (List.mem_append_left _ hin)
                      rw [hd1]
                      clear hin htk hNc
                      generalize ns.getD q ByteArray.empty = y at *
                      go_wp2
                      go_round
                      case rel => exact ⟨q + 1, by omega, by simp, by rw [hd2.out]⟩
                      case measure => simp only [intOf]; omega
                    · have hd1 : decide (x ∈ ns.take q) = false := decide_eq_false hin
                      rw [hd1]
                      by_cases hxy : x = ns.getD q ByteArray.empty
                      · have hd2 : Hid (decide (x ∈ ns.take (q + 1)) = true) := by
                          show _ = _
                          rw [htk.out, ← hxy]
                          exact decide_eq_true (List.mem_append_right _ (List.mem_singleton.2 rfl))
                        rw [← hxy] at cq
                        clear hin htk hNc hxy
                        go_wp2
                        go_round
                        case rel => exact ⟨q + 1, by omega, by simp, by rw [hd2.out]⟩
                        case measure => simp only [intOf]; omega
                      · have hne := str_ne8 hxy
                        have hd2 : Hid (decide (x ∈ ns.take (q + 1)) = false) := by
                          show _ = _
                          rw [htk.out]
                          exact decide_eq_false fun h => (List.mem_append.1 h).elim hin fun h => hxy (List.mem_singleton.1 h)
                        clear hin htk hNc hxy
                        generalize ns.getD q ByteArray.empty = y at *
                        go_wp2
                        go_round
                        case rel => exact ⟨q + 1, by omega, by simp, by rw [hd2.out]⟩
                        case measure => simp only [intOf]; omega
                  · obtain rfl : q = m := by omega
                    clear hNc
                    by_cases hin : x ∈ ns.take q
                    · have hd1 : decide (x ∈ ns.take q) = true := decide_eq_true hin
                      have hs1 : Hid (sumL k.toNat M.buf (once8 [] (ns.take (q + 1))) = sm) := hsn1.out hin
                      rw [hd1]
                      clear hin hsn1 hsn2 hd1
                      go_wp2
                      go_roundw
                      case rel => exact ⟨q + 1, by omega, by simp, by rw [hs1.out], hQ.out _ (below_drewN8 hb7 _)⟩
                      case measure => simp only [intOf]; omega
                    · have hd1 : decide (x ∈ ns.take q) = false := decide_eq_false hin
                      have hs1 : Hid (sumL k.toNat M.buf (once8 [] (ns.take (q + 1))) = sm + lf.length) := hsn2.out hin
                      have hle2 : sm + lf.length ≤ 60000 := hle'.out
                      have hsb : ((L0.length : Int) + (lf.length : Int)) - (L0.length : Int) = (lf.length : Int) := by omega
                      rw [hd1]
                      clear hin hsn1 hsn2 hd1
                      go_wp2
                      go_roundw
                      case rel => exact ⟨q + 1, by omega, by simp, by rw [hs1.out]; simp, hQ.out _ (below_drewN8 hb7 _)⟩
                      case measure => simp only [intOf]; omega
            · obtain rfl : m = j := by omega
              rw [List.take_of_length_le (by rw [en'.out]; exact Nat.le_refl _), hall.out]
              have hbel := hP.disk.bel
              clear hP hfall hall
              have hk3 : (k < 0 ∧ min k.toNat (tot M.buf) = 0) ∨ (0 ≤ k ∧ k ≤ (tot M.buf : Int) ∧ ((min k.toNat (tot M.buf) : Nat) : Int) = k) ∨ ((tot M.buf : Int) < k ∧ min k.toNat (tot M.buf) = tot M.buf) := by omega
              generalize tot M.buf = tb at *
              generalize min k.toNat tb = mn at *
              rcases hk3 with ⟨q1, q2⟩ | ⟨q1, q2, q3⟩ | ⟨q1, q2⟩
              · subst q2
                go_wp2_with fail
                refine (lives8 wr).mono ?_
                rintro e w7 ⟨rfl, hb7⟩
                go_wp2
                go_ret
                exact ⟨rfl, hbel.trans (hb7.mono hbel.size)⟩
              · subst q3
                go_wp2_with fail
                refine (lives8 wr).mono ?_
                rintro e w7 ⟨rfl, hb7⟩
                go_wp2
                go_ret
                exact ⟨rfl, hbel.trans (hb7.mono hbel.size)⟩
              · subst q2
                go_wp2_with fail
                refine (lives8 wr).mono ?_
                rintro e w7 ⟨rfl, hb7⟩
                go_wp2
                go_ret
                exact ⟨rfl, hbel.trans (hb7.mono hbel.size)⟩
end Go.Proofs.Ytefgnehahedckaa

import Derived.Test.YtnbaoimjcaeeaaaEn9To
import Derived.Test.YtnbaoimjcaeeaaaCmGTo
import Derived.Test.YtnbaoimjcaeeaaaCmUTo
import Derived.Lib.ConvBytes
import Derived.Test.YtnbaoimjcaeeaaaEn2To
import Derived.Deep.DeepCutAuto
/-
  A reader of stage 10 in memory; contracts: entry.list at ints, conf, command, hard.
-/
namespace Go.Proofs.Ytnbaoimjcaeeaaa
open Go.RowKit Go.Shelf

/-- A reader in block rb; its bytes lie below all that was made since w0. -/
structure Rdr (w0 w : World) (rb : Nat) (S : St) : Prop where
  rd : ∃ v, Rd w rb w0.heap.size v S.1 S.2
  bel : Below w0.heap.size w0 w
  inv : Inv S.1 S.2
  isb : IsB S.1
  len : S.1.length ≤ 1073741824
theorem Rdr.lt {w0 w : World} {rb : Nat} {S : St} (h : Rdr w0 w rb S) : w0.heap.size ≤ rb ∧ rb < w.heap.size := by
  obtain ⟨v, hv⟩ := h.rd
  exact ⟨hv.le, hv.lt⟩
theorem Rdr.grow {w0 w w' : World} {rb : Nat} {S S' : St} (h : Rdr w0 w rb S) (hr : ∃ v, Rd w' rb w0.heap.size v S'.1 S'.2) (hg : w.grownBy w' (some rb)) (hi : Inv S'.1 S'.2) (hB : IsB S'.1) (hl : S'.1.length ≤ S.1.length) : Rdr w0 w' rb S' :=
  ⟨hr, ⟨hg.os.trans h.bel.os, hg.tape.trans h.bel.tape, hg.output.trans h.bel.output, Nat.le_trans h.bel.size hg.size, fun k hk => (hg.block k (Nat.lt_of_lt_of_le hk h.bel.size) (by have := h.lt.1; simp; omega)).trans (h.bel.block k hk)⟩, hi, hB, Nat.le_trans hl h.len⟩
/-- More memory, none of it the reader's. -/
theorem Rdr.more {w0 w w' : World} {rb : Nat} {S : St} (h : Rdr w0 w rb S) (hb : Below w.heap.size w w') : Rdr w0 w' rb S := by
  obtain ⟨v, hv⟩ := h.rd
  exact ⟨⟨v, hv.below hb hv.lt⟩, h.bel.trans (hb.mono h.bel.size), h.inv, h.isb, h.len⟩
/-- Another block turned. -/
theorem Rdr.set {w0 w w' : World} {rb b : Nat} {S : St} (h : Rdr w0 w rb S) (hg : w.grownBy w' (some b)) (hb : w0.heap.size ≤ b) (hne : rb ≠ b) : Rdr w0 w' rb S := by
  obtain ⟨v, hv⟩ := h.rd
  exact ⟨⟨v, hv.grown hg hne hb⟩, ⟨hg.os.trans h.bel.os, hg.tape.trans h.bel.tape, hg.output.trans h.bel.output, Nat.le_trans h.bel.size hg.size, fun k hk => (hg.block k (Nat.lt_of_lt_of_le hk h.bel.size) (by simp; omega)).trans (h.bel.block k hk)⟩, h.inv, h.isb, h.len⟩
theorem grown_box {w w' : World} {rb b : Nat} {o : Obj} (hg : w.grownBy w' (some rb)) (h : w.heap[b]? = some o) (hne : b ≠ rb) : w'.heap[b]? = some o := (hg.block b (box_lt h) (by simp; omega)).trans h
theorem below_grownBy {w w' : World} {row : Option Nat} (hb : Below w.heap.size w w') : w.grownBy w' row := ⟨hb.os, hb.tape, hb.output, hb.size, fun k hk _ => hb.block k hk⟩
theorem grown_after {w w1 w2 : World} {row : Option Nat} (hb : Below w.heap.size w w1) (hg : w1.grownBy w2 row) : w.grownBy w2 row := grown_trans (below_grownBy hb) hg

/-- What each call of a reader leaves. -/
def Left10 (w0 w : World) (rb : Nat) (S' : St) (w' : World) : Prop := Rdr w0 w' rb S' ∧ w.grownBy w' (some rb)

theorem Rdr.int {w0 w : World} {rb : Nat} {S : St} (h : Rdr w0 w rb S) :
    Calls Try.prog 80 #[.pointer (some ⟨rb, 0, none⟩)] w fun e w' => e = .returned (.int .i64 (int9 S).1) ∧ Left10 w0 w rb (int9 S).2 w' := by
  obtain ⟨v, hv⟩ := h.rd
  refine (int_any w _ _ v _ _ hv h.isb (Nat.le_trans h.len (by decide))).mono ?_
  rw [h.inv.src]
  rintro e w' ⟨rfl, hr, hg⟩
  exact ⟨rfl, h.grow hr hg (h.inv.lose _) (loseS_isB h.isb _ _) (loseS_length _ _ _), hg⟩

theorem Rdr.text {w0 w : World} {rb : Nat} {S : St} (h : Rdr w0 w rb S) :
    Calls Try.prog 83 #[.pointer (some ⟨rb, 0, none⟩)] w fun e w' => e = .returned (.string (strOfNums (byt10 S).1)) ∧ Left10 w0 w rb (byt10 S).2 w' := by
  obtain ⟨v, hv⟩ := h.rd
  refine (text_any w _ _ v _ _ hv h.isb (Nat.le_trans h.len (by decide))).mono ?_
  rw [h.inv.src]
  rintro e w' ⟨rfl, hr, hg⟩
  exact ⟨rfl, h.grow hr hg (h.inv.lose _) (loseS_isB h.isb _ _) (loseS_length _ _ _), hg⟩

theorem Rdr.bool {w0 w : World} {rb : Nat} {S : St} (h : Rdr w0 w rb S) :
    Calls Try.prog 85 #[.pointer (some ⟨rb, 0, none⟩)] w fun e w' => e = .returned (.bool (bool9 S).1) ∧ Left10 w0 w rb (bool9 S).2 w' := by
  obtain ⟨v, hv⟩ := h.rd
  refine (bool_any w _ _ v _ _ hv h.isb (Nat.le_trans h.len (by decide))).mono ?_
  rw [h.inv.src]
  rintro e w' ⟨rfl, hr, hg⟩
  exact ⟨rfl, h.grow hr hg (h.inv.lose _) (loseS_isB h.isb _ _) (loseS_length _ _ _), hg⟩

theorem Rdr.count {w0 w : World} {rb : Nat} {S : St} (h : Rdr w0 w rb S) (m : Int) (hm : m ≤ 9223372036854775807) :
    Calls Try.prog 119 #[.pointer (some ⟨rb, 0, none⟩), .int .i64 m] w fun e w' => e = .returned (.int .i64 (countS m S.1).1) ∧ Left10 w0 w rb (cnt10 m S).2 w' := by
  obtain ⟨v, hv⟩ := h.rd
  refine (count_any m w _ _ v _ _ hv h.isb (Nat.le_trans h.len (by decide)) hm).mono ?_
  rw [h.inv.src]
  rintro e w' ⟨rfl, hr, hg⟩
  exact ⟨rfl, h.grow hr hg (h.inv.lose _) (loseS_isB h.isb _ _) (loseS_length _ _ _), hg⟩

theorem Rdr.fin {w0 w : World} {rb : Nat} {S : St} (h : Rdr w0 w rb S) :
    Calls Try.prog 79 #[.pointer (some ⟨rb, 0, none⟩)] w fun e w' => e = .returned (.bool (S.1.isEmpty && !S.2)) ∧ w' = w := by
  obtain ⟨v, hv⟩ := h.rd
  exact end_any w _ _ v _ _ hv

theorem zag_in (u : Int) : inI (zagS u) := by
  unfold zagS inI wrap64
  omega
theorem int9_in (s : St) : inI (int9 s).1 := zag_in _
theorem ints10_in (s : St) : ∀ n, inL (ints10 n s).1
  | 0 => fun _ h => by cases h
  | n + 1 => by
    rw [ints10]
    intro a ha
    rcases List.mem_append.1 ha with ha | ha
    · exact ints10_in s n a ha
    · rw [List.mem_singleton.1 ha]; exact int9_in _
theorem cnt_of (m : Int) (h0 : 0 ≤ m) (S : St) : (countS m S.1).1 = ((cnt10 m S).1 : Int) ∧ ((cnt10 m S).1 : Int) ≤ m := by
  have hb := getS_bd S.1
  unfold cnt10
  dsimp only
  unfold countS
  split
  · exact ⟨rfl, by simpa using h0⟩
  · constructor <;> omega

/-- A result that is one cell, of a struct. -/
theorem ret_one {P : Program} {fn : Func} {p : Tmp} {ty : TypeId} (h : fn.results = #[.cell p ty]) (tmps : Array Value) (w : World) (g : Nat) (t : TypeId) (cs : Array Value) (fr : Nat × Nat) (d : TypeDesc)
    (hp : tmps.getD p undef = .pointer (some ⟨g, 0, none⟩)) (hg : w.heap[g]? = some (.cells cs t fr))
    (hu : P.underlying ty = some d) (hd : (match d with | .struct _ | .array _ _ => true | _ => false) = true) (hi : (P.info? ty).map (·.size) = some cs.size) :
    (results fn tmps).run P w = .ok (.agg cs) w := by
  have hp' : tmps[p]?.getD undef = .pointer (some ⟨g, 0, none⟩) := by simpa using hp
  simp [results, h, hp', asAddr, run_loadVar_row w g t ty cs fr d hg hu hd hi]

/-- 'append(s, x)' of one int: it has just been laid in a block of its own. -/
theorem ap_int10 {ops : Array Oper} {rest : List Oper} {o : Oper} {a : Act} {Q : Exit → Act → World → Prop} (w : World) (hgd : o.guard = none) (s x : Operand)
    (ho : o.op = .call { callee := .builtin .append, args := #[s, x], argTypes := #[24, 24] })
    (B : Nat) (v : Value) (xs : List Int) (z : Int) (hs : a.eval s = v) (hx : a.eval x = .slice (some ⟨w.heap.size, 0, none⟩) 1 1) (hown : OwnsI w B v xs) (hlen : xs.length ≤ 1099511627776) (hB : B ≤ w.heap.size)
    (h : ∀ v' w', OwnsI w' B v' (xs ++ [z]) → Below B w w' → wpList Try.prog ops Q rest (a.put o.dst v') w') :
    wpList Try.prog ops Q (o :: rest) a (w.alloc (.cells #[.int .i64 z] 3)) := by
  obtain ⟨i, hi, hz, hsize, hby⟩ := info_parts Try.infoInt
  refine wpList_append_own _ hgd s x 24 ho B 3 i (.int .i64 0) 1 8 Try.underlying24 hi hz hsize hby rfl (by decide) v xs.length (xs.map (Value.int .i64)) hs (World.ownsRow.alloc hown _) ⟨w.heap.size, 0, none⟩ 1 1 [.int .i64 z] hx rfl ?_ ?_ ?_ ?_ ?_ ?_
  · intro j u hj
    match j, hj with
    | 0, hj => simp at hj; subst hj; simp [Addr.add]
  · intro u hu; simp at hu; subst hu; rfl
  · unfold maxLen; omega
  · omega
  · simp; omega
  · intro v' w' hown' hgrow _
    refine h v' w' ?_ ?_
    · unfold OwnsI
      rw [List.length_append, List.length_singleton, List.map_append]
      exact hown'
    · exact ((Below.refl B w).alloc hB _).trans ((Below.refl _ _).grown hgrow (by simp; omega) fun k hk => (World.ownsRow.lt hown k hk).1)
theorem OwnsI.kept10 {w w' : World} {B r : Nat} {v : Value} {xs : List Int} (h : OwnsI w B v xs) (hg : w.grownBy w' (some r)) (hr : r < B) : OwnsI w' B v xs := by
  refine World.ownsRow.kept h hg ?_
  cases hv : v.ownBlock with
  | none => exact .inl rfl
  | some k =>
    have := (World.ownsRow.lt h k hv).1
    exact .inr (fun e => by cases e; omega)

set_option maxRecDepth 100000 in
set_option maxHeartbeats 2000000 in
theorem listI_any (w0 w : World) (rb : Nat) (S : St) (h : Rdr w0 w rb S) :
    Calls Try.prog 111 #[.pointer (some ⟨rb, 0, none⟩), .int .i64 9, .func (.func 80) #[.pointer (some ⟨rb, 0, none⟩)] #[]] w fun e w' => ∃ (p : Option Addr) (n c : Nat), e = .returned (.slice p n c) ∧ OwnsI w' w.heap.size (.slice p n c) (list10 9 S).1 ∧ Left10 w0 w rb (list10 9 S).2 w' := by
  obtain ⟨hn1, hn2⟩ := cnt_of 9 (by decide) S
  have kc := h.count 9 (by decide)
  rw [hn1] at kc
  have HL : Hid (list10 9 S = ints10 (cnt10 9 S).1 (cnt10 9 S).2) := rfl
  have hrl := h.lt
  generalize hN : (cnt10 9 S).1 = N at *
  generalize (cnt10 9 S).2 = T at *
  generalize list10 9 S = R at *
  clear hN hn1 h
  go_enter Try.func111, Try.ntmps111
  go_wp2_with fail
  refine kc.mono ?_
  rintro e w1 ⟨rfl, hR1, hg1⟩
  clear kc
  go_wp2
  go_loopw [7, 13] (fun s7 s13 wr => ∃ (j : Nat) (u : Value), u = s7 ∧ j ≤ N ∧ s13 = .int .i64 (j : Nat) ∧ OwnsI wr w.heap.size u (ints10 j T).1 ∧ Rdr w0 wr rb (ints10 j T).2 ∧ w.grownBy wr (some rb)) (fun _ s13 _ => N - (intOf s13).toNat)
  case atStart => exact ⟨0, _, rfl, Nat.zero_le _, rfl, OwnsI.nil _ _, hR1, hg1⟩
  case round =>
    clear hR1 hg1
    obtain ⟨j, u, hu, hj, rfl, ho, hR, hg⟩ := hrel
    subst hu
    by_cases hlt : j < N
    · have HS : Hid (ints10 (j + 1) T = ((ints10 j T).1 ++ [(int9 (ints10 j T).2).1], (int9 (ints10 j T).2).2)) := rfl
      have hll := ints10_len T j
      have ki := hR.int
      generalize ints10 j T = Q at *
      obtain ⟨l, st⟩ := Q
      dsimp only at ho hR HS hll ki
      generalize int9 st = A at *
      obtain ⟨z, st2⟩ := A
      dsimp only at HS ki
      have hrr := hR.lt.2
      clear hR
      go_wp2_with fail
      refine ki.mono ?_
      rintro e w2 ⟨rfl, hR2, hg2⟩
      have ho2 := ho.kept10 hg2 (by omega)
      have hG2 := grown_trans hg hg2
      have hsz := hG2.size
      clear ki ho hg hg2
      go_wp2_with (at_builtin; refine ap_int10 _ rfl _ _ rfl w.heap.size _ _ _ rfl rfl (by exact ho2) (by omega) (by exact hsz) ?_; intro v3 w3 ho3 hb3)
      go_roundw
      case rel =>
        refine ⟨j + 1, _, rfl, by omega, by go_num, by rw [HS.out]; exact ho3, ?_, ?_⟩
        · rw [HS.out]
          obtain ⟨v', hv'⟩ := hR2.rd
          exact ⟨⟨v', hv'.below hb3 hrl.2⟩, hR2.bel.trans (hb3.mono (by have := hR2.bel.size; omega)), hR2.inv, hR2.isb, hR2.len⟩
        · exact ⟨hb3.os.trans hG2.os, hb3.tape.trans hG2.tape, hb3.output.trans hG2.output, Nat.le_trans hG2.size hb3.size, fun k hk hr => (hb3.block k hk).trans (hG2.block k hk hr)⟩
      case measure => simp only [intOf]; omega
    · obtain rfl : j = N := by omega
      obtain ⟨p9, c9, hv9, -, -, -⟩ := id ho.has
      generalize hl9 : (ints10 j T).1.length = n9 at hv9
      clear hl9
      subst hv9
      go_wp2
      go_ret
      exact ⟨_, _, _, rfl, by rw [HL.out]; exact ho, by rw [HL.out]; exact hR, hg⟩
end Go.Proofs.Ytnbaoimjcaeeaaa

/-
  Contracts: what reads of entry tell: conf, command, hard, entry; goodHard.
-/
namespace Go.Proofs.Ytnbaoimjcaeeaaa
open Go.RowKit Go.Shelf

theorem ConfAt.put {w : World} {b : Nat} {x x' : ConfV} (h : ConfAt w b x) (i : Nat) (v : Value) (hi : i < 2) (hc : x'.arr = x.arr.set i v (by show i < 2; exact hi)) : ConfAt (w.setCell ⟨b, i, none⟩ v) b x' := by
  unfold ConfAt
  rw [hc]
  exact set_block9 h i v _
theorem fillF {w : World} {b : Nat} {x0 : ConfV} (h : ConfAt w b x0) (p : Option Addr) (n : Nat) (c : Nat) (q : Option Addr) (m : Nat) (d : Nat) (f : Conf10) : ConfAt ((w.setCell ⟨b, 0, none⟩ (.slice p n c)).setCell ⟨b, 1, none⟩ (.slice q m d)) b ⟨⟨p, n, c⟩, ⟨q, m, d⟩, f⟩ := by
  obtain ⟨⟨p0_, n0_, c0_⟩, ⟨q0_, m0_, d0_⟩, f0_⟩ := x0
  exact ((h.put (x' := ⟨⟨p, n, c⟩, ⟨q0_, m0_, d0_⟩, f⟩) 0 _ (by decide) rfl).put (x' := ⟨⟨p, n, c⟩, ⟨q, m, d⟩, f⟩) 1 _ (by decide) rfl)

theorem EntAt.put {w : World} {b : Nat} {x x' : EntV} (h : EntAt w b x) (i : Nat) (v : Value) (hi : i < 13) (hc : x'.arr = x.arr.set i v (by show i < 13; exact hi)) : EntAt (w.setCell ⟨b, i, none⟩ v) b x' := by
  unfold EntAt
  rw [hc]
  exact set_block9 h i v _
theorem fillE {w : World} {b : Nat} {x0 : EntV} (h : EntAt w b x0) (i : Int) (t : Int) (k : Int) (ck : Int) (cs : Int) (cq : Int) (ckey : ByteArray) (cold : ByteArray) (cval : ByteArray) (cunt : ByteArray) (clim : Int) (p : Option Addr) (n : Nat) (c : Nat) (q : Option Addr) (m : Nat) (d : Nat) (f : Conf10) : EntAt (((((((((((((w.setCell ⟨b, 0, none⟩ (.int .i64 i)).setCell ⟨b, 1, none⟩ (.int .i64 t)).setCell ⟨b, 2, none⟩ (.int .i64 k)).setCell ⟨b, 3, none⟩ (.int .i64 ck)).setCell ⟨b, 4, none⟩ (.int .i64 cs)).setCell ⟨b, 5, none⟩ (.int .i64 cq)).setCell ⟨b, 6, none⟩ (.string ckey)).setCell ⟨b, 7, none⟩ (.string cold)).setCell ⟨b, 8, none⟩ (.string cval)).setCell ⟨b, 9, none⟩ (.string cunt)).setCell ⟨b, 10, none⟩ (.int .i64 clim)).setCell ⟨b, 11, none⟩ (.slice p n c)).setCell ⟨b, 12, none⟩ (.slice q m d)) b ⟨i, t, k, ⟨ck, cs, cq, ckey, cold, cval, cunt, clim⟩, ⟨⟨p, n, c⟩, ⟨q, m, d⟩, f⟩⟩ := by
  obtain ⟨i0_, t0_, k0_, ⟨ck0_, cs0_, cq0_, ckey0_, cold0_, cval0_, cunt0_, clim0_⟩, ⟨⟨p0_, n0_, c0_⟩, ⟨q0_, m0_, d0_⟩, f0_⟩⟩ := x0
  exact (((((((((((((h.put (x' := ⟨i, t0_, k0_, ⟨ck0_, cs0_, cq0_, ckey0_, cold0_, cval0_, cunt0_, clim0_⟩, ⟨⟨p0_, n0_, c0_⟩, ⟨q0_, m0_, d0_⟩, f⟩⟩) 0 _ (by decide) rfl).put (x' := ⟨i, t, k0_, ⟨ck0_, cs0_, cq0_, ckey0_, cold0_, cval0_, cunt0_, clim0_⟩, ⟨⟨p0_, n0_, c0_⟩, ⟨q0_, m0_, d0_⟩, f⟩⟩) 1 _ (by decide) rfl).put (x' := ⟨i, t, k, ⟨ck0_, cs0_, cq0_, ckey0_, cold0_, cval0_, cunt0_, clim0_⟩, ⟨⟨p0_, n0_, c0_⟩, ⟨q0_, m0_, d0_⟩, f⟩⟩) 2 _ (by decide) rfl).put (x' := ⟨i, t, k, ⟨ck, cs0_, cq0_, ckey0_, cold0_, cval0_, cunt0_, clim0_⟩, ⟨⟨p0_, n0_, c0_⟩, ⟨q0_, m0_, d0_⟩, f⟩⟩) 3 _ (by decide) rfl).put (x' := ⟨i, t, k, ⟨ck, cs, cq0_, ckey0_, cold0_, cval0_, cunt0_, clim0_⟩, ⟨⟨p0_, n0_, c0_⟩, ⟨q0_, m0_, d0_⟩, f⟩⟩) 4 _ (by decide) rfl).put (x' := ⟨i, t, k, ⟨ck, cs, cq, ckey0_, cold0_, cval0_, cunt0_, clim0_⟩, ⟨⟨p0_, n0_, c0_⟩, ⟨q0_, m0_, d0_⟩, f⟩⟩) 5 _ (by decide) rfl).put (x' := ⟨i, t, k, ⟨ck, cs, cq, ckey, cold0_, cval0_, cunt0_, clim0_⟩, ⟨⟨p0_, n0_, c0_⟩, ⟨q0_, m0_, d0_⟩, f⟩⟩) 6 _ (by decide) rfl).put (x' := ⟨i, t, k, ⟨ck, cs, cq, ckey, cold, cval0_, cunt0_, clim0_⟩, ⟨⟨p0_, n0_, c0_⟩, ⟨q0_, m0_, d0_⟩, f⟩⟩) 7 _ (by decide) rfl).put (x' := ⟨i, t, k, ⟨ck, cs, cq, ckey, cold, cval, cunt0_, clim0_⟩, ⟨⟨p0_, n0_, c0_⟩, ⟨q0_, m0_, d0_⟩, f⟩⟩) 8 _ (by decide) rfl).put (x' := ⟨i, t, k, ⟨ck, cs, cq, ckey, cold, cval, cunt, clim0_⟩, ⟨⟨p0_, n0_, c0_⟩, ⟨q0_, m0_, d0_⟩, f⟩⟩) 9 _ (by decide) rfl).put (x' := ⟨i, t, k, ⟨ck, cs, cq, ckey, cold, cval, cunt, clim⟩, ⟨⟨p0_, n0_, c0_⟩, ⟨q0_, m0_, d0_⟩, f⟩⟩) 10 _ (by decide) rfl).put (x' := ⟨i, t, k, ⟨ck, cs, cq, ckey, cold, cval, cunt, clim⟩, ⟨⟨p, n, c⟩, ⟨q0_, m0_, d0_⟩, f⟩⟩) 11 _ (by decide) rfl).put (x' := ⟨i, t, k, ⟨ck, cs, cq, ckey, cold, cval, cunt, clim⟩, ⟨⟨p, n, c⟩, ⟨q, m, d⟩, f⟩⟩) 12 _ (by decide) rfl)

theorem HardAt.put {w : World} {b : Nat} {x x' : Hard10} (h : HardAt w b x) (i : Nat) (v : Value) (hi : i < 3) (hc : x'.arr = x.arr.set i v (by show i < 3; exact hi)) : HardAt (w.setCell ⟨b, i, none⟩ v) b x' := by
  unfold HardAt
  rw [hc]
  exact set_block9 h i v _
theorem fillH {w : World} {b : Nat} {x0 : Hard10} (h : HardAt w b x0) (ht : Int) (hv : Int) (hc : Int) : HardAt (((w.setCell ⟨b, 0, none⟩ (.int .i64 ht)).setCell ⟨b, 1, none⟩ (.int .i64 hv)).setCell ⟨b, 2, none⟩ (.int .i64 hc)) b ⟨ht, hv, hc⟩ := by
  obtain ⟨ht0_, hv0_, hc0_⟩ := x0
  exact (((h.put (x' := ⟨ht, hv0_, hc0_⟩) 0 _ (by decide) rfl).put (x' := ⟨ht, hv, hc0_⟩) 1 _ (by decide) rfl).put (x' := ⟨ht, hv, hc⟩) 2 _ (by decide) rfl)

theorem fillC {w : World} {b : Nat} {c0 : Cmd9} (h : CmdAt w b c0) (k s q : Int) (key old val unt : ByteArray) (lim : Int) :
    CmdAt ((((((((w.setCell ⟨b, 0, none⟩ (.int .i64 k)).setCell ⟨b, 1, none⟩ (.int .i64 s)).setCell ⟨b, 2, none⟩ (.int .i64 q)).setCell ⟨b, 3, none⟩ (.string key)).setCell ⟨b, 4, none⟩ (.string old)).setCell ⟨b, 5, none⟩ (.string val)).setCell ⟨b, 6, none⟩ (.string unt)).setCell ⟨b, 7, none⟩ (.int .i64 lim)) b ⟨k, s, q, key, old, val, unt, lim⟩ :=
  ((((((((h.put (c' := ⟨k, c0.s, c0.q, c0.key, c0.old, c0.val, c0.unt, c0.lim⟩) 0 (.int .i64 k) (by omega) rfl).put (c' := ⟨k, s, c0.q, c0.key, c0.old, c0.val, c0.unt, c0.lim⟩) 1 (.int .i64 s) (by omega) rfl).put (c' := ⟨k, s, q, c0.key, c0.old, c0.val, c0.unt, c0.lim⟩) 2 (.int .i64 q) (by omega) rfl).put (c' := ⟨k, s, q, key, c0.old, c0.val, c0.unt, c0.lim⟩) 3 (.string key) (by omega) rfl).put (c' := ⟨k, s, q, key, old, c0.val, c0.unt, c0.lim⟩) 4 (.string old) (by omega) rfl).put (c' := ⟨k, s, q, key, old, val, c0.unt, c0.lim⟩) 5 (.string val) (by omega) rfl).put (c' := ⟨k, s, q, key, old, val, unt, c0.lim⟩) 6 (.string unt) (by omega) rfl).put (c' := ⟨k, s, q, key, old, val, unt, lim⟩) 7 (.int .i64 lim) (by omega) rfl)
/-- Members that the call made. -/
structure OwnsF (w : World) (B : Nat) (x : ConfV) : Prop where
  u : OwnsI w B (.slice x.u.p x.u.n x.u.c) x.f.vs
  v : OwnsI w B (.slice x.v.p x.v.n x.v.c) x.f.ls
  iu : inL x.f.vs
  iv : inL x.f.ls
  lu : x.f.vs.length ≤ 1000000
  lv : x.f.ls.length ≤ 1000000
theorem OwnsF.fits {w : World} {B : Nat} {x : ConfV} (h : OwnsF w B x) : FitsF w x := ⟨h.u.has, h.v.has, h.iu, h.iv, Nat.le_trans h.lu (by decide), Nat.le_trans h.lv (by decide)⟩
theorem OwnsF.mono {w : World} {B B' : Nat} {x : ConfV} (h : OwnsF w B x) (hB : B' ≤ B) : OwnsF w B' x := ⟨h.u.mono hB, h.v.mono hB, h.iu, h.iv, h.lu, h.lv⟩
theorem OwnsF.kept {w w' : World} {B r : Nat} {x : ConfV} (h : OwnsF w B x) (hg : w.grownBy w' (some r)) (hr : r < B) : OwnsF w' B x := ⟨h.u.kept10 hg hr, h.v.kept10 hg hr, h.iu, h.iv, h.lu, h.lv⟩
theorem OwnsF.below {w w' : World} {B : Nat} {x : ConfV} (h : OwnsF w B x) (hb : Below w.heap.size w w') : OwnsF w' B x := ⟨h.u.below hb (Nat.le_refl _), h.v.below hb (Nat.le_refl _), h.iu, h.iv, h.lu, h.lv⟩
theorem OwnsF.nil (w : World) (B : Nat) : OwnsF w B noFV := ⟨OwnsI.nil w B, OwnsI.nil w B, (fun _ h => by cases h), (fun _ h => by cases h), Nat.zero_le _, Nat.zero_le _⟩
theorem grown_new {w x : World} {rb b : Nat} (h : w.grownBy x (some rb)) (hb : w.heap.size ≤ b) (i : Nat) (v : Value) : w.grownBy (x.setCell ⟨b, i, none⟩ v) (some rb) := by
  have hg := grown_set x b i v
  exact ⟨hg.os.trans h.os, hg.tape.trans h.tape, hg.output.trans h.output, Nat.le_trans h.size hg.size, fun k hk hr => (hg.block k (Nat.lt_of_lt_of_le hk h.size) (by intro e; have := Option.some.inj e; omega)).trans (h.block k hk hr)⟩
theorem Rdr.cell {w0 w : World} {rb b : Nat} {S : St} (h : Rdr w0 w rb S) (hb : w0.heap.size ≤ b) (hne : rb ≠ b) (i : Nat) (v : Value) : Rdr w0 (w.setCell ⟨b, i, none⟩ v) rb S := h.set (grown_set w b i v) hb hne
theorem OwnsF.cell {w : World} {B b : Nat} {x : ConfV} (h : OwnsF w B x) (hb : b < B) (i : Nat) (v : Value) : OwnsF (w.setCell ⟨b, i, none⟩ v) B x := h.kept (grown_set w b i v) hb
theorem list10_len (m : Int) (hm : 0 ≤ m) (hm2 : m ≤ 1000000) (S : St) : (list10 m S).1.length ≤ 1000000 := by
  have := (cnt_of m hm S).2
  unfold list10
  rw [ints10_len]
  omega
theorem list10_in (m : Int) (S : St) : inL (list10 m S).1 := ints10_in _ _

set_option maxRecDepth 100000 in
set_option maxHeartbeats 2000000 in
theorem confR_any (w0 w : World) (rb : Nat) (S : St) (h : Rdr w0 w rb S) :
    Calls Try.prog 82 #[.pointer (some ⟨rb, 0, none⟩)] w fun e w' => ∃ X : ConfV, e = .returned (.agg X.arr) ∧ OwnsF w' w.heap.size X ∧ X.f = (conf10 9 S).1 ∧ Left10 w0 w rb (conf10 9 S).2 w' := by
  have hmf : ∀ (fn : Fn) (first cap : Array Value) (w : World), (Instr.makeFunc fn first cap).run Try.prog w = .ok (.func fn first cap) w := fun _ _ _ _ => rfl
  have HC : Hid (conf10 9 S = (⟨(list10 9 S).1, (list10 9 (list10 9 S).2).1⟩, (list10 9 (list10 9 S).2).2)) := rfl
  have hb1 : Below w.heap.size w (w.alloc (.cells noFV.arr 26)) := (Below.refl _ _).alloc (Nat.le_refl _) _
  have hbox : ConfAt (w.alloc (.cells noFV.arr 26)) w.heap.size noFV := heap_alloc_new w _
  have hz1 : (w.alloc (.cells noFV.arr 26)).heap.size = w.heap.size + 1 := by simp
  have hrl := h.lt
  have hwb := h.bel.size
  have k1 := listI_any w0 _ rb S (h.more hb1)
  have HI1 : Hid (inL (list10 9 S).1) := list10_in 9 S
  have HI2 : Hid (inL (list10 9 (list10 9 S).2).1) := list10_in 9 _
  have HL1 : Hid ((list10 9 S).1.length ≤ 1000000) := list10_len 9 (by decide) (by decide) S
  have HL2 : Hid ((list10 9 (list10 9 S).2).1.length ≤ 1000000) := list10_len 9 (by decide) (by decide) _
  generalize conf10 9 S = R at *
  generalize list10 9 S = A at *
  obtain ⟨l1, S1⟩ := A
  dsimp only at k1 HC HI1 HI2 HL1 HL2
  unfold noFV nilS10 at *
  unfold ConfV.arr at *
  dsimp only at *
  go_enter Try.func82, Try.ntmps82
  go_wp2_with fail
  generalize w.alloc (.cells #[.slice none 0 0, .slice none 0 0] 26) = W1 at *
  refine k1.mono ?_
  rintro e w2 ⟨p, n, c, rfl, ho2, hR2, hg2⟩
  have k2 := listI_any w0 _ rb S1 hR2
  have hbox2 := grown_box hg2 hbox (by omega)
  have hsz2 := hg2.size
  generalize list10 9 S1 = A at *
  obtain ⟨l2, S2⟩ := A
  dsimp only at k2 HC HI2 HL2
  clear k1 hbox hR2
  go_wp2_with fail
  refine k2.mono ?_
  rintro e w3 ⟨q, m, d, rfl, ho3, hR3, hg3⟩
  have hbox3 : ConfAt w3 w.heap.size ⟨⟨none, 0, 0⟩, ⟨none, 0, 0⟩, noF10⟩ := grown_box hg3 hbox2 (by omega)
  have ho2' := ho2.kept10 hg3 (by omega)
  have hG3 := grown_after hb1 (grown_trans hg2 hg3)
  obtain ⟨c0, c1⟩ := hbox3.cells
  dsimp only at c0 c1
  have hlt := box_lt hbox3
  have f0 := frozen9 hbox3
  have hO : OwnsF w3 W1.heap.size ⟨⟨p, n, c⟩, ⟨q, m, d⟩, ⟨l1, l2⟩⟩ := ⟨ho2', ho3.mono hsz2, HI1.out, HI2.out, HL1.out, HL2.out⟩
  clear k2 hbox2 ho2 ho2' ho3 hg2 hg3
  go_wp2
  have hF := fillF hbox3 p n c q m d ⟨l1, l2⟩
  have hR9 := (hR3.cell (b := w.heap.size) (by omega) (by omega) 0 (.slice p n c)).cell (b := w.heap.size) (by omega) (by omega) 1 (.slice q m d)
  have hO9 := (hO.cell (b := w.heap.size) (by omega) 0 (.slice p n c)).cell (b := w.heap.size) (by omega) 1 (.slice q m d)
  have hG9 := grown_new (grown_new hG3 (Nat.le_refl _) 0 (.slice p n c)) (Nat.le_refl _) 1 (.slice q m d)
  refine bodyPost_ret (ret_one rfl _ _ w.heap.size _ _ _ _ rfl hF Try.underlying26 rfl (by kernel_rfl)) rfl ⟨⟨⟨p, n, c⟩, ⟨q, m, d⟩, ⟨l1, l2⟩⟩, rfl, hO9.mono (by omega), ?_, ?_, hG9⟩
  · rw [HC.out]
  · rw [HC.out]; exact hR9

theorem bytes_has (w : World) (s : ByteArray) : Has (Lib.bytesWorld w 5 s) (.slice (some ⟨w.heap.size, 0, none⟩) s.size (grownCap w s.size 0 5)) (strB s) ∧ Below w.heap.size w (Lib.bytesWorld w 5 s) := by
  refine ⟨⟨some ⟨w.heap.size, 0, none⟩, _, by rw [strB_length], by rw [strB_length]; exact grownCap_ge _ _ _ _, (fun h => by cases h), fun _ => ⟨w.heap.size, 0, rfl, by rw [Lib.bytesWorld_size]; omega, fun i hi => ?_⟩⟩, ⟨rfl, rfl, rfl, by rw [Lib.bytesWorld_size]; omega, fun k hk => Lib.bytesWorld_at_old w _ s k hk⟩⟩
  rw [strB_length] at hi
  rw [Nat.zero_add, Lib.bytesWorld_cell w _ s i hi]
  unfold strB
  have hi' : i < s.data.toList.length := by rw [Array.length_toList]; exact hi
  simp [List.getD_eq_getElem?_getD, List.getElem?_eq_getElem hi']

theorem byt10_isB {S : St} (h : IsB S.1) : IsB (byt10 S).1 := by
  unfold byt10
  dsimp only
  unfold getTextS
  split
  · exact IsB.nil
  · exact IsB.cut h _ _
theorem byt10_len (S : St) : (byt10 S).1.length ≤ S.1.length := (getTextS_bd S.1).2

set_option maxRecDepth 100000 in
set_option maxHeartbeats 2000000 in
theorem cmdR_any (w0 w : World) (rb : Nat) (S : St) (h : Rdr w0 w rb S) :
    Calls Try.prog 81 #[.pointer (some ⟨rb, 0, none⟩)] w fun e w' => e = .returned (.agg (readC9 (byt10 S).1).1.arr) ∧ Left10 w0 w rb (byt10 S).2 w' := by
  have hb1 : Below w.heap.size w (w.alloc (.cells zeroC9.arr 23)) := (Below.refl _ _).alloc (Nat.le_refl _) _
  have hbox : CmdAt (w.alloc (.cells zeroC9.arr 23)) w.heap.size zeroC9 := heap_alloc_new w _
  have hrl := h.lt
  have hwb := h.bel.size
  have k1 := (h.more hb1).text
  have HB : Hid (IsB (byt10 S).1) := byt10_isB h.isb
  have hlen := byt10_len S
  have hlS := h.len
  have kr : Hid (∀ W v, Has W v (byt10 S).1 → Calls Try.prog 110 #[v] W fun e w' => e = .returned (.tuple #[.agg (readC9 (byt10 S).1).1.arr, .int .i64 (readC9 (byt10 S).1).2]) ∧ Below W.heap.size W w') := fun W v hv => readC_any v _ W hv HB.out (by omega)
  have HT : Hid (strB (strOfNums (byt10 S).1) = (byt10 S).1) := strB_of HB.out
  generalize byt10 S = A at *
  obtain ⟨xs, S1⟩ := A
  dsimp only at k1 kr HB HT hlen
  generalize readC9 xs = R at *
  obtain ⟨⟨ck, cs, cq, ckey, cold, cval, cunt, clim⟩, err⟩ := R
  generalize strOfNums xs = sx at *
  unfold zeroC9 at *
  unfold Cmd9.arr at *
  dsimp only at *
  clear h hlen hlS
  go_enter Try.func81, Try.ntmps81
  go_wp2_with fail
  generalize w.alloc (.cells #[.int .i64 0, .int .i64 0, .int .i64 0, .string em9, .string em9, .string em9, .string em9, .int .i64 0] 23) = W1 at *
  refine k1.mono ?_
  rintro e w2 ⟨rfl, hR2, hg2⟩
  have hbox2 := grown_box hg2 hbox (by omega)
  have hcv := Lib.run_convert_string_bytes (P := Try.prog) w2 9 34 5 sx (u := .string) Try.underlying9 Try.underlying34 Try.underlying5
  obtain ⟨hH, hb3⟩ := bytes_has w2 sx
  rw [HT.out] at hH
  have hG2 := grown_after hb1 hg2
  have hR3 := hR2.more hb3
  have hbox3 := box_below hbox2 hb3
  have hG3 := grown_trans hG2 (below_grownBy hb3)
  have k3 := kr.out _ _ hH
  clear k1 hbox hR2 hg2 hbox2 hG2 hH hb3
  generalize Lib.bytesWorld w2 5 sx = W3 at *
  generalize grownCap w2 sx.size 0 5 = gc at *
  go_wp2_with fail
  refine k3.mono ?_
  rintro e w4 ⟨rfl, hb4⟩
  have hb5 : Below w4.heap.size w4 (w4.alloc (.cells (Cmd9.mk ck cs cq ckey cold cval cunt clim).arr 23)) := (Below.refl _ _).alloc (Nat.le_refl _) _
  have hbn : CmdAt (w4.alloc (.cells (Cmd9.mk ck cs cq ckey cold cval cunt clim).arr 23)) w4.heap.size ⟨ck, cs, cq, ckey, cold, cval, cunt, clim⟩ := heap_alloc_new w4 _
  have hR5 := (hR3.more hb4).more hb5
  have hbox5 : CmdAt _ w.heap.size ⟨0, 0, 0, em9, em9, em9, em9, 0⟩ := box_below (box_below hbox3 hb4) hb5
  have hG5 := grown_trans (grown_trans hG3 (below_grownBy hb4)) (below_grownBy hb5)
  unfold Cmd9.arr at hb5 hbn hR5 hbox5 hG5
  dsimp only at hb5 hbn hR5 hbox5 hG5
  clear k3 hR3 hbox3 hG3 hb4 hb5 hcv
  go_upto_region 2 with fail
  generalize w4.alloc (.cells #[.int .i64 ck, .int .i64 cs, .int .i64 cq, .string ckey, .string cold, .string cval, .string cunt, .int .i64 clim] 23) = W5 at *
  replace hbox5 : CmdAt W5 w.heap.size ⟨0, 0, 0, em9, em9, em9, em9, 0⟩ := hbox5
  replace hbn : CmdAt W5 w4.heap.size ⟨ck, cs, cq, ckey, cold, cval, cunt, clim⟩ := hbn
  obtain ⟨c0, c1, c2, c3, c4, c5, c6, c7⟩ := hbn.cells
  obtain ⟨d0, d1, d2, d3, d4, d5, d6, d7⟩ := hbox5.cells
  dsimp only at c0 c1 c2 c3 c4 c5 c6 c7 d0 d1 d2 d3 d4 d5 d6 d7
  have hl1 := hbn.lt
  have hl2 := hbox5.lt
  have f0 := frozen9 hbox5
  generalize w4.heap.size = bn at *
  go_wp2
  have hF := fillC hbox5 ck cs cq ckey cold cval cunt clim
  have hR9 := ((((((((((((((((hR5).cell (b := w.heap.size) (by omega) (by omega) 0 (.int .i64 ck))).cell (b := w.heap.size) (by omega) (by omega) 1 (.int .i64 cs))).cell (b := w.heap.size) (by omega) (by omega) 2 (.int .i64 cq))).cell (b := w.heap.size) (by omega) (by omega) 3 (.string ckey))).cell (b := w.heap.size) (by omega) (by omega) 4 (.string cold))).cell (b := w.heap.size) (by omega) (by omega) 5 (.string cval))).cell (b := w.heap.size) (by omega) (by omega) 6 (.string cunt))).cell (b := w.heap.size) (by omega) (by omega) 7 (.int .i64 clim))
  have hG9 := (grown_new (b := w.heap.size) (grown_new (b := w.heap.size) (grown_new (b := w.heap.size) (grown_new (b := w.heap.size) (grown_new (b := w.heap.size) (grown_new (b := w.heap.size) (grown_new (b := w.heap.size) (grown_new (b := w.heap.size) hG5 (by omega) 0 (.int .i64 ck)) (by omega) 1 (.int .i64 cs)) (by omega) 2 (.int .i64 cq)) (by omega) 3 (.string ckey)) (by omega) 4 (.string cold)) (by omega) 5 (.string cval)) (by omega) 6 (.string cunt)) (by omega) 7 (.int .i64 clim))
  exact bodyPost_ret (ret_one rfl _ _ w.heap.size _ _ _ _ rfl hF Try.underlying23 rfl (by kernel_rfl)) rfl ⟨rfl, hR9, hG9⟩
end Go.Proofs.Ytnbaoimjcaeeaaa

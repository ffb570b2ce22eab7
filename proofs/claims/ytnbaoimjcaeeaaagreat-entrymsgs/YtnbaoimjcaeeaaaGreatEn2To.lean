import Derived.Test.YtnbaoimjcaeeaaaGreatEn5To
import Derived.Test.YtnbaoimjcaeeaaaGreatCmKTo
import Derived.Test.YtnbaoimjcaeeaaaGreatCmUTo
import Derived.Lib.ConvBytes
import Derived.Test.YtnbaoimjcaeeaaaGreatEnVTo
import Derived.Test.YtnbaoimjcaeeaaaGreatCmGTo
/-
  A reader of stage 10 in memory; contracts: entry.list at ints, conf, command, hard.
-/
namespace Go.Proofs.YtnbaoimjcaeeaaaGreat
open Go.RowKit Go.Shelf

/-- A reader in block rb; its bytes lie below all that was made since w0. -/
structure Rdr (w0 w : World) (rb : Nat) (S : St) : Prop where
  rd : ∃ v, Rd w rb w0.heap.size v S.1 S.2
  bel : Below w0.heap.size w0 w
  inv : Inv S.1 S.2
  isb : IsB S.1
  len : S.1.length ≤ 1073741824
theorem Rdr.lt {w0 w : World} {rb : Nat} {S : St} (h : Rdr w0 w rb S) : w0.heap.size ≤ rb ∧ rb < w.heap.size := by
  obtain ⟨v, hv⟩ := h.rd
  exact ⟨hv.le, hv.lt⟩
theorem Rdr.grow {w0 w w' : World} {rb : Nat} {S S' : St} (h : Rdr w0 w rb S) (hr : ∃ v, Rd w' rb w0.heap.size v S'.1 S'.2) (hg : w.grownBy w' (some rb)) (hi : Inv S'.1 S'.2) (hB : IsB S'.1) (hl : S'.1.length ≤ S.1.length) : Rdr w0 w' rb S' :=
  ⟨hr, ⟨hg.os.trans h.bel.os, hg.tape.trans h.bel.tape, hg.output.trans h.bel.output, Nat.le_trans h.bel.size hg.size, fun k hk => (hg.block k (Nat.lt_of_lt_of_le hk h.bel.size) (by have := h.lt.1; simp; omega)).trans (h.bel.block k hk)⟩, hi, hB, Nat.le_trans hl h.len⟩
/-- More memory, none of it the reader's. -/
theorem Rdr.more {w0 w w' : World} {rb : Nat} {S : St} (h : Rdr w0 w rb S) (hb : Below w.heap.size w w') : Rdr w0 w' rb S := by
  obtain ⟨v, hv⟩ := h.rd
  exact ⟨⟨v, hv.below hb hv.lt⟩, h.bel.trans (hb.mono h.bel.size), h.inv, h.isb, h.len⟩
/-- Another block turned. -/
theorem Rdr.set {w0 w w' : World} {rb b : Nat} {S : St} (h : Rdr w0 w rb S) (hg : w.grownBy w' (some b)) (hb : w0.heap.size ≤ b) (hne : rb ≠ b) : Rdr w0 w' rb S := by
  obtain ⟨v, hv⟩ := h.rd
  exact ⟨⟨v, hv.grown hg hne hb⟩, ⟨hg.os.trans h.bel.os, hg.tape.trans h.bel.tape, hg.output.trans h.bel.output, Nat.le_trans h.bel.size hg.size, fun k hk => (hg.block k (Nat.lt_of_lt_of_le hk h.bel.size) (by simp; omega)).trans (h.bel.block k hk)⟩, h.inv, h.isb, h.len⟩
theorem grown_box {w w' : World} {rb b : Nat} {o : Obj} (hg : w.grownBy w' (some rb)) (h : w.heap[b]? = some o) (hne : b ≠ rb) : w'.heap[b]? = some o := (hg.block b (box_lt h) (by simp; omega)).trans h
theorem below_grownBy {w w' : World} {row : Option Nat} (hb : Below w.heap.size w w') : w.grownBy w' row := ⟨hb.os, hb.tape, hb.output, hb.size, fun k hk _ => hb.block k hk⟩
theorem grown_after {w w1 w2 : World} {row : Option Nat} (hb : Below w.heap.size w w1) (hg : w1.grownBy w2 row) : w.grownBy w2 row := grown_trans (below_grownBy hb) hg

/-- What each call of a reader leaves. -/
def Left10 (w0 w : World) (rb : Nat) (S' : St) (w' : World) : Prop := Rdr w0 w' rb S' ∧ w.grownBy w' (some rb)

theorem Rdr.int {w0 w : World} {rb : Nat} {S : St} (h : Rdr w0 w rb S) :
    Calls Tryz.prog 68 #[.pointer (some ⟨rb, 0, none⟩)] w fun e w' => e = .returned (.int .i64 (int9 S).1) ∧ Left10 w0 w rb (int9 S).2 w' := by
  obtain ⟨v, hv⟩ := h.rd
  refine (int_any w _ _ v _ _ hv h.isb (Nat.le_trans h.len (by decide))).mono ?_
  rw [h.inv.src]
  rintro e w' ⟨rfl, hr, hg⟩
  exact ⟨rfl, h.grow hr hg (h.inv.lose _) (loseS_isB h.isb _ _) (loseS_length _ _ _), hg⟩

theorem Rdr.text {w0 w : World} {rb : Nat} {S : St} (h : Rdr w0 w rb S) :
    Calls Tryz.prog 78 #[.pointer (some ⟨rb, 0, none⟩)] w fun e w' => e = .returned (.string (strOfNums (byt10 S).1)) ∧ Left10 w0 w rb (byt10 S).2 w' := by
  obtain ⟨v, hv⟩ := h.rd
  refine (text_any w _ _ v _ _ hv h.isb (Nat.le_trans h.len (by decide))).mono ?_
  rw [h.inv.src]
  rintro e w' ⟨rfl, hr, hg⟩
  exact ⟨rfl, h.grow hr hg (h.inv.lose _) (loseS_isB h.isb _ _) (loseS_length _ _ _), hg⟩

theorem Rdr.bool {w0 w : World} {rb : Nat} {S : St} (h : Rdr w0 w rb S) :
    Calls Tryz.prog 80 #[.pointer (some ⟨rb, 0, none⟩)] w fun e w' => e = .returned (.bool (bool9 S).1) ∧ Left10 w0 w rb (bool9 S).2 w' := by
  obtain ⟨v, hv⟩ := h.rd
  refine (bool_any w _ _ v _ _ hv h.isb (Nat.le_trans h.len (by decide))).mono ?_
  rw [h.inv.src]
  rintro e w' ⟨rfl, hr, hg⟩
  exact ⟨rfl, h.grow hr hg (h.inv.lose _) (loseS_isB h.isb _ _) (loseS_length _ _ _), hg⟩

theorem Rdr.count {w0 w : World} {rb : Nat} {S : St} (h : Rdr w0 w rb S) (m : Int) (hm : m ≤ 9223372036854775807) :
    Calls Tryz.prog 117 #[.pointer (some ⟨rb, 0, none⟩), .int .i64 m] w fun e w' => e = .returned (.int .i64 (countS m S.1).1) ∧ Left10 w0 w rb (cnt10 m S).2 w' := by
  obtain ⟨v, hv⟩ := h.rd
  refine (count_any m w _ _ v _ _ hv h.isb (Nat.le_trans h.len (by decide)) hm).mono ?_
  rw [h.inv.src]
  rintro e w' ⟨rfl, hr, hg⟩
  exact ⟨rfl, h.grow hr hg (h.inv.lose _) (loseS_isB h.isb _ _) (loseS_length _ _ _), hg⟩

theorem Rdr.fin {w0 w : World} {rb : Nat} {S : St} (h : Rdr w0 w rb S) :
    Calls Tryz.prog 67 #[.pointer (some ⟨rb, 0, none⟩)] w fun e w' => e = .returned (.bool (S.1.isEmpty && !S.2)) ∧ w' = w := by
  obtain ⟨v, hv⟩ := h.rd
  exact end_any w _ _ v _ _ hv

theorem zag_in (u : Int) : inI (zagS u) := by
  unfold zagS inI wrap64
  omega
theorem int9_in (s : St) : inI (int9 s).1 := zag_in _
theorem ints10_in (s : St) : ∀ n, inL (ints10 n s).1
  | 0 => fun _ h => by cases h
  | n + 1 => by
    rw [ints10]
    intro a ha
    rcases List.mem_append.1 ha with ha | ha
    · exact ints10_in s n a ha
    · rw [List.mem_singleton.1 ha]; exact int9_in _
theorem cnt_of (m : Int) (h0 : 0 ≤ m) (S : St) : (countS m S.1).1 = ((cnt10 m S).1 : Int) ∧ ((cnt10 m S).1 : Int) ≤ m := by
  have hb := getS_bd S.1
  unfold cnt10
  dsimp only
  unfold countS
  split
  · exact ⟨rfl, by simpa using h0⟩
  · constructor <;> omega

/-- A result that is one cell, of a struct. -/
theorem ret_one {P : Program} {fn : Func} {p : Tmp} {ty : TypeId} (h : fn.results = #[.cell p ty]) (tmps : Array Value) (w : World) (g : Nat) (t : TypeId) (cs : Array Value) (fr : Nat × Nat) (d : TypeDesc)
    (hp : tmps.getD p undef = .pointer (some ⟨g, 0, none⟩)) (hg : w.heap[g]? = some (.cells cs t fr))
    (hu : P.underlying ty = some d) (hd : (match d with | .struct _ | .array _ _ => true | _ => false) = true) (hi : (P.info? ty).map (·.size) = some cs.size) :
    (results fn tmps).run P w = .ok (.agg cs) w := by
  have hp' : tmps[p]?.getD undef = .pointer (some ⟨g, 0, none⟩) := by simpa using hp
  simp [results, h, hp', asAddr, run_loadVar_row w g t ty cs fr d hg hu hd hi]

/-- 'append(s, x)' of one int: it has just been laid in a block of its own. -/
theorem ap_int10 {ops : Array Oper} {rest : List Oper} {o : Oper} {a : Act} {Q : Exit → Act → World → Prop} (w : World) (hgd : o.guard = none) (s x : Operand)
    (ho : o.op = .call { callee := .builtin .append, args := #[s, x], argTypes := #[26, 26] })
    (B : Nat) (v : Value) (xs : List Int) (z : Int) (hs : a.eval s = v) (hx : a.eval x = .slice (some ⟨w.heap.size, 0, none⟩) 1 1) (hown : OwnsI w B v xs) (hlen : xs.length ≤ 1099511627776) (hB : B ≤ w.heap.size)
    (h : ∀ v' w', OwnsI w' B v' (xs ++ [z]) → Below B w w' → wpList Tryz.prog ops Q rest (a.put o.dst v') w') :
    wpList Tryz.prog ops Q (o :: rest) a (w.alloc (.cells #[.int .i64 z] 3)) := by
  obtain ⟨i, hi, hz, hsize, hby⟩ := info_parts Tryz.infoInt
  refine wpList_append_own _ hgd s x 26 ho B 3 i (.int .i64 0) 1 8 Tryz.underlying26 hi hz hsize hby rfl (by decide) v xs.length (xs.map (Value.int .i64)) hs (World.ownsRow.alloc hown _) ⟨w.heap.size, 0, none⟩ 1 1 [.int .i64 z] hx rfl ?_ ?_ ?_ ?_ ?_ ?_
  · intro j u hj
    match j, hj with
    | 0, hj => simp at hj; subst hj; simp [Addr.add]
  · intro u hu; simp at hu; subst hu; rfl
  · unfold maxLen; omega
  · omega
  · simp; omega
  · intro v' w' hown' hgrow _
    refine h v' w' ?_ ?_
    · unfold OwnsI
      rw [List.length_append, List.length_singleton, List.map_append]
      exact hown'
    · exact ((Below.refl B w).alloc hB _).trans ((Below.refl _ _).grown hgrow (by simp; omega) fun k hk => (World.ownsRow.lt hown k hk).1)
theorem OwnsI.kept10 {w w' : World} {B r : Nat} {v : Value} {xs : List Int} (h : OwnsI w B v xs) (hg : w.grownBy w' (some r)) (hr : r < B) : OwnsI w' B v xs := by
  refine World.ownsRow.kept h hg ?_
  cases hv : v.ownBlock with
  | none => exact .inl rfl
  | some k =>
    have := (World.ownsRow.lt h k hv).1
    exact .inr (fun e => by cases e; omega)

set_option maxRecDepth 100000 in
set_option maxHeartbeats 2000000 in
theorem listI_any (w0 w : World) (rb : Nat) (S : St) (h : Rdr w0 w rb S) :
    Calls Tryz.prog 104 #[.pointer (some ⟨rb, 0, none⟩), .int .i64 9, .func (.func 68) #[.pointer (some ⟨rb, 0, none⟩)] #[]] w fun e w' => ∃ (p : Option Addr) (n c : Nat), e = .returned (.slice p n c) ∧ OwnsI w' w.heap.size (.slice p n c) (list10 9 S).1 ∧ Left10 w0 w rb (list10 9 S).2 w' := by
  obtain ⟨hn1, hn2⟩ := cnt_of 9 (by decide) S
  have kc := h.count 9 (by decide)
  rw [hn1] at kc
  have HL : Hid (list10 9 S = ints10 (cnt10 9 S).1 (cnt10 9 S).2) := rfl
  have hrl := h.lt
  generalize hN : (cnt10 9 S).1 = N at *
  generalize (cnt10 9 S).2 = T at *
  generalize list10 9 S = R at *
  clear hN hn1 h
  go_enter Tryz.func104, Tryz.ntmps104
  go_wp2_with fail
  refine kc.mono ?_
  rintro e w1 ⟨rfl, hR1, hg1⟩
  clear kc
  go_wp2
  go_loopw [7, 13] (fun s7 s13 wr => ∃ (j : Nat) (u : Value), u = s7 ∧ j ≤ N ∧ s13 = .int .i64 (j : Nat) ∧ OwnsI wr w.heap.size u (ints10 j T).1 ∧ Rdr w0 wr rb (ints10 j T).2 ∧ w.grownBy wr (some rb)) (fun _ s13 _ => N - (intOf s13).toNat)
  case atStart => exact ⟨0, _, rfl, Nat.zero_le _, rfl, OwnsI.nil _ _, hR1, hg1⟩
  case round =>
    clear hR1 hg1
    obtain ⟨j, u, hu, hj, rfl, ho, hR, hg⟩ := hrel
    subst hu
    by_cases hlt : j < N
    · have HS : Hid (ints10 (j + 1) T = ((ints10 j T).1 ++ [(int9 (ints10 j T).2).1], (int9 (ints10 j T).2).2)) := rfl
      have hll := ints10_len T j
      have ki := hR.int
      generalize ints10 j T = Q at *
      obtain ⟨l, st⟩ := Q
      dsimp only at ho hR HS hll ki
      generalize int9 st = A at *
      obtain ⟨z, st2⟩ := A
      dsimp only at HS ki
      have hrr := hR.lt.2
      clear hR
      go_wp2_with fail
      refine ki.mono ?_
      rintro e w2 ⟨rfl, hR2, hg2⟩
      have ho2 := ho.kept10 hg2 (by omega)
      have hG2 := grown_trans hg hg2
      have hsz := hG2.size
      clear ki ho hg hg2
      go_wp2_with (at_builtin; refine ap_int10 _ rfl _ _ rfl w.heap.size _ _ _ rfl rfl (by exact ho2) (by omega) (by exact hsz) ?_; intro v3 w3 ho3 hb3)
      go_roundw
      case rel =>
        refine ⟨j + 1, _, rfl, by omega, by go_num, by rw [HS.out]; exact ho3, ?_, ?_⟩
        · rw [HS.out]
          obtain ⟨v', hv'⟩ := hR2.rd
          exact ⟨⟨v', hv'.below hb3 hrl.2⟩, hR2.bel.trans (hb3.mono (by have := hR2.bel.size; omega)), hR2.inv, hR2.isb, hR2.len⟩
        · exact ⟨hb3.os.trans hG2.os, hb3.tape.trans hG2.tape, hb3.output.trans hG2.output, Nat.le_trans hG2.size hb3.size, fun k hk hr => (hb3.block k hk).trans (hG2.block k hk hr)⟩
      case measure => simp only [intOf]; omega
    · obtain rfl : j = N := by omega
      obtain ⟨p9, c9, hv9, -, -, -⟩ := id ho.has
      generalize hl9 : (ints10 j T).1.length = n9 at hv9
      clear hl9
      subst hv9
      go_wp2
      go_ret
      exact ⟨_, _, _, rfl, by rw [HL.out]; exact ho, by rw [HL.out]; exact hR, hg⟩
end Go.Proofs.YtnbaoimjcaeeaaaGreat

/-
  Contracts: entry.putNumber, putNumbers, putText, putList at ints, putConf, putEntry, putSnap; Bytes, HardBytes, SnapBytes.
-/
namespace Go.Proofs.YtnbaoimjcaeeaaaGreat
open Go.RowKit

/-- Blocks that are no bytes are as they were. -/
def Kin8 (w w' : World) : Prop := ∀ (k : Nat) (c : Array Value) (t : TypeId) (fr : Nat × Nat), w.heap[k]? = some (.cells c t fr) → t ≠ 5 → w'.heap[k]? = some (.cells c t fr)
theorem Kin8.refl (w : World) : Kin8 w w := fun _ _ _ _ h _ => h
theorem Kin8.trans {a b c : World} (h : Kin8 a b) (k : Kin8 b c) : Kin8 a c := fun i x t fr hi ht => k i x t fr (h i x t fr hi ht) ht
theorem Kin8.below {w w' : World} (h : Below w.heap.size w w') : Kin8 w w' := fun k _ _ _ hk _ => (h.block k (Array.getElem?_eq_some_iff.1 hk).1).trans hk
theorem Kin8.grown {w w' : World} {B : Nat} {v : Value} {xs : List Int} (h : Owns w B 5 v xs) (hg : w.grownBy w' v.ownBlock) : Kin8 w w' := by
  intro k c t fr hk ht
  refine (hg.block k (Array.getElem?_eq_some_iff.1 hk).1 ?_).trans hk
  rcases h.2 with ⟨rfl, _⟩ | ⟨g, cap, cur, rfl, _, hgb, _⟩
  · intro e; cases e
  · intro e
    have e' : g = k := (Option.some.inj e).symm
    subst e'
    rw [hgb] at hk
    have := Option.some.inj hk
    simp only [Obj.cells.injEq] at this
    exact ht this.2.1.symm

/-- A row of bytes that the call made, beyond all that was there in w0. -/
structure Put10 (w0 w : World) (v : Value) (xs : List Int) : Prop where
  own : Owns w w0.heap.size 5 v xs
  bel : Below w0.heap.size w0 w
theorem Put10.nil (w : World) : Put10 w w (.slice none 0 0) [] := ⟨Owns.nil _ _ _, Below.refl _ _⟩
theorem Put10.more {w0 w w' : World} {v : Value} {xs : List Int} (h : Put10 w0 w v xs) (hb : Below w.heap.size w w') : Put10 w0 w' v xs := ⟨h.own.below hb (Nat.le_refl _), h.bel.trans (hb.mono h.bel.size)⟩
/-- What each of these calls leaves. -/
def Puts (w0 w : World) (ys : List Int) (e : Ending) (w' : World) : Prop := ∃ v', e = .returned v' ∧ Put10 w0 w' v' ys ∧ Kin8 w w'

set_option maxRecDepth 100000 in
set_option maxHeartbeats 1500000 in
theorem putNumber_any (w0 w : World) (v : Value) (xs : List Int) (n : Int) (h : Put10 w0 w v xs) (hl : xs.length ≤ 1073741824) :
    Calls Tryz.prog 53 #[v, .int .i64 n] w (Puts w0 w (xs ++ zigB n)) := by
  obtain ⟨i0, hi, hz0, hz1, hz2⟩ := info_parts info8c
  have k1 := zig_any n w
  have hzb := zig_bd n
  have k2 := put_any (.slice none 0 0) [] (zigS n) w (Has.nil w) (by simp) hzb.1 hzb.2
  have HZ : Hid (zigB n = numB (zigS n)) := rfl
  have hnl := numB_le (zigS n)
  generalize zigS n = z at *
  go_enter Tryz.func53, Tryz.ntmps53
  go_wp2_with fail
  refine same_mono k1 ?_
  go_wp2_with fail
  refine k2.mono ?_
  rintro e w1 ⟨v1, rfl, ho1, hb1⟩
  have h1 := h.more hb1
  have hsz := h1.bel.size
  rw [List.nil_append] at ho1
  clear k1 k2 h
  go_wp2_with (at_builtin; refine ap_slice_g _ rfl _ _ 22 rfl w0.heap.size 5 i0 Tryz.underlying22 hi hz0 hz1 hz2 _ xs (numB z) rfl (by exact ho1.has) (by exact h1.own) (by omega) (by omega) (by exact hsz) ?_; intro v2 w2 ho2 hg2)
  go_ret
  refine ⟨_, rfl, ⟨by rw [HZ.out]; exact ho2, h1.bel.trans (below_grown h1.own hsz hg2)⟩, (Kin8.below hb1).trans (Kin8.grown h1.own hg2)⟩

theorem numsB_snoc {l : List Int} {j : Nat} (h : j < l.length) : numsB (l.take (j + 1)) = numsB (l.take j) ++ zigB (l.getD j 0) := by
  rw [List.take_succ_eq_append_getElem h, numsB_append, List.getD_eq_getElem?_getD, List.getElem?_eq_getElem h]
  simp [numsB]
theorem numsB_take (l : List Int) (j : Nat) : (numsB (l.take j)).length ≤ 9 * l.length := by
  have h1 := numsB_len (l.take j)
  have h2 : (l.take j).length ≤ l.length := by rw [List.length_take]; omega
  omega

set_option maxRecDepth 100000 in
set_option maxHeartbeats 1500000 in
theorem putNumbers_any (w0 w : World) (v : Value) (xs ns : List Int) (R n : Nat) (h : Put10 w0 w v xs) (hR : w.heap[R]? = some (.cells (ns.map (Value.int .i64)).toArray 3 (0, 0))) (hn : ns.length = n) (hn2 : n ≤ 100) (hl : xs.length ≤ 1073740000) :
    Calls Tryz.prog 51 #[v, .slice (some ⟨R, 0, none⟩) n n] w (Puts w0 w (xs ++ numsB ns)) := by
  have HN : Hid (ns.length = n) := hn
  have HR : Hid (w.heap[R]? = some (.cells (ns.map (Value.int .i64)).toArray 3 (0, 0))) := hR
  clear hR hn
  go_enter Tryz.func51, Tryz.ntmps51
  go_wp2
  go_loopw [0, 9] (fun s0 s9 wr => ∃ (j : Nat) (u : Value), u = s0 ∧ j ≤ n ∧ s9 = .int .i64 (j : Nat) ∧ Put10 w0 wr u (xs ++ numsB (ns.take j)) ∧ Kin8 w wr) (fun _ s9 _ => n - (intOf s9).toNat)
  case atStart => exact ⟨0, _, rfl, Nat.zero_le _, rfl, by rw [List.take_zero, show numsB [] = [] from rfl, List.append_nil]; exact h, Kin8.refl _⟩
  case round =>
    clear h
    obtain ⟨j, u, hu, hj, rfl, hP, hk⟩ := hrel
    subst hu
    by_cases hlt : j < n
    · have hR := hk _ _ _ _ HR.out (by decide)
      have hb := box_lt hR
      have hc := box_cell hR j
      have HS : Hid (numsB (ns.take (j + 1)) = numsB (ns.take j) ++ zigB (ns.getD j 0)) := numsB_snoc (by rw [HN.out]; exact hlt)
      rw [show (ns.map (Value.int .i64)).toArray[j]? = some (.int .i64 (ns.getD j 0)) by simp [List.getD_eq_getElem?_getD, List.getElem?_eq_getElem (show j < ns.length by rw [HN.out]; exact hlt)]] at hc
      have hlen := numsB_take ns j
      rw [HN.out] at hlen
      generalize ns.getD j 0 = x at *
      have kp := putNumber_any w0 wr u _ x hP (by rw [List.length_append]; omega)
      clear hR hP
      go_wp2_with fail
      refine kp.mono ?_
      rintro e w3 ⟨v3, rfl, hP3, hk3⟩
      clear kp
      go_wp2
      go_roundw
      case rel => exact ⟨j + 1, _, rfl, by omega, by go_num, by rw [HS.out, ← List.append_assoc]; exact hP3, hk.trans hk3⟩
      case measure => simp only [intOf]; omega
    · rw [List.take_of_length_le (by rw [HN.out]; omega)] at hP
      go_wp2
      go_ret
      exact ⟨_, rfl, hP, hk⟩

theorem strB_of {ys : List Int} (h : IsB ys) : strB (strOfNums ys) = ys := by
  unfold strB
  rw [strOfNums_data, List.map_map]
  conv => rhs; rw [← List.map_id ys]
  refine List.map_congr_left fun a ha => ?_
  have := h a ha
  simp
  omega
theorem textB_of {ys : List Int} (h : IsB ys) : textB (strOfNums ys) = bytB ys := by
  unfold textB bytB
  rw [strB_of h, ← strB_length, strB_of h]
theorem size_of {ys : List Int} (h : IsB ys) : (strOfNums ys).size = ys.length := by rw [← strB_length, strB_of h]

set_option maxRecDepth 100000 in
set_option maxHeartbeats 1500000 in
theorem putTextE_any (w0 w : World) (v t : Value) (xs ys : List Int) (h : Put10 w0 w v xs) (ht : Has w t ys) (hB : IsB ys) (hl : xs.length ≤ 1073741824) (hly : ys.length ≤ 1073741824) :
    Calls Tryz.prog 88 #[v, t] w (Puts w0 w (xs ++ bytB ys)) := by
  obtain ⟨i0, hi, hz0, hz1, hz2⟩ := info_parts info8c
  have c1 := ht.conv (P := Tryz.prog) 22 5 9 Tryz.underlying22 Tryz.underlying5 Tryz.underlying9
  have k2 := putText_any (.slice none 0 0) [] (strOfNums ys) w (Has.nil w) (by simp) (by rw [size_of hB]; exact hly)
  rw [textB_of hB, List.nil_append] at k2
  have hbl : (bytB ys).length ≤ 1073741900 := by
    unfold bytB
    have := numB_le (ys.length : Int)
    rw [List.length_append]
    omega
  generalize bytB ys = zs at *
  generalize strOfNums ys = s at *
  obtain ⟨p, c, rfl, -, -, -⟩ := id ht
  clear ht hB
  go_enter Tryz.func88, Tryz.ntmps88
  go_wp2_with fail
  refine k2.mono ?_
  rintro e w1 ⟨v1, rfl, ho1, hb1⟩
  have h1 := h.more hb1
  have hsz := h1.bel.size
  clear k2 h
  go_wp2_with (at_builtin; refine ap_slice_g _ rfl _ _ 22 rfl w0.heap.size 5 i0 Tryz.underlying22 hi hz0 hz1 hz2 _ xs zs rfl (by exact ho1.has) (by exact h1.own) (by omega) (by omega) (by exact hsz) ?_; intro v2 w2 ho2 hg2)
  go_ret
  exact ⟨_, rfl, ⟨ho2, h1.bel.trans (below_grown h1.own hsz hg2)⟩, (Kin8.below hb1).trans (Kin8.grown h1.own hg2)⟩

set_option maxRecDepth 100000 in
set_option maxHeartbeats 1500000 in
theorem putListI_any (w0 w : World) (v : Value) (xs ns : List Int) (p : Option Addr) (n c : Nat) (h : Put10 w0 w v xs) (hN : HasI w0 (.slice p n c) ns) (hn2 : n ≤ 1000) (hl : xs.length ≤ 1073700000) :
    Calls Tryz.prog 122 #[v, .slice p n c, .func (.func 53) #[] #[]] w (Puts w0 w (xs ++ listB ns)) := by
  obtain ⟨i0, hi, hz0, hz1, hz2⟩ := info_parts info8c
  have HN : Hid (ns.length = n) := hN.len.1
  have HX : Hid (HasI w0 (.slice p n c) ns) := hN
  have HL : Hid (listB ns = numB (n : Int) ++ numsB ns) := by rw [Hid, listB, HN.out]
  clear hN
  have k2 := put_any (.slice none 0 0) [] (n : Int) w (Has.nil w) (by simp) (by omega) (by omega)
  have hnl := numB_le (n : Int)
  go_enter Tryz.func122, Tryz.ntmps122
  go_wp2_with fail
  refine k2.mono ?_
  rintro e w1 ⟨v1, rfl, ho1, hb1⟩
  have h1 := h.more hb1
  have hsz := h1.bel.size
  rw [List.nil_append] at ho1
  clear k2 h
  go_wp2_with (at_builtin; refine ap_slice_g _ rfl _ _ 22 rfl w0.heap.size 5 i0 Tryz.underlying22 hi hz0 hz1 hz2 _ xs (numB (n : Int)) rfl (by exact ho1.has) (by exact h1.own) (by omega) (by omega) (by exact hsz) ?_; intro v2 w2 ho2 hg2)
  have hP2 : Put10 w0 w2 v2 (xs ++ numB (n : Int)) := ⟨ho2, h1.bel.trans (below_grown h1.own hsz hg2)⟩
  have hk2 : Kin8 w w2 := (Kin8.below hb1).trans (Kin8.grown h1.own hg2)
  clear h1 hsz ho1 hb1 ho2 hg2
  go_loopw [0, 17] (fun s0 s17 wr => ∃ (j : Nat) (u : Value), u = s0 ∧ j ≤ n ∧ s17 = .int .i64 (j : Nat) ∧ Put10 w0 wr u (xs ++ numB (n : Int) ++ numsB (ns.take j)) ∧ Kin8 w wr) (fun _ s17 _ => n - (intOf s17).toNat)
  case atStart => exact ⟨0, _, rfl, Nat.zero_le _, rfl, by rw [List.take_zero, show numsB [] = [] from rfl, List.append_nil]; exact hP2, hk2⟩
  case round =>
    clear hP2 hk2
    obtain ⟨j, u, hu, hj, rfl, hP, hk⟩ := hrel
    subst hu
    by_cases hlt : j < n
    · obtain ⟨b, o, rfl, hb0, hc0⟩ := HX.out.at hlt
      have hc := (hP.bel.cell (p := ⟨b, o + j, none⟩) hb0).trans hc0
      have hb : b < wr.heap.size := Nat.lt_of_lt_of_le hb0 hP.bel.size
      have HS : Hid (numsB (ns.take (j + 1)) = numsB (ns.take j) ++ zigB (ns.getD j 0)) := numsB_snoc (by rw [HN.out]; exact hlt)
      have hlen := numsB_take ns j
      rw [HN.out] at hlen
      generalize ns.getD j 0 = x at *
      have kp := putNumber_any w0 wr u _ x hP (by rw [List.length_append, List.length_append]; omega)
      clear hP hc0 hb0
      go_wp2_with fail
      refine kp.mono ?_
      rintro e w3 ⟨v3, rfl, hP3, hk3⟩
      clear kp
      go_wp2
      go_roundw
      case rel => exact ⟨j + 1, _, rfl, by omega, by go_num, by rw [HS.out, ← List.append_assoc]; exact hP3, hk.trans hk3⟩
      case measure => simp only [intOf]; omega
    · rw [List.take_of_length_le (by rw [HN.out]; omega)] at hP
      go_wp2
      go_ret
      exact ⟨_, rfl, by rw [HL.out, ← List.append_assoc]; exact hP, hk⟩
end Go.Proofs.YtnbaoimjcaeeaaaGreat

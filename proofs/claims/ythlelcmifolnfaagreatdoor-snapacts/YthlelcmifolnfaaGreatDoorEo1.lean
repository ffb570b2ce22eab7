import Derived.Test.YthlelcmifolnfaaGreatDoorLxTo
import Derived.Test.YthlelcmifolnfaaGreatDoorEnRTo
import Derived.Test.YthlelcmifolnfaaGreatDoorCmR
import Derived.Test.YthlelcmifolnfaaGreatDoorLd
import Derived.Lib.ConvBytes
namespace Go.Proofs.YthlelcmifolnfaaGreatDoor
open Go.RowKit Go.Shelf
attribute [local go_sem ↓] ldS_exec ldS_run stS_exec stS_run oc_int oc_bool oc_string oc_slice oc_pointer
structure Rdr (w0 w : World) (rb : Nat) (S : St) : Prop where
  rd : ∃ v, Rd w rb w0.heap.size v S.1 S.2
  bel : Below w0.heap.size w0 w
  inv : Inv S.1 S.2
  isb : IsB S.1
  len : S.1.length ≤ 1073741824
theorem Rdr.lt {w0 w : World} {rb : Nat} {S : St} (h : Rdr w0 w rb S) : w0.heap.size ≤ rb ∧ rb < w.heap.size := by
  obtain ⟨v, hv⟩ := h.rd
  exact ⟨hv.le, hv.lt⟩
theorem Rdr.grow {w0 w w' : World} {rb : Nat} {S S' : St} (h : Rdr w0 w rb S) (hr : ∃ v, Rd w' rb w0.heap.size v S'.1 S'.2) (hg : w.grownBy w' (some rb)) (hi : Inv S'.1 S'.2) (hB : IsB S'.1) (hl : S'.1.length ≤ S.1.length) : Rdr w0 w' rb S' :=
  ⟨hr, ⟨hg.os.trans h.bel.os, hg.tape.trans h.bel.tape, hg.output.trans h.bel.output, Nat.le_trans h.bel.size hg.size, fun k hk => (hg.block k (Nat.lt_of_lt_of_le hk h.bel.size) (by have := h.lt.1; simp; omega)).trans (h.bel.block k hk)⟩, hi, hB, Nat.le_trans hl h.len⟩
theorem Rdr.more {w0 w w' : World} {rb : Nat} {S : St} (h : Rdr w0 w rb S) (hb : Below w.heap.size w w') : Rdr w0 w' rb S := by
  obtain ⟨v, hv⟩ := h.rd
  exact ⟨⟨v, hv.below hb hv.lt⟩, h.bel.trans (hb.mono h.bel.size), h.inv, h.isb, h.len⟩
theorem Rdr.set {w0 w w' : World} {rb b : Nat} {S : St} (h : Rdr w0 w rb S) (hg : w.grownBy w' (some b)) (hb : w0.heap.size ≤ b) (hne : rb ≠ b) : Rdr w0 w' rb S := by
  obtain ⟨v, hv⟩ := h.rd
  exact ⟨⟨v, hv.grown hg hne hb⟩, ⟨hg.os.trans h.bel.os, hg.tape.trans h.bel.tape, hg.output.trans h.bel.output, Nat.le_trans h.bel.size hg.size, fun k hk => (hg.block k (Nat.lt_of_lt_of_le hk h.bel.size) (by simp; omega)).trans (h.bel.block k hk)⟩, h.inv, h.isb, h.len⟩
theorem grown_box {w w' : World} {rb b : Nat} {o : Obj} (hg : w.grownBy w' (some rb)) (h : w.heap[b]? = some o) (hne : b ≠ rb) : w'.heap[b]? = some o := (hg.block b (box_lt h) (by simp; omega)).trans h
theorem below_grownBy {w w' : World} {row : Option Nat} (hb : Below w.heap.size w w') : w.grownBy w' row := ⟨hb.os, hb.tape, hb.output, hb.size, fun k hk _ => hb.block k hk⟩
theorem grown_after {w w1 w2 : World} {row : Option Nat} (hb : Below w.heap.size w w1) (hg : w1.grownBy w2 row) : w.grownBy w2 row := grown_trans (below_grownBy hb) hg

def Left10 (w0 w : World) (rb : Nat) (S' : St) (w' : World) : Prop := Rdr w0 w' rb S' ∧ w.grownBy w' (some rb)

theorem Rdr.int {w0 w : World} {rb : Nat} {S : St} (h : Rdr w0 w rb S) :
    Calls Tryz.prog 153 #[.pointer (some ⟨rb, 0, none⟩)] w fun e w' => e = .returned (.int .i64 (int9 S).1) ∧ Left10 w0 w rb (int9 S).2 w' := by
  obtain ⟨v, hv⟩ := h.rd
  refine (int_any w _ _ v _ _ hv h.isb (Nat.le_trans h.len (by decide))).mono ?_
  rw [h.inv.src]
  rintro e w' ⟨rfl, hr, hg⟩
  exact ⟨rfl, h.grow hr hg (h.inv.lose _) (loseS_isB h.isb _ _) (loseS_length _ _ _), hg⟩

theorem Rdr.text {w0 w : World} {rb : Nat} {S : St} (h : Rdr w0 w rb S) :
    Calls Tryz.prog 155 #[.pointer (some ⟨rb, 0, none⟩)] w fun e w' => e = .returned (.string (strOfNums (byt10 S).1)) ∧ Left10 w0 w rb (byt10 S).2 w' := by
  obtain ⟨v, hv⟩ := h.rd
  refine (text_any w _ _ v _ _ hv h.isb (Nat.le_trans h.len (by decide))).mono ?_
  rw [h.inv.src]
  rintro e w' ⟨rfl, hr, hg⟩
  exact ⟨rfl, h.grow hr hg (h.inv.lose _) (loseS_isB h.isb _ _) (loseS_length _ _ _), hg⟩

theorem Rdr.count {w0 w : World} {rb : Nat} {S : St} (h : Rdr w0 w rb S) (m : Int) (hm : m ≤ 9223372036854775807) :
    Calls Tryz.prog 231 #[.pointer (some ⟨rb, 0, none⟩), .int .i64 m] w fun e w' => e = .returned (.int .i64 (countS m S.1).1) ∧ Left10 w0 w rb (cnt10 m S).2 w' := by
  obtain ⟨v, hv⟩ := h.rd
  refine (count_any m w _ _ v _ _ hv h.isb (Nat.le_trans h.len (by decide)) hm).mono ?_
  rw [h.inv.src]
  rintro e w' ⟨rfl, hr, hg⟩
  exact ⟨rfl, h.grow hr hg (h.inv.lose _) (loseS_isB h.isb _ _) (loseS_length _ _ _), hg⟩

theorem Rdr.fin {w0 w : World} {rb : Nat} {S : St} (h : Rdr w0 w rb S) :
    Calls Tryz.prog 152 #[.pointer (some ⟨rb, 0, none⟩)] w fun e w' => e = .returned (.bool (S.1.isEmpty && !S.2)) ∧ w' = w := by
  obtain ⟨v, hv⟩ := h.rd
  exact end_any w _ _ v _ _ hv

theorem zag_in (u : Int) : inI (zagS u) := by
  unfold zagS inI wrap64
  omega
theorem int9_in (s : St) : inI (int9 s).1 := zag_in _
theorem ints10_in (s : St) : ∀ n, inL (ints10 n s).1
  | 0 => fun _ h => by cases h
  | n + 1 => by
    rw [ints10]
    intro a ha
    rcases List.mem_append.1 ha with ha | ha
    · exact ints10_in s n a ha
    · rw [List.mem_singleton.1 ha]; exact int9_in _
theorem cnt_of (m : Int) (h0 : 0 ≤ m) (S : St) : (countS m S.1).1 = ((cnt10 m S).1 : Int) ∧ ((cnt10 m S).1 : Int) ≤ m := by
  have hb := getS_bd S.1
  unfold cnt10
  dsimp only
  unfold countS
  split
  · exact ⟨rfl, by simpa using h0⟩
  · constructor <;> omega

theorem ret_one {P : Program} {fn : Func} {p : Tmp} {ty : TypeId} (h : fn.results = #[.cell p ty]) (tmps : Array Value) (w : World) (g : Nat) (t : TypeId) (cs : Array Value) (fr : Nat × Nat) (d : TypeDesc)
    (hp : tmps.getD p undef = .pointer (some ⟨g, 0, none⟩)) (hg : w.heap[g]? = some (.cells cs t fr))
    (hu : P.underlying ty = some d) (hd : (match d with | .struct _ | .array _ _ => true | _ => false) = true) (hi : (P.info? ty).map (·.size) = some cs.size) :
    (results fn tmps).run P w = .ok (.agg cs) w := by
  have hp' : tmps[p]?.getD undef = .pointer (some ⟨g, 0, none⟩) := by simpa using hp
  simp [results, h, hp', asAddr, run_loadVar_row w g t ty cs fr d hg hu hd hi]

theorem ap_int10 {ops : Array Oper} {rest : List Oper} {o : Oper} {a : Act} {Q : Exit → Act → World → Prop} (w : World) (hgd : o.guard = none) (s x : Operand)
    (ho : o.op = .call { callee := .builtin .append, args := #[s, x], argTypes := #[22, 22] })
    (B : Nat) (v : Value) (xs : List Int) (z : Int) (hs : a.eval s = v) (hx : a.eval x = .slice (some ⟨w.heap.size, 0, none⟩) 1 1) (hown : OwnsI w B v xs) (hlen : xs.length ≤ 1099511627776) (hB : B ≤ w.heap.size)
    (h : ∀ v' w', OwnsI w' B v' (xs ++ [z]) → Below B w w' → wpList Tryz.prog ops Q rest (a.put o.dst v') w') :
    wpList Tryz.prog ops Q (o :: rest) a (w.alloc (.cells #[.int .i64 z] 3)) := by
  obtain ⟨i, hi, hz, hsize, hby⟩ := info_parts Tryz.infoInt
  refine wpList_append_own _ hgd s x 22 ho B 3 i (.int .i64 0) 1 8 Tryz.underlying22 hi hz hsize hby rfl (by decide) v xs.length (xs.map (Value.int .i64)) hs (World.ownsRow.alloc hown _) ⟨w.heap.size, 0, none⟩ 1 1 [.int .i64 z] hx rfl ?_ ?_ ?_ ?_ ?_ ?_
  · intro j u hj
    match j, hj with
    | 0, hj => simp at hj; subst hj; simp [Addr.add]
  · intro u hu; simp at hu; subst hu; rfl
  · unfold maxLen; omega
  · omega
  · simp; omega
  · intro v' w' hown' hgrow _
    refine h v' w' ?_ ?_
    · unfold OwnsI
      rw [List.length_append, List.length_singleton, List.map_append]
      exact hown'
    · exact ((Below.refl B w).alloc hB _).trans ((Below.refl _ _).grown hgrow (by simp; omega) fun k hk => (World.ownsRow.lt hown k hk).1)
theorem OwnsI.kept10 {w w' : World} {B r : Nat} {v : Value} {xs : List Int} (h : OwnsI w B v xs) (hg : w.grownBy w' (some r)) (hr : r < B) : OwnsI w' B v xs := by
  refine World.ownsRow.kept h hg ?_
  cases hv : v.ownBlock with
  | none => exact .inl rfl
  | some k =>
    have := (World.ownsRow.lt h k hv).1
    exact .inr (fun e => by cases e; omega)

set_option maxRecDepth 100000 in
set_option maxHeartbeats 2000000 in
theorem listI_any (w0 w : World) (rb : Nat) (S : St) (h : Rdr w0 w rb S) :
    Calls Tryz.prog 185 #[.pointer (some ⟨rb, 0, none⟩), .int .i64 9, .func (.func 153) #[.pointer (some ⟨rb, 0, none⟩)] #[]] w fun e w' => ∃ (p : Option Addr) (n c : Nat), e = .returned (.slice p n c) ∧ OwnsI w' w.heap.size (.slice p n c) (list10 9 S).1 ∧ Left10 w0 w rb (list10 9 S).2 w' := by
  obtain ⟨hn1, hn2⟩ := cnt_of 9 (by decide) S
  have kc := h.count 9 (by decide)
  rw [hn1] at kc
  have HL : Hid (list10 9 S = ints10 (cnt10 9 S).1 (cnt10 9 S).2) := rfl
  have hrl := h.lt
  generalize hN : (cnt10 9 S).1 = N at *
  generalize (cnt10 9 S).2 = T at *
  generalize list10 9 S = R at *
  clear hN hn1 h
  go_enter Tryz.func185, Tryz.ntmps185
  go_wp2_with fail
  refine kc.mono ?_
  rintro e w1 ⟨rfl, hR1, hg1⟩
  clear kc
  go_wp2
  go_loopw [7, 13] (fun s7 s13 wr => ∃ (j : Nat) (u : Value), u = s7 ∧ j ≤ N ∧ s13 = .int .i64 (j : Nat) ∧ OwnsI wr w.heap.size u (ints10 j T).1 ∧ Rdr w0 wr rb (ints10 j T).2 ∧ w.grownBy wr (some rb)) (fun _ s13 _ => N - (intOf s13).toNat)
  case atStart => exact ⟨0, _, rfl, Nat.zero_le _, rfl, OwnsI.nil _ _, hR1, hg1⟩
  case round =>
    clear hR1 hg1
    obtain ⟨j, u, hu, hj, rfl, ho, hR, hg⟩ := hrel
    subst hu
    by_cases hlt : j < N
    · have HS : Hid (ints10 (j + 1) T = ((ints10 j T).1 ++ [(int9 (ints10 j T).2).1], (int9 (ints10 j T).2).2)) := rfl
      have hll := ints10_len T j
      have ki := hR.int
      generalize ints10 j T = Q at *
      obtain ⟨l, st⟩ := Q
      dsimp only at ho hR HS hll ki
      generalize int9 st = A at *
      obtain ⟨z, st2⟩ := A
      dsimp only at HS ki
      have hrr := hR.lt.2
      clear hR
      go_wp2_with fail
      refine ki.mono ?_
      rintro e w2 ⟨rfl, hR2, hg2⟩
      have ho2 := ho.kept10 hg2 (by omega)
      have hG2 := grown_trans hg hg2
      have hsz := hG2.size
      clear ki ho hg hg2
      go_wp2_with (at_builtin; refine ap_int10 _ rfl _ _ rfl w.heap.size _ _ _ rfl rfl (by exact ho2) (by omega) (by exact hsz) ?_; intro v3 w3 ho3 hb3)
      go_roundw
      case rel =>
        refine ⟨j + 1, _, rfl, by omega, by go_num, by rw [HS.out]; exact ho3, ?_, ?_⟩
        · rw [HS.out]
          obtain ⟨v', hv'⟩ := hR2.rd
          exact ⟨⟨v', hv'.below hb3 hrl.2⟩, hR2.bel.trans (hb3.mono (by have := hR2.bel.size; omega)), hR2.inv, hR2.isb, hR2.len⟩
        · exact ⟨hb3.os.trans hG2.os, hb3.tape.trans hG2.tape, hb3.output.trans hG2.output, Nat.le_trans hG2.size hb3.size, fun k hk hr => (hb3.block k hk).trans (hG2.block k hk hr)⟩
      case measure => simp only [intOf]; omega
    · obtain rfl : j = N := by omega
      obtain ⟨p9, c9, hv9, -, -, -⟩ := id ho.has
      generalize hl9 : (ints10 j T).1.length = n9 at hv9
      clear hl9
      subst hv9
      go_wp2
      go_ret
      exact ⟨_, _, _, rfl, by rw [HL.out]; exact ho, by rw [HL.out]; exact hR, hg⟩
end Go.Proofs.YthlelcmifolnfaaGreatDoor

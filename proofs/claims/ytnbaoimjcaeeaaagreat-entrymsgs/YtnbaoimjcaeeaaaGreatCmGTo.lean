import Derived.Test.YtnbaoimjcaeeaaaGreatEnMTo
import Derived.Test.YtnbaoimjcaeeaaaGreatCmKTo
/-
  Contracts: command.Bytes, corbelref09.Bytes.
-/
namespace Go.Proofs.YtnbaoimjcaeeaaaGreat
open Go.RowKit

def nums9 (c : Cmd9) : List Int := [c.k, c.s, c.q, c.lim]
def txts9 (c : Cmd9) : List ByteArray := [c.key, c.old, c.val, c.unt]
def zigsB (l : List Int) : List Int := (l.map zigB).flatten
def textsB (l : List ByteArray) : List Int := (l.map textB).flatten
theorem cmdB_parts (c : Cmd9) : cmdB c = zigsB (nums9 c) ++ textsB (txts9 c) := by simp [cmdB, zigsB, textsB, nums9, txts9]
theorem zigsB_snoc {l : List Int} {j : Nat} (h : j < l.length) : zigsB (l.take (j + 1)) = zigsB (l.take j) ++ numB (zigS (l.getD j 0)) := by
  rw [List.take_succ_eq_append_getElem h]
  unfold zigsB
  rw [List.map_append, List.flatten_append, List.getD_eq_getElem?_getD, List.getElem?_eq_getElem h]
  simp [zigB]
theorem textsB_snoc {l : List ByteArray} {j : Nat} (h : j < l.length) : textsB (l.take (j + 1)) = textsB (l.take j) ++ textB (l.getD j em9) := by
  rw [List.take_succ_eq_append_getElem h]
  unfold textsB
  rw [List.map_append, List.flatten_append, List.getD_eq_getElem?_getD, List.getElem?_eq_getElem h]
  simp
theorem zigsB_len : ∀ l : List Int, (zigsB l).length ≤ 9 * l.length
  | [] => by simp [zigsB]
  | a :: l => by
    have := zigsB_len l
    have h2 := zigB_le a
    rw [show zigsB (a :: l) = zigB a ++ zigsB l by simp [zigsB], List.length_append, List.length_cons]
    omega
theorem textsB_len : ∀ {l : List ByteArray} {m : Nat}, (∀ s ∈ l, s.size ≤ m) → (textsB l).length ≤ (m + 9) * l.length
  | [], _, _ => by simp [textsB]
  | a :: l, m, h => by
    have := textsB_len (l := l) (m := m) fun s hs => h s (List.mem_cons_of_mem _ hs)
    have h2 := textB_length a
    have h3 := h a List.mem_cons_self
    rw [show textsB (a :: l) = textB a ++ textsB l by simp [textsB], List.length_append, List.length_cons, Nat.mul_add]
    omega

set_option maxRecDepth 100000 in
set_option maxHeartbeats 1500000 in
theorem bytes20_any (c : Cmd9) (w : World) (hs : c.key.size ≤ 20000 ∧ c.old.size ≤ 20000 ∧ c.val.size ≤ 20000 ∧ c.unt.size ≤ 20000) :
    Calls Tryz.prog 89 #[.agg c.arr] w fun e w' => ∃ v, e = .returned v ∧ Owns w' w.heap.size 5 v (cmdB c) ∧ Below w.heap.size w w' := by
  have hB0 := Box9.new w c
  have HC : Hid (cmdB c = zigsB (nums9 c) ++ textsB (txts9 c)) := cmdB_parts c
  have HN : Hid ((nums9 c).length = 4) := rfl
  have HT : Hid ((txts9 c).length = 4) := rfl
  have HS : Hid (∀ s ∈ txts9 c, s.size ≤ 20000) := by
    intro s h
    simp only [txts9, List.mem_cons, List.not_mem_nil, or_false] at h
    rcases h with rfl | rfl | rfl | rfl
    · exact hs.1
    · exact hs.2.1
    · exact hs.2.2.1
    · exact hs.2.2.2
  have HA : ∀ (W : World) (R : Nat) (l : List Int), W.heap[R]? = some (.cells (l.map (Value.int .i64)).toArray 3 (0, 0)) → ∀ j, j < l.length → W.cell? ⟨R, j, none⟩ = some (.int .i64 (l.getD j 0)) := by
    intro W R l h j hj
    rw [cell_of_row _ R j _ 3 (0, 0) h]
    simp [List.getD_eq_getElem?_getD, hj]
  have HA2 : ∀ (W : World) (R : Nat) (l : List ByteArray), W.heap[R]? = some (.cells (l.map Value.string).toArray 9 (0, 0)) → ∀ j, j < l.length → W.cell? ⟨R, j, none⟩ = some (.string (l.getD j em9)) := by
    intro W R l h j hj
    rw [cell_of_row _ R j _ 9 (0, 0) h]
    simp [List.getD_eq_getElem?_getD, hj]
  have Hn : Hid (nums9 c = [c.k, c.s, c.q, c.lim]) := rfl
  have Ht : Hid (txts9 c = [c.key, c.old, c.val, c.unt]) := rfl
  generalize cmdB c = xs at *
  generalize nums9 c = ns at *
  generalize txts9 c = ts at *
  obtain ⟨k, s, q, key, old, val, unt, lim⟩ := c
  unfold Cmd9.arr at *
  dsimp only at *
  have hb2 := hB0.more (.cells #[.int .i64 k, .int .i64 s, .int .i64 q, .int .i64 lim] 3)
  have hr2 := heap_alloc_new (w.alloc (.cells #[.int .i64 k, .int .i64 s, .int .i64 q, .string key, .string old, .string val, .string unt, .int .i64 lim] 25)) (.cells #[.int .i64 k, .int .i64 s, .int .i64 q, .int .i64 lim] 3)
  rw [show (w.alloc (.cells #[.int .i64 k, .int .i64 s, .int .i64 q, .string key, .string old, .string val, .string unt, .int .i64 lim] 25)).heap.size = w.heap.size + 1 by simp] at hr2
  go_enter Tryz.func89, Tryz.ntmps89
  go_wp2
  generalize (w.alloc (.cells #[.int .i64 k, .int .i64 s, .int .i64 q, .string key, .string old, .string val, .string unt, .int .i64 lim] 25)).alloc (.cells #[.int .i64 k, .int .i64 s, .int .i64 q, .int .i64 lim] 3) = W2 at *
  have hc2 := HA W2 _ ns (by rw [Hn.out]; exact hr2)
  rw [HN.out] at hc2
  have hlt2 := (Array.getElem?_eq_some_iff.1 hr2).1
  have hw2 := hb2.2.1.size
  clear hB0 hr2 HA
  go_loopw [3, 18] (fun s3 s18 wr => ∃ (j : Nat) (u : Value), u = s3 ∧ j ≤ 4 ∧ s18 = .int .i64 (j : Nat) ∧ Owns wr w.heap.size 5 u (zigsB (ns.take j)) ∧ Below W2.heap.size W2 wr) (fun _ s18 _ => 4 - (intOf s18).toNat)
  case atStart => exact ⟨0, _, rfl, Nat.zero_le _, rfl, Owns.nil _ _ _, Below.refl _ _⟩
  case round =>
    obtain ⟨j, u, hu, hj, rfl, ho, hbr⟩ := hrel
    subst hu
    by_cases hlt : j < 4
    · have cj := (hbr.cell (p := ⟨w.heap.size + 1, j, none⟩) hlt2).trans (hc2 j hlt)
      have Hst := zigsB_snoc (l := ns) (j := j) (by rw [HN.out]; exact hlt)
      have HST : Hid (zigsB (ns.take (j + 1)) = zigsB (ns.take j) ++ numB (zigS (ns.getD j 0))) := Hst
      have hzl := zigsB_len (ns.take j)
      have htl : (ns.take j).length ≤ 4 := by rw [List.length_take]; omega
      clear Hst
      generalize ns.getD j 0 = n at *
      have hzz := zig_any n wr
      have hzb := zig_bd n
      have hpp := put_any u _ (zigS n) wr ho.has (by omega) hzb.1 hzb.2
      generalize zigS n = z at *
      have hbz := hbr.size
      go_wp2_with fail
      refine same_mono hzz ?_
      go_wp2_with fail
      refine hpp.mono ?_
      rintro e w3 ⟨v3, rfl, ho3, hb3⟩
      clear hzz hpp
      go_wp2
      go_roundw
      case rel => exact ⟨j + 1, _, rfl, by omega, by go_num, by rw [HST.out]; exact ho3.mono (by omega), hbr.trans (hb3.mono hbz)⟩
      case measure => simp only [intOf]; omega
    · rw [List.take_of_length_le (by rw [HN.out]; omega)] at ho
      have hb3 := hb2.below hbr
      obtain ⟨c0, c1, c2, c3, c4, c5, c6, c7⟩ := hb3.cells
      have hlb := hb3.1.lt
      have hb4 := hb3.more (.cells #[.string key, .string old, .string val, .string unt] 9)
      have hr4 := heap_alloc_new wr (.cells #[.string key, .string old, .string val, .string unt] 9)
      have ho4 : Owns (wr.alloc (.cells #[.string key, .string old, .string val, .string unt] 9)) w.heap.size 5 u (zigsB ns) := World.ownsRow.alloc ho _
      have hzl := zigsB_len ns
      have htl := HN.out
      clear hc2 hb2 hb3 ho hlt2 hbr
      go_wp2
      generalize wr.alloc (.cells #[.string key, .string old, .string val, .string unt] 9) = W4 at *
      have hc4 := HA2 W4 _ ts (by rw [Ht.out]; exact hr4)
      rw [HT.out] at hc4
      have hlt4 := (Array.getElem?_eq_some_iff.1 hr4).1
      have hw4 := hb4.2.1.size
      clear hr4 HA2 c0 c1 c2 c3 c4 c5 c6 c7
      generalize wr.heap.size = R at *
      go_loopw [3, 37] (fun s3 s37 wr => ∃ (i : Nat) (v : Value), v = s3 ∧ i ≤ 4 ∧ s37 = .int .i64 (i : Nat) ∧ Owns wr w.heap.size 5 v (zigsB ns ++ textsB (ts.take i)) ∧ Below W4.heap.size W4 wr) (fun _ s37 _ => 4 - (intOf s37).toNat)
      case atStart => exact ⟨0, _, rfl, Nat.zero_le _, rfl, by rw [show textsB (ts.take 0) = [] from rfl, List.append_nil]; exact ho4, Below.refl _ _⟩
      case round =>
        clear ho4
        obtain ⟨i, v, hv, hi, rfl, ho2, hbr2⟩ := hrel
        subst hv
        by_cases hlt2 : i < 4
        · have cj := (hbr2.cell (p := ⟨R, i, none⟩) hlt4).trans (hc4 i hlt2)
          have Hst := textsB_snoc (l := ts) (j := i) (by rw [HT.out]; exact hlt2)
          have HST : Hid (textsB (ts.take (i + 1)) = textsB (ts.take i) ++ textB (ts.getD i em9)) := Hst
          have hxl := textsB_len (l := ts.take i) (m := 20000) fun s h => HS.out s (List.mem_of_mem_take h)
          have hxt : (ts.take i).length ≤ 4 := by rw [List.length_take]; omega
          have hsz : (ts.getD i em9).size ≤ 20000 := by
            refine HS.out _ ?_
            rw [List.getD_eq_getElem?_getD, List.getElem?_eq_getElem (by rw [HT.out]; exact hlt2)]
            exact List.getElem_mem _
          clear Hst
          generalize ts.getD i em9 = t at *
          have hpp := putText_any v _ t wr ho2.has (by rw [List.length_append]; omega) (by omega)
          have hbz2 := hbr2.size
          go_wp2_with fail
          refine hpp.mono ?_
          rintro e w3 ⟨v3, rfl, ho3, hb3⟩
          clear hpp
          go_wp2
          go_roundw
          case rel => exact ⟨i + 1, _, rfl, by omega, by go_num, by rw [HST.out, ← List.append_assoc]; exact ho3.mono (by omega), hbr2.trans (hb3.mono hbz2)⟩
          case measure => simp only [intOf]; omega
        · rw [List.take_of_length_le (by rw [HT.out]; omega)] at ho2
          have hb5 := hb4.below hbr2
          clear hc4 hb4
          go_wp2
          go_ret
          exact ⟨_, rfl, by rw [HC.out]; exact ho2, hb5.2.1⟩

theorem bytes_any (c : Cmd9) (w : World) (hs : c.key.size ≤ 5000 ∧ c.old.size ≤ 5000 ∧ c.val.size ≤ 5000 ∧ c.unt.size ≤ 5000) :
    Calls Tryz.prog 89 #[.agg c.arr] w fun e w' => ∃ v, e = .returned v ∧ Owns w' w.heap.size 5 v (cmdB c) ∧ Below w.heap.size w w' :=
  bytes20_any c w (by omega)
end Go.Proofs.YtnbaoimjcaeeaaaGreat

/-
  Contracts: corbelref09.Bytes.
-/
namespace Go.Proofs.YtnbaoimjcaeeaaaGreat
open Go.RowKit

theorem infoI9 : (Tryz.prog.info? 3).map (fun i => (i.zero, i.size, i.bytes)) = some (some (.int .i64 0), 1, 8) := by kernel_rfl
theorem infoS9 : (Tryz.prog.info? 9).map (fun i => (i.zero, i.size, i.bytes)) = some (some (.string ⟨#[]⟩), 1, 16) := by kernel_rfl
theorem index_ints9 (a b c d : Int) (j : Nat) (h : j < 4) (W : World) : (Instr.index 141 (.agg #[.int .i64 a, .int .i64 b, .int .i64 c, .int .i64 d]) (.int .i64 (j : Nat))).run Tryz.prog W = .ok (.int .i64 ([a, b, c, d].getD j 0)) W := by
  obtain ⟨i1, hi1, hz1, hs1, hb1⟩ := info_parts infoI9
  obtain rfl | rfl | rfl | rfl : j = 0 ∨ j = 1 ∨ j = 2 ∨ j = 3 := by omega
  all_goals simp [Instr.index, asIntOf, run_underlying Tryz.underlying141, sizeOf, typeInfo, hi1, hs1, part, go_sem]
theorem index_strs9 (a b c d : ByteArray) (j : Nat) (h : j < 4) (W : World) : (Instr.index 142 (.agg #[.string a, .string b, .string c, .string d]) (.int .i64 (j : Nat))).run Tryz.prog W = .ok (.string ([a, b, c, d].getD j em9)) W := by
  obtain ⟨i1, hi1, hz1, hs1, hb1⟩ := info_parts infoS9
  obtain rfl | rfl | rfl | rfl : j = 0 ∨ j = 1 ∨ j = 2 ∨ j = 3 := by omega
  all_goals simp [Instr.index, asIntOf, run_underlying Tryz.underlying142, sizeOf, typeInfo, hi1, hs1, part, go_sem]

set_option maxRecDepth 100000 in
set_option maxHeartbeats 1500000 in
theorem rbytes20_any (c : Cmd9) (w : World) (hs : c.key.size ≤ 20000 ∧ c.old.size ≤ 20000 ∧ c.val.size ≤ 20000 ∧ c.unt.size ≤ 20000) :
    Calls Tryz.prog 94 #[.agg c.arr] w fun e w' => ∃ v, e = .returned v ∧ Owns w' w.heap.size 5 v (cmdB c) ∧ Below w.heap.size w w' := by
  have hB0 := Box9.new w c
  have HC : Hid (cmdB c = zigsB (nums9 c) ++ textsB (txts9 c)) := cmdB_parts c
  have HN : Hid ((nums9 c).length = 4) := rfl
  have HT : Hid ((txts9 c).length = 4) := rfl
  have HS : Hid (∀ s ∈ txts9 c, s.size ≤ 20000) := by
    intro s h
    simp only [txts9, List.mem_cons, List.not_mem_nil, or_false] at h
    rcases h with rfl | rfl | rfl | rfl
    · exact hs.1
    · exact hs.2.1
    · exact hs.2.2.1
    · exact hs.2.2.2
  have Hn : Hid (nums9 c = [c.k, c.s, c.q, c.lim]) := rfl
  have Ht : Hid (txts9 c = [c.key, c.old, c.val, c.unt]) := rfl
  generalize cmdB c = xs at *
  generalize nums9 c = ns at *
  generalize txts9 c = ts at *
  obtain ⟨k, s, q, key, old, val, unt, lim⟩ := c
  unfold Cmd9.arr at *
  dsimp only at *
  have hix := fun (j : Nat) (hj : j < 4) (W : World) => index_ints9 k s q lim j hj W
  rw [← Hn.out] at hix
  have HIX : Hid _ := hix
  have hiy := fun (j : Nat) (hj : j < 4) (W : World) => index_strs9 key old val unt j hj W
  rw [← Ht.out] at hiy
  have HIY : Hid _ := hiy
  clear hix hiy
  go_enter Tryz.func94, Tryz.ntmps94
  go_wp2
  generalize w.alloc (.cells #[.int .i64 k, .int .i64 s, .int .i64 q, .string key, .string old, .string val, .string unt, .int .i64 lim] 25) = W2 at *
  have hw2 := hB0.2.1.size
  go_loopw [3, 17] (fun s3 s17 wr => ∃ (j : Nat) (u : Value), u = s3 ∧ j ≤ 4 ∧ s17 = .int .i64 (j : Nat) ∧ Owns wr w.heap.size 5 u (zigsB (ns.take j)) ∧ Below W2.heap.size W2 wr) (fun _ s17 _ => 4 - (intOf s17).toNat)
  case atStart => exact ⟨0, _, rfl, Nat.zero_le _, rfl, Owns.nil _ _ _, Below.refl _ _⟩
  case round =>
    obtain ⟨j, u, hu, hj, rfl, ho, hbr⟩ := hrel
    subst hu
    by_cases hlt : j < 4
    · have cj := HIX.out j hlt
      have Hst := zigsB_snoc (l := ns) (j := j) (by rw [HN.out]; exact hlt)
      have HST : Hid (zigsB (ns.take (j + 1)) = zigsB (ns.take j) ++ numB (zigS (ns.getD j 0))) := Hst
      have hzl := zigsB_len (ns.take j)
      have htl : (ns.take j).length ≤ 4 := by rw [List.length_take]; omega
      clear Hst
      generalize ns.getD j 0 = n at *
      have hzz := rzig_any n wr
      have hzb := zig_bd n
      have hpp := rput_cod u _ (zigS n) wr ho.has (by omega) hzb.1 hzb.2
      generalize zigS n = z at *
      have hbz := hbr.size
      go_wp2_with fail
      refine same_mono hzz ?_
      go_wp2_with fail
      refine hpp.mono ?_
      rintro e w3 ⟨v3, rfl, ho3, hb3⟩
      clear hzz hpp
      go_wp2
      go_roundw
      case rel => exact ⟨j + 1, _, rfl, by omega, by go_num, by rw [HST.out]; exact ho3.mono (by omega), hbr.trans (hb3.mono hbz)⟩
      case measure => simp only [intOf]; omega
    · rw [List.take_of_length_le (by rw [HN.out]; omega)] at ho
      have hb3 := hB0.below hbr
      obtain ⟨c0, c1, c2, c3, c4, c5, c6, c7⟩ := hb3.cells
      have hlb := hb3.1.lt
      have hzl := zigsB_len ns
      have htl := HN.out
      have hw4 := hb3.2.1.size
      clear hB0 hbr HIX
      go_wp2
      clear c0 c1 c2 c3 c4 c5 c6 c7
      go_loopw [3, 34] (fun s3 s34 wx => ∃ (i : Nat) (v : Value), v = s3 ∧ i ≤ 4 ∧ s34 = .int .i64 (i : Nat) ∧ Owns wx w.heap.size 5 v (zigsB ns ++ textsB (ts.take i)) ∧ Below wr.heap.size wr wx) (fun _ s34 _ => 4 - (intOf s34).toNat)
      case atStart => exact ⟨0, _, rfl, Nat.zero_le _, rfl, by rw [show textsB (ts.take 0) = [] from rfl, List.append_nil]; exact ho, Below.refl _ _⟩
      case round =>
        clear ho
        obtain ⟨i, v, hv, hi, rfl, ho2, hbr2⟩ := hrel
        subst hv
        by_cases hlt2 : i < 4
        · have cj := HIY.out i hlt2
          have Hst := textsB_snoc (l := ts) (j := i) (by rw [HT.out]; exact hlt2)
          have HST : Hid (textsB (ts.take (i + 1)) = textsB (ts.take i) ++ textB (ts.getD i em9)) := Hst
          have hxl := textsB_len (l := ts.take i) (m := 20000) fun s h => HS.out s (List.mem_of_mem_take h)
          have hxt : (ts.take i).length ≤ 4 := by rw [List.length_take]; omega
          have hsz : (ts.getD i em9).size ≤ 20000 := by
            refine HS.out _ ?_
            rw [List.getD_eq_getElem?_getD, List.getElem?_eq_getElem (by rw [HT.out]; exact hlt2)]
            exact List.getElem_mem _
          clear Hst
          generalize ts.getD i em9 = t at *
          have hpp := rputText_any v _ t _ ho2.has (by rw [List.length_append]; omega) (by omega)
          have hbz2 := hbr2.size
          go_wp2_with fail
          refine hpp.mono ?_
          rintro e w5 ⟨v5, rfl, ho5, hb5⟩
          clear hpp
          go_wp2
          go_roundw
          case rel => exact ⟨i + 1, _, rfl, by omega, by go_num, by rw [HST.out, ← List.append_assoc]; exact ho5.mono (by omega), hbr2.trans (hb5.mono hbz2)⟩
          case measure => simp only [intOf]; omega
        · rw [List.take_of_length_le (by rw [HT.out]; omega)] at ho2
          have hb5 := hb3.below hbr2
          clear hb3 HIY
          go_wp2
          go_ret
          exact ⟨_, rfl, by rw [HC.out]; exact ho2, hb5.2.1⟩

theorem rbytes_any (c : Cmd9) (w : World) (hs : c.key.size ≤ 5000 ∧ c.old.size ≤ 5000 ∧ c.val.size ≤ 5000 ∧ c.unt.size ≤ 5000) :
    Calls Tryz.prog 94 #[.agg c.arr] w fun e w' => ∃ v, e = .returned v ∧ Owns w' w.heap.size 5 v (cmdB c) ∧ Below w.heap.size w w' :=
  rbytes20_any c w (by omega)
end Go.Proofs.YtnbaoimjcaeeaaaGreat

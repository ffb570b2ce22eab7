import Derived.Test.YtkbbhllchombdaaGreatDoorCmC
import Derived.Test.YtkbbhllchombdaaGreatDoorLd
import Derived.Test.YtkbbhllchombdaaGreatDoorEnQTo
import Derived.Laws.ResultCell
import Derived.Laws.Rows
namespace Go.Proofs.YtkbbhllchombdaaGreatDoor
open Go.RowKit Go.Lib
def Box9 (w0 w : World) (b : Nat) (c : Cmd9) : Prop := CmdAt w b c ∧ Below w0.heap.size w0 w ∧ w0.heap.size ≤ b
theorem Box9.new (w : World) (c : Cmd9) : Box9 w (w.alloc (.cells c.arr 23)) w.heap.size c := ⟨CmdAt.new w c, (Below.refl _ _).alloc (Nat.le_refl _) _, Nat.le_refl _⟩
theorem Box9.below {w0 w w' : World} {b : Nat} {c : Cmd9} (h : Box9 w0 w b c) (hb : Below w.heap.size w w') : Box9 w0 w' b c := ⟨h.1.below hb, h.2.1.trans (hb.mono h.2.1.size), h.2.2⟩
theorem Box9.more {w0 w : World} {b : Nat} {c : Cmd9} (h : Box9 w0 w b c) (x : Obj) : Box9 w0 (w.alloc x) b c := h.below ((Below.refl _ _).alloc (Nat.le_refl _) x)
theorem Box9.cells {w0 w : World} {b : Nat} {k s q : Int} {key old val unt : ByteArray} {lim : Int} (h : Box9 w0 w b ⟨k, s, q, key, old, val, unt, lim⟩) :
    w.cell? ⟨b, 0, none⟩ = some (.int .i64 k) ∧ w.cell? ⟨b, 1, none⟩ = some (.int .i64 s) ∧ w.cell? ⟨b, 2, none⟩ = some (.int .i64 q) ∧ w.cell? ⟨b, 3, none⟩ = some (.string key) ∧
    w.cell? ⟨b, 4, none⟩ = some (.string old) ∧ w.cell? ⟨b, 5, none⟩ = some (.string val) ∧ w.cell? ⟨b, 6, none⟩ = some (.string unt) ∧ w.cell? ⟨b, 7, none⟩ = some (.int .i64 lim) := h.1.cells

end Go.Proofs.YtkbbhllchombdaaGreatDoor

namespace Go.Proofs.YtkbbhllchombdaaGreatDoor
open Go.RowKit
attribute [local go_sem ↓] ldE_exec ldE_run stE_exec ldC_exec ldC_run stC_exec ldW_exec stW_exec ldR_exec stR_exec ldT_exec stT_exec ldU_exec stU_exec oc_int oc_bool oc_string oc_slice oc_pointer
def nums9 (c : Cmd9) : List Int := [c.k, c.s, c.q, c.lim]
def txts9 (c : Cmd9) : List ByteArray := [c.key, c.old, c.val, c.unt]
def zigsB (l : List Int) : List Int := (l.map zigB).flatten
def textsB (l : List ByteArray) : List Int := (l.map textB).flatten
theorem cmdB_parts (c : Cmd9) : cmdB c = zigsB (nums9 c) ++ textsB (txts9 c) := by simp [cmdB, zigsB, textsB, nums9, txts9]
theorem zigsB_snoc {l : List Int} {j : Nat} (h : j < l.length) : zigsB (l.take (j + 1)) = zigsB (l.take j) ++ numB (zigS (l.getD j 0)) := by
  rw [List.take_succ_eq_append_getElem h]
  unfold zigsB
  rw [List.map_append, List.flatten_append, List.getD_eq_getElem?_getD, List.getElem?_eq_getElem h]
  simp [zigB]
theorem textsB_snoc {l : List ByteArray} {j : Nat} (h : j < l.length) : textsB (l.take (j + 1)) = textsB (l.take j) ++ textB (l.getD j em9) := by
  rw [List.take_succ_eq_append_getElem h]
  unfold textsB
  rw [List.map_append, List.flatten_append, List.getD_eq_getElem?_getD, List.getElem?_eq_getElem h]
  simp
theorem zigsB_len : ∀ l : List Int, (zigsB l).length ≤ 9 * l.length
  | [] => by simp [zigsB]
  | a :: l => by
    have := zigsB_len l
    have h2 := zigB_le a
    rw [show zigsB (a :: l) = zigB a ++ zigsB l by simp [zigsB], List.length_append, List.length_cons]
    omega
theorem textsB_len : ∀ {l : List ByteArray} {m : Nat}, (∀ s ∈ l, s.size ≤ m) → (textsB l).length ≤ (m + 9) * l.length
  | [], _, _ => by simp [textsB]
  | a :: l, m, h => by
    have := textsB_len (l := l) (m := m) fun s hs => h s (List.mem_cons_of_mem _ hs)
    have h2 := textB_length a
    have h3 := h a List.mem_cons_self
    rw [show textsB (a :: l) = textB a ++ textsB l by simp [textsB], List.length_append, List.length_cons, Nat.mul_add]
    omega

set_option maxRecDepth 100000 in
set_option maxHeartbeats 1500000 in
theorem bytes20_any (c : Cmd9) (w : World) (hs : c.key.size ≤ 20000 ∧ c.old.size ≤ 20000 ∧ c.val.size ≤ 20000 ∧ c.unt.size ≤ 20000) :
    Calls Tryz.prog 233 #[.agg c.arr] w fun e w' => ∃ v, e = .returned v ∧ Owns w' w.heap.size 5 v (cmdB c) ∧ Below w.heap.size w w' := by
  have hB0 := Box9.new w c
  have HC : Hid (cmdB c = zigsB (nums9 c) ++ textsB (txts9 c)) := cmdB_parts c
  have HN : Hid ((nums9 c).length = 4) := rfl
  have HT : Hid ((txts9 c).length = 4) := rfl
  have HS : Hid (∀ s ∈ txts9 c, s.size ≤ 20000) := by
    intro s h
    simp only [txts9, List.mem_cons, List.not_mem_nil, or_false] at h
    rcases h with rfl | rfl | rfl | rfl
    · exact hs.1
    · exact hs.2.1
    · exact hs.2.2.1
    · exact hs.2.2.2
  have HA : ∀ (W : World) (R : Nat) (l : List Int), W.heap[R]? = some (.cells (l.map (Value.int .i64)).toArray 3 (0, 0)) → ∀ j, j < l.length → W.cell? ⟨R, j, none⟩ = some (.int .i64 (l.getD j 0)) := by
    intro W R l h j hj
    rw [cell_of_row _ R j _ 3 (0, 0) h]
    simp [List.getD_eq_getElem?_getD, hj]
  have HA2 : ∀ (W : World) (R : Nat) (l : List ByteArray), W.heap[R]? = some (.cells (l.map Value.string).toArray 9 (0, 0)) → ∀ j, j < l.length → W.cell? ⟨R, j, none⟩ = some (.string (l.getD j em9)) := by
    intro W R l h j hj
    rw [cell_of_row _ R j _ 9 (0, 0) h]
    simp [List.getD_eq_getElem?_getD, hj]
  have Hn : Hid (nums9 c = [c.k, c.s, c.q, c.lim]) := rfl
  have Ht : Hid (txts9 c = [c.key, c.old, c.val, c.unt]) := rfl
  generalize cmdB c = xs at *
  generalize nums9 c = ns at *
  generalize txts9 c = ts at *
  obtain ⟨k, s, q, key, old, val, unt, lim⟩ := c
  unfold Cmd9.arr at *
  dsimp only at *
  have hb2 := hB0.more (.cells #[.int .i64 k, .int .i64 s, .int .i64 q, .int .i64 lim] 3)
  have hr2 := heap_alloc_new (w.alloc (.cells #[.int .i64 k, .int .i64 s, .int .i64 q, .string key, .string old, .string val, .string unt, .int .i64 lim] 23)) (.cells #[.int .i64 k, .int .i64 s, .int .i64 q, .int .i64 lim] 3)
  rw [show (w.alloc (.cells #[.int .i64 k, .int .i64 s, .int .i64 q, .string key, .string old, .string val, .string unt, .int .i64 lim] 23)).heap.size = w.heap.size + 1 by simp] at hr2
  go_enter Tryz.func233, Tryz.ntmps233
  go_wp2
  generalize (w.alloc (.cells #[.int .i64 k, .int .i64 s, .int .i64 q, .string key, .string old, .string val, .string unt, .int .i64 lim] 23)).alloc (.cells #[.int .i64 k, .int .i64 s, .int .i64 q, .int .i64 lim] 3) = W2 at *
  have hc2 := HA W2 _ ns (by rw [Hn.out]; exact hr2)
  rw [HN.out] at hc2
  have hlt2 := (Array.getElem?_eq_some_iff.1 hr2).1
  have hw2 := hb2.2.1.size
  clear hB0 hr2 HA
  go_loopw [3, 18] (fun s3 s18 wr => ∃ (j : Nat) (u : Value), u = s3 ∧ j ≤ 4 ∧ s18 = .int .i64 (j : Nat) ∧ Owns wr w.heap.size 5 u (zigsB (ns.take j)) ∧ Below W2.heap.size W2 wr) (fun _ s18 _ => 4 - (intOf s18).toNat)
  case atStart => exact ⟨0, _, rfl, Nat.zero_le _, rfl, Owns.nil _ _ _, Below.refl _ _⟩
  case round =>
    obtain ⟨j, u, hu, hj, rfl, ho, hbr⟩ := hrel
    subst hu
    by_cases hlt : j < 4
    · have cj := (hbr.cell (p := ⟨w.heap.size + 1, j, none⟩) hlt2).trans (hc2 j hlt)
      have Hst := zigsB_snoc (l := ns) (j := j) (by rw [HN.out]; exact hlt)
      have HST : Hid (zigsB (ns.take (j + 1)) = zigsB (ns.take j) ++ numB (zigS (ns.getD j 0))) := Hst
      have hzl := zigsB_len (ns.take j)
      have htl : (ns.take j).length ≤ 4 := by rw [List.length_take]; omega
      clear Hst
      generalize ns.getD j 0 = n at *
      have hzz := zig_any n wr
      have hzb := zig_bd n
      have hpp := put_any u _ (zigS n) wr ho.has (by omega) hzb.1 hzb.2
      generalize zigS n = z at *
      have hbz := hbr.size
      go_wp2_with fail
      refine same_mono hzz ?_
      go_wp2_with fail
      refine hpp.mono ?_
      rintro e w3 ⟨v3, rfl, ho3, hb3⟩
      clear hzz hpp
      go_wp2
      go_roundw
      case rel => exact ⟨j + 1, _, rfl, by omega, by go_num, by rw [HST.out]; exact ho3.mono (by omega), hbr.trans (hb3.mono hbz)⟩
      case measure => simp only [intOf]; omega
    · rw [List.take_of_length_le (by rw [HN.out]; omega)] at ho
      have hb3 := hb2.below hbr
      obtain ⟨c0, c1, c2, c3, c4, c5, c6, c7⟩ := hb3.cells
      have hlb := hb3.1.lt
      have hb4 := hb3.more (.cells #[.string key, .string old, .string val, .string unt] 9)
      have hr4 := heap_alloc_new wr (.cells #[.string key, .string old, .string val, .string unt] 9)
      have ho4 : Owns (wr.alloc (.cells #[.string key, .string old, .string val, .string unt] 9)) w.heap.size 5 u (zigsB ns) := World.ownsRow.alloc ho _
      have hzl := zigsB_len ns
      have htl := HN.out
      clear hc2 hb2 hb3 ho hlt2 hbr
      go_wp2
      generalize wr.alloc (.cells #[.string key, .string old, .string val, .string unt] 9) = W4 at *
      have hc4 := HA2 W4 _ ts (by rw [Ht.out]; exact hr4)
      rw [HT.out] at hc4
      have hlt4 := (Array.getElem?_eq_some_iff.1 hr4).1
      have hw4 := hb4.2.1.size
      clear hr4 HA2 c0 c1 c2 c3 c4 c5 c6 c7
      generalize wr.heap.size = R at *
      go_loopw [3, 37] (fun s3 s37 wr => ∃ (i : Nat) (v : Value), v = s3 ∧ i ≤ 4 ∧ s37 = .int .i64 (i : Nat) ∧ Owns wr w.heap.size 5 v (zigsB ns ++ textsB (ts.take i)) ∧ Below W4.heap.size W4 wr) (fun _ s37 _ => 4 - (intOf s37).toNat)
      case atStart => exact ⟨0, _, rfl, Nat.zero_le _, rfl, by rw [show textsB (ts.take 0) = [] from rfl, List.append_nil]; exact ho4, Below.refl _ _⟩
      case round =>
        clear ho4
        obtain ⟨i, v, hv, hi, rfl, ho2, hbr2⟩ := hrel
        subst hv
        by_cases hlt2 : i < 4
        · have cj := (hbr2.cell (p := ⟨R, i, none⟩) hlt4).trans (hc4 i hlt2)
          have Hst := textsB_snoc (l := ts) (j := i) (by rw [HT.out]; exact hlt2)
          have HST : Hid (textsB (ts.take (i + 1)) = textsB (ts.take i) ++ textB (ts.getD i em9)) := Hst
          have hxl := textsB_len (l := ts.take i) (m := 20000) fun s h => HS.out s (List.mem_of_mem_take h)
          have hxt : (ts.take i).length ≤ 4 := by rw [List.length_take]; omega
          have hsz : (ts.getD i em9).size ≤ 20000 := by
            refine HS.out _ ?_
            rw [List.getD_eq_getElem?_getD, List.getElem?_eq_getElem (by rw [HT.out]; exact hlt2)]
            exact List.getElem_mem _
          clear Hst
          generalize ts.getD i em9 = t at *
          have hpp := putText_any v _ t wr ho2.has (by rw [List.length_append]; omega) (by omega)
          have hbz2 := hbr2.size
          go_wp2_with fail
          refine hpp.mono ?_
          rintro e w3 ⟨v3, rfl, ho3, hb3⟩
          clear hpp
          go_wp2
          go_roundw
          case rel => exact ⟨i + 1, _, rfl, by omega, by go_num, by rw [HST.out, ← List.append_assoc]; exact ho3.mono (by omega), hbr2.trans (hb3.mono hbz2)⟩
          case measure => simp only [intOf]; omega
        · rw [List.take_of_length_le (by rw [HT.out]; omega)] at ho2
          have hb5 := hb4.below hbr2
          clear hc4 hb4
          go_wp2
          go_ret
          exact ⟨_, rfl, by rw [HC.out]; exact ho2, hb5.2.1⟩

end Go.Proofs.YtkbbhllchombdaaGreatDoor

namespace Go.Proofs.YtkbbhllchombdaaGreatDoor
open Go.RowKit
theorem frozen9 {W : World} {k : Nat} {c : Array Value} {t : TypeId} (h : W.heap[k]? = some (.cells c t (0, 0))) (j : Nat) : W.frozen? ⟨k, j, none⟩ = false := by simp [World.frozen?, h]
theorem set_block9 {w : World} {b : Nat} {c : Array Value} {t : TypeId} (h : w.heap[b]? = some (.cells c t (0, 0))) (i : Nat) (v : Value) (hi : i < c.size) : (w.setCell ⟨b, i, none⟩ v).heap[b]? = some (.cells (c.set i v hi) t (0, 0)) := by
  have hlt := (Array.getElem?_eq_some_iff.1 h).1
  have hg := (Array.getElem?_eq_some_iff.1 h).2
  simp only [World.setCell, Array.getElem?_modify, hlt, Array.getElem?_eq_getElem, hg]
  simp [Array.setIfInBounds, hi]

end Go.Proofs.YtkbbhllchombdaaGreatDoor

import Derived.Test.YthlelcmifolnfaaGreatDoorWaQTo
import Derived.Test.YthlelcmifolnfaaGreatDoorLxTo
import Derived.Test.YthlelcmifolnfaaGreatDoorRef8To
import Derived.Test.YthlelcmifolnfaaGreatDoorLd
namespace Go.Proofs.YthlelcmifolnfaaGreatDoor
open Go.RowKit Go.Shelf
theorem strOf_app (a b : List Int) : strOfNums a ++ strOfNums b = strOfNums (a ++ b) := by
  unfold strOfNums
  apply ByteArray.ext
  simp [ByteArray.data_append, List.map_append]
theorem strOf_sz (xs : List Int) : (strOfNums xs).size = xs.length := by simp [strOfNums, ByteArray.size]
set_option maxRecDepth 100000 in
set_option maxHeartbeats 2000000 in
theorem digits11_any (n : Nat) (hn : n < 10 ^ 18) (w : World) : Calls Tryz.prog 63 #[.int .i64 (n : Int)] w fun e w' => e = .returned (.string (strOfNums (digs11 20 n))) ∧ Below w.heap.size w w' := by
  have HD : Hid (digs11 20 n = digs11 20 n) := rfl
  generalize hR : digs11 20 n = R at *
  replace HD : Hid (digs11 20 n = R) := hR
  clear hR
  have hem : (⟨#[]⟩ : ByteArray) = strOfNums [] := by decide +kernel
  have hnn : n < 1000000000000000000 := hn
  go_enter Tryz.func63, Tryz.ntmps63
  go_wp2
  go_loopw [0, 3] (fun s0 s3 wr => ∃ (m f : Nat) (ds : List Int), s0 = .int .i64 (m : Nat) ∧ s3 = .string (strOfNums ds) ∧ m < 1000000000000000000 ∧ ds.length + f ≤ 20 ∧ Hid (R = digs11 (f + 1) m ++ ds) ∧ Hid (m < 10 ^ (f + 1)) ∧ Below w.heap.size w wr) (fun s0 _ _ => (intOf s0).toNat)
  case atStart => exact ⟨n, 19, [], rfl, by rw [hem], hnn, by simp, by rw [Hid, ← HD.out, List.append_nil], Nat.lt_of_lt_of_le hn (Nat.pow_le_pow_right (by omega) (by omega)), Below.refl _ _⟩
  case round =>
    obtain ⟨m, f, ds, rfl, rfl, hm, hl, HR, HB, hb⟩ := hrel
    obtain ⟨d, hd⟩ : ∃ d : Int, (48 : Int) + (m : Int) % 10 = d := ⟨_, rfl⟩
    have hd1 : 48 ≤ d ∧ d ≤ 57 := by omega
    have HS : Hid (digs11 (f + 1) m = (if m / 10 = 0 then [] else digs11 f (m / 10)) ++ [d]) := by
      rw [Hid, digs11, ← hd]
      congr 2
    have hqi : (m : Int) / 10 = ((m / 10 : Nat) : Int) := by omega
    have hlit : Has (wr.alloc (.cells #[.int .u8 d] 5)) (.slice (some ⟨wr.heap.size, 0, none⟩) 1 1) [d] := Has.lit wr [d] 5
    have hcv := hlit.conv (P := Tryz.prog) 25 5 9 Tryz.underlying25 Tryz.underlying5 Tryz.underlying9
    have hov : (strOfNums [d]).size + (strOfNums ds).size ≤ 1000000 := by rw [strOf_sz, strOf_sz]; simp; omega
    have hb2 := hb.alloc hb.size (.cells #[.int .u8 d] 5)
    clear hlit
    generalize hqm : m / 10 = qm at *
    have hq9 : qm < 1000000000000000000 := by omega
    have HQ : Hid (qm = 0 ∨ qm < m) := by
      rw [Hid]
      omega
    by_cases h0 : qm = 0
    · have HF : Hid (R = [d] ++ ds) := by rw [Hid, HR.out, HS.out, if_pos h0, List.nil_append]
      subst h0
      clear HR HS HB
      go_wp2
      go_ret
      exact ⟨by rw [HF.out, strOf_app]; rfl, hb2⟩
    · have HF : Hid (R = digs11 f qm ++ ([d] ++ ds)) := by rw [Hid, HR.out, HS.out, if_neg h0, List.append_assoc]
      have e0 : ((qm : Int) == 0) = false := by simpa using h0
      have HB2 : Hid (qm < 10 ^ f) := by
        have := HB.out
        rw [Hid]
        rw [Nat.pow_succ] at this
        omega
      have hf1 : 1 ≤ f := by
        rcases Nat.eq_zero_or_pos f with e | e
        · have := HB2.out; rw [e] at this; simp at this; omega
        · exact e
      clear HR HS HB
      go_wp2
      go_roundw
      case rel =>
        refine ⟨qm, f - 1, [d] ++ ds, ?_, by rw [strOf_app], hq9, ?_, ?_, ?_, hb2⟩
        · go_num
        · simp; omega
        · rw [show f - 1 + 1 = f by omega]; exact HF.out
        · rw [show f - 1 + 1 = f by omega]; exact HB2.out
      case measure =>
        rcases HQ.out with h | h
        · exact absurd h h0
        · simp only [intOf]; omega

theorem nats_at (x : ByteArray) (j : Nat) (h : j < x.size) : (natsOf x)[j]? = some (x[j].toNat : Int) := by
  unfold natsOf
  rw [List.getElem?_map, List.getElem?_eq_getElem (by simpa using h)]
  rfl
theorem nats_step (x : ByteArray) (b j : Nat) (hb : b ≤ j) (h : j < x.size) : ((natsOf x).drop b).take (j + 1 - b) = ((natsOf x).drop b).take (j - b) ++ [(x[j].toNat : Int)] := by
  have e : j + 1 - b = (j - b) + 1 := by omega
  rw [e, List.take_add_one, List.getElem?_drop, show b + (j - b) = j by omega, nats_at x j h]
  rfl
theorem nats_extract (x b : ByteArray) : ((x.extract 0 b.size).toList == b.toList) = decide ((natsOf x).take (natsOf b).length = natsOf b) := by
  rw [Lib.extract_toList, Lib.toList_data, natsOf_len, Bool.eq_iff_iff, beq_iff_eq, decide_eq_true_eq]
  unfold natsOf
  rw [← List.map_take]
  have hinj : ∀ l m : List UInt8, l.map (fun u => (u.toNat : Int)) = m.map (fun u => (u.toNat : Int)) → l = m := by
    intro l
    induction l with
    | nil => intro m h; cases m with | nil => rfl | cons _ _ => cases h
    | cons a l ih =>
      intro m h
      cases m with
      | nil => cases h
      | cons c m =>
        simp only [List.map_cons, List.cons.injEq] at h
        have : a = c := UInt8.toNat_inj.1 (by omega)
        rw [this, ih m h.2]
  constructor
  · intro h'
    rw [List.drop_zero] at h'
    simp only [Nat.sub_zero] at h'
    rw [h']
  · intro h'
    rw [List.drop_zero]
    simp only [Nat.sub_zero]
    exact hinj _ _ h'

theorem dig_all {l : List Int} : l.all dig11 = true ↔ isDig11 l := by
  rw [List.all_eq_true]
  refine ⟨fun h d hd => ?_, fun h d hd => ?_⟩
  · have := h d hd
    simp only [dig11, Bool.and_eq_true, decide_eq_true_eq] at this
    exact this
  · simp only [dig11, Bool.and_eq_true, decide_eq_true_eq]
    exact h d hd
theorem number_no {ok : Bool} {R : Int × Bool} (h : ok = false) (HR : Hid (ok = false → R = (0, false))) : Hid (R = (0, false)) := HR.out h
theorem digs_isB (f n : Nat) : isB8 (digs11 f n) := fun z hz => by
  have := digs_dig f n z hz
  omega
theorem nats_isB (x : ByteArray) : isB8 (natsOf x) := fun z hz => by
  unfold natsOf at hz
  obtain ⟨u, _, rfl⟩ := List.mem_map.1 hz
  have : u.toNat < 256 := u.toBitVec.isLt
  omega
theorem cat_eq (x b : ByteArray) (ds : List Int) (hd : isB8 ds) (h : (natsOf x).take b.size = natsOf b) : ((b ++ strOfNums ds).toList == x.toList) = decide (ds = (natsOf x).drop b.size) := by
  have hx : x = b ++ strOfNums ((natsOf x).drop b.size) := by
    have e := strOf_nats x
    rw [← List.take_append_drop b.size (natsOf x), h, ← strOf_app, strOf_nats] at e
    exact e.symm
  rw [Bool.eq_iff_iff, beq_iff_eq, toListC, decide_eq_true_eq]
  constructor
  · intro e
    have e1 : natsOf (b ++ strOfNums ds) = natsOf x := by rw [e]
    rw [← strOf_nats b, strOf_app, nats_strOf (fun z hz => (List.mem_append.1 hz).elim (nats_isB b z) (hd z))] at e1
    rw [← e1, ← natsOf_len b, List.drop_left]
  · intro e
    rw [e]
    exact hx.symm

set_option maxRecDepth 100000 in
set_option maxHeartbeats 4000000 in
theorem count11_any (x b : ByteArray) (hs : x.size ≤ maxLen) (hb : b.size ≤ 100) (w : World) : Calls Tryz.prog 60 #[.string x, .string b] w fun e w' => e = .returned (.tuple #[.int .i64 (number11 (natsOf b) (natsOf x)).1, .bool (number11 (natsOf b) (natsOf x)).2]) ∧ Below w.heap.size w w' := by
  unfold maxLen at hs
  have hlx := natsOf_len x
  have hlb := natsOf_len b
  have HN : Hid (isNum11 (natsOf b) (natsOf x) = false → number11 (natsOf b) (natsOf x) = (0, false)) := fun h => if_neg (by rw [h]; decide)
  have HI : Hid (isNum11 (natsOf b) (natsOf x) = (decide ((natsOf b).length < (natsOf x).length) && decide ((natsOf x).length ≤ (natsOf b).length + 9) && decide ((natsOf x).take (natsOf b).length = natsOf b) && ((natsOf x).drop (natsOf b).length).all dig11 && decide (1 ≤ valN11 ((natsOf x).drop (natsOf b).length)) && decide (digs11 20 (valN11 ((natsOf x).drop (natsOf b).length)) = (natsOf x).drop (natsOf b).length))) := rfl
  have HY : Hid (isNum11 (natsOf b) (natsOf x) = true → number11 (natsOf b) (natsOf x) = ((valN11 ((natsOf x).drop (natsOf b).length) : Int), true)) := fun h => if_pos h
  generalize isNum11 (natsOf b) (natsOf x) = ok at *
  generalize number11 (natsOf b) (natsOf x) = R at *
  rw [hlx, hlb] at HI
  by_cases h1 : x.size ≤ b.size
  · have HF : Hid (R = (0, false)) := HN.out (by rw [HI.out, decide_eq_false (p := b.size < x.size) (by omega)]; simp)
    go_enter Tryz.func60, Tryz.ntmps60
    go_wp2
    go_ret2
    exact ⟨by rw [HF.out]; rfl, Below.refl _ _⟩
  by_cases h2 : b.size + 9 < x.size
  · have HF : Hid (R = (0, false)) := HN.out (by rw [HI.out, decide_eq_false (p := x.size ≤ b.size + 9) (by omega)]; simp)
    go_enter Tryz.func60, Tryz.ntmps60
    go_wp2
    go_ret2
    exact ⟨by rw [HF.out]; rfl, Below.refl _ _⟩
  have he := nats_extract x b
  rw [hlb] at he
  by_cases h3 : (natsOf x).take b.size = natsOf b
  case neg =>
    have HF : Hid (R = (0, false)) := HN.out (by rw [HI.out, decide_eq_false h3]; simp)
    rw [decide_eq_false h3] at he
    go_enter Tryz.func60, Tryz.ntmps60
    go_wp2
    go_ret2
    exact ⟨by rw [HF.out]; rfl, Below.refl _ _⟩
  rw [decide_eq_true h3] at he
  rw [decide_eq_true (p := b.size < x.size) (by omega), decide_eq_true (p := x.size ≤ b.size + 9) (by omega), decide_eq_true h3, Bool.true_and, Bool.true_and, Bool.true_and] at HI
  have H3 : Hid ((natsOf x).take b.size = natsOf b) := h3
  clear h3
  rw [hlb] at HY
  generalize hD : (natsOf x).drop b.size = D at *
  have HD : Hid ((natsOf x).drop b.size = D) := hD
  have hDl : D.length = x.size - b.size := by rw [← hD, List.length_drop, hlx]
  have HR : Hid (ok = false → R = (0, false)) := HN.out
  clear hD hlx hlb HN
  have HDl : Hid (D.length = x.size - b.size) := hDl
  clear hDl
  go_enter Tryz.func60, Tryz.ntmps60
  go_wp2
  go_loop [6, 7] (fun s6 s7 => ∃ (m j : Nat), s6 = .int .i64 (m : Nat) ∧ s7 = .int .i64 (j : Nat) ∧ b.size ≤ j ∧ j ≤ x.size ∧ Hid (m = valN11 (D.take (j - b.size))) ∧ Hid ((D.take (j - b.size)).all dig11 = true)) (fun _ s7 => x.size - (intOf s7).toNat)
  case atStart => exact ⟨0, b.size, rfl, rfl, Nat.le_refl _, by omega, by rw [Hid, Nat.sub_self, List.take_zero]; rfl, by rw [Hid, Nat.sub_self, List.take_zero]; rfl⟩
  case round =>
    obtain ⟨m, j, rfl, rfl, hbj, hj, HM, HA⟩ := hrel
    have hm9 : m < 1000000000 := by
      rw [HM.out]
      refine Nat.lt_of_lt_of_le (valN_lt _ (dig_all.1 HA.out)) (Nat.pow_le_pow_right (n := 10) (by omega) (show _ ≤ 9 from ?_))
      rw [List.length_take]
      omega
    by_cases hlt : j < x.size
    · have HS : Hid (D.take (j + 1 - b.size) = D.take (j - b.size) ++ [(x[j].toNat : Int)]) := by
        rw [Hid, ← HD.out]; exact nats_step x b.size j hbj hlt
      have hc8 : x[j].toNat < 256 := x[j].toBitVec.isLt
      generalize hxc : x[j].toNat = c at *
      by_cases hc : 48 ≤ c ∧ c ≤ 57
      case neg =>
        have HF : Hid (R = (0, false)) := by
          have hd : dig11 (c : Int) = false := by
            unfold dig11
            rw [Bool.and_eq_false_iff, decide_eq_false_iff_not, decide_eq_false_iff_not]
            omega
          have ha : D.all dig11 = false := by
            rw [← List.take_append_drop (j + 1 - b.size) D, List.all_append, HS.out, List.all_append]
            simp [hd]
          have ho : ok = false := by rw [HI.out, ha]; simp
          rw [Hid]
          exact (number_no ho HR).out
        by_cases hc1 : c < 48
        · go_wp2
          go_ret2
          exact ⟨by rw [HF.out]; rfl, Below.refl _ _⟩
        · have hc2 : 57 < c := by omega
          go_wp2
          go_ret2
          exact ⟨by rw [HF.out]; rfl, Below.refl _ _⟩
      case pos =>
        obtain ⟨hc1, hc2⟩ := hc
        clear HI HY HR
        go_wp2
        go_round
        case rel =>
          refine ⟨10 * m + (c - 48), j + 1, ?_, ?_, by omega, by omega, ?_, ?_⟩
          · go_num
          · go_num
          · rw [Hid, HS.out, valN_snoc, ← HM.out]; omega
          · rw [Hid, HS.out, List.all_append, HA.out]
            simp [dig11]
            omega
        case measure => simp only [intOf]; omega
    · have hje : j = x.size := by omega
      have hT : D.take (j - b.size) = D := List.take_of_length_le (by rw [HDl.out]; omega)
      rw [hT] at HM HA
      rw [HA.out, Bool.true_and, ← HM.out] at HI
      have HM2 : Hid (valN11 D = m) := HM.out.symm
      have hcat := cat_eq x b (digs11 20 m) (digs_isB 20 m) H3.out
      rw [HD.out] at hcat
      have kd := digits11_any m (by have : (10 : Nat) ^ 9 ≤ 10 ^ 18 := Nat.pow_le_pow_right (by omega) (by omega); omega) w
      have hl20 := digs_len 20 m (Nat.lt_of_lt_of_le hm9 (show 1000000000 ≤ 10 ^ 20 by decide))
      have hov : b.size + (strOfNums (digs11 20 m)).size ≤ 1000000 := by rw [strOf_sz]; omega
      generalize digs11 20 m = ds at *
      subst hje
      clear HM HA HD HDl
      by_cases hm1 : m < 1
      · have HF : Hid (R = (0, false)) := by
          rw [decide_eq_false (by omega : ¬ 1 ≤ m), Bool.false_and] at HI
          rw [Hid]
          exact (number_no HI.out HR).out
        go_wp2
        go_ret2
        exact ⟨by rw [HF.out]; rfl, Below.refl _ _⟩
      rw [decide_eq_true (by omega : 1 ≤ m), Bool.true_and] at HI
      by_cases hE : ds = D
      · have HF : Hid (R = ((m : Int), true)) := by
          rw [decide_eq_true hE] at HI
          rw [Hid, HY.out HI.out, HM2.out]
        rw [decide_eq_true hE] at hcat
        clear hE HI HY
        go_wp2_with fail
        refine kd.mono ?_
        rintro _ w1 ⟨rfl, hb1⟩
        go_wp2
        go_ret2
        exact ⟨by rw [HF.out]; rfl, hb1⟩
      · have HF : Hid (R = (0, false)) := by
          rw [decide_eq_false hE] at HI
          rw [Hid]
          exact (number_no HI.out HR).out
        rw [decide_eq_false hE] at hcat
        clear hE HI HY
        go_wp2_with fail
        refine kd.mono ?_
        rintro _ w1 ⟨rfl, hb1⟩
        go_wp2
        go_ret2
        exact ⟨by rw [HF.out]; rfl, hb1⟩

end Go.Proofs.YthlelcmifolnfaaGreatDoor

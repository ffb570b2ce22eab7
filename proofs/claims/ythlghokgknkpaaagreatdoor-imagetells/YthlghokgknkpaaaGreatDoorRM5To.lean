import Derived.Test.YthlghokgknkpaaaGreatDoorImFTo
import Derived.Test.YthlghokgknkpaaaGreatDoorRef3To
import Derived.Deep.RegionHeld3
import Derived.Test.YthlghokgknkpaaaGreatDoorImQTo
import Derived.Test.YthlghokgknkpaaaGreatDoorSwB3To
import Derived.Test.YthlghokgknkpaaaGreatDoorSwEsTo
/-
  Contracts: corbelref07.Cut, corbelref07.Bytes.
-/
namespace Go.Proofs.YthlghokgknkpaaaGreatDoor
open Go.RowKit Go.Shelf Go.Lib

/-- Is a key in a range? -/
def inR (k f u : ByteArray) : Bool := !ltT k f && (decide (u = ⟨#[]⟩) || ltT k u)
theorem cut_snoc (a : List (ByteArray × ByteArray)) (x : ByteArray × ByteArray) (f u : ByteArray) (n : Int) : cutL (a ++ [x]) f u n = if inR x.1 f u = true ∧ ((cutL a f u n).length : Int) < n then cutL a f u n ++ [x] else cutL a f u n := by
  unfold cutL
  rw [List.filter_append]
  generalize a.filter _ = A
  have hp : List.filter (fun p : ByteArray × ByteArray => !ltT p.1 f && (decide (u = ⟨#[]⟩) || ltT p.1 u)) [x] = if inR x.1 f u = true then [x] else [] := by
    unfold inR
    rw [List.filter_cons, List.filter_nil]
  rw [hp]
  by_cases h1 : inR x.1 f u = true
  · rw [if_pos h1]
    by_cases h2 : ((A.take n.toNat).length : Int) < n
    · rw [if_pos ⟨h1, h2⟩]
      rw [List.length_take] at h2
      have hA : A.length < n.toNat := by omega
      rw [List.take_of_length_le (l := A ++ [x]) (by rw [List.length_append, List.length_singleton]; omega), List.take_of_length_le (l := A) (by omega)]
    · rw [if_neg (fun h => h2 h.2)]
      rw [List.length_take] at h2
      rw [List.take_append_of_le_length (by omega)]
  · rw [if_neg h1, if_neg (fun h => h1 h.1), List.append_nil]

set_option maxRecDepth 100000 in
set_option maxHeartbeats 1500000 in
theorem rcut_any (v : Value) (l : List (ByteArray × ByteArray)) (f u : ByteArray) (n : Int) (w : World) (hx : HasP w v l) (hl : l.length ≤ 1073741824) :
    Calls Tryz.prog 18 #[v, .string f, .string u, .int .i64 n] w fun e w' => ∃ v', e = .returned v' ∧ OwnsP w' w.heap.size v' (cutL l f u n) ∧ Below w.heap.size w w' := by
  obtain ⟨i1, hi1, hz1, hs1, hb1⟩ := info_parts infoP
  obtain ⟨p, c, rfl, -, -, -⟩ := id hx
  have HX : Hid (HasP w (.slice p l.length c) l) := hx
  clear hx
  generalize hN : l.length = N at *
  have HN : Hid (l.length = N) := hN
  clear hN
  go_enter Tryz.func18, Tryz.ntmps18
  go_wp2
  go_loopw [9, 14] (fun s9 s14 wr => ∃ (j : Nat) (v : Value), v = s9 ∧ j ≤ N ∧ s14 = .int .i64 (j : Nat) ∧ OwnsP wr w.heap.size v (cutL (l.take j) f u n) ∧ Below w.heap.size w wr) (fun _ s14 _ => N - (intOf s14).toNat)
  case atStart => exact ⟨0, _, rfl, Nat.zero_le _, rfl, by rw [List.take_zero, show cutL [] f u n = [] by simp [cutL]]; exact OwnsP.nil0 _ _, Below.refl _ _⟩
  case round =>
    obtain ⟨j, v, hv, hj, rfl, ho, hbr⟩ := hrel
    subst hv
    by_cases hlt : j < N
    · obtain ⟨bb, oo, rfl, hbb, hcc, -, c1, c2⟩ := (HX.out.below hbr (Nat.le_refl _)).at (j := j) hlt
      have hjx : j < l.length := by rw [HN.out]; exact hlt
      have Hc := cut_snoc (l.take j) (l.getD j default) f u n
      rw [ptake_snoc hjx] at Hc
      have hcl : (cutL (l.take j) f u n).length ≤ j := by
        unfold cutL
        refine Nat.le_trans (List.length_take_le' _ _) (Nat.le_trans (List.length_filter_le _ _) ?_)
        rw [List.length_take]; omega
      generalize l.getD j default = x at *
      obtain ⟨xk, xv⟩ := x
      dsimp only at c1 c2 Hc
      have HC : Hid (cutL (l.take (j + 1)) f u n = if inR xk f u = true ∧ ((cutL (l.take j) f u n).length : Int) < n then cutL (l.take j) f u n ++ [(xk, xv)] else cutL (l.take j) f u n) := Hc
      clear Hc hjx
      have hbz := hbr.size
      have hbA : Below w.heap.size w (wr.alloc (.cells #[.string xk, .string xv] 35)) := hbr.alloc hbz _
      have hoB := World.ownsRow.alloc ho (.cells #[.string xk, .string xv] 35)
      have hbox := heap_alloc_new wr (.cells #[.string xk, .string xv] 35)
      have hzA : (wr.alloc (.cells #[.string xk, .string xv] 35)).heap.size = wr.heap.size + 1 := by simp
      generalize hA0 : cutL (l.take j) f u n = A at *
      obtain ⟨pv, cv, rfl, -, -, -⟩ := id ho.has
      have HA0 : Hid (cutL (l.take j) f u n = A) := hA0
      clear hA0
      have hskip : Hid (inR xk f u = false ∨ ¬ ((A.length : Int) < n)) ∨ Hid (inR xk f u = true ∧ (A.length : Int) < n) := by
        by_cases h1 : inR xk f u = true
        · by_cases h2 : (A.length : Int) < n
          · exact .inr ⟨h1, h2⟩
          · exact .inl (.inr h2)
        · exact .inl (.inl (by simpa using h1))
      have hu0 : (u = ⟨#[]⟩ ∧ u.toList.isEmpty = true) ∨ (u ≠ ⟨#[]⟩ ∧ u.toList.isEmpty = false) := by
        by_cases h : u = ⟨#[]⟩
        · refine .inl ⟨h, ?_⟩
          rw [h, Lib.toList_data]; rfl
        · exact .inr ⟨h, not_empty h⟩
      have go : ∀ r1 r2 r3 : Bool, Op.bytesLess xk.toList f.toList = r1 → u.toList.isEmpty = r2 → Op.bytesLess xk.toList u.toList = r3 → inR xk f u = (!r1 && (r2 || r3)) := fun r1 r2 r3 h1 h2 h3 => by
        unfold inR ltT
        rw [h1, h3]
        rcases hu0 with ⟨e, h⟩ | ⟨e, h⟩
        · rw [h] at h2; subst h2; rw [decide_eq_true e]
        · rw [h] at h2; subst h2; rw [decide_eq_false e]
      clear hu0
      cases h1 : Op.bytesLess xk.toList f.toList with
      | true =>
        have hI := go true _ _ h1 rfl rfl
        have HF : Hid (cutL (l.take (j + 1)) f u n = A) := by
          show _ = _
          rw [HC.out, if_neg (fun h => by rw [hI] at h; simp at h)]
        clear hI go hskip HC
        go_wp2
        go_roundw
        case rel => exact ⟨j + 1, _, rfl, by omega, by go_num, by rw [HF.out]; exact hoB, hbA⟩
        case measure => simp only [intOf]; omega
      | false =>
        cases h2 : u.toList.isEmpty with
        | true =>
          have hI := go false true _ h1 h2 rfl
          rw [show (!false && (true || Op.bytesLess xk.toList u.toList)) = true by simp] at hI
          by_cases h3 : (A.length : Int) < n
          · have HF : Hid (cutL (l.take (j + 1)) f u n = A ++ [(xk, xv)]) := by
              show _ = _
              rw [HC.out, if_pos ⟨hI, h3⟩]
            clear hI go hskip HC
            go_wp2_with (at_builtin; refine wpList_append_own _ rfl _ _ 25 rfl w.heap.size 35 i1 (.agg #[.string ⟨#[]⟩, .string ⟨#[]⟩]) 2 32 Tryz.underlying25 hi1 hz1 hs1 hb1 rfl (by decide) (.slice pv A.length cv) A.length (pairsV A) rfl (by exact World.ownsRow.alloc hoB _) ⟨wr.heap.size + 1, 0, none⟩ 1 1 [.string xk, .string xv] rfl rfl (by have := new_two (wr.alloc (.cells #[.string xk, .string xv] 35)) (.string xk) (.string xv) 35; rw [hzA] at this; exact this) (by simp [Value.oneCell']) (by unfold maxLen; omega) (by omega) (by simp; omega) ?_; intro v5 w5 ho5 hg5 _)
            go_roundw
            case rel =>
              refine ⟨j + 1, _, rfl, by omega, by go_num, ?_, (hbA.alloc (by omega) _).grown hg5 (by simp; omega) fun k hk => (World.ownsRow.lt ho k hk).1⟩
              rw [HF.out]
              unfold OwnsP
              rw [List.length_append, List.length_singleton, pairsV_append]
              exact ho5
            case measure => simp only [intOf]; omega
          · have HF : Hid (cutL (l.take (j + 1)) f u n = A) := by
              show _ = _
              rw [HC.out, if_neg (fun h => h3 h.2)]
            clear hI go hskip HC
            go_wp2
            go_roundw
            case rel => exact ⟨j + 1, _, rfl, by omega, by go_num, by rw [HF.out]; exact hoB, hbA⟩
            case measure => simp only [intOf]; omega
        | false =>
          cases h4 : Op.bytesLess xk.toList u.toList with
          | false =>
            have hI := go false false false h1 h2 h4
            have HF : Hid (cutL (l.take (j + 1)) f u n = A) := by
              show _ = _
              rw [HC.out, if_neg (fun h => by rw [hI] at h; simp at h)]
            clear hI go hskip HC
            go_wp2
            go_roundw
            case rel => exact ⟨j + 1, _, rfl, by omega, by go_num, by rw [HF.out]; exact hoB, hbA⟩
            case measure => simp only [intOf]; omega
          | true =>
            have hI := go false false true h1 h2 h4
            rw [show (!false && (false || true)) = true by rfl] at hI
            by_cases h3 : (A.length : Int) < n
            · have HF : Hid (cutL (l.take (j + 1)) f u n = A ++ [(xk, xv)]) := by
                show _ = _
                rw [HC.out, if_pos ⟨hI, h3⟩]
              clear hI go hskip HC
              go_wp2_with (at_builtin; refine wpList_append_own _ rfl _ _ 25 rfl w.heap.size 35 i1 (.agg #[.string ⟨#[]⟩, .string ⟨#[]⟩]) 2 32 Tryz.underlying25 hi1 hz1 hs1 hb1 rfl (by decide) (.slice pv A.length cv) A.length (pairsV A) rfl (by exact World.ownsRow.alloc hoB _) ⟨wr.heap.size + 1, 0, none⟩ 1 1 [.string xk, .string xv] rfl rfl (by have := new_two (wr.alloc (.cells #[.string xk, .string xv] 35)) (.string xk) (.string xv) 35; rw [hzA] at this; exact this) (by simp [Value.oneCell']) (by unfold maxLen; omega) (by omega) (by simp; omega) ?_; intro v5 w5 ho5 hg5 _)
              go_roundw
              case rel =>
                refine ⟨j + 1, _, rfl, by omega, by go_num, ?_, (hbA.alloc (by omega) _).grown hg5 (by simp; omega) fun k hk => (World.ownsRow.lt ho k hk).1⟩
                rw [HF.out]
                unfold OwnsP
                rw [List.length_append, List.length_singleton, pairsV_append]
                exact ho5
              case measure => simp only [intOf]; omega
            · have HF : Hid (cutL (l.take (j + 1)) f u n = A) := by
                show _ = _
                rw [HC.out, if_neg (fun h => h3 h.2)]
              clear hI go hskip HC
              go_wp2
              go_roundw
              case rel => exact ⟨j + 1, _, rfl, by omega, by go_num, by rw [HF.out]; exact hoB, hbA⟩
              case measure => simp only [intOf]; omega
    · obtain rfl : j = N := by omega
      rw [show l.take j = l by rw [← HN.out, List.take_length]] at ho
      go_wp2
      go_ret
      exact ⟨_, rfl, ho, hbr⟩

/-- Two cells of a box, and all that is old, as it was. -/
theorem keepD {X w1 w2 : World} {s : Nat} {v0 v1 : Value} (hs : s < X.heap.size) (hb : Below w1.heap.size w1 w2) (h : w1.cell? ⟨s, 0, none⟩ = some v0 ∧ w1.cell? ⟨s, 1, none⟩ = some v1 ∧ Below X.heap.size X w1) : w2.cell? ⟨s, 0, none⟩ = some v0 ∧ w2.cell? ⟨s, 1, none⟩ = some v1 ∧ Below X.heap.size X w2 := by
  obtain ⟨h1, h2, h4⟩ := h
  have := h4.size
  exact ⟨(hb.cell (p := ⟨s, 0, none⟩) (by show s < _; omega)).trans h1, (hb.cell (p := ⟨s, 1, none⟩) (by show s < _; omega)).trans h2, h4.trans (hb.mono h4.size)⟩
theorem heldD {a b c : Prop} (h : a ∧ b ∧ c) : c := h.2.2

set_option maxRecDepth 100000 in
set_option maxHeartbeats 1500000 in
theorem rbytes_any (v : Value) (l : List (ByteArray × ByteArray)) (w : World) (hx : HasP w v l) (hl : l.length ≤ 2000) (hs : ∀ p ∈ l, p.1.size ≤ 131072 ∧ p.2.size ≤ 131072) :
    Calls Tryz.prog 21 #[v] w fun e w' => ∃ v', e = .returned v' ∧ Owns w' w.heap.size 5 v' (expB l) ∧ Below w.heap.size w w' := by
  obtain ⟨p, c, rfl, -, -, -⟩ := id hx
  have hput := rput_cod (.slice none 0 0) [] (l.length : Int) w (Has.nil w) (by simp) (by omega) (by omega)
  rw [List.nil_append] at hput
  have hnb := numB_le l.length
  have hwr : IntKind.u64.wrap (l.length : Int) = (l.length : Int) := by
    simp [IntKind.wrap, IntKind.bits, IntKind.signed]; omega
  have HX : Hid (HasP w (.slice p l.length c) l) := hx
  have Hs : Hid (∀ p ∈ l, p.1.size ≤ 131072 ∧ p.2.size ≤ 131072) := hs
  clear hx hs
  go_enter Tryz.func21, Tryz.ntmps21
  go_wp2_with fail
  refine hput.mono ?_
  rintro e w2 ⟨v2, rfl, ho2, hb2⟩
  clear hput hwr
  generalize hN : l.length = N at *
  have HN : Hid (l.length = N) := hN
  clear hN
  go_wp2
  go_loopw [3, 12] (fun s3 i wr => ∃ (j : Nat) (u : Value), u = s3 ∧ j ≤ N ∧ i = .int .i64 (j : Nat) ∧ Owns wr w.heap.size 5 u (numB (N : Int) ++ pairsB (l.take j)) ∧ Below w.heap.size w wr) (fun _ i _ => N - (intOf i).toNat)
  case atStart => exact ⟨0, _, rfl, Nat.zero_le _, rfl, by rw [List.take_zero]; simpa [pairsB] using ho2, hb2⟩
  case round =>
    clear ho2 hb2
    obtain ⟨j, u, hu, hj, rfl, hr, hbr⟩ := hrel
    subst hu
    by_cases hlt : j < N
    · obtain ⟨bb, oo, rfl, hbb, hcc, -, c1, c2⟩ := (HX.out.below hbr (Nat.le_refl _)).at (j := j) hlt
      have hjx : j < l.length := by rw [HN.out]; exact hlt
      have Ht : Hid (l.take j ++ [l.getD j default] = l.take (j + 1)) := ptake_snoc hjx
      have hszs := Hs.out _ (pgetD_mem hjx)
      have hpl : (numB (N : Int) ++ pairsB (l.take j)).length ≤ 600000000 := by
        have h1 := pairsB_length (m := 131072) (l := l.take j) fun p hp => Hs.out p (List.mem_of_mem_take hp)
        have h2 : (l.take j).length ≤ 2000 := by rw [List.length_take]; omega
        have h3 := Nat.mul_le_mul_right (2 * 131072 + 18) h2
        rw [List.length_append]
        omega
      clear hjx
      generalize l.getD j default = x at *
      obtain ⟨xk, xv⟩ := x
      dsimp only at c1 c2 hszs
      have hbz := hbr.size
      have hA : Below w.heap.size w (wr.alloc (.cells #[.string xk, .string xv] 35)) := hbr.alloc hbz _
      have hrA : Has (wr.alloc (.cells #[.string xk, .string xv] 35)) u (numB (N : Int) ++ pairsB (l.take j)) := hr.has.below ((Below.refl _ _).alloc (Nat.le_refl _) _) (Nat.le_refl _)
      have ck := heap_alloc_new wr (.cells #[.string xk, .string xv] 35)
      have hzA : (wr.alloc (.cells #[.string xk, .string xv] 35)).heap.size = wr.heap.size + 1 := by simp
      generalize hLs : numB (N : Int) ++ pairsB (l.take j) = ys at *
      have HLs : Hid (numB (N : Int) ++ pairsB (l.take j) = ys) := hLs
      clear hLs
      go_wp2_with fail
      generalize wr.alloc (.cells #[.string xk, .string xv] 35) = wa at *
      generalize wr.heap.size = sb at *
      have d0 : wa.cell? ⟨sb, 0, none⟩ = some (.string xk) := by unfold World.cell?; dsimp only; rw [ck]; rfl
      have d1 : wa.cell? ⟨sb, 1, none⟩ = some (.string xv) := by unfold World.cell?; dsimp only; rw [ck]; rfl
      have s0 : wa.drew.cell? ⟨sb, 0, none⟩ = some (.string xk) ∧ wa.drew.cell? ⟨sb, 1, none⟩ = some (.string xv) ∧ Below wa.heap.size wa wa.drew := ⟨d0, d1, ⟨rfl, rfl, rfl, Nat.le_refl _, fun _ _ => rfl⟩⟩
      have hsl : sb < wa.heap.size := by omega
      have hlk := textB_length xk
      have hT1 : ∀ W, Below wa.heap.size wa W → Calls Tryz.prog 57 #[u, .string xk] W fun e w' => ∃ v', e = .returned v' ∧ Owns w' W.heap.size 5 v' (ys ++ textB xk) ∧ Below W.heap.size W w' := fun W hW => rputText_any u ys xk W (hrA.below hW (Nat.le_refl _)) (by omega) (by omega)
      have hT2 : ∀ W v', Has W v' (ys ++ textB xk) → Calls Tryz.prog 57 #[v', .string xv] W fun e w' => ∃ v', e = .returned v' ∧ Owns w' W.heap.size 5 v' (ys ++ textB xk ++ textB xv) ∧ Below W.heap.size W w' := fun W v' hv' => rputText_any v' (ys ++ textB xk) xv W hv' (by rw [List.length_append]; omega) (by omega)
      clear c1 c2 hr hbr ck d0 d1
      go_region_held3 (fun w' => w'.cell? ⟨sb, 0, none⟩ = some (.string xk) ∧ w'.cell? ⟨sb, 1, none⟩ = some (.string xv) ∧ Below wa.heap.size wa w')
        (first | exact s0 | assumption | exact keepD hsl (by assumption) (by assumption))
        (first
          | (go_at_call 57; with_reducible refine Calls.mono (hT1 _ (heldD (by assumption))) ?_; rintro e w7 ⟨v7, rfl, ho7, hb7⟩)
          | (go_at_call 57; with_reducible refine Calls.mono (hT2 _ _ ho7.has) ?_; rintro e w8 ⟨v8, rfl, ho8, hb8⟩))
      have hbw : Below wa.heap.size wa w8 := heldD (by assumption)
      have hA8 := hA.trans (hbw.mono hA.size)
      go_wp2
      go_roundw
      case rel =>
        refine ⟨j + 1, _, rfl, by omega, by go_num, ?_, hA8⟩
        rw [← Ht.out, pairsB_snoc, ← List.append_assoc, ← List.append_assoc, HLs.out]
        refine ho8.mono ?_
        have e1 := hA.size
        have e2 := hb7.size
        have e3 : wa.drew.heap.size = wa.heap.size := rfl
        omega
      case measure => simp only [intOf]; omega
    · obtain rfl : j = N := by omega
      go_wp2
      go_ret
      refine ⟨_, rfl, ?_, hbr⟩
      unfold expB
      rw [HN.out]
      rw [show l.take j = l by rw [← HN.out, List.take_length]] at hr
      exact hr
end Go.Proofs.YthlghokgknkpaaaGreatDoor

/-
  Contracts: corbelref05's Delete.
-/
namespace Go.Proofs.YthlghokgknkpaaaGreatDoor
open Go.RowKit Go.Shelf

set_option maxRecDepth 100000 in
set_option maxHeartbeats 4000000 in
theorem rdelete_any (b bw bs : Nat) (M : SM) (key : ByteArray) (w : World) (h : Lies 63 76 w b bw bs M) (hS : M.Sane IsV_s) (hk : key.size < 140737488355328) :
    Calls Tryz.prog 13 #[.pointer (some ⟨b, 0, none⟩), .string key] w fun e w' => e = .returned (.bool (M.del key (.string ⟨#[]⟩)).1) ∧ Lies 63 76 w' b bw bs (M.del key (.string ⟨#[]⟩)).2 ∧ But [b, bw, bs] w w' := by
  have hF := hS.fit
  have hr := good_range hF.good
  have hfew := hF.few
  have hfind := rfind_any b bw bs M key w h hF hk
  cases hfd : M.find key with
  | none =>
    have hdel : M.del key (.string ⟨#[]⟩) = (false, M) := by unfold SM.del; rw [hfd]
    rw [hdel]
    rw [hfd] at hfind
    clear hfd hdel
    go_enter Tryz.func13, Tryz.ntmps13
    go_wp2_with fail
    refine hfind.mono ?_
    rintro e w1 ⟨rfl, hb⟩
    clear hfind
    go_wp2
    go_ret
    exact ⟨rfl, h.below hb (Nat.le_refl _), But.of_below hb (Nat.le_refl _)⟩
  | some p =>
    obtain ⟨hp1, hp2, hp3, hkey⟩ := find_some hF hfd
    clear hkey
    have hwl := M.what_lt key
    have hn1 : 1 ≤ M.n := hS.some (p / 8) (p % 8) hp2 (Nat.mod_lt _ (by decide)) (by omega)
    obtain ⟨g, i, rfl, hi⟩ : ∃ g i, p = 8 * g + i ∧ i < 8 := ⟨p / 8, p % 8, by omega, Nat.mod_lt _ (by decide)⟩
    have hdel : M.del key (.string ⟨#[]⟩) = (true, { M with ws := M.ws.set g (putN (M.w g) i (if hasE (M.w g) then 128 else 254)), ss := M.ss.set (8 * g + i) (ByteArray.empty, (.string ⟨#[]⟩)), n := M.n - 1, t := if hasE (M.w g) then M.t else M.t + 1 }) := by
      unfold SM.del; rw [hfd]; simp only
      rw [show (8 * g + i) / 8 = g by omega, show (8 * g + i) % 8 = i by omega]
    rw [hdel]
    rw [show (8 * g + i) / 8 = g by omega] at hp2
    rw [hfd] at hfind
    simp only [Int.natCast_add, Int.natCast_mul, Int.cast_ofNat_Int] at hfind
    have hE := hasE_match (M.w g)
    have hwd := hF.words g hp2
    clear hfd hdel hp3
    generalize hwd0 : M.w g = wd at *
    have h8 : (8 * (g : Int) + i) / 8 = g := by omega
    have h9 : (8 * (g : Int) + i) % 8 = i := by omega
    have hs8 := hF.slots
    have hi1 : 8 * (g : Int) + i < M.ss.length := by omega
    have hi0 : 8 * (g : Int) + i ≠ -1 := by omega
    have hi2 : ¬ (8 * (g : Int) + i) < 0 := by omega
    have hm2 := matchN_lt wd 128
    have hwd1 : Hid (M.w g = wd) := hwd0
    by_cases hem : matchN wd 128 = 0
    · have hE' : hasE wd = false := by rw [hE, decide_eq_true hem]; rfl
      clear hE
      simp only [hE', Bool.false_eq_true, if_false]
      clear hE'
      have hd254 : (254 : Nat) < 256 := by decide
      go_enter Tryz.func13, Tryz.ntmps13
      go_wp2_with fail
      refine hfind.mono ?_
      rintro e w1 ⟨rfl, hb⟩
      have hl := h.below hb (Nat.le_refl _)
      obtain ⟨dw, ds, _, _, k2, k3, k4, k5, hdw, hds⟩ := hl.cells
      have kw := hl.word g hp2
      rw [hwd0] at kw
      have f5 := hl.free 5
      have hbut : But [b, bw, bs] w w1 := But.of_below hb (Nat.le_refl _)
      clear hfind hs8 hwd0
      go_wp2_with (go_at_call 43; refine same_mono (rmatch_any wd 128 _ hwd) ?_; rw [hem])
      have L1 := hl.setT (M.t + 1)
      rw [show ((M.t + 1 : Nat) : Int) = (M.t : Int) + 1 by omega] at L1
      replace hbut := hbut.setCell (p := ⟨b, 5, none⟩) (.inl (by simp)) (.int .i64 ((M.t : Int) + 1))
      clear k2 k3 k4 k5 f5 hl kw
      generalize w1.setCell ⟨b, 5, none⟩ (.int .i64 ((M.t : Int) + 1)) = w2 at *
      obtain ⟨M1, hM10⟩ : ∃ M1 : SM, M1 = { M with t := M.t + 1 } := ⟨_, rfl⟩
      have hM1 : M1.w g = wd := by rw [hM10]; exact hwd1.out
      have hM1n : M1.n = M.n := by rw [hM10]
      rw [← hM10] at L1
      have hp1' : 8 * g + i < M1.ss.length := by rw [hM10]; exact hp1
      have hp2' : g < M1.ws.length := by rw [hM10]; exact hp2
      obtain ⟨w1', s1', _, _, m2, m3, m4, m5, hw1, hs1⟩ := L1.cells
      have hne := L1.ne
      have fw := L1.freeW g
      have kw1 := L1.word g hp2'
      have hM1w : M1.w g = wd := hM1
      rw [hM1w] at kw1
      have ks1 := L1.key (8 * g + i) hp1'
      have ks2 := L1.val (8 * g + i) hp1'
      have fs1 := L1.freeS ((8 * g + i) * 2)
      have fs2 := L1.freeS ((8 * g + i) * 2 + 1)
      have fn1 := L1.free 4
      have hj1 : 8 * (g : Int) + i < M1.ss.length := by omega
      have hj2 : M1.n ≤ 1099511627776 := by rw [hM1n]; omega
      have hni : Hid (((M1.n - 1 : Nat) : Int) = (M1.n : Int) - 1) := by
        show _ = _
        rw [hM1n]; omega
      have HM10 : Hid (M1 = _) := hM10
      clear hM10 hM1 hM1n hM1w h8 hi0 hi2
      refine wp_last (by kernel_rfl) (by kernel_rfl) ?_
      dsimp only [initL, lastL]
      repeat (go_big_quiet_step ((go_at_call 44; exact Calls.quiet_of_same (rset_any wd (8 * (g : Int) + i) i 254 h9 _ hwd (by omega)))))
      refine wpQuiet_nil ?_
      rintro _ ⟨nq, rfl⟩
      gi_wp2
      have L2 := (L1.drewN nq).setW g (putN wd i 254)
      have hbut2 := (hbut.drewN nq).setCell (p := ⟨bw, g, none⟩) (.inl (by simp)) (.int .u64 ((putN wd i 254 : Nat) : Int))
      generalize (w2.drewN nq).setCell ⟨bw, g, none⟩ (.int .u64 ((putN wd i 254 : Nat) : Int)) = w3 at *
      obtain ⟨w1'', s1'', _, _, n2, n3, n4, n5, _, _⟩ := L2.cells
      have ks1' := L2.key (8 * g + i) hp1'
      have ks2' := L2.val (8 * g + i) hp1'
      have fs1' := L2.freeS ((8 * g + i) * 2)
      have fs2' := L2.freeS ((8 * g + i) * 2 + 1)
      have fn1' := L2.free 4
      clear m2 m3 m4 m5 ks1 ks2 fs1 fs2 fn1 fw kw1 hw1 hs1 hbut
      go_wp2
      go_ret
      refine ⟨rfl, ?_, ?_⟩
      · have hfin := (L2.setS (8 * g + i) ByteArray.empty (.string ⟨#[]⟩)).setN (M1.n - 1)
        rw [hni.out] at hfin
        have hM10 := HM10.out
        subst hM10
        exact hfin
      · exact (((hbut2.setCell (p := ⟨bs, (8 * g + i) * 2, none⟩) (.inl (by simp)) _).setCell (p := ⟨bs, (8 * g + i) * 2 + 1, none⟩) (.inl (by simp)) _).setCell (p := ⟨b, 4, none⟩) (.inl (by simp)) _)
    · have hE' : hasE wd = true := by rw [hE, decide_eq_false hem]; rfl
      clear hE
      simp only [hE', if_true]
      clear hE'
      have hem' : (matchN wd 128 : Int) ≠ 0 := by omega
      go_enter Tryz.func13, Tryz.ntmps13
      go_wp2_with fail
      refine hfind.mono ?_
      rintro e w1 ⟨rfl, hb⟩
      have hl := h.below hb (Nat.le_refl _)
      obtain ⟨dw, ds, _, _, k2, k3, k4, k5, hdw, hds⟩ := hl.cells
      have kw := hl.word g hp2
      rw [hwd0] at kw
      have f5 := hl.free 5
      have hbut : But [b, bw, bs] w w1 := But.of_below hb (Nat.le_refl _)
      clear hfind hs8 hwd0
      go_wp2_with (go_at_call 43; refine same_mono (rmatch_any wd 128 _ hwd) ?_)
      have L1 := hl
      clear k2 k3 k4 k5 f5 hl kw
      obtain ⟨M1, hM10⟩ : ∃ M1 : SM, M1 = M := ⟨_, rfl⟩
      have hM1 : M1.w g = wd := by rw [hM10]; exact hwd1.out
      have hM1n : M1.n = M.n := by rw [hM10]
      rw [← hM10] at L1
      have hp1' : 8 * g + i < M1.ss.length := by rw [hM10]; exact hp1
      have hp2' : g < M1.ws.length := by rw [hM10]; exact hp2
      obtain ⟨w1', s1', _, _, m2, m3, m4, m5, hw1, hs1⟩ := L1.cells
      have hne := L1.ne
      have fw := L1.freeW g
      have kw1 := L1.word g hp2'
      have hM1w : M1.w g = wd := hM1
      rw [hM1w] at kw1
      have ks1 := L1.key (8 * g + i) hp1'
      have ks2 := L1.val (8 * g + i) hp1'
      have fs1 := L1.freeS ((8 * g + i) * 2)
      have fs2 := L1.freeS ((8 * g + i) * 2 + 1)
      have fn1 := L1.free 4
      have hj1 : 8 * (g : Int) + i < M1.ss.length := by omega
      have hj2 : M1.n ≤ 1099511627776 := by rw [hM1n]; omega
      have hni : Hid (((M1.n - 1 : Nat) : Int) = (M1.n : Int) - 1) := by
        show _ = _
        rw [hM1n]; omega
      have HM10 : Hid (M1 = _) := hM10
      clear hM10 hM1 hM1n hM1w h8 hi0 hi2
      refine wp_last (by kernel_rfl) (by kernel_rfl) ?_
      dsimp only [initL, lastL]
      repeat (go_big_quiet_step ((go_at_call 44; exact Calls.quiet_of_same (rset_any wd (8 * (g : Int) + i) i 128 h9 _ hwd (by omega)))))
      refine wpQuiet_nil ?_
      rintro _ ⟨nq, rfl⟩
      gi_wp2
      have L2 := (L1.drewN nq).setW g (putN wd i 128)
      have hbut2 := (hbut.drewN nq).setCell (p := ⟨bw, g, none⟩) (.inl (by simp)) (.int .u64 ((putN wd i 128 : Nat) : Int))
      generalize (w1.drewN nq).setCell ⟨bw, g, none⟩ (.int .u64 ((putN wd i 128 : Nat) : Int)) = w3 at *
      obtain ⟨w1'', s1'', _, _, n2, n3, n4, n5, _, _⟩ := L2.cells
      have ks1' := L2.key (8 * g + i) hp1'
      have ks2' := L2.val (8 * g + i) hp1'
      have fs1' := L2.freeS ((8 * g + i) * 2)
      have fs2' := L2.freeS ((8 * g + i) * 2 + 1)
      have fn1' := L2.free 4
      clear m2 m3 m4 m5 ks1 ks2 fs1 fs2 fn1 fw kw1 hw1 hs1 hbut
      go_wp2
      go_ret
      refine ⟨rfl, ?_, ?_⟩
      · have hfin := (L2.setS (8 * g + i) ByteArray.empty (.string ⟨#[]⟩)).setN (M1.n - 1)
        rw [hni.out] at hfin
        have hM10 := HM10.out
        subst hM10
        exact hfin
      · exact (((hbut2.setCell (p := ⟨bs, (8 * g + i) * 2, none⟩) (.inl (by simp)) _).setCell (p := ⟨bs, (8 * g + i) * 2 + 1, none⟩) (.inl (by simp)) _).setCell (p := ⟨b, 4, none⟩) (.inl (by simp)) _)
end Go.Proofs.YthlghokgknkpaaaGreatDoor

/-
  Contracts: corbelref05's lay.
-/
namespace Go.Proofs.YthlghokgknkpaaaGreatDoor
open Go.RowKit Go.Shelf

set_option maxRecDepth 100000 in
set_option maxHeartbeats 4000000 in
theorem rlay_any (b bw bs : Nat) (M : SM) (key sv : ByteArray) (w : World) (h : Lies 63 76 w b bw bs M) (hF : M.Fit) (hk : key.size < 140737488355328)
    (ht : ∀ g i, g < M.ws.length → i < 8 → byteN (M.w g) i = 254 → 1 ≤ M.t) :
    Calls Tryz.prog 40 #[.pointer (some ⟨b, 0, none⟩), .string key, .string sv] w fun e w' => (∃ u, e = .returned u) ∧ Lies 63 76 w' b bw bs (M.place key (.string sv)) ∧ But [b, bw, bs] w w' := by
  obtain ⟨cw, cs, c0, c1, c2, c3, c4, c5, hcw, hcs⟩ := h.cells
  have hr := good_range hF.good
  have hfew := hF.few
  obtain ⟨X, H, hH0, hH1, hgs, hsum, hsplit⟩ := rhash_at M key hF hk
  have hwhat := M.what_lt key
  go_enter Tryz.func40, Tryz.ntmps40
  go_wp2_with fail
  apply world_end (fun Y => Below w.heap.size w Y)
  · go_region_with (first
      | (go_at_call 73; refine (hsum _).mono ?_; rintro e w1 ⟨rfl, hb1⟩)
      | (go_at_call 72; refine same_mono (hsplit _) ?_))
    all_goals exact EndW.mk (below_on hb1)
  · intro w1 hb1
    clear hsum hsplit
    have hl1 := h.below hb1 (Nat.le_refl _)
    obtain ⟨cw', cs', _, _, d2, d3, _, _, hcw', hcs'⟩ := hl1.cells
    go_wp2_with fail
    refine (rseq_any H M.ws.length w1 hH0 hH1 (by omega) (by omega)).mono ?_
    rintro e w2 ⟨v, rfl, hown, hb2⟩
    have hB2 : Below w.heap.size w w2 := hb1.trans (hb2.mono hb1.size)
    have hl2 := h.below hB2 (Nat.le_refl _)
    obtain ⟨cw2, cs2, _, _, f2, f3, f4, f5, hcw2, hcs2⟩ := hl2.cells
    rw [hgs] at hown
    have hrow := hown.has
    obtain ⟨p, c, hv, hpc, _, _⟩ := id hrow
    rw [List.length_map] at hv hpc
    subst hv
    clear c0 c1 c2 c3 c4 c5 d2 d3 hl1 hown hb2 hgs hH0 hH1 hcw' hcs' hcw hcs
    have hspot : Hid (M.spot (M.gs key) = M.spot ((M.gs key).drop 0)) := by show _ = _; rw [List.drop_zero]
    have hgl := SM.gs_lt hF key
    have hgn : (M.gs key).length ≤ 1024 := by unfold SM.gs; rw [List.length_map]; exact grp_len _ _
    have hpl0 : Hid (M.place key (.string sv) = match M.spot (M.gs key) with | none => M | some (g, i) => M.lay key (.string sv) g i) := rfl
    generalize hspk : M.spot (M.gs key) = sp at *
    clear hspk
    generalize M.gs key = gs at *
    go_wp2
    go_loopw [33] (fun t wr => ∃ j : Nat, j ≤ gs.length ∧ t = .int .i64 (j : Nat) ∧ Hid (sp = M.spot (gs.drop j)) ∧ wr = w2) (fun t _ => gs.length - (intOf t).toNat)
    case atStart => exact ⟨0, by omega, rfl, hspot, rfl⟩
    case round =>
      obtain ⟨j, hj, rfl, hsj, rfl⟩ := hrel
      clear hspot
      by_cases hlt : j < gs.length
      · obtain ⟨pb, po, rfl, _, cg⟩ := int_at hrow hlt
        have hdrop : Hid (gs.drop j = gs.getD j 0 :: gs.drop (j + 1)) := drop_getD hlt
        have hg := hgl (gs.getD j 0) (by rw [List.getD_eq_getElem?_getD, List.getElem?_eq_getElem hlt]; exact List.getElem_mem hlt)
        generalize gs.getD j 0 = g at *
        have kw := hl2.word g hg
        have hwl := hF.words g hg
        have hssl := hF.slots
        have ht' := ht g
        generalize hwd : M.w g = wd at *
        replace hwd : Hid (M.w g = wd) := hwd
        have hfl := freeN_lt wd
        by_cases hfr : freeN wd = 0
        · have hnone := free_none hfr
          have hs' : Hid (sp = M.spot (gs.drop (j + 1))) := by
            show _ = _
            rw [hsj.out, hdrop.out, SM.spot, hwd.out, hnone]
          clear hnone
          go_wp2_with fail
          refine same_mono (rfree_any wd _ hwl) ?_
          go_wp2_with fail
          refine same_mono (rfirst_any 0 _ (by decide)) ?_
          rw [show firstN 0 = 8 by decide]
          go_wp2
          go_roundw
          case rel => exact ⟨j + 1, by omega, by simp, hs', trivial⟩
          case measure => simp only [intOf]; omega
        · obtain ⟨hsome, hf8⟩ := free_some hfr
          have hpl : Hid (M.place key (.string sv) = M.lay key (.string sv) g (firstN (freeN wd))) := by
            show _ = _
            rw [hpl0.out, hsj.out, hdrop.out, SM.spot, hwd.out, hsome]
          have hbut : But [b, bw, bs] w wr := But.of_below hB2 (Nat.le_refl _)
          clear hsome
          go_wp2_with fail
          refine same_mono (rfree_any wd _ hwl) ?_
          go_wp2_with fail
          refine same_mono (rfirst_any _ _ hfl) ?_
          generalize firstN (freeN wd) = f at *
          have hf8' : ((f : Int) == 8) = false := by simp; omega
          have hdel := ht' f hg hf8
          clear ht' hfr hfl hdrop hsj hpl0
          go_wp2_with fail
          refine same_mono (rget_at wd f rfl hf8 _ hwl) ?_
          have hlay : Hid (M.lay key (.string sv) g f = { M with ws := M.ws.set g (putN wd f (M.what key)), ss := M.ss.set (8 * g + f) (key, .string sv), n := M.n + 1, t := if byteN wd f = 254 then M.t - 1 else M.t }) := by
            show M.lay key (.string sv) g f = _
            unfold SM.lay
            rw [hwd.out]
          have hstep : ∀ (M1 : SM) (w3 : World), Lies 63 76 w3 b bw bs M1 → M1.ws = M.ws → M1.ss = M.ss → M1.n = M.n → M1.k0 = M.k0 → M1.k1 = M.k1 → M1.t = (if byteN wd f = 254 then M.t - 1 else M.t) → Hid (M.place key (.string sv) = { M1 with ws := M1.ws.set g (putN wd f (M.what key)), ss := M1.ss.set (8 * g + f) (key, .string sv), n := M1.n + 1 }) := by
            intro M1 w3 _ e1 e2 e3 e4 e5 e6
            show _ = _
            rw [hpl.out, hlay.out]
            cases M1
            simp only at e1 e2 e3 e4 e5 e6
            subst e1 e2 e3 e4 e5 e6
            rfl
          by_cases hx : byteN wd f = 254
          · rw [hx]
            have h1t := hdel hx
            have f5' := hl2.free 5
            have L1 := hl2.setT (M.t - 1)
            rw [show ((M.t - 1 : Nat) : Int) = (M.t : Int) - 1 by omega] at L1
            have hpl' := hstep _ _ L1 rfl rfl rfl rfl rfl (by rw [if_pos hx])
            clear hstep hpl hlay
            go_wp2
            have hbut1 := hbut.setCell (p := ⟨b, 5, none⟩) (.inl (by simp)) (.int .i64 ((M.t : Int) - 1))
            clear f2 f3 f4 f5 f5' kw
            generalize wr.setCell ⟨b, 5, none⟩ (.int .i64 ((M.t : Int) - 1)) = w3 at *
            obtain ⟨M1, hM10⟩ : ∃ M1 : SM, M1 = { M with t := M.t - 1 } := ⟨_, rfl⟩
            have hM1w : M1.w g = wd := by rw [hM10]; exact hwd.out
            have hM1n : M1.n = M.n := by rw [hM10]
            have hp1' : 8 * g + f < M1.ss.length := by rw [hM10]; show 8 * g + f < M.ss.length; omega
            have hp2' : g < M1.ws.length := by rw [hM10]; exact hg
            rw [← hM10] at L1
            replace hpl' : Hid (M.place key (.string sv) = { M1 with ws := M1.ws.set g (putN wd f (M.what key)), ss := M1.ss.set (8 * g + f) (key, .string sv), n := M1.n + 1 }) := by rw [hM10]; exact hpl'
            clear hM10
            obtain ⟨w1', s1', _, _, m2, m3, m4, m5, hw1, hs1⟩ := L1.cells
            have hne := L1.ne
            have fw := L1.freeW g
            have kw1 := L1.word g hp2'
            rw [hM1w] at kw1
            have hj1 : 8 * (g : Int) + f < M1.ss.length := by omega
            have hj2 : M1.n ≤ 1099511627776 := by rw [hM1n]; omega
            have hni : Hid (((M1.n + 1 : Nat) : Int) = (M1.n : Int) + 1) := by show _ = _; omega
            clear hM1n hM1w
            refine wp_last (by kernel_rfl) (by kernel_rfl) ?_
            dsimp only [initL, lastL]
            repeat (go_big_quiet_step ((go_at_call 44; exact Calls.quiet_of_same (rset_any wd (f : Int) f (M.what key) (by omega) _ hwl (by omega)))))
            refine wpQuiet_nil ?_
            rintro _ ⟨nq, rfl⟩
            gi_wp2
            have L2 := (L1.drewN nq).setW g (putN wd f (M.what key))
            have hbut2 := (hbut1.drewN nq).setCell (p := ⟨bw, g, none⟩) (.inl (by simp)) (.int .u64 ((putN wd f (M.what key) : Nat) : Int))
            generalize (w3.drewN nq).setCell ⟨bw, g, none⟩ (.int .u64 ((putN wd f (M.what key) : Nat) : Int)) = w4 at *
            obtain ⟨w1'', s1'', _, _, n2, n3, n4, n5, _, _⟩ := L2.cells
            have ks1' := L2.key (8 * g + f) hp1'
            have ks2' := L2.val (8 * g + f) hp1'
            have fs1' := L2.freeS ((8 * g + f) * 2)
            have fs2' := L2.freeS ((8 * g + f) * 2 + 1)
            have fn1' := L2.free 4
            clear m2 m3 m4 m5 fw kw1 hw1 hs1 hbut1 L1
            go_wp2
            try simp only [Exit.inBlock, Exit.then]
            refine bodyPost_ret (results_none rfl _ _ _) rfl ?_
            refine ⟨⟨_, rfl⟩, ?_, ?_⟩
            · have hfin := (L2.setS (8 * g + f) key (.string sv)).setN (M1.n + 1)
              rw [hni.out] at hfin
              rw [hpl'.out]
              exact hfin
            · exact (((hbut2.setCell (p := ⟨bs, (8 * g + f) * 2, none⟩) (.inl (by simp)) _).setCell (p := ⟨bs, (8 * g + f) * 2 + 1, none⟩) (.inl (by simp)) _).setCell (p := ⟨b, 4, none⟩) (.inl (by simp)) _)
          · have hx' : (byteN wd f : Int) ≠ 254 := by omega
            have hx2 : ((byteN wd f : Int) == 254) = false := by simp; omega
            have L1 := hl2
            have hpl' := hstep _ _ L1 rfl rfl rfl rfl rfl (by rw [if_neg hx])
            have hbut1 := hbut
            clear hstep hpl hlay
            go_wp2
            clear f2 f3 f4 f5 kw
            generalize wr = w3 at *
            obtain ⟨M1, hM10⟩ : ∃ M1 : SM, M1 = M := ⟨_, rfl⟩
            have hM1w : M1.w g = wd := by rw [hM10]; exact hwd.out
            have hM1n : M1.n = M.n := by rw [hM10]
            have hp1' : 8 * g + f < M1.ss.length := by rw [hM10]; show 8 * g + f < M.ss.length; omega
            have hp2' : g < M1.ws.length := by rw [hM10]; exact hg
            rw [← hM10] at L1
            replace hpl' : Hid (M.place key (.string sv) = { M1 with ws := M1.ws.set g (putN wd f (M.what key)), ss := M1.ss.set (8 * g + f) (key, .string sv), n := M1.n + 1 }) := by rw [hM10]; exact hpl'
            clear hM10
            obtain ⟨w1', s1', _, _, m2, m3, m4, m5, hw1, hs1⟩ := L1.cells
            have hne := L1.ne
            have fw := L1.freeW g
            have kw1 := L1.word g hp2'
            rw [hM1w] at kw1
            have hj1 : 8 * (g : Int) + f < M1.ss.length := by omega
            have hj2 : M1.n ≤ 1099511627776 := by rw [hM1n]; omega
            have hni : Hid (((M1.n + 1 : Nat) : Int) = (M1.n : Int) + 1) := by show _ = _; omega
            clear hM1n hM1w
            refine wp_last (by kernel_rfl) (by kernel_rfl) ?_
            dsimp only [initL, lastL]
            repeat (go_big_quiet_step ((go_at_call 44; exact Calls.quiet_of_same (rset_any wd (f : Int) f (M.what key) (by omega) _ hwl (by omega)))))
            refine wpQuiet_nil ?_
            rintro _ ⟨nq, rfl⟩
            gi_wp2
            have L2 := (L1.drewN nq).setW g (putN wd f (M.what key))
            have hbut2 := (hbut1.drewN nq).setCell (p := ⟨bw, g, none⟩) (.inl (by simp)) (.int .u64 ((putN wd f (M.what key) : Nat) : Int))
            generalize (w3.drewN nq).setCell ⟨bw, g, none⟩ (.int .u64 ((putN wd f (M.what key) : Nat) : Int)) = w4 at *
            obtain ⟨w1'', s1'', _, _, n2, n3, n4, n5, _, _⟩ := L2.cells
            have ks1' := L2.key (8 * g + f) hp1'
            have ks2' := L2.val (8 * g + f) hp1'
            have fs1' := L2.freeS ((8 * g + f) * 2)
            have fs2' := L2.freeS ((8 * g + f) * 2 + 1)
            have fn1' := L2.free 4
            clear m2 m3 m4 m5 fw kw1 hw1 hs1 hbut1 L1
            go_wp2
            try simp only [Exit.inBlock, Exit.then]
            refine bodyPost_ret (results_none rfl _ _ _) rfl ?_
            refine ⟨⟨_, rfl⟩, ?_, ?_⟩
            · have hfin := (L2.setS (8 * g + f) key (.string sv)).setN (M1.n + 1)
              rw [hni.out] at hfin
              rw [hpl'.out]
              exact hfin
            · exact (((hbut2.setCell (p := ⟨bs, (8 * g + f) * 2, none⟩) (.inl (by simp)) _).setCell (p := ⟨bs, (8 * g + f) * 2 + 1, none⟩) (.inl (by simp)) _).setCell (p := ⟨b, 4, none⟩) (.inl (by simp)) _)
      · have hpl : Hid (M.place key (.string sv) = M) := by
          show _ = _
          rw [hpl0.out, hsj.out, List.drop_eq_nil_of_le (by omega), SM.spot]
        go_wp2
        go_end0
        refine ⟨⟨_, rfl⟩, ?_, But.of_below hB2 (Nat.le_refl _)⟩
        rw [hpl.out]
        exact hl2
end Go.Proofs.YthlghokgknkpaaaGreatDoor

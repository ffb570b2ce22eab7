/-
  The walk of QuorumShifts.
-/
import Derived.Test.YtjaoljhbnbaeaaaQaJ
import Derived.Laws.AppendOwnNone
namespace Go.Proofs.Ytjaoljhbnbaeaaa
open Go.RowKit Go.Shelf

/-- The row of an append lies in its own block, or in a new one. -/
theorem append_where14 {P : Program} {w : World} {base : Nat} {t ty e : TypeId} {i : TypeInfo} {z : Value} {size bytes : Nat} (ht : P.underlying t = some (.slice e)) (hi : P.info? e = some i) (hz : i.zero = some z)
    (hsize : i.size = size) (hby : i.bytes = bytes) (hzs : z.cells.size = size) (hsz : 0 < size) {v : Value} {n : Nat} {xs : List Value} (hown : w.ownsRow base e size v n xs)
    {a : Addr} {m c : Nat} {news : List Value} (hl : news.length = m * size) (hnews : ∀ j u, news[j]? = some u → w.cell? (a.add j) = some u) (h1 : ∀ u ∈ news, u.oneCell' = true)
    (h63 : n + m ≤ maxLen) (hbytes : (n + m) * bytes ≤ 140737488355328) {v' : Value} {w' : World} (hr : (Builtin.append_ #[t, t] ty #[v, .slice (some a) m c]).run P w = .ok v' w') :
    v'.ownBlock = v.ownBlock ∨ ∃ k, v'.ownBlock = some k ∧ w.heap.size ≤ k := by
  have hsmall : n + m ≤ 9223372036854775807 := by simp only [maxLen] at h63; omega
  rcases hown.2 with ⟨rfl, rfl⟩ | ⟨g, cap, cur, rfl, hbg, hg, hnc, hcm, hcs, htake⟩
  · have hx : xs = [] := List.eq_nil_of_length_eq_zero (by simpa using hown.1)
    subst hx
    obtain ⟨v2, w2, hr2, ho2, _, _⟩ := run_append_own (P := P) w w.heap.size t ty e i z size bytes ht hi hz hsize hby hzs hsz (.slice none 0 0) 0 [] (World.ownsRow_nil _ _ _ _) a m c news hl hnews h1 h63 hbytes (Nat.le_refl _)
    rw [hr] at hr2
    simp only [Result.ok.injEq] at hr2
    obtain ⟨rfl, rfl⟩ := hr2
    cases hk : v'.ownBlock with
    | none => exact .inl rfl
    | some k => exact .inr ⟨k, rfl, (World.ownsRow.lt ho2 k hk).1⟩
  · subst hsize
    subst hby
    by_cases hroom : n + m ≤ cap
    · have hfit : n * i.size + news.length ≤ cur.size := by rw [hl, hcs, ← Nat.add_mul]; exact Nat.mul_le_mul_right _ hroom
      rw [run_append_room (P := P) w t ty e i ht hi g n cap cur hg a m c news hl hnews h1 hroom hfit] at hr
      simp only [Result.ok.injEq] at hr
      rw [← hr.1]
      exact .inl rfl
    · have holds : ∀ j u, xs[j]? = some u → w.cell? ((⟨g, 0, none⟩ : Addr).add j) = some u := hown.cells (g := g) rfl
      rw [run_append_grow (P := P) w t ty e i z ht hi hz ⟨g, 0, none⟩ n cap xs hown.1 holds a m c news hl hnews (by omega) (by omega) (growslice_fits (by omega) hbytes)] at hr
      simp only [Result.ok.injEq] at hr
      rw [← hr.1]
      exact .inr ⟨_, rfl, Nat.le_refl _⟩

/-- 'append(s, x)' of one int, and where the new row lies. -/
theorem ap_int15 {ops : Array Oper} {rest : List Oper} {o : Oper} {a : Act} {Q : Exit → Act → World → Prop} (w : World) (hgd : o.guard = none) (s x : Operand)
    (ho : o.op = .call { callee := .builtin .append, args := #[s, x], argTypes := #[26, 26] })
    (B : Nat) (v : Value) (xs : List Int) (z : Int) (hs : a.eval s = v) (hx : a.eval x = .slice (some ⟨w.heap.size, 0, none⟩) 1 1) (hown : OwnsI w B v xs) (hlen : xs.length ≤ 1099511627776) (hB : B ≤ w.heap.size)
    (h : ∀ v' w', OwnsI w' B v' (xs ++ [z]) → Below B w w' → w.grownBy w' v.ownBlock → (v'.ownBlock = v.ownBlock ∨ ∃ k, v'.ownBlock = some k ∧ w.heap.size ≤ k) → wpList Try.prog ops Q rest (a.put o.dst v') w') :
    wpList Try.prog ops Q (o :: rest) a (w.alloc (.cells #[.int .i64 z] 3)) := by
  obtain ⟨i, hi, hz, hsize, hby⟩ := info_parts Try.infoInt
  have hown1 : (w.alloc (.cells #[.int .i64 z] 3)).ownsRow B 3 1 v xs.length (xs.map (Value.int .i64)) := World.ownsRow.alloc hown _
  have hnews : ∀ j u, ([.int .i64 z] : List Value)[j]? = some u → (w.alloc (.cells #[.int .i64 z] 3)).cell? ((⟨w.heap.size, 0, none⟩ : Addr).add j) = some u := by
    intro j u hj
    match j, hj with
    | 0, hj => simp at hj; subst hj; simp [Addr.add]
  have h1 : ∀ u ∈ ([.int .i64 z] : List Value), u.oneCell' = true := by intro u hu; simp at hu; subst hu; rfl
  have h63 : xs.length + 1 ≤ maxLen := by unfold maxLen; omega
  obtain ⟨v', w', hr, hown', hgrow, _⟩ := run_append_own (P := Try.prog) (w.alloc (.cells #[.int .i64 z] 3)) B 26 o.type 3 i (.int .i64 0) 1 8 Try.underlying26 hi hz hsize hby rfl (by decide) v xs.length (xs.map (Value.int .i64)) hown1 ⟨w.heap.size, 0, none⟩ 1 1 [.int .i64 z] rfl hnews h1 h63 (by omega) (by simp; omega)
  have hw := append_where14 Try.underlying26 hi hz hsize hby rfl (by decide) hown1 rfl hnews h1 h63 (by omega) hr
  have hga := World.grownBy_alloc w (.cells #[.int .i64 z] 3) v.ownBlock
  have hK2 := h v' w' (by
    unfold OwnsI
    rw [List.length_append, List.length_singleton, List.map_append]
    exact hown') (((Below.refl B w).alloc hB _).trans ((Below.refl _ _).grown hgrow (by simp; omega) fun k hk => (World.ownsRow.lt hown k hk).1))
    ⟨hgrow.os.trans hga.os, hgrow.tape.trans hga.tape, hgrow.output.trans hga.output, Nat.le_trans hga.size hgrow.size, fun k hk hne => (hgrow.block k (Nat.lt_of_lt_of_le hk hga.size) hne).trans (hga.block k hk hne)⟩
    (hw.imp id fun ⟨k, h1, h2⟩ => ⟨k, h1, Nat.le_trans hga.size h2⟩)
  refine wpList_plain hgd fun K hK => ?_
  unfold Oper.wp
  simp [execOp, ho, resolve, invoke, builtin, hs, hx, hr, Result.andThen]
  exact hK _ _ hK2

/-- Two rows that the call made lie in blocks of their own. -/
def Apart14 (u v : Value) : Prop := ∀ k, u.ownBlock = some k → v.ownBlock ≠ some k
theorem Apart14.symm {u v : Value} (h : Apart14 u v) : Apart14 v u := fun k hk hu => h k hu hk
theorem Apart14.ne {u v : Value} (h : Apart14 u v) : v.ownBlock = none ∨ v.ownBlock ≠ u.ownBlock := by
  cases hv : v.ownBlock with
  | none => exact .inl rfl
  | some k => exact .inr fun e => h k e.symm hv
theorem Apart14.next {W : World} {B : Nat} {u u' v : Value} {xs : List Int} (h : Apart14 u v) (hv : OwnsI W B v xs) (hw : u'.ownBlock = u.ownBlock ∨ ∃ k, u'.ownBlock = some k ∧ W.heap.size ≤ k) : Apart14 u' v := by
  intro k hk hvk
  rcases hw with hw | ⟨k', h1, h2⟩
  · exact h k (by rw [← hw]; exact hk) hvk
  · have := (World.ownsRow.lt hv k hvk).2
    rw [hk] at h1
    cases h1
    omega
theorem OwnsI.apart14 {w w' : World} {B : Nat} {u v : Value} {xs : List Int} (h : OwnsI w B v xs) (hg : w.grownBy w' u.ownBlock) (ha : Apart14 u v) : OwnsI w' B v xs := World.ownsRow.kept h hg ha.ne

set_option maxRecDepth 100000 in
set_option maxHeartbeats 2000000 in
theorem quorumShifts_of (v : Value) (xs : List Int) (w : World) (h : HasI w v xs) : Calls Try.prog 8 #[v] w fun e w' => e = .returned (.bool true) ∧ Below w.heap.size w w' := by
  obtain ⟨p, c, rfl, hc, hx⟩ := h.parts15
  by_cases h0 : xs.length = 0
  · have h0' : ((xs.length : Int) == 0) = true := by rw [h0]; rfl
    clear hx h
    go_enter Try.func8, Try.ntmps8
    go_wp2_with (refine (lives14 _).mono ?_; rintro e w1 ⟨rfl, hb⟩)
    go_ret
    exact ⟨rfl, hb⟩
  · have h0' : ((xs.length : Int) == 0) = false := by rw [beq_eq_false_iff_ne]; omega
    by_cases hl : xs.length > 200
    · have hl' : (xs.length : Int) > 200 := by omega
      clear hx h
      go_enter Try.func8, Try.ntmps8
      go_wp2_with (refine (lives14 _).mono ?_; rintro e w1 ⟨rfl, hb⟩)
      go_ret
      exact ⟨rfl, hb⟩
    · have hl' : ¬ (xs.length : Int) > 200 := by omega
      obtain ⟨n, hn⟩ : ∃ n, n = xs.length := ⟨_, rfl⟩
      rw [← hn] at hl hl' h0 h0' hc hx
      have HN : Hid (n = xs.length) := hn
      have HH : Hid (HasI w (.slice p xs.length c) xs) := h
      rw [← hn]
      clear hn h
      go_enter Try.func8, Try.ntmps8
      go_wp2
      go_loopg [3, 4, 19] n (fun g s3 s4 t wr => ∃ j : Nat, j ≤ n ∧ n - j ≤ g ∧ t = .int .i64 j ∧ OwnsI wr w.heap.size s3 ((xs.take j).map (· + 1)) ∧ OwnsI wr w.heap.size s4 (xs.reverse.take j) ∧ Apart14 s3 s4 ∧ Below w.heap.size w wr ∧ Hid (∀ i, i < j → -1152921504606846976 ≤ xs.getD i 0 ∧ xs.getD i 0 ≤ 1152921504606846976))
      case atStart => exact ⟨0, by omega, by omega, rfl, OwnsI.nil w _, OwnsI.nil w _, (fun _ hk => by cases hk), Below.refl _ _, fun i hi => by omega⟩
      case round =>
        obtain ⟨j, hj, hg, rfl, hO3, hO4, hap, hb, hall⟩ := hrel
        by_cases hlt : j < n
        · cases gk with
          | zero => omega
          | succ g0 =>
            obtain ⟨bb, o, rfl, e1⟩ := hx wr hb j hlt
            obtain ⟨bb', o', hp, e2⟩ := hx wr hb (n - 1 - j) (by omega)
            have hj1 : (j : Int) < (n : Int) := by omega
            by_cases hy : xs.getD j 0 > 1152921504606846976
            · clear hx e2 hp hO3 hO4
              generalize xs.getD j 0 = y at *
              go_wp2_with (refine (lives14 _).mono ?_; rintro e w1 ⟨rfl, hb1⟩)
              go_ret
              exact ⟨rfl, hb.trans (hb1.mono hb.size)⟩
            · by_cases hy2 : xs.getD j 0 < -1152921504606846976
              · clear hx e2 hp hO3 hO4
                generalize xs.getD j 0 = y at *
                go_wp2_with (refine (lives14 _).mono ?_; rintro e w1 ⟨rfl, hb1⟩)
                go_ret
                exact ⟨rfl, hb.trans (hb1.mono hb.size)⟩
              · have hyy : -1152921504606846976 ≤ xs.getD j 0 ∧ xs.getD j 0 ≤ 1152921504606846976 := by omega
                have hz : xs.getD (n - 1 - j) 0 = xs.reverse.getD j 0 := by
                  have hlt1 : j < xs.length := by rw [← HN.out]; exact hlt
                  rw [List.getD_eq_getElem?_getD, List.getD_eq_getElem?_getD, List.getElem?_reverse hlt1, HN.out]
                have t3 : ((xs.take (j + 1)).map (· + 1)) = (xs.take j).map (· + 1) ++ [xs.getD j 0 + 1] := by
                  have hlt1 : j < xs.length := by rw [← HN.out]; exact hlt
                  rw [List.take_add_one, List.getElem?_eq_getElem hlt1, List.map_append, List.getD_eq_getElem?_getD, List.getElem?_eq_getElem hlt1]
                  rfl
                have t4 : xs.reverse.take (j + 1) = xs.reverse.take j ++ [xs.reverse.getD j 0] := by
                  have hlt1 : j < xs.reverse.length := by rw [List.length_reverse, ← HN.out]; exact hlt
                  rw [List.take_add_one, List.getElem?_eq_getElem hlt1, List.getD_eq_getElem?_getD, List.getElem?_eq_getElem hlt1]
                  rfl
                have hl3 : Hid (((xs.take j).map (· + 1)).length ≤ 1099511627776) := by show _ ≤ _; rw [List.length_map, List.length_take]; omega
                have hl4 : Hid ((xs.reverse.take j).length ≤ 1099511627776) := by show _ ≤ _; rw [List.length_take]; omega
                have hall2 : Hid (∀ i, i < j + 1 → -1152921504606846976 ≤ xs.getD i 0 ∧ xs.getD i 0 ≤ 1152921504606846976) := fun i hi => by
                  by_cases e : i = j
                  · rw [e]; exact hyy
                  · exact hall.out i (by omega)
                clear hall
                have T3 : Hid ((xs.take (j + 1)).map (· + 1) = (xs.take j).map (· + 1) ++ [xs.getD j 0 + 1]) := t3
                have T4 : Hid (xs.reverse.take (j + 1) = xs.reverse.take j ++ [xs.reverse.getD j 0]) := t4
                clear t3 t4 e2
                obtain ⟨A, hA⟩ : ∃ A, A = (xs.take j).map (· + 1) := ⟨_, rfl⟩
                obtain ⟨B, hB⟩ : ∃ B, B = xs.reverse.take j := ⟨_, rfl⟩
                rw [← hA] at hO3 hl3 T3
                rw [← hB] at hO4 hl4 T4
                clear hA hB
                generalize xs.getD j 0 = y at *
                generalize xs.reverse.getD j 0 = z at *
                cases hp
                have i1 : (n : Int) - 1 - (j : Int) = ((n - 1 - j : Nat) : Int) := by omega
                have i2 : n - 1 - j < n := by omega
                have hxr : ∀ W, Below w.heap.size w W → W.cell? ⟨bb, o + (n - 1 - j), none⟩ = some (.int .i64 z) := fun W hW => by
                  obtain ⟨bq, oq, hq, e⟩ := hx W hW (n - 1 - j) i2
                  cases hq
                  rw [hz] at e
                  exact e
                clear hx hz
                generalize n - 1 - j = r at *
                have hs := hb.size
                go_wp2_with (first | (at_builtin; refine ap_int15 _ rfl _ _ rfl w.heap.size _ _ _ rfl rfl (by exact hO3) (by exact hl3.out) (by exact hs) ?_; intro v3 w3 hQ3 hb3 hg3 hw3; have hb3' := hb.trans hb3; have e3 := hxr w3 hb3'; have hO4' := hO4.apart14 hg3 hap; have hs3 := hb3'.size; have hap3 := hap.next hO4 hw3; clear hO3 hO4 e1 hb3 hg3 hw3 hap) | (at_builtin; refine ap_int15 _ rfl _ _ rfl w.heap.size _ _ _ rfl rfl (by exact hO4') (by exact hl4.out) (by exact hs3) ?_; intro v4 w4 hQ4 hb4 hg4 hw4))
                go_roundg g0
                case rel => exact ⟨j + 1, by omega, by omega, by simp, by rw [T3.out]; exact hQ3.apart14 hg4 hap3.symm, by rw [T4.out]; exact hQ4, (hap3.symm.next hQ3 hw4).symm, hb3'.trans hb4, hall2⟩
                case measure => omega
        · obtain rfl : j = n := by omega
          have hA : (xs.take j).map (· + 1) = xs.map (· + 1) := by rw [HN.out, List.take_length]
          have hB : xs.reverse.take j = xs.reverse := by rw [HN.out, ← List.length_reverse, List.take_length]
          rw [hA] at hO3
          rw [hB] at hO4
          have c1 := com_shift xs (by rw [← HN.out]; omega)
          have c2 := com_perm (k := xs.reverse) (by rw [← HN.out]; omega) (List.reverse_perm xs)
          have k1 := fun W hW => com_any _ xs W (HH.out.below (w' := W) (B := w.heap.size) hW (Nat.le_refl _)) (by rw [← HN.out]; omega)
          rw [← HN.out] at k1
          have hcr : -1152921504606846976 ≤ com14 xs ∧ com14 xs ≤ 1152921504606846976 := by
            obtain ⟨i, hi, he⟩ := List.getElem_of_mem (com_is xs (by rw [← HN.out]; omega)).mem
            have := hall.out i (by rw [HN.out]; exact hi)
            rw [List.getD_eq_getElem?_getD, List.getElem?_eq_getElem hi, Option.getD_some, he] at this
            exact this
          clear hx hA hB hap hall
          generalize com14 xs = y at *
          go_wp2_with fail
          refine (k1 wr hb).mono ?_
          rintro e w1 ⟨rfl, hb1⟩
          have hP3 := hO3.below hb1 (Nat.le_refl _)
          have hP4 := hO4.below hb1 (Nat.le_refl _)
          have hB1 := hb.trans (hb1.mono hb.size)
          clear hO3 hO4 hb1 k1
          go_wp2_with fail
          refine (com_any _ _ w1 hP3.has (by rw [List.length_map, ← HN.out]; omega)).mono ?_
          rintro e w2 ⟨rfl, hb2⟩
          rw [c1]
          have hQ4 := hP4.below hb2 (Nat.le_refl _)
          have hB2 := hB1.trans (hb2.mono hB1.size)
          clear hP3 hP4 hb2 hB1 c1
          go_wp2_with fail
          refine (com_any _ _ w2 hQ4.has (by rw [List.length_reverse, ← HN.out]; omega)).mono ?_
          rintro e w3 ⟨rfl, hb3⟩
          rw [c2]
          have hB3 := hB2.trans (hb3.mono hB2.size)
          clear hQ4 hb3 hB2 c2
          go_wp2_with fail
          have c3 := com_one y
          refine (com_any _ _ _ (HasI.lit w3 [y] 3) (by simp)).mono ?_
          rintro e w4 ⟨rfl, hb4⟩
          rw [c3]
          have hB4 := (hB3.alloc hB3.size (.cells #[.int .i64 y] 3)).trans (hb4.mono (by have := hB3.size; simp; omega))
          clear hb4 c3
          go_wp2_with fail
          refine (lives14 _).mono ?_
          rintro e w5 ⟨rfl, hb5⟩
          go_wp2
          go_ret
          exact ⟨rfl, hB4.trans (hb5.mono hB4.size)⟩
end Go.Proofs.Ytjaoljhbnbaeaaa

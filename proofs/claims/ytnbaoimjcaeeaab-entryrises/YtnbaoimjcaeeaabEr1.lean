/-
  The walk of EntryRises.
-/
import Derived.Test.YtnbaoimjcaeeaabEn6
import Derived.Test.YtnbaoimjcaeeaabHRowE
namespace Go.Proofs.Ytnbaoimjcaeeaab
open Go.RowKit Go.Shelf

theorem goodE_conf (c : Conf10) : goodE10 ⟨1, 1, 3, zeroC9, c⟩ = goodF10 c := by
  unfold goodE10
  dsimp only
  rw [if_neg (by decide), if_neg (by decide), if_pos rfl, same9_self]
  simp

theorem in1 : inI 1 := ⟨by decide, by decide⟩
theorem in3 : inI 3 := ⟨by decide, by decide⟩
/-- A conf's box, and that old memory lies as it lay. -/
def BoxF (w0 w : World) (b : Nat) (x : ConfV) : Prop := ConfAt w b x ∧ Below w0.heap.size w0 w
theorem BoxF.new (w : World) (x : ConfV) : BoxF w (w.alloc (.cells x.arr 24)) w.heap.size x := ⟨heap_alloc_new w _, (Below.refl _ _).alloc (Nat.le_refl _) _⟩
theorem BoxF.below {w0 w w' : World} {b : Nat} {x : ConfV} (h : BoxF w0 w b x) (hb : Below w.heap.size w w') : BoxF w0 w' b x := ⟨box_below h.1 hb, h.2.trans (hb.mono h.2.size)⟩

set_option maxRecDepth 100000 in
set_option maxHeartbeats 3000000 in
theorem rises_walk (x : ConfV) (w : World) (hF : FitsF w x) : Calls Try.prog 3 #[.agg x.arr] w fun e w' => e = .returned (.bool true) ∧ Below w.heap.size w w' := by
  have k9 := fun w => lives10_any w
  have fit : ∀ W, Below w.heap.size w W → FitsF W x := fun W h => hF.below h
  have k1 := fun W (h : Below w.heap.size w W) => goodConf_any x W (fit W h)
  have k2 := fun W (h : Below w.heap.size w W) => goodE_any ⟨1, 1, 3, zeroC9, x⟩ W ⟨in1, in1, in3, fits_zeroC, fit W h⟩
  have k3 := fun W (h : Below w.heap.size w W) => sameConf_any x x W (fit W h) (fit W h)
  rw [show (EntV.mk 1 1 3 zeroC9 x).e = ⟨1, 1, 3, zeroC9, x.f⟩ from rfl, goodE_conf] at k2
  rw [show sameF10 x.f x.f = true from (sameF10_iff _ _).2 rfl] at k3
  have hT0 := BoxF.new w x
  have hn := hF.u.len.1
  have hm := hF.v.len.1
  have hln := hF.lu
  have hlm := hF.lv
  have hU := hF.u.len.2.1
  have hV := hF.v.len.2.1
  rw [hn] at hln
  rw [hm] at hlm
  have HP : Hid (goodF10 x.f = true → rises10 x.f.vs = true ∧ rises10 x.f.ls = true ∧ x.f.vs ≠ [] ∧ ∀ a ∈ x.f.vs, ∀ b ∈ x.f.ls, a ≠ b) := goodF10_parts
  have HU : Hid (∀ W, Below w.heap.size w W → HasI W (.slice x.u.p x.u.n x.u.c) x.f.vs) := fun W h => (fit W h).u
  have HV : Hid (∀ W, Below w.heap.size w W → HasI W (.slice x.v.p x.v.n x.v.c) x.f.ls) := fun W h => (fit W h).v
  have HN : Hid (x.f.vs.length = x.u.n) := hn
  have HM : Hid (x.f.ls.length = x.v.n) := hm
  have K1 : Hid _ := k1
  have K2 : Hid _ := k2
  have K3 : Hid _ := k3
  clear k1 k2 k3 fit hF hn hm
  generalize hgg : goodF10 x.f = g at *
  clear hgg
  obtain ⟨⟨p, n, c⟩, ⟨q, m, d⟩, f⟩ := x
  unfold zeroC9 at *
  unfold EntV.arr ConfV.arr at *
  dsimp only at *
  by_cases hbig : 300 < n + m
  · have hb' : (300 : Int) < (n : Int) + (m : Int) := by omega
    clear K1 K2 K3 HU HV HP HN HM
    go_enter Try.func3, Try.ntmps3
    go_wp2_with fail
    refine (k9 _).mono ?_
    rintro e w1 ⟨rfl, hb1⟩
    have hT1 := hT0.below hb1
    go_wp2
    go_ret
    exact ⟨rfl, hT1.2⟩
  · have hb' : ¬ (300 : Int) < (n : Int) + (m : Int) := by omega
    have k1 := K1.out _ hT0.2
    cases g with
    | false =>
      go_enter Try.func3, Try.ntmps3
      go_wp2_with fail
      refine k1.mono ?_
      rintro e w1 ⟨rfl, hb1⟩
      have hT1 := hT0.below hb1
      obtain ⟨c0, c1⟩ := hT1.1.cells
      have hlt := box_lt hT1.1
      dsimp only at c0 c1
      have k2 := K2.out _ hT1.2
      clear k1 hb1 hT0
      go_wp2_with fail
      refine k2.mono ?_
      rintro e w2 ⟨rfl, hb2⟩
      have hT2 := hT1.below hb2
      clear k2 hb2 hT1
      go_wp2_with fail
      refine (k9 _).mono ?_
      rintro e w3 ⟨rfl, hb3⟩
      have hT3 := hT2.below hb3
      go_wp2
      go_ret
      exact ⟨rfl, hT3.2⟩
    | true =>
      obtain ⟨hr1, hr2, hne, hap⟩ := HP.out (by trivial)
      have H1 : Hid (∀ j, j < n → (1 ≤ f.vs.getD j 0 ∧ f.vs.getD j 0 ≤ 9) ∧ (j = 0 ∨ f.vs.getD (j - 1) 0 < f.vs.getD j 0)) := fun j hj => rises10_at hr1 (by rw [HN.out]; exact hj)
      have H2 : Hid (∀ j, j < m → (1 ≤ f.ls.getD j 0 ∧ f.ls.getD j 0 ≤ 9) ∧ (j = 0 ∨ f.ls.getD (j - 1) 0 < f.ls.getD j 0)) := fun j hj => rises10_at hr2 (by rw [HM.out]; exact hj)
      have H3 : Hid (∀ j, j < n → ∀ k, k < m → f.ls.getD k 0 ≠ f.vs.getD j 0) := fun j hj k hk => by
        have e1 : j < f.vs.length := by rw [HN.out]; exact hj
        have e2 : k < f.ls.length := by rw [HM.out]; exact hk
        rw [List.getD_eq_getElem?_getD, List.getD_eq_getElem?_getD, List.getElem?_eq_getElem e1, List.getElem?_eq_getElem e2]
        exact (hap _ (List.getElem_mem _) _ (List.getElem_mem _)).symm
      have hnpos : (0 : Int) < (n : Int) := by
        have : f.vs.length ≠ 0 := fun e => hne (List.eq_nil_of_length_eq_zero e)
        have := HN.out
        omega
      clear hr1 hr2 hne hap HP
      go_enter Try.func3, Try.ntmps3
      go_wp2_with fail
      refine k1.mono ?_
      rintro e w1 ⟨rfl, hb1⟩
      have hT1 := hT0.below hb1
      obtain ⟨c0, c1⟩ := hT1.1.cells
      have hlt := box_lt hT1.1
      dsimp only at c0 c1
      have hU1 := HU.out _ hT1.2
      have hV1 := HV.out _ hT1.2
      have HU1 : Hid (HasI w1 (.slice p n c) f.vs) := hU1
      have HV1 : Hid (HasI w1 (.slice q m d) f.ls) := hV1
      have HT1 : Hid (BoxF w w1 w.heap.size ⟨⟨p, n, c⟩, ⟨q, m, d⟩, f⟩) := hT1
      clear k1 hb1 hT0 hT1 hU1 hV1 HU HV
      go_wp2
      go_loopw [31] (fun s31 wr => ∃ j : Nat, j ≤ n ∧ s31 = .int .i64 (j : Nat) ∧ wr = w1) (fun s31 _ => n - (intOf s31).toNat)
      case atStart => exact ⟨0, Nat.zero_le _, rfl, rfl⟩
      case round =>
        obtain ⟨j, hj, rfl, rfl⟩ := hrel
        by_cases hjn : j < n
        · obtain ⟨b1, o1, hp, hb1, hc1⟩ := HU1.out.at hjn
          obtain ⟨hx, hxl⟩ := H1.out j hjn
          have H4 : Hid (∀ k, k < m → f.ls.getD k 0 ≠ f.vs.getD j 0) := H3.out j hjn
          have hend : wr.cell? ⟨b1, o1 + j, none⟩ = some (.int .i64 (f.vs.getD j 0)) := hc1
          cases j with
          | zero =>
            subst hp
            rw [Nat.add_zero] at hc1
            clear hend hxl
            generalize f.vs.getD 0 0 = x at *
            go_wp2
            go_loopw [59] (fun s59 wq => ∃ k : Nat, k ≤ m ∧ s59 = .int .i64 (k : Nat) ∧ wq = wr) (fun s59 _ => m - (intOf s59).toNat)
            case atStart => exact ⟨0, Nat.zero_le _, rfl, rfl⟩
            case round =>
              obtain ⟨k, hk, rfl, rfl⟩ := hrel
              by_cases hkm : k < m
              · obtain ⟨b2, o2, rfl, hb2, hc2⟩ := HV1.out.at hkm
                have he : (f.ls.getD k 0 == x) = false := by simpa using H4.out k hkm
                generalize f.ls.getD k 0 = z at *
                go_wp2
                go_roundw
                case rel => exact ⟨k + 1, by omega, by go_num, by trivial⟩
                case measure => simp only [intOf]; omega
              · go_wp2
                go_roundw
                case rel => exact ⟨0 + 1, by omega, by go_num, by trivial⟩
                case measure => simp only [intOf]; omega
          | succ i =>
            obtain ⟨b', o', hp', hb', hc'⟩ := HU1.out.at (j := i) (by omega)
            rw [hp] at hp'
            simp only [Option.some.injEq, Addr.mk.injEq, and_true] at hp'
            obtain ⟨rfl, rfl⟩ := hp'
            subst hp
            rw [Nat.add_sub_cancel] at hxl
            have hxy : f.vs.getD i 0 < f.vs.getD (i + 1) 0 := by omega
            clear hend hxl
            generalize f.vs.getD (i + 1) 0 = x at *
            generalize f.vs.getD i 0 = y at *
            have e1 : ((i + 1 : Nat) : Int) - 1 = (i : Int) := by omega
            go_wp2
            go_loopw [59] (fun s59 wq => ∃ k : Nat, k ≤ m ∧ s59 = .int .i64 (k : Nat) ∧ wq = wr) (fun s59 _ => m - (intOf s59).toNat)
            case atStart => exact ⟨0, Nat.zero_le _, rfl, rfl⟩
            case round =>
              obtain ⟨k, hk, rfl, rfl⟩ := hrel
              by_cases hkm : k < m
              · obtain ⟨b2, o2, rfl, hb2, hc2⟩ := HV1.out.at hkm
                have he : (f.ls.getD k 0 == x) = false := by simpa using H4.out k hkm
                generalize f.ls.getD k 0 = z at *
                go_wp2
                go_roundw
                case rel => exact ⟨k + 1, by omega, by go_num, by trivial⟩
                case measure => simp only [intOf]; omega
              · go_wp2
                go_roundw
                case rel => exact ⟨i + 1 + 1, by omega, by go_num, by trivial⟩
                case measure => simp only [intOf]; omega
        · go_wp2
          go_loopw [71] (fun s71 wq => ∃ j : Nat, j ≤ m ∧ s71 = .int .i64 (j : Nat) ∧ wq = wr) (fun s71 _ => m - (intOf s71).toNat)
          case atStart => exact ⟨0, Nat.zero_le _, rfl, rfl⟩
          case round =>
            obtain ⟨k, hk, rfl, rfl⟩ := hrel
            by_cases hkm : k < m
            · obtain ⟨b1, o1, hp, hb1, hc1⟩ := HV1.out.at hkm
              obtain ⟨hx, hxl⟩ := H2.out k hkm
              cases k with
              | zero =>
                subst hp
                rw [Nat.add_zero] at hc1
                clear hxl
                generalize f.ls.getD 0 0 = x at *
                go_wp2
                go_roundw
                case rel => exact ⟨0 + 1, by omega, by go_num, by trivial⟩
                case measure => simp only [intOf]; omega
              | succ i =>
                obtain ⟨b', o', hp', hb', hc'⟩ := HV1.out.at (j := i) (by omega)
                rw [hp] at hp'
                simp only [Option.some.injEq, Addr.mk.injEq, and_true] at hp'
                obtain ⟨rfl, rfl⟩ := hp'
                subst hp
                rw [Nat.add_sub_cancel] at hxl
                have hxy : f.ls.getD i 0 < f.ls.getD (i + 1) 0 := by omega
                clear hxl
                generalize f.ls.getD (i + 1) 0 = x at *
                generalize f.ls.getD i 0 = y at *
                have e1 : ((i + 1 : Nat) : Int) - 1 = (i : Int) := by omega
                go_wp2
                go_roundw
                case rel => exact ⟨i + 1 + 1, by omega, by go_num, by trivial⟩
                case measure => simp only [intOf]; omega
            · have hT1 := HT1.out
              have k2 := K2.out _ hT1.2
              go_wp2_with fail
              refine k2.mono ?_
              rintro e w2 ⟨rfl, hb2⟩
              have hT2 := hT1.below hb2
              have k3 := K3.out _ hT2.2
              clear c0 c1 k2 hb2 hT1 hlt
              obtain ⟨c0, c1⟩ := hT2.1.cells
              have hlt := box_lt hT2.1
              dsimp only at c0 c1
              go_wp2_with fail
              refine k3.mono ?_
              rintro e w3 ⟨rfl, hb3⟩
              have hT3 := hT2.below hb3
              clear k3 hb3 hT2
              go_wp2_with fail
              refine (k9 _).mono ?_
              rintro e w4 ⟨rfl, hb4⟩
              have hT4 := hT3.below hb4
              go_wp2
              go_ret
              exact ⟨rfl, hT4.2⟩
end Go.Proofs.Ytnbaoimjcaeeaab

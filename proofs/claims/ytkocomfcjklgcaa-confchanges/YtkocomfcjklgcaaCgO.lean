import Derived.Test.YtkocomfcjklgcaaCgL
import Derived.Test.YtkocomfcjklgcaaHRowMTo
import Derived.Test.YtkocomfcjklgcaaDkM
import Derived.Test.YtkocomfcjklgcaaOnceTo
namespace Go.Proofs.Ytkocomfcjklgcaa
open Go.RowKit Go.Shelf

theorem elemI15 : Elem8 Try.prog 22 3 1 8 := elem8 Try.underlying22 (z := .int .i64 0) (by kernel_rfl) rfl (by decide)
theorem hasR_ints15 {w : World} {v : Value} {xs : List Int} (h : HasI w v xs) : HasR w 1 v xs.length (xs.map (Value.int .i64)) := by
  obtain ⟨p, c, rfl, h1, h2, h3⟩ := h
  refine ⟨p, c, rfl, h1, h2, by simp, fun h0 => ?_⟩
  obtain ⟨b, o, rfl, hlt, hc⟩ := h3 h0
  refine ⟨b, o, rfl, hlt, fun j u hj => ?_⟩
  have hjl : j < xs.length := by
    have := (List.getElem?_eq_some_iff.1 hj).1
    simpa using this
  rw [hc j hjl]
  simp [List.getElem?_eq_getElem hjl] at hj
  subst hj
  simp [List.getElem?_eq_getElem hjl]
theorem step_ints15 {ops : Array Oper} {o : Oper} {a : Act} {K : Act → World → Prop} {Q : Exit → Act → World → Prop} {E : Prop} (W : World) (hgd : o.guard = none) (s x : Operand) (dd : Tmp) (hdd : o.dst = some dd)
    (ho : o.op = .call { callee := .builtin .append, args := #[s, x], argTypes := #[22, 22] })
    (B : Nat) (v u : Value) (xs ys : List Int) (hs : a.eval s = v) (hu : a.eval x = u) (hz : HasI W u ys) (hown : OwnsI W B v xs) (hlen : xs.length + ys.length ≤ 1099511627776) (hB : B ≤ W.heap.size)
    (h : ∀ v' w', OwnsI w' B v' (xs ++ ys) → W.grownBy w' v.ownBlock → (v'.ownBlock = v.ownBlock ∨ ∃ k, v'.ownBlock = some k ∧ W.heap.size ≤ k) → K (a.put (some dd) v') w') :
    if Region.wanted o (yielded ops a.tmps) = true then Oper.wp Try.prog o a W K Q else E := by
  have hw : Region.wanted o (yielded ops a.tmps) = true := by simp [Region.wanted, hgd]
  rw [if_pos hw]
  obtain ⟨v', w', hr, h1, h2, h3⟩ := run_row elemI15 W o.type B v u xs.length ys.length (xs.map (Value.int .i64)) (ys.map (Value.int .i64)) (hasR_ints15 hz) (ints_oneCell .i64 ys) hown (by omega) (by omega) hB
  unfold Oper.wp execOp
  simp only [ho, resolve, invoke, builtin, Sem.run_bind, Sem.run_pure, Result.andThen_ok, List.map_toArray, List.map_cons, List.map_nil, hs, hu, hr]
  show K (a.put o.dst v') w'
  rw [hdd]
  refine h v' w' ?_ h2 h3
  unfold OwnsI
  rw [List.length_append, List.map_append]
  exact h1
structure Two15 (W : World) (B : Nat) (a : Value) (xs : List Int) (b : Value) (ys : List Int) : Prop where
  left : OwnsI W B a xs
  right : OwnsI W B b ys
  apart : ∀ k, a.ownBlock = some k → b.ownBlock ≠ some k
theorem Two15.swap {W : World} {B : Nat} {a b : Value} {xs ys : List Int} (h : Two15 W B a xs b ys) : Two15 W B b ys a xs := ⟨h.right, h.left, fun k h1 h2 => h.apart k h2 h1⟩
theorem two_new15 {X Y : World} {B : Nat} {a : Value} {xs : List Int} (hY : Y = X.alloc (.cells #[] 3)) (h : OwnsI X B a xs) (hB : B ≤ X.heap.size) : Two15 Y B a xs (.slice (some ⟨X.heap.size, 0, none⟩) 0 0) [] ∧ Below X.heap.size X Y := by
  subst hY
  refine ⟨⟨World.ownsRow.alloc h _, (OwnsI.empty14 X).mono hB, fun k hk e => ?_⟩, (Below.refl _ _).alloc (Nat.le_refl _) _⟩
  have := (World.ownsRow.lt h k hk).2
  simp [Value.ownBlock] at e
  omega
theorem one_new15 {X Y : World} {B : Nat} (hY : Y = X.alloc (.cells #[] 3)) (hB : B ≤ X.heap.size) : OwnsI Y B (.slice (some ⟨X.heap.size, 0, none⟩) 0 0) [] ∧ Below X.heap.size X Y := by
  subst hY
  exact ⟨(OwnsI.empty14 X).mono hB, (Below.refl _ _).alloc (Nat.le_refl _) _⟩
theorem Two15.grow {X Y : World} {B : Nat} {a b a' : Value} {xs ys zs : List Int} (h : Two15 X B a xs b ys) (ho : OwnsI Y B a' zs) (hg : X.grownBy Y a.ownBlock) (he : a'.ownBlock = a.ownBlock ∨ ∃ k, a'.ownBlock = some k ∧ X.heap.size ≤ k) : Two15 Y B a' zs b ys := by
  refine ⟨ho, World.ownsRow.kept h.right hg ?_, fun k hk e => ?_⟩
  · cases hb : b.ownBlock with
    | none => exact .inl rfl
    | some k => exact .inr fun e => h.apart k e.symm hb
  · rcases he with he | ⟨k2, he, hle⟩
    · exact h.apart k (he ▸ hk) e
    · rw [he] at hk
      obtain rfl := Option.some.inj hk
      have := (World.ownsRow.lt h.right _ e).2
      omega
theorem below_grow15 {X Y : World} {B : Nat} {a : Value} {xs : List Int} (h : OwnsI X B a xs) (hB : B ≤ X.heap.size) (hg : X.grownBy Y a.ownBlock) : Below B X Y := (Below.refl B X).grown hg hB fun k hk => (World.ownsRow.lt h k hk).1
theorem keepB15 {w w1 w2 : World} {b B : Nat} {x y : Value} (hb : Below B w1 w2) (hbB : b < B) (hwB : w.heap.size ≤ B) (h : w1.cell? ⟨b, 0, none⟩ = some x ∧ w1.cell? ⟨b, 1, none⟩ = some y ∧ Below w.heap.size w w1 ∧ b < w1.heap.size) :
    w2.cell? ⟨b, 0, none⟩ = some x ∧ w2.cell? ⟨b, 1, none⟩ = some y ∧ Below w.heap.size w w2 ∧ b < w2.heap.size := by
  obtain ⟨h0, h1, hw, hz⟩ := h
  exact ⟨(hb.cell (p := ⟨b, 0, none⟩) hbB).trans h0, (hb.cell (p := ⟨b, 1, none⟩) hbB).trans h1, hw.trans (hb.mono hwB), Nat.lt_of_lt_of_le hz hb.size⟩

set_option maxRecDepth 100000 in
set_option maxHeartbeats 8000000 in
theorem confChanges_of (x : ConfV) (k n : Int) (w : World) (h : FitsF w x) (hn : -9223372036854775808 ≤ n ∧ n ≤ 9223372036854775807) :
    Calls Try.prog 3 #[.agg x.arr, .int .i64 k, .int .i64 n] w fun e w' => e = .returned (.bool true) ∧ Below w.heap.size w w' := by
  have hb1 : Below w.heap.size w (w.alloc (.cells x.arr 24)) := (Below.refl _ _).alloc (Nat.le_refl _) _
  have hx1 : ConfAt (w.alloc (.cells x.arr 24)) w.heap.size x := heap_alloc_new w _
  have lu := h.u.len.1
  have lv := h.v.len.1
  have kf := few15_any x (w.alloc (.cells x.arr 24)) (by have := h.lu; omega) (by have := h.lv; omega)
  by_cases hfew : x.u.n + x.v.n ≤ 200
  case neg =>
    rw [decide_eq_false hfew] at kf
    clear h hx1
    obtain ⟨⟨p, u, c⟩, ⟨q, v, d⟩, f⟩ := x
    unfold ConfV.arr at *
    dsimp only at *
    go_enter Try.func3, Try.ntmps3
    go_wp2_with fail
    refine kf.mono ?_
    rintro e w1 ⟨rfl, hb2⟩
    have hB2 := hb1.trans (hb2.mono hb1.size)
    go_wp2_with fail
    refine (lives15 _).mono ?_
    rintro e w2 ⟨rfl, hb3⟩
    go_wp2
    go_ret
    exact ⟨rfl, hB2.trans (hb3.mono hB2.size)⟩
  rw [decide_eq_true hfew] at kf
  have kc := fun W (hb : Below w.heap.size w W) => change_any x k n W (h.below hb)
  have kr := fun W (hb : Below w.heap.size w W) => rchange_any x k n W (h.below hb) (by omega) (by omega)
  generalize change15 x.f k n = R at *
  have HU : Hid (HasI w (.slice x.u.p x.u.n x.u.c) x.f.vs ∧ x.f.vs.length ≤ 200) := ⟨h.u, by omega⟩
  have HV : Hid (HasI w (.slice x.v.p x.v.n x.v.c) x.f.ls ∧ x.f.ls.length ≤ 200) := ⟨h.v, by omega⟩
  clear h lu lv hfew
  obtain ⟨⟨p, u, c⟩, ⟨q, v, d⟩, f⟩ := x
  unfold ConfV.arr at *
  dsimp only at *
  go_enter Try.func3, Try.ntmps3
  go_wp2_with fail
  refine kf.mono ?_
  rintro e w1 ⟨rfl, hb2⟩
  have hB2 := hb1.trans (hb2.mono hb1.size)
  have hx2 : w1.heap[w.heap.size]? = some (.cells #[.slice p u c, .slice q v d] 24 (0, 0)) := box_below hx1 hb2
  have s0 : (fun W : World => W.cell? ⟨w.heap.size, 0, none⟩ = some (.slice p u c) ∧ W.cell? ⟨w.heap.size, 1, none⟩ = some (.slice q v d) ∧ Below w.heap.size w W ∧ w.heap.size < W.heap.size) w1.drew := ⟨box_cell hx2 0, box_cell hx2 1, ⟨hB2.os, hB2.tape, hB2.output, hB2.size, hB2.block⟩, box_lt hx2⟩
  clear hb1 hb2 hx1 kf hB2 hx2
  go_wp2_with fail
  have hlt : w.heap.size < w1.heap.size := s0.2.2.2
  have hle : w.heap.size ≤ w1.heap.size := Nat.le_of_lt hlt
  apply once_proved9
  case main =>
    intro key
    refine wp_region_held_drew (S := fun W => W.cell? ⟨w.heap.size, 0, none⟩ = some (.slice p u c) ∧ W.cell? ⟨w.heap.size, 1, none⟩ = some (.slice q v d) ∧ Below w.heap.size w W ∧ w.heap.size < W.heap.size) (by kernel_rfl) s0 (fun hS => ?_)
    refine take_yes15 1 (some 18) (Value.pointer (some ⟨w.heap.size, 0, none⟩)) rfl rfl (by kernel_rfl) (by kernel_rfl) (by kernel_rfl) (fun _ _ _ h => h) (by rfl) (by intro W' hW; go_simp) hS ?_
    simp only [Act.put, List.setIfInBounds_toArray, List.set_cons_zero, List.set_cons_succ]
    refine take_yes15 2 (some 19) (Value.slice p u c) rfl rfl (by kernel_rfl) (by kernel_rfl) (by kernel_rfl) (fun _ _ _ h => h) (by rfl) (by intro W' hW; obtain ⟨q0, q1, -, ql⟩ := hW; go_simp) hS ?_
    simp only [Act.put, List.setIfInBounds_toArray, List.set_cons_zero, List.set_cons_succ]
    refine take_yes15 5 (some 22) (Value.pointer (some ⟨w.heap.size, 1, none⟩)) rfl rfl (by kernel_rfl) (by kernel_rfl) (by kernel_rfl) (fun _ _ _ h => h) (by rfl) (by intro W' hW; go_simp) hS ?_
    simp only [Act.put, List.setIfInBounds_toArray, List.set_cons_zero, List.set_cons_succ]
    refine take_yes15 6 (some 23) (Value.slice q v d) rfl rfl (by kernel_rfl) (by kernel_rfl) (by kernel_rfl) (fun _ _ _ h => h) (by rfl) (by intro W' hW; obtain ⟨q0, q1, -, ql⟩ := hW; go_simp) hS ?_
    simp only [Act.put, List.setIfInBounds_toArray, List.set_cons_zero, List.set_cons_succ]
    refine wpAnyH_ready (rs := [0, 4]) (by kernel_rfl) (by simp) ?_
    refine AllReadyH.cons rfl (fun K hK => ?_) (AllReadyH.cons rfl (fun K hK => ?_) AllReadyH.nil)
    · go_simp
      obtain ⟨hA, hbl⟩ := one_new15 (X := w1.drew) (Y := (w1.alloc (.cells #[] 3)).drew) (B := w1.heap.size) rfl (Nat.le_refl _)
      refine hK.out _ _ (keepB15 (hbl.mono (Nat.le_refl _)) hlt hle hS) (fun hS => ?_)
      have hsz : w1.heap.size ≤ ((w1.alloc (.cells #[] 3)).drew).heap.size := hbl.size
      change OwnsI _ _ (.slice (some ⟨w1.heap.size, 0, none⟩) 0 0) [] at hA
      clear hK K hbl
      try simp only [Act.put, List.setIfInBounds_toArray, List.set_cons_zero, List.set_cons_succ]
      generalize Value.slice (some ⟨w1.heap.size, 0, none⟩) 0 0 = vA at *
      generalize (w1.alloc (.cells #[] 3)).drew = W5 at *
      refine wpAnyH_ready (rs := [3, 4]) (by kernel_rfl) (by simp) ?_
      refine AllReadyH.cons rfl (fun K hK => ?_) (AllReadyH.cons rfl (fun K hK => ?_) AllReadyH.nil)
      · refine step_ints15 _ rfl (.tmp 17) (.tmp 19) 20 rfl rfl w1.heap.size vA _ [] f.vs rfl rfl (HU.out.1.below (heldK15 hS) (Nat.le_refl _)) hA (by simp; have := HU.out.2; omega) hsz ?_
        intro va W6 ho hg he1
        rw [List.nil_append] at ho
        refine hK.out _ _ (keepB15 (below_grow15 hA hsz hg) hlt hle hS) (fun hS => ?_)
        have hsz1 := Nat.le_trans hsz hg.size
        clear hK K hA hg
        try simp only [Act.put, List.setIfInBounds_toArray, List.set_cons_zero, List.set_cons_succ]
        refine wpAnyH_ready (rs := [4]) (by kernel_rfl) (by simp) ?_
        refine AllReadyH.cons rfl (fun K hK => ?_) AllReadyH.nil
        go_simp
        obtain ⟨h2, hbl⟩ := two_new15 (X := W6) (Y := W6.alloc (.cells #[] 3)) rfl ho hsz1
        refine hK.out _ _ (keepB15 (hbl.mono hsz1) hlt hle hS) (fun hS => ?_)
        have hsz2 := Nat.le_trans hsz1 hbl.size
        clear hK K hbl
        try simp only [Act.put, List.setIfInBounds_toArray, List.set_cons_zero, List.set_cons_succ]
        generalize Value.slice (some ⟨W6.heap.size, 0, none⟩) 0 0 = vB at *
        generalize W6.alloc (.cells #[] 3) = W7 at *
        refine wpAnyH_ready (rs := [7]) (by kernel_rfl) (by simp) ?_
        refine AllReadyH.cons rfl (fun K hK => ?_) AllReadyH.nil
        refine step_ints15 _ rfl (.tmp 21) (.tmp 23) 24 rfl rfl w1.heap.size vB _ [] f.ls rfl rfl (HV.out.1.below (heldK15 hS) (Nat.le_refl _)) h2.right (by simp; have := HV.out.2; omega) hsz2 ?_
        intro vb W9 ho hg he
        rw [List.nil_append] at ho
        refine hK.out _ _ (keepB15 (below_grow15 h2.right hsz2 hg) hlt hle hS) (fun hS => ?_)
        have hsz4 := Nat.le_trans hsz2 hg.size
        replace h2 := (h2.swap.grow ho hg he).swap
        clear hK K hg he ho
        try simp only [Act.put, List.setIfInBounds_toArray, List.set_cons_zero, List.set_cons_succ]
        refine take_yes15 8 (some 7) (va) rfl rfl (by kernel_rfl) (by kernel_rfl) (by kernel_rfl) (fun _ _ _ h => h) (by rfl) (by intro W' hW; go_simp) hS ?_
        simp only [Act.put, List.setIfInBounds_toArray, List.set_cons_zero, List.set_cons_succ]
        refine take_yes15 9 (some 8) (vb) rfl rfl (by kernel_rfl) (by kernel_rfl) (by kernel_rfl) (fun _ _ _ h => h) (by rfl) (by intro W' hW; go_simp) hS ?_
        simp only [Act.put, List.setIfInBounds_toArray, List.set_cons_zero, List.set_cons_succ]
        refine wpAnyH_done (by kernel_rfl) ?_ _
        have fin := And.intro h2.left (And.intro h2.right hS)
        clear h2 hS hsz hsz1 hsz2 hsz4 ho he1
        revert fin; revert W9; revert vb; revert va; revert vB; revert vA
        exact key.out

      · go_simp
        obtain ⟨h2, hbl⟩ := two_new15 (X := W5) (Y := W5.alloc (.cells #[] 3)) rfl hA hsz
        refine hK.out _ _ (keepB15 (hbl.mono hsz) hlt hle hS) (fun hS => ?_)
        have hsz2 := Nat.le_trans hsz hbl.size
        clear hK K hbl
        try simp only [Act.put, List.setIfInBounds_toArray, List.set_cons_zero, List.set_cons_succ]
        generalize Value.slice (some ⟨W5.heap.size, 0, none⟩) 0 0 = vB at *
        generalize W5.alloc (.cells #[] 3) = W7 at *
        refine wpAnyH_ready (rs := [3]) (by kernel_rfl) (by simp) ?_
        refine AllReadyH.cons rfl (fun K hK => ?_) AllReadyH.nil
        refine step_ints15 _ rfl (.tmp 17) (.tmp 19) 20 rfl rfl w1.heap.size vA _ [] f.vs rfl rfl (HU.out.1.below (heldK15 hS) (Nat.le_refl _)) h2.left (by simp; have := HU.out.2; omega) hsz2 ?_
        intro va W8 ho hg he
        rw [List.nil_append] at ho
        refine hK.out _ _ (keepB15 (below_grow15 h2.left hsz2 hg) hlt hle hS) (fun hS => ?_)
        have hsz3 := Nat.le_trans hsz2 hg.size
        replace h2 := h2.grow ho hg he
        clear hK K hg he ho
        try simp only [Act.put, List.setIfInBounds_toArray, List.set_cons_zero, List.set_cons_succ]
        refine wpAnyH_ready (rs := [7]) (by kernel_rfl) (by simp) ?_
        refine AllReadyH.cons rfl (fun K hK => ?_) AllReadyH.nil
        refine step_ints15 _ rfl (.tmp 21) (.tmp 23) 24 rfl rfl w1.heap.size vB _ [] f.ls rfl rfl (HV.out.1.below (heldK15 hS) (Nat.le_refl _)) h2.right (by simp; have := HV.out.2; omega) hsz3 ?_
        intro vb W9 ho hg he
        rw [List.nil_append] at ho
        refine hK.out _ _ (keepB15 (below_grow15 h2.right hsz3 hg) hlt hle hS) (fun hS => ?_)
        have hsz4 := Nat.le_trans hsz3 hg.size
        replace h2 := (h2.swap.grow ho hg he).swap
        clear hK K hg he ho
        try simp only [Act.put, List.setIfInBounds_toArray, List.set_cons_zero, List.set_cons_succ]
        refine take_yes15 8 (some 7) (va) rfl rfl (by kernel_rfl) (by kernel_rfl) (by kernel_rfl) (fun _ _ _ h => h) (by rfl) (by intro W' hW; go_simp) hS ?_
        simp only [Act.put, List.setIfInBounds_toArray, List.set_cons_zero, List.set_cons_succ]
        refine take_yes15 9 (some 8) (vb) rfl rfl (by kernel_rfl) (by kernel_rfl) (by kernel_rfl) (fun _ _ _ h => h) (by rfl) (by intro W' hW; go_simp) hS ?_
        simp only [Act.put, List.setIfInBounds_toArray, List.set_cons_zero, List.set_cons_succ]
        refine wpAnyH_done (by kernel_rfl) ?_ _
        have fin := And.intro h2.left (And.intro h2.right hS)
        clear h2 hS hsz hsz2 hsz3 hsz4 hA
        revert fin; revert W9; revert vb; revert va; revert vB; revert vA
        exact key.out

    · go_simp
      obtain ⟨hB, hbl⟩ := one_new15 (X := w1.drew) (Y := (w1.alloc (.cells #[] 3)).drew) (B := w1.heap.size) rfl (Nat.le_refl _)
      refine hK.out _ _ (keepB15 (hbl.mono (Nat.le_refl _)) hlt hle hS) (fun hS => ?_)
      have hsz : w1.heap.size ≤ ((w1.alloc (.cells #[] 3)).drew).heap.size := hbl.size
      change OwnsI _ _ (.slice (some ⟨w1.heap.size, 0, none⟩) 0 0) [] at hB
      clear hK K hbl
      try simp only [Act.put, List.setIfInBounds_toArray, List.set_cons_zero, List.set_cons_succ]
      generalize Value.slice (some ⟨w1.heap.size, 0, none⟩) 0 0 = vB at *
      generalize (w1.alloc (.cells #[] 3)).drew = W5 at *
      refine wpAnyH_ready (rs := [0]) (by kernel_rfl) (by simp) ?_
      refine AllReadyH.cons rfl (fun K hK => ?_) AllReadyH.nil
      go_simp
      obtain ⟨h2, hbl⟩ := two_new15 (X := W5) (Y := W5.alloc (.cells #[] 3)) rfl hB hsz
      refine hK.out _ _ (keepB15 (hbl.mono hsz) hlt hle hS) (fun hS => ?_)
      have hsz2 := Nat.le_trans hsz hbl.size
      clear hK K hbl
      try simp only [Act.put, List.setIfInBounds_toArray, List.set_cons_zero, List.set_cons_succ]
      generalize Value.slice (some ⟨W5.heap.size, 0, none⟩) 0 0 = vA at *
      generalize W5.alloc (.cells #[] 3) = W7 at *
      replace h2 := h2.swap
      refine wpAnyH_ready (rs := [3]) (by kernel_rfl) (by simp) ?_
      refine AllReadyH.cons rfl (fun K hK => ?_) AllReadyH.nil
      refine step_ints15 _ rfl (.tmp 17) (.tmp 19) 20 rfl rfl w1.heap.size vA _ [] f.vs rfl rfl (HU.out.1.below (heldK15 hS) (Nat.le_refl _)) h2.left (by simp; have := HU.out.2; omega) hsz2 ?_
      intro va W8 ho hg he
      rw [List.nil_append] at ho
      refine hK.out _ _ (keepB15 (below_grow15 h2.left hsz2 hg) hlt hle hS) (fun hS => ?_)
      have hsz3 := Nat.le_trans hsz2 hg.size
      replace h2 := h2.grow ho hg he
      clear hK K hg he ho
      try simp only [Act.put, List.setIfInBounds_toArray, List.set_cons_zero, List.set_cons_succ]
      refine wpAnyH_ready (rs := [7]) (by kernel_rfl) (by simp) ?_
      refine AllReadyH.cons rfl (fun K hK => ?_) AllReadyH.nil
      refine step_ints15 _ rfl (.tmp 21) (.tmp 23) 24 rfl rfl w1.heap.size vB _ [] f.ls rfl rfl (HV.out.1.below (heldK15 hS) (Nat.le_refl _)) h2.right (by simp; have := HV.out.2; omega) hsz3 ?_
      intro vb W9 ho hg he
      rw [List.nil_append] at ho
      refine hK.out _ _ (keepB15 (below_grow15 h2.right hsz3 hg) hlt hle hS) (fun hS => ?_)
      have hsz4 := Nat.le_trans hsz3 hg.size
      replace h2 := (h2.swap.grow ho hg he).swap
      clear hK K hg he ho
      try simp only [Act.put, List.setIfInBounds_toArray, List.set_cons_zero, List.set_cons_succ]
      refine take_yes15 8 (some 7) (va) rfl rfl (by kernel_rfl) (by kernel_rfl) (by kernel_rfl) (fun _ _ _ h => h) (by rfl) (by intro W' hW; go_simp) hS ?_
      simp only [Act.put, List.setIfInBounds_toArray, List.set_cons_zero, List.set_cons_succ]
      refine take_yes15 9 (some 8) (vb) rfl rfl (by kernel_rfl) (by kernel_rfl) (by kernel_rfl) (fun _ _ _ h => h) (by rfl) (by intro W' hW; go_simp) hS ?_
      simp only [Act.put, List.setIfInBounds_toArray, List.set_cons_zero, List.set_cons_succ]
      refine wpAnyH_done (by kernel_rfl) ?_ _
      have fin := And.intro h2.left (And.intro h2.right hS)
      clear h2 hS hsz hsz2 hsz3 hsz4 hB
      revert fin; revert W9; revert vb; revert va; revert vB; revert vA
      exact key.out
  case proof =>
    intro vA vB va vb W9 fin
    obtain ⟨hL, hR, hS⟩ := fin
    obtain ⟨c0, c1, hB9, hlt9⟩ := hS
    obtain ⟨pa, na, ca, rfl⟩ := hL.has.form15
    obtain ⟨pb, nb, cb, rfl⟩ := hR.has.form15
    have HL : Hid (HasI W9 (.slice pa na ca) f.vs) := hL.has
    have HR : Hid (HasI W9 (.slice pb nb cb) f.ls) := hR.has
    clear hL hR s0 hlt hle
    go_wp2_with fail
    refine (kc _ hB9).mono ?_
    rintro e w10 ⟨⟨⟨p2, u2, c2⟩, ⟨q2, v2, d2⟩, f2⟩, rfl, hf2, hO2, hb10⟩
    dsimp only at hf2
    subst hf2
    dsimp only
    obtain ⟨hz11, hb11⟩ := box15_new w10 p2 u2 c2 q2 v2 d2 R.1
    have h911 := hb10.trans (hb11.mono hb10.size)
    have hB11 := hB9.trans (h911.mono hB9.size)
    have hF11 := (hO2.below hb11).fits
    have c0' := (h911.cell (p := ⟨w.heap.size, 0, none⟩) hlt9).trans c0
    have c1' := (h911.cell (p := ⟨w.heap.size, 1, none⟩) hlt9).trans c1
    have hlt11 := Nat.lt_of_lt_of_le hlt9 h911.size
    clear kc hO2 hb10 c0 c1 hb11
    go_upto_region 5 with fail
    generalize w10.alloc (.cells #[.slice p2 u2 c2, .slice q2 v2 d2] 24) = W11 at *
    generalize w10.heap.size = g at *
    go_wp2_with fail
    refine (kr _ hB11).mono ?_
    rintro e w12 ⟨⟨⟨p3, u3, c3⟩, ⟨q3, v3, d3⟩, f3⟩, rfl, hf3, hO3, hb12⟩
    dsimp only at hf3
    subst hf3
    dsimp only
    obtain ⟨hy13, hb13⟩ := box15_new w12 p3 u3 c3 q3 v3 d3 R.1
    have h1113 := hb12.trans (hb13.mono hb12.size)
    have hB13 := hB11.trans (h1113.mono hB11.size)
    have h913 := h911.trans (h1113.mono h911.size)
    have hF13 := (hO3.below hb13).fits
    have hG13 := hF11.below h1113
    have hz13 : (w12.alloc (.cells #[.slice p3 u3 c3, .slice q3 v3 d3] 24)).heap[g]? = some (.cells #[.slice p2 u2 c2, .slice q2 v2 d2] 24 (0, 0)) := box_below hz11 h1113
    have c0 := (h1113.cell (p := ⟨w.heap.size, 0, none⟩) hlt11).trans c0'
    have c1 := (h1113.cell (p := ⟨w.heap.size, 1, none⟩) hlt11).trans c1'
    have hlt13 := Nat.lt_of_lt_of_le hlt11 h1113.size
    clear kr hO3 hb12 hb13 c0' c1' h911 hB11 hF11 h1113 hz11 hlt11 hB9
    go_upto_region 6 with fail
    have hy13' : (w12.alloc (.cells #[.slice p3 u3 c3, .slice q3 v3 d3] 24)).heap[w12.heap.size]? = some (.cells #[.slice p3 u3 c3, .slice q3 v3 d3] 24 (0, 0)) := hy13
    clear hy13
    generalize w12.alloc (.cells #[.slice p3 u3 c3, .slice q3 v3 d3] 24) = W13 at *
    generalize w12.heap.size = g2 at *
    have hss : sameF10 R.1 R.1 = true := by simp [sameF10]
    have ks := rsameConf_any _ _ W13 hG13 hF13
    dsimp only [ConfV.arr] at ks
    rw [hss] at ks
    have d0 := box_cell hz13 0
    have d1 := box_cell hz13 1
    have e0 := box_cell hy13' 0
    have e1 := box_cell hy13' 1
    have l1 := box_lt hz13
    have l2 := box_lt hy13'
    clear hss hG13 hF13 hz13 hy13'
    go_wp2_with fail
    refine ks.mono ?_
    rintro e w14 ⟨rfl, hb14⟩
    have c0' := (hb14.cell (p := ⟨w.heap.size, 0, none⟩) hlt13).trans c0
    have c1' := (hb14.cell (p := ⟨w.heap.size, 1, none⟩) hlt13).trans c1
    have hB14 := hB13.trans (hb14.mono hB13.size)
    have h914 := h913.trans (hb14.mono h913.size)
    have hlt14 := Nat.lt_of_lt_of_le hlt13 hb14.size
    clear ks d0 d1 e0 e1 l1 l2 c0 c1 hb14 hB13 h913 hlt13
    have ku := undo15_any k w14
    have kru := rundo15_any k w14
    generalize undo15 k = uk at *
    go_wp2_with fail
    refine same_mono ku ?_
    go_wp2_with fail
    refine same_mono kru ?_
    clear ku kru
    go_wp2_with fail
    refine (begin_any n w14 hn).mono ?_
    rintro e w15 ⟨⟨⟨p4, u4, c4⟩, ⟨q4, v4, d4⟩, f4⟩, rfl, hf4, hO4, hb15⟩
    dsimp only at hf4
    subst hf4
    go_wp2_with fail
    refine (rbegin_any n w15 hn).mono ?_
    rintro e w16 ⟨⟨⟨p5, u5, c5⟩, ⟨q5, v5, d5⟩, f5⟩, rfl, hf5, hO5, hb16⟩
    dsimp only at hf5
    subst hf5
    have ks := rsameConf_any _ _ w16 (hO4.below hb16).fits hO5.fits
    rw [show sameF10 (⟨begin15 n, []⟩ : Conf10) ⟨begin15 n, []⟩ = true by simp [sameF10]] at ks
    have h1416 := hb15.trans (hb16.mono hb15.size)
    clear hO4 hO5 hb15 hb16
    go_wp2_with fail
    refine ks.mono ?_
    rintro e w17 ⟨rfl, hb17⟩
    have h1417 := h1416.trans (hb17.mono h1416.size)
    have c0 := (h1417.cell (p := ⟨w.heap.size, 0, none⟩) hlt14).trans c0'
    have c1 := (h1417.cell (p := ⟨w.heap.size, 1, none⟩) hlt14).trans c1'
    have hlt17 := Nat.lt_of_lt_of_le hlt14 h1417.size
    have hB17 := hB14.trans (h1417.mono hB14.size)
    have h917 := h914.trans (h1417.mono h914.size)
    clear ks h1416 hb17 c0' c1' hlt14 hB14 h914 h1417
    have kI := ints_same15 _ _ _ w17 (HU.out.1.below hB17 (Nat.le_refl _)) (HL.out.below h917 (Nat.le_refl _)) (by have := HU.out.2; omega)
    go_wp2_with fail
    refine kI.mono ?_
    rintro e w18 ⟨rfl, hb18⟩
    have c1' := (hb18.cell (p := ⟨w.heap.size, 1, none⟩) hlt17).trans c1
    have hlt18 := Nat.lt_of_lt_of_le hlt17 hb18.size
    have hB18 := hB17.trans (hb18.mono hB17.size)
    have h918 := h917.trans (hb18.mono h917.size)
    clear kI c0 c1 hlt17 hB17 h917 hb18
    have kI := ints_same15 _ _ _ w18 (HV.out.1.below hB18 (Nat.le_refl _)) (HR.out.below h918 (Nat.le_refl _)) (by have := HV.out.2; omega)
    go_wp2_with fail
    refine kI.mono ?_
    rintro e w19 ⟨rfl, hb19⟩
    have hB19 := hB18.trans (hb19.mono hB18.size)
    clear kI c1' hlt18 hB18 h918 hb19
    go_wp2_with fail
    refine (lives15 _).mono ?_
    rintro e w20 ⟨rfl, hb20⟩
    go_wp2
    go_ret
    exact ⟨rfl, hB19.trans (hb20.mono hB19.size)⟩
theorem confChanges_row (x : ConfV) (k n : Int) (w : World) (h : FitsF w x) (_hk : -9223372036854775808 ≤ k ∧ k ≤ 9223372036854775807) (hn : -9223372036854775808 ≤ n ∧ n ≤ 9223372036854775807) :
    Calls Try.prog 3 #[.agg x.arr, .int .i64 k, .int .i64 n] w fun e w' => e = .returned (.bool true) ∧ Below w.heap.size w w' := confChanges_of x k n w h hn
end Go.Proofs.Ytkocomfcjklgcaa

import Derived.Test.YtefgnehahedckaaDkRTo
/-
  Contracts: Create and Rename; how a file is laid into the map, and how it comes to another name.
-/
namespace Go.Proofs.Ytefgnehahedckaa
open Go.RowKit Go.Maps

section
variable {w w' w'' : World} {d : Nat} {S : Nat → Prop} {φ : ByteArray → Nat} {σ : ByteArray → Value} {mb : Nat} {vb : Value} {R : RD} {M : DM}
/-- A new file, laid into the map. -/
theorem Lies8.putM (h : Lies8 w d S φ σ mb vb R) {x : ByteArray} (hx : x ∉ R.names) {fk : Nat} (hf : w.heap[fk]? = some (.cells #[.slice none 0 0, .int .i64 0] 79 (0, 0))) (hnew : ∀ y ∈ R.names, φ y ≠ fk) (hSf : S fk)
    (hm : MapAt w' mb (x :: R.names) (upd φ x fk) (R.mn + 1)) (hg : w.grownBy w' (some mb)) : Lies8 w' d S (upd φ x fk) (upd σ x (.slice none 0 0)) mb vb { R with names := x :: R.names, bt := upd R.bt x [], su := upd R.su x 0, mn := R.mn + 1 } := by
  obtain ⟨es, cl, hmb⟩ := h.map.block
  have hfl : fk < w.heap.size := (Array.getElem?_eq_some_iff.1 hf).1
  have hfm : fk ≠ mb := fun e => by rw [e, hmb] at hf; cases hf
  have hold : ∀ y ∈ R.names, y ≠ x := fun y hy e => hx (e ▸ hy)
  refine ⟨(hg.block d h.lt fun e => h.dM (Option.some.inj e).symm).trans h.obj, hm, ?_, fun y hy => ?_, fun y hy => ?_, fun y hy z hz hyz => ?_, fun y hy z hz hyz g h1 h2 => ?_, fun v hv => List.mem_cons_of_mem _ (h.mem v hv), h.sD, h.sM, h.sB, fun y hy => ?_, fun y hy g h1 => ?_⟩
  · have : writesV (upd φ x fk) R.wr = writesV φ R.wr := writesV_congr fun v hv => upd_ne (hold _ (h.mem v hv))
    show w'.ownsRow 0 _ 2 vb R.wr.length (writesV (upd φ x fk) R.wr)
    rw [this]
    exact row_same h.buf fun g hgb => hg.block g (h.ltB hgb) fun e => h.mB (by rw [hgb, e])
  · show w'.heap[upd φ x fk y]? = some (.cells #[upd σ x _ y, .int .i64 (upd R.su x 0 y : Nat)] _ _)
    rcases List.mem_cons.1 hy with rfl | hy
    · rw [upd_at, upd_at, upd_at]
      exact (hg.block fk hfl fun e => hfm (Option.some.inj e)).trans hf
    · rw [upd_ne (hold y hy), upd_ne (hold y hy), upd_ne (hold y hy)]
      exact (hg.block _ (h.ltF hy) fun e => h.mF hy (Option.some.inj e)).trans (h.file y hy)
  · show Owns w' 0 _ (upd σ x _ y) (upd R.bt x [] y)
    rcases List.mem_cons.1 hy with rfl | hy
    · rw [upd_at, upd_at]
      exact Owns.nil _ _ _
    · rw [upd_ne (hold y hy), upd_ne (hold y hy)]
      exact row_same (h.row y hy) fun g hgb => hg.block g (h.ltR hy hgb) fun e => h.mR hy (by rw [hgb, e])
  · rcases List.mem_cons.1 hy with e | hy'
    · rcases List.mem_cons.1 hz with e2 | hz'
      · exact absurd (e.trans e2.symm) hyz
      · rw [e, upd_at, upd_ne (hold z hz')]; exact (hnew z hz').symm
    · rcases List.mem_cons.1 hz with e2 | hz'
      · rw [e2, upd_at, upd_ne (hold y hy')]; exact hnew y hy'
      · rw [upd_ne (hold y hy'), upd_ne (hold z hz')]; exact h.inj y hy' z hz' hyz
  · rcases List.mem_cons.1 hy with e | hy'
    · rw [e, upd_at] at h1; cases h1
    · rw [upd_ne (hold y hy')] at h1
      rcases List.mem_cons.1 hz with e2 | hz'
      · rw [e2, upd_at] at h2; cases h2
      · rw [upd_ne (hold z hz')] at h2
        exact h.apart y hy' z hz' hyz g h1 h2
  · rcases List.mem_cons.1 hy with rfl | hy
    · rw [upd_at]; exact hSf
    · rw [upd_ne (hold y hy)]; exact h.sF y hy
  · rcases List.mem_cons.1 hy with rfl | hy
    · rw [upd_at] at h1; cases h1
    · rw [upd_ne (hold y hy)] at h1; exact h.sR y hy g h1
def renW (l : List (ByteArray × Nat)) (a b : ByteArray) : List (ByteArray × Nat) := l.map fun v => if v.1 = a then (b, v.2) else v
theorem renW_length (l : List (ByteArray × Nat)) (a b : ByteArray) : (renW l a b).length = l.length := List.length_map _
theorem writesV_ren {φ : ByteArray → Nat} {a b : ByteArray} : ∀ {l : List (ByteArray × Nat)}, (∀ v ∈ l, v.1 ≠ b) → writesV (upd φ b (φ a)) (renW l a b) = writesV φ l
  | [], _ => rfl
  | v :: l, h => by
    have ih := writesV_ren (φ := φ) (a := a) (l := l) fun u hu => h u (List.mem_cons_of_mem _ hu)
    show writesV _ ((if v.1 = a then (b, v.2) else v) :: renW l a b) = _
    rw [writesV_cons, ih, writesV_cons]
    by_cases e : v.1 = a
    · rw [if_pos e, upd_at, e]
    · rw [if_neg e, upd_ne (h v List.mem_cons_self)]
/-- A file comes to another name, which no file has. -/
theorem Lies8.renM (h : Lies8 w d S φ σ mb vb R) {a b : ByteArray} (ha : a ∈ R.names) (hb : b ∉ R.names) (hm : MapAt w' mb (b :: without R.names a) (upd φ b (φ a)) (R.mn + 1)) (hg : w.grownBy w' (some mb)) :
    Lies8 w' d S (upd φ b (φ a)) (upd σ b (σ a)) mb vb { R with names := b :: without R.names a, bt := upd R.bt b (R.bt a), su := upd R.su b (R.su a), wr := renW R.wr a b, mn := R.mn + 1 } := by
  have hne : ∀ y ∈ R.names, y ≠ b := fun y hy e => hb (e ▸ hy)
  have hab : a ≠ b := hne a ha
  have key : ∀ y, y ∈ b :: without R.names a → ∃ z ∈ R.names, upd φ b (φ a) y = φ z ∧ upd σ b (σ a) y = σ z ∧ upd R.bt b (R.bt a) y = R.bt z ∧ upd R.su b (R.su a) y = R.su z ∧ (y = b ∧ z = a ∨ y = z ∧ y ≠ b ∧ y ≠ a) := by
    intro y hy
    rcases List.mem_cons.1 hy with rfl | hy
    · exact ⟨a, ha, upd_at .., upd_at .., upd_at .., upd_at .., .inl ⟨rfl, rfl⟩⟩
    · obtain ⟨h1, h2⟩ := (mem_without _ _ _).1 hy
      exact ⟨y, h1, upd_ne (hne y h1), upd_ne (hne y h1), upd_ne (hne y h1), upd_ne (hne y h1), .inr ⟨rfl, hne y h1, h2⟩⟩
  have dist : ∀ y z u v, (y = b ∧ u = a ∨ y = u ∧ y ≠ b ∧ y ≠ a) → (z = b ∧ v = a ∨ z = v ∧ z ≠ b ∧ z ≠ a) → y ≠ z → u ≠ v := by
    rintro y z u v (⟨rfl, rfl⟩ | ⟨rfl, h1, h2⟩) (⟨rfl, rfl⟩ | ⟨rfl, h3, h4⟩) hyz
    · exact absurd rfl hyz
    · exact Ne.symm h4
    · exact h2
    · exact hyz
  refine ⟨(hg.block d h.lt fun e => h.dM (Option.some.inj e).symm).trans h.obj, hm, ?_, fun y hy => ?_, fun y hy => ?_, fun y hy z hz hyz => ?_, fun y hy z hz hyz g h1 h2 => ?_, fun v hv => ?_, h.sD, h.sM, h.sB, fun y hy => ?_, fun y hy g h1 => ?_⟩
  · show w'.ownsRow 0 _ 2 vb (renW R.wr a b).length (writesV (upd φ b (φ a)) (renW R.wr a b))
    rw [writesV_ren fun v hv => hne _ (h.mem v hv), renW_length]
    exact row_same h.buf fun g hgb => hg.block g (h.ltB hgb) fun e => h.mB (by rw [hgb, e])
  · obtain ⟨z, hz, e1, e2, _, e4, _⟩ := key y hy
    show w'.heap[upd φ b (φ a) y]? = some (.cells #[upd σ b (σ a) y, .int .i64 (upd R.su b (R.su a) y : Nat)] _ _)
    rw [e1, e2, e4]
    exact (hg.block _ (h.ltF hz) fun e => h.mF hz (Option.some.inj e)).trans (h.file z hz)
  · obtain ⟨z, hz, _, e2, e3, _, _⟩ := key y hy
    show Owns w' 0 _ (upd σ b (σ a) y) (upd R.bt b (R.bt a) y)
    rw [e2, e3]
    exact row_same (h.row z hz) fun g hgb => hg.block g (h.ltR hz hgb) fun e => h.mR hz (by rw [hgb, e])
  · obtain ⟨u, hu, e1, _, _, _, k1⟩ := key y hy
    obtain ⟨v, hv, f1, _, _, _, k2⟩ := key z hz
    rw [e1, f1]
    exact h.inj u hu v hv (dist _ _ _ _ k1 k2 hyz)
  · obtain ⟨u, hu, _, e2, _, _, k1⟩ := key y hy
    obtain ⟨v, hv, _, f2, _, _, k2⟩ := key z hz
    rw [e2] at h1
    rw [f2] at h2
    exact h.apart u hu v hv (dist _ _ _ _ k1 k2 hyz) g h1 h2
  · obtain ⟨u, hu, rfl⟩ := List.mem_map.1 hv
    by_cases e : u.1 = a
    · rw [if_pos e]; exact List.mem_cons_self
    · rw [if_neg e]; exact List.mem_cons_of_mem _ ((mem_without _ _ _).2 ⟨h.mem u hu, e⟩)
  · obtain ⟨u, hu, e1, _⟩ := key y hy
    rw [e1]; exact h.sF u hu
  · obtain ⟨u, hu, _, e2, _⟩ := key y hy
    rw [e2] at h1; exact h.sR u hu g h1
end
end Go.Proofs.Ytefgnehahedckaa

/-
  Contract: Create.
-/
namespace Go.Proofs.Ytefgnehahedckaa
open Go.RowKit Go.Maps

section
variable {w w' w'' : World} {d : Nat} {S : Nat → Prop} {φ : ByteArray → Nat} {σ : ByteArray → Value} {mb : Nat} {vb : Value} {R : RD} {M : DM}
theorem Lies8.norm (h : Lies8 w d S φ σ mb vb R) (hnd : R.names.Nodup) (hsz : ∀ x ∈ R.names, x.size ≤ maxLen) : Lies8 w d S φ σ mb vb { R with mn := R.names.length } :=
  ⟨h.obj, h.map.norm hnd hsz, h.buf, h.file, h.row, h.inj, h.apart, h.mem, h.sD, h.sM, h.sB, h.sF, h.sR⟩
theorem DM.Inv.short (hI : M.Inv) : ∀ x ∈ M.names, x.size ≤ maxLen := fun x hx => by have := good_size (hI.good x hx); unfold maxLen; omega
/-- The disk with its names counted in the map. -/
theorem DiskAt.open8 (hD : DiskAt w d S M) (hI : M.Inv) : ∃ φ σ mb vb kv, Lies8 w d S φ σ mb vb (M.raw M.names.length kv) ∧ (M.n ≠ 0 → kv = M.keep) ∧ M.names.length ≤ 16777216 := by
  obtain ⟨φ, σ, mb, vb, mn, kv, h, hkv⟩ := hD
  refine ⟨φ, σ, mb, vb, kv, h.norm hI.nodup hI.short, hkv, ?_⟩
  have := hI.count
  show (nms M.L).length ≤ _
  unfold nms
  rw [List.length_map]
  exact this
theorem bytes_put (hI : M.Inv) {x : ByteArray} (hx : x ∉ M.names) (y : ByteArray) : (M.put x []).bytes y = upd M.bytes x [] y ∧ lk (M.put x []).L y = upd (lk M.L) x [] y := by
  have h1 : lk (insF x [] M.L) y = if y = x then [] else lk M.L y := lk_ins hx
  have hp : pend M.buf x = [] := pend_none fun w hw (e : w.1 = x) => hx (by rw [← e]; exact hI.mem w hw)
  refine ⟨?_, h1⟩
  show lk (insF x [] M.L) y ++ pend M.buf y = if y = x then [] else lk M.L y ++ pend M.buf y
  rw [h1]
  by_cases e : y = x
  · rw [if_pos e, if_pos e, e, hp]; rfl
  · rw [if_neg e, if_neg e]
/-- The end of Create: a new file is laid into the map, and its block counted. -/
theorem put_lies {kv : Int} {vb : Value} (hI : M.Inv) {x : ByteArray} (hx : x ∉ M.names) {mn mn' : Nat} (h : Lies8 w d S φ σ mb vb { M.raw mn kv with names := x :: M.names, bt := upd M.bytes x [], su := upd (fun y => (lk M.L y).length) x 0, mn := mn', used := (M.used : Nat) + 1 }) : Lies8 w d S φ σ mb vb ((M.put x []).raw mn' kv) := by
  refine h.congr (fun y => ?_) (fun y _ => (bytes_put hI hx y).1) (fun y _ => ?_) rfl rfl rfl rfl ?_ rfl rfl rfl rfl
  · exact (DM.names_put M x y []).trans List.mem_cons.symm
  · show (lk (M.put x []).L y).length = upd (fun y => (lk M.L y).length) x 0 y
    rw [(bytes_put hI hx y).2]
    by_cases e : y = x
    · rw [e, upd_at, upd_at]; rfl
    · rw [upd_ne e, upd_ne e]
  · show (((M.put x []).used : Nat) : Int) = (M.used : Nat) + 1
    rw [DM.used_put M hI hx]
    omega
theorem blocks_new (k : Nat) (w : World) (h : w.cell? ⟨k, 0, none⟩ = some (.slice none 0 0)) : Calls Try.prog 54 #[.pointer (some ⟨k, 0, none⟩)] w fun e w' => e = .returned (.int .i64 1) ∧ w' = w :=
  blocks_any k none 0 0 w h (by decide)
set_option maxRecDepth 10000 in
set_option maxHeartbeats 2000000 in
theorem create_any (hD : DiskAt w d S M) (hO : M.Ok) (hS : ∀ k, w.heap.size ≤ k → S k) {x : ByteArray} (hs : x.size ≤ maxLen) :
    Calls Try.prog 17 #[.pointer (some ⟨d, 0, none⟩), .string x] w fun e w' => e = .returned (.int .i64 ((M.create x).1 : Nat)) ∧ DiskAt w' d S (M.create x).2 ∧ Turn S w w' := by
  cases hf : M.off with
  | true =>
    have e : M.create x = (9, M) := by unfold DM.create; rw [if_pos hf]
    rw [e]
    have hr := ready_off hD hf
    go_enter Try.func17, Try.ntmps17
    go_wp2_with fail
    refine same_mono hr ?_
    go_wp2
    go_ret
    exact ⟨rfl, hD, Turn.refl _ _⟩
  | false =>
    have hr := ready_on hD hf
    have hgd := good_any x hs
    cases hg : goodN x with
    | false =>
      have e : M.create x = (3, M) := by unfold DM.create; rw [if_neg (by rw [hf]; decide), if_pos hg]
      rw [e]
      rw [hg] at hgd
      go_enter Try.func17, Try.ntmps17
      go_wp2_with fail
      refine same_mono hr ?_
      go_wp2_with fail
      refine same_mono (hgd _) ?_
      go_wp2
      go_ret
      exact ⟨rfl, hD, Turn.refl _ _⟩
    | true =>
      rw [hg] at hgd
      cases hbe : M.begins with
      | false =>
        have e : M.create x = (9, M.begun) := by unfold DM.create DM.act; rw [if_neg (by rw [hf]; decide), if_neg (by rw [hg]; decide), hbe]; rfl
        rw [e]
        have hb := begin_no hD hO hS hbe
        go_enter Try.func17, Try.ntmps17
        go_wp2_with fail
        refine same_mono hr ?_
        go_wp2_with fail
        refine same_mono (hgd _) ?_
        go_wp2_with fail
        refine hb.mono ?_
        rintro e w2 ⟨rfl, r1, r2⟩
        go_wp2
        go_ret
        exact ⟨rfl, r1, r2⟩
      | true =>
        have e : M.create x = M.begun.create1 x := by unfold DM.create DM.act; rw [if_neg (by rw [hf]; decide), if_neg (by rw [hg]; decide), hbe]; rfl
        rw [e]
        have hb := begin_yes hD hO hS hbe
        have hI1 := hO.inv.begun
        generalize M.begun = M1 at *
        clear e hO hD hf hbe
        go_enter Try.func17, Try.ntmps17
        go_wp2_with fail
        refine same_mono hr ?_
        go_wp2_with fail
        refine same_mono (hgd _) ?_
        go_wp2_with fail
        refine hb.mono ?_
        rintro e w2 ⟨rfl, r1, r2⟩
        clear hr hgd hb
        obtain ⟨φ, σ, mb, vb, kv, h2, hkv, -⟩ := r1.open8 hI1
        obtain ⟨c0, -, -, g3, g4, -⟩ := h2.cells
        have c3 : w2.cell? ⟨d, 3, none⟩ = some (.int .i64 (M1.blocks : Nat)) := g3
        have c4 : w2.cell? ⟨d, 4, none⟩ = some (.int .i64 (M1.used : Nat)) := g4
        clear g3 g4
        by_cases hx : x ∈ M1.names
        · have hl : ∀ n, (Instr.lookup 54 (.map (some mb)) (.string x) false).run Try.prog (w2.drewN n) = .ok (.pointer (some ⟨φ x, 0, none⟩)) (w2.drewN n) := fun n => (h2.drewN n).map.look_yes hs hx
          have Hc : Hid (M1.create1 x = (0, (M1.gone x).put x [])) := by show _ = _; unfold DM.create1; rw [if_pos hx]
          clear h2
          go_wp2_with fail
          refine wp_region_quiet_lit (by kernel_rfl) (by kernel_rfl) ?_
          repeat (go_big_quiet_step (fail))
          refine wpQuiet_nil ?_
          rintro _ ⟨nq, rfl⟩
          go_wp2_with fail
          refine (dropM ((r1.same (w' := w2.drewN nq) fun _ _ _ => rfl)) hI1 (fun k hk => hS k (Nat.le_trans r2.size hk)) hs).mono ?_
          rintro e w3 ⟨⟨v, rfl⟩, r3, r4⟩
          have t3 : Turn S w w3 := (r2.drewN nq).trans r4
          obtain ⟨φ3, σ3, mb3, vb3, kv3, h3, hkv3, hcnt⟩ := r3.open8 (hI1.gone x)
          clear r1 r2 r3 r4 c0 c3 c4 hl
          have hxg : x ∉ (M1.gone x).names := fun hm => ((DM.names_gone M1 x x).1 hm).2 rfl
          have hIg := hI1.gone x
          generalize M1.gone x = M2 at *
          have hba : Below w3.heap.size w3 (w3.alloc (.cells #[.slice none 0 0, .int .i64 0] 79)) := (Below.refl _ _).alloc (Nat.le_refl _) _
          have hA := heap_alloc_new w3 (.cells #[.slice none 0 0, .int .i64 0] 79)
          have hza : (w3.alloc (.cells #[.slice none 0 0, .int .i64 0] 79)).heap.size = w3.heap.size + 1 := by simp
          have h4 := h3.below hba
          have t4 : Turn S w (w3.alloc (.cells #[.slice none 0 0, .int .i64 0] 79)) := t3.alloc _
          have hnew : ∀ y ∈ M2.names, φ3 y ≠ w3.heap.size := fun y hy => Nat.ne_of_lt (h3.ltF hy)
          have hSf : S w3.heap.size := hS _ t3.size
          have hdl := h3.lt
          obtain ⟨m0, -⟩ := h3.cells
          obtain ⟨w5, hrun, hm5, hg5⟩ := h4.map.store (by show M2.names.length < maxLen; unfold maxLen; omega) hs w3.heap.size
          have h5 := h4.putM hxg hA hnew hSf hm5 hg5
          have t5 := t4.grown hg5 fun k hk => .inl (by cases hk; exact h3.sM)
          clear h4 hm5 hg5
          go_wp2_with fail
          generalize w3.alloc (.cells #[.slice none 0 0, .int .i64 0] 79) = wa at *
          generalize w3.heap.size = fk at *
          clear h3
          obtain ⟨-, -, -, -, c4, -, -, -, -, cf⟩ := h5.cells
          have c4' : w5.cell? ⟨d, 4, none⟩ = some (.int .i64 (M2.used : Nat)) := c4
          have k0 := (h5.fcells (x := x) List.mem_cons_self).1
          rw [upd_at, upd_at] at k0
          obtain ⟨z1, -, -⟩ := hIg.sizes
          obtain ⟨u, Hu⟩ : ∃ u, Hid (M2.used = u) := ⟨_, rfl⟩
          rw [Hu.out] at z1 c4'
          clear c4
          refine wp_last (by kernel_rfl) (by kernel_rfl) ?_
          dsimp only [initL, lastL]
          repeat (go_big_quiet_step ((go_at_call 54; exact Calls.quiet_of_same (blocks_new fk _ k0))))
          refine wpQuiet_nil ?_
          rintro _ ⟨nr, rfl⟩
          gi_wp2
          have h6 := (h5.drewN nr).setD 4 (.int .i64 ((u : Nat) + 1)) { M2.raw M2.names.length kv3 with names := x :: M2.names, bt := upd M2.bytes x [], su := upd (fun y => (lk M2.L y).length) x 0, mn := M2.names.length + 1, used := (u : Nat) + 1 } rfl rfl rfl rfl rfl rfl
          have t6 := (t5.drewN nr).setCell (p := ⟨d, 4, none⟩) (.inl h5.sD) (.int .i64 ((u : Nat) + 1))
          rw [← Hu.out] at h6
          have h7 := put_lies hIg hxg h6
          rw [Hu.out] at h7
          generalize (w5.drewN nr).setCell ⟨d, 4, none⟩ (.int .i64 ((u : Nat) + 1)) = w6 at *
          clear h5 h6 t5 c4' k0
          go_wp2
          go_ret
          refine ⟨by rw [Hc.out]; rfl, ?_, t6⟩
          rw [Hc.out]
          exact ⟨_, _, _, _, _, _, h7, hkv3⟩
        · have hl : ∀ n, (Instr.lookup 54 (.map (some mb)) (.string x) false).run Try.prog (w2.drewN n) = .ok (.pointer none) (w2.drewN n) := fun n => (h2.drewN n).map.look_no hs hx
          have hfit := hI1.fits
          by_cases hu : M1.blocks ≤ M1.used
          · have Hc : Hid (M1.create1 x = (7, M1)) := by show _ = _; unfold DM.create1; rw [if_neg hx, if_pos hu]
            have hub : ((M1.used : Int) == (M1.blocks : Int)) = true := by rw [beq_iff_eq]; omega
            go_wp2_with fail
            refine wp_region_quiet_lit (by kernel_rfl) (by kernel_rfl) ?_
            repeat (go_big_quiet_step (fail))
            refine wpQuiet_nil ?_
            rintro _ ⟨nq, rfl⟩
            go_wp2
            go_ret
            exact ⟨by rw [Hc.out]; rfl, by rw [Hc.out]; exact r1.same fun _ _ _ => rfl, r2.drewN nq⟩
          · have Hc : Hid (M1.create1 x = (0, (M1.gone x).put x [])) := by show _ = _; rw [DM.gone_none hI1 hx]; unfold DM.create1; rw [if_neg hx, if_neg hu]
            have hub : ((M1.used : Int) == (M1.blocks : Int)) = false := by rw [beq_eq_false_iff_ne]; omega
            clear h2
            go_wp2_with fail
            refine wp_region_quiet_lit (by kernel_rfl) (by kernel_rfl) ?_
            repeat (go_big_quiet_step (fail))
            refine wpQuiet_nil ?_
            rintro _ ⟨nq, rfl⟩
            go_wp2_with fail
            refine (dropM ((r1.same (w' := w2.drewN nq) fun _ _ _ => rfl)) hI1 (fun k hk => hS k (Nat.le_trans r2.size hk)) hs).mono ?_
            rintro e w3 ⟨⟨v, rfl⟩, r3, r4⟩
            have t3 : Turn S w w3 := (r2.drewN nq).trans r4
            obtain ⟨φ3, σ3, mb3, vb3, kv3, h3, hkv3, hcnt⟩ := r3.open8 (hI1.gone x)
            clear r1 r2 r3 r4 c0 c3 c4 hl
            have hxg : x ∉ (M1.gone x).names := fun hm => ((DM.names_gone M1 x x).1 hm).2 rfl
            have hIg := hI1.gone x
            generalize M1.gone x = M2 at *
            have hba : Below w3.heap.size w3 (w3.alloc (.cells #[.slice none 0 0, .int .i64 0] 79)) := (Below.refl _ _).alloc (Nat.le_refl _) _
            have hA := heap_alloc_new w3 (.cells #[.slice none 0 0, .int .i64 0] 79)
            have hza : (w3.alloc (.cells #[.slice none 0 0, .int .i64 0] 79)).heap.size = w3.heap.size + 1 := by simp
            have h4 := h3.below hba
            have t4 : Turn S w (w3.alloc (.cells #[.slice none 0 0, .int .i64 0] 79)) := t3.alloc _
            have hnew : ∀ y ∈ M2.names, φ3 y ≠ w3.heap.size := fun y hy => Nat.ne_of_lt (h3.ltF hy)
            have hSf : S w3.heap.size := hS _ t3.size
            have hdl := h3.lt
            obtain ⟨m0, -⟩ := h3.cells
            obtain ⟨w5, hrun, hm5, hg5⟩ := h4.map.store (by show M2.names.length < maxLen; unfold maxLen; omega) hs w3.heap.size
            have h5 := h4.putM hxg hA hnew hSf hm5 hg5
            have t5 := t4.grown hg5 fun k hk => .inl (by cases hk; exact h3.sM)
            clear h4 hm5 hg5
            go_wp2_with fail
            generalize w3.alloc (.cells #[.slice none 0 0, .int .i64 0] 79) = wa at *
            generalize w3.heap.size = fk at *
            clear h3
            obtain ⟨-, -, -, -, c4, -, -, -, -, cf⟩ := h5.cells
            have c4' : w5.cell? ⟨d, 4, none⟩ = some (.int .i64 (M2.used : Nat)) := c4
            have k0 := (h5.fcells (x := x) List.mem_cons_self).1
            rw [upd_at, upd_at] at k0
            obtain ⟨z1, -, -⟩ := hIg.sizes
            obtain ⟨u, Hu⟩ : ∃ u, Hid (M2.used = u) := ⟨_, rfl⟩
            rw [Hu.out] at z1 c4'
            clear c4
            refine wp_last (by kernel_rfl) (by kernel_rfl) ?_
            dsimp only [initL, lastL]
            repeat (go_big_quiet_step ((go_at_call 54; exact Calls.quiet_of_same (blocks_new fk _ k0))))
            refine wpQuiet_nil ?_
            rintro _ ⟨nr, rfl⟩
            gi_wp2
            have h6 := (h5.drewN nr).setD 4 (.int .i64 ((u : Nat) + 1)) { M2.raw M2.names.length kv3 with names := x :: M2.names, bt := upd M2.bytes x [], su := upd (fun y => (lk M2.L y).length) x 0, mn := M2.names.length + 1, used := (u : Nat) + 1 } rfl rfl rfl rfl rfl rfl
            have t6 := (t5.drewN nr).setCell (p := ⟨d, 4, none⟩) (.inl h5.sD) (.int .i64 ((u : Nat) + 1))
            rw [← Hu.out] at h6
            have h7 := put_lies hIg hxg h6
            rw [Hu.out] at h7
            generalize (w5.drewN nr).setCell ⟨d, 4, none⟩ (.int .i64 ((u : Nat) + 1)) = w6 at *
            clear h5 h6 t5 c4' k0
            go_wp2
            go_ret
            refine ⟨by rw [Hc.out]; rfl, ?_, t6⟩
            rw [Hc.out]
            exact ⟨_, _, _, _, _, _, h7, hkv3⟩
end
end Go.Proofs.Ytefgnehahedckaa

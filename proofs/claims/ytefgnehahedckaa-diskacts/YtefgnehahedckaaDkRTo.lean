import Derived.Test.YtefgnehahedckaaDkPTo
/-
  Contracts: Crash, begin; drop, as the document's disk sees it.
-/
namespace Go.Proofs.Ytefgnehahedckaa
open Go.RowKit Go.Maps

theorem drop_lies {w : World} {d : Nat} {S : Nat → Prop} {φ : ByteArray → Nat} {σ : ByteArray → Value} {mb : Nat} {vb : Value} {M : DM} {mn : Nat} {kv : Int} (hI : M.Inv) {x : ByteArray} (hx : x ∈ M.names) (h : Lies8 w d S φ σ mb vb ((M.raw mn kv).drop x)) : Lies8 w d S φ σ mb vb ((M.gone x).raw mn kv) := by
  have hn : ∀ y, y ∈ (M.gone x).names ↔ y ∈ without M.names x := fun y => (DM.names_gone M x y).trans (mem_without _ _ _).symm
  refine h.congr hn (fun y hy => DM.bytes_gone M ((mem_without _ _ _).1 hy).2) (fun y hy => ?_) ?_ rfl ?_ rfl ?_ rfl rfl rfl rfl
  · show (lk (M.L.filter fun f => decide (f.1 ≠ x)) y).length = (lk M.L y).length
    rw [lk_filter ((mem_without _ _ _).1 hy).2]
  · show wrs (M.buf.filter fun w => decide (w.1 ≠ x)) = (wrs M.buf).filter fun v => decide (v.1 ≠ x)
    unfold wrs
    rw [List.filter_map]
    rfl
  · show ((tot (M.buf.filter fun w => decide (w.1 ≠ x)) : Nat) : Int) = (tot M.buf : Nat) - ((M.bytes x).length - ((lk M.L x).length : Nat))
    have := tot_gone M.buf x
    unfold DM.bytes
    rw [List.length_append]
    omega
  · show (((M.gone x).used : Nat) : Int) = (M.used : Nat) - (need (M.bytes x).length : Nat)
    have := DM.used_gone hI hx
    omega

section
variable {w : World} {d : Nat} {S : Nat → Prop} {φ : ByteArray → Nat} {M : DM}
set_option maxRecDepth 10000 in
set_option maxHeartbeats 1000000 in
theorem crash_any (hD : DiskF w d S φ M) (hI : M.Inv) (hS : ∀ k, w.heap.size ≤ k → S k) (ho : M.ops ≤ 1099511627776) (k : Int) (hk : -9223372036854775808 ≤ k ∧ k ≤ 9223372036854775807) :
    Calls Try.prog 21 #[.pointer (some ⟨d, 0, none⟩), .int .i64 k] w fun e w' => (∃ v, e = .returned v) ∧ DiskF w' d S φ (M.crash k) ∧ Turn S w w' := by
  obtain ⟨σ, mb, vb, mn, kv, h, hkv⟩ := hD
  obtain ⟨c0, -⟩ := h.cells
  obtain ⟨z1, z2, z3⟩ := hI.sizes
  have hdlt := h.lt
  have hwl : ((wrs M.buf).length : Int) ≤ 9223372036854775807 := by
    have := hI.few
    unfold wrs
    rw [List.length_map]
    omega
  obtain ⟨n, Hn⟩ : ∃ n : Nat, Hid (k.toNat = n) := ⟨_, rfl⟩
  have hn64 : (n : Int) ≤ 9223372036854775807 := by rw [← Hn.out]; omega
  have hba : Below w.heap.size w (w.alloc (.cells #[.int .i64 (n : Nat)] 3)) := (Below.refl _ _).alloc (Nat.le_refl _) _
  have hA := heap_alloc_new w (.cells #[.int .i64 (n : Nat)] 3)
  have hza : (w.alloc (.cells #[.int .i64 (n : Nat)] 3)).heap.size = w.heap.size + 1 := by simp
  have h1 := (h.mono (S' := fun i => S i ∧ i < w.heap.size ∨ w.heap.size + 1 ≤ i) fun i hi hs => .inl ⟨hs, hi⟩).below hba
  have hset := settle_c h1 (fun i hi => .inr (by omega)) n w.heap.size hA (by omega) hn64 hwl
    (fun x hx => by
      have h5 := (z3 x).1
      have h6 := (z3 x).2
      show (lk M.L x).length + totW (wrs M.buf) ≤ _
      rw [totW_wrs]
      omega) hI.nodup
    (fun x hx => by
      show sureL n (wrs M.buf) (fun x => (lk M.L x).length) x ≤ (M.bytes x).length
      rw [sureL_eq]
      unfold DM.bytes
      rw [List.length_append]
      have := left_le M.buf x n
      omega)
    (fun x hx => (z3 x).1) (by show ((M.used : Nat) : Int) = _; unfold DM.used; rw [used_sum hI.nodup]; rfl) (by show ((M.used : Nat) : Int) ≤ _; omega)
  have hmade := made_any8 d (some mb) w c0
  have fin : ∀ w2 : World, (∃ σ', Lies8 w2 d (fun i => S i ∧ i < w.heap.size ∨ w.heap.size + 1 ≤ i) φ σ' mb (.slice none 0 0) ((M.raw mn kv).settled n)) → Turn (fun i => (S i ∧ i < w.heap.size ∨ w.heap.size + 1 ≤ i) ∨ i = w.heap.size) (w.alloc (.cells #[.int .i64 (n : Nat)] 3)) w2 →
      w2.cell? ⟨d, 5, none⟩ = some (.bool !M.off) ∧ w2.frozen? ⟨d, 5, none⟩ = false ∧ DiskF (w2.setCell ⟨d, 5, none⟩ (.bool false)) d S φ (M.crash k) ∧ Turn S w (w2.setCell ⟨d, 5, none⟩ (.bool false)) := by
    rintro w2 ⟨σ', h2⟩ t2
    have h3 := settled_lies hI n h2
    obtain ⟨-, -, -, -, -, c5, -, -, -, cf⟩ := h3.cells
    have h4 := h3.setD 5 (.bool false) { (DM.raw { M.crash n with off := M.off } mn kv) with on := false } rfl rfl rfl rfl rfl rfl
    have hsz := t2.size
    have hSS : ∀ i, (S i ∧ i < w.heap.size ∨ w.heap.size + 1 ≤ i) → S i := fun i hi => hi.elim (fun h => h.1) fun h => hS i (by omega)
    refine ⟨c5, cf 5, ⟨σ', mb, _, mn, kv, (h4.mono (S' := S) fun i _ hi => hSS i hi).congr (fun x => ?_) (fun x _ => ?_) (fun x _ => ?_) rfl rfl rfl rfl ?_ rfl rfl rfl rfl, hkv⟩, ?_⟩
    · show x ∈ DM.names (M.crash k) ↔ x ∈ DM.names { M.crash n with off := M.off }
      unfold DM.crash
      rw [Hn.out]
      exact Iff.rfl
    · show DM.bytes (M.crash k) x = DM.bytes { M.crash n with off := M.off } x
      unfold DM.crash
      rw [Hn.out]
      rfl
    · show (lk (M.crash k).L x).length = (lk (M.crash n).L x).length
      unfold DM.crash
      rw [Hn.out]
      rfl
    · show (((M.crash k).used : Nat) : Int) = (DM.used { M.crash n with off := M.off } : Nat)
      unfold DM.crash
      rw [Hn.out]
      rfl
    · refine ((Turn.of_below hba (Nat.le_refl _)).wide t2 fun i hi => ?_).setCell (p := ⟨d, 5, none⟩) (.inl h.sD) _
      rcases hi with hi | hi
      · exact .inl (hSS i hi)
      · exact .inr (by omega)
  clear h1 hA hba z1 z2 z3 hwl
  by_cases hk0 : 0 ≤ k
  · obtain rfl : k = (n : Int) := by rw [← Hn.out]; omega
    go_enter Try.func21, Try.ntmps21
    go_wp2_with fail
    refine same_mono hmade ?_
    go_wp2_with fail
    refine hset.mono ?_
    rintro e w2 ⟨⟨v, rfl⟩, h2, t2⟩
    obtain ⟨c5, f5, r1, r2⟩ := fin w2 h2 t2
    clear fin hset h2 t2
    go_wp2
    go_end0
    exact ⟨⟨_, rfl⟩, r1, r2⟩
  · obtain rfl : n = 0 := by rw [← Hn.out]; omega
    have hk0' : k < 0 := by omega
    go_enter Try.func21, Try.ntmps21
    go_wp2_with fail
    refine same_mono hmade ?_
    go_wp2_with fail
    refine hset.mono ?_
    rintro e w2 ⟨⟨v, rfl⟩, h2, t2⟩
    obtain ⟨c5, f5, r1, r2⟩ := fin w2 h2 t2
    clear fin hset h2 t2
    go_wp2
    go_end0
    exact ⟨⟨_, rfl⟩, r1, r2⟩

theorem toNat_one {n : Nat} (h : n ≠ 0) (h1 : n ≠ 1) : (0 : Int) < (n : Int) - 1 ∧ ((n - 1 : Nat) : Int) = (n : Int) - 1 := by omega
set_option maxRecDepth 10000 in
set_option maxHeartbeats 1000000 in
theorem begin_any (hD : DiskF w d S φ M) (hI : M.Inv) (hS : ∀ k, w.heap.size ≤ k → S k) (ho : M.ops < 1099511627776) (hn : (M.n : Int) ≤ 9223372036854775807) (hk : -9223372036854775808 ≤ M.keep ∧ M.keep ≤ 9223372036854775807) :
    Calls Try.prog 52 #[.pointer (some ⟨d, 0, none⟩)] w fun e w' => e = .returned (.int .i64 (if M.begins = true then 0 else 9)) ∧ DiskF w' d S φ M.begun ∧ Turn S w w' := by
  obtain ⟨σ, mb, vb, mn, kv, h, hkv⟩ := hD
  obtain ⟨-, -, -, -, -, -, c6, c7, c8, cf⟩ := h.cells
  have h1 := h.setD 6 (.int .i64 ((M.ops : Nat) + 1)) { M.raw mn kv with ops := (M.ops : Nat) + 1 } rfl rfl rfl rfl rfl rfl
  have t1 := (Turn.refl S w).setCell (p := ⟨d, 6, none⟩) (.inl h.sD) (.int .i64 ((M.ops : Nat) + 1))
  have hsz1 : (w.setCell ⟨d, 6, none⟩ (.int .i64 ((M.ops : Nat) + 1))).heap.size = w.heap.size := by simp [World.setCell]
  have c6' : w.cell? ⟨d, 6, none⟩ = some (.int .i64 (M.ops : Nat)) := c6
  have c7' : w.cell? ⟨d, 7, none⟩ = some (.int .i64 (M.n : Nat)) := c7
  have f6 := cf 6
  clear c6 c7 c8 cf
  by_cases hn0 : M.n = 0
  · have e1 : M.begins = true := by unfold DM.begins; rw [hn0]; rfl
    have e2 : M.begun = { M with ops := M.ops + 1, n := 0 } := by unfold DM.begun; rw [if_neg (by omega), hn0]
    rw [if_pos e1, e2]
    rw [hn0] at c7'
    go_enter Try.func52, Try.ntmps52
    go_wp2
    go_ret
    refine ⟨rfl, ⟨σ, mb, vb, mn, kv, ?_, fun h => absurd rfl h⟩, t1⟩
    refine h1.congr (fun _ => Iff.rfl) (fun _ _ => rfl) (fun _ _ => rfl) rfl rfl rfl rfl rfl rfl ?_ ?_ rfl
    · show ((M.ops + 1 : Nat) : Int) = (M.ops : Int) + 1
      omega
    · show ((0 : Nat) : Int) = (M.n : Nat)
      rw [hn0]
  · by_cases hn1 : M.n = 1
    · have e1 : ¬ M.begins = true := by unfold DM.begins; rw [hn1]; decide
      have e2 : M.begun = ({ M with ops := M.ops + 1, n := 0 } : DM).crash M.keep := by unfold DM.begun; rw [if_pos hn1]
      have hkk := hkv (by omega)
      rw [if_neg e1, e2]
      have h2 := h1.setD 7 (.int .i64 0) { M.raw mn kv with ops := (M.ops : Nat) + 1, armed := 0 } rfl rfl rfl rfl rfl rfl
      have t2 := t1.setCell (p := ⟨d, 7, none⟩) (.inl h.sD) (.int .i64 0)
      have hsz2 : ((w.setCell ⟨d, 6, none⟩ (.int .i64 ((M.ops : Nat) + 1))).setCell ⟨d, 7, none⟩ (.int .i64 0)).heap.size = w.heap.size := by simp [World.setCell]
      have hD2 : DiskF ((w.setCell ⟨d, 6, none⟩ (.int .i64 ((M.ops : Nat) + 1))).setCell ⟨d, 7, none⟩ (.int .i64 0)) d S φ { M with ops := M.ops + 1, n := 0 } := by
        refine ⟨σ, mb, vb, mn, kv, ?_, fun h => absurd rfl h⟩
        refine h2.congr (fun _ => Iff.rfl) (fun _ _ => rfl) (fun _ _ => rfl) rfl rfl rfl rfl rfl rfl ?_ rfl rfl
        show ((M.ops + 1 : Nat) : Int) = (M.ops : Int) + 1
        omega
      have hI2 : DM.Inv { M with ops := M.ops + 1, n := 0 } := ⟨hI.rise, hI.good, hI.mem, hI.isL, hI.isW, hI.fits, hI.top, Nat.le_succ_of_le hI.few⟩
      have hcr := crash_any hD2 hI2 (fun i hi => hS i (by omega)) (by show M.ops + 1 ≤ _; omega) M.keep hk
      obtain ⟨-, -, -, -, -, -, -, k7, k8, -⟩ := h2.cells
      obtain ⟨-, -, -, -, -, -, -, j7, -, jf⟩ := h1.cells
      have j7' : (w.setCell ⟨d, 6, none⟩ (.int .i64 ((M.ops : Nat) + 1))).cell? ⟨d, 7, none⟩ = some (.int .i64 1) := by rw [j7]; show some (Value.int .i64 ((M.n : Nat) : Int)) = _; rw [hn1]; rfl
      have jf7 := jf 7
      dsimp only at k7 k8
      have k8' : ((w.setCell ⟨d, 6, none⟩ (.int .i64 ((M.ops : Nat) + 1))).setCell ⟨d, 7, none⟩ (.int .i64 0)).cell? ⟨d, 8, none⟩ = some (.int .i64 M.keep) := by rw [k8]; show some (Value.int .i64 kv) = _; rw [hkk]
      rw [hn1] at c7'
      clear j7 k8
      go_enter Try.func52, Try.ntmps52
      go_wp2_with fail
      refine hcr.mono ?_
      rintro e w2 ⟨⟨v, rfl⟩, r1, r2⟩
      go_wp2
      go_ret
      exact ⟨rfl, r1, t2.trans r2⟩
    · have e1 : M.begins = true := by unfold DM.begins; exact decide_eq_true hn1
      have e2 : M.begun = { M with ops := M.ops + 1, n := M.n - 1 } := by unfold DM.begun; rw [if_neg hn1]
      obtain ⟨n1, n2⟩ := toNat_one hn0 hn1
      rw [if_pos e1, e2]
      have h2 := h1.setD 7 (.int .i64 ((M.n : Nat) - 1)) { M.raw mn kv with ops := (M.ops : Nat) + 1, armed := (M.n : Nat) - 1 } rfl rfl rfl rfl rfl rfl
      have t2 := t1.setCell (p := ⟨d, 7, none⟩) (.inl h.sD) (.int .i64 ((M.n : Nat) - 1))
      obtain ⟨-, -, -, -, -, -, -, k7, -, -⟩ := h2.cells
      obtain ⟨-, -, -, -, -, -, -, j7, -, jf⟩ := h1.cells
      have j7' : (w.setCell ⟨d, 6, none⟩ (.int .i64 ((M.ops : Nat) + 1))).cell? ⟨d, 7, none⟩ = some (.int .i64 (M.n : Nat)) := j7
      have jf7 := jf 7
      dsimp only at k7
      have hn0' : ((M.n : Int) == 0) = false := by rw [beq_eq_false_iff_ne]; omega
      clear j7
      go_enter Try.func52, Try.ntmps52
      go_wp2
      go_ret
      refine ⟨rfl, ⟨σ, mb, vb, mn, kv, ?_, fun _ => hkv hn0⟩, t2⟩
      refine h2.congr (fun _ => Iff.rfl) (fun _ _ => rfl) (fun _ _ => rfl) rfl rfl rfl rfl rfl rfl ?_ ?_ rfl
      · show ((M.ops + 1 : Nat) : Int) = (M.ops : Int) + 1
        omega
      · exact n2
end
end Go.Proofs.Ytefgnehahedckaa

/-
  Contracts: Sync, Remove, Arm, Start, On, Ops, Used, Pending; what it takes to lay a file into the map.
-/
namespace Go.Proofs.Ytefgnehahedckaa
open Go.RowKit Go.Maps

/-- What a call asks of the disk: what always holds, and that its numbers are not too great. -/
structure DM.Ok (M : DM) : Prop where
  inv : M.Inv
  ops : M.ops < 1099511627776
  n : (M.n : Int) ≤ 9223372036854775807
  keep : -9223372036854775808 ≤ M.keep ∧ M.keep ≤ 9223372036854775807
section
variable {w w' : World} {d : Nat} {S : Nat → Prop} {φ : ByteArray → Nat} {σ : ByteArray → Value} {mb : Nat} {vb : Value} {R : RD} {M : DM}
theorem begin_yesF (hD : DiskF w d S φ M) (hO : M.Ok) (hS : ∀ k, w.heap.size ≤ k → S k) (hb : M.begins = true) :
    Calls Try.prog 52 #[.pointer (some ⟨d, 0, none⟩)] w fun e w' => e = .returned (.int .i64 0) ∧ DiskF w' d S φ M.begun ∧ Turn S w w' := by
  have := begin_any hD hO.inv hS hO.ops hO.n hO.keep
  rw [if_pos hb] at this
  exact this
theorem begin_yes (hD : DiskAt w d S M) (hO : M.Ok) (hS : ∀ k, w.heap.size ≤ k → S k) (hb : M.begins = true) :
    Calls Try.prog 52 #[.pointer (some ⟨d, 0, none⟩)] w fun e w' => e = .returned (.int .i64 0) ∧ DiskAt w' d S M.begun ∧ Turn S w w' := by
  obtain ⟨φ, hD⟩ := hD
  exact (begin_yesF hD hO hS hb).mono fun e w' ⟨h1, h2, h3⟩ => ⟨h1, ⟨φ, h2⟩, h3⟩
theorem begin_noF (hD : DiskF w d S φ M) (hO : M.Ok) (hS : ∀ k, w.heap.size ≤ k → S k) (hb : M.begins = false) :
    Calls Try.prog 52 #[.pointer (some ⟨d, 0, none⟩)] w fun e w' => e = .returned (.int .i64 9) ∧ DiskF w' d S φ M.begun ∧ Turn S w w' := by
  have := begin_any hD hO.inv hS hO.ops hO.n hO.keep
  rw [if_neg (by rw [hb]; decide)] at this
  exact this
theorem begin_no (hD : DiskAt w d S M) (hO : M.Ok) (hS : ∀ k, w.heap.size ≤ k → S k) (hb : M.begins = false) :
    Calls Try.prog 52 #[.pointer (some ⟨d, 0, none⟩)] w fun e w' => e = .returned (.int .i64 9) ∧ DiskAt w' d S M.begun ∧ Turn S w w' := by
  obtain ⟨φ, hD⟩ := hD
  exact (begin_noF hD hO hS hb).mono fun e w' ⟨h1, h2, h3⟩ => ⟨h1, ⟨φ, h2⟩, h3⟩
theorem ready_on (hD : DiskAt w d S M) (hf : M.off = false) : Calls Try.prog 51 #[.pointer (some ⟨d, 0, none⟩)] w fun e w' => e = .returned (.int .i64 0) ∧ w' = w := by
  obtain ⟨φ, σ, mb, vb, mn, kv, h, _⟩ := hD
  have := ready_any h
  rw [show (M.raw mn kv).on = true by show (!M.off) = true; rw [hf]; rfl] at this
  exact this
theorem ready_off (hD : DiskAt w d S M) (hf : M.off = true) : Calls Try.prog 51 #[.pointer (some ⟨d, 0, none⟩)] w fun e w' => e = .returned (.int .i64 9) ∧ w' = w := by
  obtain ⟨φ, σ, mb, vb, mn, kv, h, _⟩ := hD
  have := ready_any h
  rw [show (M.raw mn kv).on = false by show (!M.off) = false; rw [hf]; rfl] at this
  exact this
theorem settleM (hD : DiskAt w d S M) (hI : M.Inv) (hS : ∀ k, w.heap.size ≤ k → S k) (ho : M.ops ≤ 1099511627776) :
    Calls Try.prog 55 #[.pointer (some ⟨d, 0, none⟩), .func (.func 56) #[] #[]] w fun e w' => (∃ v, e = .returned v) ∧ DiskAt w' d S M.sync ∧ Turn S w w' := by
  obtain ⟨φ, σ, mb, vb, mn, kv, h, hkv⟩ := hD
  obtain ⟨z1, z2, z3⟩ := hI.sizes
  have hwl : ((wrs M.buf).length : Int) ≤ 9223372036854775807 := by
    have := hI.few
    unfold wrs
    rw [List.length_map]
    omega
  refine (settle_s h hS (tot M.buf) (Nat.le_of_eq (totW_wrs _)) hwl
    (fun x hx => by
      have h5 := (z3 x).1
      have h6 := (z3 x).2
      show (lk M.L x).length + totW (wrs M.buf) ≤ _
      rw [totW_wrs]
      omega) hI.nodup
    (fun x hx => by
      show sureL _ (wrs M.buf) (fun x => (lk M.L x).length) x ≤ (M.bytes x).length
      rw [sureL_eq]
      unfold DM.bytes
      rw [List.length_append]
      have := left_le M.buf x (tot M.buf)
      omega)
    (fun x hx => (z3 x).1) (by show ((M.used : Nat) : Int) = _; unfold DM.used; rw [used_sum hI.nodup]; rfl) (by show ((M.used : Nat) : Int) ≤ _; omega)).mono ?_
  rintro e w2 ⟨hv, ⟨σ', h2⟩, t2⟩
  refine ⟨hv, ⟨φ, σ', mb, .slice none 0 0, mn, kv, ?_, hkv⟩, t2⟩
  rw [DM.sync_eq]
  exact settled_lies hI _ h2
set_option maxRecDepth 10000 in
theorem sync_any (hD : DiskAt w d S M) (hO : M.Ok) (hS : ∀ k, w.heap.size ≤ k → S k) :
    Calls Try.prog 18 #[.pointer (some ⟨d, 0, none⟩)] w fun e w' => e = .returned (.int .i64 (M.syncs.1 : Nat)) ∧ DiskAt w' d S M.syncs.2 ∧ Turn S w w' := by
  cases hf : M.off with
  | true =>
    have e : M.syncs = (9, M) := by unfold DM.syncs; rw [if_pos hf]
    rw [e]
    have hr := ready_off hD hf
    go_enter Try.func18, Try.ntmps18
    go_wp2_with fail
    refine same_mono hr ?_
    go_wp2
    go_ret
    exact ⟨rfl, hD, Turn.refl _ _⟩
  | false =>
    have hr := ready_on hD hf
    cases hbe : M.begins with
    | false =>
      have e : M.syncs = (9, M.begun) := by unfold DM.syncs DM.act; rw [if_neg (by rw [hf]; decide), hbe]; rfl
      rw [e]
      have hb := begin_no hD hO hS hbe
      go_enter Try.func18, Try.ntmps18
      go_wp2_with fail
      refine same_mono hr ?_
      go_wp2_with fail
      refine hb.mono ?_
      rintro e w2 ⟨rfl, r1, r2⟩
      go_wp2
      go_ret
      exact ⟨rfl, r1, r2⟩
    | true =>
      have e : M.syncs = (0, M.begun.sync) := by unfold DM.syncs DM.act; rw [if_neg (by rw [hf]; decide), hbe]; rfl
      rw [e]
      have hb := begin_yes hD hO hS hbe
      have ho := hO.ops
      go_enter Try.func18, Try.ntmps18
      go_wp2_with fail
      refine same_mono hr ?_
      go_wp2_with fail
      refine hb.mono ?_
      rintro e w2 ⟨rfl, r1, r2⟩
      go_wp2_with fail
      refine (settleM r1 hO.inv.begun (fun k hk => hS k (Nat.le_trans r2.size hk)) (by rw [DM.begun_ops]; omega)).mono ?_
      rintro e w3 ⟨⟨v, rfl⟩, r3, r4⟩
      go_wp2
      go_ret
      exact ⟨rfl, r3, r2.trans r4⟩
theorem dropMF (hD : DiskF w d S φ M) (hI : M.Inv) (hS : ∀ k, w.heap.size ≤ k → S k) {x : ByteArray} (hs : x.size ≤ maxLen) :
    Calls Try.prog 53 #[.pointer (some ⟨d, 0, none⟩), .string x] w fun e w' => (∃ v, e = .returned v) ∧ DiskF w' d S φ (M.gone x) ∧ Turn S w w' := by
  have hD0 := hD
  obtain ⟨σ, mb, vb, mn, kv, h, hkv⟩ := hD
  obtain ⟨z1, z2, z3⟩ := hI.sizes
  by_cases hx : x ∈ M.names
  · refine (drop_yes h hS hs hx (z3 x).1 (z3 x).2 ⟨by show (0 : Int) ≤ (tot M.buf : Nat); omega, by show ((tot M.buf : Nat) : Int) ≤ _; omega⟩ ⟨by show (0 : Int) ≤ (M.used : Nat); omega, by show ((M.used : Nat) : Int) ≤ _; omega⟩).mono ?_
    rintro e w2 ⟨hv, ⟨vb', h2⟩, t2⟩
    exact ⟨hv, ⟨σ, mb, vb', mn, kv, drop_lies hI hx h2, hkv⟩, t2⟩
  · rw [DM.gone_none hI hx]
    refine (drop_no h hs hx).mono ?_
    rintro e w2 ⟨hv, hb⟩
    exact ⟨hv, hD0.below hb, Turn.of_below hb (Nat.le_refl _)⟩
theorem dropM (hD : DiskAt w d S M) (hI : M.Inv) (hS : ∀ k, w.heap.size ≤ k → S k) {x : ByteArray} (hs : x.size ≤ maxLen) :
    Calls Try.prog 53 #[.pointer (some ⟨d, 0, none⟩), .string x] w fun e w' => (∃ v, e = .returned v) ∧ DiskAt w' d S (M.gone x) ∧ Turn S w w' := by
  obtain ⟨φ, hD⟩ := hD
  exact (dropMF hD hI hS hs).mono fun e w' ⟨h1, h2, h3⟩ => ⟨h1, ⟨φ, h2⟩, h3⟩
theorem crash_at (hD : DiskAt w d S M) (hO : M.Ok) (hS : ∀ k, w.heap.size ≤ k → S k) (k : Int) (hk : -9223372036854775808 ≤ k ∧ k ≤ 9223372036854775807) :
    Calls Try.prog 21 #[.pointer (some ⟨d, 0, none⟩), .int .i64 k] w fun e w' => (∃ v, e = .returned v) ∧ DiskAt w' d S (M.crash k) ∧ Turn S w w' := by
  obtain ⟨φ, hD⟩ := hD
  exact (crash_any hD hO.inv hS (Nat.le_of_lt hO.ops) k hk).mono fun e w' ⟨h1, h2, h3⟩ => ⟨h1, ⟨φ, h2⟩, h3⟩
/-- What find answers of the document's disk. -/
theorem findM_off (hD : DiskAt w d S M) (x : ByteArray) (hf : M.off = true) : Calls Try.prog 57 #[.pointer (some ⟨d, 0, none⟩), .string x] w fun e w' => e = .returned (.tuple #[.pointer none, .int .i64 9]) ∧ w' = w := by
  obtain ⟨φ, σ, mb, vb, mn, kv, h, _⟩ := hD
  exact find_off8 h x (by show (!M.off) = false; rw [hf]; rfl)
theorem findM_none (hD : DiskAt w d S M) {x : ByteArray} (hs : x.size ≤ maxLen) (hf : M.off = false) (hx : x ∉ M.names) : Calls Try.prog 57 #[.pointer (some ⟨d, 0, none⟩), .string x] w fun e w' => e = .returned (.tuple #[.pointer none, .int .i64 4]) ∧ w' = w := by
  obtain ⟨φ, σ, mb, vb, mn, kv, h, _⟩ := hD
  exact find_none8 h hs (by show (!M.off) = true; rw [hf]; rfl) hx
theorem findM_yes {mn : Nat} {kv : Int} (h : Lies8 w d S φ σ mb vb (M.raw mn kv)) {x : ByteArray} (hs : x.size ≤ maxLen) (hf : M.off = false) (hx : x ∈ M.names) : Calls Try.prog 57 #[.pointer (some ⟨d, 0, none⟩), .string x] w fun e w' => e = .returned (.tuple #[.pointer (some ⟨φ x, 0, none⟩), .int .i64 0]) ∧ w' = w :=
  find_yes h hs (by show (!M.off) = true; rw [hf]; rfl) hx
set_option maxRecDepth 10000 in
theorem remove_any (hD : DiskAt w d S M) (hO : M.Ok) (hS : ∀ k, w.heap.size ≤ k → S k) {x : ByteArray} (hs : x.size ≤ maxLen) :
    Calls Try.prog 26 #[.pointer (some ⟨d, 0, none⟩), .string x] w fun e w' => e = .returned (.int .i64 ((M.remove x).1 : Nat)) ∧ DiskAt w' d S (M.remove x).2 ∧ Turn S w w' := by
  cases hf : M.off with
  | true =>
    have e : M.remove x = (9, M) := by unfold DM.remove; rw [if_pos hf]
    rw [e]
    have hr := findM_off hD x hf
    go_enter Try.func26, Try.ntmps26
    go_wp2_with fail
    refine same_mono hr ?_
    go_wp2
    go_ret
    exact ⟨rfl, hD, Turn.refl _ _⟩
  | false =>
    by_cases hx : x ∈ M.names
    · have hr : ∃ p, Calls Try.prog 57 #[.pointer (some ⟨d, 0, none⟩), .string x] w fun e w' => e = .returned (.tuple #[.pointer (some p), .int .i64 0]) ∧ w' = w := by
        obtain ⟨φ, σ, mb, vb, mn, kv, h, _⟩ := hD
        exact ⟨_, findM_yes h hs hf hx⟩
      obtain ⟨p, hr⟩ := hr
      cases hbe : M.begins with
      | false =>
        have e : M.remove x = (9, M.begun) := by unfold DM.remove DM.act; rw [if_neg (by rw [hf]; decide), if_neg (by simpa using hx), hbe]; rfl
        rw [e]
        have hb := begin_no hD hO hS hbe
        go_enter Try.func26, Try.ntmps26
        go_wp2_with fail
        refine same_mono hr ?_
        go_wp2_with fail
        refine hb.mono ?_
        rintro e w2 ⟨rfl, r1, r2⟩
        go_wp2
        go_ret
        exact ⟨rfl, r1, r2⟩
      | true =>
        have e : M.remove x = (0, M.begun.gone x) := by unfold DM.remove DM.act; rw [if_neg (by rw [hf]; decide), if_neg (by simpa using hx), hbe]; rfl
        rw [e]
        have hb := begin_yes hD hO hS hbe
        go_enter Try.func26, Try.ntmps26
        go_wp2_with fail
        refine same_mono hr ?_
        go_wp2_with fail
        refine hb.mono ?_
        rintro e w2 ⟨rfl, r1, r2⟩
        go_wp2_with fail
        refine (dropM r1 hO.inv.begun (fun k hk => hS k (Nat.le_trans r2.size hk)) hs).mono ?_
        rintro e w3 ⟨⟨v, rfl⟩, r3, r4⟩
        go_wp2
        go_ret
        exact ⟨rfl, r3, r2.trans r4⟩
    · have e : M.remove x = (4, M) := by unfold DM.remove; rw [if_neg (by rw [hf]; decide), if_pos hx]
      rw [e]
      have hr := findM_none hD hs hf hx
      go_enter Try.func26, Try.ntmps26
      go_wp2_with fail
      refine same_mono hr ?_
      go_wp2
      go_ret
      exact ⟨rfl, hD, Turn.refl _ _⟩
end
end Go.Proofs.Ytefgnehahedckaa

/-
  Contracts: Sync, Remove, Arm, Start, On, Ops, Used, Pending; what it takes to lay a file into the map.
-/
import Derived.Test.YtefgnehahedckaaDkQ
namespace Go.Proofs.Ytefgnehahedckaa
open Go.RowKit Go.Maps

/-- What a call asks of the disk: what always holds, and that its numbers are not too great. -/
structure DM.Ok (M : DM) : Prop where
  inv : M.Inv
  ops : M.ops < 1099511627776
  n : (M.n : Int) ≤ 9223372036854775807
  keep : -9223372036854775808 ≤ M.keep ∧ M.keep ≤ 9223372036854775807
section
variable {w w' : World} {d : Nat} {S : Nat → Prop} {φ : ByteArray → Nat} {σ : ByteArray → Value} {mb : Nat} {vb : Value} {R : RD} {M : DM}
theorem begin_yesF (hD : DiskF w d S φ M) (hO : M.Ok) (hS : ∀ k, w.heap.size ≤ k → S k) (hb : M.begins = true) :
    Calls Try.prog 52 #[.pointer (some ⟨d, 0, none⟩)] w fun e w' => e = .returned (.int .i64 0) ∧ DiskF w' d S φ M.begun ∧ Turn S w w' := by
  have := begin_any hD hO.inv hS hO.ops hO.n hO.keep
  rw [if_pos hb] at this
  exact this
theorem begin_yes (hD : DiskAt w d S M) (hO : M.Ok) (hS : ∀ k, w.heap.size ≤ k → S k) (hb : M.begins = true) :
    Calls Try.prog 52 #[.pointer (some ⟨d, 0, none⟩)] w fun e w' => e = .returned (.int .i64 0) ∧ DiskAt w' d S M.begun ∧ Turn S w w' := by
  obtain ⟨φ, hD⟩ := hD
  exact (begin_yesF hD hO hS hb).mono fun e w' ⟨h1, h2, h3⟩ => ⟨h1, ⟨φ, h2⟩, h3⟩
theorem begin_noF (hD : DiskF w d S φ M) (hO : M.Ok) (hS : ∀ k, w.heap.size ≤ k → S k) (hb : M.begins = false) :
    Calls Try.prog 52 #[.pointer (some ⟨d, 0, none⟩)] w fun e w' => e = .returned (.int .i64 9) ∧ DiskF w' d S φ M.begun ∧ Turn S w w' := by
  have := begin_any hD hO.inv hS hO.ops hO.n hO.keep
  rw [if_neg (by rw [hb]; decide)] at this
  exact this
theorem begin_no (hD : DiskAt w d S M) (hO : M.Ok) (hS : ∀ k, w.heap.size ≤ k → S k) (hb : M.begins = false) :
    Calls Try.prog 52 #[.pointer (some ⟨d, 0, none⟩)] w fun e w' => e = .returned (.int .i64 9) ∧ DiskAt w' d S M.begun ∧ Turn S w w' := by
  obtain ⟨φ, hD⟩ := hD
  exact (begin_noF hD hO hS hb).mono fun e w' ⟨h1, h2, h3⟩ => ⟨h1, ⟨φ, h2⟩, h3⟩
theorem ready_on (hD : DiskAt w d S M) (hf : M.off = false) : Calls Try.prog 51 #[.pointer (some ⟨d, 0, none⟩)] w fun e w' => e = .returned (.int .i64 0) ∧ w' = w := by
  obtain ⟨φ, σ, mb, vb, mn, kv, h, _⟩ := hD
  have := ready_any h
  rw [show (M.raw mn kv).on = true by show (!M.off) = true; rw [hf]; rfl] at this
  exact this
theorem ready_off (hD : DiskAt w d S M) (hf : M.off = true) : Calls Try.prog 51 #[.pointer (some ⟨d, 0, none⟩)] w fun e w' => e = .returned (.int .i64 9) ∧ w' = w := by
  obtain ⟨φ, σ, mb, vb, mn, kv, h, _⟩ := hD
  have := ready_any h
  rw [show (M.raw mn kv).on = false by show (!M.off) = false; rw [hf]; rfl] at this
  exact this
theorem settleM (hD : DiskAt w d S M) (hI : M.Inv) (hS : ∀ k, w.heap.size ≤ k → S k) (ho : M.ops ≤ 1099511627776) :
    Calls Try.prog 55 #[.pointer (some ⟨d, 0, none⟩), .func (.func 56) #[] #[]] w fun e w' => (∃ v, e = .returned v) ∧ DiskAt w' d S M.sync ∧ Turn S w w' := by
  obtain ⟨φ, σ, mb, vb, mn, kv, h, hkv⟩ := hD
  obtain ⟨z1, z2, z3⟩ := hI.sizes
  have hwl : ((wrs M.buf).length : Int) ≤ 9223372036854775807 := by
    have := hI.few
    unfold wrs
    rw [List.length_map]
    omega
  refine (settle_s h hS (tot M.buf) (Nat.le_of_eq (totW_wrs _)) hwl
    (fun x hx => by
      have h5 := (z3 x).1
      have h6 := (z3 x).2
      show (lk M.L x).length + totW (wrs M.buf) ≤ _
      rw [totW_wrs]
      omega) hI.nodup
    (fun x hx => by
      show sureL _ (wrs M.buf) (fun x => (lk M.L x).length) x ≤ (M.bytes x).length
      rw [sureL_eq]
      unfold DM.bytes
      rw [List.length_append]
      have := left_le M.buf x (tot M.buf)
      omega)
    (fun x hx => (z3 x).1) (by show ((M.used : Nat) : Int) = _; unfold DM.used; rw [used_sum hI.nodup]; rfl) (by show ((M.used : Nat) : Int) ≤ _; omega)).mono ?_
  rintro e w2 ⟨hv, ⟨σ', h2⟩, t2⟩
  refine ⟨hv, ⟨φ, σ', mb, .slice none 0 0, mn, kv, ?_, hkv⟩, t2⟩
  rw [DM.sync_eq]
  exact settled_lies hI _ h2
set_option maxRecDepth 10000 in
theorem sync_any (hD : DiskAt w d S M) (hO : M.Ok) (hS : ∀ k, w.heap.size ≤ k → S k) :
    Calls Try.prog 18 #[.pointer (some ⟨d, 0, none⟩)] w fun e w' => e = .returned (.int .i64 (M.syncs.1 : Nat)) ∧ DiskAt w' d S M.syncs.2 ∧ Turn S w w' := by
  cases hf : M.off with
  | true =>
    have e : M.syncs = (9, M) := by unfold DM.syncs; rw [if_pos hf]
    rw [e]
    have hr := ready_off hD hf
    go_enter Try.func18, Try.ntmps18
    go_wp2_with fail
    refine same_mono hr ?_
    go_wp2
    go_ret
    exact ⟨rfl, hD, Turn.refl _ _⟩
  | false =>
    have hr := ready_on hD hf
    cases hbe : M.begins with
    | false =>
      have e : M.syncs = (9, M.begun) := by unfold DM.syncs DM.act; rw [if_neg (by rw [hf]; decide), hbe]; rfl
      rw [e]
      have hb := begin_no hD hO hS hbe
      go_enter Try.func18, Try.ntmps18
      go_wp2_with fail
      refine same_mono hr ?_
      go_wp2_with fail
      refine hb.mono ?_
      rintro e w2 ⟨rfl, r1, r2⟩
      go_wp2
      go_ret
      exact ⟨rfl, r1, r2⟩
    | true =>
      have e : M.syncs = (0, M.begun.sync) := by unfold DM.syncs DM.act; rw [if_neg (by rw [hf]; decide), hbe]; rfl
      rw [e]
      have hb := begin_yes hD hO hS hbe
      have ho := hO.ops
      go_enter Try.func18, Try.ntmps18
      go_wp2_with fail
      refine same_mono hr ?_
      go_wp2_with fail
      refine hb.mono ?_
      rintro e w2 ⟨rfl, r1, r2⟩
      go_wp2_with fail
      refine (settleM r1 hO.inv.begun (fun k hk => hS k (Nat.le_trans r2.size hk)) (by rw [DM.begun_ops]; omega)).mono ?_
      rintro e w3 ⟨⟨v, rfl⟩, r3, r4⟩
      go_wp2
      go_ret
      exact ⟨rfl, r3, r2.trans r4⟩
theorem dropMF (hD : DiskF w d S φ M) (hI : M.Inv) (hS : ∀ k, w.heap.size ≤ k → S k) {x : ByteArray} (hs : x.size ≤ maxLen) :
    Calls Try.prog 53 #[.pointer (some ⟨d, 0, none⟩), .string x] w fun e w' => (∃ v, e = .returned v) ∧ DiskF w' d S φ (M.gone x) ∧ Turn S w w' := by
  have hD0 := hD
  obtain ⟨σ, mb, vb, mn, kv, h, hkv⟩ := hD
  obtain ⟨z1, z2, z3⟩ := hI.sizes
  by_cases hx : x ∈ M.names
  · refine (drop_yes h hS hs hx (z3 x).1 (z3 x).2 ⟨by show (0 : Int) ≤ (tot M.buf : Nat); omega, by show ((tot M.buf : Nat) : Int) ≤ _; omega⟩ ⟨by show (0 : Int) ≤ (M.used : Nat); omega, by show ((M.used : Nat) : Int) ≤ _; omega⟩).mono ?_
    rintro e w2 ⟨hv, ⟨vb', h2⟩, t2⟩
    exact ⟨hv, ⟨σ, mb, vb', mn, kv, drop_lies hI hx h2, hkv⟩, t2⟩
  · rw [DM.gone_none hI hx]
    refine (drop_no h hs hx).mono ?_
    rintro e w2 ⟨hv, hb⟩
    exact ⟨hv, hD0.below hb, Turn.of_below hb (Nat.le_refl _)⟩
theorem dropM (hD : DiskAt w d S M) (hI : M.Inv) (hS : ∀ k, w.heap.size ≤ k → S k) {x : ByteArray} (hs : x.size ≤ maxLen) :
    Calls Try.prog 53 #[.pointer (some ⟨d, 0, none⟩), .string x] w fun e w' => (∃ v, e = .returned v) ∧ DiskAt w' d S (M.gone x) ∧ Turn S w w' := by
  obtain ⟨φ, hD⟩ := hD
  exact (dropMF hD hI hS hs).mono fun e w' ⟨h1, h2, h3⟩ => ⟨h1, ⟨φ, h2⟩, h3⟩
theorem crash_at (hD : DiskAt w d S M) (hO : M.Ok) (hS : ∀ k, w.heap.size ≤ k → S k) (k : Int) (hk : -9223372036854775808 ≤ k ∧ k ≤ 9223372036854775807) :
    Calls Try.prog 21 #[.pointer (some ⟨d, 0, none⟩), .int .i64 k] w fun e w' => (∃ v, e = .returned v) ∧ DiskAt w' d S (M.crash k) ∧ Turn S w w' := by
  obtain ⟨φ, hD⟩ := hD
  exact (crash_any hD hO.inv hS (Nat.le_of_lt hO.ops) k hk).mono fun e w' ⟨h1, h2, h3⟩ => ⟨h1, ⟨φ, h2⟩, h3⟩
/-- What find answers of the document's disk. -/
theorem findM_off (hD : DiskAt w d S M) (x : ByteArray) (hf : M.off = true) : Calls Try.prog 57 #[.pointer (some ⟨d, 0, none⟩), .string x] w fun e w' => e = .returned (.tuple #[.pointer none, .int .i64 9]) ∧ w' = w := by
  obtain ⟨φ, σ, mb, vb, mn, kv, h, _⟩ := hD
  exact find_off8 h x (by show (!M.off) = false; rw [hf]; rfl)
theorem findM_none (hD : DiskAt w d S M) {x : ByteArray} (hs : x.size ≤ maxLen) (hf : M.off = false) (hx : x ∉ M.names) : Calls Try.prog 57 #[.pointer (some ⟨d, 0, none⟩), .string x] w fun e w' => e = .returned (.tuple #[.pointer none, .int .i64 4]) ∧ w' = w := by
  obtain ⟨φ, σ, mb, vb, mn, kv, h, _⟩ := hD
  exact find_none8 h hs (by show (!M.off) = true; rw [hf]; rfl) hx
theorem findM_yes {mn : Nat} {kv : Int} (h : Lies8 w d S φ σ mb vb (M.raw mn kv)) {x : ByteArray} (hs : x.size ≤ maxLen) (hf : M.off = false) (hx : x ∈ M.names) : Calls Try.prog 57 #[.pointer (some ⟨d, 0, none⟩), .string x] w fun e w' => e = .returned (.tuple #[.pointer (some ⟨φ x, 0, none⟩), .int .i64 0]) ∧ w' = w :=
  find_yes h hs (by show (!M.off) = true; rw [hf]; rfl) hx
set_option maxRecDepth 10000 in
theorem remove_any (hD : DiskAt w d S M) (hO : M.Ok) (hS : ∀ k, w.heap.size ≤ k → S k) {x : ByteArray} (hs : x.size ≤ maxLen) :
    Calls Try.prog 26 #[.pointer (some ⟨d, 0, none⟩), .string x] w fun e w' => e = .returned (.int .i64 ((M.remove x).1 : Nat)) ∧ DiskAt w' d S (M.remove x).2 ∧ Turn S w w' := by
  cases hf : M.off with
  | true =>
    have e : M.remove x = (9, M) := by unfold DM.remove; rw [if_pos hf]
    rw [e]
    have hr := findM_off hD x hf
    go_enter Try.func26, Try.ntmps26
    go_wp2_with fail
    refine same_mono hr ?_
    go_wp2
    go_ret
    exact ⟨rfl, hD, Turn.refl _ _⟩
  | false =>
    by_cases hx : x ∈ M.names
    · have hr : ∃ p, Calls Try.prog 57 #[.pointer (some ⟨d, 0, none⟩), .string x] w fun e w' => e = .returned (.tuple #[.pointer (some p), .int .i64 0]) ∧ w' = w := by
        obtain ⟨φ, σ, mb, vb, mn, kv, h, _⟩ := hD
        exact ⟨_, findM_yes h hs hf hx⟩
      obtain ⟨p, hr⟩ := hr
      cases hbe : M.begins with
      | false =>
        have e : M.remove x = (9, M.begun) := by unfold DM.remove DM.act; rw [if_neg (by rw [hf]; decide), if_neg (by simpa using hx), hbe]; rfl
        rw [e]
        have hb := begin_no hD hO hS hbe
        go_enter Try.func26, Try.ntmps26
        go_wp2_with fail
        refine same_mono hr ?_
        go_wp2_with fail
        refine hb.mono ?_
        rintro e w2 ⟨rfl, r1, r2⟩
        go_wp2
        go_ret
        exact ⟨rfl, r1, r2⟩
      | true =>
        have e : M.remove x = (0, M.begun.gone x) := by unfold DM.remove DM.act; rw [if_neg (by rw [hf]; decide), if_neg (by simpa using hx), hbe]; rfl
        rw [e]
        have hb := begin_yes hD hO hS hbe
        go_enter Try.func26, Try.ntmps26
        go_wp2_with fail
        refine same_mono hr ?_
        go_wp2_with fail
        refine hb.mono ?_
        rintro e w2 ⟨rfl, r1, r2⟩
        go_wp2_with fail
        refine (dropM r1 hO.inv.begun (fun k hk => hS k (Nat.le_trans r2.size hk)) hs).mono ?_
        rintro e w3 ⟨⟨v, rfl⟩, r3, r4⟩
        go_wp2
        go_ret
        exact ⟨rfl, r3, r2.trans r4⟩
    · have e : M.remove x = (4, M) := by unfold DM.remove; rw [if_neg (by rw [hf]; decide), if_pos hx]
      rw [e]
      have hr := findM_none hD hs hf hx
      go_enter Try.func26, Try.ntmps26
      go_wp2_with fail
      refine same_mono hr ?_
      go_wp2
      go_ret
      exact ⟨rfl, hD, Turn.refl _ _⟩
end
end Go.Proofs.Ytefgnehahedckaa

/-
  The program's disk in memory as the document's disk.
-/
import Derived.Test.YtefgnehahedckaaDkK
namespace Go.Proofs.Ytefgnehahedckaa
open Go.RowKit Go.Maps

def wrs (buf : List (ByteArray × List Int)) : List (ByteArray × Nat) := buf.map fun w => (w.1, w.2.length)
/-- How the document's disk stands in the object and its files. -/
def DM.raw (M : DM) (mn : Nat) (kv : Int) : RD := ⟨M.names, M.bytes, fun x => (lk M.L x).length, wrs M.buf, mn, (tot M.buf : Nat), (M.blocks : Nat), (M.used : Nat), !M.off, (M.ops : Nat), (M.n : Nat), kv⟩
def DM.raw1 (M : DM) (mn : Nat) (kv : Int) (n : Nat) : RD := { M.raw mn kv with su := sureL n (wrs M.buf) (fun x => (lk M.L x).length) }
/-- The disk in block d is M; all of it lies in blocks of S. -/
def DiskF (w : World) (d : Nat) (S : Nat → Prop) (φ : ByteArray → Nat) (M : DM) : Prop := ∃ σ mb vb mn kv, Lies8 w d S φ σ mb vb (M.raw mn kv) ∧ (M.n ≠ 0 → kv = M.keep)
def DiskAt (w : World) (d : Nat) (S : Nat → Prop) (M : DM) : Prop := ∃ φ, DiskF w d S φ M
theorem DiskF.same {w w' : World} {d : Nat} {S : Nat → Prop} {φ : ByteArray → Nat} {M : DM} (h : DiskF w d S φ M) (hs : ∀ k, k < w.heap.size → S k → w'.heap[k]? = w.heap[k]?) : DiskF w' d S φ M := by
  obtain ⟨σ, mb, vb, mn, kv, h1, h2⟩ := h
  exact ⟨σ, mb, vb, mn, kv, h1.same hs, h2⟩
theorem DiskF.below {w w' : World} {d : Nat} {S : Nat → Prop} {φ : ByteArray → Nat} {M : DM} (h : DiskF w d S φ M) (hb : Below w.heap.size w w') : DiskF w' d S φ M := h.same fun k hk _ => hb.block k hk
theorem DiskAt.same {w w' : World} {d : Nat} {S : Nat → Prop} {M : DM} (h : DiskAt w d S M) (hs : ∀ k, k < w.heap.size → S k → w'.heap[k]? = w.heap[k]?) : DiskAt w' d S M := by
  obtain ⟨φ, σ, mb, vb, mn, kv, h1, h2⟩ := h
  exact ⟨φ, σ, mb, vb, mn, kv, h1.same hs, h2⟩
theorem DiskAt.below {w w' : World} {d : Nat} {S : Nat → Prop} {M : DM} (h : DiskAt w d S M) (hb : Below w.heap.size w w') : DiskAt w' d S M := h.same fun k hk _ => hb.block k hk
theorem DiskAt.mono {w : World} {d : Nat} {S S' : Nat → Prop} {M : DM} (h : DiskAt w d S M) (hS : ∀ k, k < w.heap.size → S k → S' k) : DiskAt w d S' M := by
  obtain ⟨φ, σ, mb, vb, mn, kv, h1, h2⟩ := h
  exact ⟨φ, σ, mb, vb, mn, kv, h1.mono hS, h2⟩

theorem Lies8.congr {w : World} {d : Nat} {S : Nat → Prop} {φ : ByteArray → Nat} {σ : ByteArray → Value} {mb : Nat} {vb : Value} {R R' : RD} (h : Lies8 w d S φ σ mb vb R) (hn : ∀ x, x ∈ R'.names ↔ x ∈ R.names) (hb : ∀ x ∈ R.names, R'.bt x = R.bt x) (hs : ∀ x ∈ R.names, R'.su x = R.su x) (hw : R'.wr = R.wr) (hm : R'.mn = R.mn)
    (e1 : R'.pending = R.pending) (e2 : R'.blocks = R.blocks) (e3 : R'.used = R.used) (e4 : R'.on = R.on) (e5 : R'.ops = R.ops) (e6 : R'.armed = R.armed) (e7 : R'.keep = R.keep) : Lies8 w d S φ σ mb vb R' := by
  refine ⟨?_, ?_, by rw [hw]; exact h.buf, fun x hx => ?_, fun x hx => ?_, fun x hx y hy => h.inj x ((hn x).1 hx) y ((hn y).1 hy), fun x hx y hy => h.apart x ((hn x).1 hx) y ((hn y).1 hy), fun v hv => (hn _).2 (h.mem v (by rw [← hw]; exact hv)), h.sD, h.sM, h.sB, fun x hx => h.sF x ((hn x).1 hx), fun x hx => h.sR x ((hn x).1 hx)⟩
  · have := h.obj
    unfold objV at this ⊢
    rw [e1, e2, e3, e4, e5, e6, e7]
    exact this
  · rw [hm]
    exact h.map.congr hn fun x _ => rfl
  · rw [hs x ((hn x).1 hx)]
    exact h.file x ((hn x).1 hx)
  · rw [hb x ((hn x).1 hx)]
    exact h.row x ((hn x).1 hx)

theorem used_sum {buf : List (ByteArray × List Int)} : ∀ {L : List (ByteArray × List Int)}, (nms L).Nodup → usedL buf L = sumN (fun x => need (lk L x ++ pend buf x).length) (nms L)
  | [], _ => rfl
  | f :: r, h => by
    have h' := List.nodup_cons.1 (by exact h : (f.1 :: nms r).Nodup)
    show need (f.2.length + (pend buf f.1).length) + usedL buf r = need (lk (f :: r) f.1 ++ pend buf f.1).length + sumN _ (nms r)
    rw [used_sum h'.2, lk, if_pos rfl, List.length_append]
    congr 1
    refine sumN_congr fun x hx => ?_
    rw [lk, if_neg fun e => h'.1 (by rw [e]; exact hx)]
theorem sureL_eq : ∀ (buf : List (ByteArray × List Int)) (n : Nat) (su : ByteArray → Nat) (x : ByteArray), sureL n (wrs buf) su x = su x + (left n buf x).length
  | [], _, _, _ => rfl
  | w :: r, n, su, x => by
    show sureL (n - w.2.length) (wrs r) (upd su w.1 (su w.1 + min w.2.length n)) x = _
    rw [sureL_eq r, left, List.length_append]
    by_cases hx : w.1 = x
    · rw [if_pos hx, ← hx, upd_at, List.length_take, Nat.min_comm n]
      omega
    · rw [if_neg hx, upd_ne (Ne.symm hx)]
      simp
theorem totW_wrs : ∀ buf : List (ByteArray × List Int), totW (wrs buf) = tot buf
  | [] => rfl
  | w :: r => by show w.2.length + totW (wrs r) = _; rw [totW_wrs r, tot]
theorem wrs_mem {buf : List (ByteArray × List Int)} {v : ByteArray × Nat} (h : v ∈ wrs buf) : ∃ w ∈ buf, w.1 = v.1 ∧ w.2.length = v.2 := by
  obtain ⟨w, hw, rfl⟩ := List.mem_map.1 h
  exact ⟨w, hw, rfl, rfl⟩
theorem wrs_names (buf : List (ByteArray × List Int)) (x : ByteArray) : x ∈ (wrs buf).map Prod.fst ↔ ∃ w ∈ buf, w.1 = x := by
  unfold wrs
  rw [List.map_map]
  simp [List.mem_map]
/-- What is in the buffer is in the files. -/
theorem tot_le {M : DM} (hI : M.Inv) : tot M.buf ≤ 1073741824 := by
  have hn := hI.nodup
  have hmem := hI.mem
  have : tot M.buf ≤ 64 * usedL M.buf M.L := by
    have key : ∀ (L : List (ByteArray × List Int)) (buf : List (ByteArray × List Int)), (nms L).Nodup → (∀ w ∈ buf, w.1 ∈ nms L) → tot buf ≤ 64 * usedL buf L := by
      intro L
      induction L with
      | nil =>
        intro buf _ hm
        cases buf with
        | nil => exact Nat.le_refl _
        | cons w r => exact absurd (hm w List.mem_cons_self) (by simp [nms])
      | cons f r ih =>
        intro buf hn hm
        have h' := List.nodup_cons.1 (by exact hn : (f.1 :: nms r).Nodup)
        have h1 := ih (buf.filter fun w => decide (w.1 ≠ f.1)) h'.2 (fun w hw => by
          obtain ⟨h2, h3⟩ := List.mem_filter.1 hw
          rcases List.mem_cons.1 (by exact hm w h2 : w.1 ∈ f.1 :: nms r) with h4 | h4
          · exact absurd h4 (of_decide_eq_true h3)
          · exact h4)
        have h2 := tot_gone buf f.1
        have h3 : usedL (buf.filter fun w => decide (w.1 ≠ f.1)) r = usedL buf r := used_congr fun g hg => by
          rw [pend_gone _ _ _ fun e => h'.1 (by rw [← e]; exact List.mem_map_of_mem hg)]
        have h4 := need_le (f.2.length + (pend buf f.1).length)
        rw [usedL]
        rw [h3] at h1
        omega
    exact key M.L M.buf hn hmem
  have h2 := hI.fits
  have h3 := hI.top
  unfold DM.used at h2
  omega
theorem DM.Inv.sizes {M : DM} (hI : M.Inv) : M.used ≤ 16777216 ∧ tot M.buf ≤ 1073741824 ∧ ∀ x, (M.bytes x).length ≤ 1073741824 ∧ (lk M.L x).length ≤ (M.bytes x).length :=
  ⟨Nat.le_trans hI.fits hI.top, tot_le hI, fun x => ⟨Nat.le_of_lt (hI.size x), by unfold DM.bytes; rw [List.length_append]; omega⟩⟩

/-- What settle makes of it: a crash that keeps so much, but that the power stays as it is. -/
theorem settled_lies {w : World} {d : Nat} {S : Nat → Prop} {φ : ByteArray → Nat} {σ : ByteArray → Value} {mb : Nat} {vb : Value} {M : DM} {mn : Nat} {kv : Int} (hI : M.Inv) (n : Nat) (h : Lies8 w d S φ σ mb vb ((M.raw mn kv).settled n)) :
    Lies8 w d S φ σ mb vb (DM.raw { M.crash n with off := M.off } mn kv) := by
  have hnd := hI.nodup
  have hm : ∀ v ∈ wrs M.buf, v.1 ∈ M.names := fun v hv => by
    obtain ⟨u, hu, e, _⟩ := wrs_mem hv
    rw [← e]; exact hI.mem u hu
  have hsu : ∀ x, sureL n (wrs M.buf) (fun x => (lk M.L x).length) x = (lk M.L x).length + (left n M.buf x).length := fun x => sureL_eq _ _ _ _
  have hle : ∀ x, sureL n (wrs M.buf) (fun x => (lk M.L x).length) x ≤ (M.bytes x).length := fun x => by
    rw [hsu]; unfold DM.bytes; rw [List.length_append]; have := left_le M.buf x n; omega
  obtain ⟨k1, k2, k3, k4, k5, k6, k7, k8, k9, k10⟩ := cuts_keeps (wrs M.buf) (M.raw1 mn kv n)
  have hbt : ∀ x ∈ M.names, (cuts (M.raw1 mn kv n) (wrs M.buf)).bt x = lk M.L x ++ left n M.buf x := by
    intro x _
    rw [cuts_bt]
    show (if x ∈ (wrs M.buf).map Prod.fst then (M.bytes x).take (sureL n (wrs M.buf) (fun x => (lk M.L x).length) x) else M.bytes x) = _
    by_cases hx : x ∈ (wrs M.buf).map Prod.fst
    · rw [if_pos hx, hsu]
      exact left_take M.buf x n _
    · rw [if_neg hx]
      have hp : pend M.buf x = [] := pend_none fun w hw e => hx ((wrs_names _ _).2 ⟨w, hw, e⟩)
      have hl : left n M.buf x = [] := List.eq_nil_of_length_eq_zero (by have := left_le M.buf x n; rw [hp] at this; simpa using this)
      unfold DM.bytes
      rw [hp, hl]
  have hnames : DM.names { M.crash n with off := M.off } = M.names := DM.nms_map M.L _
  have hlk : ∀ x ∈ M.names, lk (DM.L { M.crash n with off := M.off }) x = lk M.L x ++ left n M.buf x := fun x hx => DM.lk_map (fun x => left n M.buf x) hx
  have hn' : (n : Int).toNat = n := Int.toNat_natCast n
  obtain ⟨u1, _⟩ := cuts_used (wrs M.buf) (M.raw1 mn kv n) hnd hm (fun x _ => hle x) (by show ((M.used : Nat) : Int) = _; unfold DM.used; rw [used_sum hnd]; rfl)
  have e3 : (({ M.crash n with off := M.off } : DM).used : Int) = ((M.raw mn kv).settled n).used := by
    show _ = (cuts (M.raw1 mn kv n) (wrs M.buf)).used
    rw [u1]
    have hnd2 : (nms (DM.L { M.crash n with off := M.off })).Nodup := by
      have : nms (DM.L { M.crash n with off := M.off }) = nms M.L := DM.nms_map M.L _
      rw [this]; exact hnd
    unfold DM.used
    rw [used_sum hnd2]
    show ((sumN _ (nms (DM.L { M.crash n with off := M.off })) : Nat) : Int) = (sumN _ M.names : Nat)
    rw [show nms (DM.L { M.crash n with off := M.off }) = M.names from DM.nms_map M.L _]
    congr 1
    refine sumN_congr fun x hx => ?_
    rw [hbt x hx, hlk x hx]
    show need (_ ++ pend [] x).length = _
    rw [pend, List.append_nil]
  refine h.congr (fun x => ?_) (fun x hx => ?_) (fun x hx => ?_) rfl ?_ rfl ?_ e3 ?_ ?_ ?_ ?_
  · show x ∈ DM.names { M.crash n with off := M.off } ↔ x ∈ (cuts (M.raw1 mn kv n) (wrs M.buf)).names
    rw [hnames, k1]
    exact Iff.rfl
  · have hx' : x ∈ M.names := by
      have : x ∈ (cuts (M.raw1 mn kv n) (wrs M.buf)).names := hx
      rw [k1] at this; exact this
    show DM.bytes { M.crash n with off := M.off } x = (cuts (M.raw1 mn kv n) (wrs M.buf)).bt x
    rw [hbt x hx']
    unfold DM.bytes
    rw [hlk x hx']
    show _ ++ pend [] x = _
    rw [pend, List.append_nil]
  · have hx' : x ∈ M.names := by
      have : x ∈ (cuts (M.raw1 mn kv n) (wrs M.buf)).names := hx
      rw [k1] at this; exact this
    show (lk (DM.L { M.crash n with off := M.off }) x).length = (cuts (M.raw1 mn kv n) (wrs M.buf)).su x
    rw [hlk x hx', k2, List.length_append]
    exact (hsu x).symm
  · exact k4.symm
  · exact k6.symm
  · exact k7.symm
  · exact k8.symm
  · exact k9.symm
  · exact k10.symm
end Go.Proofs.Ytefgnehahedckaa

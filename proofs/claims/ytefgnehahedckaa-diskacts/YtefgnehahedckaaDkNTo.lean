import Derived.Test.YtefgnehahedckaaDkATo
import Derived.Test.YtefgnehahedckaaDkMTo
import Derived.Test.YtefgnehahedckaaChecked
import Derived.Sort.KeysCollected
import Derived.Maps.Ext
/-
  Plain mathematics: the document's disk as a whole, its calls, and what always holds of it. No program is named here.
-/
namespace Go.Proofs.Ytefgnehahedckaa
open Go.RowKit

/-- A letter; a sign that may stand in a name; a name that may be. -/
def letN (c : Nat) : Bool := decide (97 ≤ c) && decide (c ≤ 122)
def digN (c : Nat) : Bool := decide (48 ≤ c) && decide (c ≤ 57)
def chN (c : Nat) : Bool := letN c || digN c || c == 46 || c == 45
def goodN (x : ByteArray) : Bool := decide (1 ≤ x.size) && decide (x.size ≤ 24) && letN ((x.data.toList.getD 0 0).toNat) && x.data.toList.all fun c => chN c.toNat
theorem good_size {x : ByteArray} (h : goodN x = true) : 1 ≤ x.size ∧ x.size ≤ 24 := by
  unfold goodN at h
  simp only [Bool.and_eq_true, decide_eq_true_eq] at h
  exact ⟨h.1.1.1, h.1.1.2⟩

/-- Numbers that are bytes. -/
def isB8 (xs : List Int) : Prop := ∀ z ∈ xs, 0 ≤ z ∧ z < 256

instance decMemT (x : ByteArray) (l : List ByteArray) : Decidable (x ∈ l) := decidable_of_iff (l.any (fun y => decide (y = x)) = true) (by simp)

structure DM where
  blocks : Nat
  L : List (ByteArray × List Int)
  buf : List (ByteArray × List Int)
  off : Bool
  ops : Nat
  n : Nat
  keep : Int

namespace DM
abbrev names (M : DM) : List ByteArray := nms M.L
def used (M : DM) : Nat := usedL M.buf M.L
/-- A file's bytes, those in the buffer, too. -/
def bytes (M : DM) (x : ByteArray) : List Int := lk M.L x ++ pend M.buf x
def crash (M : DM) (k : Int) : DM := { M with L := M.L.map fun f => (f.1, f.2 ++ left k.toNat M.buf f.1), buf := [], off := true }
def sync (M : DM) : DM := { M with L := M.L.map fun f => (f.1, f.2 ++ pend M.buf f.1), buf := [] }
/-- An operation is begun; false: the power fails. -/
def begins (M : DM) : Bool := decide (M.n ≠ 1)
def begun (M : DM) : DM := if M.n = 1 then ({ M with ops := M.ops + 1, n := 0 }).crash M.keep else { M with ops := M.ops + 1, n := M.n - 1 }
def act (M : DM) (f : DM → Nat × DM) : Nat × DM := if M.begins = true then f M.begun else (9, M.begun)
def gone (M : DM) (x : ByteArray) : DM := { M with L := M.L.filter fun f => decide (f.1 ≠ x), buf := M.buf.filter fun w => decide (w.1 ≠ x) }
def put (M : DM) (x : ByteArray) (b : List Int) : DM := { M with L := insF x b M.L }
def create1 (M : DM) (x : ByteArray) : Nat × DM := if x ∈ M.names then (0, (M.gone x).put x []) else if M.blocks ≤ M.used then (7, M) else (0, M.put x [])
def create (M : DM) (x : ByteArray) : Nat × DM := if M.off = true then (9, M) else if goodN x = false then (3, M) else M.act fun M => M.create1 x
/-- How many blocks more a file needs for some bytes more. -/
def more (M : DM) (x : ByteArray) (b : List Int) : Nat := need ((M.bytes x).length + b.length) - need (M.bytes x).length
def append1 (M : DM) (x : ByteArray) (b : List Int) : Nat × DM := if M.blocks - M.used < M.more x b then (7, M) else (0, { M with buf := M.buf ++ [(x, b)] })
def append (M : DM) (x : ByteArray) (b : List Int) : Nat × DM := if M.off = true then (9, M) else if x ∉ M.names then (4, M) else M.act fun M => M.append1 x b
def syncs (M : DM) : Nat × DM := if M.off = true then (9, M) else M.act fun M => (0, M.sync)
def ren (M : DM) (a b : ByteArray) : DM := { M with L := insF b (lk M.L a) (M.L.filter fun f => decide (f.1 ≠ a)), buf := renB M.buf a b }
def rename1 (M : DM) (a b : ByteArray) : DM := if a = b then M else (M.gone b).ren a b
def rename (M : DM) (a b : ByteArray) : Nat × DM := if M.off = true then (9, M) else if goodN b = false then (3, M) else if a ∉ M.names then (4, M) else M.act fun M => (0, M.rename1 a b)
def remove (M : DM) (x : ByteArray) : Nat × DM := if M.off = true then (9, M) else if x ∉ M.names then (4, M) else M.act fun M => (0, M.gone x)
def arm (M : DM) (n k : Int) : Nat × DM := if M.off = true then (9, M) else (0, { M with n := n.toNat, keep := k })
def start (M : DM) : DM := { M with off := false, n := 0 }
def empty (blocks : Nat) : DM := ⟨blocks, [], [], false, 0, 0, 0⟩
end DM

/-- A byte of which some bits are turned. -/
def xor8 (z y : Int) : Int := ((z.toNat ^^^ y.toNat : Nat) : Int)
def flipB : List (ByteArray × List Int) → ByteArray → Nat → Int → List (ByteArray × List Int)
  | [], _, _, _ => []
  | w :: r, x, i, y => if w.1 = x then if i < w.2.length then (w.1, w.2.set i (xor8 (w.2.getD i 0) y)) :: r else w :: flipB r x (i - w.2.length) y else w :: flipB r x i y
def flipL (l : List (ByteArray × List Int)) (x : ByteArray) (i : Nat) (y : Int) : List (ByteArray × List Int) := l.map fun f => if f.1 = x then (f.1, f.2.set i (xor8 (f.2.getD i 0) y)) else f
def DM.flip (M : DM) (x : ByteArray) (i : Nat) (y : Int) : DM := if i < (lk M.L x).length then { M with L := flipL M.L x i y } else { M with buf := flipB M.buf x (i - (lk M.L x).length) y }
def DM.spoil (M : DM) (x : ByteArray) (i b : Int) : Nat × DM := if M.off = true then (9, M) else if x ∉ M.names then (4, M) else if i < 0 ∨ ((M.bytes x).length : Int) ≤ i ∨ b < 0 ∨ 7 < b then (6, M) else (0, M.flip x i.toNat ((2 ^ b.toNat : Nat) : Int))

/-- What always holds. -/
structure DM.Inv (M : DM) : Prop where
  rise : Rises M.L
  good : ∀ x ∈ M.names, goodN x = true
  mem : ∀ w ∈ M.buf, w.1 ∈ M.names
  isL : ∀ f ∈ M.L, isB8 f.2
  isW : ∀ w ∈ M.buf, isB8 w.2
  fits : M.used ≤ M.blocks
  top : M.blocks ≤ 16777216
  few : M.buf.length ≤ M.ops

theorem isB8_append {a b : List Int} (ha : isB8 a) (hb : isB8 b) : isB8 (a ++ b) := fun z hz => (List.mem_append.1 hz).elim (ha z) (hb z)
theorem isB8_take {a : List Int} (ha : isB8 a) (n : Nat) : isB8 (a.take n) := fun z hz => ha z (List.mem_of_mem_take hz)
theorem isB8_nil : isB8 [] := fun z hz => by cases hz
theorem isB8_left {l : List (ByteArray × List Int)} (h : ∀ w ∈ l, isB8 w.2) (x : ByteArray) : ∀ n, isB8 (left n l x) := by
  induction l with
  | nil => intro n; exact isB8_nil
  | cons w r ih =>
    intro n
    rw [left]
    refine isB8_append ?_ (ih (fun v hv => h v (List.mem_cons_of_mem _ hv)) _)
    split
    · exact isB8_take (h w List.mem_cons_self) _
    · exact isB8_nil
theorem isB8_pend {l : List (ByteArray × List Int)} (h : ∀ w ∈ l, isB8 w.2) (x : ByteArray) : isB8 (pend l x) := by
  rw [← left_all l x (tot l) (Nat.le_refl _)]
  exact isB8_left h x _

namespace DM
variable {M : DM}
theorem Inv.nodup (h : M.Inv) : (nms M.L).Nodup := h.rise.nodup
theorem Inv.isB (h : M.Inv) (x : ByteArray) : isB8 (M.bytes x) := by
  refine isB8_append ?_ (isB8_pend h.isW x)
  by_cases hx : x ∈ M.names
  · exact h.isL _ (lk_pair hx)
  · rw [lk_none hx]; exact isB8_nil
/-- A file is not too great. -/
theorem Inv.need_bytes (h : M.Inv) {x : ByteArray} (hx : x ∈ M.names) : DM.used M ≤ 16777216 ∧ Go.Proofs.Ytefgnehahedckaa.need (M.bytes x).length ≤ M.used := by
  have h1 := need_used (buf := M.buf) h.nodup hx
  have h2 := h.fits
  have h3 := h.top
  unfold bytes
  rw [List.length_append]
  exact ⟨by omega, h1⟩
theorem Inv.size (h : M.Inv) (x : ByteArray) : (M.bytes x).length < 1073741824 := by
  by_cases hx : x ∈ M.names
  · have h1 := h.need_bytes hx
    have := need_le (M.bytes x).length
    omega
  · have : M.bytes x = [] := by
      unfold bytes
      rw [lk_none hx, pend_none fun w hw (e : w.1 = x) => hx (by rw [← e]; exact h.mem w hw)]
      rfl
    rw [this]
    decide
theorem Inv.count (h : M.Inv) : M.L.length ≤ 16777216 := by
  have h1 := used_len M.buf M.L
  have h2 := h.fits
  have h3 := h.top
  unfold used at h2
  omega

theorem nms_map (l : List (ByteArray × List Int)) (g : ByteArray × List Int → List Int) : nms (l.map fun f => (f.1, g f)) = nms l := by
  unfold nms; rw [List.map_map]; rfl
theorem lk_map {l : List (ByteArray × List Int)} (g : ByteArray → List Int) {x : ByteArray} (hx : x ∈ nms l) : lk (l.map fun f => (f.1, f.2 ++ g f.1)) x = lk l x ++ g x := by
  induction l with
  | nil => cases hx
  | cons f r ih =>
    rw [List.map_cons, lk, lk]
    by_cases hf : f.1 = x
    · rw [if_pos hf, if_pos hf, hf]
    · rw [if_neg hf, if_neg hf]
      refine ih ?_
      rcases List.mem_cons.1 (by exact hx : x ∈ f.1 :: nms r) with rfl | h
      · exact absurd rfl hf
      · exact h
theorem used_left (buf : List (ByteArray × List Int)) (n : Nat) : ∀ l : List (ByteArray × List Int), usedL [] (l.map fun f => (f.1, f.2 ++ left n buf f.1)) ≤ usedL buf l
  | [] => Nat.le_refl _
  | f :: r => by
    have h1 := used_left buf n r
    have h2 := left_le buf f.1 n
    have h3 : Go.Proofs.Ytefgnehahedckaa.need (f.2 ++ left n buf f.1).length ≤ Go.Proofs.Ytefgnehahedckaa.need (f.2.length + (pend buf f.1).length) := need_mono (by rw [List.length_append]; omega)
    rw [List.map_cons, usedL, usedL]
    simp only [pend, List.length_nil, Nat.add_zero]
    omega
theorem Inv.crash (h : M.Inv) (k : Int) : (M.crash k).Inv where
  rise := by
    have := h.rise
    unfold Rises at this ⊢
    exact List.pairwise_map.2 this
  good := by
    intro x hx
    refine h.good x ?_
    unfold names DM.crash at hx
    rwa [nms_map] at hx
  mem := fun w hw => by cases hw
  isL := by
    intro f hf
    obtain ⟨g, hg, rfl⟩ := List.mem_map.1 hf
    exact isB8_append (h.isL g hg) (isB8_left h.isW _ _)
  isW := fun w hw => by cases hw
  fits := Nat.le_trans (used_left M.buf k.toNat M.L) h.fits
  top := h.top
  few := Nat.zero_le _
theorem sync_eq (M : DM) : M.sync = { M.crash (tot M.buf) with off := M.off } := by
  unfold sync DM.crash
  simp only [Int.toNat_natCast, left_all _ _ _ (Nat.le_refl _)]
theorem Inv.sync (h : M.Inv) : M.sync.Inv := by
  rw [sync_eq]
  have := h.crash (tot M.buf)
  exact ⟨this.rise, this.good, this.mem, this.isL, this.isW, this.fits, this.top, this.few⟩
theorem Inv.begun (h : M.Inv) : M.begun.Inv := by
  have few' := h.few
  unfold DM.begun
  split
  · refine Inv.crash (M := { M with ops := M.ops + 1, n := 0 }) ⟨h.rise, h.good, h.mem, h.isL, h.isW, h.fits, h.top, ?_⟩ _
    exact Nat.le_succ_of_le h.few
  · exact ⟨h.rise, h.good, h.mem, h.isL, h.isW, h.fits, h.top, Nat.le_succ_of_le h.few⟩
theorem begun_off (h : M.begins = true) : M.begun.off = M.off ∧ M.begun.L = M.L ∧ M.begun.buf = M.buf ∧ M.begun.blocks = M.blocks ∧ M.begun.ops = M.ops + 1 := by
  unfold begins at h
  have h' := of_decide_eq_true h
  unfold DM.begun
  rw [if_neg h']
  exact ⟨rfl, rfl, rfl, rfl, rfl⟩
theorem begun_ops (M : DM) : M.begun.ops = M.ops + 1 := by unfold DM.begun; split <;> rfl
/-- A file and its writes go. -/
theorem used_gone (h : M.Inv) {x : ByteArray} (hx : x ∈ M.names) : (M.gone x).used + Go.Proofs.Ytefgnehahedckaa.need (M.bytes x).length = M.used := by
  have h1 := used_one (buf := M.buf) h.nodup hx
  unfold used DM.gone
  dsimp only
  rw [used_congr (b2 := M.buf)]
  · unfold bytes
    rw [List.length_append]
    exact h1
  · intro f hf
    have := (List.mem_filter.1 hf).2
    rw [pend_gone _ _ _ (of_decide_eq_true this)]
theorem gone_none (h : M.Inv) {x : ByteArray} (hx : x ∉ M.names) : M.gone x = M := by
  unfold DM.gone
  have e1 : (M.L.filter fun f => decide (f.1 ≠ x)) = M.L := List.filter_eq_self.2 fun f hf => by
    have : f.1 ≠ x := fun e => hx (by rw [← e]; exact List.mem_map_of_mem hf)
    simpa using this
  have e2 : (M.buf.filter fun w => decide (w.1 ≠ x)) = M.buf := List.filter_eq_self.2 fun w hw => by
    have : w.1 ≠ x := fun e => hx (by rw [← e]; exact h.mem w hw)
    simpa using this
  rw [e1, e2]
theorem names_gone (M : DM) (x y : ByteArray) : y ∈ (M.gone x).names ↔ y ∈ M.names ∧ y ≠ x := nms_filter M.L x y
theorem bytes_gone (M : DM) {x y : ByteArray} (h : y ≠ x) : (M.gone x).bytes y = M.bytes y := by
  unfold bytes DM.gone
  dsimp only
  rw [lk_filter h, pend_gone _ _ _ h]
theorem Inv.gone (h : M.Inv) (x : ByteArray) : (M.gone x).Inv where
  rise := rise_filter h.rise _
  good := fun y hy => h.good y ((names_gone M x y).1 hy).1
  mem := fun w hw => by
    obtain ⟨h1, h2⟩ := List.mem_filter.1 hw
    exact (names_gone M x w.1).2 ⟨h.mem w h1, of_decide_eq_true h2⟩
  isL := fun f hf => h.isL f (List.mem_filter.1 hf).1
  isW := fun w hw => h.isW w (List.mem_filter.1 hw).1
  fits := by
    by_cases hx : x ∈ M.names
    · have := used_gone h hx
      have := h.fits
      show (M.gone x).used ≤ M.blocks
      omega
    · rw [gone_none h hx]; exact h.fits
  top := h.top
  few := Nat.le_trans (List.length_filter_le _ _) h.few
theorem names_put (M : DM) (x y : ByteArray) (b : List Int) : y ∈ (M.put x b).names ↔ y = x ∨ y ∈ M.names := by
  show y ∈ nms (insF x b M.L) ↔ _
  rw [(nms_ins x b M.L).mem_iff, List.mem_cons]
theorem used_put (M : DM) (h : M.Inv) {x : ByteArray} (hx : x ∉ M.names) : (M.put x []).used = M.used + 1 := by
  show usedL M.buf (insF x [] M.L) = _
  rw [used_ins, pend_none fun w hw (e : w.1 = x) => hx (by rw [← e]; exact h.mem w hw)]
  show Go.Proofs.Ytefgnehahedckaa.need 0 + usedL M.buf M.L = usedL M.buf M.L + 1
  unfold Go.Proofs.Ytefgnehahedckaa.need
  omega
theorem Inv.put (h : M.Inv) {x : ByteArray} (hx : x ∉ M.names) (hg : goodN x = true) (hu : M.used < M.blocks) : (M.put x []).Inv where
  rise := insF_rise h.rise hx
  good := fun y hy => by
    rcases (names_put M x y []).1 hy with rfl | hy
    · exact hg
    · exact h.good y hy
  mem := fun w hw => (names_put M x w.1 []).2 (.inr (h.mem w hw))
  isL := fun f hf => by
    rcases List.mem_cons.1 ((insF_perm x [] M.L).mem_iff.1 hf) with rfl | hf
    · exact isB8_nil
    · exact h.isL f hf
  isW := h.isW
  fits := by rw [used_put M h hx]; exact hu
  top := h.top
  few := h.few
theorem Inv.create1 (h : M.Inv) {x : ByteArray} (hg : goodN x = true) : (M.create1 x).2.Inv := by
  unfold DM.create1
  split
  · rename_i hx
    refine (h.gone x).put (fun hm => ((names_gone M x x).1 hm).2 rfl) hg ?_
    have h1 := used_gone h hx
    have h2 := h.fits
    have h3 := need_pos (M.bytes x).length
    show (M.gone x).used < M.blocks
    omega
  · rename_i hx
    split
    · exact h
    · exact h.put hx hg (by omega)
theorem Inv.act (h : M.Inv) {f : DM → Nat × DM} (hf : ∀ N : DM, N.Inv → N.names = M.names → (f N).2.Inv) : (M.act f).2.Inv := by
  unfold DM.act
  split
  · rename_i hb
    refine hf _ h.begun ?_
    unfold names
    rw [(begun_off hb).2.1]
  · exact h.begun
theorem Inv.create (h : M.Inv) (x : ByteArray) : (M.create x).2.Inv := by
  unfold DM.create
  split
  · exact h
  · split
    · exact h
    · rename_i hg
      exact h.act fun N hN _ => hN.create1 (by simpa using hg)
theorem used_append (h : M.Inv) {x : ByteArray} (hx : x ∈ M.names) (b : List Int) : DM.used { M with buf := M.buf ++ [(x, b)] } = M.used + M.more x b := by
  have hn := h.nodup
  have h1 := used_one (buf := M.buf) hn hx
  have h2 := used_one (buf := M.buf ++ [(x, b)]) hn hx
  have h3 : usedL (M.buf ++ [(x, b)]) (M.L.filter fun f => decide (f.1 ≠ x)) = usedL M.buf (M.L.filter fun f => decide (f.1 ≠ x)) := by
    refine used_congr fun f hf => ?_
    have hne : f.1 ≠ x := of_decide_eq_true (List.mem_filter.1 hf).2
    rw [pend_append, pend, if_neg (Ne.symm hne)]
    simp [pend]
  have h4 : (pend (M.buf ++ [(x, b)]) x).length = (pend M.buf x).length + b.length := by
    rw [pend_append, pend, if_pos rfl]; simp [pend]
  unfold used more bytes
  dsimp only
  rw [List.length_append]
  rw [h3, h4] at h2
  have h5 : Go.Proofs.Ytefgnehahedckaa.need ((lk M.L x).length + (pend M.buf x).length) ≤ Go.Proofs.Ytefgnehahedckaa.need ((lk M.L x).length + (pend M.buf x).length + b.length) := need_mono (by omega)
  rw [← Nat.add_assoc] at h2
  omega
theorem Inv.append1 (h : M.Inv) {x : ByteArray} (hx : x ∈ M.names) {b : List Int} (hb : isB8 b) (hf : M.buf.length < M.ops) : (M.append1 x b).2.Inv := by
  unfold DM.append1
  split
  · exact h
  · rename_i hu
    refine ⟨h.rise, h.good, fun w hw => ?_, h.isL, fun w hw => ?_, ?_, h.top, ?_⟩
    · rcases List.mem_append.1 hw with hw | hw
      · exact h.mem w hw
      · rw [List.mem_singleton.1 hw]; exact hx
    · rcases List.mem_append.1 hw with hw | hw
      · exact h.isW w hw
      · rw [List.mem_singleton.1 hw]; exact hb
    · rw [used_append h hx]
      have := h.fits
      show M.used + M.more x b ≤ M.blocks
      omega
    · show (M.buf ++ [(x, b)]).length ≤ M.ops
      rw [List.length_append]
      exact hf
theorem Inv.append (h : M.Inv) (x : ByteArray) {b : List Int} (hb : isB8 b) : (M.append x b).2.Inv := by
  unfold DM.append
  split
  · exact h
  · split
    · exact h
    · rename_i hx
      unfold DM.act
      split
      · rename_i hbe
        obtain ⟨_, e2, e3, _, e5⟩ := begun_off hbe
        refine h.begun.append1 ?_ hb ?_
        · unfold names; rw [e2]; exact Classical.not_not.1 hx
        · rw [e3, e5]; exact Nat.lt_succ_of_le h.few
      · exact h.begun
theorem Inv.syncs (h : M.Inv) : M.syncs.2.Inv := by
  unfold DM.syncs
  split
  · exact h
  · exact h.act fun N hN _ => hN.sync
theorem Inv.remove (h : M.Inv) (x : ByteArray) : (M.remove x).2.Inv := by
  unfold DM.remove
  split
  · exact h
  · split
    · exact h
    · exact h.act fun N hN _ => hN.gone x
theorem names_ren (M : DM) (a b y : ByteArray) : y ∈ (M.ren a b).names ↔ y = b ∨ y ∈ M.names ∧ y ≠ a := by
  show y ∈ nms (insF b _ _) ↔ _
  rw [(nms_ins _ _ _).mem_iff, List.mem_cons, nms_filter]
theorem used_ren (h : M.Inv) {a b : ByteArray} (ha : a ∈ M.names) (hb : b ∉ M.names) : (M.ren a b).used = M.used := by
  have h1 := used_one (buf := M.buf) h.nodup ha
  have hnb : ∀ w ∈ M.buf, w.1 ≠ b := fun w hw e => hb (by rw [← e]; exact h.mem w hw)
  show usedL (renB M.buf a b) (insF b (lk M.L a) _) = usedL M.buf M.L
  rw [used_ins, pend_ren_to hnb, used_congr (b2 := M.buf)]
  · omega
  · intro f hf
    obtain ⟨h2, h3⟩ := List.mem_filter.1 hf
    have h4 : f.1 ≠ a := of_decide_eq_true h3
    have h5 : f.1 ≠ b := fun e => hb (by rw [← e]; exact List.mem_map_of_mem h2)
    rw [pend_ren_other h4 h5]
theorem Inv.ren (h : M.Inv) {a b : ByteArray} (ha : a ∈ M.names) (hb : b ∉ M.names) (hg : goodN b = true) : (M.ren a b).Inv where
  rise := insF_rise (rise_filter h.rise _) fun hm => hb ((nms_filter M.L a b).1 hm).1
  good := fun y hy => by
    rcases (names_ren M a b y).1 hy with rfl | hy
    · exact hg
    · exact h.good y hy.1
  mem := fun w hw => by
    obtain ⟨v, hv, _, hc⟩ := ren_mem hw
    refine (names_ren M a b w.1).2 ?_
    rcases hc with ⟨h1, _⟩ | ⟨h1, h2⟩
    · exact .inl h1
    · exact .inr (by rw [h1]; exact ⟨h.mem v hv, h2⟩)
  isL := fun f hf => by
    rcases List.mem_cons.1 ((insF_perm _ _ _).mem_iff.1 hf) with rfl | hf
    · exact h.isL (a, lk M.L a) (lk_pair ha)
    · exact h.isL f (List.mem_filter.1 hf).1
  isW := fun w hw => by
    obtain ⟨v, hv, e, _⟩ := ren_mem hw
    rw [e]
    exact h.isW v hv
  fits := by rw [used_ren h ha hb]; exact h.fits
  top := h.top
  few := by
    show (renB M.buf a b).length ≤ M.ops
    unfold renB
    rw [List.length_map]
    exact h.few
theorem Inv.rename1 (h : M.Inv) {a b : ByteArray} (ha : a ∈ M.names) (hg : goodN b = true) : (M.rename1 a b).Inv := by
  unfold DM.rename1
  split
  · exact h
  · rename_i hab
    exact (h.gone b).ren ((names_gone M b a).2 ⟨ha, hab⟩) (fun hm => ((names_gone M b b).1 hm).2 rfl) hg
theorem Inv.rename (h : M.Inv) (a b : ByteArray) : (M.rename a b).2.Inv := by
  unfold DM.rename
  split
  · exact h
  · split
    · exact h
    · rename_i hg
      split
      · exact h
      · rename_i ha
        exact h.act fun N hN hn => hN.rename1 (by rw [hn]; exact Classical.not_not.1 ha) (by simpa using hg)
theorem Inv.arm (h : M.Inv) (n k : Int) : (M.arm n k).2.Inv := by
  unfold DM.arm
  split
  · exact h
  · exact ⟨h.rise, h.good, h.mem, h.isL, h.isW, h.fits, h.top, h.few⟩
theorem Inv.start (h : M.Inv) : M.start.Inv := ⟨h.rise, h.good, h.mem, h.isL, h.isW, h.fits, h.top, h.few⟩
theorem inv_empty8 (b : Nat) (hb : b ≤ 16777216) : (DM.empty b).Inv := ⟨List.Pairwise.nil, (fun _ h => by cases h), (fun _ h => by cases h), (fun _ h => by cases h), (fun _ h => by cases h), Nat.zero_le _, hb, Nat.le_refl _⟩
end DM
end Go.Proofs.Ytefgnehahedckaa

/-
  The program's disk in memory: the object of nine cells, the map of files, the files, their rows of bytes, the row of writes; what it takes to keep it, and what a store makes of it.
-/
namespace Go.Proofs.Ytefgnehahedckaa
open Go.RowKit Go.Maps Go.WideMaps

/-- How a pointer to a file reads as a map's element. -/
def ptrR (v : Value) : Option (DataW Unit × List MemPlace) :=
  match v with
  | .pointer none => some (.nil, [])
  | .pointer (some ⟨b, 0, none⟩) => some (.lit (.int .i64 (b : Int)), [])
  | _ => none
theorem ptrR_at {v : Value} {k : Nat} {ps : List MemPlace} (h : ptrR v = some (.lit (.int .i64 (k : Int)), ps)) : v = .pointer (some ⟨k, 0, none⟩) := by
  unfold ptrR at h
  split at h
  · simp at h
  · simp only [Option.some.injEq, Prod.mk.injEq, DataW.lit.injEq, Lit.int.injEq, true_and] at h
    rw [show k = _ from Int.ofNat.inj h.1.symm]
  · cases h
theorem ptrR_nil {v : Value} {ps : List MemPlace} (h : ptrR v = some (.nil, ps)) : v = .pointer none := by
  unfold ptrR at h
  split at h
  · rfl
  · simp at h
  · cases h
def keyL (x : ByteArray) : Lit := .string x.data.toList
theorem keyL_inj {x y : ByteArray} (h : keyL x = keyL y) : x = y := by
  unfold keyL at h
  simp only [Lit.string.injEq] at h
  obtain ⟨⟨a⟩⟩ := x
  obtain ⟨⟨b⟩⟩ := y
  cases h
  rfl
theorem keyedS : Keyed Try.prog 9 := string_keyed Try.underlying9
theorem keyS {x : ByteArray} (h : x.size ≤ maxLen) : keyOf Try.prog 9 (.string x) = some (keyL x) := keyOf_string_mk Try.underlying9 h
theorem zeroF (w : World) : (zeroValue 76).run Try.prog w = .ok (.pointer none) w := by kernel_rfl
/-- A function that is another at one place. -/
def upd {α : Type} (f : ByteArray → α) (x : ByteArray) (v : α) : ByteArray → α := fun y => if y = x then v else f y
theorem upd_at {α : Type} (f : ByteArray → α) (x : ByteArray) (v : α) : upd f x v x = v := if_pos rfl
theorem upd_ne {α : Type} {f : ByteArray → α} {x y : ByteArray} {v : α} (h : y ≠ x) : upd f x v y = f y := if_neg h

/-- The map in block mb: just these names, each with its file. -/
def MapAt (w : World) (mb : Nat) (names : List ByteArray) (φ : ByteArray → Nat) (n : Nat) : Prop :=
  ∃ D : DataW Unit, w.ownsMap Try.prog 9 ptrR mb n D ∧ ∀ x : ByteArray, x.size ≤ maxLen → has D (keyL x) = decide (x ∈ names) ∧ (x ∈ names → ∀ z, D.atKey (keyL x) z = .lit (.int .i64 (φ x : Int)))
theorem MapAt.same {w w' : World} {mb n : Nat} {names : List ByteArray} {φ : ByteArray → Nat} (h : MapAt w mb names φ n) (hs : w'.heap[mb]? = w.heap[mb]?) : MapAt w' mb names φ n := by
  obtain ⟨D, ⟨es, cl, h1, h2⟩, h3⟩ := h
  exact ⟨D, ⟨es, cl, hs.trans h1, h2⟩, h3⟩
theorem MapAt.block {w : World} {mb n : Nat} {names : List ByteArray} {φ : ByteArray → Nat} (h : MapAt w mb names φ n) : ∃ es cl, w.heap[mb]? = some (.map es cl) := by
  obtain ⟨D, ⟨es, cl, h1, h2⟩, h3⟩ := h
  exact ⟨es, cl, h1⟩
theorem MapAt.made (w : World) (φ : ByteArray → Nat) : MapAt (w.alloc (.map #[] 0)) w.heap.size [] φ 0 :=
  ⟨_, World.ownsMap_made w _ _ _, fun x _ => ⟨by simp [has], fun h => by cases h⟩⟩
theorem MapAt.mono {w : World} {mb n m : Nat} {names : List ByteArray} {φ : ByteArray → Nat} (h : MapAt w mb names φ n) (hn : n ≤ m) : MapAt w mb names φ m := by
  obtain ⟨D, h1, h3⟩ := h
  exact ⟨D, h1.mono hn, h3⟩
theorem MapAt.congr {w : World} {mb n : Nat} {names names' : List ByteArray} {φ φ' : ByteArray → Nat} (h : MapAt w mb names φ n) (hn : ∀ x, x ∈ names' ↔ x ∈ names) (hf : ∀ x ∈ names, φ' x = φ x) : MapAt w mb names' φ' n := by
  obtain ⟨D, h1, h3⟩ := h
  refine ⟨D, h1, fun x hx => ⟨?_, fun hm z => ?_⟩⟩
  · rw [(h3 x hx).1]
    exact decide_eq_decide.2 (hn x).symm
  · rw [(h3 x hx).2 ((hn x).1 hm) z, hf x ((hn x).1 hm)]
/-- 'd.files[x]'. -/
def fileV (names : List ByteArray) (φ : ByteArray → Nat) (x : ByteArray) : Value := if x ∈ names then .pointer (some ⟨φ x, 0, none⟩) else .pointer none
theorem MapAt.look {w : World} {mb n : Nat} {names : List ByteArray} {φ : ByteArray → Nat} (h : MapAt w mb names φ n) {x : ByteArray} (hx : x.size ≤ maxLen) :
    (Instr.lookup 54 (.map (some mb)) (.string x) false).run Try.prog w = .ok (fileV names φ x) w := by
  obtain ⟨D, h1, h3⟩ := h
  obtain ⟨hh, ha⟩ := h3 x hx
  obtain ⟨v, ps, hrun, hv⟩ := h1.lookup (zd := .nil) (zp := []) keyedS Try.underlying54 (zeroF w) rfl (keyS hx)
  rw [hrun]
  unfold fileV
  by_cases hm : x ∈ names
  · rw [if_pos hm]
    rw [ha hm] at hv
    rw [ptrR_at hv]
  · rw [if_neg hm]
    rw [decide_eq_false hm] at hh
    rw [atKey_of_not_has hh] at hv
    rw [ptrR_nil hv]
theorem MapAt.look_yes {w : World} {mb n : Nat} {names : List ByteArray} {φ : ByteArray → Nat} (h : MapAt w mb names φ n) {x : ByteArray} (hx : x.size ≤ maxLen) (hm : x ∈ names) :
    (Instr.lookup 54 (.map (some mb)) (.string x) false).run Try.prog w = .ok (.pointer (some ⟨φ x, 0, none⟩)) w := by
  rw [h.look hx]; unfold fileV; rw [if_pos hm]
theorem MapAt.look_no {w : World} {mb n : Nat} {names : List ByteArray} {φ : ByteArray → Nat} (h : MapAt w mb names φ n) {x : ByteArray} (hx : x.size ≤ maxLen) (hm : x ∉ names) :
    (Instr.lookup 54 (.map (some mb)) (.string x) false).run Try.prog w = .ok (.pointer none) w := by
  rw [h.look hx]; unfold fileV; rw [if_neg hm]
/-- 'd.files[x] = f'. -/
theorem MapAt.store {w : World} {mb n : Nat} {names : List ByteArray} {φ : ByteArray → Nat} (h : MapAt w mb names φ n) (hn : n < maxLen) {x : ByteArray} (hx : x.size ≤ maxLen) (k : Nat) :
    ∃ w', (Instr.mapUpdate 54 (.map (some mb)) (.string x) (.pointer (some ⟨k, 0, none⟩))).run Try.prog w = .ok () w' ∧ MapAt w' mb (x :: names) (upd φ x k) (n + 1) ∧ w.grownBy w' (some mb) := by
  obtain ⟨D, h1, h3⟩ := h
  obtain ⟨w', hrun, ho, hg⟩ := h1.update (d := .lit (.int .i64 (k : Int))) (ps := []) keyedS Try.underlying54 hn (keyS hx) (val := .pointer (some ⟨k, 0, none⟩)) rfl
  refine ⟨w', hrun, ⟨_, ho, fun y hy => ?_⟩, hg⟩
  by_cases hyx : y = x
  · subst hyx
    refine ⟨?_, fun _ z => ?_⟩
    · rw [has_put_same h1.isMap (show WideAt.IsKeyLit (keyL y) from trivial)]; simp
    · rw [atKey_put_same h1.isMap (show WideAt.IsKeyLit (keyL y) from trivial), upd_at]
  · have hne : keyL y ≠ keyL x := fun e => hyx (keyL_inj e)
    refine ⟨?_, fun hm z => ?_⟩
    · rw [has_put_other hne, (h3 y hy).1]
      simp [hyx]
    · rw [atKey_put_other hne, (h3 y hy).2 ((List.mem_cons.1 hm).resolve_left hyx), upd_ne hyx]
/-- 'delete(d.files, x)'. -/
theorem MapAt.drop {w : World} {mb n : Nat} {names names' : List ByteArray} {φ : ByteArray → Nat} (h : MapAt w mb names φ n) {x : ByteArray} (hx : x.size ≤ maxLen) (hs : ∀ y, y ∈ names' ↔ y ∈ names ∧ y ≠ x) (ty : TypeId) :
    ∃ w', (Builtin.delete_ #[54, 9] ty #[.map (some mb), .string x]).run Try.prog w = .ok (.tuple #[]) w' ∧ MapAt w' mb names' φ n ∧ w.grownBy w' (some mb) := by
  obtain ⟨D, h1, h3⟩ := h
  obtain ⟨w', hrun, ho, hg⟩ := h1.drop keyedS Try.underlying54 (keyS hx) ty
  refine ⟨w', hrun, ⟨_, ho, fun y hy => ?_⟩, hg.grown⟩
  by_cases hyx : y = x
  · subst hyx
    refine ⟨?_, fun hm => absurd rfl ((hs y).1 hm).2⟩
    rw [has_del_same]
    exact (decide_eq_false fun hm => ((hs y).1 hm).2 rfl).symm
  · have hne : keyL y ≠ keyL x := fun e => hyx (keyL_inj e)
    refine ⟨?_, fun hm z => ?_⟩
    · rw [has_del_other hne, (h3 y hy).1]
      exact decide_eq_decide.2 ⟨fun hm => (hs y).2 ⟨hm, hyx⟩, fun hm => ((hs y).1 hm).1⟩
    · rw [atKey_del_other hne, (h3 y hy).2 ((hs y).1 hm).1]

theorem keyL_of {D : DataW Unit} {w : World} {mb n : Nat} (h : w.ownsMap Try.prog 9 ptrR mb n D) : ∃ es, D = .map es ∧ es.Pairwise (fun p q => p.1 ≠ q.1) ∧ es.length ≤ n ∧ w.ownsMap Try.prog 9 ptrR mb es.length D ∧ ∀ p ∈ es, ∃ x : ByteArray, x.size ≤ maxLen ∧ p.1 = keyL x := by
  obtain ⟨es, e1, hk⟩ := h.keysOf
  obtain ⟨es', e2, hp⟩ := h.tidy keyedS
  obtain rfl : es = es' := by rw [e1] at e2; simpa using e2
  refine ⟨es, e1, hp, ?_, ?_, fun p hp => ?_⟩
  · have := h.size_le
    rw [e1] at this
    exact this
  · obtain ⟨a, cl, h1, h2, h3, h4⟩ := h
    refine ⟨a, cl, h1, h2, ?_, h4⟩
    rw [e1] at h4
    have := congrArg Maps.size h4
    rw [size_eq, size_eq, length_sorted, List.length_map] at this
    rw [this]
    exact Nat.le_of_eq (by simp)
  · obtain ⟨v, hv⟩ := hk p hp
    obtain ⟨x, _, hx, hl⟩ := Maps.keyOf_str Try.underlying9 hv
    exact ⟨⟨x.toArray⟩, by simpa [ByteArray.size] using hl, by rw [hx]; simp [keyL]⟩
/-- The names are the map's keys, each once. -/
theorem MapAt.keys {w : World} {mb n : Nat} {names : List ByteArray} {φ : ByteArray → Nat} (h : MapAt w mb names φ n) (hnd : names.Nodup) (hsz : ∀ x ∈ names, x.size ≤ maxLen) :
    ∃ D : DataW Unit, w.ownsMap Try.prog 9 ptrR mb names.length D ∧ (names.map fun x => x.data.toList).Perm (strKeys D) ∧ ∀ x : ByteArray, x.size ≤ maxLen → has D (keyL x) = decide (x ∈ names) ∧ (x ∈ names → ∀ z, D.atKey (keyL x) z = .lit (.int .i64 (φ x : Int))) := by
  obtain ⟨D, h1, h3⟩ := h
  obtain ⟨es, rfl, hp, hle, ho, hk⟩ := keyL_of h1
  have hperm : (names.map fun x => x.data.toList).Perm (strKeys (.map es)) := by
    refine perm_strKeys hp (fun p hp => by obtain ⟨x, _, e⟩ := hk p hp; exact ⟨_, e⟩) ?_ fun x => ?_
    · rw [List.nodup_iff_pairwise_ne, List.pairwise_map]
      rw [List.nodup_iff_pairwise_ne] at hnd
      refine hnd.imp fun {a b} hab e => hab (keyL_inj (by unfold keyL; rw [e]))
    · constructor
      · intro hx
        obtain ⟨y, hy, rfl⟩ := List.mem_map.1 hx
        have := (h3 y (hsz y hy)).1
        rw [decide_eq_true hy] at this
        exact this
      · intro hx
        rw [has_eq, List.any_eq_true] at hx
        obtain ⟨p, hpm, hs⟩ := hx
        obtain ⟨y, hy, e⟩ := hk p hpm
        rw [e] at hs
        have hyx : y.data.toList = x := by simpa [keyL, Lit.sameKey] using hs
        have h4 := (h3 y hy).1
        have h5 : has (.map es) (keyL y) = true := by
          rw [has_eq, List.any_eq_true]
          exact ⟨p, hpm, by rw [e]; simp [keyL, Lit.sameKey]⟩
        rw [h5] at h4
        exact List.mem_map.2 ⟨y, of_decide_eq_true h4.symm, hyx⟩
  refine ⟨.map es, ?_, hperm, h3⟩
  have := hperm.length_eq
  rw [List.length_map] at this
  show w.ownsMap _ _ _ mb names.length _
  rw [this]
  show w.ownsMap _ _ _ mb (es.map fun p => strOf p.1).length _
  rw [List.length_map]
  exact ho
theorem MapAt.norm {w : World} {mb n : Nat} {names : List ByteArray} {φ : ByteArray → Nat} (h : MapAt w mb names φ n) (hnd : names.Nodup) (hsz : ∀ x ∈ names, x.size ≤ maxLen) : MapAt w mb names φ names.length := by
  obtain ⟨D, h1, _, h3⟩ := h.keys hnd hsz
  exact ⟨D, h1, h3⟩

/-- What the object and its files hold. -/
structure RD where
  names : List ByteArray
  bt : ByteArray → List Int
  su : ByteArray → Nat
  wr : List (ByteArray × Nat)
  mn : Nat
  pending : Int
  blocks : Int
  used : Int
  on : Bool
  ops : Int
  armed : Int
  keep : Int
def objV (mb : Nat) (vb : Value) (R : RD) : Array Value := #[.map (some mb), vb, .int .i64 R.pending, .int .i64 R.blocks, .int .i64 R.used, .bool R.on, .int .i64 R.ops, .int .i64 R.armed, .int .i64 R.keep]
def writeV (φ : ByteArray → Nat) (w : ByteArray × Nat) : List Value := [.pointer (some ⟨φ w.1, 0, none⟩), .int .i64 (w.2 : Nat)]
def writesV (φ : ByteArray → Nat) (l : List (ByteArray × Nat)) : List Value := (l.map (writeV φ)).flatten
theorem writesV_cons (φ : ByteArray → Nat) (w : ByteArray × Nat) (l : List (ByteArray × Nat)) : writesV φ (w :: l) = .pointer (some ⟨φ w.1, 0, none⟩) :: .int .i64 (w.2 : Nat) :: writesV φ l := rfl
theorem writesV_append (φ : ByteArray → Nat) (l m : List (ByteArray × Nat)) : writesV φ (l ++ m) = writesV φ l ++ writesV φ m := by simp [writesV]
theorem writesV_length (φ : ByteArray → Nat) : ∀ l : List (ByteArray × Nat), (writesV φ l).length = l.length * 2
  | [] => rfl
  | w :: l => by rw [writesV_cons, List.length_cons, List.length_cons, writesV_length φ l, List.length_cons]; omega
theorem writesV_congr {φ φ' : ByteArray → Nat} : ∀ {l : List (ByteArray × Nat)}, (∀ w ∈ l, φ' w.1 = φ w.1) → writesV φ' l = writesV φ l
  | [], _ => rfl
  | w :: l, h => by rw [writesV_cons, writesV_cons, h w List.mem_cons_self, writesV_congr fun v hv => h v (List.mem_cons_of_mem _ hv)]
theorem writesV_file {φ : ByteArray → Nat} : ∀ {l : List (ByteArray × Nat)} {i : Nat}, i < l.length → (writesV φ l)[i * 2]? = some (.pointer (some ⟨φ (l.getD i default).1, 0, none⟩))
  | [], i, h => by cases h
  | w :: l, 0, _ => rfl
  | w :: l, i + 1, h => by
    rw [writesV_cons, show (i + 1) * 2 = i * 2 + 1 + 1 by omega, List.getElem?_cons_succ, List.getElem?_cons_succ, writesV_file (by simpa using h), List.getD_cons_succ]
theorem writesV_size {φ : ByteArray → Nat} : ∀ {l : List (ByteArray × Nat)} {i : Nat}, i < l.length → (writesV φ l)[i * 2 + 1]? = some (.int .i64 ((l.getD i default).2 : Nat))
  | [], i, h => by cases h
  | w :: l, 0, _ => rfl
  | w :: l, i + 1, h => by
    rw [writesV_cons, show (i + 1) * 2 + 1 = i * 2 + 1 + 1 + 1 by omega, List.getElem?_cons_succ, List.getElem?_cons_succ, writesV_size (by simpa using h), List.getD_cons_succ]

/-- The disk in block d, its map in mb, its files in φ, their rows in σ, its writes in vb; all of it in blocks of S. -/
structure Lies8 (w : World) (d : Nat) (S : Nat → Prop) (φ : ByteArray → Nat) (σ : ByteArray → Value) (mb : Nat) (vb : Value) (R : RD) : Prop where
  obj : w.heap[d]? = some (.cells (objV mb vb R) 57 (0, 0))
  map : MapAt w mb R.names φ R.mn
  buf : w.ownsRow 0 82 2 vb R.wr.length (writesV φ R.wr)
  file : ∀ x ∈ R.names, w.heap[φ x]? = some (.cells #[σ x, .int .i64 (R.su x : Nat)] 79 (0, 0))
  row : ∀ x ∈ R.names, Owns w 0 5 (σ x) (R.bt x)
  inj : ∀ x ∈ R.names, ∀ y ∈ R.names, x ≠ y → φ x ≠ φ y
  apart : ∀ x ∈ R.names, ∀ y ∈ R.names, x ≠ y → ∀ g, (σ x).ownBlock = some g → (σ y).ownBlock ≠ some g
  mem : ∀ v ∈ R.wr, v.1 ∈ R.names
  sD : S d
  sM : S mb
  sB : ∀ g, vb.ownBlock = some g → S g
  sF : ∀ x ∈ R.names, S (φ x)
  sR : ∀ x ∈ R.names, ∀ g, (σ x).ownBlock = some g → S g

section
variable {w w' : World} {d : Nat} {S S' : Nat → Prop} {φ : ByteArray → Nat} {σ : ByteArray → Value} {mb : Nat} {vb : Value} {R : RD}
theorem Lies8.lt (h : Lies8 w d S φ σ mb vb R) : d < w.heap.size := (Array.getElem?_eq_some_iff.1 h.obj).1
theorem Lies8.ltM (h : Lies8 w d S φ σ mb vb R) : mb < w.heap.size := by
  obtain ⟨es, cl, hm⟩ := h.map.block
  exact (Array.getElem?_eq_some_iff.1 hm).1
theorem Lies8.ltF (h : Lies8 w d S φ σ mb vb R) {x : ByteArray} (hx : x ∈ R.names) : φ x < w.heap.size := (Array.getElem?_eq_some_iff.1 (h.file x hx)).1
theorem Lies8.ltR (h : Lies8 w d S φ σ mb vb R) {x : ByteArray} (hx : x ∈ R.names) {g : Nat} (hg : (σ x).ownBlock = some g) : g < w.heap.size := (World.ownsRow.lt (h.row x hx) g hg).2
theorem Lies8.ltB (h : Lies8 w d S φ σ mb vb R) {g : Nat} (hg : vb.ownBlock = some g) : g < w.heap.size := (World.ownsRow.lt h.buf g hg).2
theorem Lies8.mono (h : Lies8 w d S φ σ mb vb R) (hS : ∀ k, k < w.heap.size → S k → S' k) : Lies8 w d S' φ σ mb vb R :=
  ⟨h.obj, h.map, h.buf, h.file, h.row, h.inj, h.apart, h.mem, hS _ h.lt h.sD, hS _ h.ltM h.sM, fun g hg => hS g (h.ltB hg) (h.sB g hg), fun x hx => hS _ (h.ltF hx) (h.sF x hx), fun x hx g hg => hS g (h.ltR hx hg) (h.sR x hx g hg)⟩
/-- It stays while its blocks do. -/
theorem Lies8.same (h : Lies8 w d S φ σ mb vb R) (hs : ∀ k, k < w.heap.size → S k → w'.heap[k]? = w.heap[k]?) : Lies8 w' d S φ σ mb vb R where
  obj := (hs d h.lt h.sD).trans h.obj
  map := h.map.same (hs mb h.ltM h.sM)
  buf := row_same h.buf fun g hg => hs g (h.ltB hg) (h.sB g hg)
  file := fun x hx => (hs _ (h.ltF hx) (h.sF x hx)).trans (h.file x hx)
  row := fun x hx => row_same (h.row x hx) fun g hg => hs g (h.ltR hx hg) (h.sR x hx g hg)
  inj := h.inj
  apart := h.apart
  mem := h.mem
  sD := h.sD
  sM := h.sM
  sB := h.sB
  sF := h.sF
  sR := h.sR
theorem Lies8.below (h : Lies8 w d S φ σ mb vb R) (hb : Below w.heap.size w w') : Lies8 w' d S φ σ mb vb R := h.same fun k hk _ => hb.block k hk
theorem Lies8.drewN (h : Lies8 w d S φ σ mb vb R) (n : Nat) : Lies8 (w.drewN n) d S φ σ mb vb R := h.same fun _ _ _ => rfl
theorem cell_of {w : World} {k i : Nat} {c : Array Value} {t : TypeId} {v : Value} (h : w.heap[k]? = some (.cells c t (0, 0))) (hi : c[i]? = some v) : w.cell? ⟨k, i, none⟩ = some v := by
  unfold World.cell?; dsimp only; rw [h]; exact hi
theorem froz_of {w : World} {k i : Nat} {c : Array Value} {t : TypeId} (h : w.heap[k]? = some (.cells c t (0, 0))) : w.frozen? ⟨k, i, none⟩ = false := by
  simp [World.frozen?, h]
theorem Lies8.cells (h : Lies8 w d S φ σ mb vb R) : w.cell? ⟨d, 0, none⟩ = some (.map (some mb)) ∧ w.cell? ⟨d, 1, none⟩ = some vb ∧ w.cell? ⟨d, 2, none⟩ = some (.int .i64 R.pending) ∧ w.cell? ⟨d, 3, none⟩ = some (.int .i64 R.blocks) ∧ w.cell? ⟨d, 4, none⟩ = some (.int .i64 R.used) ∧
    w.cell? ⟨d, 5, none⟩ = some (.bool R.on) ∧ w.cell? ⟨d, 6, none⟩ = some (.int .i64 R.ops) ∧ w.cell? ⟨d, 7, none⟩ = some (.int .i64 R.armed) ∧ w.cell? ⟨d, 8, none⟩ = some (.int .i64 R.keep) ∧ ∀ i, w.frozen? ⟨d, i, none⟩ = false :=
  ⟨cell_of h.obj rfl, cell_of h.obj rfl, cell_of h.obj rfl, cell_of h.obj rfl, cell_of h.obj rfl, cell_of h.obj rfl, cell_of h.obj rfl, cell_of h.obj rfl, cell_of h.obj rfl, fun _ => froz_of h.obj⟩
theorem Lies8.fcells (h : Lies8 w d S φ σ mb vb R) {x : ByteArray} (hx : x ∈ R.names) : w.cell? ⟨φ x, 0, none⟩ = some (σ x) ∧ w.cell? ⟨φ x, 1, none⟩ = some (.int .i64 (R.su x : Nat)) ∧ ∀ i, w.frozen? ⟨φ x, i, none⟩ = false :=
  ⟨cell_of (h.file x hx) rfl, cell_of (h.file x hx) rfl, fun _ => froz_of (h.file x hx)⟩
/-- Blocks of unlike kinds. -/
theorem Lies8.dM (h : Lies8 w d S φ σ mb vb R) : mb ≠ d := by
  obtain ⟨es, cl, hm⟩ := h.map.block
  rintro rfl
  rw [h.obj] at hm
  cases hm
theorem Lies8.dF (h : Lies8 w d S φ σ mb vb R) {x : ByteArray} (hx : x ∈ R.names) : φ x ≠ d := by
  intro e
  have := h.file x hx
  rw [e, h.obj] at this
  simp only [Option.some.injEq, Obj.cells.injEq] at this
  exact absurd this.2.1 (by decide)
theorem Lies8.mF (h : Lies8 w d S φ σ mb vb R) {x : ByteArray} (hx : x ∈ R.names) : φ x ≠ mb := by
  intro e
  obtain ⟨es, cl, hm⟩ := h.map.block
  have := h.file x hx
  rw [e, hm] at this
  cases this
theorem Lies8.dR (h : Lies8 w d S φ σ mb vb R) {x : ByteArray} (hx : x ∈ R.names) : (σ x).ownBlock ≠ some d := row_apart (h.row x hx) h.obj (by decide)
theorem Lies8.mR (h : Lies8 w d S φ σ mb vb R) {x : ByteArray} (hx : x ∈ R.names) : (σ x).ownBlock ≠ some mb := by
  obtain ⟨es, cl, hm⟩ := h.map.block
  exact row_map (h.row x hx) hm
theorem Lies8.fR (h : Lies8 w d S φ σ mb vb R) {x y : ByteArray} (hx : x ∈ R.names) (hy : y ∈ R.names) : (σ x).ownBlock ≠ some (φ y) := row_apart (h.row x hx) (h.file y hy) (by decide)
theorem Lies8.dB (h : Lies8 w d S φ σ mb vb R) : vb.ownBlock ≠ some d := row_apart h.buf h.obj (by decide)
theorem Lies8.mB (h : Lies8 w d S φ σ mb vb R) : vb.ownBlock ≠ some mb := by
  obtain ⟨es, cl, hm⟩ := h.map.block
  exact row_map h.buf hm
theorem Lies8.fB (h : Lies8 w d S φ σ mb vb R) {x : ByteArray} (hx : x ∈ R.names) : vb.ownBlock ≠ some (φ x) := row_apart h.buf (h.file x hx) (by decide)
theorem Lies8.rB (h : Lies8 w d S φ σ mb vb R) {x : ByteArray} (hx : x ∈ R.names) {g : Nat} (hg : (σ x).ownBlock = some g) : vb.ownBlock ≠ some g := rows_apart (h.row x hx) h.buf (by decide) hg

theorem heap_set_same {w : World} {k i : Nat} {c : Array Value} {t : TypeId} {v : Value} (h : w.heap[k]? = some (.cells c t (0, 0))) : (w.setCell ⟨k, i, none⟩ v).heap[k]? = some (.cells (c.setIfInBounds i v) t (0, 0)) := by
  simp [World.setCell, Array.getElem?_modify, h]
theorem heap_set_other {w : World} {k i j : Nat} {v : Value} (h : j ≠ k) : (w.setCell ⟨k, i, none⟩ v).heap[j]? = w.heap[j]? := Below.heap_setCell _ _ _ _ (fun e => h e)

/-- A number or a bool of the object is stored. -/
theorem Lies8.setD (h : Lies8 w d S φ σ mb vb R) (i : Nat) (v : Value) (R' : RD) (e : objV mb vb R' = (objV mb vb R).setIfInBounds i v) (e1 : R'.names = R.names) (e2 : R'.bt = R.bt) (e3 : R'.su = R.su) (e4 : R'.wr = R.wr) (e5 : R'.mn = R.mn) :
    Lies8 (w.setCell ⟨d, i, none⟩ v) d S φ σ mb vb R' := by
  refine ⟨?_, ?_, ?_, ?_, ?_, ?_, ?_, ?_, h.sD, h.sM, h.sB, ?_, ?_⟩ <;> (try rw [e1]) <;> (try rw [e4])
  · rw [heap_set_same h.obj, e]
  · rw [e5]; exact h.map.same (heap_set_other h.dM)
  · exact row_same h.buf fun g hg => heap_set_other fun e => h.dB (e ▸ hg)
  · intro x hx; rw [e3]; exact (heap_set_other (h.dF hx)).trans (h.file x hx)
  · intro x hx; rw [e2]; exact row_same (h.row x hx) fun g hg => heap_set_other fun e => h.dR hx (e ▸ hg)
  · exact h.inj
  · exact h.apart
  · exact h.mem
  · exact h.sF
  · exact h.sR
/-- How much of a file is sure is stored. -/
theorem Lies8.setS (h : Lies8 w d S φ σ mb vb R) {x : ByteArray} (hx : x ∈ R.names) (s : Nat) : Lies8 (w.setCell ⟨φ x, 1, none⟩ (.int .i64 (s : Nat))) d S φ σ mb vb { R with su := upd R.su x s } := by
  refine ⟨(heap_set_other (Ne.symm (h.dF hx))).trans h.obj, h.map.same (heap_set_other (Ne.symm (h.mF hx))), row_same h.buf fun g hg => heap_set_other fun e => h.fB hx (e ▸ hg), fun y hy => ?_, fun y hy => row_same (h.row y hy) fun g hg => heap_set_other fun e => h.fR hy hx (e ▸ hg), h.inj, h.apart, h.mem, h.sD, h.sM, h.sB, h.sF, h.sR⟩
  by_cases hyx : y = x
  · subst hyx
    rw [heap_set_same (h.file y hy)]
    simp [upd_at]
  · rw [heap_set_other (h.inj y hy x hx hyx), h.file y hy]
    show _ = some (Obj.cells #[σ y, .int .i64 (upd R.su x s y : Nat)] _ _)
    rw [upd_ne hyx]
/-- A file's row is another one, of its own block or a new one: what was there, and what has grown since. -/
theorem Lies8.setR (h : Lies8 w d S φ σ mb vb R) {x : ByteArray} (hx : x ∈ R.names) {v' : Value} {xs : List Int} (hg : w.grownBy w' (σ x).ownBlock) (ho : Owns w' 0 5 v' xs) (hw : v'.ownBlock = (σ x).ownBlock ∨ ∃ k, v'.ownBlock = some k ∧ w.heap.size ≤ k)
    (hS : ∀ k, w.heap.size ≤ k → S k) : Lies8 (w'.setCell ⟨φ x, 0, none⟩ v') d S φ (upd σ x v') mb vb { R with bt := upd R.bt x xs } := by
  have hf : w'.heap[φ x]? = some (.cells #[σ x, .int .i64 (R.su x : Nat)] 79 (0, 0)) := (hg.block _ (h.ltF hx) fun e => h.fR hx hx e.symm).trans (h.file x hx)
  refine ⟨?_, ?_, ?_, ?_, ?_, h.inj, ?_, h.mem, h.sD, h.sM, h.sB, h.sF, ?_⟩
  · exact (heap_set_other (Ne.symm (h.dF hx))).trans ((hg.block _ h.lt fun e => h.dR hx e.symm).trans h.obj)
  · exact h.map.same ((heap_set_other (Ne.symm (h.mF hx))).trans (hg.block _ h.ltM fun e => h.mR hx e.symm))
  · refine row_same h.buf fun g hgb => (heap_set_other (k := φ x) fun e => h.fB hx (by rw [hgb, e])).trans (hg.block g (h.ltB hgb) fun e => h.rB hx e.symm hgb)
  · intro y hy
    by_cases hyx : y = x
    · subst hyx
      rw [heap_set_same hf]
      simp [upd_at]
    · rw [heap_set_other (h.inj y hy x hx hyx), hg.block _ (h.ltF hy) (fun e => h.fR hx hy e.symm), h.file y hy, upd_ne hyx]
  · intro y hy
    show Owns _ 0 _ (upd σ x v' y) (upd R.bt x xs y)
    by_cases hyx : y = x
    · subst hyx
      rw [upd_at, upd_at]
      exact row_same ho fun g hgb => heap_set_other fun e => row_apart ho hf (by decide) (e ▸ hgb)
    · rw [upd_ne hyx, upd_ne hyx]
      exact row_same (h.row y hy) fun g hgb => (heap_set_other (k := φ x) fun e => h.fR hy hx (by rw [hgb, e])).trans (hg.block g (h.ltR hy hgb) fun e => h.apart x hx y hy (Ne.symm hyx) g e.symm hgb)
  · intro y hy z hz hyz g h1 h2
    have key : ∀ u ∈ R.names, u ≠ x → v'.ownBlock = some g → (σ u).ownBlock ≠ some g := by
      intro u hu hux e1 e2
      rcases hw with e | ⟨k, e, hk⟩
      · rw [e] at e1; exact h.apart x hx u hu (Ne.symm hux) g e1 e2
      · rw [e] at e1
        have := h.ltR hu e2
        cases e1
        omega
    by_cases hyx : y = x
    · subst hyx
      rw [upd_at] at h1
      rw [upd_ne (Ne.symm hyz)] at h2
      exact key z hz (Ne.symm hyz) h1 h2
    · rw [upd_ne hyx] at h1
      by_cases hzx : z = x
      · subst hzx
        rw [upd_at] at h2
        exact key y hy hyx h2 h1
      · rw [upd_ne hzx] at h2
        exact h.apart y hy z hz hyz g h1 h2
  · intro y hy g h1
    by_cases hyx : y = x
    · subst hyx
      rw [upd_at] at h1
      rcases hw with e | ⟨k, e, hk⟩
      · rw [e] at h1; exact h.sR y hy g h1
      · rw [e] at h1
        cases h1
        exact hS _ hk
    · rw [upd_ne hyx] at h1
      exact h.sR y hy g h1
/-- The row of writes is another one, of its own block or a new one. -/
theorem Lies8.setB (h : Lies8 w d S φ σ mb vb R) {v' : Value} {l : List (ByteArray × Nat)} (hg : w.grownBy w' vb.ownBlock) (ho : w'.ownsRow 0 82 2 v' l.length (writesV φ l)) (hl : ∀ v ∈ l, v.1 ∈ R.names) (hw : v'.ownBlock = vb.ownBlock ∨ (∀ k, v'.ownBlock = some k → w.heap.size ≤ k))
    (hS : ∀ k, w.heap.size ≤ k → S k) : Lies8 (w'.setCell ⟨d, 1, none⟩ v') d S φ σ mb v' { R with wr := l } := by
  have hd : w'.heap[d]? = some (.cells (objV mb vb R) 57 (0, 0)) := (hg.block _ h.lt fun e => h.dB e.symm).trans h.obj
  refine ⟨?_, ?_, ?_, ?_, ?_, h.inj, h.apart, hl, h.sD, h.sM, ?_, h.sF, h.sR⟩
  · rw [heap_set_same hd]; rfl
  · exact h.map.same ((heap_set_other h.dM).trans (hg.block _ h.ltM fun e => h.mB e.symm))
  · exact row_same ho fun g hgb => heap_set_other fun e => row_apart ho hd (by decide) (e ▸ hgb)
  · intro x hx
    exact (heap_set_other (h.dF hx)).trans ((hg.block _ (h.ltF hx) fun e => h.fB hx e.symm).trans (h.file x hx))
  · intro x hx
    exact row_same (h.row x hx) fun g hgb => (heap_set_other (k := d) fun e => h.dR hx (by rw [hgb, e])).trans (hg.block g (h.ltR hx hgb) fun e => h.rB hx hgb e.symm)
  · intro g h1
    rcases hw with e | hk
    · rw [e] at h1; exact h.sB g h1
    · exact hS _ (hk g h1)
/-- A file is taken out of the map. -/
theorem Lies8.dropM (h : Lies8 w d S φ σ mb vb R) {names' : List ByteArray} (hm : MapAt w' mb names' φ R.mn) (hg : w.grownBy w' (some mb)) (hs : ∀ y, y ∈ names' → y ∈ R.names) (hl : ∀ v ∈ R.wr, v.1 ∈ names') : Lies8 w' d S φ σ mb vb { R with names := names' } := by
  refine ⟨(hg.block d h.lt fun e => h.dM (Option.some.inj e).symm).trans h.obj, hm, row_same h.buf fun g hgb => hg.block g (h.ltB hgb) fun e => h.mB (by rw [hgb, e]), fun x hx => (hg.block _ (h.ltF (hs x hx)) fun e => h.mF (hs x hx) (Option.some.inj e)).trans (h.file x (hs x hx)),
    fun x hx => row_same (h.row x (hs x hx)) fun g hgb => hg.block g (h.ltR (hs x hx) hgb) fun e => h.mR (hs x hx) (by rw [hgb, e]), fun x hx y hy => h.inj x (hs x hx) y (hs y hy), fun x hx y hy => h.apart x (hs x hx) y (hs y hy), hl, h.sD, h.sM, h.sB, fun x hx => h.sF x (hs x hx), fun x hx => h.sR x (hs x hx)⟩
end
end Go.Proofs.Ytefgnehahedckaa

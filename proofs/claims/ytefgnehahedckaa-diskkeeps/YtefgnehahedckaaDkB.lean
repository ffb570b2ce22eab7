/-
  Plain mathematics: the document's disk as a whole, its calls, and what always holds of it. No program is named here.
-/
import Derived.Test.YtefgnehahedckaaDkA
namespace Go.Proofs.Ytefgnehahedckaa
open Go.RowKit

/-- A letter; a sign that may stand in a name; a name that may be. -/
def letN (c : Nat) : Bool := decide (97 ≤ c) && decide (c ≤ 122)
def digN (c : Nat) : Bool := decide (48 ≤ c) && decide (c ≤ 57)
def chN (c : Nat) : Bool := letN c || digN c || c == 46 || c == 45
def goodN (x : ByteArray) : Bool := decide (1 ≤ x.size) && decide (x.size ≤ 24) && letN ((x.data.toList.getD 0 0).toNat) && x.data.toList.all fun c => chN c.toNat
theorem good_size {x : ByteArray} (h : goodN x = true) : 1 ≤ x.size ∧ x.size ≤ 24 := by
  unfold goodN at h
  simp only [Bool.and_eq_true, decide_eq_true_eq] at h
  exact ⟨h.1.1.1, h.1.1.2⟩

/-- Numbers that are bytes. -/
def isB8 (xs : List Int) : Prop := ∀ z ∈ xs, 0 ≤ z ∧ z < 256

instance decMemT (x : ByteArray) (l : List ByteArray) : Decidable (x ∈ l) := decidable_of_iff (l.any (fun y => decide (y = x)) = true) (by simp)

structure DM where
  blocks : Nat
  L : List (ByteArray × List Int)
  buf : List (ByteArray × List Int)
  off : Bool
  ops : Nat
  n : Nat
  keep : Int

namespace DM
abbrev names (M : DM) : List ByteArray := nms M.L
def used (M : DM) : Nat := usedL M.buf M.L
/-- A file's bytes, those in the buffer, too. -/
def bytes (M : DM) (x : ByteArray) : List Int := lk M.L x ++ pend M.buf x
def crash (M : DM) (k : Int) : DM := { M with L := M.L.map fun f => (f.1, f.2 ++ left k.toNat M.buf f.1), buf := [], off := true }
def sync (M : DM) : DM := { M with L := M.L.map fun f => (f.1, f.2 ++ pend M.buf f.1), buf := [] }
/-- An operation is begun; false: the power fails. -/
def begins (M : DM) : Bool := decide (M.n ≠ 1)
def begun (M : DM) : DM := if M.n = 1 then ({ M with ops := M.ops + 1, n := 0 }).crash M.keep else { M with ops := M.ops + 1, n := M.n - 1 }
def act (M : DM) (f : DM → Nat × DM) : Nat × DM := if M.begins = true then f M.begun else (9, M.begun)
def gone (M : DM) (x : ByteArray) : DM := { M with L := M.L.filter fun f => decide (f.1 ≠ x), buf := M.buf.filter fun w => decide (w.1 ≠ x) }
def put (M : DM) (x : ByteArray) (b : List Int) : DM := { M with L := insF x b M.L }
def create1 (M : DM) (x : ByteArray) : Nat × DM := if x ∈ M.names then (0, (M.gone x).put x []) else if M.blocks ≤ M.used then (7, M) else (0, M.put x [])
def create (M : DM) (x : ByteArray) : Nat × DM := if M.off = true then (9, M) else if goodN x = false then (3, M) else M.act fun M => M.create1 x
/-- How many blocks more a file needs for some bytes more. -/
def more (M : DM) (x : ByteArray) (b : List Int) : Nat := need ((M.bytes x).length + b.length) - need (M.bytes x).length
def append1 (M : DM) (x : ByteArray) (b : List Int) : Nat × DM := if M.blocks - M.used < M.more x b then (7, M) else (0, { M with buf := M.buf ++ [(x, b)] })
def append (M : DM) (x : ByteArray) (b : List Int) : Nat × DM := if M.off = true then (9, M) else if x ∉ M.names then (4, M) else M.act fun M => M.append1 x b
def syncs (M : DM) : Nat × DM := if M.off = true then (9, M) else M.act fun M => (0, M.sync)
def ren (M : DM) (a b : ByteArray) : DM := { M with L := insF b (lk M.L a) (M.L.filter fun f => decide (f.1 ≠ a)), buf := renB M.buf a b }
def rename1 (M : DM) (a b : ByteArray) : DM := if a = b then M else (M.gone b).ren a b
def rename (M : DM) (a b : ByteArray) : Nat × DM := if M.off = true then (9, M) else if goodN b = false then (3, M) else if a ∉ M.names then (4, M) else M.act fun M => (0, M.rename1 a b)
def remove (M : DM) (x : ByteArray) : Nat × DM := if M.off = true then (9, M) else if x ∉ M.names then (4, M) else M.act fun M => (0, M.gone x)
def arm (M : DM) (n k : Int) : Nat × DM := if M.off = true then (9, M) else (0, { M with n := n.toNat, keep := k })
def start (M : DM) : DM := { M with off := false, n := 0 }
def empty (blocks : Nat) : DM := ⟨blocks, [], [], false, 0, 0, 0⟩
end DM

/-- A byte of which some bits are turned. -/
def xor8 (z y : Int) : Int := ((z.toNat ^^^ y.toNat : Nat) : Int)
def flipB : List (ByteArray × List Int) → ByteArray → Nat → Int → List (ByteArray × List Int)
  | [], _, _, _ => []
  | w :: r, x, i, y => if w.1 = x then if i < w.2.length then (w.1, w.2.set i (xor8 (w.2.getD i 0) y)) :: r else w :: flipB r x (i - w.2.length) y else w :: flipB r x i y
def flipL (l : List (ByteArray × List Int)) (x : ByteArray) (i : Nat) (y : Int) : List (ByteArray × List Int) := l.map fun f => if f.1 = x then (f.1, f.2.set i (xor8 (f.2.getD i 0) y)) else f
def DM.flip (M : DM) (x : ByteArray) (i : Nat) (y : Int) : DM := if i < (lk M.L x).length then { M with L := flipL M.L x i y } else { M with buf := flipB M.buf x (i - (lk M.L x).length) y }
def DM.spoil (M : DM) (x : ByteArray) (i b : Int) : Nat × DM := if M.off = true then (9, M) else if x ∉ M.names then (4, M) else if i < 0 ∨ ((M.bytes x).length : Int) ≤ i ∨ b < 0 ∨ 7 < b then (6, M) else (0, M.flip x i.toNat ((2 ^ b.toNat : Nat) : Int))

/-- What always holds. -/
structure DM.Inv (M : DM) : Prop where
  rise : Rises M.L
  good : ∀ x ∈ M.names, goodN x = true
  mem : ∀ w ∈ M.buf, w.1 ∈ M.names
  isL : ∀ f ∈ M.L, isB8 f.2
  isW : ∀ w ∈ M.buf, isB8 w.2
  fits : M.used ≤ M.blocks
  top : M.blocks ≤ 16777216
  few : M.buf.length ≤ M.ops

theorem isB8_append {a b : List Int} (ha : isB8 a) (hb : isB8 b) : isB8 (a ++ b) := fun z hz => (List.mem_append.1 hz).elim (ha z) (hb z)
theorem isB8_take {a : List Int} (ha : isB8 a) (n : Nat) : isB8 (a.take n) := fun z hz => ha z (List.mem_of_mem_take hz)
theorem isB8_nil : isB8 [] := fun z hz => by cases hz
theorem isB8_left {l : List (ByteArray × List Int)} (h : ∀ w ∈ l, isB8 w.2) (x : ByteArray) : ∀ n, isB8 (left n l x) := by
  induction l with
  | nil => intro n; exact isB8_nil
  | cons w r ih =>
    intro n
    rw [left]
    refine isB8_append ?_ (ih (fun v hv => h v (List.mem_cons_of_mem _ hv)) _)
    split
    · exact isB8_take (h w List.mem_cons_self) _
    · exact isB8_nil
theorem isB8_pend {l : List (ByteArray × List Int)} (h : ∀ w ∈ l, isB8 w.2) (x : ByteArray) : isB8 (pend l x) := by
  rw [← left_all l x (tot l) (Nat.le_refl _)]
  exact isB8_left h x _

namespace DM
variable {M : DM}
theorem Inv.nodup (h : M.Inv) : (nms M.L).Nodup := h.rise.nodup
theorem Inv.isB (h : M.Inv) (x : ByteArray) : isB8 (M.bytes x) := by
  refine isB8_append ?_ (isB8_pend h.isW x)
  by_cases hx : x ∈ M.names
  · exact h.isL _ (lk_pair hx)
  · rw [lk_none hx]; exact isB8_nil
/-- A file is not too great. -/
theorem Inv.need_bytes (h : M.Inv) {x : ByteArray} (hx : x ∈ M.names) : DM.used M ≤ 16777216 ∧ Go.Proofs.Ytefgnehahedckaa.need (M.bytes x).length ≤ M.used := by
  have h1 := need_used (buf := M.buf) h.nodup hx
  have h2 := h.fits
  have h3 := h.top
  unfold bytes
  rw [List.length_append]
  exact ⟨by omega, h1⟩
theorem Inv.size (h : M.Inv) (x : ByteArray) : (M.bytes x).length < 1073741824 := by
  by_cases hx : x ∈ M.names
  · have h1 := h.need_bytes hx
    have := need_le (M.bytes x).length
    omega
  · have : M.bytes x = [] := by
      unfold bytes
      rw [lk_none hx, pend_none fun w hw (e : w.1 = x) => hx (by rw [← e]; exact h.mem w hw)]
      rfl
    rw [this]
    decide
theorem Inv.count (h : M.Inv) : M.L.length ≤ 16777216 := by
  have h1 := used_len M.buf M.L
  have h2 := h.fits
  have h3 := h.top
  unfold used at h2
  omega

theorem nms_map (l : List (ByteArray × List Int)) (g : ByteArray × List Int → List Int) : nms (l.map fun f => (f.1, g f)) = nms l := by
  unfold nms; rw [List.map_map]; rfl
theorem lk_map {l : List (ByteArray × List Int)} (g : ByteArray → List Int) {x : ByteArray} (hx : x ∈ nms l) : lk (l.map fun f => (f.1, f.2 ++ g f.1)) x = lk l x ++ g x := by
  induction l with
  | nil => cases hx
  | cons f r ih =>
    rw [List.map_cons, lk, lk]
    by_cases hf : f.1 = x
    · rw [if_pos hf, if_pos hf, hf]
    · rw [if_neg hf, if_neg hf]
      refine ih ?_
      rcases List.mem_cons.1 (by exact hx : x ∈ f.1 :: nms r) with rfl | h
      · exact absurd rfl hf
      · exact h
theorem used_left (buf : List (ByteArray × List Int)) (n : Nat) : ∀ l : List (ByteArray × List Int), usedL [] (l.map fun f => (f.1, f.2 ++ left n buf f.1)) ≤ usedL buf l
  | [] => Nat.le_refl _
  | f :: r => by
    have h1 := used_left buf n r
    have h2 := left_le buf f.1 n
    have h3 : Go.Proofs.Ytefgnehahedckaa.need (f.2 ++ left n buf f.1).length ≤ Go.Proofs.Ytefgnehahedckaa.need (f.2.length + (pend buf f.1).length) := need_mono (by rw [List.length_append]; omega)
    rw [List.map_cons, usedL, usedL]
    simp only [pend, List.length_nil, Nat.add_zero]
    omega
theorem Inv.crash (h : M.Inv) (k : Int) : (M.crash k).Inv where
  rise := by
    have := h.rise
    unfold Rises at this ⊢
    exact List.pairwise_map.2 this
  good := by
    intro x hx
    refine h.good x ?_
    unfold names DM.crash at hx
    rwa [nms_map] at hx
  mem := fun w hw => by cases hw
  isL := by
    intro f hf
    obtain ⟨g, hg, rfl⟩ := List.mem_map.1 hf
    exact isB8_append (h.isL g hg) (isB8_left h.isW _ _)
  isW := fun w hw => by cases hw
  fits := Nat.le_trans (used_left M.buf k.toNat M.L) h.fits
  top := h.top
  few := Nat.zero_le _
theorem sync_eq (M : DM) : M.sync = { M.crash (tot M.buf) with off := M.off } := by
  unfold sync DM.crash
  simp only [Int.toNat_natCast, left_all _ _ _ (Nat.le_refl _)]
theorem Inv.sync (h : M.Inv) : M.sync.Inv := by
  rw [sync_eq]
  have := h.crash (tot M.buf)
  exact ⟨this.rise, this.good, this.mem, this.isL, this.isW, this.fits, this.top, this.few⟩
theorem Inv.begun (h : M.Inv) : M.begun.Inv := by
  have few' := h.few
  unfold DM.begun
  split
  · refine Inv.crash (M := { M with ops := M.ops + 1, n := 0 }) ⟨h.rise, h.good, h.mem, h.isL, h.isW, h.fits, h.top, ?_⟩ _
    exact Nat.le_succ_of_le h.few
  · exact ⟨h.rise, h.good, h.mem, h.isL, h.isW, h.fits, h.top, Nat.le_succ_of_le h.few⟩
theorem begun_off (h : M.begins = true) : M.begun.off = M.off ∧ M.begun.L = M.L ∧ M.begun.buf = M.buf ∧ M.begun.blocks = M.blocks ∧ M.begun.ops = M.ops + 1 := by
  unfold begins at h
  have h' := of_decide_eq_true h
  unfold DM.begun
  rw [if_neg h']
  exact ⟨rfl, rfl, rfl, rfl, rfl⟩
theorem begun_ops (M : DM) : M.begun.ops = M.ops + 1 := by unfold DM.begun; split <;> rfl
/-- A file and its writes go. -/
theorem used_gone (h : M.Inv) {x : ByteArray} (hx : x ∈ M.names) : (M.gone x).used + Go.Proofs.Ytefgnehahedckaa.need (M.bytes x).length = M.used := by
  have h1 := used_one (buf := M.buf) h.nodup hx
  unfold used DM.gone
  dsimp only
  rw [used_congr (b2 := M.buf)]
  · unfold bytes
    rw [List.length_append]
    exact h1
  · intro f hf
    have := (List.mem_filter.1 hf).2
    rw [pend_gone _ _ _ (of_decide_eq_true this)]
theorem gone_none (h : M.Inv) {x : ByteArray} (hx : x ∉ M.names) : M.gone x = M := by
  unfold DM.gone
  have e1 : (M.L.filter fun f => decide (f.1 ≠ x)) = M.L := List.filter_eq_self.2 fun f hf => by
    have : f.1 ≠ x := fun e => hx (by rw [← e]; exact List.mem_map_of_mem hf)
    simpa using this
  have e2 : (M.buf.filter fun w => decide (w.1 ≠ x)) = M.buf := List.filter_eq_self.2 fun w hw => by
    have : w.1 ≠ x := fun e => hx (by rw [← e]; exact h.mem w hw)
    simpa using this
  rw [e1, e2]
theorem names_gone (M : DM) (x y : ByteArray) : y ∈ (M.gone x).names ↔ y ∈ M.names ∧ y ≠ x := nms_filter M.L x y
theorem bytes_gone (M : DM) {x y : ByteArray} (h : y ≠ x) : (M.gone x).bytes y = M.bytes y := by
  unfold bytes DM.gone
  dsimp only
  rw [lk_filter h, pend_gone _ _ _ h]
theorem Inv.gone (h : M.Inv) (x : ByteArray) : (M.gone x).Inv where
  rise := rise_filter h.rise _
  good := fun y hy => h.good y ((names_gone M x y).1 hy).1
  mem := fun w hw => by
    obtain ⟨h1, h2⟩ := List.mem_filter.1 hw
    exact (names_gone M x w.1).2 ⟨h.mem w h1, of_decide_eq_true h2⟩
  isL := fun f hf => h.isL f (List.mem_filter.1 hf).1
  isW := fun w hw => h.isW w (List.mem_filter.1 hw).1
  fits := by
    by_cases hx : x ∈ M.names
    · have := used_gone h hx
      have := h.fits
      show (M.gone x).used ≤ M.blocks
      omega
    · rw [gone_none h hx]; exact h.fits
  top := h.top
  few := Nat.le_trans (List.length_filter_le _ _) h.few
theorem names_put (M : DM) (x y : ByteArray) (b : List Int) : y ∈ (M.put x b).names ↔ y = x ∨ y ∈ M.names := by
  show y ∈ nms (insF x b M.L) ↔ _
  rw [(nms_ins x b M.L).mem_iff, List.mem_cons]
theorem used_put (M : DM) (h : M.Inv) {x : ByteArray} (hx : x ∉ M.names) : (M.put x []).used = M.used + 1 := by
  show usedL M.buf (insF x [] M.L) = _
  rw [used_ins, pend_none fun w hw (e : w.1 = x) => hx (by rw [← e]; exact h.mem w hw)]
  show Go.Proofs.Ytefgnehahedckaa.need 0 + usedL M.buf M.L = usedL M.buf M.L + 1
  unfold Go.Proofs.Ytefgnehahedckaa.need
  omega
theorem Inv.put (h : M.Inv) {x : ByteArray} (hx : x ∉ M.names) (hg : goodN x = true) (hu : M.used < M.blocks) : (M.put x []).Inv where
  rise := insF_rise h.rise hx
  good := fun y hy => by
    rcases (names_put M x y []).1 hy with rfl | hy
    · exact hg
    · exact h.good y hy
  mem := fun w hw => (names_put M x w.1 []).2 (.inr (h.mem w hw))
  isL := fun f hf => by
    rcases List.mem_cons.1 ((insF_perm x [] M.L).mem_iff.1 hf) with rfl | hf
    · exact isB8_nil
    · exact h.isL f hf
  isW := h.isW
  fits := by rw [used_put M h hx]; exact hu
  top := h.top
  few := h.few
theorem Inv.create1 (h : M.Inv) {x : ByteArray} (hg : goodN x = true) : (M.create1 x).2.Inv := by
  unfold DM.create1
  split
  · rename_i hx
    refine (h.gone x).put (fun hm => ((names_gone M x x).1 hm).2 rfl) hg ?_
    have h1 := used_gone h hx
    have h2 := h.fits
    have h3 := need_pos (M.bytes x).length
    show (M.gone x).used < M.blocks
    omega
  · rename_i hx
    split
    · exact h
    · exact h.put hx hg (by omega)
theorem Inv.act (h : M.Inv) {f : DM → Nat × DM} (hf : ∀ N : DM, N.Inv → N.names = M.names → (f N).2.Inv) : (M.act f).2.Inv := by
  unfold DM.act
  split
  · rename_i hb
    refine hf _ h.begun ?_
    unfold names
    rw [(begun_off hb).2.1]
  · exact h.begun
theorem Inv.create (h : M.Inv) (x : ByteArray) : (M.create x).2.Inv := by
  unfold DM.create
  split
  · exact h
  · split
    · exact h
    · rename_i hg
      exact h.act fun N hN _ => hN.create1 (by simpa using hg)
theorem used_append (h : M.Inv) {x : ByteArray} (hx : x ∈ M.names) (b : List Int) : DM.used { M with buf := M.buf ++ [(x, b)] } = M.used + M.more x b := by
  have hn := h.nodup
  have h1 := used_one (buf := M.buf) hn hx
  have h2 := used_one (buf := M.buf ++ [(x, b)]) hn hx
  have h3 : usedL (M.buf ++ [(x, b)]) (M.L.filter fun f => decide (f.1 ≠ x)) = usedL M.buf (M.L.filter fun f => decide (f.1 ≠ x)) := by
    refine used_congr fun f hf => ?_
    have hne : f.1 ≠ x := of_decide_eq_true (List.mem_filter.1 hf).2
    rw [pend_append, pend, if_neg (Ne.symm hne)]
    simp [pend]
  have h4 : (pend (M.buf ++ [(x, b)]) x).length = (pend M.buf x).length + b.length := by
    rw [pend_append, pend, if_pos rfl]; simp [pend]
  unfold used more bytes
  dsimp only
  rw [List.length_append]
  rw [h3, h4] at h2
  have h5 : Go.Proofs.Ytefgnehahedckaa.need ((lk M.L x).length + (pend M.buf x).length) ≤ Go.Proofs.Ytefgnehahedckaa.need ((lk M.L x).length + (pend M.buf x).length + b.length) := need_mono (by omega)
  rw [← Nat.add_assoc] at h2
  omega
theorem Inv.append1 (h : M.Inv) {x : ByteArray} (hx : x ∈ M.names) {b : List Int} (hb : isB8 b) (hf : M.buf.length < M.ops) : (M.append1 x b).2.Inv := by
  unfold DM.append1
  split
  · exact h
  · rename_i hu
    refine ⟨h.rise, h.good, fun w hw => ?_, h.isL, fun w hw => ?_, ?_, h.top, ?_⟩
    · rcases List.mem_append.1 hw with hw | hw
      · exact h.mem w hw
      · rw [List.mem_singleton.1 hw]; exact hx
    · rcases List.mem_append.1 hw with hw | hw
      · exact h.isW w hw
      · rw [List.mem_singleton.1 hw]; exact hb
    · rw [used_append h hx]
      have := h.fits
      show M.used + M.more x b ≤ M.blocks
      omega
    · show (M.buf ++ [(x, b)]).length ≤ M.ops
      rw [List.length_append]
      exact hf
theorem Inv.append (h : M.Inv) (x : ByteArray) {b : List Int} (hb : isB8 b) : (M.append x b).2.Inv := by
  unfold DM.append
  split
  · exact h
  · split
    · exact h
    · rename_i hx
      unfold DM.act
      split
      · rename_i hbe
        obtain ⟨_, e2, e3, _, e5⟩ := begun_off hbe
        refine h.begun.append1 ?_ hb ?_
        · unfold names; rw [e2]; exact Classical.not_not.1 hx
        · rw [e3, e5]; exact Nat.lt_succ_of_le h.few
      · exact h.begun
theorem Inv.syncs (h : M.Inv) : M.syncs.2.Inv := by
  unfold DM.syncs
  split
  · exact h
  · exact h.act fun N hN _ => hN.sync
theorem Inv.remove (h : M.Inv) (x : ByteArray) : (M.remove x).2.Inv := by
  unfold DM.remove
  split
  · exact h
  · split
    · exact h
    · exact h.act fun N hN _ => hN.gone x
theorem names_ren (M : DM) (a b y : ByteArray) : y ∈ (M.ren a b).names ↔ y = b ∨ y ∈ M.names ∧ y ≠ a := by
  show y ∈ nms (insF b _ _) ↔ _
  rw [(nms_ins _ _ _).mem_iff, List.mem_cons, nms_filter]
theorem used_ren (h : M.Inv) {a b : ByteArray} (ha : a ∈ M.names) (hb : b ∉ M.names) : (M.ren a b).used = M.used := by
  have h1 := used_one (buf := M.buf) h.nodup ha
  have hnb : ∀ w ∈ M.buf, w.1 ≠ b := fun w hw e => hb (by rw [← e]; exact h.mem w hw)
  show usedL (renB M.buf a b) (insF b (lk M.L a) _) = usedL M.buf M.L
  rw [used_ins, pend_ren_to hnb, used_congr (b2 := M.buf)]
  · omega
  · intro f hf
    obtain ⟨h2, h3⟩ := List.mem_filter.1 hf
    have h4 : f.1 ≠ a := of_decide_eq_true h3
    have h5 : f.1 ≠ b := fun e => hb (by rw [← e]; exact List.mem_map_of_mem h2)
    rw [pend_ren_other h4 h5]
theorem Inv.ren (h : M.Inv) {a b : ByteArray} (ha : a ∈ M.names) (hb : b ∉ M.names) (hg : goodN b = true) : (M.ren a b).Inv where
  rise := insF_rise (rise_filter h.rise _) fun hm => hb ((nms_filter M.L a b).1 hm).1
  good := fun y hy => by
    rcases (names_ren M a b y).1 hy with rfl | hy
    · exact hg
    · exact h.good y hy.1
  mem := fun w hw => by
    obtain ⟨v, hv, _, hc⟩ := ren_mem hw
    refine (names_ren M a b w.1).2 ?_
    rcases hc with ⟨h1, _⟩ | ⟨h1, h2⟩
    · exact .inl h1
    · exact .inr (by rw [h1]; exact ⟨h.mem v hv, h2⟩)
  isL := fun f hf => by
    rcases List.mem_cons.1 ((insF_perm _ _ _).mem_iff.1 hf) with rfl | hf
    · exact h.isL (a, lk M.L a) (lk_pair ha)
    · exact h.isL f (List.mem_filter.1 hf).1
  isW := fun w hw => by
    obtain ⟨v, hv, e, _⟩ := ren_mem hw
    rw [e]
    exact h.isW v hv
  fits := by rw [used_ren h ha hb]; exact h.fits
  top := h.top
  few := by
    show (renB M.buf a b).length ≤ M.ops
    unfold renB
    rw [List.length_map]
    exact h.few
theorem Inv.rename1 (h : M.Inv) {a b : ByteArray} (ha : a ∈ M.names) (hg : goodN b = true) : (M.rename1 a b).Inv := by
  unfold DM.rename1
  split
  · exact h
  · rename_i hab
    exact (h.gone b).ren ((names_gone M b a).2 ⟨ha, hab⟩) (fun hm => ((names_gone M b b).1 hm).2 rfl) hg
theorem Inv.rename (h : M.Inv) (a b : ByteArray) : (M.rename a b).2.Inv := by
  unfold DM.rename
  split
  · exact h
  · split
    · exact h
    · rename_i hg
      split
      · exact h
      · rename_i ha
        exact h.act fun N hN hn => hN.rename1 (by rw [hn]; exact Classical.not_not.1 ha) (by simpa using hg)
theorem Inv.arm (h : M.Inv) (n k : Int) : (M.arm n k).2.Inv := by
  unfold DM.arm
  split
  · exact h
  · exact ⟨h.rise, h.good, h.mem, h.isL, h.isW, h.fits, h.top, h.few⟩
theorem Inv.start (h : M.Inv) : M.start.Inv := ⟨h.rise, h.good, h.mem, h.isL, h.isW, h.fits, h.top, h.few⟩
theorem inv_empty8 (b : Nat) (hb : b ≤ 16777216) : (DM.empty b).Inv := ⟨List.Pairwise.nil, (fun _ h => by cases h), (fun _ h => by cases h), (fun _ h => by cases h), (fun _ h => by cases h), Nat.zero_le _, hb, Nat.le_refl _⟩
end DM
end Go.Proofs.Ytefgnehahedckaa

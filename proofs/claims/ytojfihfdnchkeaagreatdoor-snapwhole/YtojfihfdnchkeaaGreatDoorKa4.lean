import Derived.Test.YtojfihfdnchkeaaGreatDoorKc1To
import Derived.Test.YtojfihfdnchkeaaGreatDoorDs1To
import Derived.Lib.SlBytesConst
import Derived.Test.YtojfihfdnchkeaaGreatDoorDs0To
namespace Go.Proofs.YtojfihfdnchkeaaGreatDoor
open Go.RowKit

theorem new_num12 : (num12 newB12).2 = false := by decide +kernel
theorem name_new12 {n : Int} (h1 : 1 ≤ n) (h2 : n ≤ 999999999) : nameB12 n ≠ newB12 := fun h => by
  have e := name_num12 h1 h2
  have hf := new_num12
  rw [← h, e] at hf
  cases hf
structure SnapIs (M : DM) (C : Int → Option (List Int)) : Prop where
  buf : ∀ w ∈ M.buf, w.1 = newB12
  mem : ∀ n, 1 ≤ n → n ≤ 999999999 → (nameB12 n ∈ M.names ↔ (C n).isSome = true)
  file : ∀ n bs, 1 ≤ n → n ≤ 999999999 → C n = some bs → lk M.L (nameB12 n) = bs
def put12 (C : Int → Option (List Int)) (i : Int) (v : Option (List Int)) : Int → Option (List Int) := fun n => if n = i then v else C n
section
variable {M : DM} {C : Int → Option (List Int)}
theorem SnapIs.pend0 (h : SnapIs M C) {n : Int} (h1 : 1 ≤ n) (h2 : n ≤ 999999999) : pend M.buf (nameB12 n) = [] := pend_none fun w hw e => name_new12 h1 h2 (by rw [← e, h.buf w hw])
theorem SnapIs.left0 (h : SnapIs M C) {n : Int} (h1 : 1 ≤ n) (h2 : n ≤ 999999999) (k : Nat) : left k M.buf (nameB12 n) = [] := by
  obtain ⟨t, ht⟩ := left_pre M.buf (nameB12 n) k
  rw [h.pend0 h1 h2] at ht
  exact (List.append_eq_nil_iff.1 ht.symm).1
theorem SnapIs.bytes (h : SnapIs M C) {n : Int} {bs : List Int} (h1 : 1 ≤ n) (h2 : n ≤ 999999999) (hc : C n = some bs) : M.bytes (nameB12 n) = bs := by
  unfold DM.bytes
  rw [h.pend0 h1 h2, List.append_nil, h.file n bs h1 h2 hc]
theorem SnapIs.mapL (h : SnapIs M C) (g : ByteArray → List Int) (hg : ∀ n, 1 ≤ n → n ≤ 999999999 → g (nameB12 n) = []) {N : DM} (hL : N.L = M.L.map fun f => (f.1, f.2 ++ g f.1)) (hb : N.buf = []) : SnapIs N C := by
  refine ⟨(by rw [hb]; exact fun w hw => nomatch hw), fun n h1 h2 => ?_, fun n bs h1 h2 hc => ?_⟩
  · rw [show N.names = nms N.L from rfl, hL, DM.nms_map]
    exact h.mem n h1 h2
  · have hm : nameB12 n ∈ nms M.L := (h.mem n h1 h2).2 (by rw [hc]; rfl)
    rw [hL, DM.lk_map g hm, hg n h1 h2, List.append_nil]
    exact h.file n bs h1 h2 hc
theorem SnapIs.same (h : SnapIs M C) {N : DM} (hL : N.L = M.L) (hb : N.buf = M.buf) : SnapIs N C := ⟨by rw [hb]; exact h.buf, fun n h1 h2 => by rw [show N.names = nms N.L from rfl, hL]; exact h.mem n h1 h2, fun n bs h1 h2 hc => by rw [hL]; exact h.file n bs h1 h2 hc⟩
theorem SnapIs.crash (h : SnapIs M C) (k : Int) : SnapIs (M.crash k) C := h.mapL (fun x => left k.toNat M.buf x) (fun _ h1 h2 => h.left0 h1 h2 _) rfl rfl
theorem SnapIs.start (h : SnapIs M C) : SnapIs M.start C := h.same rfl rfl
theorem SnapIs.sync (h : SnapIs M C) : SnapIs M.sync C := h.mapL (fun x => pend M.buf x) (fun _ h1 h2 => h.pend0 h1 h2) rfl rfl
theorem SnapIs.arm (h : SnapIs M C) (n k : Int) : SnapIs (M.arm n k).2 C := by
  unfold DM.arm
  split
  · exact h
  · exact h.same rfl rfl
theorem SnapIs.begun (h : SnapIs M C) : SnapIs M.begun C := by
  unfold DM.begun
  split
  · have h2 : SnapIs ({ M with ops := M.ops + 1, n := 0 } : DM) C := h.same rfl rfl
    exact h2.crash _
  · exact h.same rfl rfl
theorem SnapIs.act (h : SnapIs M C) {f : DM → Nat × DM} (hf : ∀ N : DM, SnapIs N C → SnapIs (f N).2 C) : SnapIs (M.act f).2 C := by
  unfold DM.act
  split
  · exact hf _ h.begun
  · exact h.begun
theorem SnapIs.gone (h : SnapIs M C) : SnapIs (M.gone newB12) C := by
  refine ⟨fun w hw => h.buf w (List.mem_filter.1 hw).1, fun n h1 h2 => ?_, fun n bs h1 h2 hc => ?_⟩
  · rw [DM.names_gone]
    exact ⟨fun hh => (h.mem n h1 h2).1 hh.1, fun hh => ⟨(h.mem n h1 h2).2 hh, name_new12 h1 h2⟩⟩
  · show lk (M.L.filter fun f => decide (f.1 ≠ newB12)) _ = _
    rw [lk_filter (name_new12 h1 h2)]
    exact h.file n bs h1 h2 hc
theorem SnapIs.put (h : SnapIs M C) (hx : newB12 ∉ M.names) (b : List Int) : SnapIs (M.put newB12 b) C := by
  refine ⟨h.buf, fun n h1 h2 => ?_, fun n bs h1 h2 hc => ?_⟩
  · rw [DM.names_put]
    exact ⟨fun hh => (h.mem n h1 h2).1 (hh.resolve_left (name_new12 h1 h2)), fun hh => .inr ((h.mem n h1 h2).2 hh)⟩
  · show lk (insF newB12 b M.L) _ = _
    rw [lk_ins hx, if_neg (name_new12 h1 h2)]
    exact h.file n bs h1 h2 hc
theorem gone_not12 (M : DM) : newB12 ∉ (M.gone newB12).names := fun h => ((DM.names_gone M newB12 newB12).1 h).2 rfl
theorem SnapIs.create (h : SnapIs M C) : SnapIs (M.create newB12).2 C := by
  unfold DM.create
  split
  · exact h
  · split
    · exact h
    · refine h.act fun N hN => ?_
      unfold DM.create1
      split
      · exact hN.gone.put (gone_not12 N) []
      · rename_i hx
        split
        · exact hN
        · exact hN.put hx []
theorem SnapIs.append (h : SnapIs M C) (b : List Int) : SnapIs (M.append newB12 b).2 C := by
  unfold DM.append
  split
  · exact h
  · split
    · exact h
    · refine h.act fun N hN => ?_
      unfold DM.append1
      split
      · exact hN
      · refine ⟨fun w hw => ?_, hN.mem, hN.file⟩
        rcases List.mem_append.1 hw with hw | hw
        · exact hN.buf w hw
        · rw [List.mem_singleton.1 hw]
theorem SnapIs.syncs (h : SnapIs M C) : SnapIs M.syncs.2 C := by
  unfold DM.syncs
  split
  · exact h
  · exact h.act fun N hN => hN.sync
theorem SnapIs.app (l : List (List Int)) : ∀ {M : DM}, SnapIs M C → SnapIs (app12 newB12 M l).2 C := by
  induction l with
  | nil => intro M h; exact h
  | cons b l ih =>
    intro M h
    unfold app12
    split
    · exact ih (h.append b)
    · exact h.append b
theorem SnapIs.rename (h : SnapIs M C) (hb : M.buf = []) {i : Int} (h1 : 1 ≤ i) (h2 : i ≤ 999999999) : SnapIs (M.rename newB12 (nameB12 i)).2 (if (M.rename newB12 (nameB12 i)).1 = 0 then put12 C i (some (M.bytes newB12)) else C) := by
  unfold DM.rename
  by_cases ho : M.off = true
  · rw [if_pos ho, if_neg (by show ¬ (9 = 0); decide)]; exact h
  rw [if_neg ho]
  by_cases hg : goodN (nameB12 i) = false
  · rw [if_pos hg, if_neg (by show ¬ (3 = 0); decide)]; exact h
  rw [if_neg hg]
  by_cases hn : newB12 ∉ M.names
  · rw [if_pos hn, if_neg (by show ¬ (4 = 0); decide)]; exact h
  rw [if_neg hn]
  unfold DM.act
  by_cases hbg : M.begins = true
  · rw [if_pos hbg, if_pos rfl]
    obtain ⟨-, e2, e3, -⟩ := DM.begun_off hbg
    have hne : newB12 ≠ nameB12 i := fun e => name_new12 h1 h2 e.symm
    show SnapIs (M.begun.rename1 newB12 (nameB12 i)) _
    unfold DM.rename1
    rw [if_neg hne]
    have hbb : M.begun.buf = [] := e3.trans hb
    have hL : ((M.begun.gone (nameB12 i)).ren newB12 (nameB12 i)).L = insF (nameB12 i) (lk (M.L.filter fun f => decide (f.1 ≠ nameB12 i)) newB12) ((M.L.filter fun f => decide (f.1 ≠ nameB12 i)).filter fun f => decide (f.1 ≠ newB12)) := by
      show insF _ (lk (M.begun.L.filter _) newB12) ((M.begun.L.filter _).filter _) = _
      rw [e2]
    have hnot : nameB12 i ∉ nms ((M.L.filter fun f => decide (f.1 ≠ nameB12 i)).filter fun f => decide (f.1 ≠ newB12)) := fun hh => by
      have := (nms_filter _ newB12 (nameB12 i)).1 hh
      exact ((nms_filter M.L (nameB12 i) (nameB12 i)).1 this.1).2 rfl
    have hby : M.bytes newB12 = lk M.L newB12 := by
      unfold DM.bytes
      rw [hb]
      exact List.append_nil _
    refine ⟨?_, fun n n1 n2 => ?_, fun n bs n1 n2 hc => ?_⟩
    · intro w hw
      have : ((M.begun.gone (nameB12 i)).ren newB12 (nameB12 i)).buf = [] := by
        show renB (M.begun.buf.filter _) _ _ = []
        rw [hbb]
        rfl
      rw [this] at hw
      cases hw
    · rw [DM.names_ren, DM.names_gone]
      have e4 : M.begun.names = M.names := by show nms M.begun.L = nms M.L; rw [e2]
      rw [e4]
      unfold put12
      by_cases hni : n = i
      · rw [if_pos hni, hni]
        exact ⟨fun _ => rfl, fun _ => .inl rfl⟩
      · rw [if_neg hni, ← h.mem n n1 n2]
        have hne2 : nameB12 n ≠ nameB12 i := fun e => hni (nameB_inj12 n1 n2 h1 h2 e)
        exact ⟨fun hh => (hh.resolve_left hne2).1.1, fun hh => .inr ⟨⟨hh, hne2⟩, name_new12 n1 n2⟩⟩
    · rw [hL, lk_ins hnot]
      unfold put12 at hc
      by_cases hni : n = i
      · rw [if_pos hni] at hc
        rw [hni, if_pos rfl, lk_filter hne, ← hby]
        exact Option.some.inj hc
      · rw [if_neg hni] at hc
        have hne2 : nameB12 n ≠ nameB12 i := fun e => hni (nameB_inj12 n1 n2 h1 h2 e)
        rw [if_neg hne2, lk_filter (name_new12 n1 n2), lk_filter hne2]
        exact h.file n bs n1 n2 hc
  · rw [if_neg hbg, if_neg (by show ¬ (9 = 0); decide)]
    exact h.begun
theorem SnapIs.remove (h : SnapIs M C) {i : Int} (h1 : 1 ≤ i) (h2 : i ≤ 999999999) : SnapIs (M.remove (nameB12 i)).2 C ∨ SnapIs (M.remove (nameB12 i)).2 (put12 C i none) := by
  unfold DM.remove
  split
  · exact .inl h
  · split
    · exact .inl h
    · unfold DM.act
      split
      · right
        have hb := h.begun
        refine ⟨fun w hw => hb.buf w (List.mem_filter.1 hw).1, fun n n1 n2 => ?_, fun n bs n1 n2 hc => ?_⟩
        · show nameB12 n ∈ (M.begun.gone (nameB12 i)).names ↔ _
          rw [DM.names_gone]
          unfold put12
          by_cases hni : n = i
          · rw [if_pos hni, hni]
            exact ⟨fun hh => absurd rfl hh.2, fun hh => by cases hh⟩
          · rw [if_neg hni, ← hb.mem n n1 n2]
            exact ⟨fun hh => hh.1, fun hh => ⟨hh, fun e => hni (nameB_inj12 n1 n2 h1 h2 e)⟩⟩
        · show lk (M.begun.L.filter fun f => decide (f.1 ≠ nameB12 i)) _ = _
          unfold put12 at hc
          by_cases hni : n = i
          · rw [if_pos hni] at hc; cases hc
          · rw [if_neg hni] at hc
            rw [lk_filter fun e => hni (nameB_inj12 n1 n2 h1 h2 e)]
            exact hb.file n bs n1 n2 hc
      · exact .inl h.begun
theorem SnapIs.load (h : SnapIs M C) (ho : M.off = false) {s : Snap10} (hg : goodS10 s = true) (hs : ShortS10 9 s) (h2 : s.i ≤ 999999999) (hc : C s.i = some (whole12 s)) (hm : ∀ n, 1 ≤ n → n ≤ 999999999 → (C n).isSome = true → n ≤ s.i) : load12 M = some s := by
  have h1 : 1 ≤ s.i := by
    unfold goodS10 at hg
    simp only [Bool.and_eq_true, decide_eq_true_eq] at hg
    exact hg.1.1.1
  have hlist : M.listT = M.names := by unfold DM.listT; rw [if_neg (by rw [ho]; decide)]
  have hin : nameB12 s.i ∈ M.names := (h.mem _ h1 h2).2 (by rw [hc]; rfl)
  have hmem : s.i ∈ files12 M.listT := mem_files12 h1 h2 (by rw [hlist]; exact hin)
  unfold load12
  have hup := files12_up M.listT
  have hall : ∀ a ∈ files12 M.listT, a ≤ s.i := fun a ha => by
    obtain ⟨a1, a2, a3⟩ := files12_mem ha
    rw [hlist] at a3
    exact hm a a1 a2 ((h.mem a a1 a2).1 a3)
  cases hr : (files12 M.listT).reverse with
  | nil =>
    rw [List.reverse_eq_nil_iff.1 hr] at hmem
    cases hmem
  | cons a l =>
    have ha : a ∈ files12 M.listT := List.mem_reverse.1 (by rw [hr]; exact List.mem_cons_self ..)
    have hle : s.i ≤ a := by
      have hm2 : s.i ∈ a :: l := by rw [← hr]; exact List.mem_reverse.2 hmem
      rcases List.mem_cons.1 hm2 with e | hm2
      · omega
      · have hp : ((files12 M.listT).reverse).Pairwise fun x y => y ≤ x := List.pairwise_reverse.2 hup
        rw [hr] at hp
        exact (List.pairwise_cons.1 hp).1 _ hm2
    have hea : a = s.i := by have := hall a ha; omega
    have hrd : M.readB (nameB12 s.i) = whole12 s := by
      unfold DM.readB
      rw [if_neg (by rw [ho]; decide), if_neg (fun hh => hh hin), h.bytes h1 h2 hc]
    rw [hea, find12_cons, hrd, join_back hg hs, if_pos ⟨rfl, rfl⟩]
theorem SnapIs.load_none (h : SnapIs M C) (hc : ∀ n, 1 ≤ n → n ≤ 999999999 → C n = none) : load12 M = none := by
  unfold load12
  cases hr : (files12 M.listT).reverse with
  | nil => rfl
  | cons a l =>
    have ha : a ∈ files12 M.listT := List.mem_reverse.1 (by rw [hr]; exact List.mem_cons_self ..)
    obtain ⟨a1, a2, a3⟩ := files12_mem ha
    have hn : nameB12 a ∈ M.names := by
      unfold DM.listT at a3
      split at a3
      · cases a3
      · exact a3
    have := (h.mem a a1 a2).1 hn
    rw [hc a a1 a2] at this
    cases this
end
end Go.Proofs.YtojfihfdnchkeaaGreatDoor

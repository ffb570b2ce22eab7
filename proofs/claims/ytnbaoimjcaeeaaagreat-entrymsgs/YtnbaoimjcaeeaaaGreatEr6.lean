/-
  The walk of EntrySends.
-/
import Derived.Test.YtnbaoimjcaeeaaaGreatEq7To
import Derived.Test.YtnbaoimjcaeeaaaGreatEp5
import Derived.Test.YtnbaoimjcaeeaaaGreatEp6
namespace Go.Proofs.YtnbaoimjcaeeaaaGreat
open Go.RowKit Go.Shelf

theorem entsB_isB (l : List Ent10) : IsB (entsB l) := by
  induction l with
  | nil => exact IsB.nil
  | cons a l ih => rw [entsB_cons]; exact IsB.append (entB_isB a) ih
theorem msgB_isB (m : Msg10) (h : IsB m.sn.d) : IsB (msgB m) := by
  unfold msgB
  refine IsB.append (IsB.append (IsB.append (IsB.append (IsB.append (IsB.append (IsB.append (IsB.append (IsB.append (IsB.append (IsB.append (zigB_isB _) (zigB_isB _)) (zigB_isB _)) (zigB_isB _)) (zigB_isB _)) (zigB_isB _)) (zigB_isB _)) (zigB_isB _)) (boolB_isB _)) (zigB_isB _)) ?_) ?_
  · split
    · exact IsB.append (numB_isB _) (entsB_isB _)
    · exact IsB.nil
  · split
    · exact snapB_isB _ h
    · exact IsB.nil
theorem msgB_pos (m : Msg10) : 0 < (msgB m).length := by
  unfold msgB
  simp only [List.length_append, List.length_singleton]
  omega
theorem msgB_len {x : MsgV} (h : LowM x) : (msgB x.m).length ≤ 1000000000 := by
  have h0 := zigB_le x.k
  have h1 := zigB_le x.fr
  have h2 := zigB_le x.to
  have h3 := zigB_le x.t
  have h4 := zigB_le x.i
  have h5 := zigB_le x.lt
  have h6 := zigB_le x.cm
  have h7 := zigB_le x.ro
  have h8 := zigB_le x.hint
  have h9 := numB_le ((x.es.map EntV.e).length : Int)
  have ha := esB_len h.each
  have hb := h.es
  have hc := snapB_len (s := x.sn.s) h.f h.d
  have hd : (entsB (x.es.map EntV.e)).length ≤ 40000000 := by
    show (esB x.es).length ≤ _
    omega
  unfold msgB MsgV.m
  dsimp only
  simp only [List.length_append, List.length_singleton]
  have e5 : (if x.k = 5 then numB ((x.es.map EntV.e).length : Int) ++ entsB (x.es.map EntV.e) else []).length ≤ 40000009 := by
    split
    · rw [List.length_append]; omega
    · simp
  have e7 : (if x.k = 7 then snapB x.sn.s else []).length ≤ 1100000 := by
    split
    · exact hc
    · simp
  omega
theorem shortM {w : World} {x : MsgV} (hF : FitsM w x) (hl : LowM x) : ShortM10 1152921504606846976 x.m := by
  refine ⟨hF.k, hF.fr, hF.to, hF.t, hF.i, hF.lt, hF.cm, hF.ro, hF.hint, fun e he => ?_, hF.sn.i, hF.sn.t, hF.sn.f.iu, hF.sn.f.iv, ?_, ?_, Nat.lt_of_le_of_lt hF.sn.l (by decide)⟩
  · obtain ⟨y, hy, rfl⟩ := List.mem_map.1 he
    have hx := hF.es.all y hy
    have few1 := hl.each y hy
    refine ⟨hx.i, hx.t, hx.k, ⟨by have := hx.c.1; exact Nat.lt_of_le_of_lt this (by decide), by have := hx.c.2.1; exact Nat.lt_of_le_of_lt this (by decide), by have := hx.c.2.2.1; exact Nat.lt_of_le_of_lt this (by decide), by have := hx.c.2.2.2.1; exact Nat.lt_of_le_of_lt this (by decide), hx.c.2.2.2.2.1, hx.c.2.2.2.2.2.1, hx.c.2.2.2.2.2.2.1, hx.c.2.2.2.2.2.2.2⟩, hx.f.iu, hx.f.iv, ?_, ?_, Nat.lt_of_le_of_lt (cmdB_few few1.2) (by decide)⟩
    · show ((y.f.f.vs.length : Nat) : Int) ≤ _
      have : y.f.f.vs.length ≤ 1000 := few1.1.1
      omega
    · show ((y.f.f.ls.length : Nat) : Int) ≤ _
      have : y.f.f.ls.length ≤ 1000 := few1.1.2
      omega
  · show ((x.sn.f.f.vs.length : Nat) : Int) ≤ _
    have : x.sn.f.f.vs.length ≤ 1000 := hl.f.1
    omega
  · show ((x.sn.f.f.ls.length : Nat) : Int) ≤ _
    have : x.sn.f.f.ls.length ≤ 1000 := hl.f.2
    omega
theorem backM (x : Msg10) (h : ShortM10 1152921504606846976 x) (hg : goodM10 x = true) : whole10 goodM10 noM10 (pmsg10 (msgB x, false)) = (x, 0) := by
  rw [(msg10_sim 1152921504606846976 (by decide)).whole noM10 (msgB x, false)]
  have := msg10_back 1152921504606846976 x [] h (goodM10_kind hg) (by decide)
  rw [List.append_nil] at this
  rw [this]
  unfold whole10
  rw [hg]
  rfl
theorem moreM (x : Msg10) (h : ShortM10 1152921504606846976 x) (hg : goodM10 x = true) : whole10 goodM10 noM10 (pmsg10 (msgB x ++ [0], false)) = (noM10, 8) := by
  rw [(msg10_sim 1152921504606846976 (by decide)).whole noM10 (msgB x ++ [0], false), msg10_back 1152921504606846976 x [0] h (goodM10_kind hg) (by decide)]
  rfl
theorem cutM (x : Msg10) (h : ShortM10 1152921504606846976 x) (hg : goodM10 x = true) (c : Nat) (hc : c < (msgB x).length) : whole10 goodM10 noM10 (pmsg10 ((msgB x).take c, false)) = (noM10, 8) := by
  rw [(msg10_sim 1152921504606846976 (by decide)).whole noM10 ((msgB x).take c, false)]
  have hb := msg10_back 1152921504606846976 x [] h (goodM10_kind hg) (by decide)
  rw [List.append_nil] at hb
  have hcut := cut10 (both_msg 1152921504606846976).app (p := (msgB x).take c) (q := (msgB x).drop c) (by intro h0; have := congrArg List.length h0; rw [List.length_drop] at this; simp at this; omega) (by rw [List.take_append_drop, hb])
  unfold whole10
  rw [hcut]
  rfl

end Go.Proofs.YtnbaoimjcaeeaaaGreat

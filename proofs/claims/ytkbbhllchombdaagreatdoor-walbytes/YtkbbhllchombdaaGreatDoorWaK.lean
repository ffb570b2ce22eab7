import Derived.Test.YtkbbhllchombdaaGreatDoorWaCTo
import Derived.Lib.AtoiAll
import Derived.Lib.ItoaNum
import Derived.Lib.Strings
namespace Go.Proofs.YtkbbhllchombdaaGreatDoor
open Go.RowKit
def u8 (z:Int):UInt8:=UInt8.ofNat z.toNat
theorem dec_digs:∀ (f n:Nat),n < 10 ^ (f + 1)→Lib.decDigits n = (digs11 (f + 1) n).map u8
  | 0,n,h=>by
    have hn:n < 10:=by simpa using h
    have h0:n / 10 = 0:=by omega
    rw [Lib.decDigits,dif_pos hn,digs11,if_pos h0,List.nil_append,List.map_cons,List.map_nil]
    unfold u8
    congr 2
    omega
  | f + 1,n,h=>by
    rw [Lib.decDigits,digs11]
    by_cases hn:n < 10
    · have h0:n / 10 = 0:=by omega
      rw [dif_pos hn,if_pos h0,List.nil_append,List.map_cons,List.map_nil]
      unfold u8
      congr 2
      omega
    · have h0:¬ n / 10 = 0:=by omega
      have hq:n / 10 < 10 ^ (f + 1):=by rw [Nat.pow_succ] at h;omega
      rw [dif_neg hn,if_neg h0,List.map_append,dec_digs f (n / 10) hq,List.map_cons,List.map_nil]
      unfold u8
      congr 3
theorem itoa_str (n:Int) (h1:1≤n) (h2:n≤999999999):(⟨(Lib.itoa n).toArray⟩:ByteArray) = strOfNums (digs11 20 n.toNat):=by
  have hb:n.toNat < 10 ^ (19 + 1):=Nat.lt_of_lt_of_le (show n.toNat < 10 ^ 9 by simp;omega) (Nat.pow_le_pow_right (by omega) (by omega))
  unfold Lib.itoa
  rw [if_neg (by omega),dec_digs 19 _ hb]
  rfl
theorem parse_digs:∀ (l:List UInt8) (acc:Nat),isDig11 (l.map fun u=>(u.toNat:Int))→(acc + 1) * 10 ^ l.length≤10 ^ 18→Lib.parseUint10 acc l = .ok (l.foldl (fun n c=>10 * n + (c.toNat - 48)) acc)
  | [],acc,_,_=>rfl
  | c :: r,acc,h,hb=>by
    have hc:=h (c.toNat:Int) (by simp)
    have hp:0 < 10 ^ r.length:=Nat.pow_pos (by omega)
    rw [List.length_cons,Nat.pow_succ] at hb
    have hacc:(acc + 1) * 10≤10 ^ 18:=by
      refine Nat.le_trans ?_ hb
      rw [show (acc + 1) * (10 ^ r.length * 10) = ((acc + 1) * 10) * 10 ^ r.length by rw [Nat.mul_comm (10 ^ r.length) 10,Nat.mul_assoc]]
      exact Nat.le_mul_of_pos_right _ hp
    have h18:(10:Nat) ^ 18 = 1000000000000000000:=by decide
    rw [Lib.parseUint10,if_pos (by omega),if_neg (by omega),if_neg (by omega),List.foldl_cons,Nat.mul_comm acc 10]
    refine parse_digs r _ (fun d hd=>h d (by simp at hd ⊢;exact .inr hd)) ?_
    refine Nat.le_trans ?_ hb
    rw [show (acc + 1) * (10 ^ r.length * 10) = ((acc + 1) * 10) * 10 ^ r.length by rw [Nat.mul_comm (10 ^ r.length) 10,Nat.mul_assoc]]
    exact Nat.mul_le_mul_right _ (by omega)
theorem val_fold (l:List UInt8) (h:isDig11 (l.map fun u=>(u.toNat:Int))):∀ acc,(l.map fun u=>(u.toNat:Int)).foldl (fun n d=>10 * n + (d - 48).toNat) acc = l.foldl (fun n c=>10 * n + (c.toNat - 48)) acc:=by
  induction l with
  | nil=>intro _;rfl
  | cons c r ih =>
    intro acc
    have hc:=h (c.toNat:Int) (by simp)
    rw [List.map_cons,List.foldl_cons,List.foldl_cons,ih (fun d hd=>h d (by simp at hd ⊢;exact .inr hd))]
    congr 2
    omega
theorem atoi_digs (l:List UInt8) (h:isDig11 (l.map fun u=>(u.toNat:Int))) (hne:l ≠ []) (hl:l.length≤9):Lib.atoiAll l = .ok (valN11 (l.map fun u=>(u.toNat:Int)):Int):=by
  have hp:=parse_digs l 0 h (by rw [Nat.zero_add,Nat.one_mul];exact Nat.pow_le_pow_right (by omega) (by omega))
  have hv:=valN_lt _ h
  rw [List.length_map] at hv
  have hv9:valN11 (l.map fun u=>(u.toNat:Int)) < 10 ^ 9:=Nat.lt_of_lt_of_le hv (Nat.pow_le_pow_right (by omega) hl)
  have hf:l.foldl (fun n c=>10 * n + (c.toNat - 48)) 0 = valN11 (l.map fun u=>(u.toNat:Int)):=(val_fold l h 0).symm
  rw [hf] at hp
  generalize valN11 (l.map fun u=>(u.toNat:Int)) = V at *
  cases l with
  | nil=>exact absurd rfl hne
  | cons c r =>
    have hc:=h (c.toNat:Int) (by simp)
    unfold Lib.atoiAll
    dsimp only
    rw [if_neg (by omega:¬ (c.toNat = 43∨c.toNat = 45))]
    unfold Lib.parseMag
    rw [if_neg (by simp),hp]
    dsimp only
    have h9:(10:Nat) ^ 9 = 1000000000:=by decide
    rw [if_neg (by omega),if_neg (by omega),if_neg (by omega)]
def preU:List UInt8:=[119,97,108,45]
theorem pre_nats:preU.map (fun u=>(u.toNat:Int)) = pre11:=by decide
theorem map_nat_inj:∀ l m:List UInt8,l.map (fun u=>(u.toNat:Int)) = m.map (fun u=>(u.toNat:Int))→l = m
  | [],[],_=>rfl
  | [],_ :: _,h=>by cases h
  | _ :: _,[],h=>by cases h
  | a :: l,c :: m,h=>by
    simp only [List.map_cons,List.cons.injEq] at h
    have:a = c:=UInt8.toNat_inj.1 (by omega)
    rw [this,map_nat_inj l m h.2]
theorem num_ok {x:ByteArray} (h:(num11 x).2 = true):1≤(num11 x).1∧(num11 x).1≤999999999∧natsOf x = name11 (num11 x).1∧Lib.atoiAll (Lib.trimPrefix x.data.toList preU) = .ok (num11 x).1:=by
  unfold num11 number11 at h ⊢
  split at h
  case isFalse=>cases h
  rename_i hi
  rw [if_pos hi]
  unfold isNum11 at hi
  simp only [Bool.and_eq_true,decide_eq_true_eq] at hi
  obtain ⟨⟨⟨⟨⟨h1,h2⟩,h3⟩,h4⟩,h5⟩,h6⟩:=hi
  have hd:=dig_all.1 h4
  have hpl:pre11.length = 4:=rfl
  have hlen:((natsOf x).drop pre11.length).length≤9:=by rw [List.length_drop];omega
  have hv9:valN11 ((natsOf x).drop pre11.length) < 10 ^ 9:=Nat.lt_of_lt_of_le (valN_lt _ hd) (Nat.pow_le_pow_right (by omega) hlen)
  have h9:(10:Nat) ^ 9 = 1000000000:=by decide
  have htake:x.data.toList.take 4 = preU:=map_nat_inj _ _ (by rw [List.map_take,pre_nats];exact h3)
  have hdrop:(x.data.toList.drop 4).map (fun u=>(u.toNat:Int)) = (natsOf x).drop pre11.length:=by rw [List.map_drop];rfl
  have htrim:Lib.trimPrefix x.data.toList preU = x.data.toList.drop 4:=by
    unfold Lib.trimPrefix
    have hp:Lib.hasPrefix x.data.toList preU = true:=by
      unfold Lib.hasPrefix
      rw [List.isPrefixOf_iff_prefix,← htake]
      exact List.take_prefix _ _
    rw [if_pos hp]
    rfl
  have hat:=atoi_digs (x.data.toList.drop 4) (by rw [hdrop];exact hd) (fun e=>by
    have:=congrArg List.length hdrop
    rw [e,List.map_nil,List.length_nil,List.length_drop] at this
    omega) (by
    have:=congrArg List.length hdrop
    rw [List.length_map] at this
    omega)
  rw [hdrop] at hat
  generalize hV:valN11 ((natsOf x).drop pre11.length) = V at *
  refine ⟨by show (1:Int)≤(V:Int);omega,by show (V:Int)≤999999999;omega,?_,by rw [htrim];exact hat⟩
  show natsOf x = name11 (V:Int)
  unfold name11
  rw [if_pos (by omega),Int.toNat_natCast,h6]
  have e:=List.take_append_drop pre11.length (natsOf x)
  rw [h3] at e
  exact e.symm
theorem num_of (x:ByteArray):(∀ v,Lib.atoiAll (Lib.trimPrefix x.data.toList preU) = .ok v→num11 x = if natsOf x = name11 v then (v,true) else (0,false))∧((∀ v,Lib.atoiAll (Lib.trimPrefix x.data.toList preU) ≠ .ok v)→num11 x = (0,false)):=by
  have hno:(num11 x).2 = false→num11 x = (0,false):=fun h=>by
    unfold num11 number11 at h ⊢
    split at h
    · cases h
    · rename_i hi
      rw [if_neg hi]
  refine ⟨fun v hv=>?_,fun h=>hno ?_⟩
  · by_cases e:natsOf x = name11 v
    · rw [if_pos e]
      by_cases hr:1≤v∧v≤999999999
      · unfold num11
        rw [e]
        exact number_name v hr.1 hr.2
      · exfalso
        unfold name11 at e
        rw [if_neg hr] at e
        have hx:x.data.toList = []:=by
          have:=congrArg List.length e
          unfold natsOf at this
          rw [List.length_map] at this
          exact List.eq_nil_of_length_eq_zero this
        rw [hx] at hv
        revert hv
        have:Lib.atoiAll (Lib.trimPrefix [] preU) = .«syntax»:=by decide
        rw [this]
        exact fun h=>by cases h
    · rw [if_neg e]
      refine hno ?_
      cases hb:(num11 x).2 with
      | false=>rfl
      | true =>
        obtain ⟨_,_,h3,h4⟩:=num_ok hb
        rw [hv] at h4
        injection h4 with h4
        rw [h4] at e
        exact absurd h3 e
  · cases hb:(num11 x).2 with
    | false=>rfl
    | true=>exact absurd (num_ok hb).2.2.2 (h _)
end Go.Proofs.YtkbbhllchombdaaGreatDoor

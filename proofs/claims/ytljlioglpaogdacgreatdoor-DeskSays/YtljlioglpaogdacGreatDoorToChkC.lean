/- CkDef ChkC -/
import Derived.Test.YtljlioglpaogdacGreatDoorToShpM
import Derived.Test.YtljlioglpaogdacGreatDoorToCheckC
namespace Go.Proofs.YtljlioglpaogdacGreatDoor
set_option linter.unusedVariables false
set_option maxRecDepth 100000
set_option maxHeartbeats 8000000
section
open Crm Go.RowKit
def Cin (G : List Gt) (O : List Int) (n m : Nat) (w : World) (e : Ending) (w' : World) : Prop :=
  ((∃ r, r ≠ 0 /\ Cke G O n m r /\ e = .returned (.tuple #[.slice none 0 0, .int .i64 r])) \/
   (Cke G O n m 0 /\ ∃ v, e = .returned (.tuple #[v, .int .i64 0]) /\ w'.ownsRow w.heap.size 3 1 v (ci G n) (zns (whl G n)))) /\ Below w.heap.size w w'
def Cre (G:List Gt) (O:List Int) (n m q:Nat) (r:Int):Prop:=
 (r≠0/\Cke G O n m r)\/(Cke G O n m 0/\((q≠ci G n/\r=5)\/(q=ci G n/\r=0)))
theorem Cre.one {G O n m q r s} (h:Cre G O n m q r) (k:Cre G O n m q s):r=s:=by
 rcases h with ⟨h1,h2⟩ | ⟨h1,⟨h2,rfl⟩ | ⟨h2,rfl⟩⟩ <;> rcases k with ⟨k1,k2⟩ | ⟨k1,⟨k2,rfl⟩ | ⟨k2,rfl⟩⟩
 all_goals first
  | rfl
  | exact h2.one k2
  | exact absurd (h2.one k1) h1
  | exact absurd (k2.one h1) k1
  | exact absurd k2 h2
  | exact absurd h2 k2
def Crn (G : List Gt) (O ins : List Int) (n m q : Nat) (w : World) (e : Ending) (w' : World) : Prop :=
  ((∃ r, r ≠ 0 /\ Cre G O n m q r /\ e = .returned (.tuple #[.slice none 0 0, .int .i64 r])) \/
   (Cre G O n m q 0 /\ ∃ v, e = .returned (.tuple #[v, .int .i64 0]) /\ w'.ownsRow w.heap.size 70 1 v m ((otl G O ins m).map (Value.int .u64)))) /\ Below w.heap.size w w'
def chk (rs:List (List Int)) (n:Nat) (v:Int):Int:=if v<1\/20<v then 1 else if 20<n then 2 else if ∀i,i<n->((rs.getD i []).length:Int)=v+1 then 0 else 5
theorem chk_arg {rs:List (List Int)} {n:Nat} {v:Int} (h:v<1\/20<v):chk rs n v=1:=if_pos h
theorem chk_large {rs:List (List Int)} {n:Nat} {v:Int} (h:¬ (v<1\/20<v)) (h2:20<n):chk rs n v=2:=by unfold chk;rw [if_neg h,if_pos h2]
theorem chk_form {rs:List (List Int)} {n:Nat} {v:Int} (h:¬ (v<1\/20<v)) (h2:¬ 20<n) {k:Nat} (hk:k<n) (h3:¬ ((rs.getD k []).length:Int)=v+1):chk rs n v=5:=by
 unfold chk;rw [if_neg h,if_neg h2,if_neg λhh=>h3 (hh k hk)]
theorem chk_ok {rs:List (List Int)} {n:Nat} {v:Int} (h:¬ (v<1\/20<v)) (h2:¬ 20<n) (h3:∀i,i<n->((rs.getD i []).length:Int)=v+1):chk rs n v=0:=by
 unfold chk;rw [if_neg h,if_neg h2,if_pos h3]
theorem chk_of {rs:List (List Int)} {n:Nat} {v:Int} (h:chk rs n v=0):∃k:Nat,v=k/\1<=k/\k<=20/\n<=20/\∀i,i<n->(rs.getD i []).length=k+1:=by
 unfold chk at h;by_cases h1:v<1\/20<v
 ·rw [if_pos h1] at h;omega
 ·by_cases h2:20<n
  ·rw [if_neg h1,if_pos h2] at h;omega
  ·by_cases h3:∀i,i<n->((rs.getD i []).length:Int)=v+1
   ·exact ⟨v.toNat,by omega,by omega,by omega,by omega,λi hi=>by have:=h3 i hi;omega⟩
   ·rw [if_neg h1,if_neg h2,if_neg h3] at h;omega
theorem cCheck (a n c rs) (v:Int) (w) (h:RdR w a n c rs) (hv0: -9223372036854775808<=v) (hv1:v<=9223372036854775807):
  Calls Tryz.prog 223 #[.slice a n c,.int .i64 v] w λe w'=>e = .returned (.int .i64 (chk rs n v))/\w'=w:=by
 have aj:=h.cap;have ab:=h.max;unfold maxLen at ab;by_cases h1:v<1
 ·have hd:decide (v<1)=true:=decide_eq_true h1;rw [chk_arg (.inl h1)];go_enter Tryz.func223,Tryz.ntmps223;go_wp2;go_ret;exact ⟨rfl,rfl⟩
 ·have hd:decide (v<1)=false:=decide_eq_false h1;by_cases h2:20<v
  ·have af:decide (20<v)=true:=decide_eq_true h2;rw [chk_arg (.inr h2)];go_enter Tryz.func223,Tryz.ntmps223;go_wp2;go_ret;exact ⟨rfl,rfl⟩
  ·have af:decide (20<v)=false:=decide_eq_false h2;have aa:¬ (v<1\/20<v):=by omega
   by_cases h3:20<n
   ·rw [chk_large aa h3];have h4:(20:Int)<(n:Int):=by omega
    go_enter Tryz.func223,Tryz.ntmps223;go_wp2;go_ret;exact ⟨rfl,rfl⟩
   ·go_enter Tryz.func223,Tryz.ntmps223;go_wp2;go_loopw [18] (λi wr=>∃k:Nat,k<=n/\i = .int .i64 k/\Hid (∀i,i<k->((rs.getD i []).length:Int)=v+1)/\wr=w) (λi _=>n-(intOf i).toNat)
    case atStart=>exact ⟨0,Nat.zero_le _,rfl,λi hi=>by omega,rfl⟩
    case round=>
     obtain ⟨k,hk,rfl,HK,hw⟩:=hrel;have hw:=hw.symm;subst hw;by_cases hlt:k<n
     ·obtain ⟨b,o,ai,ni,ci,row,rfl,ak,ad,al,ae⟩:=h.one hlt;have HL:Hid (((rs.getD k []).length:Int)=ni):=by rw [ad.out,ae.len];rfl
      by_cases he:(ni:Int)=v+1
      ·have ag:Hid (∀i,i<k+1->((rs.getD i []).length:Int)=v+1):=λi hi=>by
        by_cases e:i=k
        ·rw [e,HL.out];exact he
        ·exact HK.out i (by omega)
       have hb:((ni:Int)==v+1)=true:=by rw [beq_iff_eq];exact he
       clear he;go_wp2;go_roundw
       case rel=>exact ⟨k+1,by omega,by go_num,ag,by trivial⟩
       case measure=>simp [intOf];omega
      ·have hb:((ni:Int)==v+1)=false:=by rw [beq_eq_false_iff_ne];exact he
       have HC:Hid (chk rs n v=5):=chk_form aa h3 hlt (by rw [HL.out];exact he);clear he;go_wp2;go_ret;rw [HC.out];exact ⟨rfl,rfl⟩
     ·have ah:k=n:=by omega
      subst ah;have HC:Hid (chk rs k v=0):=chk_ok aa h3 HK.out;go_wp2;go_ret;rw [HC.out];exact ⟨rfl,rfl⟩
end
end Go.Proofs.YtljlioglpaogdacGreatDoor

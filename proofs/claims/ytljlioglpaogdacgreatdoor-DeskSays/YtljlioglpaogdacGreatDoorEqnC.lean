/- EqnC -/
import Derived.Test.YtljlioglpaogdacGreatDoorToStepC
import Derived.Test.YtljlioglpaogdacGreatDoorToShpM
import Derived.Test.YtljlioglpaogdacGreatDoorToCheckC
import Derived.Deep.RegionHeld3
namespace Go.Proofs.YtljlioglpaogdacGreatDoor
set_option linter.unusedVariables false
set_option maxRecDepth 100000
set_option maxHeartbeats 8000000
section
open Crm Go.RowKit
theorem cEquation (x y:Int) (c e:Nat) (w:World) (hx1:1<=x) (hx9:x<=9) (hy0:0<=y) (hy1:y<=18446744073709551615) (hc:c<=100) (hec:e<c):
  Calls Tryz.prog 208 #[.agg #[.int .i64 x,.int .u64 y],.int .i64 c,.int .i64 e] w λen w'=>∃a cp,en = .returned (.slice a (c+e+1) cp)/\Rd w' a (c+e+1) cp (eqn x y c e (c+e+1))/\(∀q,a=some q->w.heap.size<=q.block)/\Below w.heap.size w w':=by
 obtain ⟨i0,hi,ar,au,av⟩:=info_parts info70;have aG:=cell_alloc0 w (.int .i64 x) (.int .u64 y) 74;have aj:=cell_alloc1 w (.int .i64 x) (.int .u64 y) 74;have am:Below w.heap.size w (w.alloc (.cells #[.int .i64 x,.int .u64 y] 74)):=bal _ _;have ak:Hid ((w.alloc (.cells #[.int .i64 x,.int .u64 y] 74)).heap.size=w.heap.size+1):=by simp [Hid]
 go_enter Tryz.func208,Tryz.ntmps208;go_wp2_with (at_make;generalize w.alloc (.cells #[.int .i64 x,.int .u64 y] 74)=wA at *;refine wpList_make_own _ rfl _ _ 52 rfl wA.heap.size 70 i0 (.int .u64 0) 1 Tryz.underlying52 hi ar au .i64 .i64 _ (c+e+1) rfl rfl (by omega) (by rw [av];omega) (by unfold maxLen;omega) (Nat.le_refl _) ?_;intro w1 aa ai);have an:Below wA.heap.size wA w1:=(Below.refl _ _).grown ai (Nat.le_refl _) (by simp);clear ai;go_loopw [8,20] (λv i wr=>∃k:Nat,k<=c/\i = .int .i64 k/\wr.ownsRow wA.heap.size 70 1 v k ((eqn x y c e k).map (Value.int .u64))/\Below wA.heap.size wA wr) (λ_ i _=>c-(intOf i).toNat)
 case atStart=>exact ⟨0,Nat.zero_le _,rfl,aa,an⟩
 case round=>
  clear aa an;obtain ⟨k,hk,rfl,aa,ab⟩:=hrel;have aH:=ab.size;by_cases hlt:k<c
  ·have hp:=pw_bd x k;have HV:Hid (pw x k=eqc x y c e k):=eqc_first x y e hlt;go_wp2_with (first | (go_at_call 207;refine (fPow _ _ _ (by omega) (by omega) (by omega) (by omega)).mono ?_;rintro en w' ⟨rfl,hw⟩;have hw:=hw.symm;subst hw) | (at_builtin;refine wpList_app1 Tryz.underlying52 info70 _ rfl _ _ rfl wA.heap.size _ _ _ rfl aa _ rfl (by omega) (by omega) ?_;intro v' w3 ad ae;rw [eqn_snoc x y c e k HV.out] at ad;have af:=ab.trans ae;clear aa ab ae));go_roundw
   case rel=>exact ⟨k+1,by omega,by go_num,ad,af⟩
   case measure=>simp [intOf];omega
  ·have aw:k=c:=by omega
   subst aw;obtain ⟨wo,ax⟩:∃wo,wo=wr:=⟨_,rfl⟩;subst ax;go_wp2;go_loopw [8,32] (λv i wr=>∃j:Nat,j<=e/\i = .int .i64 j/\wr.ownsRow wA.heap.size 70 1 v (k+j) ((eqn x y k e (k+j)).map (Value.int .u64))/\Below wA.heap.size wA wr) (λ_ i _=>e-(intOf i).toNat)
   case atStart=>exact ⟨0,Nat.zero_le _,rfl,aa,ab⟩
   case round=>
    clear aa ab;obtain ⟨j,hj,rfl,aa,ab⟩:=hrel;have ao:=ab.size;by_cases hlt:j<e
    ·obtain ⟨a',c',rfl,hr,_⟩:=Rd.own aa (bd_u64 (eqn_bd x y k e (k+j)));obtain ⟨b,o,z,rfl,ay,HZ,ap,aq,az⟩:=hr.one (show j<k+j by omega);have al:Hid (z=pw x j):=by
      have:=HZ.out;rw [eqn_getD x y k e (by omega),<- eqc_first x y e (by omega)] at this;exact this.symm
     have aA:wr.cell? ⟨w.heap.size,1,none⟩=some (.int .u64 y):=by rw [ab.cell (by have:=ak.out;simp only;omega)];exact aj
     have hm:=nm_bd (y*z);have HV:Hid (nm (-nm (y*z))=eqc x y k e (k+j)):=by rw [al.out,<- Int.zero_sub];exact eqc_second x y k hlt
     have aB:(0:Int)<=(j:Int):=by omega
     have aC:(j:Int)<(k:Int)+(j:Int):=by omega
     have ag:wr.drew.ownsRow wA.heap.size 70 1 (.slice (some ⟨b,o,none⟩) (k+j) c') (k+j) ((eqn x y k e (k+j)).map (Value.int .u64)):=aa;have ah:=ab.drew;clear HZ hr;go_wp2;go_region_law (first | (refine step_app1 Tryz.underlying52 info70 wr.drew rfl _ _ rfl wA.heap.size _ _ _ rfl ag (nm (-nm (y*z))) rfl rfl (by omega) (by exact ao) ?_;intro v' w3 ad ae;rw [eqn_snoc x y k e (k+j) HV.out] at ad;have af:=ah.trans ae) | (go_simp;go_at_call 149;refine (fMul _ _ _ (by omega) (by omega) (by omega) (by omega)).mono ?_;rintro en w' ⟨rfl,rfl⟩) | (go_simp;go_at_call 158;refine (fSub _ _ _ (by omega) (by omega) (by omega) (by omega)).mono ?_;rintro en w' ⟨rfl,rfl⟩))
     all_goals
      clear aa ab ag ah ae;go_wp2;go_roundw
      case rel=>exact ⟨j+1,by omega,by go_num,ad,af⟩
      case measure=>simp [intOf];omega
    ·have aD:j=e:=by omega
     subst aD;obtain ⟨a',c',rfl,hr,_⟩:=Rd.own aa (bd_u64 (eqn_bd x y k j (k+j)));obtain ⟨b,o,z,rfl,ay,HZ,ap,aq,az⟩:=hr.one (show j<k+j by omega);have al:Hid (z=pw x j):=by
      have:=HZ.out;rw [eqn_getD x y k j (by omega),<- eqc_first x y j (by omega)] at this;exact this.symm
     have aA:wr.cell? ⟨w.heap.size,1,none⟩=some (.int .u64 y):=by rw [ab.cell (by have:=ak.out;simp only;omega)];exact aj
     have hm:=nm_bd (y*z);have HV:Hid (nm (y*z)=eqc x y k j (k+j)):=by rw [al.out];exact eqc_last x y k j
     have aB:(0:Int)<=(j:Int):=by omega
     have aC:(j:Int)<(k:Int)+(j:Int):=by omega
     have ag:wr.drew.ownsRow wA.heap.size 70 1 (.slice (some ⟨b,o,none⟩) (k+j) c') (k+j) ((eqn x y k j (k+j)).map (Value.int .u64)):=aa;have ah:=ab.drew;clear HZ hr;go_wp2;go_region_law (first | (refine step_app1 Tryz.underlying52 info70 wr.drew rfl _ _ rfl wA.heap.size _ _ _ rfl ag (nm (y*z)) rfl rfl (by omega) (by exact ao) ?_;intro v' w3 ad ae;rw [eqn_snoc x y k j (k+j) HV.out] at ad;have af:=ah.trans ae;obtain ⟨a3,c3,rfl,aE,aF⟩:=Rd.own ad (bd_u64 (eqn_bd x y k j (k+j+1)))) | (go_simp;go_at_call 149;refine (fMul _ _ _ (by omega) (by omega) (by omega) (by omega)).mono ?_;rintro en w' ⟨rfl,rfl⟩))
     all_goals
      clear aa ab ag ah ae;go_wp2;go_ret;exact ⟨a3,c3,rfl,aE,λq hq=>by have:=aF q hq;have:=ak.out;omega,btr am af⟩
end
end Go.Proofs.YtljlioglpaogdacGreatDoor

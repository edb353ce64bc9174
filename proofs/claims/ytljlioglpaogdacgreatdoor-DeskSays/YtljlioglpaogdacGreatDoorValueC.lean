/- ValueC -/
import Derived.Test.YtljlioglpaogdacGreatDoorToGRightC
import Derived.Deep.RegionLaw
namespace Go.Proofs.YtljlioglpaogdacGreatDoor
set_option linter.unusedVariables false
set_option maxRecDepth 100000
set_option maxHeartbeats 8000000
section
open Crm Go.RowKit
def lf (D:List Gt) (ins:List Int) (j:Nat):Int:=if (gt D j).k=1 then nm (ins.getD (ci D j) 0) else nm (gt D j).n
theorem lf_bd (D:List Gt) (ins:List Int) (j:Nat):0<=lf D ins j/\lf D ins j<=2147483646:=by unfold lf;split <;> exact nm_bd _
theorem rLeaf (ag n cg D) (ao:Option Addr) (m co:Nat) (ai q ca ins) (j:Nat) (w) (h:RdG w ag n cg D) (g:Rd w ai q ca ins) (hn:n<=1000) (hj:j<n) (hk:(gt D j).k=1\/(gt D j).k=2) (hq:(gt D j).k=1->ci D j<q):
  Calls Tryz.prog 121 #[.agg #[.slice ag n cg,.slice ao m co],.slice ai q ca,.int .i64 j] w λe w'=>e = .returned (.int .u64 (lf D ins j))/\Below w.heap.size w w':=by
 have ar:=h.cap;have ab:=CBox.new w ag n cg ao m co;have ad:Below w.heap.size w (w.alloc (.cells #[.slice ag n cg,.slice ao m co] 89)):=bal _ _;go_enter Tryz.func121,Tryz.ntmps121;go_upto_region 1 with fail;generalize w.alloc (.cells #[.slice ag n cg,.slice ao m co] 89)=w0 at *;obtain ⟨d0,d1⟩:=ab.cells;have az:=ab.lt;obtain ⟨b,o,k,x,y,z,rfl,aA,HG,aB,hx,hy,hz,c1,c2,c3,c4⟩:=(h.below ad).one hj;have aa:Below w0.heap.size w0 (w0.alloc (.cells #[.int .i64 k,.int .i64 x,.int .i64 y,.int .u64 z] 138)):=bal _ _;have ae:=btr ad aa;have ah:=ab.below aa ab.lt;obtain ⟨q1,q2,q3,q4⟩:=gate_box w0 k x y z 138;have au:w0.heap.size<(w0.alloc (.cells #[.int .i64 k,.int .i64 x,.int .i64 y,.int .u64 z] 138)).heap.size:=by simp
 go_upto_region 2 with fail;generalize w0.alloc (.cells #[.int .i64 k,.int .i64 x,.int .i64 y,.int .u64 z] 138)=W at *;clear c1 c2 c3 c4 aa ad d0 d1;obtain ⟨d0,d1⟩:=ah.cells;have aC:=ah.lt;by_cases hk1:k=1
 ·subst hk1;have aj:ci D j<q:=hq (by rw [HG.out]);have HV:Hid (lf D ins j=nm (ins.getD (ci D j) 0)):=by unfold Hid lf;rw [if_pos (by rw [HG.out])]
  have aD:=ci_le D j;obtain ⟨N,HN⟩:=nmd (ci D j);clear hk hq;go_wp2;go_loop [8,9] (λv p=>∃i:Nat,i<=j/\p = .int .i64 i/\∃c:Nat,c<=i/\v = .int .i64 c/\Hid (c=ci D i)) (λ_ p=>j-(intOf p).toNat)
  case atStart=>exact ⟨0,Nat.zero_le _,rfl,0,Nat.le_refl _,rfl,rfl⟩
  case round=>
   obtain ⟨i,hi,rfl,c,hc,rfl,HC⟩:=hrel;by_cases hlt:i<j
   ·obtain ⟨b',o',k',x',y',z',e',av,ak,aw,_,_,_,aE,_,_,_⟩:=(h.below ae).one (show i<n by omega);simp only [Option.some.injEq,Addr.mk.injEq,and_true] at e';obtain ⟨rfl,rfl⟩:=e';by_cases hk':k'=1
    ·subst hk';have af:Hid (c+1=ci D (i+1)):=by unfold Hid;rw [ci_in (by rw [ak.out]),HC.out]
     go_wp2;go_round
     case rel=>exact ⟨i+1,by omega,by go_num,c+1,by omega,by go_num,af⟩
     case measure=>simp [intOf];omega
    ·have ax:(k'==1)=false:=by rw [beq_eq_false_iff_ne];exact hk'
     have af:Hid (c=ci D (i+1)):=by unfold Hid;rw [ci_no (by rw [ak.out];exact hk'),HC.out]
     clear hk';go_wp2;go_round
     case rel=>exact ⟨i+1,by omega,by go_num,c,by omega,rfl,af⟩
     case measure=>simp [intOf];omega
   ·have al:i=j:=by omega
    subst al;obtain rfl:c=N:=HC.out.trans HN.out;rw [HN.out] at aj;obtain ⟨b3,o3,v,rfl,aF,HY,am,an,aG⟩:=(g.below ae).one aj;have ap:Hid (nm (ins.getD (ci D i) 0)=nm v):=by unfold Hid;rw [HN.out,HY.out]
    have ay:(c:Int)<(q:Int):=by omega
    have aH:(0:Int)<=(c:Int):=by omega
    go_wp2_with (go_at_call 76;refine (rNorm _ _ am an).mono ?_;rintro e w' ⟨rfl,hw⟩;have hw:=hw.symm;subst hw);go_ret;rw [HV.out,ap.out];exact ⟨rfl,ae⟩
 ·have aq:k=2:=by rw [HG.out] at hk;rcases hk with e | e;exact absurd e hk1;exact e
  subst aq;have HV:Hid (lf D ins j=nm z):=by unfold Hid lf;rw [if_neg (by rw [HG.out];exact hk1),HG.out]
  clear hk hq hk1;go_wp2_with (go_at_call 76;refine (rNorm _ _ hz.1 hz.2).mono ?_;rintro e w' ⟨rfl,hw⟩;have hw:=hw.symm;subst hw);go_ret;rw [HV.out];exact ⟨rfl,ae⟩
end
end Go.Proofs.YtljlioglpaogdacGreatDoor

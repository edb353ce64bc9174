/- RCrewC EnN -/
import Derived.Test.YtljlioglpaogdacGreatDoorToEnDef
import Derived.Test.YtljlioglpaogdacGreatDoorToCktC
namespace Go.Proofs.YtljlioglpaogdacGreatDoor
set_option linter.unusedVariables false
set_option maxRecDepth 100000
set_option maxHeartbeats 8000000
section
open Crm Go.RowKit
theorem whl_le {G:List Gt} {N k:Nat} {n:Int} (h:∀j,j<k->(whl G N).getD j 0<=n) (hk:k=(whl G N).length):∀x ∈ whl G N,x<=n:=λx hx=>by
 obtain ⟨j,hj,rfl⟩:=List.getElem_of_mem hx
 have:=h j (by omega)
 rwa [List.getD_eq_getElem?_getD,List.getElem?_eq_getElem hj] at this
theorem whl_not {G:List Gt} {N j:Nat} {n:Int} (hj:j<(whl G N).length) (h:n<(whl G N).getD j 0):¬ ∀x ∈ whl G N,x<=n:=λe=>by
 rw [List.getD_eq_getElem?_getD,List.getElem?_eq_getElem hj] at h
 have:=e _ (List.getElem_mem hj)
 simp only [Option.getD_some] at h
 omega
theorem rCrew (ag N cg G ao m co O) (n t:Int) (w) (h:RdG w ag N cg G) (g:RdI w ao m co O) (hn: -9223372036854775808<=n/\n<=9223372036854775807) (ht: -9223372036854775808<=t/\t<=9223372036854775807):
  Calls Tryz.prog 79 #[.agg #[.slice ag N cg,.slice ao m co],.int .i64 n,.int .i64 t] w λe w'=>∃r,e = .returned (.int .i64 r)/\Nde G O N m n t r/\Below w.heap.size w w':=by
 have am:=CBox.new w ag N cg ao m co;have ae:Below w.heap.size w (w.alloc (.cells #[.slice ag N cg,.slice ao m co] 89)):=bal _ _;go_enter Tryz.func79,Tryz.ntmps79;go_wp2_with fail;generalize w.alloc (.cells #[.slice ag N cg,.slice ao m co] 89)=w0 at *;refine (rCircuit _ _ _ _ _ _ _ _ _ (h.below ae) (g.below ae)).mono ?_;rintro e w1 ⟨r,rfl,hC,aj⟩;have af:=btr ae aj;have ar:=am.below aj am.lt;obtain ⟨d0,d1⟩:=ar.cells;clear am aj ae;have au:=hC.bd;by_cases hr:r=0
 ·subst hr;have HC:=hid hC;have hN:=hC.ok.1;clear hC au;obtain ⟨aa,ad⟩:∃aa:Bool,Hid (aa=true↔((0<=t/\t<=4)/\(1<=n/\n<=9)/\2*t+1<=n)):=⟨decide ((0<=t/\t<=4)/\(1<=n/\n<=9)/\2*t+1<=n),by unfold Hid;simp⟩;go_upto_region 4 with fail;go_cut [8] from 16 to 28 (λs8 wx=>s8 = .bool aa/\wx=w1)
  case first=>
   by_cases ht4:t<0\/4<t
   ·have HT:=hid ht4;have HF:Hid (aa=false):=by
     unfold Hid;cases aa with
     | false=>rfl
     | true=>have:=ad.out.1 rfl;omega
    go_wp2_with (first | (go_at_call_of 35 (Value.int .i64 t);refine (rInN _ _ _ _ HT.out).mono ?_;rintro e w' ⟨rfl,hw⟩;have hw:=hw.symm;subst hw))
    all_goals
     go_meet
     case rel=>exact ⟨by rw [HF.out],rfl⟩
   ·have HT:Hid (0<=t/\t<=4):=⟨by omega,by omega⟩;by_cases hn9:n<1\/9<n
    ·have ab:=hid hn9;have HF:Hid (aa=false):=by
      unfold Hid;cases aa with
      | false=>rfl
      | true=>have:=ad.out.1 rfl;omega
     go_wp2_with (first | (go_at_call_of 35 (Value.int .i64 4);refine (rInY _ _ _ _ HT.out.1 HT.out.2).mono ?_;rintro e w' ⟨rfl,hw⟩;have hw:=hw.symm;subst hw) | (go_at_call_of 35 (Value.int .i64 9);refine (rInN _ _ _ _ ab.out).mono ?_;rintro e w' ⟨rfl,hw⟩;have hw:=hw.symm;subst hw))
     all_goals
      go_meet
      case rel=>exact ⟨by rw [HF.out],rfl⟩
    ·have ab:Hid (1<=n/\n<=9):=⟨by omega,by omega⟩;by_cases h2:2*t+1<=n
     ·have HF:Hid (aa=true):=ad.out.2 ⟨HT.out,ab.out,h2⟩;go_wp2_with (first | (go_at_call_of 35 (Value.int .i64 4);refine (rInY _ _ _ _ HT.out.1 HT.out.2).mono ?_;rintro e w' ⟨rfl,hw⟩;have hw:=hw.symm;subst hw) | (go_at_call_of 35 (Value.int .i64 9);refine (rInY _ _ _ _ ab.out.1 ab.out.2).mono ?_;rintro e w' ⟨rfl,hw⟩;have hw:=hw.symm;subst hw))
      all_goals
       go_meet
       case rel=>exact ⟨by rw [HF.out],rfl⟩
     ·have HF:Hid (aa=false):=by
       unfold Hid;cases aa with
       | false=>rfl
       | true=>have:=ad.out.1 rfl;omega
      go_wp2_with (first | (go_at_call_of 35 (Value.int .i64 4);refine (rInY _ _ _ _ HT.out.1 HT.out.2).mono ?_;rintro e w' ⟨rfl,hw⟩;have hw:=hw.symm;subst hw) | (go_at_call_of 35 (Value.int .i64 9);refine (rInY _ _ _ _ ab.out.1 ab.out.2).mono ?_;rintro e w' ⟨rfl,hw⟩;have hw:=hw.symm;subst hw))
      all_goals
       go_meet
       case rel=>exact ⟨by rw [HF.out,decide_eq_false (show ¬ 2*t+1<=n by omega)],rfl⟩
  case rest=>
   obtain ⟨rfl,hw⟩:=hcut;subst hw;go_wp2_with fail;refine (rWhose _ _ _ _ ao m co _ (h.below af) (by omega)).mono ?_;rintro e w2 ⟨v,rfl,an,av⟩;have aw:=btr af av;obtain ⟨a2,c2,rfl,ap⟩:=RdI.own an (whl_bd (λi hi=>(h.bd i hi).2.1) N (Nat.le_refl _));have ak:(whl G N).length=ci G N:=rfl;have ax:=ap.cap;have ay:=ci_le G N;obtain ⟨l,HL⟩:=nmd (ci G N);rw [HL.out] at ap ax ay ak ⊢;have aq:=hid ak;clear an af av ak d0 d1 ar;go_wp2;go_loopw [8,10] (λb q wr=>∃(j:Nat) (ok:Bool),j<=l/\q = .int .i64 j/\b = .bool ok/\Hid (ok=true↔(aa=true/\∀p,p<j->(whl G N).getD p 0<=n))/\wr=w2) (λ_ q _=>l-(intOf q).toNat)
   case atStart=>exact ⟨0,aa,Nat.zero_le _,rfl,rfl,⟨λe=>⟨e,λp hp=>by omega⟩,λe=>e.1⟩,rfl⟩
   case round=>
    obtain ⟨j,ok,hj,rfl,rfl,ah,hw⟩:=hrel;subst hw;by_cases hlt:j<l
    ·obtain ⟨b,o,x,rfl,aA,HX,aB,aC,aD⟩:=ap.one hlt;have aE:(0:Int)<=(j:Int):=by omega
     have al:(j:Int)<(l:Int):=by omega
     cases ok with
     | false=>
      have ai:Hid (false=true↔(aa=true/\∀p,p<j+1->(whl G N).getD p 0<=n)):=⟨λe=>absurd e (by decide),λe=>ah.out.2 ⟨e.1,λp hp=>e.2 p (by omega)⟩⟩;go_wp2;go_roundw
      case rel=>exact ⟨j+1,false,by omega,by go_num,rfl,ai,by trivial⟩
      case measure=>simp [intOf];omega
     | true=>
      by_cases hxn:x<=n
      ·have ai:Hid (true=true↔(aa=true/\∀p,p<j+1->(whl G N).getD p 0<=n)):=by
        refine ⟨λ_=>⟨(ah.out.1 rfl).1,λp hp=>?_⟩,λ_=>rfl⟩
        by_cases e:p=j
        ·rw [e,HX.out];exact hxn
        ·exact (ah.out.1 rfl).2 p (by omega)
       go_wp2;go_roundw
       case rel=>exact ⟨j+1,true,by omega,by go_num,rfl,ai,by trivial⟩
       case measure=>simp [intOf];omega
      ·have ai:Hid (false=true↔(aa=true/\∀p,p<j+1->(whl G N).getD p 0<=n)):=⟨λe=>absurd e (by decide),λe=>absurd (by have:=e.2 j (by omega);rw [HX.out] at this;exact this) hxn⟩;go_wp2;go_roundw
       case rel=>exact ⟨j+1,false,by omega,by go_num,by simp,ai,by trivial⟩
       case measure=>simp [intOf];omega
    ·have al:j=l:=by omega
     have aF:¬ ((j:Int)<(l:Int)):=by omega
     cases ok with
     | true=>
      have HE:Hid (Nde G O N m n t 0):=by
       obtain ⟨e1,e2⟩:=ah.out.1 rfl;obtain ⟨f1,f2,f3⟩:=ad.out.1 e1;exact .inr ⟨HC.out,.inr ⟨⟨f1,f2,f3,whl_le e2 (by rw [aq.out];exact al)⟩,rfl⟩⟩
      subst al;go_wp2;go_ret;exact ⟨0,rfl,HE.out,aw⟩
     | false=>
      have HE:Hid (Nde G O N m n t 1):=by
       refine .inr ⟨HC.out,.inl ⟨λe=>?_,rfl⟩⟩;obtain ⟨f1,f2,f3,f4⟩:=e;have:false=true:=ah.out.2 ⟨ad.out.2 ⟨f1,f2,f3⟩,λp hp=>f4 _ (by
        rw [List.getD_eq_getElem?_getD,List.getElem?_eq_getElem (by rw [aq.out];omega)];exact List.getElem_mem _)⟩
       cases this
      subst al;go_wp2;go_ret;exact ⟨1,rfl,HE.out,aw⟩
 ·have HC:=hid hC;have HR:=hid hr;have az:(r != 0)=true:=by rw [bne_iff_ne];exact hr
  clear hC au hr;go_wp2;go_ret;exact ⟨r,rfl,.inl ⟨HR.out,HC.out⟩,af⟩
theorem dwn_le (G:List Gt) {n t:Nat} (hn:n<=9) (ht:t<=4):∀i,dwn G n t i<=36*i
 | 0=>Nat.le_refl 0
 | i+1=>by
  have:=dwn_le G hn ht i
  have h1:n*t<=9*4:=Nat.mul_le_mul hn ht
  rw [dwn]
  split
  ·omega
  ·split <;> omega
theorem rDraws (ag N cg G) (ao:Option Addr) (m co:Nat) (n t:Nat) (w) (h:RdG w ag N cg G) (hN:N<=30) (hn:n<=9) (ht:t<=4):
  Calls Tryz.prog 81 #[.agg #[.slice ag N cg,.slice ao m co],.int .i64 (n:Int),.int .i64 (t:Int)] w λe w'=>e = .returned (.int .i64 (dwn G n t N:Int))/\Below w.heap.size w w':=by
 have ah:=h.cap;have aa:=CBox.new w ag N cg ao m co;have ab:Below w.heap.size w (w.alloc (.cells #[.slice ag N cg,.slice ao m co] 89)):=bal _ _;go_enter Tryz.func81,Tryz.ntmps81;go_upto_region 1 with fail;generalize w.alloc (.cells #[.slice ag N cg,.slice ao m co] 89)=w0 at *;obtain ⟨d0,d1⟩:=aa.cells;have ai:=aa.lt;have ad:n*t<=36:=Nat.mul_le_mul hn ht;obtain ⟨M,HM⟩:=nmd (n*t);have hM:(n:Int)*(t:Int)=(M:Int):=by rw [<- HM.out];push_cast;rfl
 rw [HM.out] at ad;have aj:IntKind.i64.wrap ((n:Int)*(t:Int))=(M:Int):=by rw [hM,IntKind.wrap_i64];omega
 go_wp2;go_loopw [7,8] (λv q wr=>∃i:Nat,i<=N/\q = .int .i64 i/\v = .int .i64 (dwn G n t i:Int)/\wr=w0) (λ_ q _=>N-(intOf q).toNat)
 case atStart=>exact ⟨0,Nat.zero_le _,rfl,rfl,rfl⟩
 case round=>
  obtain ⟨i,hi,rfl,rfl,hw⟩:=hrel;subst hw;have hd:=dwn_le G hn ht i;obtain ⟨D,HD⟩:=nmd (dwn G n t i);rw [HD.out] at hd ⊢;by_cases hlt:i<N
  ·obtain ⟨b,o,k,x,y,z,rfl,ak,HG,hk,hx,hy,hz,c1,c2,c3,c4⟩:=(h.below ab).one hlt;have al:(0:Int)<=(i:Int):=by omega
   have am:(i:Int)<(N:Int):=by omega
   by_cases hk1:k=1
   ·subst hk1;have HE:Hid (dwn G n t (i+1)=D+t):=by unfold Hid;rw [dwn,HD.out,if_pos (by rw [HG.out])]
    go_wp2;go_roundw
    case rel=>exact ⟨i+1,by omega,by go_num,by rw [HE.out];go_num,by trivial⟩
    case measure=>simp [intOf];omega
   ·have ae:(k==1)=false:=by rw [beq_eq_false_iff_ne];exact hk1
    by_cases hk5:k=5
    ·subst hk5;have HE:Hid (dwn G n t (i+1)=D+M):=by unfold Hid;rw [dwn,HD.out,if_neg (by rw [HG.out];simp),if_pos (by rw [HG.out]),HM.out]
     clear hk1 ae;go_wp2;go_roundw
     case rel=>exact ⟨i+1,by omega,by go_num,by rw [HE.out];go_num,by trivial⟩
     case measure=>simp [intOf];omega
    ·have an:(k==5)=false:=by rw [beq_eq_false_iff_ne];exact hk5
     have HE:Hid (dwn G n t (i+1)=D):=by unfold Hid;rw [dwn,HD.out,if_neg (by rw [HG.out];exact hk1),if_neg (by rw [HG.out];exact hk5)];rfl
     go_wp2;go_roundw
     case rel=>exact ⟨i+1,by omega,by go_num,by rw [HE.out],by trivial⟩
     case measure=>simp [intOf];omega
  ·have af:i=N:=by omega
   subst af;have HE:=hid HD;go_wp2;go_ret;exact ⟨by rw [HE.out];rfl,ab⟩
def cml (G:List Gt):Nat->Nat
 | 0=>0
 | i+1=>cml G i+(if (gt G i).k=5 then 1 else 0)
theorem cml_le (G:List Gt):∀i,cml G i<=i
 | 0=>Nat.le_refl _
 | i+1=>by rw [cml];have:=cml_le G i;split <;> omega
theorem cml_yes {G:List Gt} {i:Nat} (h:(gt G i).k=5):cml G (i+1)=cml G i+1:=by rw [cml,if_pos h]
theorem cml_no {G:List Gt} {i:Nat} (h:(gt G i).k≠5):cml G (i+1)=cml G i:=by rw [cml,if_neg h];rfl
theorem dwn_sum (G:List Gt) (n t:Nat):∀i,dwn G n t i=t*ci G i+n*t*cml G i
 | 0=>by simp [dwn,cml,ci_zero]
 | i+1=>by
  rw [dwn,dwn_sum G n t i]
  by_cases h1:(gt G i).k=1
  ·rw [if_pos h1,ci_in h1,cml_no (by omega),Nat.mul_add,Nat.mul_one];omega
  ·by_cases h5:(gt G i).k=5
   ·rw [if_neg h1,if_pos h5,ci_no h1,cml_yes h5,Nat.mul_add,Nat.mul_one];omega
   ·rw [if_neg h1,if_neg h5,ci_no h1,cml_no h5,Nat.add_zero]
theorem eProducts (ag N cg G w) (h:RdG w ag N cg G) (hN:N<=30):
  Calls Tryz.prog 140 #[.slice ag N cg] w λe w'=>e = .returned (.int .i64 (cml G N:Int))/\Below w.heap.size w w':=by
 have ai:=h.cap;go_enter Tryz.func140,Tryz.ntmps140;go_wp2;go_loopw [3,8] (λc i wr=>∃k:Nat,k<=N/\i = .int .i64 k/\c = .int .i64 (cml G k:Int)/\Below w.heap.size w wr) (λ_ i _=>N-(intOf i).toNat)
 case atStart=>exact ⟨0,Nat.zero_le _,rfl,rfl,Below.refl _ _⟩
 case round=>
  obtain ⟨i,hi,rfl,rfl,aa⟩:=hrel;by_cases hlt:i<N
  ·obtain ⟨b,o,k,x,y,z,rfl,ak,ab,hk,hx,hy,hz,c1,c2,c3,c4⟩:=(h.below aa).one hlt;have ad:Below wr.heap.size wr (wr.alloc (.cells #[.int .i64 k,.int .i64 x,.int .i64 y,.int .u64 z] 138)):=bal _ _;obtain ⟨q1,q2,q3,q4⟩:=gate_box wr k x y z 138;have aj:wr.heap.size<(wr.alloc (.cells #[.int .i64 k,.int .i64 x,.int .i64 y,.int .u64 z] 138)).heap.size:=by simp
   have ae:=btr aa ad;have af:=cml_le G i;obtain ⟨K,HK⟩:=nmd (cml G i);rw [HK.out] at af ⊢;go_upto_region 5 with fail;generalize wr.alloc (.cells #[.int .i64 k,.int .i64 x,.int .i64 y,.int .u64 z] 138)=W at *;clear c1 c2 c3 c4 ad;by_cases h5:k=5
   ·subst h5;have HN:Hid (cml G (i+1)=K+1):=by unfold Hid;rw [cml_yes (by rw [ab.out]),HK.out]
    go_wp2;go_roundw
    case rel=>exact ⟨i+1,by omega,by go_num,by rw [HN.out];rfl,ae⟩
    case measure=>simp [intOf];omega
   ·have HN:Hid (cml G (i+1)=K):=by unfold Hid;rw [cml_no (by rw [ab.out];exact h5),HK.out]
    go_wp2;go_roundw
    case rel=>exact ⟨i+1,by omega,by go_num,by rw [HN.out],ae⟩
    case measure=>simp [intOf];omega
  ·have ah:i=N:=by omega
   subst ah;go_wp2;go_ret;exact ⟨rfl,aa⟩
theorem eNeed (ag N cg G ao m co O) (n t:Int) (w) (h:RdG w ag N cg G) (g:RdI w ao m co O) (hn: -9223372036854775808<=n/\n<=9223372036854775807) (ht: -9223372036854775808<=t/\t<=9223372036854775807) (hS:Shp w):
  Calls Tryz.prog 98 #[.agg #[.slice ag N cg,.slice ao m co],.int .i64 n,.int .i64 t] w (Enn G O N m n t w):=by
 have af:=CBox.new w ag N cg ao m co;have ab:Below w.heap.size w (w.alloc (.cells #[.slice ag N cg,.slice ao m co] 89)):=bal _ _;go_enter Tryz.func98,Tryz.ntmps98;go_wp2_with fail;generalize w.alloc (.cells #[.slice ag N cg,.slice ao m co] 89)=w0 at *;refine (cInputs _ _ _ _ _ _ _ _ _ (h.below ab) (g.below ab) (hS.below ab)).mono ?_;rintro e w1 ⟨⟨r,hr,hE,rfl⟩ | ⟨hE,v,rfl,ho⟩,ad⟩
 ·have aa:=btr ab ad;have HE:Hid (Nde G O N m n t r):=.inl ⟨hr,hE⟩;clear hE ad af ab;go_wp2;go_ret2;exact ⟨.inl ⟨r,hr,HE.out,rfl⟩,aa⟩
 ·have aa:=btr ab ad;have ai:=af.below ad af.lt;obtain ⟨d0,d1⟩:=ai.cells;have aE:=ai.lt;have hN:=hE.ok.1;have HC:=hid hE;obtain ⟨a2,c2,rfl,ah⟩:=RdI.own ho (whl_bd (λi hi=>(h.bd i hi).2.1) N (Nat.le_refl _));have au:=ah.cap;have av:=ah.max;unfold maxLen at av;have aw:=ci_le G N;have ae:(whl G N).length=ci G N:=rfl;obtain ⟨l,HL⟩:=nmd (ci G N);rw [HL.out] at ah au aw ae ⊢;have aj:=hid ae;clear hE ad af ab ho ae ai;by_cases hok:(0<=t/\t<=4)/\2*t+1<=n/\n<=9
  ·obtain ⟨⟨ax,ay⟩,az,aA⟩:=hok;obtain ⟨n,rfl⟩:∃n':Nat,n=n':=⟨n.toNat,by omega⟩;obtain ⟨t,rfl⟩:∃t':Nat,t=t':=⟨t.toNat,by omega⟩;go_wp2;go_loopw [39] (λi wr=>∃k:Nat,k<=l/\i = .int .i64 k/\Hid (∀p,p<k->(whl G N).getD p 0<=(n:Int))/\wr=w1) (λi _=>l-(intOf i).toNat)
   case atStart=>exact ⟨0,Nat.zero_le _,rfl,λp hp=>by omega,rfl⟩
   case round=>
    obtain ⟨j,hj,rfl,HJ,hw⟩:=hrel;subst hw;by_cases hlt:j<l
    ·obtain ⟨b,o,x,rfl,aF,HX,aG,aH,aI⟩:=ah.one hlt;have aJ:(0:Int)<=(j:Int):=by omega
     have al:(j:Int)<(l:Int):=by omega
     by_cases hxn:x<=n
     ·have aB:Hid (∀p,p<j+1->(whl G N).getD p 0<=(n:Int)):=λp hp=>by
       by_cases e:p=j
       ·rw [e,HX.out];exact hxn
       ·exact HJ.out p (by omega)
      go_wp2;go_roundw
      case rel=>exact ⟨j+1,by omega,by go_num,aB,by trivial⟩
      case measure=>simp [intOf];omega
     ·have HE:Hid (Nde G O N m n t 1):=.inr ⟨HC.out,.inl ⟨λe=>by
       have:=whl_not (n:=(n:Int)) (by rw [aj.out];exact hlt) (by rw [HX.out];omega);exact this e.2.2.2,rfl⟩⟩
      go_wp2;go_ret2;exact ⟨.inl ⟨1,by decide,HE.out,rfl⟩,aa⟩
    ·have al:j=l:=by omega
     subst al;have HE:Hid (Nde G O N m n t 0):=.inr ⟨HC.out,.inr ⟨⟨⟨ax,ay⟩,⟨by omega,aA⟩,az,whl_le HJ.out aj.out.symm⟩,rfl⟩⟩;have aq:=cml_le G N;have HS:Hid (dwn G n t N=t*j+n*t*cml G N):=by unfold Hid;rw [dwn_sum,HL.out]
     have aC:N<=30:=hN.2;have ak:t<=4:=by omega
     have ar:n<=9:=by omega
     have h1:t*j<=4*30:=Nat.mul_le_mul ak (by omega);have h2:n*t<=9*4:=Nat.mul_le_mul ar ak;obtain ⟨K,HK⟩:=nmd (cml G N);rw [HK.out] at aq HS;obtain ⟨P1,am⟩:=nmd (t*j);obtain ⟨P2,an⟩:=nmd (n*t);have h3:n*t*K<=36*30:=Nat.mul_le_mul h2 (by omega);rw [an.out] at h2 h3 HS;rw [am.out] at h1 HS;obtain ⟨P3,ap⟩:=nmd (P2*K);rw [ap.out] at h3 HS;have e1:(t:Int)*(j:Int)=(P1:Int):=by rw [<- am.out];push_cast;rfl
     have e2:(n:Int)*(t:Int)=(P2:Int):=by rw [<- an.out];push_cast;rfl
     have e3:(P2:Int)*(K:Int)=(P3:Int):=by rw [<- ap.out];push_cast;rfl
     go_wp2_with (go_at_call 140;refine (eProducts _ _ _ _ _ (h.below aa) aC).mono ?_;rintro e w3 ⟨rfl,aD⟩;rw [HK.out]);go_ret2;refine ⟨.inr ⟨HE.out,?_⟩,btr aa aD⟩
     rw [Int.toNat_natCast,Int.toNat_natCast,HS.out];push_cast;rfl
  ·have HE:Hid (Nde G O N m n t 1):=.inr ⟨HC.out,.inl ⟨λe=>by obtain ⟨f1,f2,f3,_⟩:=e;exact hok ⟨f1,f3,f2.2⟩,rfl⟩⟩;by_cases h1:t<0
   ·clear hok;go_wp2;go_ret2;exact ⟨.inl ⟨1,by decide,HE.out,rfl⟩,aa⟩
   ·by_cases h2:4<t
    ·clear hok;go_wp2;go_ret2;exact ⟨.inl ⟨1,by decide,HE.out,rfl⟩,aa⟩
    ·by_cases h3:n<2*t+1
     ·clear hok;go_wp2;go_ret2;exact ⟨.inl ⟨1,by decide,HE.out,rfl⟩,aa⟩
     ·have h4:9<n:=by omega
      clear hok;go_wp2;go_ret2;exact ⟨.inl ⟨1,by decide,HE.out,rfl⟩,aa⟩
end
end Go.Proofs.YtljlioglpaogdacGreatDoor

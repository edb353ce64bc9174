/- CktP CktC -/
import Derived.Test.YtljlioglpaogdacGreatDoorToGRightC
import Derived.Test.YtljlioglpaogdacGreatDoorToChkC
import Derived.Test.YtljlioglpaogdacGreatDoorToOpenC
namespace Go.Proofs.YtljlioglpaogdacGreatDoor
set_option linter.unusedVariables false
set_option maxRecDepth 100000
set_option maxHeartbeats 8000000
section
open Crm Go.RowKit
theorem cGateRightY (k x y z:Int) (i w) (h:okg i ⟨k,x,y,z⟩) (hk: -9223372036854775808<=k/\k<=9223372036854775807) (hx: -9223372036854775808<=x/\x<=9223372036854775807) (hy: -9223372036854775808<=y/\y<=9223372036854775807) (hz:0<=z/\z<=18446744073709551615) (hS:Shp w):
  Calls Tryz.prog 178 #[.agg #[.int .i64 k,.int .i64 x,.int .i64 y,.int .u64 z],.int .i64 i] w λe w'=>e = .returned (.bool true)/\Below w.heap.size w w':=by
 refine (cGateRight k x y z i w hk hx hy hz hS).mono ?_;rintro e w' ⟨⟨_,rfl⟩ | ⟨h',_⟩,hb⟩
 ·exact ⟨rfl,hb⟩
 ·exact absurd h h'
theorem cGateRightN (k x y z:Int) (i:Nat) (w) (h:¬ okg i ⟨k,x,y,z⟩) (hk: -9223372036854775808<=k/\k<=9223372036854775807) (hx: -9223372036854775808<=x/\x<=9223372036854775807) (hy: -9223372036854775808<=y/\y<=9223372036854775807) (hz:0<=z/\z<=18446744073709551615) (hS:Shp w):
  Calls Tryz.prog 178 #[.agg #[.int .i64 k,.int .i64 x,.int .i64 y,.int .u64 z],.int .i64 i] w λe w'=>e = .returned (.bool false)/\Below w.heap.size w w':=by
 refine (cGateRight k x y z i w hk hx hy hz hS).mono ?_;rintro e w' ⟨⟨h',_⟩ | ⟨_,rfl⟩,hb⟩
 ·exact absurd h' h
 ·exact ⟨rfl,hb⟩
theorem cCheckC (ag n cg G ao m co O w) (h:RdG w ag n cg G) (g:RdI w ao m co O) (hS:Shp w):
  Calls Tryz.prog 139 #[.agg #[.slice ag n cg,.slice ao m co]] w λe w'=>∃r,e = .returned (.int .i64 r)/\Cke G O n m r/\Below w.heap.size w w':=by
 have aD:=h.cap;have aq:=h.max;have aE:=g.cap;have ar:=g.max;unfold maxLen at aq ar;have ah:=CBox.new w ag n cg ao m co;have ad:Below w.heap.size w (w.alloc (.cells #[.slice ag n cg,.slice ao m co] 89)):=bal _ _;obtain ⟨d0,d1⟩:=ah.cells;go_enter Tryz.func139,Tryz.ntmps139;go_upto_region 1 with fail;generalize w.alloc (.cells #[.slice ag n cg,.slice ao m co] 89)=w0 at *;have am:=ah.lt;by_cases hn0:n=0
 ·have HE:Hid (Cke G O n m 1):=.inl ⟨.inl hn0,rfl⟩;have au:((n:Int)==0)=true:=by rw [beq_iff_eq];omega
  clear hn0;go_wp2;go_ret;exact ⟨1,rfl,HE.out,ad⟩
 ·have au:((n:Int)==0)=false:=by rw [beq_eq_false_iff_ne];omega
  by_cases hm0:m=0
  ·have HE:Hid (Cke G O n m 1):=.inl ⟨.inr hm0,rfl⟩;have av:((m:Int)==0)=true:=by rw [beq_iff_eq];omega
   clear hm0 hn0;go_wp2;go_ret;exact ⟨1,rfl,HE.out,ad⟩
  ·have av:((m:Int)==0)=false:=by rw [beq_eq_false_iff_ne];omega
   by_cases hn30:30<n
   ·have HE:Hid (Cke G O n m 2):=.inr ⟨⟨hn0,hm0⟩,.inl ⟨.inl hn30,rfl⟩⟩;clear hm0 hn0;go_wp2;go_ret;exact ⟨2,rfl,HE.out,ad⟩
   ·by_cases hm30:30<m
    ·have HE:Hid (Cke G O n m 2):=.inr ⟨⟨hn0,hm0⟩,.inl ⟨.inr hm30,rfl⟩⟩;clear hm0 hn0;go_wp2;go_ret;exact ⟨2,rfl,HE.out,ad⟩
    ·have an:Hid (¬ (okG G n/\okO O n m)->Cke G O n m 1):=λe=>.inr ⟨⟨hn0,hm0⟩,.inr ⟨⟨by omega,by omega⟩,.inl ⟨e,rfl⟩⟩⟩;have aw:Hid ((okG G n/\okO O n m)->Cke G O n m 0):=λe=>.inr ⟨⟨hn0,hm0⟩,.inr ⟨⟨by omega,by omega⟩,.inr ⟨e,rfl⟩⟩⟩;clear hm0 hn0;go_wp2;go_loopw [30] (λv wr=>∃i:Nat,i<=n/\v = .int .i64 i/\Hid (okG G i)/\CBox wr w.heap.size ag n cg ao m co/\Below w.heap.size w wr) (λv _=>n-(intOf v).toNat)
     case atStart=>exact ⟨0,Nat.zero_le _,rfl,okG_zero G,ah,ad⟩
     case round=>
      clear ah ad d0 d1 am;obtain ⟨i,hi,rfl,HK,hC,aa⟩:=hrel;obtain ⟨d0,d1⟩:=hC.cells;have am:=hC.lt;have ax:=aa.size;by_cases hlt:i<n
      ·obtain ⟨b,o,k,x,y,z,rfl,aH,HG,hk,hx,hy,hz,c1,c2,c3,c4⟩:=(h.below aa).one hlt;have af:Below wr.heap.size wr (wr.alloc (.cells #[.int .i64 k,.int .i64 x,.int .i64 y,.int .u64 z] 138)):=bal _ _;have ab:=aa.trans (af.mono ax);have ai:=hC.below af hC.lt;obtain ⟨q1,q2,q3,q4⟩:=gate_box wr k x y z 138;have aF:wr.heap.size<(wr.alloc (.cells #[.int .i64 k,.int .i64 x,.int .i64 y,.int .u64 z] 138)).heap.size:=by simp
       go_upto_region 8 with fail;generalize wr.alloc (.cells #[.int .i64 k,.int .i64 x,.int .i64 y,.int .u64 z] 138)=W at *;clear c1 c2 c3 c4 af hC aa d0 d1;have aj:=hS.below ab;by_cases hok:okg i ⟨k,x,y,z⟩
       ·have HN:Hid (okG G (i+1)):=okG_succ HK.out (by rw [HG.out];exact hok);have ak:=hid hok;clear hok HG;go_wp2_with (first | (go_at_call 178;refine (cGateRightY _ _ _ _ i _ ak.out hk hx hy hz aj).mono ?_;rintro e w2 ⟨rfl,ae⟩;have ay:=ai.below ae ai.lt;have al:=btr ab ae;clear ai ab aj ae q1 q2 q3 q4));go_roundw
        case rel=>exact ⟨i+1,by omega,by go_num,HN,ay,al⟩
        case measure=>simp [intOf];omega
       ·have HN:Hid (Cke G O n m 1):=an.out λe'=>okG_not hlt (by rw [HG.out];exact hok) e'.1;have ak:=hid hok;clear hok HG;go_wp2_with (first | (go_at_call 178;refine (cGateRightN _ _ _ _ i _ ak.out hk hx hy hz aj).mono ?_;rintro e w2 ⟨rfl,ae⟩;have al:=btr ab ae;clear ai ab aj ae q1 q2 q3 q4));go_ret;exact ⟨1,rfl,HN.out,al⟩
      ·have az:i=n:=by omega
       subst az;go_wp2;obtain ⟨wo,aA⟩:∃x,x=wr:=⟨_,rfl⟩;subst aA;go_loopw [43] (λv wr=>∃j:Nat,j<=m/\v = .int .i64 j/\Hid (okO O i j)/\wr=wo) (λv _=>m-(intOf v).toNat)
       case atStart=>exact ⟨0,Nat.zero_le _,rfl,okO_zero O i,rfl⟩
       case round=>
        obtain ⟨j,hj,rfl,HJ,hw⟩:=hrel;subst hw;by_cases hltj:j<m
        ·obtain ⟨b2,o2,x,rfl,aG,HX,aI,aJ,c5⟩:=(g.below aa).one hltj;by_cases hxr:x<0\/(i:Int)<=x
         ·have aB:=hid hxr;have HN:Hid (Cke G O i m 1):=an.out λe'=>okO_not hltj HX.out hxr e'.2;go_wp2_with (first | (go_at_call 179;refine (cAheadN _ _ _ aB.out).mono ?_;rintro e w' ⟨rfl,hw⟩;have hw:=hw.symm;subst hw));go_ret;exact ⟨1,rfl,HN.out,aa⟩
         ·have ap:Hid (0<=x/\x<(i:Int)):=⟨by omega,by omega⟩;have HN:Hid (okO O i (j+1)):=okO_succ HJ.out HX.out (by omega) (by omega);go_wp2_with (first | (go_at_call 179;refine (cAheadY _ _ _ ap.out.1 ap.out.2).mono ?_;rintro e w' ⟨rfl,hw⟩;have hw:=hw.symm;subst hw));go_roundw
          case rel=>exact ⟨j+1,by omega,by go_num,HN,by trivial⟩
          case measure=>simp [intOf];omega
        ·have aC:j=m:=by omega
         subst aC;have HN:Hid (Cke G O i j 0):=aw.out ⟨HK.out,HJ.out⟩;go_wp2;go_ret;exact ⟨0,rfl,HN.out,aa⟩
theorem cInputs (ag n cg G ao m co O w) (h:RdG w ag n cg G) (g:RdI w ao m co O) (hS:Shp w):
  Calls Tryz.prog 99 #[.agg #[.slice ag n cg,.slice ao m co]] w λe w'=>Cin G O n m w e w':=by
 have aC:=h.cap;have am:=CBox.new w ag n cg ao m co;have ad:Below w.heap.size w (w.alloc (.cells #[.slice ag n cg,.slice ao m co] 89)):=bal _ _;go_enter Tryz.func99,Tryz.ntmps99;go_wp2_with fail;generalize w.alloc (.cells #[.slice ag n cg,.slice ao m co] 89)=w0 at *;refine (cCheckC _ _ _ _ _ _ _ _ _ (h.below ad) (g.below ad) (hS.below ad)).mono ?_;rintro e w1 ⟨r,rfl,hC,ae⟩;have ai:=btr ad ae;have aj:=am.below ae am.lt;clear am ae ad;have au:=hC.bd;by_cases hr:r=0
 ·subst hr;have HC:=hid hC;have hn:=hC.ok.1;have an:=ai.size;obtain ⟨d0,d1⟩:=aj.cells;have aF:=aj.lt;clear hC au;go_wp2;go_loopw [5,16] (λv q wr=>∃i:Nat,i<=n/\q = .int .i64 i/\wr.ownsRow w1.heap.size 3 1 v (ci G i) (zns (whl G i))/\Below w1.heap.size w1 wr) (λ_ q _=>n-(intOf q).toNat)
  case atStart=>exact ⟨0,Nat.zero_le _,rfl,World.ownsRow_nil _ _ _ _,Below.refl _ _⟩
  case round=>
   clear d0 d1;obtain ⟨i,hi,rfl,af,ab⟩:=hrel;have aG:=aj.below ab aj.lt;have ax:=ab.size;by_cases hlt:i<n
   ·obtain ⟨b,o,k,x,y,z,rfl,aH,HG,hk,hx,hy,hz,c1,c2,c3,c4⟩:=(h.below (ai.trans (ab.mono an))).one hlt;have av:=ci_le G i;obtain ⟨N,HN⟩:=nmd (ci G i);have ah:Below wr.heap.size wr (wr.alloc (.cells #[.int .i64 k,.int .i64 x,.int .i64 y,.int .u64 z] 138)):=bal _ _;have ak:=ab.trans (ah.mono ax);obtain ⟨q1,q2,q3,q4⟩:=gate_box wr k x y z 138;have aD:wr.heap.size<(wr.alloc (.cells #[.int .i64 k,.int .i64 x,.int .i64 y,.int .u64 z] 138)).heap.size:=by simp
    have aa:=own_below af ah;go_upto_region 8 with fail;generalize wr.alloc (.cells #[.int .i64 k,.int .i64 x,.int .i64 y,.int .u64 z] 138)=W at *;clear c1 c2 c3 c4 ah ab af;have aw:=ak.size;by_cases hk1:k=1
    ·subst hk1;have hw:=whl_in (G:=G) (k:=i) (x:=x) (by rw [HG.out]) (by rw [HG.out]);have HW:Hid (zns (whl G i) ++ [.int .i64 x]=zns (whl G (i+1))):=by unfold Hid;rw [zns_snoc,hw]
     have ap:Hid (ci G (i+1)=N+1):=by unfold Hid;rw [ci_in (by rw [HG.out]),HN.out]
     rw [HN.out] at aa av;clear hw;go_wp2_with (at_builtin;refine wpList_appV Tryz.underlying63 infoZ rfl (by omega) _ rfl _ _ rfl w1.heap.size _ _ _ rfl aa (.int .i64 x) rfl rfl (by omega) aw ?_;intro v2 w2 al aq _;rw [HW.out] at al;have ay:=ak.grown aq aw (λq hq=>(aa.lt q hq).1);clear aq aa ak);go_roundw
     case rel=>exact ⟨i+1,by omega,by go_num,by rw [ap.out];exact al,ay⟩
     case measure=>simp [intOf];omega
    ·have aI:(k==1)=false:=by rw [beq_eq_false_iff_ne];exact hk1
     have ar:(gt G i).k≠1:=by rw [HG.out];exact hk1
     have HW:Hid (zns (whl G i)=zns (whl G (i+1))):=by unfold Hid;rw [<- whl_no ar]
     have ap:Hid (ci G (i+1)=ci G i):=ci_no ar;rw [HW.out] at aa;clear ar hk1 HN av;go_wp2;go_roundw
     case rel=>exact ⟨i+1,by omega,by go_num,by rw [ap.out];exact aa,ak⟩
     case measure=>simp [intOf];omega
   ·have az:i=n:=by omega
    subst az;have aA:=own_base af an;have aB:=ai.trans (ab.mono an);go_wp2;go_ret2;exact ⟨.inr ⟨HC.out,_,rfl,aA⟩,aB⟩
 ·have HC:=hid hC;have HR:=hid hr;have aE:(r != 0)=true:=by rw [bne_iff_ne];exact hr
  clear hC au hr;go_wp2;go_ret2;exact ⟨.inl ⟨_,HR.out,HC.out,rfl⟩,ai⟩
theorem fil_getD {f:Nat->Int} {n k i:Nat} (hi:i<k) (hk:k<=n):(fil f n k).getD i 0=f i:=by
 have:i<n:=by omega
 simp [fil,this,hi]
theorem getD_drop (xs:List Int) (a b:Nat):(xs.drop a).getD b 0=xs.getD (a+b) 0:=by simp
theorem infoU1c:(Tryz.prog.info? 70).map (·.size)=some 1:=by kernel_rfl
theorem cReckon (ag n cg G ai q ca ins w) (h:RdG w ag n cg G) (ih:Rd w ai q ca ins) (hn1:1<=n) (hn:n<=30) (hG:okG G n) (hq:q=ci G n):
  Calls Tryz.prog 114 #[.slice ag n cg,.slice ai q ca] w λe w'=>∃g,e = .returned (.slice (some ⟨g,0,none⟩) n n)/\w.heap.size<=g/\Blk w' g ((List.range n).map (wi G ins))/\Below w.heap.size w w':=by
 obtain ⟨i0,aP,aQ,aR,aS⟩:=info_parts info70;have aZ:=h.cap;have aO:=hid hG;have a5:=ci_le G n;have HQ:=hid hq;clear hG hq;go_enter Tryz.func114,Tryz.ntmps114;go_wp2_with (at_make;refine wpList_make_full _ rfl _ _ 52 rfl w.heap.size 70 i0 (.int .u64 0) 1 Tryz.underlying52 aP aQ aR .i64 .i64 _ _ n rfl rfl (by omega) (by omega) (by rw [aS];omega) (by unfold maxLen;omega) (Nat.le_refl _) ?_;intro w2 aF aC);have aK:Blk w2 w.heap.size (fil (wi G ins) n 0):=by rw [<- fil_zero];exact Blk.made aF
 have aL:Below w.heap.size w w2:=(Below.refl _ _).grown aC (Nat.le_refl _) (by simp);clear aF aC;go_loopw [1,13] (λu v wr=>∃(i:Nat) (a':Option Addr) (c':Nat),i<=n/\v = .int .i64 i/\u = .slice a' (q-ci G i) c'/\Rd w a' (q-ci G i) c' (ins.drop (ci G i))/\Blk wr w.heap.size (fil (wi G ins) n i)/\Below w.heap.size w wr) (λ_ v _=>n-(intOf v).toNat)
 case atStart=>exact ⟨0,ai,ca,Nat.zero_le _,rfl,by rw [ci_zero];rfl,by rw [ci_zero];simpa using ih,aK,aL⟩
 case round=>
  clear aK aL;obtain ⟨i,a',c',hi,rfl,rfl,hR,au,ax⟩:=hrel;by_cases hlt:i<n
  ·obtain ⟨b,o,k,x,y,z,rfl,a6,HG,hk,hx,hy,hz,c1,c2,c3,c4⟩:=(h.below ax).one hlt;have aT:=ax.size;have az:Below wr.heap.size wr (wr.alloc (.cells #[.int .i64 k,.int .i64 x,.int .i64 y,.int .u64 z] 138)):=bal _ _;have ah:=ax.trans (az.mono aT);obtain ⟨q1,q2,q3,q4⟩:=gate_box wr k x y z 138;have a0:wr.heap.size<(wr.alloc (.cells #[.int .i64 k,.int .i64 x,.int .i64 y,.int .u64 z] 138)).heap.size:=by simp
   have aa:=au.below az au.lt;have aM:=aO.out i hlt;have aj:Hid ((gt G i).k=k):=by unfold Hid;rw [HG.out]
   have aD:Hid ((gt G i).a=x):=by unfold Hid;rw [HG.out]
   have aG:Hid ((gt G i).b=y):=by unfold Hid;rw [HG.out]
   have aN:Hid ((gt G i).n=z):=by unfold Hid;rw [HG.out]
   rw [HG.out] at aM;have a7:w.heap.size≠wr.heap.size:=Nat.ne_of_lt au.lt;go_upto_region 5 with fail;generalize wr.alloc (.cells #[.int .i64 k,.int .i64 x,.int .i64 y,.int .u64 z] 138)=W at *;clear c1 c2 c3 c4 az ax au HG;have aY:=aa.cell (i:=i) (by rw [fil_len];exact hlt);have a8:=aa.frozen i;have a1:=aa.lt;have a2:(0:Int)<=(i:Int):=by omega
   have a3:(i:Int)<(n:Int):=by omega
   rcases aM with ⟨e,_,_,_⟩ | ⟨e,_,_⟩ | ⟨e,aH,_⟩ | ⟨e,aH,aU,_⟩
   ·obtain rfl:k=1:=e;have aV:ci G i<q:=by rw [HQ.out];exact ci_lt hlt aj.out
    have HV:Hid (wi G ins i=nm (ins.getD (ci G i) 0)):=wi_in aj.out;have ad:Hid (ci G (i+1)=ci G i+1):=ci_in aj.out;obtain ⟨N,HN⟩:=nmd (ci G i);rw [HN.out] at hR aV ⊢;obtain ⟨M,hM⟩:∃M,q-N=M+1:=⟨q-N-1,by omega⟩;have HM:Hid (M=q-(N+1)):=by unfold Hid;omega
    rw [hM] at hR ⊢;obtain ⟨b5,o5,u,rfl,a4,HU,a9,ba,aW⟩:=(hR.below ah).one (k:=0) (by omega);rw [Nat.add_zero] at aW;obtain ⟨X,HX⟩:=nmd (subA (some ⟨b5,o5,none⟩) c' 1);have hsl:∀W,(Instr.sliceAt 52 (.slice (some ⟨b5,o5,none⟩) (M+1) c') (some (.int .i64 1)) none none).run Tryz.prog W = .ok (.slice X M (c'-1)) W:=λW=>by
     rw [<- HX.out];exact run_subl Tryz.underlying52 infoU1c (some ⟨b5,o5,none⟩) (M+1) c' 1 rfl (by omega) W
    have bb:=hR.cap;have aE:=hR.sub (lo:=1) (k:=M) (by omega);rw [HX.out] at aE;have ak:Hid (Rd w X (q-(N+1)) (c'-1) (ins.drop (N+1))):=by
     unfold Hid;rw [<- HM.out];have e:((ins.drop N).drop 1).take M=ins.drop (N+1):=by
      rw [List.drop_drop,List.take_of_length_le];have:=hR.len;simp only [List.length_drop] at this ⊢;omega
     rw [e] at aE;exact aE
    have ab:=aa.set i (nm u);rw [fil_set (by rw [HV.out,<- HU.out,getD_drop,HN.out];rfl)] at ab;have al:=hid ab;have am:Hid (Below w.heap.size w (W.setCell ⟨w.heap.size,i,none⟩ (.int .u64 (nm u)))):=ah.setCell (Nat.le_refl _) _;have HE:Hid (Value.slice X M (c'-1) = .slice X (q-(N+1)) (c'-1)):=by unfold Hid;rw [<- HM.out]
    clear aa ab aE ah hM hR;go_wp2;go_region_with (go_at_call 143;refine (fNorm _ _ (by omega) (by omega)).mono ?_;rintro e w' ⟨rfl,rfl⟩)
    all_goals
     go_wp2;go_roundw
     case rel=>
      refine ⟨i+1,X,c'-1,by omega,by go_num,?_,?_,al.out,am.out.drew⟩
      ·rw [ad.out,HN.out];exact HE.out
      ·rw [ad.out,HN.out];exact ak.out
     case measure=>simp [intOf];omega
   ·obtain rfl:k=2:=e;have hv:=wi_const (ins:=ins) aj.out;rw [aN.out] at hv;have HV:=hid hv;have ad:Hid (ci G (i+1)=ci G i):=ci_no (by rw [aj.out];omega);have ab:=aa.set i (nm z);rw [fil_set (by rw [HV.out])] at ab;have al:=hid ab;have am:Hid (Below w.heap.size w (W.setCell ⟨w.heap.size,i,none⟩ (.int .u64 (nm z)))):=ah.setCell (Nat.le_refl _) _;have ak:=hid hR;clear aa ab ah hR hv;go_wp2_with (go_at_call 143;refine (fNorm _ _ (by omega) (by omega)).mono ?_;rintro e w' ⟨rfl,hw⟩;have hw:=hw.symm;subst hw);go_roundw
    case rel=>exact ⟨i+1,a',c',by omega,by go_num,by rw [ad.out],by rw [ad.out];exact ak.out,al.out,am.out⟩
    case measure=>simp [intOf];omega
   ·obtain rfl:k=6:=e;simp only at aH;obtain ⟨pa,rfl⟩:∃p:Nat,x=p:=⟨x.toNat,by omega⟩;have an:pa<i:=by omega
    have aA:(0:Int)<=(pa:Int):=by omega
    have aB:(pa:Int)<(n:Int):=by omega
    have ae:=aa.cell (i:=pa) (by rw [fil_len];omega);rw [fil_getD an (by omega)] at ae;have ar:=wi_bd G ins pa;obtain ⟨ao,af⟩:=nmd (wi G ins pa);rw [af.out] at ae ar;have hv:=wi_scale (ins:=ins) aj.out aD.out an;rw [aN.out] at hv;rw [af.out] at hv;have HV:=hid hv;have ad:Hid (ci G (i+1)=ci G i):=ci_no (by rw [aj.out];omega);have ab:=aa.set i (nm (ao*z));rw [fil_set (by rw [HV.out])] at ab;have al:=hid ab;have am:Hid (Below w.heap.size w (W.setCell ⟨w.heap.size,i,none⟩ (.int .u64 (nm (ao*z))))):=ah.setCell (Nat.le_refl _) _;have ak:=hid hR;clear aa ab ah hR hv;go_wp2;go_region_with (go_at_call 149;refine (fMul _ _ _ (by omega) (by omega) (by omega) (by omega)).mono ?_;rintro e w' ⟨rfl,rfl⟩)
    all_goals
     go_wp2;go_roundw
     case rel=>exact ⟨i+1,a',c',by omega,by go_num,by rw [ad.out],by rw [ad.out];exact ak.out,al.out,am.out.drew⟩
     case measure=>simp [intOf];omega
   ·simp only at aH aU;rcases e with e | e | e
    ·obtain rfl:k=3:=e;obtain ⟨pa,rfl⟩:∃p:Nat,x=p:=⟨x.toNat,by omega⟩;have an:pa<i:=by omega
     have aA:(0:Int)<=(pa:Int):=by omega
     have aB:(pa:Int)<(n:Int):=by omega
     have ae:=aa.cell (i:=pa) (by rw [fil_len];omega);rw [fil_getD an (by omega)] at ae;have ar:=wi_bd G ins pa;obtain ⟨ao,af⟩:=nmd (wi G ins pa);rw [af.out] at ae ar;obtain ⟨pb,rfl⟩:∃p:Nat,y=p:=⟨y.toNat,by omega⟩;have av:pb<i:=by omega
     have aI:(0:Int)<=(pb:Int):=by omega
     have aJ:(pb:Int)<(n:Int):=by omega
     have ap:=aa.cell (i:=pb) (by rw [fil_len];omega);rw [fil_getD av (by omega)] at ap;have ay:=wi_bd G ins pb;obtain ⟨aw,aq⟩:=nmd (wi G ins pb);rw [aq.out] at ap ay;have hv:=wi_add (ins:=ins) aj.out aD.out an aG.out av;rw [af.out] at hv;rw [aq.out] at hv;have HV:=hid hv;have ad:Hid (ci G (i+1)=ci G i):=ci_no (by rw [aj.out];omega);have ab:=aa.set i (nm (ao+aw));rw [fil_set (by rw [HV.out])] at ab;have al:=hid ab;have am:Hid (Below w.heap.size w (W.setCell ⟨w.heap.size,i,none⟩ (.int .u64 (nm (ao+aw))))):=ah.setCell (Nat.le_refl _) _;have ak:=hid hR;clear aa ab ah hR hv;go_wp2;go_region_with (go_at_call 148;refine (fAdd _ _ _ (by omega) (by omega) (by omega) (by omega)).mono ?_;rintro e w' ⟨rfl,rfl⟩)
     all_goals
      go_wp2;go_roundw
      case rel=>exact ⟨i+1,a',c',by omega,by go_num,by rw [ad.out],by rw [ad.out];exact ak.out,al.out,am.out.drew⟩
      case measure=>simp [intOf];omega
    ·obtain rfl:k=4:=e;obtain ⟨pa,rfl⟩:∃p:Nat,x=p:=⟨x.toNat,by omega⟩;have an:pa<i:=by omega
     have aA:(0:Int)<=(pa:Int):=by omega
     have aB:(pa:Int)<(n:Int):=by omega
     have ae:=aa.cell (i:=pa) (by rw [fil_len];omega);rw [fil_getD an (by omega)] at ae;have ar:=wi_bd G ins pa;obtain ⟨ao,af⟩:=nmd (wi G ins pa);rw [af.out] at ae ar;obtain ⟨pb,rfl⟩:∃p:Nat,y=p:=⟨y.toNat,by omega⟩;have av:pb<i:=by omega
     have aI:(0:Int)<=(pb:Int):=by omega
     have aJ:(pb:Int)<(n:Int):=by omega
     have ap:=aa.cell (i:=pb) (by rw [fil_len];omega);rw [fil_getD av (by omega)] at ap;have ay:=wi_bd G ins pb;obtain ⟨aw,aq⟩:=nmd (wi G ins pb);rw [aq.out] at ap ay;have hv:=wi_sub (ins:=ins) aj.out aD.out an aG.out av;rw [af.out] at hv;rw [aq.out] at hv;have HV:=hid hv;have ad:Hid (ci G (i+1)=ci G i):=ci_no (by rw [aj.out];omega);have ab:=aa.set i (nm (ao-aw));rw [fil_set (by rw [HV.out])] at ab;have al:=hid ab;have am:Hid (Below w.heap.size w (W.setCell ⟨w.heap.size,i,none⟩ (.int .u64 (nm (ao-aw))))):=ah.setCell (Nat.le_refl _) _;have ak:=hid hR;clear aa ab ah hR hv;go_wp2;go_region_with (go_at_call 158;refine (fSub _ _ _ (by omega) (by omega) (by omega) (by omega)).mono ?_;rintro e w' ⟨rfl,rfl⟩)
     all_goals
      go_wp2;go_roundw
      case rel=>exact ⟨i+1,a',c',by omega,by go_num,by rw [ad.out],by rw [ad.out];exact ak.out,al.out,am.out.drew⟩
      case measure=>simp [intOf];omega
    ·obtain rfl:k=5:=e;obtain ⟨pa,rfl⟩:∃p:Nat,x=p:=⟨x.toNat,by omega⟩;have an:pa<i:=by omega
     have aA:(0:Int)<=(pa:Int):=by omega
     have aB:(pa:Int)<(n:Int):=by omega
     have ae:=aa.cell (i:=pa) (by rw [fil_len];omega);rw [fil_getD an (by omega)] at ae;have ar:=wi_bd G ins pa;obtain ⟨ao,af⟩:=nmd (wi G ins pa);rw [af.out] at ae ar;obtain ⟨pb,rfl⟩:∃p:Nat,y=p:=⟨y.toNat,by omega⟩;have av:pb<i:=by omega
     have aI:(0:Int)<=(pb:Int):=by omega
     have aJ:(pb:Int)<(n:Int):=by omega
     have ap:=aa.cell (i:=pb) (by rw [fil_len];omega);rw [fil_getD av (by omega)] at ap;have ay:=wi_bd G ins pb;obtain ⟨aw,aq⟩:=nmd (wi G ins pb);rw [aq.out] at ap ay;have hv:=wi_mul (ins:=ins) aj.out aD.out an aG.out av;rw [af.out] at hv;rw [aq.out] at hv;have HV:=hid hv;have ad:Hid (ci G (i+1)=ci G i):=ci_no (by rw [aj.out];omega);have ab:=aa.set i (nm (ao*aw));rw [fil_set (by rw [HV.out])] at ab;have al:=hid ab;have am:Hid (Below w.heap.size w (W.setCell ⟨w.heap.size,i,none⟩ (.int .u64 (nm (ao*aw))))):=ah.setCell (Nat.le_refl _) _;have ak:=hid hR;clear aa ab ah hR hv;go_wp2;go_region_with (go_at_call 149;refine (fMul _ _ _ (by omega) (by omega) (by omega) (by omega)).mono ?_;rintro e w' ⟨rfl,rfl⟩)
     all_goals
      go_wp2;go_roundw
      case rel=>exact ⟨i+1,a',c',by omega,by go_num,by rw [ad.out],by rw [ad.out];exact ak.out,al.out,am.out.drew⟩
      case measure=>simp [intOf];omega
  ·have aX:i=n:=by omega
   subst aX;rw [fil_full] at au;go_wp2;go_ret;exact ⟨_,rfl,Nat.le_refl _,au,ax⟩
theorem cRun (ag n cg G ao m co O ai q ca ins w) (h:RdG w ag n cg G) (g:RdI w ao m co O) (ih:Rd w ai q ca ins) (hS:Shp w):
  Calls Tryz.prog 69 #[.agg #[.slice ag n cg,.slice ao m co],.slice ai q ca] w λe w'=>Crn G O ins n m q w e w':=by
 obtain ⟨i0,aH,aI,aJ,aK⟩:=info_parts info70;have aX:=ih.cap;have aF:=ih.max;have aY:=g.cap;unfold maxLen at aF;have aq:=CBox.new w ag n cg ao m co;have af:Below w.heap.size w (w.alloc (.cells #[.slice ag n cg,.slice ao m co] 89)):=bal _ _;go_enter Tryz.func69,Tryz.ntmps69;go_wp2_with fail;generalize w.alloc (.cells #[.slice ag n cg,.slice ao m co] 89)=w0 at *;refine (cInputs _ _ _ _ _ _ _ _ _ (h.below af) (g.below af) (hS.below af)).mono ?_;rintro e w1 ⟨aL,aj⟩;have ab:=btr af aj;have ah:=aq.below aj aq.lt;clear aq aj;rcases aL with ⟨r,hr,hC,rfl⟩ | ⟨hC,v,rfl,aa⟩
 ·have HC:=hid hC;have HR:=hid hr;have a5:=hC.bd;have aZ:(r != 0)=true:=by rw [bne_iff_ne];exact hr
  clear hC hr;go_wp2;go_ret2;exact ⟨.inl ⟨_,HR.out,.inl ⟨HR.out,HC.out⟩,rfl⟩,ab⟩
 ·have HC:=hid hC;have hn:=hC.ok.1;have hm:=hC.ok.2.1;have aM:=hid hC.ok.2.2.1;have HO:=hid hC.ok.2.2.2;obtain ⟨d0,d1⟩:=ah.cells;have a6:=ah.lt;have aN:=ab.size;obtain ⟨a2,c2,rfl,aw⟩:=RdI.own aa (whl_bd (λi hi=>(h.bd i hi).2.1) n (Nat.le_refl _));have aO:=aw.cap;obtain ⟨l,HL⟩:=nmd (ci G n);have aP:=ci_le G n;rw [HL.out] at aO aP ⊢;clear aa aw hC;by_cases hq:q=l
  ·have HQ:Hid (q=ci G n):=by unfold Hid;rw [HL.out];exact hq
   subst hq;go_wp2_with fail;refine (cReckon _ _ _ _ _ _ _ _ _ (h.below ab) (ih.below ab) hn.1 hn.2 aM.out HQ.out).mono ?_;rintro e w2 ⟨g2,rfl,a7,ak,al⟩;have ax:=ab.trans (al.mono aN);have ar:=ah.below al ah.lt;obtain ⟨f0,f1⟩:=ar.cells;have aQ:=ar.lt;have au:=ax.size;clear al ah d0 d1;go_wp2_with (at_make;refine wpList_make_full _ rfl _ _ 52 rfl w2.heap.size 70 i0 (.int .u64 0) 1 Tryz.underlying52 aH aI aJ .i64 .i64 _ _ m rfl rfl (by omega) (by omega) (by rw [aK];omega) (by unfold maxLen;omega) (Nat.le_refl _) ?_;intro w3 aa an;have ay:Blk w3 w2.heap.size (fil (λj=>wi G ins (O.getD j 0).toNat) m 0):=(by rw [<- fil_zero];exact Blk.made aa);have ad:Below w2.heap.size w2 w3:=(Below.refl _ _).grown an (Nat.le_refl _) (by simp);have az:=ax.trans (ad.mono au);have av:=ar.below ad aQ;obtain ⟨e0,e1⟩:=av.cells;have aR:=av.lt;have ap:=ak.below ad ak.lt;have aG:=ak.lt;clear aa an ad f0 f1);go_loopw [36] (λv wr=>∃j:Nat,j<=m/\v = .int .i64 j/\Blk wr w2.heap.size (fil (λj=>wi G ins (O.getD j 0).toNat) m j)/\Blk wr g2 ((List.range n).map (wi G ins))/\Below w.heap.size w wr) (λv _=>m-(intOf v).toNat)
   case atStart=>exact ⟨0,Nat.zero_le _,rfl,ay,ap,az⟩
   case round=>
    clear ay ap az e0 e1 aR av;obtain ⟨j,hj,rfl,hB,hK,ae⟩:=hrel;by_cases hlt:j<m
    ·obtain ⟨b5,o5,u,rfl,a0,HU,a8,a9,ba⟩:=(g.below ae).one hlt;have aA:=HO.out j hlt;rw [HU.out] at aA;obtain ⟨p,rfl⟩:∃p:Nat,u=p:=⟨u.toNat,by omega⟩;have aB:p<n:=by omega
     have bb:(0:Int)<=(p:Int):=by omega
     have a1:(p:Int)<(n:Int):=by omega
     have bc:(0:Int)<=(j:Int):=by omega
     have aC:(j:Int)<(m:Int):=by omega
     have aD:=hK.cell (i:=p) (by simp;exact aB);have aE:((List.range n).map (wi G ins)).getD p 0=wi G ins p:=by simp [aB]
     rw [aE] at aD;obtain ⟨x,HX⟩:=nmd (wi G ins p);rw [HX.out] at aD;have aW:=hB.cell (i:=j) (by rw [fil_len];exact hlt);have be:=hB.frozen j;have a3:=hB.lt;have a4:=hK.lt;have am:=hB.set j x;rw [fil_set (by show x=wi G ins (O.getD j 0).toNat;rw [HU.out,Int.toNat_natCast,HX.out])] at am;have aS:g2≠w2.heap.size:=Nat.ne_of_lt aG;have aT:=hid am;have aU:Hid (Blk _ _ _):=hK.grown (grown_set wr w2.heap.size j (.int .u64 x)) (λe=>aS (Option.some.inj e));have aV:Hid (Below w.heap.size w (wr.setCell ⟨w2.heap.size,j,none⟩ (.int .u64 x))):=ae.setCell au _;clear hB hK am ae aE aA;go_wp2;go_roundw
     case rel=>exact ⟨j+1,by omega,by go_num,aT.out,aU.out,aV.out⟩
     case measure=>simp [intOf];omega
    ·have aC:j=m:=by omega
     subst aC;rw [fil_full] at hB;have ho:wr.ownsRow w.heap.size 70 1 (.slice (some ⟨w2.heap.size,0,none⟩) j j) j ((otl G O ins j).map (Value.int .u64)):=⟨by simp [otl],.inr ⟨w2.heap.size,j,_,rfl,au,hB,Nat.le_refl _,by unfold maxLen;omega,by simp,by rw [List.take_of_length_le (by simp)];rfl⟩⟩;go_wp2;go_ret2;exact ⟨.inr ⟨.inr ⟨HC.out,.inr ⟨HQ.out,rfl⟩⟩,_,rfl,ho⟩,ae⟩
  ·have HQ:Hid (q≠ci G n):=by unfold Hid;rw [HL.out];exact hq
   go_wp2;go_ret2;exact ⟨.inl ⟨5,by decide,.inr ⟨HC.out,.inl ⟨HQ.out,rfl⟩⟩,rfl⟩,ab⟩
end
end Go.Proofs.YtljlioglpaogdacGreatDoor

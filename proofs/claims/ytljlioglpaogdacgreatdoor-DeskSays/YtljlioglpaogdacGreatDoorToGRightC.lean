/- CircC WhoseC GRightC -/
import Derived.Test.YtljlioglpaogdacGreatDoorToShpM
import Derived.Test.YtljlioglpaogdacGreatDoorToWireC
import Derived.Deep.RegionWith
import Derived.Deep.DeepCutAuto
namespace Go.Proofs.YtljlioglpaogdacGreatDoor
set_option linter.unusedVariables false
set_option maxRecDepth 100000
set_option maxHeartbeats 8000000
section
open Crm Go.RowKit
theorem gate_box (w:World) (k x y z:Int) (E:TypeId):(w.alloc (.cells #[.int .i64 k,.int .i64 x,.int .i64 y,.int .u64 z] E)).cell? ⟨w.heap.size,0,none⟩=some (.int .i64 k)/\(w.alloc (.cells #[.int .i64 k,.int .i64 x,.int .i64 y,.int .u64 z] E)).cell? ⟨w.heap.size,1,none⟩=some (.int .i64 x)/\(w.alloc (.cells #[.int .i64 k,.int .i64 x,.int .i64 y,.int .u64 z] E)).cell? ⟨w.heap.size,2,none⟩=some (.int .i64 y)/\(w.alloc (.cells #[.int .i64 k,.int .i64 x,.int .i64 y,.int .u64 z] E)).cell? ⟨w.heap.size,3,none⟩=some (.int .u64 z):=by
 have h:=heap_alloc_new w (.cells #[.int .i64 k,.int .i64 x,.int .i64 y,.int .u64 z] E);refine ⟨?_,?_,?_,?_⟩ <;> (rw [cell_of_row _ _ _ _ E (0,0) h];rfl)
def CBox (w:World) (g:Nat) (ag:Option Addr) (n cg:Nat) (ao:Option Addr) (m co:Nat):Prop:=w.heap[g]? = some (.cells #[.slice ag n cg,.slice ao m co] 89 (0,0))
theorem CBox.lt {w g ag n cg ao m co} (h:CBox w g ag n cg ao m co):g<w.heap.size:=(Array.getElem?_eq_some_iff.1 h).1
theorem CBox.cells {w g ag n cg ao m co} (h:CBox w g ag n cg ao m co):w.cell? ⟨g,0,none⟩=some (.slice ag n cg)/\w.cell? ⟨g,1,none⟩=some (.slice ao m co):=by
 unfold CBox at h;rw [cell_of_row w g 0 _ _ (0,0) h,cell_of_row w g 1 _ _ (0,0) h];exact ⟨rfl,rfl⟩
theorem CBox.below {w w' B g ag n cg ao m co} (h:CBox w g ag n cg ao m co) (hb:Below B w w') (hg:g<B):CBox w' g ag n cg ao m co:=by
 unfold CBox;rw [hb.block g hg];exact h
theorem CBox.new (w:World) (ag:Option Addr) (n cg:Nat) (ao:Option Addr) (m co:Nat):CBox (w.alloc (.cells #[.slice ag n cg,.slice ao m co] 89)) w.heap.size ag n cg ao m co:=heap_alloc_new w _
theorem rCircuit (ag n cg G ao m co O w) (h:RdG w ag n cg G) (g:RdI w ao m co O):
  Calls Tryz.prog 120 #[.agg #[.slice ag n cg,.slice ao m co]] w λe w'=>∃r,e = .returned (.int .i64 r)/\Cke G O n m r/\Below w.heap.size w w':=by
 have aN:=h.cap;have aC:=h.max;have aO:=g.cap;have aD:=g.max;unfold maxLen at aC aD;have ar:=CBox.new w ag n cg ao m co;have ak:Below w.heap.size w (w.alloc (.cells #[.slice ag n cg,.slice ao m co] 89)):=bal _ _;obtain ⟨d0,d1⟩:=ar.cells;go_enter Tryz.func120,Tryz.ntmps120;go_upto_region 1 with fail;generalize w.alloc (.cells #[.slice ag n cg,.slice ao m co] 89)=w0 at *;have au:=ar.lt;by_cases hn0:n=0
 ·have HE:Hid (Cke G O n m 1):=.inl ⟨.inl hn0,rfl⟩;have aG:((n:Int)==0)=true:=by rw [beq_iff_eq];omega
  clear hn0;go_wp2;go_ret;exact ⟨1,rfl,HE.out,ak⟩
 ·have aG:((n:Int)==0)=false:=by rw [beq_eq_false_iff_ne];omega
  by_cases hm0:m=0
  ·have HE:Hid (Cke G O n m 1):=.inl ⟨.inr hm0,rfl⟩;have aH:((m:Int)==0)=true:=by rw [beq_iff_eq];omega
   clear hm0 hn0;go_wp2;go_ret;exact ⟨1,rfl,HE.out,ak⟩
  ·have aH:((m:Int)==0)=false:=by rw [beq_eq_false_iff_ne];omega
   by_cases hn30:30<n
   ·have HE:Hid (Cke G O n m 2):=.inr ⟨⟨hn0,hm0⟩,.inl ⟨.inl hn30,rfl⟩⟩;clear hm0 hn0;go_wp2;go_ret;exact ⟨2,rfl,HE.out,ak⟩
   ·by_cases hm30:30<m
    ·have HE:Hid (Cke G O n m 2):=.inr ⟨⟨hn0,hm0⟩,.inl ⟨.inr hm30,rfl⟩⟩;clear hm0 hn0;go_wp2;go_ret;exact ⟨2,rfl,HE.out,ak⟩
    ·have ay:Hid (¬ (okG G n/\okO O n m)->Cke G O n m 1):=λe=>.inr ⟨⟨hn0,hm0⟩,.inr ⟨⟨by omega,by omega⟩,.inl ⟨e,rfl⟩⟩⟩;have aI:Hid ((okG G n/\okO O n m)->Cke G O n m 0):=λe=>.inr ⟨⟨hn0,hm0⟩,.inr ⟨⟨by omega,by omega⟩,.inr ⟨e,rfl⟩⟩⟩;clear hm0 hn0;go_wp2;go_loopw [3] (λv wr=>∃i:Nat,i<=n/\v = .int .i64 i/\Hid (okG G i)/\CBox wr w.heap.size ag n cg ao m co/\Below w.heap.size w wr) (λv _=>n-(intOf v).toNat)
     case atStart=>exact ⟨0,Nat.zero_le _,rfl,okG_zero G,ar,ak⟩
     case round=>
      clear ar ak d0 d1 au;obtain ⟨i,hi,rfl,HK,hC,ah⟩:=hrel;obtain ⟨d0,d1⟩:=hC.cells;have au:=hC.lt;have az:=ah.size;by_cases hlt:i<n
      ·obtain ⟨b,o,k,x,y,z,rfl,aJ,HG,hk,hx,hy,hz,c1,c2,c3,c4⟩:=(h.below ah).one hlt;have ap:Below wr.heap.size wr (wr.alloc (.cells #[.int .i64 k,.int .i64 x,.int .i64 y,.int .u64 z] 138)):=bal _ _;have ad:=ah.trans (ap.mono az);have al:=hC.below ap hC.lt;obtain ⟨q1,q2,q3,q4⟩:=gate_box wr k x y z 138;have aP:wr.heap.size<(wr.alloc (.cells #[.int .i64 k,.int .i64 x,.int .i64 y,.int .u64 z] 138)).heap.size:=by simp
       go_upto_region 9 with fail;generalize wr.alloc (.cells #[.int .i64 k,.int .i64 x,.int .i64 y,.int .u64 z] 138)=W at *;clear c1 c2 c3 c4 ap hC ah d0 d1;have ab:Hid (¬ okg i ⟨k,x,y,z⟩->Cke G O n m 1):=λe=>ay.out λe'=>okG_not hlt (by rw [HG.out];exact e) e'.1;have ae:Hid (okg i ⟨k,x,y,z⟩->okG G (i+1)):=λe=>okG_succ HK.out (by rw [HG.out];exact e);by_cases hk1:k=1
       ·subst hk1;by_cases hxr:x<1\/9<x
        ·have ai:=hid hxr;have HN:Hid (Cke G O n m 1):=ab.out (by unfold okg;simp only;omega);go_wp2_with (first | (go_at_call_of 35 (Value.int .i64 x);refine (rInN _ _ _ _ ai.out).mono ?_;rintro e w' ⟨rfl,hw⟩;have hw:=hw.symm;subst hw));go_ret;exact ⟨1,rfl,HN.out,ad⟩
        ·have aa:Hid (1<=x/\x<=9):=⟨by omega,by omega⟩;by_cases hy0:y=0
         ·subst hy0;by_cases hz0:z=0
          ·subst hz0;have HN:Hid (okG G (i+1)):=ae.out (.inl ⟨rfl,aa.out,rfl,rfl⟩);clear ab ae HG;go_wp2_with (first | (go_at_call_of 35 (Value.int .i64 x);refine (rInY _ _ _ _ aa.out.1 aa.out.2).mono ?_;rintro e w' ⟨rfl,hw⟩;have hw:=hw.symm;subst hw));go_roundw
           case rel=>exact ⟨i+1,by omega,by go_num,HN,al,ad⟩
           case measure=>simp [intOf];omega
          ·have av:(z==0)=false:=by rw [beq_eq_false_iff_ne];exact hz0
           have HN:Hid (Cke G O n m 1):=ab.out (by unfold okg;simp only;omega);go_wp2_with (first | (go_at_call_of 35 (Value.int .i64 x);refine (rInY _ _ _ _ aa.out.1 aa.out.2).mono ?_;rintro e w' ⟨rfl,hw⟩;have hw:=hw.symm;subst hw));go_ret;exact ⟨1,rfl,HN.out,ad⟩
         ·have aA:(y==0)=false:=by rw [beq_eq_false_iff_ne];exact hy0
          have HN:Hid (Cke G O n m 1):=ab.out (by unfold okg;simp only;omega);go_wp2_with (first | (go_at_call_of 35 (Value.int .i64 x);refine (rInY _ _ _ _ aa.out.1 aa.out.2).mono ?_;rintro e w' ⟨rfl,hw⟩;have hw:=hw.symm;subst hw));go_ret;exact ⟨1,rfl,HN.out,ad⟩
       ·have aj:(k==1)=false:=by rw [beq_eq_false_iff_ne];exact hk1
        by_cases hk2:k=2
        ·subst hk2;clear hk1 aj;by_cases aw:x=0
         ·subst aw;by_cases hy0:y=0
          ·subst hy0;have HN:Hid (okG G (i+1)):=ae.out (.inr (.inl ⟨rfl,rfl,rfl⟩));clear ab ae HG;go_wp2;go_roundw
           case rel=>exact ⟨i+1,by omega,by go_num,HN,al,ad⟩
           case measure=>simp [intOf];omega
          ·have aA:(y==0)=false:=by rw [beq_eq_false_iff_ne];exact hy0
           have HN:Hid (Cke G O n m 1):=ab.out (by unfold okg;simp only;omega);go_wp2;go_ret;exact ⟨1,rfl,HN.out,ad⟩
         ·have aS:(x==0)=false:=by rw [beq_eq_false_iff_ne];exact aw
          have HN:Hid (Cke G O n m 1):=ab.out (by unfold okg;simp only;omega);go_wp2;go_ret;exact ⟨1,rfl,HN.out,ad⟩
        ·have am:(k==2)=false:=by rw [beq_eq_false_iff_ne];exact hk2
         by_cases hk6:k=6
         ·subst hk6;clear hk1 aj hk2 am;by_cases hxr:x<0\/(i:Int)-1<x
          ·have ai:=hid hxr;have HN:Hid (Cke G O n m 1):=ab.out (by unfold okg;simp only;omega);go_wp2_with (first | (go_at_call_of 35 (Value.int .i64 x);refine (rInN _ _ _ _ ai.out).mono ?_;rintro e w' ⟨rfl,hw⟩;have hw:=hw.symm;subst hw));go_ret;exact ⟨1,rfl,HN.out,ad⟩
          ·have aa:Hid (0<=x/\x<=(i:Int)-1):=⟨by omega,by omega⟩;by_cases hy0:y=0
           ·subst hy0;have HN:Hid (okG G (i+1)):=ae.out (.inr (.inr (.inl ⟨rfl,⟨aa.out.1,by have:=aa.out.2;simp only;omega⟩,rfl⟩)));clear ab ae HG;go_wp2_with (first | (go_at_call_of 35 (Value.int .i64 x);refine (rInY _ _ _ _ aa.out.1 aa.out.2).mono ?_;rintro e w' ⟨rfl,hw⟩;have hw:=hw.symm;subst hw));go_roundw
            case rel=>exact ⟨i+1,by omega,by go_num,HN,al,ad⟩
            case measure=>simp [intOf];omega
           ·have aA:(y==0)=false:=by rw [beq_eq_false_iff_ne];exact hy0
            have HN:Hid (Cke G O n m 1):=ab.out (by unfold okg;simp only;omega);go_wp2_with (first | (go_at_call_of 35 (Value.int .i64 x);refine (rInY _ _ _ _ aa.out.1 aa.out.2).mono ?_;rintro e w' ⟨rfl,hw⟩;have hw:=hw.symm;subst hw));go_ret;exact ⟨1,rfl,HN.out,ad⟩
         ·have aq:(k==6)=false:=by rw [beq_eq_false_iff_ne];exact hk6
          by_cases hk3:k=3
          ·subst hk3;clear hk1 aj hk2 am hk6 aq;by_cases hxr:x<0\/(i:Int)-1<x
           ·have ai:=hid hxr;have HN:Hid (Cke G O n m 1):=ab.out (by unfold okg;simp only;omega);go_wp2_with (first | (go_at_call_of 35 (Value.int .i64 x);refine (rInN _ _ _ _ ai.out).mono ?_;rintro e w' ⟨rfl,hw⟩;have hw:=hw.symm;subst hw));go_ret;exact ⟨1,rfl,HN.out,ad⟩
           ·have aa:Hid (0<=x/\x<=(i:Int)-1):=⟨by omega,by omega⟩;by_cases hyr:y<0\/(i:Int)-1<y
            ·have an:=hid hyr;have HN:Hid (Cke G O n m 1):=ab.out (by unfold okg;simp only;omega);go_wp2_with (first | (go_at_call_of 35 (Value.int .i64 x);refine (rInY _ _ _ _ aa.out.1 aa.out.2).mono ?_;rintro e w' ⟨rfl,hw⟩;have hw:=hw.symm;subst hw) | (go_at_call_of 35 (Value.int .i64 y);refine (rInN _ _ _ _ an.out).mono ?_;rintro e w' ⟨rfl,hw⟩;have hw:=hw.symm;subst hw));go_ret;exact ⟨1,rfl,HN.out,ad⟩
            ·have af:Hid (0<=y/\y<=(i:Int)-1):=⟨by omega,by omega⟩;by_cases hz0:z=0
             ·subst hz0;have HN:Hid (okG G (i+1)):=ae.out (.inr (.inr (.inr ⟨.inl rfl,⟨aa.out.1,by have:=aa.out.2;simp only;omega⟩,⟨af.out.1,by have:=af.out.2;simp only;omega⟩,rfl⟩)));clear ab ae HG;go_wp2_with (first | (go_at_call_of 35 (Value.int .i64 x);refine (rInY _ _ _ _ aa.out.1 aa.out.2).mono ?_;rintro e w' ⟨rfl,hw⟩;have hw:=hw.symm;subst hw) | (go_at_call_of 35 (Value.int .i64 y);refine (rInY _ _ _ _ af.out.1 af.out.2).mono ?_;rintro e w' ⟨rfl,hw⟩;have hw:=hw.symm;subst hw));go_roundw
              case rel=>exact ⟨i+1,by omega,by go_num,HN,al,ad⟩
              case measure=>simp [intOf];omega
             ·have av:(z==0)=false:=by rw [beq_eq_false_iff_ne];exact hz0
              have HN:Hid (Cke G O n m 1):=ab.out (by unfold okg;simp only;omega);go_wp2_with (first | (go_at_call_of 35 (Value.int .i64 x);refine (rInY _ _ _ _ aa.out.1 aa.out.2).mono ?_;rintro e w' ⟨rfl,hw⟩;have hw:=hw.symm;subst hw) | (go_at_call_of 35 (Value.int .i64 y);refine (rInY _ _ _ _ af.out.1 af.out.2).mono ?_;rintro e w' ⟨rfl,hw⟩;have hw:=hw.symm;subst hw));go_ret;exact ⟨1,rfl,HN.out,ad⟩
          ·have ax:(k==3)=false:=by rw [beq_eq_false_iff_ne];exact hk3
           by_cases hk4:k=4
           ·subst hk4;clear hk1 aj hk2 am hk6 aq hk3 ax;by_cases hxr:x<0\/(i:Int)-1<x
            ·have ai:=hid hxr;have HN:Hid (Cke G O n m 1):=ab.out (by unfold okg;simp only;omega);go_wp2_with (first | (go_at_call_of 35 (Value.int .i64 x);refine (rInN _ _ _ _ ai.out).mono ?_;rintro e w' ⟨rfl,hw⟩;have hw:=hw.symm;subst hw));go_ret;exact ⟨1,rfl,HN.out,ad⟩
            ·have aa:Hid (0<=x/\x<=(i:Int)-1):=⟨by omega,by omega⟩;by_cases hyr:y<0\/(i:Int)-1<y
             ·have an:=hid hyr;have HN:Hid (Cke G O n m 1):=ab.out (by unfold okg;simp only;omega);go_wp2_with (first | (go_at_call_of 35 (Value.int .i64 x);refine (rInY _ _ _ _ aa.out.1 aa.out.2).mono ?_;rintro e w' ⟨rfl,hw⟩;have hw:=hw.symm;subst hw) | (go_at_call_of 35 (Value.int .i64 y);refine (rInN _ _ _ _ an.out).mono ?_;rintro e w' ⟨rfl,hw⟩;have hw:=hw.symm;subst hw));go_ret;exact ⟨1,rfl,HN.out,ad⟩
             ·have af:Hid (0<=y/\y<=(i:Int)-1):=⟨by omega,by omega⟩;by_cases hz0:z=0
              ·subst hz0;have HN:Hid (okG G (i+1)):=ae.out (.inr (.inr (.inr ⟨.inr (.inl rfl),⟨aa.out.1,by have:=aa.out.2;simp only;omega⟩,⟨af.out.1,by have:=af.out.2;simp only;omega⟩,rfl⟩)));clear ab ae HG;go_wp2_with (first | (go_at_call_of 35 (Value.int .i64 x);refine (rInY _ _ _ _ aa.out.1 aa.out.2).mono ?_;rintro e w' ⟨rfl,hw⟩;have hw:=hw.symm;subst hw) | (go_at_call_of 35 (Value.int .i64 y);refine (rInY _ _ _ _ af.out.1 af.out.2).mono ?_;rintro e w' ⟨rfl,hw⟩;have hw:=hw.symm;subst hw));go_roundw
               case rel=>exact ⟨i+1,by omega,by go_num,HN,al,ad⟩
               case measure=>simp [intOf];omega
              ·have av:(z==0)=false:=by rw [beq_eq_false_iff_ne];exact hz0
               have HN:Hid (Cke G O n m 1):=ab.out (by unfold okg;simp only;omega);go_wp2_with (first | (go_at_call_of 35 (Value.int .i64 x);refine (rInY _ _ _ _ aa.out.1 aa.out.2).mono ?_;rintro e w' ⟨rfl,hw⟩;have hw:=hw.symm;subst hw) | (go_at_call_of 35 (Value.int .i64 y);refine (rInY _ _ _ _ af.out.1 af.out.2).mono ?_;rintro e w' ⟨rfl,hw⟩;have hw:=hw.symm;subst hw));go_ret;exact ⟨1,rfl,HN.out,ad⟩
           ·have aE:(k==4)=false:=by rw [beq_eq_false_iff_ne];exact hk4
            by_cases hk5:k=5
            ·subst hk5;clear hk1 aj hk2 am hk6 aq hk3 ax hk4 aE;by_cases hxr:x<0\/(i:Int)-1<x
             ·have ai:=hid hxr;have HN:Hid (Cke G O n m 1):=ab.out (by unfold okg;simp only;omega);go_wp2_with (first | (go_at_call_of 35 (Value.int .i64 x);refine (rInN _ _ _ _ ai.out).mono ?_;rintro e w' ⟨rfl,hw⟩;have hw:=hw.symm;subst hw));go_ret;exact ⟨1,rfl,HN.out,ad⟩
             ·have aa:Hid (0<=x/\x<=(i:Int)-1):=⟨by omega,by omega⟩;by_cases hyr:y<0\/(i:Int)-1<y
              ·have an:=hid hyr;have HN:Hid (Cke G O n m 1):=ab.out (by unfold okg;simp only;omega);go_wp2_with (first | (go_at_call_of 35 (Value.int .i64 x);refine (rInY _ _ _ _ aa.out.1 aa.out.2).mono ?_;rintro e w' ⟨rfl,hw⟩;have hw:=hw.symm;subst hw) | (go_at_call_of 35 (Value.int .i64 y);refine (rInN _ _ _ _ an.out).mono ?_;rintro e w' ⟨rfl,hw⟩;have hw:=hw.symm;subst hw));go_ret;exact ⟨1,rfl,HN.out,ad⟩
              ·have af:Hid (0<=y/\y<=(i:Int)-1):=⟨by omega,by omega⟩;by_cases hz0:z=0
               ·subst hz0;have HN:Hid (okG G (i+1)):=ae.out (.inr (.inr (.inr ⟨.inr (.inr rfl),⟨aa.out.1,by have:=aa.out.2;simp only;omega⟩,⟨af.out.1,by have:=af.out.2;simp only;omega⟩,rfl⟩)));clear ab ae HG;go_wp2_with (first | (go_at_call_of 35 (Value.int .i64 x);refine (rInY _ _ _ _ aa.out.1 aa.out.2).mono ?_;rintro e w' ⟨rfl,hw⟩;have hw:=hw.symm;subst hw) | (go_at_call_of 35 (Value.int .i64 y);refine (rInY _ _ _ _ af.out.1 af.out.2).mono ?_;rintro e w' ⟨rfl,hw⟩;have hw:=hw.symm;subst hw));go_roundw
                case rel=>exact ⟨i+1,by omega,by go_num,HN,al,ad⟩
                case measure=>simp [intOf];omega
               ·have av:(z==0)=false:=by rw [beq_eq_false_iff_ne];exact hz0
                have HN:Hid (Cke G O n m 1):=ab.out (by unfold okg;simp only;omega);go_wp2_with (first | (go_at_call_of 35 (Value.int .i64 x);refine (rInY _ _ _ _ aa.out.1 aa.out.2).mono ?_;rintro e w' ⟨rfl,hw⟩;have hw:=hw.symm;subst hw) | (go_at_call_of 35 (Value.int .i64 y);refine (rInY _ _ _ _ af.out.1 af.out.2).mono ?_;rintro e w' ⟨rfl,hw⟩;have hw:=hw.symm;subst hw));go_ret;exact ⟨1,rfl,HN.out,ad⟩
            ·have aQ:(k==5)=false:=by rw [beq_eq_false_iff_ne];exact hk5
             have HN:Hid (Cke G O n m 1):=ab.out (by unfold okg;simp only;omega);go_wp2;go_ret;exact ⟨1,rfl,HN.out,ad⟩
      ·have aK:i=n:=by omega
       subst aK;go_wp2;go_loopw [6] (λv wr=>∃j:Nat,j<=m/\v = .int .i64 j/\Hid (okO O i j)/\CBox wr w.heap.size ag i cg ao m co/\Below w.heap.size w wr) (λv _=>m-(intOf v).toNat)
       case atStart=>exact ⟨0,Nat.zero_le _,rfl,okO_zero O i,hC,ah⟩
       case round=>
        clear hC ah d0 d1 au az;obtain ⟨j,hj,rfl,HO,hC,ah⟩:=hrel;obtain ⟨d0,d1⟩:=hC.cells;have au:=hC.lt;by_cases hjm:j<m
        ·obtain ⟨b,o,x,rfl,aJ,HX,aw,aT,aU⟩:=(g.below ah).one hjm;have aV:(0:Int)<=(j:Int):=by omega
         have aR:(j:Int)<(m:Int):=by omega
         by_cases hxr:x<0\/(i:Int)-1<x
         ·have aL:=hid hxr;have HN:Hid (Cke G O i m 1):=ay.out λe=>okO_not hjm HX.out (by omega) e.2;clear hxr;go_wp2_with fail;go_quiet ((go_at_call 35;exact Calls.quiet_of_same (rInN _ _ _ _ aL.out)))
          all_goals
           go_wp2;go_ret;exact ⟨1,rfl,HN.out,drewN_below ah _⟩
         ·have aB:Hid (0<=x/\x<=(i:Int)-1):=⟨by omega,by omega⟩;have aM:Hid (okO O i (j+1)):=okO_succ HO.out HX.out (by omega) (by omega);clear hxr;go_wp2_with fail;go_quiet ((go_at_call 35;exact Calls.quiet_of_same (rInY _ _ _ _ aB.out.1 aB.out.2)))
          all_goals
           go_wp2;go_roundw
           case rel=>exact ⟨j+1,by omega,by go_num,aM,hC,drewN_below ah _⟩
           case measure=>simp [intOf];omega
        ·have aF:j=m:=by omega
         subst aF;have HN:Hid (Cke G O i j 0):=aI.out ⟨HK.out,HO.out⟩;go_wp2;go_ret;exact ⟨0,rfl,HN.out,ah⟩
theorem whl_in {G:List Gt} {k:Nat} {x:Int} (h:(gt G k).k=1) (hx:(gt G k).a=x):whl G k ++ [x]=whl G (k+1):=by rw [whl,if_pos h,hx]
theorem whl_no {G:List Gt} {k:Nat} (h:(gt G k).k≠1):whl G k=whl G (k+1):=by rw [whl,if_neg h]
theorem whl_bd {G:List Gt} {n:Nat} (h:∀i,i<n->-9223372036854775808<=(gt G i).a/\(gt G i).a<=9223372036854775807):∀k,k<=n->∀x ∈ whl G k,-9223372036854775808<=x/\x<=9223372036854775807
 | 0,_,x,hx=>by simp [whl] at hx
 | k+1,hk,x,hx=>by
  rw [whl] at hx
  split at hx
  ·rcases List.mem_append.1 hx with e | e
   ·exact whl_bd h k (by omega) x e
   ·rw [List.mem_singleton.1 e];exact h k (by omega)
  ·exact whl_bd h k (by omega) x hx
theorem rWhose (ag n cg G) (ao:Option Addr) (m co:Nat) (w) (h:RdG w ag n cg G) (hn:n<=1000):
  Calls Tryz.prog 80 #[.agg #[.slice ag n cg,.slice ao m co]] w λe w'=>∃v,e = .returned v/\w'.ownsRow w.heap.size 3 1 v (ci G n) (zns (whl G n))/\Below w.heap.size w w':=by
 have aq:=h.cap;have af:=CBox.new w ag n cg ao m co;have ad:Below w.heap.size w (w.alloc (.cells #[.slice ag n cg,.slice ao m co] 89)):=bal _ _;go_enter Tryz.func80,Tryz.ntmps80;go_upto_region 1 with fail;generalize w.alloc (.cells #[.slice ag n cg,.slice ao m co] 89)=w0 at *;have ar:=af.lt;go_wp2;go_loopw [3,4] (λv q wr=>∃i:Nat,i<=n/\q = .int .i64 i/\wr.ownsRow w0.heap.size 3 1 v (ci G i) (zns (whl G i))/\Below w0.heap.size w0 wr) (λ_ q _=>n-(intOf q).toNat)
 case atStart=>exact ⟨0,Nat.zero_le _,rfl,World.ownsRow_nil _ _ _ _,Below.refl _ _⟩
 case round=>
  obtain ⟨i,hi,rfl,aa,ab⟩:=hrel;have hC:=af.below ab af.lt;obtain ⟨d0,d1⟩:=hC.cells;have au:=hC.lt;have aj:=ab.size;by_cases hlt:i<n
  ·obtain ⟨b,o,k,x,y,z,rfl,av,HG,hk,hx,hy,hz,c1,c2,c3,c4⟩:=(h.below (btr ad ab)).one hlt;have ak:=ci_le G i;obtain ⟨N,HN⟩:=nmd (ci G i);by_cases hk1:k=1
   ·subst hk1;have hw:=whl_in (G:=G) (k:=i) (x:=x) (by rw [HG.out]) (by rw [HG.out]);have HW:Hid (zns (whl G i) ++ [.int .i64 x]=zns (whl G (i+1))):=by unfold Hid;rw [zns_snoc,hw]
    have HC:Hid (ci G (i+1)=N+1):=by unfold Hid;rw [ci_in (by rw [HG.out]),HN.out]
    rw [HN.out] at aa ak;clear hw;go_wp2_with (at_builtin;refine wpList_appV Tryz.underlying63 infoZ rfl (by omega) _ rfl _ _ rfl w0.heap.size _ _ _ rfl aa (.int .i64 x) rfl rfl (by omega) aj ?_;intro v2 w2 ae ah _;rw [HW.out] at ae;have al:=ab.grown ah aj (λq hq=>(aa.lt q hq).1);clear ah aa ab);go_roundw
    case rel=>exact ⟨i+1,by omega,by go_num,by rw [HC.out];exact ae,al⟩
    case measure=>simp [intOf];omega
   ·have aw:(k==1)=false:=by rw [beq_eq_false_iff_ne];exact hk1
    have ai:(gt G i).k≠1:=by rw [HG.out];exact hk1
    have HW:Hid (zns (whl G i)=zns (whl G (i+1))):=by unfold Hid;rw [<- whl_no ai]
    have HC:Hid (ci G (i+1)=ci G i):=ci_no ai;rw [HW.out] at aa;clear ai hk1 HN ak;go_wp2;go_roundw
    case rel=>exact ⟨i+1,by omega,by go_num,by rw [HC.out];exact aa,ab⟩
    case measure=>simp [intOf];omega
  ·have am:i=n:=by omega
   subst am;have an:=own_base aa ad.size;have ap:=btr ad ab;go_wp2;go_ret;exact ⟨_,rfl,an,ap⟩
theorem cAheadY (x c:Int) (w) (h0:0<=x) (h1:x<c):Calls Tryz.prog 179 #[.int .i64 x,.int .i64 c] w λe w'=>e = .returned (.bool true)/\w'=w:=by
 go_enter Tryz.func179,Tryz.ntmps179;go_wp2;go_ret;exact ⟨rfl,rfl⟩
theorem cAheadN (x c:Int) (w) (h:x<0\/c<=x):Calls Tryz.prog 179 #[.int .i64 x,.int .i64 c] w λe w'=>e = .returned (.bool false)/\w'=w:=by
 by_cases h0:x<0
 ·go_enter Tryz.func179,Tryz.ntmps179;go_wp2;go_ret;exact ⟨rfl,rfl⟩
 ·have h1:¬ x<c:=by omega
  have h2:0<=x:=by omega
  clear h h0;go_enter Tryz.func179,Tryz.ntmps179;go_wp2;go_ret;exact ⟨rfl,rfl⟩
theorem shape_box (w:World) (s:ByteArray) (a b n:Bool) (E:TypeId):(w.alloc (.cells #[.string s,.bool a,.bool b,.bool n] E)).cell? ⟨w.heap.size,0,none⟩=some (.string s)/\(w.alloc (.cells #[.string s,.bool a,.bool b,.bool n] E)).cell? ⟨w.heap.size,1,none⟩=some (.bool a)/\(w.alloc (.cells #[.string s,.bool a,.bool b,.bool n] E)).cell? ⟨w.heap.size,2,none⟩=some (.bool b)/\(w.alloc (.cells #[.string s,.bool a,.bool b,.bool n] E)).cell? ⟨w.heap.size,3,none⟩=some (.bool n):=by
 have h:=heap_alloc_new w (.cells #[.string s,.bool a,.bool b,.bool n] E);refine ⟨?_,?_,?_,?_⟩ <;> (rw [cell_of_row _ _ _ _ E (0,0) h];rfl)
def Gri (i:Nat) (g:Gt) (w:World) (e:Ending) (w':World):Prop:=((okg i g/\e = .returned (.bool true))\/(¬ okg i g/\e = .returned (.bool false)))/\Below w.heap.size w w'
theorem Gri.y {i g} {w:World} {w'} (h:okg i g) (hb:Below w.heap.size w w'):Gri i g w (.returned (.bool true)) w':=⟨.inl ⟨h,rfl⟩,hb⟩
theorem Gri.n {i:Nat} {g:Gt} {w:World} {w'} (h:¬ okg i g) (hb:Below w.heap.size w w'):Gri i g w (.returned (.bool false)) w':=⟨.inr ⟨h,rfl⟩,hb⟩
theorem cGateRight (k x y z:Int) (i:Nat) (w) (hk: -9223372036854775808<=k/\k<=9223372036854775807) (hx: -9223372036854775808<=x/\x<=9223372036854775807) (hy: -9223372036854775808<=y/\y<=9223372036854775807) (hz:0<=z/\z<=18446744073709551615) (hS:Shp w):
  Calls Tryz.prog 178 #[.agg #[.int .i64 k,.int .i64 x,.int .i64 y,.int .u64 z],.int .i64 i] w λe w'=>Gri i ⟨k,x,y,z⟩ w e w':=by
 have ae:Below w.heap.size w (w.alloc (.cells #[.int .i64 k,.int .i64 x,.int .i64 y,.int .u64 z] 138)):=bal _ _;obtain ⟨q1,q2,q3,q4⟩:=gate_box w k x y z 138;have ab:w.heap.size<(w.alloc (.cells #[.int .i64 k,.int .i64 x,.int .i64 y,.int .u64 z] 138)).heap.size:=by simp
 go_enter Tryz.func178,Tryz.ntmps178;go_upto_region 1 with fail;generalize w.alloc (.cells #[.int .i64 k,.int .i64 x,.int .i64 y,.int .u64 z] 138)=W at *;have af:=hS.below ae;clear hS;by_cases hk1:k<1
 ·have HN:Hid (¬ okg i ⟨k,x,y,z⟩):=by unfold Hid okg;simp only;omega
  go_wp2;go_ret;exact Gri.n HN.out ae
 by_cases hk6:6<k
 ·have HN:Hid (¬ okg i ⟨k,x,y,z⟩):=by unfold Hid okg;simp only;omega
  go_wp2;go_ret;exact Gri.n HN.out ae
 have am:k=1\/k=2\/k=3\/k=4\/k=5\/k=6:=by omega
 clear hk1 hk6;rcases am with rfl | rfl | rfl | rfl | rfl | rfl
 ·obtain ⟨s0,s1,s2,s3⟩:=af.at1;have slt:=af.lt;have aa:Below W.heap.size W (W.alloc (.cells #[.string ⟨#[105,110,112,117,116]⟩,.bool true,.bool false,.bool false] 224)):=bal _ _;have ad:=btr ae aa;obtain ⟨t0,t1,t2,t3⟩:=shape_box W ⟨#[105,110,112,117,116]⟩ true false false 224;have ag:W.heap.size<(W.alloc (.cells #[.string ⟨#[105,110,112,117,116]⟩,.bool true,.bool false,.bool false] 224)).heap.size:=by simp
  have r1:(W.alloc (.cells #[.string ⟨#[105,110,112,117,116]⟩,.bool true,.bool false,.bool false] 224)).cell? ⟨w.heap.size,0,none⟩=some (.int .i64 1):=by rw [aa.cell (p:=⟨w.heap.size,0,none⟩) ab];exact q1
  have r2:(W.alloc (.cells #[.string ⟨#[105,110,112,117,116]⟩,.bool true,.bool false,.bool false] 224)).cell? ⟨w.heap.size,1,none⟩=some (.int .i64 x):=by rw [aa.cell (p:=⟨w.heap.size,1,none⟩) ab];exact q2
  have r3:(W.alloc (.cells #[.string ⟨#[105,110,112,117,116]⟩,.bool true,.bool false,.bool false] 224)).cell? ⟨w.heap.size,2,none⟩=some (.int .i64 y):=by rw [aa.cell (p:=⟨w.heap.size,2,none⟩) ab];exact q3
  have r4:(W.alloc (.cells #[.string ⟨#[105,110,112,117,116]⟩,.bool true,.bool false,.bool false] 224)).cell? ⟨w.heap.size,3,none⟩=some (.int .u64 z):=by rw [aa.cell (p:=⟨w.heap.size,3,none⟩) ab];exact q4
  have ah:=Nat.lt_trans ab ag;go_upto_region 4 with fail;generalize W.alloc (.cells #[.string ⟨#[105,110,112,117,116]⟩,.bool true,.bool false,.bool false] 224)=V at *;clear s0 s1 s2 s3 q1 q2 q3 q4 aa ae af;by_cases hy0:y=0
  ·subst hy0;by_cases hz0:z=0
   ·subst hz0;by_cases hx1:x<1
    ·have HN:Hid (¬ okg i ⟨1,x,0,0⟩):=by unfold Hid okg;simp only;omega
     go_wp2;go_ret;exact Gri.n HN.out ad
    ·by_cases hx9:9<x
     ·have an:¬ x<=9:=by omega
      clear hx9;have HN:Hid (¬ okg i ⟨1,x,0,0⟩):=by unfold Hid okg;simp only;omega
      go_wp2;go_ret;exact Gri.n HN.out ad
     ·have HY:Hid (okg i ⟨1,x,0,0⟩):=.inl ⟨rfl,⟨by simp only;omega,by simp only;omega⟩,rfl,rfl⟩;go_wp2;go_ret;exact Gri.y HY.out ad
   ·have ai:(z==0)=false:=by rw [beq_eq_false_iff_ne];exact hz0
    have aj:(z != 0)=true:=by rw [bne_iff_ne];exact hz0
    have HN:Hid (¬ okg i ⟨1,x,0,z⟩):=by unfold Hid okg;simp only;omega
    go_wp2;go_ret;exact Gri.n HN.out ad
  ·have ak:(y==0)=false:=by rw [beq_eq_false_iff_ne];exact hy0
   have al:(y != 0)=true:=by rw [bne_iff_ne];exact hy0
   have HN:Hid (¬ okg i ⟨1,x,y,z⟩):=by unfold Hid okg;simp only;omega
   go_wp2;go_ret;exact Gri.n HN.out ad
 ·obtain ⟨s0,s1,s2,s3⟩:=af.at2;have slt:=af.lt;have aa:Below W.heap.size W (W.alloc (.cells #[.string ⟨#[99,111,110,115,116]⟩,.bool false,.bool false,.bool true] 224)):=bal _ _;have ad:=btr ae aa;obtain ⟨t0,t1,t2,t3⟩:=shape_box W ⟨#[99,111,110,115,116]⟩ false false true 224;have ag:W.heap.size<(W.alloc (.cells #[.string ⟨#[99,111,110,115,116]⟩,.bool false,.bool false,.bool true] 224)).heap.size:=by simp
  have r1:(W.alloc (.cells #[.string ⟨#[99,111,110,115,116]⟩,.bool false,.bool false,.bool true] 224)).cell? ⟨w.heap.size,0,none⟩=some (.int .i64 2):=by rw [aa.cell (p:=⟨w.heap.size,0,none⟩) ab];exact q1
  have r2:(W.alloc (.cells #[.string ⟨#[99,111,110,115,116]⟩,.bool false,.bool false,.bool true] 224)).cell? ⟨w.heap.size,1,none⟩=some (.int .i64 x):=by rw [aa.cell (p:=⟨w.heap.size,1,none⟩) ab];exact q2
  have r3:(W.alloc (.cells #[.string ⟨#[99,111,110,115,116]⟩,.bool false,.bool false,.bool true] 224)).cell? ⟨w.heap.size,2,none⟩=some (.int .i64 y):=by rw [aa.cell (p:=⟨w.heap.size,2,none⟩) ab];exact q3
  have r4:(W.alloc (.cells #[.string ⟨#[99,111,110,115,116]⟩,.bool false,.bool false,.bool true] 224)).cell? ⟨w.heap.size,3,none⟩=some (.int .u64 z):=by rw [aa.cell (p:=⟨w.heap.size,3,none⟩) ab];exact q4
  have ah:=Nat.lt_trans ab ag;go_upto_region 4 with fail;generalize W.alloc (.cells #[.string ⟨#[99,111,110,115,116]⟩,.bool false,.bool false,.bool true] 224)=V at *;clear s0 s1 s2 s3 q1 q2 q3 q4 aa ae af;by_cases hx0:x=0
  ·subst hx0;by_cases hy0:y=0
   ·subst hy0;have HY:Hid (okg i ⟨2,0,0,z⟩):=.inr (.inl ⟨rfl,rfl,rfl⟩);go_wp2;go_ret;exact Gri.y HY.out ad
   ·have ak:(y==0)=false:=by rw [beq_eq_false_iff_ne];exact hy0
    have al:(y != 0)=true:=by rw [bne_iff_ne];exact hy0
    have HN:Hid (¬ okg i ⟨2,0,y,z⟩):=by unfold Hid okg;simp only;omega
    go_wp2;go_ret;exact Gri.n HN.out ad
  ·have ao:(x==0)=false:=by rw [beq_eq_false_iff_ne];exact hx0
   have ap:(x != 0)=true:=by rw [bne_iff_ne];exact hx0
   have HN:Hid (¬ okg i ⟨2,x,y,z⟩):=by unfold Hid okg;simp only;omega
   go_wp2;go_ret;exact Gri.n HN.out ad
 ·obtain ⟨s0,s1,s2,s3⟩:=af.at3;have slt:=af.lt;have aa:Below W.heap.size W (W.alloc (.cells #[.string ⟨#[97,100,100]⟩,.bool true,.bool true,.bool false] 224)):=bal _ _;have ad:=btr ae aa;obtain ⟨t0,t1,t2,t3⟩:=shape_box W ⟨#[97,100,100]⟩ true true false 224;have ag:W.heap.size<(W.alloc (.cells #[.string ⟨#[97,100,100]⟩,.bool true,.bool true,.bool false] 224)).heap.size:=by simp
  have r1:(W.alloc (.cells #[.string ⟨#[97,100,100]⟩,.bool true,.bool true,.bool false] 224)).cell? ⟨w.heap.size,0,none⟩=some (.int .i64 3):=by rw [aa.cell (p:=⟨w.heap.size,0,none⟩) ab];exact q1
  have r2:(W.alloc (.cells #[.string ⟨#[97,100,100]⟩,.bool true,.bool true,.bool false] 224)).cell? ⟨w.heap.size,1,none⟩=some (.int .i64 x):=by rw [aa.cell (p:=⟨w.heap.size,1,none⟩) ab];exact q2
  have r3:(W.alloc (.cells #[.string ⟨#[97,100,100]⟩,.bool true,.bool true,.bool false] 224)).cell? ⟨w.heap.size,2,none⟩=some (.int .i64 y):=by rw [aa.cell (p:=⟨w.heap.size,2,none⟩) ab];exact q3
  have r4:(W.alloc (.cells #[.string ⟨#[97,100,100]⟩,.bool true,.bool true,.bool false] 224)).cell? ⟨w.heap.size,3,none⟩=some (.int .u64 z):=by rw [aa.cell (p:=⟨w.heap.size,3,none⟩) ab];exact q4
  have ah:=Nat.lt_trans ab ag;go_upto_region 4 with fail;generalize W.alloc (.cells #[.string ⟨#[97,100,100]⟩,.bool true,.bool true,.bool false] 224)=V at *;clear s0 s1 s2 s3 q1 q2 q3 q4 aa ae af;by_cases hz0:z=0
  ·subst hz0;by_cases hxr:x<0\/(i:Int)<=x
   ·have Hx:=hid hxr;have HN:Hid (¬ okg i ⟨3,x,y,0⟩):=by unfold Hid okg;simp only;omega
    go_wp2_with (first | (go_at_call_of 179 (Value.int .i64 x);refine (cAheadN _ _ _ Hx.out).mono ?_;rintro e w' ⟨rfl,hw⟩;have hw:=hw.symm;subst hw));go_ret;exact Gri.n HN.out ad
   ·have Hx:Hid (0<=x/\x<(i:Int)):=⟨by omega,by omega⟩;by_cases hyr:y<0\/(i:Int)<=y
    ·have Hy:=hid hyr;have HN:Hid (¬ okg i ⟨3,x,y,0⟩):=by unfold Hid okg;simp only;omega
     go_wp2_with (first | (go_at_call_of 179 (Value.int .i64 x);refine (cAheadY _ _ _ Hx.out.1 Hx.out.2).mono ?_;rintro e w' ⟨rfl,hw⟩;have hw:=hw.symm;subst hw) | (go_at_call_of 179 (Value.int .i64 y);refine (cAheadN _ _ _ Hy.out).mono ?_;rintro e w' ⟨rfl,hw⟩;have hw:=hw.symm;subst hw));go_ret;exact Gri.n HN.out ad
    ·have Hy:Hid (0<=y/\y<(i:Int)):=⟨by omega,by omega⟩;have HY:Hid (okg i ⟨3,x,y,0⟩):=.inr (.inr (.inr ⟨.inl rfl,Hx.out,Hy.out,rfl⟩));go_wp2_with (first | (go_at_call_of 179 (Value.int .i64 x);refine (cAheadY _ _ _ Hx.out.1 Hx.out.2).mono ?_;rintro e w' ⟨rfl,hw⟩;have hw:=hw.symm;subst hw) | (go_at_call_of 179 (Value.int .i64 y);refine (cAheadY _ _ _ Hy.out.1 Hy.out.2).mono ?_;rintro e w' ⟨rfl,hw⟩;have hw:=hw.symm;subst hw));go_ret;exact Gri.y HY.out ad
  ·have ai:(z==0)=false:=by rw [beq_eq_false_iff_ne];exact hz0
   have aj:(z != 0)=true:=by rw [bne_iff_ne];exact hz0
   have HN:Hid (¬ okg i ⟨3,x,y,z⟩):=by unfold Hid okg;simp only;omega
   go_wp2;go_ret;exact Gri.n HN.out ad
 ·obtain ⟨s0,s1,s2,s3⟩:=af.at4;have slt:=af.lt;have aa:Below W.heap.size W (W.alloc (.cells #[.string ⟨#[115,117,98]⟩,.bool true,.bool true,.bool false] 224)):=bal _ _;have ad:=btr ae aa;obtain ⟨t0,t1,t2,t3⟩:=shape_box W ⟨#[115,117,98]⟩ true true false 224;have ag:W.heap.size<(W.alloc (.cells #[.string ⟨#[115,117,98]⟩,.bool true,.bool true,.bool false] 224)).heap.size:=by simp
  have r1:(W.alloc (.cells #[.string ⟨#[115,117,98]⟩,.bool true,.bool true,.bool false] 224)).cell? ⟨w.heap.size,0,none⟩=some (.int .i64 4):=by rw [aa.cell (p:=⟨w.heap.size,0,none⟩) ab];exact q1
  have r2:(W.alloc (.cells #[.string ⟨#[115,117,98]⟩,.bool true,.bool true,.bool false] 224)).cell? ⟨w.heap.size,1,none⟩=some (.int .i64 x):=by rw [aa.cell (p:=⟨w.heap.size,1,none⟩) ab];exact q2
  have r3:(W.alloc (.cells #[.string ⟨#[115,117,98]⟩,.bool true,.bool true,.bool false] 224)).cell? ⟨w.heap.size,2,none⟩=some (.int .i64 y):=by rw [aa.cell (p:=⟨w.heap.size,2,none⟩) ab];exact q3
  have r4:(W.alloc (.cells #[.string ⟨#[115,117,98]⟩,.bool true,.bool true,.bool false] 224)).cell? ⟨w.heap.size,3,none⟩=some (.int .u64 z):=by rw [aa.cell (p:=⟨w.heap.size,3,none⟩) ab];exact q4
  have ah:=Nat.lt_trans ab ag;go_upto_region 4 with fail;generalize W.alloc (.cells #[.string ⟨#[115,117,98]⟩,.bool true,.bool true,.bool false] 224)=V at *;clear s0 s1 s2 s3 q1 q2 q3 q4 aa ae af;by_cases hz0:z=0
  ·subst hz0;by_cases hxr:x<0\/(i:Int)<=x
   ·have Hx:=hid hxr;have HN:Hid (¬ okg i ⟨4,x,y,0⟩):=by unfold Hid okg;simp only;omega
    go_wp2_with (first | (go_at_call_of 179 (Value.int .i64 x);refine (cAheadN _ _ _ Hx.out).mono ?_;rintro e w' ⟨rfl,hw⟩;have hw:=hw.symm;subst hw));go_ret;exact Gri.n HN.out ad
   ·have Hx:Hid (0<=x/\x<(i:Int)):=⟨by omega,by omega⟩;by_cases hyr:y<0\/(i:Int)<=y
    ·have Hy:=hid hyr;have HN:Hid (¬ okg i ⟨4,x,y,0⟩):=by unfold Hid okg;simp only;omega
     go_wp2_with (first | (go_at_call_of 179 (Value.int .i64 x);refine (cAheadY _ _ _ Hx.out.1 Hx.out.2).mono ?_;rintro e w' ⟨rfl,hw⟩;have hw:=hw.symm;subst hw) | (go_at_call_of 179 (Value.int .i64 y);refine (cAheadN _ _ _ Hy.out).mono ?_;rintro e w' ⟨rfl,hw⟩;have hw:=hw.symm;subst hw));go_ret;exact Gri.n HN.out ad
    ·have Hy:Hid (0<=y/\y<(i:Int)):=⟨by omega,by omega⟩;have HY:Hid (okg i ⟨4,x,y,0⟩):=.inr (.inr (.inr ⟨.inr (.inl rfl),Hx.out,Hy.out,rfl⟩));go_wp2_with (first | (go_at_call_of 179 (Value.int .i64 x);refine (cAheadY _ _ _ Hx.out.1 Hx.out.2).mono ?_;rintro e w' ⟨rfl,hw⟩;have hw:=hw.symm;subst hw) | (go_at_call_of 179 (Value.int .i64 y);refine (cAheadY _ _ _ Hy.out.1 Hy.out.2).mono ?_;rintro e w' ⟨rfl,hw⟩;have hw:=hw.symm;subst hw));go_ret;exact Gri.y HY.out ad
  ·have ai:(z==0)=false:=by rw [beq_eq_false_iff_ne];exact hz0
   have aj:(z != 0)=true:=by rw [bne_iff_ne];exact hz0
   have HN:Hid (¬ okg i ⟨4,x,y,z⟩):=by unfold Hid okg;simp only;omega
   go_wp2;go_ret;exact Gri.n HN.out ad
 ·obtain ⟨s0,s1,s2,s3⟩:=af.at5;have slt:=af.lt;have aa:Below W.heap.size W (W.alloc (.cells #[.string ⟨#[109,117,108]⟩,.bool true,.bool true,.bool false] 224)):=bal _ _;have ad:=btr ae aa;obtain ⟨t0,t1,t2,t3⟩:=shape_box W ⟨#[109,117,108]⟩ true true false 224;have ag:W.heap.size<(W.alloc (.cells #[.string ⟨#[109,117,108]⟩,.bool true,.bool true,.bool false] 224)).heap.size:=by simp
  have r1:(W.alloc (.cells #[.string ⟨#[109,117,108]⟩,.bool true,.bool true,.bool false] 224)).cell? ⟨w.heap.size,0,none⟩=some (.int .i64 5):=by rw [aa.cell (p:=⟨w.heap.size,0,none⟩) ab];exact q1
  have r2:(W.alloc (.cells #[.string ⟨#[109,117,108]⟩,.bool true,.bool true,.bool false] 224)).cell? ⟨w.heap.size,1,none⟩=some (.int .i64 x):=by rw [aa.cell (p:=⟨w.heap.size,1,none⟩) ab];exact q2
  have r3:(W.alloc (.cells #[.string ⟨#[109,117,108]⟩,.bool true,.bool true,.bool false] 224)).cell? ⟨w.heap.size,2,none⟩=some (.int .i64 y):=by rw [aa.cell (p:=⟨w.heap.size,2,none⟩) ab];exact q3
  have r4:(W.alloc (.cells #[.string ⟨#[109,117,108]⟩,.bool true,.bool true,.bool false] 224)).cell? ⟨w.heap.size,3,none⟩=some (.int .u64 z):=by rw [aa.cell (p:=⟨w.heap.size,3,none⟩) ab];exact q4
  have ah:=Nat.lt_trans ab ag;go_upto_region 4 with fail;generalize W.alloc (.cells #[.string ⟨#[109,117,108]⟩,.bool true,.bool true,.bool false] 224)=V at *;clear s0 s1 s2 s3 q1 q2 q3 q4 aa ae af;by_cases hz0:z=0
  ·subst hz0;by_cases hxr:x<0\/(i:Int)<=x
   ·have Hx:=hid hxr;have HN:Hid (¬ okg i ⟨5,x,y,0⟩):=by unfold Hid okg;simp only;omega
    go_wp2_with (first | (go_at_call_of 179 (Value.int .i64 x);refine (cAheadN _ _ _ Hx.out).mono ?_;rintro e w' ⟨rfl,hw⟩;have hw:=hw.symm;subst hw));go_ret;exact Gri.n HN.out ad
   ·have Hx:Hid (0<=x/\x<(i:Int)):=⟨by omega,by omega⟩;by_cases hyr:y<0\/(i:Int)<=y
    ·have Hy:=hid hyr;have HN:Hid (¬ okg i ⟨5,x,y,0⟩):=by unfold Hid okg;simp only;omega
     go_wp2_with (first | (go_at_call_of 179 (Value.int .i64 x);refine (cAheadY _ _ _ Hx.out.1 Hx.out.2).mono ?_;rintro e w' ⟨rfl,hw⟩;have hw:=hw.symm;subst hw) | (go_at_call_of 179 (Value.int .i64 y);refine (cAheadN _ _ _ Hy.out).mono ?_;rintro e w' ⟨rfl,hw⟩;have hw:=hw.symm;subst hw));go_ret;exact Gri.n HN.out ad
    ·have Hy:Hid (0<=y/\y<(i:Int)):=⟨by omega,by omega⟩;have HY:Hid (okg i ⟨5,x,y,0⟩):=.inr (.inr (.inr ⟨.inr (.inr rfl),Hx.out,Hy.out,rfl⟩));go_wp2_with (first | (go_at_call_of 179 (Value.int .i64 x);refine (cAheadY _ _ _ Hx.out.1 Hx.out.2).mono ?_;rintro e w' ⟨rfl,hw⟩;have hw:=hw.symm;subst hw) | (go_at_call_of 179 (Value.int .i64 y);refine (cAheadY _ _ _ Hy.out.1 Hy.out.2).mono ?_;rintro e w' ⟨rfl,hw⟩;have hw:=hw.symm;subst hw));go_ret;exact Gri.y HY.out ad
  ·have ai:(z==0)=false:=by rw [beq_eq_false_iff_ne];exact hz0
   have aj:(z != 0)=true:=by rw [bne_iff_ne];exact hz0
   have HN:Hid (¬ okg i ⟨5,x,y,z⟩):=by unfold Hid okg;simp only;omega
   go_wp2;go_ret;exact Gri.n HN.out ad
 ·obtain ⟨s0,s1,s2,s3⟩:=af.at6;have slt:=af.lt;have aa:Below W.heap.size W (W.alloc (.cells #[.string ⟨#[115,99,97,108,101]⟩,.bool true,.bool false,.bool true] 224)):=bal _ _;have ad:=btr ae aa;obtain ⟨t0,t1,t2,t3⟩:=shape_box W ⟨#[115,99,97,108,101]⟩ true false true 224;have ag:W.heap.size<(W.alloc (.cells #[.string ⟨#[115,99,97,108,101]⟩,.bool true,.bool false,.bool true] 224)).heap.size:=by simp
  have r1:(W.alloc (.cells #[.string ⟨#[115,99,97,108,101]⟩,.bool true,.bool false,.bool true] 224)).cell? ⟨w.heap.size,0,none⟩=some (.int .i64 6):=by rw [aa.cell (p:=⟨w.heap.size,0,none⟩) ab];exact q1
  have r2:(W.alloc (.cells #[.string ⟨#[115,99,97,108,101]⟩,.bool true,.bool false,.bool true] 224)).cell? ⟨w.heap.size,1,none⟩=some (.int .i64 x):=by rw [aa.cell (p:=⟨w.heap.size,1,none⟩) ab];exact q2
  have r3:(W.alloc (.cells #[.string ⟨#[115,99,97,108,101]⟩,.bool true,.bool false,.bool true] 224)).cell? ⟨w.heap.size,2,none⟩=some (.int .i64 y):=by rw [aa.cell (p:=⟨w.heap.size,2,none⟩) ab];exact q3
  have r4:(W.alloc (.cells #[.string ⟨#[115,99,97,108,101]⟩,.bool true,.bool false,.bool true] 224)).cell? ⟨w.heap.size,3,none⟩=some (.int .u64 z):=by rw [aa.cell (p:=⟨w.heap.size,3,none⟩) ab];exact q4
  have ah:=Nat.lt_trans ab ag;go_upto_region 4 with fail;generalize W.alloc (.cells #[.string ⟨#[115,99,97,108,101]⟩,.bool true,.bool false,.bool true] 224)=V at *;clear s0 s1 s2 s3 q1 q2 q3 q4 aa ae af;by_cases hy0:y=0
  ·subst hy0;by_cases hxr:x<0\/(i:Int)<=x
   ·have Hx:=hid hxr;have HN:Hid (¬ okg i ⟨6,x,0,z⟩):=by unfold Hid okg;simp only;omega
    go_wp2_with (first | (go_at_call_of 179 (Value.int .i64 x);refine (cAheadN _ _ _ Hx.out).mono ?_;rintro e w' ⟨rfl,hw⟩;have hw:=hw.symm;subst hw));go_ret;exact Gri.n HN.out ad
   ·have Hx:Hid (0<=x/\x<(i:Int)):=⟨by omega,by omega⟩;have HY:Hid (okg i ⟨6,x,0,z⟩):=.inr (.inr (.inl ⟨rfl,Hx.out,rfl⟩));go_wp2_with (first | (go_at_call_of 179 (Value.int .i64 x);refine (cAheadY _ _ _ Hx.out.1 Hx.out.2).mono ?_;rintro e w' ⟨rfl,hw⟩;have hw:=hw.symm;subst hw));go_ret;exact Gri.y HY.out ad
  ·have ak:(y==0)=false:=by rw [beq_eq_false_iff_ne];exact hy0
   have al:(y != 0)=true:=by rw [bne_iff_ne];exact hy0
   have HN:Hid (¬ okg i ⟨6,x,y,z⟩):=by unfold Hid okg;simp only;omega
   go_wp2;go_ret;exact Gri.n HN.out ad
end
end Go.Proofs.YtljlioglpaogdacGreatDoor

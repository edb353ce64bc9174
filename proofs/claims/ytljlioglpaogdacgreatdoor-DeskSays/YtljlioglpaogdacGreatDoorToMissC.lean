/- RefShC FitC MissC -/
import Derived.Test.YtljlioglpaogdacGreatDoorToOpenC
import Derived.Test.YtljlioglpaogdacGreatDoorToTEqC
namespace Go.Proofs.YtljlioglpaogdacGreatDoor
set_option linter.unusedVariables false
set_option maxRecDepth 100000
set_option maxHeartbeats 8000000
section
open Crm Go.RowKit
theorem rAts9 (a n c l w) (h:RdS w a n c l):
  Calls Tryz.prog 118 #[.slice a n c,.int .i64 9] w λe w'=>Tells (dis (fa l) n) w e w':=by
 have aq:=h.len;have ar:=h.cap;have ah:=h.max;unfold maxLen at ah;go_enter Tryz.func118,Tryz.ntmps118;go_wp2;go_loopw [5] (λi wr=>∃k:Nat,k<=n/\i = .int .i64 k/\Hid (dis (fa l) k)/\Below w.heap.size w wr) (λi _=>n-(intOf i).toNat)
 case atStart=>exact ⟨0,Nat.zero_le _,rfl,dis_zero _,Below.refl _ _⟩
 case round=>
  obtain ⟨k,hk,rfl,HK,ab⟩:=hrel;by_cases hlt:k<n
  ·have hR:=h.below ab;obtain ⟨b,o,x,y,rfl,aB,HX,HY,aC,aD,aE,aF,aG,aH⟩:=hR.one hlt;by_cases hx2:x<1\/9<x
   ·have HN:Hid (¬ dis (fa l) n):=λhk=>by have:=(hk k hlt).1;unfold fa at this;rw [HX.out] at this;omega
    have ak:=hid hx2;clear hx2;go_wp2_with (go_at_call 35;refine (rInN _ _ _ _ ak.out).mono ?_;rintro e w' ⟨rfl,rfl⟩);go_ret;exact .no HN.out ab
   ·go_wp2_with (go_at_call 35;refine (rInY _ _ _ _ (by omega) (by omega)).mono ?_;rintro e w' ⟨rfl,rfl⟩);go_loopw [6] (λi wr=>∃m:Nat,m<=k/\i = .int .i64 m/\Hid (∀j,j<m->(l.getD j (0,0)).1≠x)/\Below w.heap.size w wr) (λi _=>k-(intOf i).toNat)
    case atStart=>exact ⟨0,Nat.zero_le _,rfl,λj hj=>by omega,ab⟩
    case round=>
     obtain ⟨m,hm,rfl,HM,aa⟩:=hrel;by_cases hmk:m<k
     ·have ae:=h.below aa;obtain ⟨b',o',x',y',e',au,af,aI,av,aw,ax,ay,az,aA⟩:=ae.one (show m<n by omega);simp only [Option.some.injEq,Addr.mk.injEq,and_true] at e';obtain ⟨rfl,rfl⟩:=e';obtain ⟨aJ,aK,ad,aL,ag,_,ai,_,_,_,_,_,ap,_⟩:=ae.one hlt;simp only [Option.some.injEq,Addr.mk.injEq,and_true] at ag;obtain ⟨rfl,rfl⟩:=ag;have e3:ad=x:=ai.out.symm.trans HX.out;subst e3;by_cases hxx:x'=ad
      ·have HN:Hid (¬ dis (fa l) n):=λhk=>(hk k hlt).2 m hmk (by unfold fa;rw [af.out,HX.out];exact hxx);have al:(x'==ad)=true:=by rw [beq_iff_eq];exact hxx
       clear hxx;go_wp2;go_region
       all_goals go_wp2
       all_goals
        go_ret;exact .no HN.out (by first | exact aa.drew | exact aa.drew.drew)
      ·have al:(x'==ad)=false:=by rw [beq_eq_false_iff_ne];exact hxx
       have am:Hid (∀j,j<m+1->(l.getD j (0,0)).1≠ad):=λj hj=>by
        by_cases e:j=m
        ·rw [e,af.out];exact hxx
        ·exact HM.out j (by omega)
       clear hxx;go_wp2;go_region
       all_goals go_wp2
       all_goals
        go_roundw
        case rel=>exact ⟨m+1,by omega,by go_num,am,by first | exact aa.drew | exact aa.drew.drew⟩
        case measure=>simp [intOf];omega
     ·have aj:m=k:=by omega
      subst aj;have an:Hid (dis (fa l) (m+1)):=dis_succ HK.out HX.out (by omega) (by omega) HM.out;go_wp2;go_roundw
      case rel=>exact ⟨m+1,by omega,by go_num,an,aa⟩
      case measure=>simp [intOf];omega
  ·have ao:k=n:=by omega
   subst ao;go_wp2;go_ret;exact .yes HK.out ab
theorem rShares (a n c l t w) (h:RdS w a n c l):
  Calls Tryz.prog 74 #[.int .i64 t,.slice a n c] w λe w'=>∃r,e = .returned (.int .i64 r)/\She l n t r/\Below w.heap.size w w':=by
 have ad:=h.cap;have ab:=h.max;unfold maxLen at ab;go_enter Tryz.func74,Tryz.ntmps74;by_cases ht:t<0\/4<t
 ·have HT:=hid ht;clear ht;go_wp2_with (go_at_call 35;refine (rInN _ _ _ _ HT.out).mono ?_;rintro e w' ⟨rfl,hw⟩;have hw:=hw.symm;subst hw);go_ret;exact ⟨1,rfl,Or.inl ⟨HT.out,rfl⟩,Below.refl _ _⟩
 ·go_wp2_with fail;refine (rInY _ _ _ _ (by omega) (by omega)).mono ?_;rintro e w' ⟨rfl,hw⟩;have hw:=hw.symm;subst hw;go_wp2_with fail;refine (rAts9 _ _ _ _ _ h).mono ?_;rintro e w1 ⟨r,rfl,hr,aa⟩;have HR:=hid hr;clear hr;cases r with
  | false=>
   have HN:Hid (She l n t 5):=Or.inr (Or.inl ⟨⟨by omega,by omega⟩,λhd=>(by have:=HR.out.2 hd;cases this),rfl⟩);go_wp2;go_ret;exact ⟨5,rfl,HN.out,aa⟩
  | true=>
   by_cases hnt:(n:Int)<=t
   ·have HN:Hid (She l n t 4):=Or.inr (Or.inr (Or.inl ⟨⟨by omega,by omega⟩,HR.out.1 rfl,hnt,rfl⟩));go_wp2;go_ret;exact ⟨4,rfl,HN.out,aa⟩
   ·have HN:Hid (She l n t 0):=Or.inr (Or.inr (Or.inr ⟨⟨by omega,by omega⟩,HR.out.1 rfl,by omega,rfl⟩));go_wp2;go_ret;exact ⟨0,rfl,HN.out,aa⟩
theorem RdS.take {w a n c l} (h:RdS w a n c l) {k:Nat} (hk:k<=n):RdS w a k c (l.take k):=by
 have e:∀i,i<k->(l.take k).getD i (0,0)=l.getD i (0,0):=λi hi=>by simp [hi]
 refine ⟨by have:=h.len;simp;omega,by have:=h.cap;omega,h.max,λi hi=>?_,h.nil,λx hx i hi=>?_⟩
 ·rw [e i hi];exact h.bd i (by omega)
 ·rw [e i hi];exact h.cell x hx i (by omega)
def FitsO (l:List (Int×Int)) (n m:Nat) (w:World) (e:Ending) (w':World):Prop:=
 ∃(p:List Int) (ap:Option Addr) (cp:Nat) (B:List Int) (ab:Option Addr) (cb:Nat),e = .returned (.tuple #[.slice ap p.length cp,.slice ab (bdl l p n).length cb])/\w'.ownsRow w.heap.size 70 1 (.slice ap p.length cp) p.length (p.map (Value.int .u64))/\p.length<=m/\Hs l m p/\Nml p/\
  w'.ownsRow w.heap.size 3 1 (.slice ab (bdl l p n).length cb) (bdl l p n).length (zns B)/\OuI (bdl l p n) B (bdl l p n).length/\Below w.heap.size w w'
theorem rFitO (a n c l) (t:Nat) (w) (h:RdS w a n c l) (hd:dis (fa l) n) (ht:t<n):
  Calls Tryz.prog 119 #[.int .i64 t,.slice a n c] w λe w'=>FitsO l n (t+1) w e w':=by
 have aT:=dis_nine hd;have HD:=hid hd;clear hd;have aR:=h.cap;have aG:=h.max;unfold maxLen at aG;have hT:=h.take (k:=t+1) (by omega);have ax:Hid (okk (l.take (t+1)) (t+1)):=by
  have h1:=dis_okk (dis_le HD.out (show t+1<=n by omega));have e:∀i,i<t+1->(l.take (t+1)).getD i (0,0)=l.getD i (0,0):=λi hi=>by simp [hi]
  intro i hi;rw [e i hi];refine ⟨(h1 i hi).1,λj hj=>?_⟩
  rw [e j (by omega)];exact (h1 i hi).2 j hj
 go_enter Tryz.func119,Tryz.ntmps119;go_wp2_with fail;refine (rThroughO _ (t+1) _ _ _ hT (by omega) ax.out).mono ?_;rintro e w2 ⟨p,ap,cp,rfl,al,af,am⟩;have ay:Rd w2 ap p.length cp p:=by
  obtain ⟨a2,c2,e2,hr,_⟩:=Rd.own al (bd_u64 af.nml.bd);simp only [Value.slice.injEq,true_and] at e2;obtain ⟨rfl,rfl⟩:=e2;exact hr
 have HP:Hid (p.length<=t+1/\Hs l (t+1) p/\Nml p):=by
  refine ⟨af.le,λj hj=>?_,af.nml⟩
  have:=af.val j hj;rw [if_pos hj] at this;have e:(l.take (t+1)).getD j (0,0)=l.getD j (0,0):=by simp [hj]
  rwa [e] at this
 have aI:=af.le;obtain ⟨N,hN⟩:∃N,N=p.length:=⟨_,rfl⟩;rw [<- hN] at ay al aI ⊢;have HN:=hid hN;clear af hT ax hN;have az:=am.size;go_wp2;go_loopw [7,8] (λv i wr=>∃k:Nat,k<=n/\i = .int .i64 k/\wr.ownsRow w2.heap.size 3 1 v (bdl l p k).length (zns (bdl l p k))/\Below w2.heap.size w2 wr) (λ_ i _=>n-(intOf i).toNat)
 case atStart=>exact ⟨0,Nat.zero_le _,rfl,World.ownsRow_nil _ _ _ _,Below.refl _ _⟩
 case round=>
  obtain ⟨k,hk,rfl,aa,ad⟩:=hrel;have aA:Below w.heap.size w wr:=am.trans (ad.mono az);have aB:=ad.size;have aJ:=bdl_le l p k;by_cases hlt:k<n
  ·obtain ⟨b,o,x,y,rfl,aU,HX,HY,aV,aC,aW,aX,aK,aY⟩:=(h.below aA).one hlt;have ai:=(HD.out k hlt).1;unfold fa at ai;rw [HX.out] at ai;have aC:=ai.1;have ai:=ai.2;have an:=ay.below ad;have aD:Hid (IntKind.u64.wrap x=x):=u64of_id aC (by omega);by_cases hm:nm (ev p x)=nm y
   ·have aL:(nm (ev p x) != nm y)=false:=by rw [hm];simp
    have HB:Hid (bdl l p (k+1)=bdl l p k):=bdl_ok (by rw [HX.out,HY.out];exact hm);clear hm;go_wp2;go_quiet ((first | (go_at_call 117;(first | rw [aD.out] | skip);exact Calls.quiet_of_same (rEval _ _ _ _ _ _ (an.drewN _) (by omega) (by omega) (by omega))) | (go_at_call 76;exact Calls.quiet_of_same (rNorm _ _ (by omega) (by omega)))))
    all_goals
     go_wp2;go_roundw
     case rel=>exact ⟨k+1,by omega,by go_num,by rw [HB.out];exact aa,drewN_below ad _⟩
     case measure=>simp [intOf];omega
   ·have aL:(nm (ev p x) != nm y)=true:=by rw [bne_iff_ne];exact hm
    have HB:Hid (bdl l p (k+1)=bdl l p k ++ [x]):=by
     have:=bdl_bad (l:=l) (p:=p) (k:=k) (by rw [HX.out,HY.out];exact hm);rwa [HX.out] at this
    clear hm;go_wp2;go_quiet ((first | (go_at_call 117;(first | rw [aD.out] | skip);exact Calls.quiet_of_same (rEval _ _ _ _ _ _ (an.drewN _) (by omega) (by omega) (by omega))) | (go_at_call 76;exact Calls.quiet_of_same (rNorm _ _ (by omega) (by omega)))));have aS:(wr.drewN nq).cell? ⟨b,o+k*2,none⟩=some (.int .i64 x):=aK;have ag:(wr.drewN nq).ownsRow w2.heap.size 3 1 u7 (bdl l p k).length (zns (bdl l p k)):=aa;have aj:=drewN_below ad nq;have aE:w2.heap.size<=(wr.drewN nq).heap.size:=aB;generalize wr.drewN nq=wd at *;go_wp2_with (at_builtin;refine wpList_appV Tryz.underlying63 infoZ rfl (by omega) _ rfl _ _ rfl w2.heap.size _ _ _ rfl ag (.int .i64 x) rfl rfl (by omega) aE ?_;intro v' w7 ah ao _;rw [zns_snoc,<- HB.out] at ah;have aF:(bdl l p k).length+1=(bdl l p (k+1)).length:=(by rw [HB.out];simp);rw [aF] at ah;have av:=aj.grown ao aE (λj hj=>(ag.lt j hj).1);clear ao ag aj aF);go_roundw
    case rel=>exact ⟨k+1,by omega,by go_num,ah,av⟩
    case measure=>simp [intOf];omega
  ·have aM:k=n:=by omega
   subst aM;obtain ⟨ab,cb,rfl,aN⟩:=own_slice aa;obtain ⟨NB,ak⟩:=nmd ((bdl l p k).length);rw [ak.out] at aa aN aJ ⊢;go_wp2_with fail;refine (zSorts _ _ _ _ _ aa (by omega)).mono ?_;rintro e w3 ⟨rfl,B,hO,ae,aq⟩;have ar:=aa.lt;have au:Below w2.heap.size w2 w3:=ad.grown aq aB (λj hj=>(ar j hj).1);have aH:=own_below al au;have HO:=hid hO;have aw:w3.ownsRow w.heap.size 3 1 (.slice ab NB cb) NB (zns B):=by
    rcases ae.2 with h' | ⟨g,aO,aP,e1,e2,e3⟩
    ·exact ⟨ae.1,Or.inl h'⟩
    ·exact ⟨ae.1,Or.inr ⟨g,aO,aP,e1,by omega,e3⟩⟩
   have aQ:=am.trans (au.mono az);clear aa aq ar hO ae au ad aA;go_wp2;go_ret2;refine ⟨p,ap,cp,B,ab,cb,?_,?_,HP.out.1,HP.out.2.1,HP.out.2.2,?_,?_,aQ⟩
   ·rw [<- HN.out,ak.out];rfl
   ·rw [<- HN.out];exact aH
   ·rw [ak.out];exact aw
   ·rw [ak.out];exact HO.out
def Fits (l:List (Int×Int)) (n m:Nat) (w:World) (e:Ending) (w':World):Prop:=
 ∃(p:List Int) (ap:Option Addr) (cp:Nat) (B:List Int) (ab:Option Addr) (cb:Nat),e = .returned (.tuple #[.slice ap p.length cp,.slice ab (bdl l p n).length cb])/\Rd w' ap p.length cp p/\p.length<=m/\Hs l m p/\Nml p/\
  w'.ownsRow w.heap.size 3 1 (.slice ab (bdl l p n).length cb) (bdl l p n).length (zns B)/\OuI (bdl l p n) B (bdl l p n).length/\Below w.heap.size w w'
theorem rFit (a n c l) (t:Nat) (w) (h:RdS w a n c l) (hd:dis (fa l) n) (ht:t<n):
  Calls Tryz.prog 119 #[.int .i64 t,.slice a n c] w λe w'=>Fits l n (t+1) w e w':=by
 refine (rFitO _ _ _ _ _ _ h hd ht).mono ?_;rintro e w' ⟨p,ap,cp,B,ab,cb,rfl,aa,h1,h2,h3,h4⟩;obtain ⟨a2,c2,e2,hr,_⟩:=Rd.own aa (bd_u64 h3.bd);simp only [Value.slice.injEq,true_and] at e2;obtain ⟨rfl,rfl⟩:=e2;exact ⟨p,ap,cp,B,ab,cb,rfl,hr,h1,h2,h3,h4⟩
theorem rOpenS (a n c l t w) (h:RdS w a n c l):
  Calls Tryz.prog 127 #[.int .i64 t,.slice a n c] w λe w'=>∃x r,e = .returned (.tuple #[.int .u64 x,.int .i64 r])/\Opn l n t x r/\Below w.heap.size w w':=by
 go_enter Tryz.func127,Tryz.ntmps127;go_wp2_with fail;refine (rShares _ _ _ _ _ _ h).mono ?_;rintro e w1 ⟨r,rfl,hS,aa⟩;by_cases hr:r=0
 ·subst hr;have HS:=hid hS;obtain ⟨t0,t4,hd,aj,ak⟩:=hS.ok;have HD:=hid hd;clear hd hS;obtain ⟨m,rfl⟩:∃m:Nat,t=m:=⟨t.toNat,by omega⟩;go_wp2_with fail;refine (rFit _ _ _ _ m _ (h.below aa) HD.out (by omega)).mono ?_;rintro e w2 ⟨p,ap,cp,B,ab,cb,rfl,ae,af,ag,_,_,_,ah⟩;have HO:Hid (_/\_):=opn_first HS.out rfl af ag;have HZ:Hid (_↔_):=bdl_nil l p n;have ai:=bdl_le l p n;have ad:=btr aa ah;obtain ⟨N,hN⟩:∃N,N=p.length:=⟨_,rfl⟩;rw [<- hN] at ae af ⊢;obtain ⟨K,HK⟩:=nmd ((bdl l p n).length);rw [HK.out] at HZ ai ⊢;clear hN ag aa ah;by_cases hK:K=0
  ·have HN:Hid (Opn l n m (nm (ev p 0)) 0):=HO.out.1 (HZ.out.1 hK);clear HO HZ;go_wp2_with (go_at_call 117;refine (rEval _ _ _ _ _ _ ae (by omega) (by omega) (by omega)).mono ?_;rintro e w3 ⟨rfl,hw⟩;have hw:=hw.symm;subst hw);go_ret2;exact ⟨_,_,rfl,HN.out,ad⟩
  ·have HN:Hid (Opn l n m 0 6):=HO.out.2 (λhh=>hK (HZ.out.2 hh));clear HO HZ;go_wp2;go_ret2;exact ⟨_,_,rfl,HN.out,ad⟩
 ·have al:(r != 0)=true:=by rw [bne_iff_ne];exact hr
  have HS:Hid (Opn l n t 0 r):=Or.inl ⟨hS,hr,rfl⟩;clear hr hS;go_wp2;go_ret2;exact ⟨_,_,rfl,HS.out,aa⟩
theorem cMisses (ap m cp p a n c l w) (hp:Rd w ap m cp p) (h:RdS w a n c l) (hm:m<=40) (hd:dis (fa l) n):
  Calls Tryz.prog 192 #[.slice ap m cp,.slice a n c] w λe w'=>∃(B:List Int) (ab:Option Addr) (cb:Nat),e = .returned (.slice ab (bdl l p n).length cb)/\
   w'.ownsRow w.heap.size 3 1 (.slice ab (bdl l p n).length cb) (bdl l p n).length (zns B)/\OuI (bdl l p n) B (bdl l p n).length/\Below w.heap.size w w':=by
 have aO:=dis_nine hd;have HD:=hid hd;clear hd;have aL:=h.cap;have aB:=h.max;unfold maxLen at aB;go_enter Tryz.func192,Tryz.ntmps192;go_wp2;go_loopw [5,12] (λv i wr=>∃k:Nat,k<=n/\i = .int .i64 k/\wr.ownsRow w.heap.size 3 1 v (bdl l p k).length (zns (bdl l p k))/\Below w.heap.size w wr) (λ_ i _=>n-(intOf i).toNat)
 case atStart=>exact ⟨0,Nat.zero_le _,rfl,World.ownsRow_nil _ _ _ _,Below.refl _ _⟩
 case round=>
  obtain ⟨k,hk,rfl,aa,ad⟩:=hrel;have ax:=ad.size;have aD:=bdl_le l p k;by_cases hlt:k<n
  ·obtain ⟨b,o,x,y,rfl,aP,HX,HY,aQ,aE,aR,aS,aF,aG⟩:=(h.below ad).one hlt;have ag:=(HD.out k hlt).1;unfold fa at ag;rw [HX.out] at ag;have aE:=ag.1;have ag:=ag.2;have am:=cell_alloc0 wr (.int .i64 x) (.int .u64 y) 74;have an:=cell_alloc1 wr (.int .i64 x) (.int .u64 y) 74;have ai:Below w.heap.size w (wr.alloc (.cells #[.int .i64 x,.int .u64 y] 74)):=ad.alloc ax _;have aj:(wr.alloc (.cells #[.int .i64 x,.int .u64 y] 74)).ownsRow w.heap.size 3 1 u5 (bdl l p k).length (zns (bdl l p k)):=aa.alloc _;have aC:(wr.alloc (.cells #[.int .i64 x,.int .u64 y] 74)).heap.size=wr.heap.size+1:=by simp
   have aT:w.heap.size<=(wr.alloc (.cells #[.int .i64 x,.int .u64 y] 74)).heap.size:=by omega
   have ao:wr.heap.size<(wr.alloc (.cells #[.int .i64 x,.int .u64 y] 74)).heap.size:=by omega
   go_wp2_with fail;generalize wr.alloc (.cells #[.int .i64 x,.int .u64 y] 74)=wd at *;clear aC;have ay:=hp.below ai;refine (cEvalOK _ _ _ _ _ _ ay (by omega) (by omega) (by omega)).mono ?_;rintro e w2 ⟨rfl,ah⟩;have aM:w2.cell? ⟨wr.heap.size,0,none⟩=some (.int .i64 x):=by rw [ah.cell ao];exact am
   have aN:w2.cell? ⟨wr.heap.size,1,none⟩=some (.int .u64 y):=by rw [ah.cell ao];exact an
   have ae:=own_below aj ah;have ak:=btr ai ah;have az:=ak.size;clear aF aG aa ad am an ai aj ay ah;by_cases hm:nm (ev p x)=nm y
   ·have aH:(nm (ev p x) != nm y)=false:=by rw [hm];simp
    have HB:Hid (bdl l p (k+1)=bdl l p k):=bdl_ok (by rw [HX.out,HY.out];exact hm);clear hm;go_wp2_with (go_at_call 143;refine (fNorm _ _ (by omega) (by omega)).mono ?_;rintro e w3 ⟨rfl,hw⟩;have hw:=hw.symm;subst hw);go_roundw
    case rel=>exact ⟨k+1,by omega,by go_num,by rw [HB.out];exact ae,ak⟩
    case measure=>simp [intOf];omega
   ·have aH:(nm (ev p x) != nm y)=true:=by rw [bne_iff_ne];exact hm
    have HB:Hid (bdl l p (k+1)=bdl l p k ++ [x]):=by
     have:=bdl_bad (l:=l) (p:=p) (k:=k) (by rw [HX.out,HY.out];exact hm);rwa [HX.out] at this
    clear hm;go_wp2_with (first | (go_at_call 143;refine (fNorm _ _ (by omega) (by omega)).mono ?_;rintro e w3 ⟨rfl,hw⟩;have hw:=hw.symm;subst hw) | (at_builtin;refine wpList_appV Tryz.underlying63 infoZ rfl (by omega) _ rfl _ _ rfl w.heap.size _ _ _ rfl ae (.int .i64 x) rfl rfl (by omega) az ?_;intro v' w7 af aq _;rw [zns_snoc,<- HB.out] at af;have aA:(bdl l p k).length+1=(bdl l p (k+1)).length:=(by rw [HB.out];simp);rw [aA] at af;have av:=ak.grown aq az (λj hj=>(ae.lt j hj).1);clear aq ae ak aA));go_roundw
    case rel=>exact ⟨k+1,by omega,by go_num,af,av⟩
    case measure=>simp [intOf];omega
  ·have aI:k=n:=by omega
   subst aI;obtain ⟨ab,cb,rfl,aJ⟩:=own_slice aa;obtain ⟨NB,al⟩:=nmd ((bdl l p k).length);rw [al.out] at aa aJ aD ⊢;go_wp2_with fail;refine (zSorts _ _ _ _ _ aa (by omega)).mono ?_;rintro e w3 ⟨rfl,B,hO,aw,ar⟩;have au:=aa.lt;have aK:Below w.heap.size w w3:=ad.grown ar ax (λj hj=>(au j hj).1);have HO:=hid hO;clear aa ar au hO ad;go_wp2;go_ret;refine ⟨B,ab,cb,?_,?_,?_,aK⟩
   ·rw [al.out];rfl
   ·rw [al.out];exact aw
   ·rw [al.out];exact HO.out
end
end Go.Proofs.YtljlioglpaogdacGreatDoor

/- DlOpen DlClear DlShow DlKeys DlK2 DlK3 DlK5 DlK6 DlRun DlK0 DlCirc DlElse -/
import Derived.Test.YtljlioglpaogdacGreatDoorToDlK1
import Derived.Test.YtljlioglpaogdacGreatDoorToTwRowC
import Derived.Test.YtljlioglpaogdacGreatDoorToSubC
namespace Go.Proofs.YtljlioglpaogdacGreatDoor
set_option linter.unusedVariables false
set_option maxRecDepth 100000
set_option maxHeartbeats 8000000
section
open Crm Go.RowKit
theorem rLineOpen (w0 w p G T S a n c l) (h:Bnc w0 w p G T S) (r:RdT w a n c l) (hn:n<=70000) (hTz:T.size<=2048) (hlast:∀s,S=some s->s.last<=1000000) (hT:Tabs w0) (hV:Vb w0):
  Calls Tryz.prog 14 #[.pointer (some ⟨p,0,none⟩),.string vOpen,.slice a n c] w (Lle w0 p G T S vOpen l w):=by
 obtain ⟨v,HV⟩:=nmd vOpen;have a6:=qf14 HV (by decide +kernel);have a7:=qf4 HV (by decide +kernel);have a8:=qf6 HV (by decide +kernel);have a9:(v.toList == [111,112,101,110])=true:=by rw [<- HV.out];decide +kernel
 have ba:=qf1 HV (by decide +kernel);have aV:=qf9 HV (by decide +kernel);have bb:=qf7 HV (by decide +kernel);have bc:=qf10 HV (by decide +kernel);have bh:=qf2 HV (by decide +kernel);have be:=qf3 HV (by decide +kernel);have bk:=qf5 HV (by decide +kernel);have bf:=qf11 HV (by decide +kernel);have bl:=qf12 HV (by decide +kernel);have bm:=qf0 HV (by decide +kernel);have bg:=qf13 HV (by decide +kernel);rw [HV.out];have ab:=r.len;have bJ:=r.cap;have aW:=r.max;unfold maxLen at aW;have bV:=h.plt;have H:=hid h;have HT:Hid (∀w',Below w.heap.size w w'->Tabs w'/\Vb w'):=λw' hb=>⟨hT.below (btr h.bel hb),hV.below (btr h.bel hb)⟩;clear h;go_enter Tryz.func14,Tryz.ntmps14;go_wp2_with fail;refine (sIndexT _ _ _ l ⟨#[47]⟩ _ r).mono ?_;rintro e w1 ⟨sl,rfl,aD,hw⟩;have hw:=hw.symm;subst hw;have bW:=aD.bd;clear aD;go_wp2_with fail;refine (rNumbers _ _ _ l _ r (by omega)).mono ?_;rintro e w1 ⟨⟨aE,rfl⟩ | ⟨aF,v1,rfl,al⟩,aa⟩
 ·have bo:=hid aE;clear aE;have HD:Hid (Dln T S v l (erB 3) T S):=by rw [<- HV.out];exact .inl ⟨λhs=>bo.out (by rw [<- ab];exact ((syn_vOpen l).1 hs).1),rfl,rfl,rfl⟩
  obtain ⟨ad,_⟩:=HT.out _ aa;go_wp2_with fail;refine (rWrong 3 _ (by omega) (by omega) ad).mono ?_;rintro e wz ⟨rfl,ai⟩;have ao:=btr aa ai;obtain ⟨X,HX⟩:=nmd (erB 3);rw [HX.out] at HD ⊢;clear ai ad;go_wp2;go_ret;exact Lle.quiet H.out ao HD.out
 ·have aG:Hid (okn l l.length):=by unfold Hid;rw [ab];exact aF
  have ag:Hid (∀x ∈ nba l,0<=x/\x<=9999999999):=nba_bd aG.out;obtain ⟨N,ap⟩:=nmd (nba l);have e0:nbl l n=N:=by rw [<- ap.out,<- ab];rfl
  rw [e0] at al;rw [ap.out] at ag;obtain ⟨a1,c1,rfl,aj⟩:=RdI.own al (λx hx=>by have:=ag.out x hx;omega);have bX:Hid (∀x,a1=some x->w.heap.size<=x.block):=λx hx=>by subst hx;exact (al.lt x.block rfl).1
  have bp:=aj.len;have bq:=aj.cap;have br:=aj.max;unfold maxLen at br;clear aF al e0;by_cases hc:n%2=1
  ·have bu:Hid (Syn vOpen l):=(syn_vOpen l).2 ⟨aG.out,by rw [ab];exact hc⟩;obtain ⟨bY,bZ,x0,bv,bK,aq,bL,bM,bw⟩:=aj.one (show 0<n by omega);subst bv;have aX:0<=x0/\x0<=9999999999:=by
    rw [<- aq.out];exact ag.out _ (gmem (show 0<N.length by omega))
   have b0:IntKind.u64.wrap x0=x0:=by rw [IntKind.wrap_u64];omega
   have bN:(0:Int)<(n:Int):=by omega
   have bO:0<n:=by omega
   rw [Nat.add_zero] at bw;have b1:=aX;obtain ⟨M,HM⟩:∃M,Hid (n=2*M+1):=⟨n/2,by unfold Hid;omega⟩;have bx:=HM.out;have bz:Hid (∀x B r out,Rob (prs N) M x0 x B r->out=sad (x :: B) r->Dln T S v l out T S):=λx B r out hR ho=>by
    rw [<- HV.out];refine .inr ⟨bu.out,?_⟩;unfold Dac;rw [if_neg (by decide),if_neg (by decide),if_pos (by decide),ap.out,aq.out,ab];exact ⟨rfl,rfl,x,B,r,by rw [show (n-1)/2=M by omega];exact hR,ho⟩
   have bA:(n:Int).tmod 2=1:=by rw [Int.tmod_eq_emod_of_nonneg (by omega)];omega
   have bB:Hid (2*M+1<=n/\n<=2*M+1):=⟨by omega,by omega⟩;obtain ⟨b2,b3⟩:=bB.out;clear bx hc bq;go_wp2;obtain ⟨b4⟩:Nonempty (w.heap.size<=w1.heap.size):=⟨aa.size⟩;go_loopw [15,16] (λvv q wr=>∃k I:Nat,k<=M/\q = .int .i64 (I:Int)/\(2*k+1<=I/\I<=2*k+1)/\wr.ownsRow w1.heap.size 74 2 vv k (shc (prk N k))/\Below w1.heap.size w1 wr) (λ_ q _=>n-(intOf q).toNat)
   case atStart=>exact ⟨0,1,Nat.zero_le _,rfl,⟨by omega,by omega⟩,World.ownsRow_nil _ _ _ _,Below.refl _ _⟩
   case round=>
    obtain ⟨k,I,hk,rfl,hI,ah,ae⟩:=hrel;have bC:=ae.size;have af:=aj.below ae;by_cases hlt:k<M
    ·obtain ⟨bi,oi,xi,ei,bD,ar,bP,bQ,au⟩:=af.one (show I<n by omega);simp only [Option.some.injEq,Addr.mk.injEq,and_true] at ei;obtain ⟨rfl,rfl⟩:=ei;obtain ⟨bj,oj,xj,ej,b5,aH,bR,bS,b6⟩:=af.one (show I+1<n by omega);simp only [Option.some.injEq,Addr.mk.injEq,and_true] at ej;obtain ⟨rfl,rfl⟩:=ej;have bT:0<=xj/\xj<=9999999999:=by
      rw [<- aH.out];exact ag.out _ (gmem (show I+1<N.length by omega))
     have b7:IntKind.u64.wrap xj=xj:=by rw [IntKind.wrap_u64];omega
     have b8:IntKind.i64.wrap ((I:Int)+1)=(I:Int)+1:=by rw [IntKind.wrap_i64];omega
     have HS:Hid (prk N k ++ [(xi,xj)]=prk N (k+1)):=prk_snoc N k (by rw [show 2*k+1=I by omega];exact ar.out) (by rw [show 2*k+2=I+1 by omega];exact aH.out);have av:wr.drew.ownsRow w1.heap.size 74 2 _ k (shc (prk N k)):=ah;have aw:=ae.drew;have bE:(I:Int)<(n:Int):=by omega
     have bU:(I:Int)+1<(n:Int):=by omega
     have b9:(0:Int)<=(I:Int):=by omega
     have ca:(0:Int)<=(I:Int)+1:=by omega
     obtain ⟨cb,cc⟩:=hI;clear af;go_wp2;go_region_law (refine step_appS Tryz.underlying72 infoSh wr.drew rfl _ _ rfl w1.heap.size _ _ _ rfl av xi xj rfl rfl (by omega) (by exact bC) ?_;intro v4 w4 ax aI;rw [HS.out] at ax;have aY:=aw.trans aI)
     all_goals
      clear ah av aw aI;go_wp2;go_roundw
      case rel=>exact ⟨k+1,I+2,by omega,by go_num,⟨by omega,by omega⟩,ax,aY⟩
      case measure=>simp [intOf];omega
    ·have ay:k=M:=by omega
     have bE:¬ ((I:Int)<(n:Int)):=by omega
     obtain ⟨sb,sc,rfl,aJ⟩:=RdS.own ah (prk_len N k) (λi hi=>by
      rw [prk_getD N hi];have h1:=ag.out (N.getD (2*i+1) 0) (gmem (show 2*i+1<N.length by omega));have h2:=ag.out (N.getD (2*i+2) 0) (gmem (show 2*i+2<N.length by omega));exact ⟨by simp only;omega,by simp only;omega⟩)
     have bF:Hid (prk N k=prs N):=by unfold Hid;rw [<- prk_all,bp,ay,show (n-1)/2=M by omega]
     have bG:=hid ay;obtain ⟨bi,oi,xi,ei,bD,ar,_,_,au⟩:=af.one (show 0<n by omega);simp only [Option.some.injEq,Addr.mk.injEq,and_true] at ei;obtain ⟨rfl,rfl⟩:=ei;obtain rfl:x0=xi:=by rw [<- aq.out];exact ar.out
     rw [Nat.add_zero] at au;clear ah ay af;go_wp2_with fail;refine (rRobust x0 _ _ _ _ _ aJ).mono ?_;rintro e w2 ⟨x,B,r,a2,k2,c2,rfl,am,hB,aK⟩;obtain ⟨sx,sB,sL⟩:=am.small;have aL:=am.rb;have aM:Hid (Dln T S v l (sad (x :: B) r) T S):=bz.out x B r _ (by rw [<- bF.out,<- bG.out];exact am) rfl;have aN:=hid sB;have cd:=hB.len;have az:=aa.trans ((btr ae aK).mono aa.size);have an:Below w2.heap.size w2 (w2.alloc (.cells #[.int .u64 x] 70)):=bal _ _;have aO:(w2.alloc (.cells #[.int .u64 x] 70)).ownsRow w2.heap.size 70 1 (.slice (some ⟨w2.heap.size,0,none⟩) 1 1) 1 ([x].map (Value.int .u64)):=⟨rfl,Or.inr ⟨_,1,#[.int .u64 x],rfl,Nat.le_refl _,heap_alloc_new w2 _,Nat.le_refl _,by unfold maxLen;omega,rfl,rfl⟩⟩;have aP:=hB.below an;clear am hB aJ aK sB au;go_wp2_with fail;generalize w2.alloc (.cells #[.int .u64 x] 70)=wA at *;refine (rWide _ _ _ B _ aP (by omega) aN.out).mono ?_;rintro e w3 ⟨v3,rfl,aQ,aA⟩;obtain ⟨a3,c3,rfl,aR,_⟩:=Rd.own aQ (λy hy=>by have:=aN.out y hy;omega);have aB:=own_below aO aA;have aC:=btr an aA;have aZ:=aC.size;clear aQ aP aO aA an;go_wp2_with (at_builtin;refine wpList_appX Tryz.underlying52 infoU _ rfl _ _ rfl w2.heap.size _ 1 [x] aB (λz hz=>by rw [List.mem_singleton.1 hz];omega) _ _ _ B aR rfl rfl (by omega) (by omega) (by omega) ?_;intro a5 c5 w5 aS aT;have a0:=aC.grown aT aZ (λb hb=>(aB.lt b hb).1));have ak:=btr az a0;obtain ⟨ad,_⟩:=HT.out w5 ak;refine (rSaid _ _ _ _ r _ aS (by omega) aL.1 aL.2 ad).mono ?_;rintro e w6 ⟨rfl,aU⟩;have a4:=btr ak aU;have e9 : [x]++B=x :: B:=rfl;rw [e9];obtain ⟨X,bH⟩:=nmd (sad (x :: B) r);rw [bH.out] at aM ⊢;have HL:Hid (Lle w0 p G T S v l w (.returned (.string X)) w6):=Lle.quiet H.out a4 aM.out;clear aS aR aB aT aU ad;go_wp2;go_ret;exact HL.out
  ·have bI:Hid (¬ Syn vOpen l):=λhs=>hc (by rw [<- ab];exact ((syn_vOpen l).1 hs).2);have bA:(n:Int).tmod 2=0:=by rw [Int.tmod_eq_emod_of_nonneg (by omega)];omega
   have HD:Hid (Dln T S v l (erB 3) T S):=by rw [<- HV.out];exact .inl ⟨bI.out,rfl,rfl,rfl⟩
   obtain ⟨ad,_⟩:=HT.out _ aa;go_wp2_with fail;refine (rWrong 3 _ (by omega) (by omega) ad).mono ?_;rintro e wz ⟨rfl,ai⟩;have ao:=btr aa ai;obtain ⟨X,HX⟩:=nmd (erB 3);rw [HX.out] at HD ⊢;clear ai ad;go_wp2;go_ret;exact Lle.quiet H.out ao HD.out
theorem rLineClear (w0 w p G T S a n c l) (h:Bnc w0 w p G T S) (r:RdT w a n c l) (hn:n<=70000) (hTz:T.size<=2048) (hlast:∀s,S=some s->s.last<=1000000) (hT:Tabs w0) (hV:Vb w0):
  Calls Tryz.prog 14 #[.pointer (some ⟨p,0,none⟩),.string vClear,.slice a n c] w (Lle w0 p G T S vClear l w):=by
 obtain ⟨v,HV⟩:=nmd vClear;have aq:=qf14 HV (by decide +kernel);have ar:=qf4 HV (by decide +kernel);have au:=qf6 HV (by decide +kernel);have av:=qf8 HV (by decide +kernel);have aw:=qf1 HV (by decide +kernel);have ao:(v.toList == [99,108,101,97,114])=true:=by rw [<- HV.out];decide +kernel
 have ax:=qf7 HV (by decide +kernel);have ay:=qf10 HV (by decide +kernel);have aC:=qf2 HV (by decide +kernel);have az:=qf3 HV (by decide +kernel);have aD:=qf5 HV (by decide +kernel);have aA:=qf11 HV (by decide +kernel);have aE:=qf12 HV (by decide +kernel);have aF:=qf0 HV (by decide +kernel);have aB:=qf13 HV (by decide +kernel);rw [HV.out];have ab:=r.len;have aK:=r.cap;have ap:=r.max;unfold maxLen at ap;have aM:=h.plt;have H:=hid h;have HT:Hid (∀w',Below w.heap.size w w'->Tabs w'/\Vb w'):=λw' hb=>⟨hT.below (btr h.bel hb),hV.below (btr h.bel hb)⟩;clear h;go_enter Tryz.func14,Tryz.ntmps14;go_wp2_with fail;refine (sIndexT _ _ _ l ⟨#[47]⟩ _ r).mono ?_;rintro e w1 ⟨sl,rfl,ai,hw⟩;have hw:=hw.symm;subst hw;have aN:=ai.bd;clear ai;go_wp2_with fail;refine (rNumbers _ _ _ l _ r (by omega)).mono ?_;rintro e w1 ⟨⟨aj,rfl⟩ | ⟨ak,v1,rfl,af⟩,aa⟩
 ·have aG:=hid aj;clear aj;have HD:Hid (Dln T S v l (erB 3) T S):=by rw [<- HV.out];exact .inl ⟨λhs=>aG.out (by rw [<- ab];exact ((syn_vClear l).1 hs).1),rfl,rfl,rfl⟩
  obtain ⟨ad,_⟩:=HT.out _ aa;go_wp2_with fail;refine (rWrong 3 _ (by omega) (by omega) ad).mono ?_;rintro e wz ⟨rfl,ae⟩;have ag:=btr aa ae;obtain ⟨X,HX⟩:=nmd (erB 3);rw [HX.out] at HD ⊢;clear ae ad;go_wp2;go_ret;exact Lle.quiet H.out ag HD.out
 ·have al:Hid (okn l l.length):=by unfold Hid;rw [ab];exact ak
  have am:Hid (∀x ∈ nba l,0<=x/\x<=9999999999):=nba_bd al.out;obtain ⟨N,an⟩:=nmd (nba l);have e0:nbl l n=N:=by rw [<- an.out,<- ab];rfl
  rw [e0] at af;rw [an.out] at am;obtain ⟨a1,c1,rfl,ah⟩:=RdI.own af (λx hx=>by have:=am.out x hx;omega);have aO:Hid (∀x,a1=some x->w.heap.size<=x.block):=λx hx=>by subst hx;exact (af.lt x.block rfl).1
  have aP:=ah.len;have aQ:=ah.cap;have aH:=ah.max;unfold maxLen at aH;clear ak af e0;by_cases hc:n=0
  ·have aI:Hid (Syn vClear l):=(syn_vClear l).2 ⟨al.out,by rw [ab];exact hc⟩;obtain rfl:n=0:=hc;obtain ⟨aR,aS⟩:=(H.out.same aa).text;have aL:=(H.out.same aa).plt;have HD:Hid (Dln T S v l okB ⟨#[]⟩ S):=by rw [<- HV.out];exact .inr ⟨aI.out,by unfold Dac;(iterate 3 rewrite [if_neg (by decide)]);rw [if_pos (by decide)];exact ⟨rfl,rfl,rfl⟩⟩
   have HL:Hid (Lle w0 p G T S v l w (.returned (.string okB)) (w1.setCell ⟨p,0,none⟩ (.string ⟨#[]⟩))):=Lle.text H.out aa HD.out;go_wp2;go_ret;exact HL.out
  ·have aJ:Hid (¬ Syn vClear l):=λhs=>hc (by rw [<- ab];exact ((syn_vClear l).1 hs).2);have aT:((n:Int)==0)=false:=by rw [beq_eq_false_iff_ne];omega
   have HD:Hid (Dln T S v l (erB 3) T S):=by rw [<- HV.out];exact .inl ⟨aJ.out,rfl,rfl,rfl⟩
   obtain ⟨ad,_⟩:=HT.out _ aa;go_wp2_with fail;refine (rWrong 3 _ (by omega) (by omega) ad).mono ?_;rintro e wz ⟨rfl,ae⟩;have ag:=btr aa ae;obtain ⟨X,HX⟩:=nmd (erB 3);rw [HX.out] at HD ⊢;clear ae ad;go_wp2;go_ret;exact Lle.quiet H.out ag HD.out
theorem rLineShow (w0 w p G T S a n c l) (h:Bnc w0 w p G T S) (r:RdT w a n c l) (hn:n<=70000) (hTz:T.size<=2048) (hlast:∀s,S=some s->s.last<=1000000) (hT:Tabs w0) (hV:Vb w0):
  Calls Tryz.prog 14 #[.pointer (some ⟨p,0,none⟩),.string vShow,.slice a n c] w (Lle w0 p G T S vShow l w):=by
 obtain ⟨v,HV⟩:=nmd vShow;have aw:=qf14 HV (by decide +kernel);have ax:=qf4 HV (by decide +kernel);have ay:=qf6 HV (by decide +kernel);have az:=qf8 HV (by decide +kernel);have aA:=qf1 HV (by decide +kernel);have au:=qf9 HV (by decide +kernel);have aB:(v.toList == [115,104,111,119])=true:=by rw [<- HV.out];decide +kernel
 have aC:=qf10 HV (by decide +kernel);have aG:=qf2 HV (by decide +kernel);have aD:=qf3 HV (by decide +kernel);have aH:=qf5 HV (by decide +kernel);have aE:=qf11 HV (by decide +kernel);have aI:=qf12 HV (by decide +kernel);have aJ:=qf0 HV (by decide +kernel);have aF:=qf13 HV (by decide +kernel);rw [HV.out];have ad:=r.len;have aR:=r.cap;have av:=r.max;unfold maxLen at av;have aT:=h.plt;have H:=hid h;have HT:Hid (∀w',Below w.heap.size w w'->Tabs w'/\Vb w'):=λw' hb=>⟨hT.below (btr h.bel hb),hV.below (btr h.bel hb)⟩;clear h;go_enter Tryz.func14,Tryz.ntmps14;go_wp2_with fail;refine (sIndexT _ _ _ l ⟨#[47]⟩ _ r).mono ?_;rintro e w1 ⟨sl,rfl,aj,hw⟩;have hw:=hw.symm;subst hw;have aU:=aj.bd;clear aj;go_wp2_with fail;refine (rNumbers _ _ _ l _ r (by omega)).mono ?_;rintro e w1 ⟨⟨ak,rfl⟩ | ⟨al,v1,rfl,ag⟩,aa⟩
 ·have aK:=hid ak;clear ak;have HD:Hid (Dln T S v l (erB 3) T S):=by rw [<- HV.out];exact .inl ⟨λhs=>aK.out (by rw [<- ad];exact ((syn_vShow l).1 hs).1),rfl,rfl,rfl⟩
  obtain ⟨ab,_⟩:=HT.out _ aa;go_wp2_with fail;refine (rWrong 3 _ (by omega) (by omega) ab).mono ?_;rintro e wz ⟨rfl,ae⟩;have af:=btr aa ae;obtain ⟨X,HX⟩:=nmd (erB 3);rw [HX.out] at HD ⊢;clear ae ab;go_wp2;go_ret;exact Lle.quiet H.out af HD.out
 ·have am:Hid (okn l l.length):=by unfold Hid;rw [ad];exact al
  have ai:Hid (∀x ∈ nba l,0<=x/\x<=9999999999):=nba_bd am.out;obtain ⟨N,an⟩:=nmd (nba l);have e0:nbl l n=N:=by rw [<- an.out,<- ad];rfl
  rw [e0] at ag;rw [an.out] at ai;obtain ⟨a1,c1,rfl,ah⟩:=RdI.own ag (λx hx=>by have:=ai.out x hx;omega);have aV:Hid (∀x,a1=some x->w.heap.size<=x.block):=λx hx=>by subst hx;exact (ag.lt x.block rfl).1
  have aW:=ah.len;have aX:=ah.cap;have aL:=ah.max;unfold maxLen at aL;clear al ag e0;by_cases hc:n=0
  ·have aM:Hid (Syn vShow l):=(syn_vShow l).2 ⟨am.out,by rw [ad];exact hc⟩;obtain rfl:n=0:=hc;obtain ⟨ao,aN⟩:=(H.out.same aa).text;have aS:=(H.out.same aa).plt;obtain ⟨ab,ap⟩:=HT.out w1 aa;have aO:Hid (∀out,Cir vShow N 0 T out->Dln T S v l out T S):=λout hc=>by rw [<- HV.out];exact .inr ⟨aM.out,by unfold Dac;(iterate 4 rewrite [if_neg (by decide)]);rw [if_pos (by decide)];exact cir_dac hc (dci_show l N 0)⟩
   go_wp2_with fail;rw [<- HV.out];refine (rCircShow p T _ _ _ N _ _ _ [] _ ao (by omega) ah ⟨rfl,Nat.le_refl _,Nat.zero_le _,by simp,λ_=>rfl,by simp⟩ ai.out (by omega) (by omega) ab ap).mono ?_;rintro e w2 ⟨out,rfl,aq,ar⟩;have af:=btr aa ar;have aP:Hid (Dln T S v l out T S):=aO.out out aq;clear aq ar ab ap ao aN;go_wp2;go_ret;rw [HV.out];exact Lle.quiet H.out af aP.out
  ·have aQ:Hid (¬ Syn vShow l):=λhs=>hc (by rw [<- ad];exact ((syn_vShow l).1 hs).2);have aY:((n:Int)==0)=false:=by rw [beq_eq_false_iff_ne];omega
   have HD:Hid (Dln T S v l (erB 3) T S):=by rw [<- HV.out];exact .inl ⟨aQ.out,rfl,rfl,rfl⟩
   obtain ⟨ab,_⟩:=HT.out _ aa;go_wp2_with fail;refine (rWrong 3 _ (by omega) (by omega) ab).mono ?_;rintro e wz ⟨rfl,ae⟩;have af:=btr aa ae;obtain ⟨X,HX⟩:=nmd (erB 3);rw [HX.out] at HD ⊢;clear ae ab;go_wp2;go_ret;exact Lle.quiet H.out af HD.out
theorem rLineKeys (w0 w p G T S a n c l) (h:Bnc w0 w p G T S) (r:RdT w a n c l) (hn:n<=70000) (hTz:T.size<=2048) (hlast:∀s,S=some s->s.last<=1000000) (hT:Tabs w0) (hV:Vb w0):
  Calls Tryz.prog 14 #[.pointer (some ⟨p,0,none⟩),.string vKeys,.slice a n c] w (Lle w0 p G T S vKeys l w):=by
 obtain ⟨v,HV⟩:=nmd vKeys;have aK:=qf14 HV (by decide +kernel);have aL:=qf4 HV (by decide +kernel);have aM:=qf6 HV (by decide +kernel);have aN:=qf8 HV (by decide +kernel);have aO:=qf1 HV (by decide +kernel);have aI:=qf9 HV (by decide +kernel);have aP:=qf7 HV (by decide +kernel);have aQ:(v.toList == [107,101,121,115])=true:=by rw [<- HV.out];decide +kernel
 have aU:=qf2 HV (by decide +kernel);have aR:=qf3 HV (by decide +kernel);have aV:=qf5 HV (by decide +kernel);have aS:=qf11 HV (by decide +kernel);have aW:=qf12 HV (by decide +kernel);have aX:=qf0 HV (by decide +kernel);have aT:=qf13 HV (by decide +kernel);rw [HV.out];have ah:=r.len;have bb:=r.cap;have aJ:=r.max;unfold maxLen at aJ;have br:=h.plt;have H:=hid h;have HT:Hid (∀w',Below w.heap.size w w'->Tabs w'/\Vb w'):=λw' hb=>⟨hT.below (btr h.bel hb),hV.below (btr h.bel hb)⟩;clear h;go_enter Tryz.func14,Tryz.ntmps14;go_wp2_with fail;refine (sIndexT _ _ _ l ⟨#[47]⟩ _ r).mono ?_;rintro e w1 ⟨sl,rfl,aw,hw⟩;have hw:=hw.symm;subst hw;have bu:=aw.bd;clear aw;go_wp2_with fail;refine (rNumbers _ _ _ l _ r (by omega)).mono ?_;rintro e w1 ⟨⟨ax,rfl⟩ | ⟨ay,v1,rfl,an⟩,aa⟩
 ·have aY:=hid ax;clear ax;have HD:Hid (Dln T S v l (erB 3) T S):=by rw [<- HV.out];exact .inl ⟨λhs=>aY.out (by rw [<- ah];exact ((syn_vKeys l).1 hs).1),rfl,rfl,rfl⟩
  obtain ⟨ad,_⟩:=HT.out _ aa;go_wp2_with fail;refine (rWrong 3 _ (by omega) (by omega) ad).mono ?_;rintro e wz ⟨rfl,ae⟩;have ai:=btr aa ae;obtain ⟨X,HX⟩:=nmd (erB 3);rw [HX.out] at HD ⊢;clear ae ad;go_wp2;go_ret;exact Lle.quiet H.out ai HD.out
 ·have az:Hid (okn l l.length):=by unfold Hid;rw [ah];exact ay
  have ao:Hid (∀x ∈ nba l,0<=x/\x<=9999999999):=nba_bd az.out;obtain ⟨N,aq⟩:=nmd (nba l);have e0:nbl l n=N:=by rw [<- aq.out,<- ah];rfl
  rw [e0] at an;rw [aq.out] at ao;obtain ⟨a1,c1,rfl,ak⟩:=RdI.own an (λx hx=>by have:=ao.out x hx;omega);have aZ:Hid (∀x,a1=some x->w.heap.size<=x.block):=λx hx=>by subst hx;exact (an.lt x.block rfl).1
  have bv:=ak.len;have bw:=ak.cap;have a0:=ak.max;unfold maxLen at a0;clear ay an e0;by_cases hc:n=2
  ·have a2:Hid (Syn vKeys l):=(syn_vKeys l).2 ⟨az.out,by rw [ah];exact hc⟩;obtain ⟨af,aj,x0,a3,al,aA,bc,be,ar⟩:=ak.one (show 0<n by omega);subst a3;have bf:0<=x0/\x0<=9999999999:=by
    rw [<- aA.out];exact ao.out _ (gmem (show 0<N.length by omega))
   have bx:IntKind.u64.wrap x0=x0:=by rw [IntKind.wrap_u64];omega
   have bg:(0:Int)<(n:Int):=by omega
   have bh:0<n:=by omega
   obtain ⟨bz,bA,x1,aB,bi,aC,bj,bk,aD⟩:=ak.one (show 1<n by omega);simp only [Option.some.injEq,Addr.mk.injEq,and_true] at aB;obtain ⟨rfl,rfl⟩:=aB;have bl:0<=x1/\x1<=9999999999:=by
    rw [<- aC.out];exact ao.out _ (gmem (show 1<N.length by omega))
   have bB:IntKind.u64.wrap x1=x1:=by rw [IntKind.wrap_u64];omega
   have bm:(1:Int)<(n:Int):=by omega
   have bo:1<n:=by omega
   rw [Nat.add_zero] at ar;obtain ⟨q,bC,bD⟩:=(H.out.same aa).row;have bp:=(H.out.same aa).plt;have bq:Below w.heap.size w w1.drew:=aa.drew;have ap:Hid (∀w',Below w1.heap.size w1 w'->w'.cell? ⟨af,aj,none⟩=some (.int .i64 x0)/\w'.cell? ⟨af,aj+1,none⟩=some (.int .i64 x1)/\af<w'.heap.size):=λw' hb=>⟨by rw [hb.cell (p:=⟨af,aj,none⟩) al];exact ar,by rw [hb.cell (p:=⟨af,aj+1,none⟩) al];exact aD,Nat.lt_of_lt_of_le al hb.size⟩;obtain ⟨z0,z1,z2⟩:=ap.out w1.drew (Below.refl _ _).drew;have au:Hid (∀out S',((((0<=x1/\x1<=4)/\x0<=9/\2*x1+1<=x0)/\out=okB/\S'=some (k0 x0.toNat x1.toNat))\/(¬ ((0<=x1/\x1<=4)/\x0<=9/\2*x1+1<=x0)/\out=erB 1/\S'=S))->Dln T S v l out T S'):=λout S' hd=>by
    rw [<- HV.out];exact .inr ⟨a2.out,by unfold Dac;(iterate 5 rewrite [if_neg (by decide)]);rw [if_pos (by decide),aq.out,aA.out,aC.out];exact ⟨rfl,hd⟩⟩
   obtain rfl:n=2:=hc;by_cases h1:0<=x1/\x1<=4
   ·have bE:IntKind.i64.wrap (2*x1)=2*x1:=by rw [IntKind.wrap_i64];omega
    have bF:IntKind.i64.wrap (2*x1+1)=2*x1+1:=by rw [IntKind.wrap_i64];omega
    by_cases h2:2*x1+1<=x0/\x0<=9
    ·obtain ⟨n',rfl⟩:∃n':Nat,x0=n':=⟨x0.toNat,by omega⟩;obtain ⟨t',rfl⟩:∃t':Nat,x1=t':=⟨x1.toNat,by omega⟩;have HD:Hid (Dln T S v l okB T (some (k0 n' t'))):=by have:=au.out okB (some (k0 n' t')) (.inl ⟨⟨h1,h2.2,h2.1⟩,rfl,by rw [Int.toNat_natCast,Int.toNat_natCast]⟩);exact this
     have a4:af≠p:=λe=>by have h5:=aZ.out _ rfl;rw [e] at h5;have h6:=H.out.plt;simp only at h5;omega
     have bG:p≠af:=λe=>a4 e.symm;go_wp2;go_quiet ((first | (go_at_call_of 35 (Value.int .i64 (t':Int));exact Calls.quiet_of_same (rInY (t':Int) 0 4 _ h1.1 h1.2)) | (go_at_call_of 35 (Value.int .i64 (n':Int));exact Calls.quiet_of_same (rInY (n':Int) (2*(t':Int)+1) 9 _ h2.1 h2.2))));have ag:Below w1.heap.size w1 (w1.drewN nq):=drewN_below (Below.refl _ _) nq;generalize w1.drewN nq=wq at *;have ab:=btr aa ag;clear z0 z1 z2 ar aD;obtain ⟨z0,z1,z2⟩:=ap.out wq ag;obtain ⟨y0,y1,y2⟩:=ap.out wq.drew ag.drew;have aE:Hid (∀w',Below wq.heap.size wq w'->∃qq,w'.cell? ⟨p,1,none⟩=some (.pointer qq)/\w'.frozen? ⟨p,1,none⟩=false/\p<w'.heap.size):=λw' hb=>by
      obtain ⟨qq,h5,_⟩:=(H.out.same (btr ab hb)).row;exact ⟨qq,by rw [cell_of_row w' p _ _ _ (0,0) h5];rfl,frozen_of_row w' p 1 _ _ h5,(Array.getElem?_eq_some_iff.1 h5).1⟩
     obtain ⟨qq,g0,g1,g2⟩:=aE.out wq (Below.refl _ _);go_wp2;go_region_held3 (λw'=>w'.cell? ⟨af,aj,none⟩=some (.int .i64 (n':Int))/\w'.cell? ⟨af,aj+1,none⟩=some (.int .i64 (t':Int))) (go_keep) (first | (go_at_call 36;refine (rNewStore n' t' _ (by omega) (by omega) (by omega)).mono ?_;rintro e w2 ⟨b,Hb,rfl,aF,aG,aH⟩;have am:Below wq.heap.size wq w2:=((Below.refl _ _).drew).trans (aH.mono (Nat.le_refl _));obtain ⟨f0,f1,f2⟩:=ap.out w2 (btr ag am);obtain ⟨qr,a5,a6,a7⟩:=aE.out w2 am))
     all_goals
      have HL:Hid (Lle w0 p G T S v l w (.returned (.string okB)) (w2.setCell ⟨p,1,none⟩ (.pointer (some ⟨b,0,none⟩)))):=Lle.keys H.out ab am aF aG rfl HD.out;clear aF aG aH f0 f1 f2 a5 a6 a7;go_wp2;go_ret;exact HL.out
    ·have a8:x0<2*x1+1\/9<x0:=by omega
     have av:Hid (Dln T S v l (erB 1) T S):=au.out _ _ (.inr ⟨λh=>h2 ⟨h.2.2,h.2.1⟩,rfl,rfl⟩);clear h2;go_wp2;go_quiet ((first | (go_at_call_of 35 (Value.int .i64 x1);exact Calls.quiet_of_same (rInY x1 0 4 _ h1.1 h1.2)) | (go_at_call_of 35 (Value.int .i64 x0);exact Calls.quiet_of_same (rInN x0 (2*x1+1) 9 _ a8))));have ag:Below w1.heap.size w1 (w1.drewN nq):=drewN_below (Below.refl _ _) nq;generalize w1.drewN nq=wq at *;have ab:=btr aa ag;have HD:=hid av.out;obtain ⟨ad,_⟩:=HT.out _ ab;go_wp2_with fail;refine (rWrong 1 _ (by omega) (by omega) ad).mono ?_;rintro e wz ⟨rfl,ae⟩;have ai:=btr ab ae;obtain ⟨X,HX⟩:=nmd (erB 1);rw [HX.out] at HD ⊢;clear ae ad;go_wp2;go_ret;exact Lle.quiet H.out ai HD.out
   ·have a9:x1<0\/4<x1:=by omega
    have av:Hid (Dln T S v l (erB 1) T S):=au.out _ _ (.inr ⟨λh=>h1 h.1,rfl,rfl⟩);clear h1;go_wp2;go_quiet ((go_at_call_of 35 (Value.int .i64 x1);exact Calls.quiet_of_same (rInN x1 0 4 _ a9)));have ag:Below w1.heap.size w1 (w1.drewN nq):=drewN_below (Below.refl _ _) nq;generalize w1.drewN nq=wq at *;have ab:=btr aa ag;have HD:=hid av.out;obtain ⟨ad,_⟩:=HT.out _ ab;go_wp2_with fail;refine (rWrong 1 _ (by omega) (by omega) ad).mono ?_;rintro e wz ⟨rfl,ae⟩;have ai:=btr ab ae;obtain ⟨X,HX⟩:=nmd (erB 1);rw [HX.out] at HD ⊢;clear ae ad;go_wp2;go_ret;exact Lle.quiet H.out ai HD.out
  ·have ba:Hid (¬ Syn vKeys l):=λhs=>hc (by rw [<- ah];exact ((syn_vKeys l).1 hs).2);have bH:((n:Int)==2)=false:=by rw [beq_eq_false_iff_ne];omega
   have HD:Hid (Dln T S v l (erB 3) T S):=by rw [<- HV.out];exact .inl ⟨ba.out,rfl,rfl,rfl⟩
   obtain ⟨ad,_⟩:=HT.out _ aa;go_wp2_with fail;refine (rWrong 3 _ (by omega) (by omega) ad).mono ?_;rintro e wz ⟨rfl,ae⟩;have ai:=btr aa ae;obtain ⟨X,HX⟩:=nmd (erB 3);rw [HX.out] at HD ⊢;clear ae ad;go_wp2;go_ret;exact Lle.quiet H.out ai HD.out
theorem rLineTwk (w0 w p G T S a n c l) (h:Bnc w0 w p G T S) (r:RdT w a n c l) (hn:n<=70000) (hTz:T.size<=2048) (hlast:∀s,S=some s->s.last<=1000000) (hT:Tabs w0) (hV:Vb w0):
  Calls Tryz.prog 14 #[.pointer (some ⟨p,0,none⟩),.string vTwk,.slice a n c] w (Lle w0 p G T S vTwk l w):=by
 obtain ⟨v,HV⟩:=nmd vTwk;have ay:=qf14 HV (by decide +kernel);have az:=qf4 HV (by decide +kernel);have aA:=qf6 HV (by decide +kernel);have aB:=qf8 HV (by decide +kernel);have aC:=qf1 HV (by decide +kernel);have av:=qf9 HV (by decide +kernel);have aD:=qf7 HV (by decide +kernel);have aE:=qf10 HV (by decide +kernel);have aI:(v.toList == [116,119,101,97,107])=true:=by rw [<- HV.out];decide +kernel
 have aF:=qf3 HV (by decide +kernel);have aJ:=qf5 HV (by decide +kernel);have aG:=qf11 HV (by decide +kernel);have aK:=qf12 HV (by decide +kernel);have aL:=qf0 HV (by decide +kernel);have aH:=qf13 HV (by decide +kernel);rw [HV.out];have ae:=r.len;have aT:=r.cap;have aw:=r.max;unfold maxLen at aw;have aU:=h.plt;have H:=hid h;have HT:Hid (∀w',Below w.heap.size w w'->Tabs w'/\Vb w'):=λw' hb=>⟨hT.below (btr h.bel hb),hV.below (btr h.bel hb)⟩;clear h;go_enter Tryz.func14,Tryz.ntmps14;go_wp2_with fail;refine (sIndexT _ _ _ l ⟨#[47]⟩ _ r).mono ?_;rintro e w1 ⟨sl,rfl,al,hw⟩;have hw:=hw.symm;subst hw;have aV:=al.bd;clear al;go_wp2_with fail;refine (rNumbers _ _ _ l _ r (by omega)).mono ?_;rintro e w1 ⟨⟨am,rfl⟩ | ⟨an,v1,rfl,ah⟩,aa⟩
 ·have aM:=hid am;clear am;have HD:Hid (Dln T S v l (erB 3) T S):=by rw [<- HV.out];exact .inl ⟨λhs=>aM.out (by rw [<- ae];exact ((syn_vTwk l).1 hs).1),rfl,rfl,rfl⟩
  obtain ⟨ab,_⟩:=HT.out _ aa;go_wp2_with fail;refine (rWrong 3 _ (by omega) (by omega) ab).mono ?_;rintro e wz ⟨rfl,ad⟩;have af:=btr aa ad;obtain ⟨X,HX⟩:=nmd (erB 3);rw [HX.out] at HD ⊢;clear ad ab;go_wp2;go_ret;exact Lle.quiet H.out af HD.out
 ·have ao:Hid (okn l l.length):=by unfold Hid;rw [ae];exact an
  have aj:Hid (∀x ∈ nba l,0<=x/\x<=9999999999):=nba_bd ao.out;obtain ⟨N,ak⟩:=nmd (nba l);have e0:nbl l n=N:=by rw [<- ak.out,<- ae];rfl
  rw [e0] at ah;rw [ak.out] at aj;obtain ⟨a1,c1,rfl,ai⟩:=RdI.own ah (λx hx=>by have:=aj.out x hx;omega);have aN:Hid (∀x,a1=some x->w.heap.size<=x.block):=λx hx=>by subst hx;exact (ah.lt x.block rfl).1
  have aW:=ai.len;have aX:=ai.cap;have aO:=ai.max;unfold maxLen at aO;clear an ah e0;by_cases hc:n=2
  ·have ap:Hid (Syn vTwk l):=(syn_vTwk l).2 ⟨ao.out,by rw [ae];exact hc⟩;obtain rfl:n=2:=hc;obtain ⟨q,ag,⟨hS,rfl⟩ | ⟨s,b,hS,rfl,aq⟩⟩:=(H.out.same aa).row
   ·subst hS;have ar:w1.cell? ⟨p,1,none⟩=some (.pointer none):=by rw [cell_of_row w1 p _ _ _ (0,0) ag];rfl
    have ax:=(H.out.same aa).plt;clear ag;have HD:Hid (Dln T none v l (erB 4) T none):=by rw [<- HV.out];exact .inr ⟨ap.out,by unfold Dac;(iterate 5 rewrite [if_neg (by decide)]);rw [if_neg (by decide)];exact ⟨rfl,.inl ⟨rfl,rfl,rfl⟩⟩⟩
    obtain ⟨ab,_⟩:=HT.out _ aa;go_wp2_with fail;refine (rWrong 4 _ (by omega) (by omega) ab).mono ?_;rintro e wz ⟨rfl,ad⟩;have af:=btr aa ad;obtain ⟨X,HX⟩:=nmd (erB 4);rw [HX.out] at HD ⊢;clear ad ab;go_wp2;go_ret;exact Lle.quiet H.out af HD.out
   ·subst hS;have ar:w1.cell? ⟨p,1,none⟩=some (.pointer (some ⟨b,0,none⟩)):=by rw [cell_of_row w1 p _ _ _ (0,0) ag];rfl
    have ax:=(H.out.same aa).plt;have au:Hid (Bs w0 w1 p b G T s):=⟨ag,aq,H.out.off,H.out.low,H.out.lp,(H.out.same aa).bel⟩;have aP:Hid (∀x,a1=some x->¬ G x.block):=λx hx g=>by have h1:=aN.out x hx;have h2:=H.out.lt _ g;omega
    have aQ:=hlast s rfl;have aR:Hid (∀out s',Dky vTwk N s out s'->Dln T (some s) v l out T (some s')):=λout s' hd=>by rw [<- HV.out];exact .inr ⟨ap.out,by unfold Dac;(iterate 5 rewrite [if_neg (by decide)]);rw [if_neg (by decide)];exact ⟨rfl,.inr ⟨s,s',rfl,rfl,by rw [ak.out];exact hd⟩⟩⟩
    clear ag aq hlast;go_wp2_with fail;rw [<- HV.out];refine (rKeyTwk w0 _ p b G T s _ _ _ N au.out ai aj.out (by omega) (by omega) aP.out hT aQ).mono ?_;intro e w2 hk;have HL:Hid (Lle w0 p G T (some s) v l w e w2):=Lle.key aa H.out (by rw [HV.out] at hk;exact hk) (λout s' hd=>aR.out out s' (by rw [HV.out];exact hd));obtain ⟨out,s',rfl,_⟩:=hk;clear ar au;go_wp2;go_ret;exact HL.out
  ·have aS:Hid (¬ Syn vTwk l):=λhs=>hc (by rw [<- ae];exact ((syn_vTwk l).1 hs).2);have aY:((n:Int)==2)=false:=by rw [beq_eq_false_iff_ne];omega
   have HD:Hid (Dln T S v l (erB 3) T S):=by rw [<- HV.out];exact .inl ⟨aS.out,rfl,rfl,rfl⟩
   obtain ⟨ab,_⟩:=HT.out _ aa;go_wp2_with fail;refine (rWrong 3 _ (by omega) (by omega) ab).mono ?_;rintro e wz ⟨rfl,ad⟩;have af:=btr aa ad;obtain ⟨X,HX⟩:=nmd (erB 3);rw [HX.out] at HD ⊢;clear ad ab;go_wp2;go_ret;exact Lle.quiet H.out af HD.out
theorem rLineComb (w0 w p G T S a n c l) (h:Bnc w0 w p G T S) (r:RdT w a n c l) (hn:n<=70000) (hTz:T.size<=2048) (hlast:∀s,S=some s->s.last<=1000000) (hT:Tabs w0) (hV:Vb w0):
  Calls Tryz.prog 14 #[.pointer (some ⟨p,0,none⟩),.string vComb,.slice a n c] w (Lle w0 p G T S vComb l w):=by
 obtain ⟨v,HV⟩:=nmd vComb;have ay:=qf14 HV (by decide +kernel);have az:=qf4 HV (by decide +kernel);have aA:=qf6 HV (by decide +kernel);have aB:=qf8 HV (by decide +kernel);have aC:=qf1 HV (by decide +kernel);have av:=qf9 HV (by decide +kernel);have aD:=qf7 HV (by decide +kernel);have aE:=qf10 HV (by decide +kernel);have aI:=qf2 HV (by decide +kernel);have aF:(v.toList == [99,111,109,98,105,110,101])=true:=by rw [<- HV.out];decide +kernel
 have aJ:=qf5 HV (by decide +kernel);have aG:=qf11 HV (by decide +kernel);have aK:=qf12 HV (by decide +kernel);have aL:=qf0 HV (by decide +kernel);have aH:=qf13 HV (by decide +kernel);rw [HV.out];have ae:=r.len;have aT:=r.cap;have aw:=r.max;unfold maxLen at aw;have aU:=h.plt;have H:=hid h;have HT:Hid (∀w',Below w.heap.size w w'->Tabs w'/\Vb w'):=λw' hb=>⟨hT.below (btr h.bel hb),hV.below (btr h.bel hb)⟩;clear h;go_enter Tryz.func14,Tryz.ntmps14;go_wp2_with fail;refine (sIndexT _ _ _ l ⟨#[47]⟩ _ r).mono ?_;rintro e w1 ⟨sl,rfl,al,hw⟩;have hw:=hw.symm;subst hw;have aV:=al.bd;clear al;go_wp2_with fail;refine (rNumbers _ _ _ l _ r (by omega)).mono ?_;rintro e w1 ⟨⟨am,rfl⟩ | ⟨an,v1,rfl,ah⟩,aa⟩
 ·have aM:=hid am;clear am;have HD:Hid (Dln T S v l (erB 3) T S):=by rw [<- HV.out];exact .inl ⟨λhs=>aM.out (by rw [<- ae];exact ((syn_vComb l).1 hs).1),rfl,rfl,rfl⟩
  obtain ⟨ab,_⟩:=HT.out _ aa;go_wp2_with fail;refine (rWrong 3 _ (by omega) (by omega) ab).mono ?_;rintro e wz ⟨rfl,ad⟩;have af:=btr aa ad;obtain ⟨X,HX⟩:=nmd (erB 3);rw [HX.out] at HD ⊢;clear ad ab;go_wp2;go_ret;exact Lle.quiet H.out af HD.out
 ·have ao:Hid (okn l l.length):=by unfold Hid;rw [ae];exact an
  have aj:Hid (∀x ∈ nba l,0<=x/\x<=9999999999):=nba_bd ao.out;obtain ⟨N,ak⟩:=nmd (nba l);have e0:nbl l n=N:=by rw [<- ak.out,<- ae];rfl
  rw [e0] at ah;rw [ak.out] at aj;obtain ⟨a1,c1,rfl,ai⟩:=RdI.own ah (λx hx=>by have:=aj.out x hx;omega);have aN:Hid (∀x,a1=some x->w.heap.size<=x.block):=λx hx=>by subst hx;exact (ah.lt x.block rfl).1
  have aW:=ai.len;have aX:=ai.cap;have aO:=ai.max;unfold maxLen at aO;clear an ah e0;by_cases hc:n=4
  ·have ap:Hid (Syn vComb l):=(syn_vComb l).2 ⟨ao.out,by rw [ae];exact hc⟩;obtain rfl:n=4:=hc;obtain ⟨q,ag,⟨hS,rfl⟩ | ⟨s,b,hS,rfl,aq⟩⟩:=(H.out.same aa).row
   ·subst hS;have ar:w1.cell? ⟨p,1,none⟩=some (.pointer none):=by rw [cell_of_row w1 p _ _ _ (0,0) ag];rfl
    have ax:=(H.out.same aa).plt;clear ag;have HD:Hid (Dln T none v l (erB 4) T none):=by rw [<- HV.out];exact .inr ⟨ap.out,by unfold Dac;(iterate 5 rewrite [if_neg (by decide)]);rw [if_neg (by decide)];exact ⟨rfl,.inl ⟨rfl,rfl,rfl⟩⟩⟩
    obtain ⟨ab,_⟩:=HT.out _ aa;go_wp2_with fail;refine (rWrong 4 _ (by omega) (by omega) ab).mono ?_;rintro e wz ⟨rfl,ad⟩;have af:=btr aa ad;obtain ⟨X,HX⟩:=nmd (erB 4);rw [HX.out] at HD ⊢;clear ad ab;go_wp2;go_ret;exact Lle.quiet H.out af HD.out
   ·subst hS;have ar:w1.cell? ⟨p,1,none⟩=some (.pointer (some ⟨b,0,none⟩)):=by rw [cell_of_row w1 p _ _ _ (0,0) ag];rfl
    have ax:=(H.out.same aa).plt;have au:Hid (Bs w0 w1 p b G T s):=⟨ag,aq,H.out.off,H.out.low,H.out.lp,(H.out.same aa).bel⟩;have aP:Hid (∀x,a1=some x->¬ G x.block):=λx hx g=>by have h1:=aN.out x hx;have h2:=H.out.lt _ g;omega
    have aQ:=hlast s rfl;have aR:Hid (∀out s',Dky vComb N s out s'->Dln T (some s) v l out T (some s')):=λout s' hd=>by rw [<- HV.out];exact .inr ⟨ap.out,by unfold Dac;(iterate 5 rewrite [if_neg (by decide)]);rw [if_neg (by decide)];exact ⟨rfl,.inr ⟨s,s',rfl,rfl,by rw [ak.out];exact hd⟩⟩⟩
    clear ag aq hlast;go_wp2_with fail;rw [<- HV.out];refine (rKeyComb w0 _ p b G T s _ _ _ N au.out ai aj.out (by omega) (by omega) aP.out hT aQ).mono ?_;intro e w2 hk;have HL:Hid (Lle w0 p G T (some s) v l w e w2):=Lle.key aa H.out (by rw [HV.out] at hk;exact hk) (λout s' hd=>aR.out out s' (by rw [HV.out];exact hd));obtain ⟨out,s',rfl,_⟩:=hk;clear ar au;go_wp2;go_ret;exact HL.out
  ·have aS:Hid (¬ Syn vComb l):=λhs=>hc (by rw [<- ae];exact ((syn_vComb l).1 hs).2);have aY:((n:Int)==4)=false:=by rw [beq_eq_false_iff_ne];omega
   have HD:Hid (Dln T S v l (erB 3) T S):=by rw [<- HV.out];exact .inl ⟨aS.out,rfl,rfl,rfl⟩
   obtain ⟨ab,_⟩:=HT.out _ aa;go_wp2_with fail;refine (rWrong 3 _ (by omega) (by omega) ab).mono ?_;rintro e wz ⟨rfl,ad⟩;have af:=btr aa ad;obtain ⟨X,HX⟩:=nmd (erB 3);rw [HX.out] at HD ⊢;clear ad ab;go_wp2;go_ret;exact Lle.quiet H.out af HD.out
theorem rLineKey (w0 w p G T S a n c l) (h:Bnc w0 w p G T S) (r:RdT w a n c l) (hn:n<=70000) (hTz:T.size<=2048) (hlast:∀s,S=some s->s.last<=1000000) (hT:Tabs w0) (hV:Vb w0):
  Calls Tryz.prog 14 #[.pointer (some ⟨p,0,none⟩),.string vKey,.slice a n c] w (Lle w0 p G T S vKey l w):=by
 obtain ⟨v,HV⟩:=nmd vKey;have ay:=qf14 HV (by decide +kernel);have az:=qf4 HV (by decide +kernel);have aA:=qf6 HV (by decide +kernel);have aB:=qf8 HV (by decide +kernel);have aC:=qf1 HV (by decide +kernel);have av:=qf9 HV (by decide +kernel);have aD:=qf7 HV (by decide +kernel);have aE:=qf10 HV (by decide +kernel);have aI:=qf2 HV (by decide +kernel);have aF:=qf3 HV (by decide +kernel);have aJ:(v.toList == [107,101,121])=true:=by rw [<- HV.out];decide +kernel
 have aG:=qf11 HV (by decide +kernel);have aK:=qf12 HV (by decide +kernel);have aL:=qf0 HV (by decide +kernel);have aH:=qf13 HV (by decide +kernel);rw [HV.out];have ae:=r.len;have aT:=r.cap;have aw:=r.max;unfold maxLen at aw;have aU:=h.plt;have H:=hid h;have HT:Hid (∀w',Below w.heap.size w w'->Tabs w'/\Vb w'):=λw' hb=>⟨hT.below (btr h.bel hb),hV.below (btr h.bel hb)⟩;clear h;go_enter Tryz.func14,Tryz.ntmps14;go_wp2_with fail;refine (sIndexT _ _ _ l ⟨#[47]⟩ _ r).mono ?_;rintro e w1 ⟨sl,rfl,al,hw⟩;have hw:=hw.symm;subst hw;have aV:=al.bd;clear al;go_wp2_with fail;refine (rNumbers _ _ _ l _ r (by omega)).mono ?_;rintro e w1 ⟨⟨am,rfl⟩ | ⟨an,v1,rfl,ah⟩,aa⟩
 ·have aM:=hid am;clear am;have HD:Hid (Dln T S v l (erB 3) T S):=by rw [<- HV.out];exact .inl ⟨λhs=>aM.out (by rw [<- ae];exact ((syn_vKey l).1 hs).1),rfl,rfl,rfl⟩
  obtain ⟨ab,_⟩:=HT.out _ aa;go_wp2_with fail;refine (rWrong 3 _ (by omega) (by omega) ab).mono ?_;rintro e wz ⟨rfl,ad⟩;have af:=btr aa ad;obtain ⟨X,HX⟩:=nmd (erB 3);rw [HX.out] at HD ⊢;clear ad ab;go_wp2;go_ret;exact Lle.quiet H.out af HD.out
 ·have ao:Hid (okn l l.length):=by unfold Hid;rw [ae];exact an
  have aj:Hid (∀x ∈ nba l,0<=x/\x<=9999999999):=nba_bd ao.out;obtain ⟨N,ak⟩:=nmd (nba l);have e0:nbl l n=N:=by rw [<- ak.out,<- ae];rfl
  rw [e0] at ah;rw [ak.out] at aj;obtain ⟨a1,c1,rfl,ai⟩:=RdI.own ah (λx hx=>by have:=aj.out x hx;omega);have aN:Hid (∀x,a1=some x->w.heap.size<=x.block):=λx hx=>by subst hx;exact (ah.lt x.block rfl).1
  have aW:=ai.len;have aX:=ai.cap;have aO:=ai.max;unfold maxLen at aO;clear an ah e0;by_cases hc:n=1
  ·have ap:Hid (Syn vKey l):=(syn_vKey l).2 ⟨ao.out,by rw [ae];exact hc⟩;obtain rfl:n=1:=hc;obtain ⟨q,ag,⟨hS,rfl⟩ | ⟨s,b,hS,rfl,aq⟩⟩:=(H.out.same aa).row
   ·subst hS;have ar:w1.cell? ⟨p,1,none⟩=some (.pointer none):=by rw [cell_of_row w1 p _ _ _ (0,0) ag];rfl
    have ax:=(H.out.same aa).plt;clear ag;have HD:Hid (Dln T none v l (erB 4) T none):=by rw [<- HV.out];exact .inr ⟨ap.out,by unfold Dac;(iterate 5 rewrite [if_neg (by decide)]);rw [if_neg (by decide)];exact ⟨rfl,.inl ⟨rfl,rfl,rfl⟩⟩⟩
    obtain ⟨ab,_⟩:=HT.out _ aa;go_wp2_with fail;refine (rWrong 4 _ (by omega) (by omega) ab).mono ?_;rintro e wz ⟨rfl,ad⟩;have af:=btr aa ad;obtain ⟨X,HX⟩:=nmd (erB 4);rw [HX.out] at HD ⊢;clear ad ab;go_wp2;go_ret;exact Lle.quiet H.out af HD.out
   ·subst hS;have ar:w1.cell? ⟨p,1,none⟩=some (.pointer (some ⟨b,0,none⟩)):=by rw [cell_of_row w1 p _ _ _ (0,0) ag];rfl
    have ax:=(H.out.same aa).plt;have au:Hid (Bs w0 w1 p b G T s):=⟨ag,aq,H.out.off,H.out.low,H.out.lp,(H.out.same aa).bel⟩;have aP:Hid (∀x,a1=some x->¬ G x.block):=λx hx g=>by have h1:=aN.out x hx;have h2:=H.out.lt _ g;omega
    have aQ:=hlast s rfl;have aR:Hid (∀out s',Dky vKey N s out s'->Dln T (some s) v l out T (some s')):=λout s' hd=>by rw [<- HV.out];exact .inr ⟨ap.out,by unfold Dac;(iterate 5 rewrite [if_neg (by decide)]);rw [if_neg (by decide)];exact ⟨rfl,.inr ⟨s,s',rfl,rfl,by rw [ak.out];exact hd⟩⟩⟩
    clear ag aq hlast;go_wp2_with fail;rw [<- HV.out];refine (rKeyKey w0 _ p b G T s _ _ _ N au.out ai aj.out (by omega) (by omega) aP.out hT aQ).mono ?_;intro e w2 hk;have HL:Hid (Lle w0 p G T (some s) v l w e w2):=Lle.key aa H.out (by rw [HV.out] at hk;exact hk) (λout s' hd=>aR.out out s' (by rw [HV.out];exact hd));obtain ⟨out,s',rfl,_⟩:=hk;clear ar au;go_wp2;go_ret;exact HL.out
  ·have aS:Hid (¬ Syn vKey l):=λhs=>hc (by rw [<- ae];exact ((syn_vKey l).1 hs).2);have aY:((n:Int)==1)=false:=by rw [beq_eq_false_iff_ne];omega
   have HD:Hid (Dln T S v l (erB 3) T S):=by rw [<- HV.out];exact .inl ⟨aS.out,rfl,rfl,rfl⟩
   obtain ⟨ab,_⟩:=HT.out _ aa;go_wp2_with fail;refine (rWrong 3 _ (by omega) (by omega) ab).mono ?_;rintro e wz ⟨rfl,ad⟩;have af:=btr aa ad;obtain ⟨X,HX⟩:=nmd (erB 3);rw [HX.out] at HD ⊢;clear ad ab;go_wp2;go_ret;exact Lle.quiet H.out af HD.out
theorem rLineDrop (w0 w p G T S a n c l) (h:Bnc w0 w p G T S) (r:RdT w a n c l) (hn:n<=70000) (hTz:T.size<=2048) (hlast:∀s,S=some s->s.last<=1000000) (hT:Tabs w0) (hV:Vb w0):
  Calls Tryz.prog 14 #[.pointer (some ⟨p,0,none⟩),.string vDrop,.slice a n c] w (Lle w0 p G T S vDrop l w):=by
 obtain ⟨v,HV⟩:=nmd vDrop;have ay:=qf14 HV (by decide +kernel);have az:=qf4 HV (by decide +kernel);have aA:=qf6 HV (by decide +kernel);have aB:=qf8 HV (by decide +kernel);have aC:=qf1 HV (by decide +kernel);have av:=qf9 HV (by decide +kernel);have aD:=qf7 HV (by decide +kernel);have aE:=qf10 HV (by decide +kernel);have aI:=qf2 HV (by decide +kernel);have aF:=qf3 HV (by decide +kernel);have aJ:=qf5 HV (by decide +kernel);have aG:(v.toList == [100,114,111,112])=true:=by rw [<- HV.out];decide +kernel
 have aK:=qf12 HV (by decide +kernel);have aL:=qf0 HV (by decide +kernel);have aH:=qf13 HV (by decide +kernel);rw [HV.out];have ae:=r.len;have aT:=r.cap;have aw:=r.max;unfold maxLen at aw;have aU:=h.plt;have H:=hid h;have HT:Hid (∀w',Below w.heap.size w w'->Tabs w'/\Vb w'):=λw' hb=>⟨hT.below (btr h.bel hb),hV.below (btr h.bel hb)⟩;clear h;go_enter Tryz.func14,Tryz.ntmps14;go_wp2_with fail;refine (sIndexT _ _ _ l ⟨#[47]⟩ _ r).mono ?_;rintro e w1 ⟨sl,rfl,al,hw⟩;have hw:=hw.symm;subst hw;have aV:=al.bd;clear al;go_wp2_with fail;refine (rNumbers _ _ _ l _ r (by omega)).mono ?_;rintro e w1 ⟨⟨am,rfl⟩ | ⟨an,v1,rfl,ah⟩,aa⟩
 ·have aM:=hid am;clear am;have HD:Hid (Dln T S v l (erB 3) T S):=by rw [<- HV.out];exact .inl ⟨λhs=>aM.out (by rw [<- ae];exact ((syn_vDrop l).1 hs).1),rfl,rfl,rfl⟩
  obtain ⟨ab,_⟩:=HT.out _ aa;go_wp2_with fail;refine (rWrong 3 _ (by omega) (by omega) ab).mono ?_;rintro e wz ⟨rfl,ad⟩;have af:=btr aa ad;obtain ⟨X,HX⟩:=nmd (erB 3);rw [HX.out] at HD ⊢;clear ad ab;go_wp2;go_ret;exact Lle.quiet H.out af HD.out
 ·have ao:Hid (okn l l.length):=by unfold Hid;rw [ae];exact an
  have aj:Hid (∀x ∈ nba l,0<=x/\x<=9999999999):=nba_bd ao.out;obtain ⟨N,ak⟩:=nmd (nba l);have e0:nbl l n=N:=by rw [<- ak.out,<- ae];rfl
  rw [e0] at ah;rw [ak.out] at aj;obtain ⟨a1,c1,rfl,ai⟩:=RdI.own ah (λx hx=>by have:=aj.out x hx;omega);have aN:Hid (∀x,a1=some x->w.heap.size<=x.block):=λx hx=>by subst hx;exact (ah.lt x.block rfl).1
  have aW:=ai.len;have aX:=ai.cap;have aO:=ai.max;unfold maxLen at aO;clear an ah e0;by_cases hc:n=1
  ·have ap:Hid (Syn vDrop l):=(syn_vDrop l).2 ⟨ao.out,by rw [ae];exact hc⟩;obtain rfl:n=1:=hc;obtain ⟨q,ag,⟨hS,rfl⟩ | ⟨s,b,hS,rfl,aq⟩⟩:=(H.out.same aa).row
   ·subst hS;have ar:w1.cell? ⟨p,1,none⟩=some (.pointer none):=by rw [cell_of_row w1 p _ _ _ (0,0) ag];rfl
    have ax:=(H.out.same aa).plt;clear ag;have HD:Hid (Dln T none v l (erB 4) T none):=by rw [<- HV.out];exact .inr ⟨ap.out,by unfold Dac;(iterate 5 rewrite [if_neg (by decide)]);rw [if_neg (by decide)];exact ⟨rfl,.inl ⟨rfl,rfl,rfl⟩⟩⟩
    obtain ⟨ab,_⟩:=HT.out _ aa;go_wp2_with fail;refine (rWrong 4 _ (by omega) (by omega) ab).mono ?_;rintro e wz ⟨rfl,ad⟩;have af:=btr aa ad;obtain ⟨X,HX⟩:=nmd (erB 4);rw [HX.out] at HD ⊢;clear ad ab;go_wp2;go_ret;exact Lle.quiet H.out af HD.out
   ·subst hS;have ar:w1.cell? ⟨p,1,none⟩=some (.pointer (some ⟨b,0,none⟩)):=by rw [cell_of_row w1 p _ _ _ (0,0) ag];rfl
    have ax:=(H.out.same aa).plt;have au:Hid (Bs w0 w1 p b G T s):=⟨ag,aq,H.out.off,H.out.low,H.out.lp,(H.out.same aa).bel⟩;have aP:Hid (∀x,a1=some x->¬ G x.block):=λx hx g=>by have h1:=aN.out x hx;have h2:=H.out.lt _ g;omega
    have aQ:=hlast s rfl;have aR:Hid (∀out s',Dky vDrop N s out s'->Dln T (some s) v l out T (some s')):=λout s' hd=>by rw [<- HV.out];exact .inr ⟨ap.out,by unfold Dac;(iterate 5 rewrite [if_neg (by decide)]);rw [if_neg (by decide)];exact ⟨rfl,.inr ⟨s,s',rfl,rfl,by rw [ak.out];exact hd⟩⟩⟩
    clear ag aq hlast;go_wp2_with fail;rw [<- HV.out];refine (rKeyDrop w0 _ p b G T s _ _ _ N au.out ai aj.out (by omega) (by omega) aP.out hT aQ).mono ?_;intro e w2 hk;have HL:Hid (Lle w0 p G T (some s) v l w e w2):=Lle.key aa H.out (by rw [HV.out] at hk;exact hk) (λout s' hd=>aR.out out s' (by rw [HV.out];exact hd));obtain ⟨out,s',rfl,_⟩:=hk;clear ar au;go_wp2;go_ret;exact HL.out
  ·have aS:Hid (¬ Syn vDrop l):=λhs=>hc (by rw [<- ae];exact ((syn_vDrop l).1 hs).2);have aY:((n:Int)==1)=false:=by rw [beq_eq_false_iff_ne];omega
   have HD:Hid (Dln T S v l (erB 3) T S):=by rw [<- HV.out];exact .inl ⟨aS.out,rfl,rfl,rfl⟩
   obtain ⟨ab,_⟩:=HT.out _ aa;go_wp2_with fail;refine (rWrong 3 _ (by omega) (by omega) ab).mono ?_;rintro e wz ⟨rfl,ad⟩;have af:=btr aa ad;obtain ⟨X,HX⟩:=nmd (erB 3);rw [HX.out] at HD ⊢;clear ad ab;go_wp2;go_ret;exact Lle.quiet H.out af HD.out
theorem rLineRun (w0 w p G T S a n c l) (h:Bnc w0 w p G T S) (r:RdT w a n c l) (hn:n<=70000) (hTz:T.size<=2048) (hlast:∀s,S=some s->s.last<=1000000) (hT:Tabs w0) (hV:Vb w0):
  Calls Tryz.prog 14 #[.pointer (some ⟨p,0,none⟩),.string vRun,.slice a n c] w (Lle w0 p G T S vRun l w):=by
 obtain ⟨v,HV⟩:=nmd vRun;have aw:=qf14 HV (by decide +kernel);have ax:=qf4 HV (by decide +kernel);have ay:=qf6 HV (by decide +kernel);have az:=qf8 HV (by decide +kernel);have aA:=qf1 HV (by decide +kernel);have au:=qf9 HV (by decide +kernel);have aB:=qf7 HV (by decide +kernel);have aC:=qf10 HV (by decide +kernel);have aG:=qf2 HV (by decide +kernel);have aD:=qf3 HV (by decide +kernel);have aH:=qf5 HV (by decide +kernel);have aE:=qf11 HV (by decide +kernel);have aI:(v.toList == [114,117,110])=true:=by rw [<- HV.out];decide +kernel
 have aJ:=qf0 HV (by decide +kernel);have aF:=qf13 HV (by decide +kernel);rw [HV.out];have ad:=r.len;have aQ:=r.cap;have av:=r.max;unfold maxLen at av;have aS:=h.plt;have H:=hid h;have HT:Hid (∀w',Below w.heap.size w w'->Tabs w'/\Vb w'):=λw' hb=>⟨hT.below (btr h.bel hb),hV.below (btr h.bel hb)⟩;clear h;go_enter Tryz.func14,Tryz.ntmps14;go_wp2_with fail;refine (sIndexT _ _ _ l ⟨#[47]⟩ _ r).mono ?_;rintro e w1 ⟨sl,rfl,aj,hw⟩;have hw:=hw.symm;subst hw;have aT:=aj.bd;clear aj;go_wp2_with fail;refine (rNumbers _ _ _ l _ r (by omega)).mono ?_;rintro e w1 ⟨⟨ak,rfl⟩ | ⟨al,v1,rfl,ae⟩,aa⟩
 ·have aK:=hid ak;clear ak;have HD:Hid (Dln T S v l (erB 3) T S):=by rw [<- HV.out];exact .inl ⟨λhs=>aK.out (by rw [<- ad];exact ((syn_vRun l).1 hs).1),rfl,rfl,rfl⟩
  obtain ⟨ab,_⟩:=HT.out _ aa;go_wp2_with fail;refine (rWrong 3 _ (by omega) (by omega) ab).mono ?_;rintro e wz ⟨rfl,am⟩;have ag:=btr aa am;obtain ⟨X,HX⟩:=nmd (erB 3);rw [HX.out] at HD ⊢;clear am ab;go_wp2;go_ret;exact Lle.quiet H.out ag HD.out
 ·have an:Hid (okn l l.length):=by unfold Hid;rw [ad];exact al
  have ah:Hid (∀x ∈ nba l,0<=x/\x<=9999999999):=nba_bd an.out;obtain ⟨N,ai⟩:=nmd (nba l);have e0:nbl l n=N:=by rw [<- ai.out,<- ad];rfl
  rw [e0] at ae;rw [ai.out] at ah;obtain ⟨a1,c1,rfl,af⟩:=RdI.own ae (λx hx=>by have:=ah.out x hx;omega);have aU:Hid (∀x,a1=some x->w.heap.size<=x.block):=λx hx=>by subst hx;exact (ae.lt x.block rfl).1
  have aV:=af.len;have aW:=af.cap;have aL:=af.max;unfold maxLen at aL;clear al ae e0;have aM:Hid (Syn vRun l):=(syn_vRun l).2 ⟨an.out,trivial⟩;obtain ⟨ao,aN⟩:=(H.out.same aa).text;have aR:=(H.out.same aa).plt;obtain ⟨ab,ap⟩:=HT.out w1 aa;have aO:Hid (∀out,Cir vRun N 0 T out->Dln T S v l out T S):=λout hc=>by rw [<- HV.out];exact .inr ⟨aM.out,by unfold Dac;(iterate 4 rewrite [if_neg (by decide)]);rw [if_pos (by decide)];exact cir_dac hc (by rw [<- ai.out];exact dci_run l 0)⟩
  go_wp2_with fail;rw [<- HV.out];refine (rCircRun p T _ _ _ N _ _ _ [] _ ao (by omega) af ⟨rfl,Nat.le_refl _,Nat.zero_le _,by simp,λ_=>rfl,by simp⟩ ah.out (by omega) (by omega) ab ap).mono ?_;rintro e w2 ⟨out,rfl,aq,ar⟩;have ag:=btr aa ar;have aP:Hid (Dln T S v l out T S):=aO.out out aq;clear aq ar ab ap ao aN;go_wp2;go_ret;rw [HV.out];exact Lle.quiet H.out ag aP.out
theorem rLineGen (w0 w p G T S a n c l) (h:Bnc w0 w p G T S) (r:RdT w a n c l) (hn:n<=70000) (hTz:T.size<=2048) (hlast:∀s,S=some s->s.last<=1000000) (hT:Tabs w0) (hV:Vb w0):
  Calls Tryz.prog 14 #[.pointer (some ⟨p,0,none⟩),.string vGen,.slice a n c] w (Lle w0 p G T S vGen l w):=by
 obtain ⟨v,HV⟩:=nmd vGen;have ay:=qf14 HV (by decide +kernel);have az:=qf4 HV (by decide +kernel);have aA:=qf6 HV (by decide +kernel);have aB:=qf8 HV (by decide +kernel);have aC:=qf1 HV (by decide +kernel);have av:=qf9 HV (by decide +kernel);have aD:=qf7 HV (by decide +kernel);have aE:=qf10 HV (by decide +kernel);have aI:=qf2 HV (by decide +kernel);have aF:=qf3 HV (by decide +kernel);have aJ:=qf5 HV (by decide +kernel);have aG:=qf11 HV (by decide +kernel);have aK:=qf12 HV (by decide +kernel);have aL:(v.toList == [103,101,110])=true:=by rw [<- HV.out];decide +kernel
 have aH:=qf13 HV (by decide +kernel);rw [HV.out];have af:=r.len;have aS:=r.cap;have aw:=r.max;unfold maxLen at aw;have aT:=h.plt;have H:=hid h;have HT:Hid (∀w',Below w.heap.size w w'->Tabs w'/\Vb w'):=λw' hb=>⟨hT.below (btr h.bel hb),hV.below (btr h.bel hb)⟩;clear h;go_enter Tryz.func14,Tryz.ntmps14;go_wp2_with fail;refine (sIndexT _ _ _ l ⟨#[47]⟩ _ r).mono ?_;rintro e w1 ⟨sl,rfl,al,hw⟩;have hw:=hw.symm;subst hw;have aU:=al.bd;clear al;go_wp2_with fail;refine (rNumbers _ _ _ l _ r (by omega)).mono ?_;rintro e w1 ⟨⟨am,rfl⟩ | ⟨an,v1,rfl,ag⟩,aa⟩
 ·have aM:=hid am;clear am;have HD:Hid (Dln T S v l (erB 3) T S):=by rw [<- HV.out];exact .inl ⟨λhs=>aM.out (by rw [<- af];exact ((syn_vGen l).1 hs).1),rfl,rfl,rfl⟩
  obtain ⟨ab,_⟩:=HT.out _ aa;go_wp2_with fail;refine (rWrong 3 _ (by omega) (by omega) ab).mono ?_;rintro e wz ⟨rfl,ad⟩;have ai:=btr aa ad;obtain ⟨X,HX⟩:=nmd (erB 3);rw [HX.out] at HD ⊢;clear ad ab;go_wp2;go_ret;exact Lle.quiet H.out ai HD.out
 ·have ao:Hid (okn l l.length):=by unfold Hid;rw [af];exact an
  have aj:Hid (∀x ∈ nba l,0<=x/\x<=9999999999):=nba_bd ao.out;obtain ⟨N,ak⟩:=nmd (nba l);have e0:nbl l n=N:=by rw [<- ak.out,<- af];rfl
  rw [e0] at ag;rw [ak.out] at aj;obtain ⟨a1,c1,rfl,ah⟩:=RdI.own ag (λx hx=>by have:=aj.out x hx;omega);have aN:Hid (∀x,a1=some x->w.heap.size<=x.block):=λx hx=>by subst hx;exact (ag.lt x.block rfl).1
  have aV:=ah.len;have aW:=ah.cap;have aO:=ah.max;unfold maxLen at aO;clear an ag e0;have ap:Hid (Syn vGen l):=(syn_vGen l).2 ⟨ao.out,trivial⟩;obtain ⟨q,ae,⟨hS,rfl⟩ | ⟨s,b,hS,rfl,aq⟩⟩:=(H.out.same aa).row
  ·subst hS;have ar:w1.cell? ⟨p,1,none⟩=some (.pointer none):=by rw [cell_of_row w1 p _ _ _ (0,0) ae];rfl
   have ax:=(H.out.same aa).plt;clear ae;have HD:Hid (Dln T none v l (erB 4) T none):=by rw [<- HV.out];exact .inr ⟨ap.out,by unfold Dac;(iterate 5 rewrite [if_neg (by decide)]);rw [if_neg (by decide)];exact ⟨rfl,.inl ⟨rfl,rfl,rfl⟩⟩⟩
   obtain ⟨ab,_⟩:=HT.out _ aa;go_wp2_with fail;refine (rWrong 4 _ (by omega) (by omega) ab).mono ?_;rintro e wz ⟨rfl,ad⟩;have ai:=btr aa ad;obtain ⟨X,HX⟩:=nmd (erB 4);rw [HX.out] at HD ⊢;clear ad ab;go_wp2;go_ret;exact Lle.quiet H.out ai HD.out
  ·subst hS;have ar:w1.cell? ⟨p,1,none⟩=some (.pointer (some ⟨b,0,none⟩)):=by rw [cell_of_row w1 p _ _ _ (0,0) ae];rfl
   have ax:=(H.out.same aa).plt;have au:Hid (Bs w0 w1 p b G T s):=⟨ae,aq,H.out.off,H.out.low,H.out.lp,(H.out.same aa).bel⟩;have aP:Hid (∀x,a1=some x->¬ G x.block):=λx hx g=>by have h1:=aN.out x hx;have h2:=H.out.lt _ g;omega
   have aQ:=hlast s rfl;have aR:Hid (∀out s',Dky vGen N s out s'->Dln T (some s) v l out T (some s')):=λout s' hd=>by rw [<- HV.out];exact .inr ⟨ap.out,by unfold Dac;(iterate 5 rewrite [if_neg (by decide)]);rw [if_neg (by decide)];exact ⟨rfl,.inr ⟨s,s',rfl,rfl,by rw [ak.out];exact hd⟩⟩⟩
   clear ae aq hlast;go_wp2_with fail;rw [<- HV.out];refine (rKeyGen w0 _ p b G T s _ _ _ N au.out ah aj.out (by omega) (by omega) aP.out hT aQ).mono ?_;intro e w2 hk;have HL:Hid (Lle w0 p G T (some s) v l w e w2):=Lle.key aa H.out (by rw [HV.out] at hk;exact hk) (λout s' hd=>aR.out out s' (by rw [HV.out];exact hd));obtain ⟨out,s',rfl,_⟩:=hk;clear ar au;go_wp2;go_ret;exact HL.out
theorem rLineCirc (w0 w p G T S a n c l) (h:Bnc w0 w p G T S) (r:RdT w a n c l) (hn:n<=70000) (hTz:T.size<=2048) (hlast:∀s,S=some s->s.last<=1000000) (hwz:∀i,i<n->(tx l i).size<=70000) (hT:Tabs w0) (hV:Vb w0):
  Calls Tryz.prog 14 #[.pointer (some ⟨p,0,none⟩),.string vCirc,.slice a n c] w (Lle w0 p G T S vCirc l w):=by
 obtain ⟨v,HV⟩:=nmd vCirc;have ao:=qf14 HV (by decide +kernel);have ap:=qf4 HV (by decide +kernel);have aq:=qf6 HV (by decide +kernel);have ar:=qf8 HV (by decide +kernel);have au:=qf1 HV (by decide +kernel);have al:=qf9 HV (by decide +kernel);have av:=qf7 HV (by decide +kernel);have aw:=qf10 HV (by decide +kernel);have aA:=qf2 HV (by decide +kernel);have ax:=qf3 HV (by decide +kernel);have aB:=qf5 HV (by decide +kernel);have ay:=qf11 HV (by decide +kernel);have aC:=qf12 HV (by decide +kernel);have aD:=qf0 HV (by decide +kernel);have az:(v.toList == [99,105,114,99,117,105,116])=true:=by rw [<- HV.out];decide +kernel
 rw [HV.out];have am:=r.len;have aM:=r.cap;have an:=r.max;unfold maxLen at an;have aO:=h.plt;have H:=hid h;have HT:Hid (∀w',Below w.heap.size w w'->Tabs w'/\Vb w'):=λw' hb=>⟨hT.below (btr h.bel hb),hV.below (btr h.bel hb)⟩;obtain ⟨aP,aQ⟩:=h.text;have ai:=hid hwz;have aE:Hid (∀k,k<=n->(jnw l k).size<=70001*k):=λk hk=>jnw_size (λi hi=>ai.out i (by omega)) k hk;clear h hwz;go_enter Tryz.func14,Tryz.ntmps14;go_wp2;go_loopw [7,8] (λvv q wr=>∃k:Nat,k<=n/\q = .int .i64 (k:Int)/\vv = .string (jnw l k)/\wr=w) (λ_ q _=>n-(intOf q).toNat)
 case atStart=>exact ⟨0,Nat.zero_le _,rfl,rfl,rfl⟩
 case round=>
  obtain ⟨k,hk,rfl,rfl,hw⟩:=hrel;have hw:=hw.symm;subst hw;have hz:=aE.out k hk;obtain ⟨J,HJ⟩:=nmd (jnw l k);by_cases hlt:k<n
  ·obtain ⟨b,o,x,rfl,aR,HX,aS,aF⟩:=r.one hlt;have aG:=ai.out k hlt;rw [HX.out] at aG;have aN:(k:Int)<(n:Int):=by omega
   have HN:Hid (jnw l (k+1)=(if k=0 then mt else J++spB)++x):=by unfold Hid;rw [jnw,HX.out,HJ.out]
   rw [HJ.out] at hz ⊢;by_cases hk0:k=0
   ·subst hk0;have aH:Hid (J=mt):=by unfold Hid;rw [<- HJ.out];rfl
    have a2:=add_big (P:=Tryz.prog) J x (by omega);rw [Nat.add_zero] at aF;have aT:0<n:=hlt;go_wp2;go_roundw
    case rel=>exact ⟨1,by omega,by go_num,by rw [show (1:Nat)=0+1 from rfl,HN.out,if_pos rfl,aH.out],trivial⟩
    case measure=>simp [intOf];omega
   ·have aU:(0:Int)<(k:Int):=by omega
    have a1:=add_big (P:=Tryz.prog) J ⟨#[32]⟩ (by have:=sp_size;omega);obtain ⟨T2,ae⟩:=nmd (J++⟨#[32]⟩);have aI:T2.size<=70001*k+1:=by rw [<- ae.out,ByteArray.size_append];have:=sp_size;omega
    rw [ae.out] at a1;have a2:=add_big (P:=Tryz.prog) T2 x (by omega);go_wp2;go_roundw
    case rel=>exact ⟨k+1,by omega,by go_num,by rw [HN.out,if_neg hk0,<- ae.out];rfl,trivial⟩
    case measure=>simp [intOf];omega
  ·obtain rfl:k=n:=by omega
   have aV:¬ ((k:Int)<(k:Int)):=by omega
   rw [HJ.out] at hz ⊢;have aa:Below w.heap.size w w:=Below.refl _ _;by_cases hk0:k=0
   ·have aJ:Hid (¬ Syn vCirc l):=λhs=>by unfold Syn at hs;rw [if_pos rfl] at hs;omega
    have aK:((k:Int)==0)=true:=by rw [beq_iff_eq];omega
    have HD:Hid (Dln T S v l (erB 3) T S):=by rw [<- HV.out];exact .inl ⟨aJ.out,rfl,rfl,rfl⟩
    obtain ⟨ab,_⟩:=HT.out _ aa;go_wp2_with fail;refine (rWrong 3 _ (by omega) (by omega) ab).mono ?_;rintro e wz ⟨rfl,ad⟩;have af:=btr aa ad;obtain ⟨X,HX⟩:=nmd (erB 3);rw [HX.out] at HD ⊢;clear ad ab;go_wp2;go_ret;exact Lle.quiet H.out af HD.out
   ·have aj:Hid (Syn vCirc l):=by unfold Hid Syn;rw [if_pos rfl];omega
    have aK:((k:Int)==0)=false:=by rw [beq_eq_false_iff_ne];omega
    have ak:Hid (jnw l l.length=J):=by unfold Hid;rw [am];exact HJ.out
    clear hk0;by_cases hbig:2048<T.size+J.size+1
    ·have aL:(2048:Int)<(T.size:Int)+(J.size:Int)+1:=by omega
     have ag:Hid (Dac T S vCirc l (erB 2) T S):=by unfold Hid Dac;rw [if_pos rfl,ak.out];exact ⟨rfl,.inl ⟨hbig,rfl,rfl⟩⟩
     clear hbig;have HD:Hid (Dln T S v l (erB 2) T S):=by rw [<- HV.out];exact .inr ⟨aj.out,ag.out⟩
     obtain ⟨ab,_⟩:=HT.out _ aa;go_wp2_with fail;refine (rWrong 2 _ (by omega) (by omega) ab).mono ?_;rintro e wz ⟨rfl,ad⟩;have af:=btr aa ad;obtain ⟨X,HX⟩:=nmd (erB 2);rw [HX.out] at HD ⊢;clear ad ab;go_wp2;go_ret;exact Lle.quiet H.out af HD.out
    ·have aL:¬ ((2048:Int)<(T.size:Int)+(J.size:Int)+1):=by omega
     have ag:Hid (Dac T S vCirc l okB (T++(J++nlB)) S):=by unfold Hid Dac;rw [if_pos rfl,ak.out];exact ⟨rfl,.inr ⟨by omega,rfl,rfl⟩⟩
     have HD:Hid (Dln T S v l okB (T++(J++nlB)) S):=by rw [<- HV.out];exact .inr ⟨aj.out,ag.out⟩
     have a1:=add_big (P:=Tryz.prog) J ⟨#[10]⟩ (by have:=nl_size;omega);obtain ⟨J2,ah⟩:=nmd (J++⟨#[10]⟩);have aI:J2.size<=70001*k+1:=by rw [<- ah.out,ByteArray.size_append];have:=nl_size;omega
     rw [ah.out] at a1;have a2:=add_big (P:=Tryz.prog) T J2 (by omega);have HL:Hid (Lle w0 p G T S v l w (.returned (.string okB)) (w.setCell ⟨p,0,none⟩ (.string (T++J2)))):=Lle.text H.out aa (by have:=HD.out;rw [show J++nlB=J2 from ah.out] at this;exact this);clear hbig;go_wp2;go_ret;exact HL.out
theorem lit_no {v y:ByteArray} {l:List UInt8} (h:v≠y) (e:y.toList=l):(v.toList==l)=false:=by rw [<- e];exact tl_no h
theorem rLineElse (w0 w p G T S) (v:ByteArray) (a n c l) (h:Bnc w0 w p G T S) (r:RdT w a n c l) (hn:n<=70000) (hT:Tabs w0) (hV:Vb w0) (n_vDeal:v≠vDeal) (n_vMult:v≠vMult) (n_vWork:v≠vWork) (n_vOpen:v≠vOpen) (n_vRefr:v≠vRefr) (n_vClear:v≠vClear) (n_vShow:v≠vShow) (n_vKeys:v≠vKeys) (n_vTwk:v≠vTwk) (n_vComb:v≠vComb) (n_vKey:v≠vKey) (n_vDrop:v≠vDrop) (n_vRun:v≠vRun) (n_vGen:v≠vGen) (n_vCirc:v≠vCirc):
  Calls Tryz.prog 14 #[.pointer (some ⟨p,0,none⟩),.string v,.slice a n c] w (Lle w0 p G T S v l w):=by
 have ak:(v.toList == [100,101,97,108])=false:=lit_no n_vDeal (by decide +kernel);have al:(v.toList == [109,117,108,116,105,112,108,121])=false:=lit_no n_vMult (by decide +kernel);have am:(v.toList == [119,111,114,107])=false:=lit_no n_vWork (by decide +kernel);have an:(v.toList == [111,112,101,110])=false:=lit_no n_vOpen (by decide +kernel);have ao:(v.toList == [114,101,102,114,101,115,104])=false:=lit_no n_vRefr (by decide +kernel);have ai:(v.toList == [99,108,101,97,114])=false:=lit_no n_vClear (by decide +kernel);have ap:(v.toList == [115,104,111,119])=false:=lit_no n_vShow (by decide +kernel);have aq:(v.toList == [107,101,121,115])=false:=lit_no n_vKeys (by decide +kernel);have aw:(v.toList == [116,119,101,97,107])=false:=lit_no n_vTwk (by decide +kernel);have ar:(v.toList == [99,111,109,98,105,110,101])=false:=lit_no n_vComb (by decide +kernel);have ax:(v.toList == [107,101,121])=false:=lit_no n_vKey (by decide +kernel);have au:(v.toList == [100,114,111,112])=false:=lit_no n_vDrop (by decide +kernel);have ay:(v.toList == [114,117,110])=false:=lit_no n_vRun (by decide +kernel);have az:(v.toList == [103,101,110])=false:=lit_no n_vGen (by decide +kernel);have av:(v.toList == [99,105,114,99,117,105,116])=false:=lit_no n_vCirc (by decide +kernel);have af:=hid by
  unfold Hid Syn;rw [if_neg n_vCirc,if_neg (by rintro (e | e);exact n_vDeal e;exact n_vMult e),if_neg n_vWork,if_neg n_vOpen,if_neg n_vRefr,if_neg (by rintro (e | e);exact n_vClear e;exact n_vShow e),if_neg (by rintro (e | e);exact n_vKeys e;exact n_vTwk e),if_neg n_vComb,if_neg (by rintro (e | e);exact n_vKey e;exact n_vDrop e),if_neg (by rintro (e | e);exact n_vRun e;exact n_vGen e)];exact id
 clear n_vDeal n_vMult n_vWork n_vOpen n_vRefr n_vClear n_vShow n_vKeys n_vTwk n_vComb n_vKey n_vDrop n_vRun n_vGen n_vCirc;have aC:=r.len;have aD:=r.cap;have aj:=r.max;unfold maxLen at aj;have aE:=h.plt;have H:=hid h;have HT:Hid (∀w',Below w.heap.size w w'->Tabs w'/\Vb w'):=λw' hb=>⟨hT.below (btr h.bel hb),hV.below (btr h.bel hb)⟩;clear h;go_enter Tryz.func14,Tryz.ntmps14;go_wp2_with fail;refine (sIndexT _ _ _ l ⟨#[47]⟩ _ r).mono ?_;rintro e w1 ⟨sl,rfl,ag,hw⟩;have hw:=hw.symm;subst hw;have aF:=ag.bd;clear ag;go_wp2_with fail;refine (rNumbers _ _ _ l _ r (by omega)).mono ?_;rintro e w1 ⟨⟨aA,rfl⟩ | ⟨aB,v1,rfl,ah⟩,aa⟩
 ·clear aA;have HD:Hid (Dln T S v l (erB 3) T S):=.inl ⟨af.out,rfl,rfl,rfl⟩;obtain ⟨ab,_⟩:=HT.out _ aa;go_wp2_with fail;refine (rWrong 3 _ (by omega) (by omega) ab).mono ?_;rintro e wz ⟨rfl,ad⟩;have ae:=btr aa ad;obtain ⟨X,HX⟩:=nmd (erB 3);rw [HX.out] at HD ⊢;clear ad ab;go_wp2;go_ret;exact Lle.quiet H.out ae HD.out
 ·obtain ⟨a1,c1,rfl,aG⟩:=own_slice ah;clear aB ah;have HD:Hid (Dln T S v l (erB 3) T S):=.inl ⟨af.out,rfl,rfl,rfl⟩;obtain ⟨ab,_⟩:=HT.out _ aa;go_wp2_with fail;refine (rWrong 3 _ (by omega) (by omega) ab).mono ?_;rintro e wz ⟨rfl,ad⟩;have ae:=btr aa ad;obtain ⟨X,HX⟩:=nmd (erB 3);rw [HX.out] at HD ⊢;clear ad ab;go_wp2;go_ret;exact Lle.quiet H.out ae HD.out
end
end Go.Proofs.YtljlioglpaogdacGreatDoor

/- RStF KyR TwStC KyO -/
import Derived.Deep.RegionHeld3
import Derived.Test.YtljlioglpaogdacGreatDoorToEnDef
namespace Go.Proofs.YtljlioglpaogdacGreatDoor
set_option linter.unusedVariables false
set_option maxRecDepth 100000
set_option maxHeartbeats 8000000
section
open Crm Go.RowKit
theorem rMultiply (p G s g x ad q cd ds w) (h:Stx 124 w p G s) (hg:i64r g) (hx:i64r x) (r:Rd w ad q cd ds) (hlast:s.last<=1000000):
  Calls Tryz.prog 88 #[.pointer (some ⟨p,0,none⟩),.int .i64 g,.int .i64 x,.slice ad q cd] w (Kde 124 p G (kmul s g x ds) w):=by
 have hI:=rdI_of2 w (x:=g) (y:=x) hg hx;have af:Below w.heap.size w (w.alloc (.cells #[.int .i64 g,.int .i64 x] 3)):=bal _ _;have h0:=h.same af;have ak:=h.wf.t4;have al:=h.wf.n9;have aw:=h.wf.nt;have aI:=h.2;have aQ:=r.cap;have aF:=r.max;have am:=r.len;unfold maxLen at aF;go_enter Tryz.func88,Tryz.ntmps88;go_wp2_with fail;generalize w.alloc (.cells #[.int .i64 g,.int .i64 x] 3)=w0 at *;refine (rHas p G s _ _ _ _ _ h0 hI).mono ?_;rintro e w1 ⟨rfl,ay⟩;rw [hsl_two];have aa:=btr af ay;clear h0 hI af ay;cases hfg:s.f g with
 | none=>
  have HE:Hid (kmul s g x ds=(0,4,s)):=by unfold Hid kmul;rw [hfg]
  simp only [Option.isSome_none,Bool.false_and];clear hfg;go_wp2;go_ret2;rw [HE.out];exact ⟨rfl,h.below aa,Tch.of_below aa⟩
 | some l=>
  cases hfx:s.f x with
  | none=>
   have HE:Hid (kmul s g x ds=(0,4,s)):=by unfold Hid kmul;rw [hfg,hfx]
   simp only [Option.isSome_none,Bool.and_false];clear hfg hfx;go_wp2;go_ret2;rw [HE.out];exact ⟨rfl,h.below aa,Tch.of_below aa⟩
  | some m=>
   simp only [Option.isSome_some,Bool.and_self];have h1:=h.same aa;have H1:=hid h1;have an:=hid hfg;have ao:=hid hfx;obtain ⟨⟨b,V,hS,_⟩,_⟩:=h1;obtain ⟨c0,c1,c2,c3⟩:=hS.four;have ap:=hS.lt;clear hS hfg hfx;obtain ⟨n,HN⟩:=nmd s.n;obtain ⟨t,HT⟩:=nmd s.t;rw [HN.out] at c0 al aw;rw [HT.out] at c1 ak aw;obtain ⟨M,HM⟩:=nmd (n*t);have aS:(n:Int)*(t:Int)=(M:Int):=by rw [<- HM.out];push_cast;rfl
   have aR:M<=36:=by rw [<- HM.out];exact Nat.mul_le_mul al ak
   have aT:IntKind.i64.wrap ((M:Int))=(M:Int):=by rw [IntKind.wrap_i64];omega
   have az:Hid (s.n*s.t=M):=by unfold Hid;rw [HN.out,HT.out,HM.out]
   by_cases hm:q=M
   ·subst hm;have HE:Hid (kmul s g x ds=kadd s (tmO t l m ds n n)):=by unfold Hid kmul;rw [an.out,ao.out];simp only;rw [if_pos (by rw [am,az.out]),HN.out,HT.out]
    have aJ:((q:Int) != (q:Int))=false:=by simp
    go_wp2;go_quiet (fail);have ae:Below w1.heap.size w1 (w1.drewN nq):=drewN_below (Below.refl _ _) nq;generalize w1.drewN nq=w2 at *;have ab:=btr aa ae;have h2:=h.same ab;have H2:Hid (Stx 124 w2.drew p G s):=h2.same ((Below.refl _ _).drew);clear c0 c1 c2 c3 ap ae;obtain ⟨⟨b,V,hS,aA⟩,_⟩:=h2;obtain ⟨ag,cg,aq,ar⟩:=hS.slice an.out;obtain ⟨ax,cx,au,av⟩:=hS.slice ao.out;obtain ⟨c0,c1,c2,c3⟩:=hS.four;have ap:=hS.lt;have aK:=look_at (show MapI w2.drew b s.cnt V from hS.map) aq hg;have aL:=look_at (show MapI w2.drew b s.cnt V from hS.map) au hx;rw [HN.out] at ar av aK aL;rw [HT.out] at c1;have aG:=ar.drew;have aH:=av.drew;have aM:=(r.below ab).drew;have aN:Below w.heap.size w w2.drew:=ab.drew;have aO:=hid HM.out.symm;have aP:1<=n:=by omega
    have aB:Hid (∀w',Below w2.heap.size w2 w'->w'.cell? ⟨p,1,none⟩=some (.int .i64 (t:Int))/\w'.cell? ⟨p,3,none⟩=some (.map (some b))/\p<w'.heap.size/\(Instr.lookup 122 (.map (some b)) (.int .i64 g) false).run Tryz.prog w' = .ok (.slice ag n cg) w'/\(Instr.lookup 122 (.map (some b)) (.int .i64 x) false).run Tryz.prog w' = .ok (.slice ax n cx) w'):=λw' hb=>by
     have ah:=hS.keep (w':=w') λi hi=>hb.block i (H2.out.2 i (aA i hi));have h4:=ah.four;rw [HT.out] at h4;have l1:=look_at ah.map aq hg;have l2:=look_at ah.map au hx;rw [HN.out] at l1 l2;exact ⟨h4.2.1,h4.2.2.2,ah.lt,l1,l2⟩
    obtain ⟨z1,z2,z3,z4,z5⟩:=aB.out _ (Below.refl _ _).drew;clear hS aq au ar av aA;go_wp2;go_region_held3 (λw'=>w'.cell? ⟨p,1,none⟩=some (.int .i64 (t:Int))/\w'.cell? ⟨p,3,none⟩=some (.map (some b))/\(Instr.lookup 122 (.map (some b)) (.int .i64 g) false).run Tryz.prog w' = .ok (.slice ag n cg) w'/\(Instr.lookup 122 (.map (some b)) (.int .i64 x) false).run Tryz.prog w' = .ok (.slice ax n cx) w') (go_keep) (first | (go_at_call 126;refine (rTimes t _ n _ _ _ _ _ _ q _ _ _ aG aH aM ak aP al aO.out).mono ?_;rintro e w3 ⟨v3,u3,L3,rfl,aC,_,ai⟩;obtain ⟨a3,k3,rfl,aj,aD⟩:=Rd.own aC (bd_u64 (tmO_bd' _ _ _ _ _ _));obtain ⟨y1,y2,y3,y4,y5⟩:=aB.out w3 (((Below.refl _ _).drew).trans (ai.mono (Nat.le_refl _)))))
    all_goals
     have aE:=gnx_new (G:=G) aj (by omega) aD;have h3:=H2.out.below ai;rw [<- HN.out] at aj;rw [<- HN.out];clear aC aD;go_wp2_with fail;refine (rKeep p _ s _ _ _ _ h3 aj (tmO_bd' _ _ _ _ _ _) aE hlast).mono ?_;intro e w4 hK;have HR:Hid (Kde 124 p G (kadd s (tmO t l m ds s.n s.n)) w e w4):=((hK.behind ai H2.out.2).after aN aI);obtain ⟨rfl,_,_⟩:=hK;clear h3 aj aE ai;go_wp2;go_ret2;rw [HE.out,<- HN.out];exact HR.out
   ·have HE:Hid (kmul s g x ds=(0,1,s)):=by unfold Hid kmul;rw [an.out,ao.out];simp only;rw [if_neg (by rw [am,az.out];exact hm)]
    have aJ:((q:Int) != (M:Int))=true:=by rw [bne_iff_ne];omega
    clear hm;go_wp2;go_quiet (fail);have ae:Below w1.heap.size w1 (w1.drewN nq):=drewN_below (Below.refl _ _) nq;generalize w1.drewN nq=w2 at *;have ab:=btr aa ae;clear c0 c1 c2 c3 ap ae;go_wp2;go_ret2;rw [HE.out];exact ⟨rfl,h.below ab,Tch.of_below ab⟩
theorem cRefreshK:KcRefresh:=by
 intro p G s x ad q cd ds w h hx r;have hw:=h.wf;have ai:=hw.t4;have aj:=hw.n9;have ar:=hw.nt;have aU:=hw.c8;have aR:=r.cap;have aH:=r.max;have ak:=r.len;unfold maxLen at aH;have al:=h.lt;have HH:Hid (∀w',Below w.heap.size w w'->Kst w' p G s):=λw' hb=>h.same hb;obtain ⟨n,HN⟩:=nmd s.n;obtain ⟨t,HT⟩:=nmd s.t;rw [HN.out] at aj ar;rw [HT.out] at ai ar;have HC:Hid (∀w',Below w.heap.size w w'->w'.cell? ⟨p,0,none⟩=some (.int .i64 (n:Int))/\w'.cell? ⟨p,1,none⟩=some (.int .i64 (t:Int))/\p<w'.heap.size):=λw' hb=>by
  obtain ⟨⟨b,V,hS,_⟩,_⟩:=HH.out w' hb;have:=hS.four;rw [HN.out,HT.out] at this;exact ⟨this.1,this.2.1,hS.lt⟩
 obtain ⟨⟨b,V,hS,hF⟩,_⟩:=h;have HF:=hid hF;have HS:Hid (∀w',Below w.heap.size w w'->Sto 142 w' p b V s):=λw' hb=>hS.keep λi hi=>hb.block i (al i (hF i hi));obtain ⟨c0,c1,c2,c3⟩:=hS.four;rw [HN.out] at c0;rw [HT.out] at c1;have ab:=hS.lt;have hM:=hS.map;rcases hS.val x with ⟨fx,vx⟩ | ⟨l,ax,cx,fx,vx,rx⟩
 ·have HE:Hid (krfr s x ds=(4,s)):=by unfold Hid krfr;rw [fx]
  have HV:=hid vx;clear hS fx vx hF hw;go_enter Tryz.func53,Tryz.ntmps53;go_wp2_with (at_lookup;refine wpList_lookK _ rfl _ _ 122 rfl 52 Tryz.underlying122 _ (zeroL _) b s.cnt V rfl hM x rfl hx ?_;rw [HV.out];simp only [Option.getD_none,Option.isSome_none]);go_ret;rw [HE.out];exact ⟨rfl,(HH.out w (Below.refl _ _)).below (Below.refl _ _),Tch.refl _ _⟩
 ·have HV:Hid (V x=some (.slice ax n cx)):=by unfold Hid;rw [vx,HN.out]
  have am:=hid fx;have an:Hid (l.length=n/\∀y ∈ l,0<=y/\y<=2147483646):=by
   have:=hw.key x l fx;rw [HN.out] at this;exact this.2
  have aI:Hid (∀y,ax=some y->G y.block):=λy hy=>hF _ (.inr (.inr ⟨x,y,_,_,by rw [<- hy];exact vx,rfl⟩));rw [HN.out] at rx;have au:IntKind.i64.wrap ((n:Int)*(t:Int))=(n:Int)*(t:Int):=by
   have:(n:Int)*(t:Int)<=36:=by exact_mod_cast Nat.mul_le_mul aj ai
   have:0<=(n:Int)*(t:Int):=by exact_mod_cast Nat.zero_le (n*t)
   rw [IntKind.wrap_i64];omega
  clear au;obtain ⟨M,HM⟩:=nmd (n*t);have aV:(n:Int)*(t:Int)=(M:Int):=by rw [<- HM.out];push_cast;rfl
  have aS:M<=36:=by rw [<- HM.out];exact Nat.mul_le_mul aj ai
  have au:IntKind.i64.wrap ((M:Int))=(M:Int):=by rw [IntKind.wrap_i64];omega
  have av:Hid (s.n*s.t=M):=by unfold Hid;rw [HN.out,HT.out,HM.out]
  clear hS fx vx hF hw;by_cases hm:q=M
  ·subst hm;have HE:Hid (krfr s x ds=(0,ktrn s x (mxl l (ksm s.n s.t false ds s.n) 1 1 0 s.n))):=by unfold Hid krfr;rw [am.out];simp only;rw [if_pos (by rw [ak,av.out])]
   have aJ:((q:Int) != (q:Int))=false:=by simp
   go_enter Tryz.func53,Tryz.ntmps53;go_wp2_with (at_lookup;refine wpList_lookK _ rfl _ _ 122 rfl 52 Tryz.underlying122 _ (zeroL _) b s.cnt V rfl hM x rfl hx ?_;rw [HV.out];simp only [Option.getD_some,Option.isSome_some]);go_quiet (fail);have ae:Below w.heap.size w (w.drewN nq):=drewN_below (Below.refl _ _) nq;have aw:=rx.drewN nq;generalize w.drewN nq=w1 at *;clear c0 c1 c2 c3 ab hM rx;obtain ⟨c0,c1,ab⟩:=HC.out w1 ae;go_wp2;go_loopw [7,37] (λv j wr=>∃(i:Nat) (u:Option Addr) (c':Nat),i<=n/\j = .int .i64 i/\v = .slice u n c'/\Rd wr u n c' (kra n t ds l i)/\Hid (∀y,u=some y->Gnx G w wr y.block)/\Below w.heap.size w wr) (λ_ j _=>n-(intOf j).toNat)
   case atStart=>exact ⟨0,ax,cx,Nat.zero_le _,rfl,rfl,aw,λy hy=>.inl (aI.out y hy),ae⟩
   case round=>
    clear aw ae c0 c1 ab;obtain ⟨i,u,c',aW,rfl,rfl,ag,HU,aa⟩:=hrel;obtain ⟨c0,c1,ab⟩:=HC.out wr aa;have ay:=aa.size;by_cases hlt:i<n
    ·have aT:(i:Int)<(n:Int):=by omega
     obtain ⟨A,HA⟩:=nmd (i*t);have aK:(i:Int)*(t:Int)=(A:Int):=by rw [<- HA.out];push_cast;rfl
     have aX:((i:Int)+1)*(t:Int)=(A:Int)+(t:Int):=by rw [Int.add_mul,aK,Int.one_mul]
     have aL:A+t<=q:=by
      rw [<- HA.out,<- HM.out];have:=Nat.mul_le_mul_right t (show i+1<=n by omega);rw [Nat.add_mul,Nat.one_mul] at this;exact this
     have aY:IntKind.i64.wrap (A:Int)=(A:Int):=by rw [IntKind.wrap_i64];omega
     have aZ:IntKind.i64.wrap ((A:Int)+(t:Int))=(A:Int)+(t:Int):=by rw [IntKind.wrap_i64];omega
     have a0:IntKind.i64.wrap ((i:Int)+1)=(i:Int)+1:=by rw [IntKind.wrap_i64];omega
     have ao:=(r.below aa).sub (lo:=A) (k:=t) aL;obtain ⟨sa,az⟩:=nmd (subA ad cd A);have hsl:∀W,(Instr.sliceAt 52 (.slice ad q cd) (some (.int .i64 (A:Int))) (some (.int .i64 ((A:Int)+(t:Int)))) none).run Tryz.prog W = .ok (.slice sa t (cd-A)) W:=λW=>by
      rw [<- az.out];exact run_sub Tryz.underlying52 infoU1 _ q cd A t rfl rfl (by omega) W
     rw [az.out] at ao;have aM:Hid (kdr t false ds i=0 :: (ds.drop A).take t):=by
      unfold Hid;have e:kat t false i=A:=by unfold kat;rw [if_neg (by decide),HA.out]
      rw [kdr_fals,e]
     have af:=hid ag;have aA:=hid ao;have aB:Hid (∀w0,Kst w0 p G s->Rd w0 u n c' (kra n t ds l i)->Rd w0 sa t (cd-A) ((ds.drop A).take t)->Calls Tryz.prog 102 #[.pointer (some ⟨p,0,none⟩),.slice u n c',.int .u64 0,.slice sa t (cd-A)] w0 λe w'=>∃v,e = .returned v/\w'.ownsRow w0.heap.size 70 1 v n ((kra n t ds l (i+1)).map (Value.int .u64))/\Below w0.heap.size w0 w'):=λw0 k0 k1 k2=>by
      have e:=cWith p G s u c' (kra n t ds l i) 0 sa (cd-A) ((ds.drop A).take t) w0 k0;rw [HN.out,HT.out,<- aM.out] at e;exact e k1 (by omega) (by omega) k2
     have aN:Hid (∀y ∈ kra n t ds l (i+1),0<=y/\y<=2147483646):=kra_bd t ds an.out.2 (i+1);have aO:0<n:=by omega
     clear ag ao;go_wp2_with fail;go_region_held3 (λw'=>w'.cell? ⟨p,1,none⟩=some (.int .i64 (t:Int))) (go_keep) (first | (go_at_call 102;refine (aB.out _ (HH.out _ aa.drew) af.out.drew aA.out.drew).mono ?_;rintro e w3 ⟨v3,rfl,aC,aD⟩;obtain ⟨a3,k3,rfl,aE,aF⟩:=Rd.own aC (bd_u64 aN.out);have ah:=aa.drew.trans (aD.mono ay);obtain ⟨e0,e1,e2⟩:=HC.out w3 ah))
     all_goals
      have aP:Hid (∀y,a3=some y->Gnx G w w3 y.block):=gnx_new aE aO (λy hy=>Nat.le_trans ay (aF y hy));clear aD aC aF aa hsl af aA aB HU e0 e1 e2;go_wp2;go_roundw
      case rel=>exact ⟨i+1,a3,k3,by omega,by go_num,rfl,aE,aP,ah⟩
      case measure=>simp [intOf];omega
    ·obtain rfl:i=n:=by omega
     have a1:¬ ((i:Int)<(i:Int)):=by omega
     have hM:=(HS.out wr aa).map;have c3:=(HS.out wr aa).four.2.2.2;have aQ:Hid (kra i t ds l i=mxl l (ksm s.n s.t false ds s.n) 1 1 0 s.n):=by unfold Hid;rw [HN.out,HT.out];exact kra_ksm t ds an.out.1 an.out.2 i
     have af:=hid ag;clear ag;go_wp2_with (at_mapUpdate;refine wpList_putK _ rfl _ _ _ 122 rfl 52 Tryz.underlying122 b s.cnt V rfl hM (by omega) x (.slice u i c') rfl rfl hx ?_;intro w2 ap aq);have HR:Hid (Kkt p G (0,ktrn s x (mxl l (ksm s.n s.t false ds s.n) 1 1 0 s.n)) w (.returned (.int .i64 0)) w2):=by
      have aG:=af.out;rw [aQ.out,<- HN.out] at aG;rw [<- HN.out] at ap;exact Kte.behind aa (stx_turn (HS.out wr aa) (λi hi=>.inl (HF.out i hi)) (Gnx.lt al aa.size) am.out (mxl_bd _ _ _ _ _ _) aG HU.out ap aq _ rfl) al
     clear hM ap aq c0 c1 c3 ab af;go_wp2;go_ret;rw [HE.out];exact HR.out
  ·have HE:Hid (krfr s x ds=(1,s)):=by unfold Hid krfr;rw [am.out];simp only;rw [if_neg (by rw [ak,av.out];exact hm)]
   have aJ:((q:Int) != (M:Int))=true:=by rw [bne_iff_ne];omega
   clear hm;go_enter Tryz.func53,Tryz.ntmps53;go_wp2_with (at_lookup;refine wpList_lookK _ rfl _ _ 122 rfl 52 Tryz.underlying122 _ (zeroL _) b s.cnt V rfl hM x rfl hx ?_;rw [HV.out];simp only [Option.getD_some,Option.isSome_some]);go_quiet (fail);have ae:Below w.heap.size w (w.drewN nq):=drewN_below (Below.refl _ _) nq;generalize w.drewN nq=w1 at *;clear c0 c1 c2 c3 ab hM rx;go_wp2;go_ret;rw [HE.out];exact ⟨rfl,(HH.out w (Below.refl _ _)).below ae,Tch.of_below ae⟩
theorem made2 (u v:Value):∀n,(madeCells #[u,v] (n*2)).toList=(List.replicate n ()).flatMap λ_=>[u,v]
 | 0=>by simp [madeCells]
 | n+1=>by
  have h:∀m,(madeCells #[u,v] m).toList=(List.range m).map λi=>(#[u,v]:Array Value)[i%2]!:=λm=>by simp [madeCells]
  have ih:=made2 u v n
  have e:(n+1)*2=n*2+1+1:=by omega
  rw [h] at ih
  rw [h,e,List.range_succ,List.range_succ,List.map_append,List.map_append,ih,List.replicate_succ',List.flatMap_append]
  have e0:n*2%2=0:=by omega
  have e1:(n*2+1)%2=1:=by omega
  simp [e0,e1]
theorem made2_shc (n:Nat):(madeCells (Value.agg #[.int .i64 0,.int .u64 0]).cells (n*2)).toList=shc (List.replicate n (0,0)):=by
 have e:(Value.agg #[.int .i64 0,.int .u64 0]).cells = #[.int .i64 0,.int .u64 0]:=rfl;rw [e,made2];induction n with
 | zero=>rfl
 | succ n ih=>rw [List.replicate_succ,List.replicate_succ,List.flatMap_cons,ih];rfl
theorem shc_set2:∀(l:List (Int×Int)) (q:Nat) (x z:Int),((shc l).set (q*2) (.int .i64 x)).set (q*2+1) (.int .u64 z)=shc (l.set q (x,z))
 | [],q,x,z=>by simp [shc]
 | p :: l,0,x,z=>rfl
 | p :: l,q+1,x,z=>by
  have:=shc_set2 l q x z
  have e1:(q+1)*2=q*2+1+1:=by omega
  rw [e1]
  show _ :: _ :: ((shc l).set (q*2) (.int .i64 x)).set (q*2+1) (.int .u64 z)=_
  rw [this]
  rfl
def fils (f:Nat->Int×Int) (n k:Nat):List (Int×Int):=(List.range n).map λi=>if i<k then f i else (0,0)
theorem fils_len (f:Nat->Int×Int) (n k:Nat):(fils f n k).length=n:=by simp [fils]
theorem fils_zero (f:Nat->Int×Int) (n:Nat):List.replicate n (0,0)=fils f n 0:=by
 apply List.ext_getElem?;intro i;by_cases hi:i<n
 ·simp [fils,hi]
 ·simp [fils,hi]
theorem fils_set {f:Nat->Int×Int} {n k:Nat} (v:Int×Int) (hv:v=f k):(fils f n k).set k v=fils f n (k+1):=by
 apply List.ext_getElem?;intro i;rw [List.getElem?_set];by_cases hi:i<n
 ·by_cases e:k=i
  ·subst e;simp [fils,hi,hv]
  ·have:(i<k+1)=(i<k):=by apply propext;omega
   simp [fils,hi,e,this]
 ·by_cases e:k=i
  ·subst e;simp [fils,hi]
  ·simp [fils,hi,e]
theorem fils_full (f:Nat->Int×Int) (n:Nat):fils f n n=(List.range n).map f:=by
 unfold fils;refine List.map_congr_left λi hi=>?_;rw [if_pos (List.mem_range.1 hi)]
def shf1 (l:List Int) (i:Nat):Int×Int:=((i:Int)+1,l.getD i 0)
theorem shf1_all (l:List Int) (n:Nat):fils (shf1 l) n n=shl l n:=fils_full _ _
theorem cOpenK:KcOpen:=by
 intro p G s x w h hx;obtain ⟨i0,hi,ao,ap,aq⟩:=info_parts infoSh;have hw:=h.wf;have ar:=hw.n9;have ah:=hw.nt;have HH:Hid (∀w',Below w.heap.size w w'->Kst w' p G s):=λw' hb=>h.same hb;obtain ⟨n,HN⟩:=nmd s.n;obtain ⟨t,HT⟩:=nmd s.t;rw [HN.out] at ar ah;rw [HT.out] at ah;have HC:Hid (∀w',Below w.heap.size w w'->w'.cell? ⟨p,0,none⟩=some (.int .i64 (n:Int))/\w'.cell? ⟨p,1,none⟩=some (.int .i64 (t:Int))/\p<w'.heap.size):=λw' hb=>by
  obtain ⟨⟨b,V,hS,_⟩,_⟩:=HH.out w' hb;have:=hS.four;rw [HN.out,HT.out] at this;exact ⟨this.1,this.2.1,hS.lt⟩
 obtain ⟨⟨b,V,hS,_⟩,_⟩:=h;obtain ⟨c0,c1,c2,c3⟩:=hS.four;have af:=hS.lt;have hM:=hS.map;rcases hS.val x with ⟨fx,vx⟩ | ⟨l,ax,cx,fx,vx,rx⟩
 ·have HE:Hid (Kop s x 0 4):=.inl ⟨fx,rfl,rfl⟩;have HV:=hid vx;clear hS fx vx hw;go_enter Tryz.func62,Tryz.ntmps62;go_wp2_with (at_lookup;refine wpList_lookK _ rfl _ _ 122 rfl 52 Tryz.underlying122 _ (zeroL _) b s.cnt V rfl hM x rfl hx ?_;rw [HV.out];simp only [Option.getD_none,Option.isSome_none]);go_ret2;exact ⟨0,4,rfl,HE.out,Below.refl _ _⟩
 ·have HV:Hid (V x=some (.slice ax n cx)):=by unfold Hid;rw [vx,HN.out]
  have HF:=hid fx;have au:Hid (∀y ∈ l,0<=y/\y<=2147483646):=(hw.key x l fx).2.2;rw [HN.out] at rx;have aw:=rx.cap;have am:=rx.max;unfold maxLen at am;clear hS fx vx hw;obtain ⟨F,ai⟩:=nmd (shf1 l);go_enter Tryz.func62,Tryz.ntmps62;go_wp2_with (first | (at_lookup;refine wpList_lookK _ rfl _ _ 122 rfl 52 Tryz.underlying122 _ (zeroL _) b s.cnt V rfl hM x rfl hx ?_;rw [HV.out];simp only [Option.getD_some,Option.isSome_some]) | (at_make;refine wpList_make_full _ rfl _ _ 72 rfl w.heap.size 74 i0 (.agg #[.int .i64 0,.int .u64 0]) 2 Tryz.underlying72 hi ao ap .i64 .i64 _ _ n rfl rfl (by omega) (by omega) (by rw [aq];omega) (by unfold maxLen;omega) (Nat.le_refl _) ?_;intro w1 aa ae;rw [made2_shc,fils_zero F] at aa;have aj:Below w.heap.size w w1:=(Below.refl _ _).grown ae (Nat.le_refl _) (by simp);clear ae));clear c0 c1 c2 c3 af hM;go_loopw [27] (λi wr=>∃k:Nat,k<=n/\i = .int .i64 k/\wr.ownsRow w.heap.size 74 2 (.slice (some ⟨w.heap.size,0,none⟩) n n) n (shc (fils F n k))/\Below w.heap.size w wr) (λi _=>n-(intOf i).toNat)
  case atStart=>exact ⟨0,Nat.zero_le _,rfl,aa,aj⟩
  case round=>
   clear aa aj;obtain ⟨k,hk,rfl,aa,ab⟩:=hrel;have az:=ab.size;by_cases hlt:k<n
   ·obtain ⟨bb,o,y,rfl,aA,HY,aB,aC,aD⟩:=(rx.below ab).one hlt;have ak:((k:Int)+1,y)=F k:=by rw [<- ai.out];show _=((k:Int)+1,l.getD k 0);rw [HY.out]
    obtain ⟨d0,d1⟩:=sh_cell aa (fils_len F n k) hlt;have aE:=own_frozen2 aa (k*2);have aF:=own_frozen2 aa (k*2+1);have ad:=own_set2 (own_set2 aa (k*2) (.int .i64 ((k:Int)+1))) (k*2+1) (.int .u64 y);rw [shc_set2,fils_set ((k:Int)+1,y) ak] at ad;have ag:=hid ad;have av:Hid (Below _ _ _):=(ab.setCell (p:=⟨w.heap.size,k*2,none⟩) (Nat.le_refl _) (.int .i64 ((k:Int)+1))).setCell (p:=⟨w.heap.size,k*2+1,none⟩) (Nat.le_refl _) (.int .u64 y);have ay:(k:Int)<(n:Int):=by omega
    clear aa ad ak;go_wp2;go_roundw
    case rel=>exact ⟨k+1,by omega,by go_num,ag.out,av.out⟩
    case measure=>simp [intOf];omega
   ·obtain rfl:k=n:=by omega
    have aG:¬ ((k:Int)<(k:Int)):=by omega
    obtain ⟨c0,c1,af⟩:=HC.out wr ab;rw [<- ai.out,shf1_all] at aa;obtain ⟨b',d',e',hr⟩:=RdS.own aa (shl_len _ _) (λi hi=>by
     have:=getD_bd' au.out i;rw [shl_getD l hi];exact ⟨by simp only;omega,by simp only;omega⟩)
    simp only [Value.slice.injEq,true_and] at e';obtain ⟨rfl,rfl⟩:=e';clear aa;go_wp2_with fail;refine (cOpenS _ _ _ _ _ _ hr).mono ?_;rintro e w5 ⟨y,r,rfl,hO,al⟩;have HO:Hid (Kop s x y r):=.inr ⟨l,HF.out,by rw [HN.out,HT.out];exact hO⟩;have an:=btr ab al;clear hr al hO c0 c1 af;go_wp2;go_ret2;exact ⟨y,r,rfl,HO.out,an⟩
end
end Go.Proofs.YtljlioglpaogdacGreatDoor

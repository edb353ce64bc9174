/- TimesC RStE RStG KyDef KyCon GtDef GateBC GateC GateDC GateWC KyM TwByM -/
import Derived.Test.YtljlioglpaogdacGreatDoorToRStD
namespace Go.Proofs.YtljlioglpaogdacGreatDoor
set_option linter.unusedVariables false
set_option maxRecDepth 100000
set_option maxHeartbeats 8000000
section
open Crm Go.RowKit
theorem infoVs:(Tryz.prog.info? 52).map (λi=>(i.zero,i.size,i.bytes))=some (some (.slice none 0 0),1,24):=by kernel_rfl
theorem wrap_i64 {x:Int} (h0: -1000000<=x) (h1:x<=1000000):IntKind.i64.wrap x=x:=by
 unfold IntKind.wrap;simp [IntKind.signed,IntKind.bits];omega
def Far (L:List Value) (n lo hi:Nat):Prop:=∀p,p<n->∀gg,(L.getD p (.slice none 0 0)).ownBlock=some gg->gg<lo\/hi<=gg
theorem map_getDN {f:Nat->Int} {m i:Nat} (h:i<m):((List.range m).map f).getD i 0=f i:=by simp [h]
theorem infoS1:(Tryz.prog.info? 70).map (·.size)=some 1:=by kernel_rfl
def gti (t:Nat) (xs ys ds:List Int) (n i:Nat):List (List Int):=(List.range n).map λj=>tmR t xs ys ds i j
theorem gti_len (t:Nat) (xs ys ds:List Int) (n i:Nat):(gti t xs ys ds n i).length=n:=by simp [gti]
theorem gti_zero (t:Nat) (xs ys ds:List Int) (n:Nat):List.replicate n []=gti t xs ys ds n 0:=by
 apply List.ext_getElem?;intro i;by_cases hi:i<n
 ·simp [gti,tmR,hi]
 ·simp [gti,hi]
def gtj (t:Nat) (xs ys ds:List Int) (n i j:Nat):List (List Int):=(List.range n).map λp=>if p<j then tmR t xs ys ds (i+1) p else tmR t xs ys ds i p
theorem gtj_len (t:Nat) (xs ys ds:List Int) (n i j:Nat):(gtj t xs ys ds n i j).length=n:=by simp [gtj]
theorem gtj_zero (t:Nat) (xs ys ds:List Int) (n i:Nat):gtj t xs ys ds n i 0=gti t xs ys ds n i:=by simp [gtj,gti]
theorem gtj_full (t:Nat) (xs ys ds:List Int) (n i:Nat):gtj t xs ys ds n i n=gti t xs ys ds n (i+1):=by
 unfold gtj gti;refine List.map_congr_left λp hp=>?_;rw [if_pos (List.mem_range.1 hp)]
theorem gtj_getD (t:Nat) (xs ys ds:List Int) {n i j:Nat} (h:j<n):(gtj t xs ys ds n i j).getD j []=tmR t xs ys ds i j:=by simp [gtj,h]
theorem gti_getD (t:Nat) (xs ys ds:List Int) {n i j:Nat} (h:j<n):(gti t xs ys ds n i).getD j []=tmR t xs ys ds i j:=by simp [gti,h]
theorem gtj_set (t:Nat) (xs ys ds:List Int) (n i j:Nat):(gtj t xs ys ds n i j).set j (tmR t xs ys ds (i+1) j)=gtj t xs ys ds n i (j+1):=by
 apply List.ext_getElem?;intro q;rw [List.getElem?_set];by_cases hq:q<n
 ·by_cases e:j=q
  ·subst e;simp [gtj,hq]
  ·have:(q<j+1)=(q<j):=by apply propext;omega
   simp [gtj,hq,e,this]
 ·by_cases e:j=q
  ·subst e;simp [gtj,hq]
  ·simp [gtj,hq,e]
theorem rTimes (t:Nat) (a n c xs b d ys e0 m f ds w) (h:Rd w a n c xs) (g:Rd w b n d ys) (k:Rd w e0 m f ds) (ht:t<=4) (hn1:1<=n) (hn9:n<=9) (hm:m=n*t):
  Calls Tryz.prog 126 #[.int .i64 t,.slice a n c,.slice b n d,.slice e0 m f] w λe w'=>∃v u L,e = .returned (.tuple #[v,u])/\w'.ownsRow w.heap.size 70 1 v n ((tmO t xs ys ds n n).map (Value.int .u64))/\LsV w' w.heap.size u L (tmG t xs ys ds n)/\Below w.heap.size w w':=by
 obtain ⟨i0,hi,a8,a9,ba⟩:=info_parts infoVs;have HM:=hid hm;clear hm;go_enter Tryz.func126,Tryz.ntmps126;go_wp2_with (at_make;refine wpList_make_full _ rfl _ _ 90 rfl w.heap.size 52 i0 (.slice none 0 0) 1 Tryz.underlying90 hi a8 a9 .i64 .i64 _ _ n rfl rfl (by omega) (by omega) (by rw [ba];omega) (by unfold maxLen;omega) (Nat.le_refl _) ?_;intro w1 ab az);have aF:Below w.heap.size w w1:=(Below.refl _ _).grown az (Nat.le_refl _) (by simp);have aG:=lsv_made ab;rw [gti_zero t xs ys ds n] at aG;clear ab az;go_loopw [12,13] (λv q wr=>∃(i:Nat) (L:List Value),i<=n/\q = .int .i64 i/\wr.ownsRow w.heap.size 3 1 v i (zns (pty i))/\LsV wr w.heap.size (.slice (some ⟨w.heap.size,0,none⟩) n n) L (gti t xs ys ds n i)/\Below w.heap.size w wr) (λ_ q _=>n-(intOf q).toNat)
 case atStart=>exact ⟨0,_,Nat.zero_le _,rfl,World.ownsRow_nil _ _ _ _,aG,aF⟩
 case round=>
  clear aG aF;obtain ⟨i,L,hi,rfl,ab,hL,ad⟩:=hrel;have aH:=ad.size;by_cases hlt:i<n
  ·have aO:Hid (∀w',wr.grownBy w' u12.ownBlock->LsV w' w.heap.size (.slice (some ⟨w.heap.size,0,none⟩) n n) L (gti t xs ys ds n i)):=λw' hg=>hL.grown hg (own_apart ab hL.own (by decide)) (λj hj=>own_apart ab (hL.row j hj) (by decide));have bb:Hid (zns (pty i) ++ [.int .i64 ((i:Int)+1)]=zns (pty (i+1))):=by unfold Hid;rw [zns_snoc,pty_snoc]
   go_wp2_with (at_builtin;refine wpList_appV Tryz.underlying63 infoZ rfl (by omega) _ rfl _ _ rfl w.heap.size _ _ _ rfl ab (.int .i64 ((i:Int)+1)) rfl rfl (by omega) aH ?_;intro v2 w2 aq av _;rw [bb.out] at aq;have ap:=aO.out w2 av;have af:=ad.grown av aH (λq hq=>(ab.lt q hq).1);clear av ab hL ad aO);obtain ⟨P,HP⟩:=nmd (i*t);have hP:(i:Int)*(t:Int)=(P:Int):=by rw [<- HP.out];push_cast;rfl
   have bc:P+t<=m:=by
    have h1:(i+1)*t<=n*t:=Nat.mul_le_mul_right t hlt;rw [Nat.add_mul,Nat.one_mul,HP.out,<- HM.out] at h1;exact h1
   have bA:m<=36:=by rw [HM.out];exact Nat.le_trans (Nat.mul_le_mul hn9 ht) (by omega)
   have bQ:=k.cap;obtain ⟨b1,o1,x,rfl,aF,HX,bR,bS,bT⟩:=(h.below af).one hlt;obtain ⟨b2,o2,y,rfl,bB,HY,be,bf,bU⟩:=(g.below af).one hlt;have bV:=nm_bd (x*y);have bW:(0:Int)<=(i:Int):=by omega
   have aP:(i:Int)<(n:Int):=by omega
   have aI:=((k.below af).sub (lo:=P) (k:=t) bc);obtain ⟨X,au⟩:=nmd (subA e0 f P);rw [au.out] at aI;have hsl:∀W,(Instr.sliceAt 52 (.slice e0 m f) (some (.int .i64 (P:Int))) (some (.int .i64 ((P:Int)+(t:Int)))) none).run Tryz.prog W = .ok (.slice X t (f-P)) W:=λW=>by rw [<- au.out];exact run_sub Tryz.underlying52 infoS1 e0 m f P t rfl rfl (by omega) W
   have aQ:Hid (nm (x*y) :: (ds.drop P).take t=prC t xs ys ds i):=by unfold Hid prC;rw [HX.out,HY.out,HP.out]
   have a3:=af.size;have bg:IntKind.i64.wrap (P:Int)=(P:Int):=wrap_i64 (by omega) (by omega);have a4:IntKind.i64.wrap ((P:Int)+(t:Int))=(P:Int)+(t:Int):=wrap_i64 (by omega) (by omega);go_wp2;go_region_law (first | (go_simp;go_at_call 160;refine (rMul _ _ _ (by omega) (by omega) (by omega) (by omega)).mono ?_;rintro en w' ⟨rfl,rfl⟩) | (go_simp;go_at_call 73;refine (rDealtO _ _ _ _ _ _ _ aI.drew (by omega) (by omega) ht hn9).mono ?_;rintro en w3 ⟨vl,rfl,ak,ae⟩))
   all_goals
    rw [aQ.out] at ak;have an:=(ap.drew).below ae;have aA:=own_below (show w2.drew.ownsRow _ _ _ _ _ _ from aq) ae;have ax:=af.drew.trans (ae.mono a3);have bC:w2.heap.size<=w3.heap.size:=ae.size;have aR:=ax.size;have ah:Hid (Far L n w2.heap.size w3.heap.size):=λp hp gg hgg=>.inl (((ap.row p (by rw [gti_len];exact hp)).lt gg hgg).2);have bh:Hid (∀gg,vl.ownBlock=some gg->w2.heap.size<=gg/\gg<w3.heap.size):=λgg hgg=>ak.lt gg hgg;rw [<- gtj_zero] at an;clear aI hsl aQ ap aq af ae bg a4 hP au;go_wp2;go_loopw [15] (λq wr=>∃(j:Nat) (L:List Value),j<=n/\q = .int .i64 j/\LsV wr w.heap.size (.slice (some ⟨w.heap.size,0,none⟩) n n) L (gtj t xs ys ds n i j)/\Hid (Far L n w2.heap.size w3.heap.size)/\wr.ownsRow w2.heap.size 70 1 vl n ((dl (prC t xs ys ds i) n).map (Value.int .u64))/\wr.ownsRow w.heap.size 3 1 v2 (i+1) (zns (pty (i+1)))/\w3.heap.size<=wr.heap.size/\Below w.heap.size w wr) (λq _=>n-(intOf q).toNat)
    case atStart=>exact ⟨0,L,Nat.zero_le _,rfl,an,ah,ak,aA,Nat.le_refl _,ax⟩
    case round=>
     clear an ah ak aA ax;obtain ⟨j,L,hj,rfl,hL,ah,ak,aB,aS,ad⟩:=hrel;by_cases hjn:j<n
     ·have am:=gtj_len t xs ys ds n i j;obtain ⟨dg,fg,lg⟩:=hL.cell am hjn;have aj:=hL.row j (by rw [am];exact hjn);rw [gtj_getD t xs ys ds hjn,tmR_len] at aj;obtain ⟨z,HZ⟩:=nmd (dlf (prC t xs ys ds i) j);obtain ⟨al,cl,rfl,bi,_⟩:=Rd.own ak (bd_u64 (dl_bd _ _));obtain ⟨b3,o3,z',rfl,bD,bj,bE,bF,bX⟩:=bi.one hjn;obtain rfl:z=z':=by rw [<- HZ.out,<- bj.out,dl_getD _ hjn]
      have bk:Hid (tmR t xs ys ds i j ++ [z]=tmR t xs ys ds (i+1) j):=by unfold Hid;rw [<- HZ.out,tmR_snoc]
      obtain ⟨u,HU⟩:=nmd (L.getD j (.slice none 0 0));rw [HU.out] at dg aj;have ai:wr.drew.ownsRow w.heap.size 70 1 u i ((tmR t xs ys ds i j).map (Value.int .u64)):=aj;obtain ⟨ua,uc,rfl,bY⟩:=own_slice aj;have aT:=ad.size;have aU:Hid (∀w7,wr.drew.grownBy w7 (Value.slice ua i uc).ownBlock->(∃x,w7.cell? ⟨w.heap.size,j,none⟩=some x)/\w7.frozen? ⟨w.heap.size,j,none⟩=false):=λw7 hg=>by
       have ag:=(show wr.drew.ownsRow _ _ _ _ _ _ from hL.own).kept hg (own_apart ai (show wr.drew.ownsRow _ _ _ _ _ _ from hL.own) (by decide));rw [am] at ag;obtain ⟨g',x,e1,_,_,_,e5⟩:=own_at ag hjn;simp only [Option.some.injEq,Addr.mk.injEq,and_true] at e1;subst e1;exact ⟨⟨x,e5⟩,own_frozen ag j⟩
      have aV:Hid (∀g7 aa w7,w7.ownsRow w.heap.size 70 1 (.slice (some ⟨g7,0,none⟩) (i+1) aa) (i+1) ((tmR t xs ys ds (i+1) j).map (Value.int .u64))->wr.drew.grownBy w7 (Value.slice ua i uc).ownBlock->((Value.slice (some ⟨g7,0,none⟩) (i+1) aa).ownBlock=(Value.slice ua i uc).ownBlock\/∃k,(Value.slice (some ⟨g7,0,none⟩) (i+1) aa).ownBlock=some k/\wr.drew.heap.size<=k)->
        LsV (w7.setCell ⟨w.heap.size,j,none⟩ (.slice (some ⟨g7,0,none⟩) (i+1) aa)) w.heap.size (.slice (some ⟨w.heap.size,0,none⟩) n n) (L.set j (.slice (some ⟨g7,0,none⟩) (i+1) aa)) (gtj t xs ys ds n i (j+1))/\Far (L.set j (.slice (some ⟨g7,0,none⟩) (i+1) aa)) n w2.heap.size w3.heap.size/\
        (w7.setCell ⟨w.heap.size,j,none⟩ (.slice (some ⟨g7,0,none⟩) (i+1) aa)).ownsRow w2.heap.size 70 1 (.slice (some ⟨b3,o3,none⟩) n cl) n ((dl (prC t xs ys ds i) n).map (Value.int .u64))/\(w7.setCell ⟨w.heap.size,j,none⟩ (.slice (some ⟨g7,0,none⟩) (i+1) aa)).ownsRow w.heap.size 3 1 v2 (i+1) (zns (pty (i+1)))/\w3.heap.size<=(w7.setCell ⟨w.heap.size,j,none⟩ (.slice (some ⟨g7,0,none⟩) (i+1) aa)).heap.size/\Below w.heap.size w (w7.setCell ⟨w.heap.size,j,none⟩ (.slice (some ⟨g7,0,none⟩) (i+1) aa))):=λg7 aa w7 ho hg hat=>by
       have bl:=hL.drew;have hu:=bl.upd (q:=j) (row:=tmR t xs ys ds (i+1) j) (u':=.slice (some ⟨g7,0,none⟩) (i+1) aa) am hjn (by rw [tmR_len];exact ho) (by rw [HU.out];exact hg) (by rw [HU.out];exact hat);rw [gtj_set] at hu;have bm:=hL.len;have aJ:w7.grownBy (w7.setCell ⟨w.heap.size,j,none⟩ (.slice (some ⟨g7,0,none⟩) (i+1) aa)) (some w.heap.size):=grown_set _ _ _ _;have bo:Below w.heap.size w w7:=ad.drew.grown hg aT (λq hq=>(aj.lt q hq).1);have ag:=(show wr.drew.ownsRow _ _ _ _ _ _ from hL.own).kept hg (own_apart ai (show wr.drew.ownsRow _ _ _ _ _ _ from hL.own) (by decide));have aW:w7.ownsRow w2.heap.size 70 1 (.slice (some ⟨b3,o3,none⟩) n cl) n ((dl (prC t xs ys ds i) n).map (Value.int .u64)):=by
        refine (show wr.drew.ownsRow _ _ _ _ _ _ from ak).kept hg ?_;right;intro e;cases hb:(Value.slice ua i uc).ownBlock with
        | none=>rw [hb] at e;simp [Value.ownBlock] at e
        | some gg=>
         rw [hb] at e;have h1:=bh.out gg e;have h2:=ah.out j hjn gg (by rw [HU.out];exact hb);omega
       have aX:=(show wr.drew.ownsRow _ _ _ _ _ _ from aB).kept hg (own_apart ai (show wr.drew.ownsRow _ _ _ _ _ _ from aB) (by decide));refine ⟨hu,λp hp gg hgg=>?_,aW.kept aJ (own_apart ag aW (by decide)),aX.kept aJ (own_apart ag aX (by decide)),?_,bo.setCell (p:=⟨w.heap.size,j,none⟩) (Nat.le_refl _) _⟩
       ·rw [getD_setV _ _ _ _ _ (by rw [bm,am];exact hjn)] at hgg;split at hgg
        ·rcases hat with e | ⟨k,e,hk⟩
         ·rw [e] at hgg;exact ah.out j hjn gg (by rw [HU.out];exact hgg)
         ·rw [e] at hgg;obtain rfl:=Option.some.inj hgg;right;exact Nat.le_trans aS hk
        ·exact ah.out p hp gg hgg
       ·exact Nat.le_trans aS (Nat.le_trans hg.size aJ.size)
      have bp:(0:Int)<=(j:Int):=by omega
      have bG:(j:Int)<(n:Int):=by omega
      clear hL ak aB ah ad aj;go_wp2;go_region_law (refine step_appL Tryz.underlying52 info70 wr.drew rfl _ _ rfl w.heap.size _ _ _ rfl ai z rfl rfl (by omega) (by exact aT) ?_;intro g7 aa w7 ag ay aK;rw [bk.out] at ag;obtain ⟨⟨xx,dd⟩,ff⟩:=aU.out w7 ay;have bZ:=World.block_lt_of_cell? w7 _ dd;have HE:Hid (_/\_):=aV.out g7 aa w7 ag ay aK;clear ag ay aK)
      all_goals
       clear aU aV ai;go_wp2;go_roundw
       case rel=>exact ⟨j+1,_,by omega,by go_num,HE.out.1,HE.out.2.1,HE.out.2.2.1,HE.out.2.2.2.1,HE.out.2.2.2.2.1,HE.out.2.2.2.2.2⟩
       case measure=>simp [intOf];omega
     ·have a5:j=n:=by omega
      subst a5;rw [gtj_full] at hL;go_wp2;go_roundw
      case rel=>exact ⟨i+1,L,by omega,by go_num,aB,hL,ad⟩
      case measure=>simp [intOf];omega
  ·have aP:i=n:=by omega
   subst aP;obtain ⟨aw,cw,rfl,aY⟩:=RdI.own ab (λx hx=>by
    obtain ⟨q,hq,rfl⟩:=List.mem_map.1 hx;have:=List.mem_range.1 hq;omega)
   clear ab;go_wp2_with fail;refine (rWeights _ _ _ _ _ aY (pty_dis hn9)).mono ?_;rintro e w2 ⟨a2,c2,rfl,bq,af⟩;have ap:=hL.below af;have aL:=ad.trans (af.mono aH);have am:=gti_len t xs ys ds i i;have aZ:=aL.size;clear hL ad af aY;go_wp2;go_loopw [17,18] (λv q wr=>∃j:Nat,j<=i/\q = .int .i64 j/\wr.ownsRow w2.heap.size 70 1 v j ((tmO t xs ys ds i j).map (Value.int .u64))/\Below w2.heap.size w2 wr) (λ_ q _=>i-(intOf q).toNat)
   case atStart=>exact ⟨0,Nat.zero_le _,rfl,World.ownsRow_nil _ _ _ _,Below.refl _ _⟩
   case round=>
    obtain ⟨j,hj,rfl,ab,ae⟩:=hrel;obtain ⟨wo,br⟩:∃wo,wo=wr:=⟨_,rfl⟩;subst br;have aR:=ae.size;by_cases hji:j<i
    ·have an:=ap.below ae;have bu:=bq.below ae;obtain ⟨dg,_,lg⟩:=an.cell am hji;obtain ⟨ar,cr,er,a0⟩:=an.one am hji (by rw [gti_getD t xs ys ds hji];exact bd_u64 (tmR_bd _ _ _ _ _ _));rw [er] at dg;rw [gti_getD t xs ys ds hji,tmR_len] at a0 dg;clear er an;go_wp2;go_loopw [19,20] (λv q wr=>∃(p nd:Nat) (y:Int),p<=i/\q = .int .i64 p/\v = .int .u64 y/\0<=y/\y<=2147483646/\Hid (y=nm (sm (λi'=>wt (pty i) i i'*dlf (prC t xs ys ds i') j) p))/\wr=wo.drewN nd) (λ_ q _=>i-(intOf q).toNat)
     case atStart=>exact ⟨0,0,0,Nat.zero_le _,rfl,rfl,by omega,by omega,rfl,rfl⟩
     case round=>
      obtain ⟨p,nd,y,hp,rfl,rfl,be,bf,HY,hw⟩:=hrel;have HW:=hid hw;have ao:Below wo.heap.size wo wr:=by rw [hw];exact drewN_below (Below.refl _ _) nd
      have bv:wr.cell? ⟨w.heap.size,j,none⟩=some (.slice ar i cr):=by rw [ao.cell (p:=⟨w.heap.size,j,none⟩) lg];exact dg
      have b0:w.heap.size<wr.heap.size:=Nat.lt_of_lt_of_le lg ao.size;clear hw;by_cases hpi:p<i
      ·obtain ⟨b1,o1,x1,rfl,bH,bw,bI,bJ,b4⟩:=(bu.below ao).one hpi;obtain ⟨b2,o2,x2,rfl,bK,au,bL,bM,b5⟩:=(a0.below ao).one hpi;have bN:=nm_bd (x1*x2);have HV:Hid (nm (y+nm (x1*x2))=nm (sm (λi'=>wt (pty i) i i'*dlf (prC t xs ys ds i') j) (p+1))):=by
        unfold Hid;rw [sm,<- bw.out,<- au.out,tmR_getD t xs ys ds j hpi,HY.out,nm_addl,nm_addr];unfold wtl;rw [map_getDN hpi]
       have b6:(0:Int)<=(p:Int):=by omega
       have bO:(p:Int)<(i:Int):=by omega
       have bp:(0:Int)<=(j:Int):=by omega
       have bP:(j:Int)<(i:Int):=by omega
       go_wp2;go_quiet ((first | (go_at_call 160;exact Calls.quiet_of_same (rMul _ _ _ (by omega) (by omega) (by omega) (by omega))) | (go_at_call 159;exact Calls.quiet_of_same (rAdd _ _ _ (by omega) (by omega) (by omega) (by omega)))))
       all_goals
        go_wp2;go_roundw
        case rel=>exact ⟨p+1,_,_,by omega,by go_num,rfl,(nm_bd _).1,(nm_bd _).2,HV,by rw [HW.out,World.drewN_drewN]⟩
        case measure=>simp [intOf];omega
      ·have a6:p=i:=by omega
       subst a6;have HO:Hid (tmO t xs ys ds p j ++ [y]=tmO t xs ys ds p (j+1)):=by
        unfold Hid;rw [HY.out];exact tmO_snoc t xs ys ds p j
       have aC:=own_below ab ao;have aM:=ae.trans (ao.mono aR);have b7:=aM.size;clear ab ae ao bv dg HY;go_wp2_with (at_builtin;refine wpList_app1 Tryz.underlying52 info70 _ rfl _ _ rfl w2.heap.size _ _ _ rfl aC _ rfl (by omega) (by omega) ?_;intro v' w7 aD aE;rw [HO.out] at aD;have aN:=aM.trans aE;clear aE aC aM);go_roundw
       case rel=>exact ⟨j+1,by omega,by go_num,aD,aN⟩
       case measure=>simp [intOf];omega
    ·have a7:j=i:=by omega
     subst a7;have a1:=ap.below ae;have bx:=aL.trans (ae.mono aZ);have bz:=own_base ab aZ;have HG:Hid (gti t xs ys ds j j=tmG t xs ys ds j):=rfl;rw [HG.out] at a1;go_wp2;go_ret2;exact ⟨_,_,L,rfl,bz,a1,bx⟩
theorem Sto.slice {TY w p b V s} (h:Sto TY w p b V s) {x:Int} {l:List Int} (hf:s.f x=some l):∃a c,V x=some (Value.slice a s.n c)/\Rd w a s.n c l:=by
 rcases h.val x with e | ⟨l',a,c,e1,e2,e3⟩
 ·rw [e.1] at hf;cases hf
 ·rw [e1] at hf;obtain rfl:=Option.some.inj hf;exact ⟨a,c,e2,e3⟩
theorem look_at {w b q V} {x:Int} {v:Value} (h:MapI w b q V) (hv:V x=some v) (hx:i64r x):(Instr.lookup 122 (.map (some b)) (.int .i64 x) false).run Tryz.prog w = .ok v w:=by
 have:=(h.look Tryz.underlying122 (zeroL _) hx).2;rw [hv] at this;exact this
theorem rCombine (p G s g x) (u v z:Int) (w) (h:Stx 124 w p G s) (hg:i64r g) (hx:i64r x) (hu0:0<=u) (hu1:u<=18446744073709551615) (hv0:0<=v) (hv1:v<=18446744073709551615) (hz0:0<=z) (hz1:z<=18446744073709551615) (hlast:s.last<=1000000):
  Calls Tryz.prog 87 #[.pointer (some ⟨p,0,none⟩),.int .i64 g,.int .i64 x,.int .u64 u,.int .u64 v,.int .u64 z] w (Kde 124 p G (kmix s g x u v z) w):=by
 have hI:=rdI_of2 w (x:=g) (y:=x) hg hx;have ab:Below w.heap.size w (w.alloc (.cells #[.int .i64 g,.int .i64 x] 3)):=bal _ _;have h0:=h.same ab;have aw:=h.wf.n9;have ay:=h.wf.nt;have aq:=h.2;go_enter Tryz.func87,Tryz.ntmps87;go_wp2_with fail;generalize w.alloc (.cells #[.int .i64 g,.int .i64 x] 3)=w0 at *;refine (rHas p G s _ _ _ _ _ h0 hI).mono ?_;rintro e w1 ⟨rfl,af⟩;rw [hsl_two];have aa:=btr ab af;clear h0 hI ab af;cases hfg:s.f g with
 | none=>
  have HE:Hid (kmix s g x u v z=(0,4,s)):=by unfold Hid kmix;rw [hfg]
  simp only [Option.isSome_none,Bool.false_and];clear hfg;go_wp2;go_ret2;rw [HE.out];exact ⟨rfl,h.below aa,Tch.of_below aa⟩
 | some l=>
  cases hfx:s.f x with
  | none=>
   have HE:Hid (kmix s g x u v z=(0,4,s)):=by unfold Hid kmix;rw [hfg,hfx]
   simp only [Option.isSome_none,Bool.and_false];clear hfg hfx;go_wp2;go_ret2;rw [HE.out];exact ⟨rfl,h.below aa,Tch.of_below aa⟩
  | some m=>
   have HE:Hid (kmix s g x u v z=kadd s (mxl l m u v z s.n)):=by unfold Hid kmix;rw [hfg,hfx]
   simp only [Option.isSome_some,Bool.and_self];have h1:=h.same aa;have H1:Hid (Stx 124 w1.drew p G s):=h1.same ((Below.refl _ _).drew);obtain ⟨⟨b,V,hS,_⟩,_⟩:=h1;obtain ⟨ag,cg,ah,ai⟩:=hS.slice hfg;obtain ⟨ax,cx,aj,ak⟩:=hS.slice hfx;obtain ⟨c0,c1,c2,c3⟩:=hS.four;have az:=hS.lt;have aA:=look_at (show MapI w1.drew b s.cnt V from hS.map) ah hg;have aB:=look_at (show MapI w1.drew b s.cnt V from hS.map) aj hx;have an:=ai.drew;have ao:=ak.drew;have ar:Below w.heap.size w w1.drew:=aa.drew;have au:Hid (0<s.n):=by unfold Hid;omega
   obtain ⟨n,HN⟩:=nmd s.n;have ap:s.n<=1000:=by omega
   clear hS ah aj ai ak hfg hfx;go_wp2;go_region_with (first | (go_at_call 125;refine (rMixed _ _ _ _ _ _ _ _ _ _ _ an ao ap hu0 hu1 hv0 hv1 hz0 hz1).mono ?_;rintro e w3 ⟨v3,rfl,al,ad⟩;obtain ⟨a3,k3,rfl,ae,av⟩:=Rd.own al (bd_u64 (mxl_bd _ _ _ _ _ _));have am:=gnx_new (G:=G) ae au.out av;have h3:=H1.out.below ad) | (go_at_call 122;refine (rKeep p _ s _ _ _ _ h3 ae (mxl_bd _ _ _ _ _ _) am hlast).mono ?_;intro e w4 hK;have HR:Hid (Kde 124 p G (kadd s (mxl l m u v z s.n)) w e w4):=((hK.behind ad H1.out.2).after ar aq);obtain ⟨rfl,_,_⟩:=hK))
   all_goals
    clear h3 ae am al ad;go_wp2;go_ret2;rw [HE.out];exact HR.out
theorem stx_turn {TY w w' p b} {G:Nat->Prop} {V s a c} {l m:List Int} {k:Int} (h:Sto TY w p b V s) (hF:∀i,Ftp p b V i->G i) (hGl:∀i,G i->i<w.heap.size) (hm0:s.f k=some m) (hl:∀x ∈ l,0<=x/\x<=2147483646) (r:Rd w a s.n c l) (hG:∀x,a=some x->G x.block) (hm:MapI w' b (if (V k).isSome then s.cnt else s.cnt+1) (mset V k (some (.slice a s.n c)))) (hg:w.grownBy w' (some b)) (e:Ending) (he:e = .returned (.int .i64 0)):Kte TY p G (0,ktrn s k l) w e w':=by
 have hk:∀i,i<w.heap.size->i≠b->w'.heap[i]? = w.heap[i]?:=λi hi hne=>hg.block i hi (by simpa using hne);refine ⟨he,⟨⟨b,_,h.turn hm0 hl r hm hk,λi hi=>.inl ?_⟩,Gnx.lt hGl hg.size⟩,⟨hg.os,hg.tape,hg.output,hg.size,λi hi hn=>hk i hi (λe=>hn (hF _ (.inr (.inl e))))⟩⟩
 rcases hi with rfl | rfl | ⟨hh,a',m,c',e,rfl⟩
 ·exact hF _ (.inl rfl)
 ·exact hF _ (.inr (.inl rfl))
 ·unfold mset at e;split at e
  ·simp only [Option.some.injEq,Value.slice.injEq] at e;exact hG a' e.1
  ·exact hF _ (.inr (.inr ⟨hh,a',m,c',e,rfl⟩))
theorem rRefresh (p G s x ad q cd ds w) (h:Stx 124 w p G s) (hx:i64r x) (r:Rd w ad q cd ds):
  Calls Tryz.prog 86 #[.pointer (some ⟨p,0,none⟩),.int .i64 x,.slice ad q cd] w (Kte 124 p G (krfr s x ds) w):=by
 have hI:=rdI_of1 w (x:=x) hx;have ah:Below w.heap.size w (w.alloc (.cells #[.int .i64 x] 3)):=bal _ _;have h0:=h.same ah;have ar:=h.wf.t4;have au:=h.wf.n9;have av:=h.wf.nt;have aV:=h.wf.c8;have aJ:=h.2;have aT:=r.cap;have aH:=r.max;have ak:=r.len;unfold maxLen at aH;go_enter Tryz.func86,Tryz.ntmps86;go_wp2_with fail;generalize w.alloc (.cells #[.int .i64 x] 3)=w0 at *;refine (rHas p G s _ _ _ _ _ h0 hI).mono ?_;rintro e w1 ⟨rfl,aw⟩;rw [hsl_one];have ae:=btr ah aw;clear h0 hI ah aw;cases hf:s.f x with
 | none=>
  have HE:Hid (krfr s x ds=(4,s)):=by unfold Hid krfr;rw [hf]
  simp only [Option.isSome_none];clear hf;go_wp2;go_ret;rw [HE.out];exact ⟨rfl,h.below ae,Tch.of_below ae⟩
 | some l=>
  simp only [Option.isSome_some];have h1:=h.same ae;have HF:=hid hf;obtain ⟨⟨b,V,hS,_⟩,_⟩:=h1;obtain ⟨c0,c1,c2,c3⟩:=hS.four;have ay:=hS.lt;clear hS hf;obtain ⟨n,HN⟩:=nmd s.n;obtain ⟨t,HT⟩:=nmd s.t;rw [HN.out] at c0 au av;rw [HT.out] at c1 ar av;obtain ⟨M,HM⟩:=nmd (n*t);have aW:(n:Int)*(t:Int)=(M:Int):=by rw [<- HM.out];push_cast;rfl
  have aU:M<=36:=by rw [<- HM.out];exact Nat.mul_le_mul au ar
  have aX:IntKind.i64.wrap ((M:Int))=(M:Int):=by rw [IntKind.wrap_i64];omega
  have al:Hid (s.n*s.t=M):=by unfold Hid;rw [HN.out,HT.out,HM.out]
  by_cases hm:q=M
  ·subst hm;have HE:Hid (krfr s x ds=(0,ktrn s x (mxl l (ksm s.n s.t false ds s.n) 1 1 0 s.n))):=by unfold Hid krfr;rw [HF.out];simp only;rw [if_pos (by rw [ak,al.out])]
   have HK:=hid al.out.symm;have aK:((q:Int) != (q:Int))=false:=by simp
   go_wp2;go_quiet (fail);have ag:Below w1.heap.size w1 (w1.drewN nq):=drewN_below (Below.refl _ _) nq;generalize w1.drewN nq=w2 at *;have ab:=btr ae ag;have h2:=h.same ab;have H2:Hid (Stx 124 w2.drew p G s):=h2.same ((Below.refl _ _).drew);clear c0 c1 c2 c3 ay ag;obtain ⟨⟨b,V,hS,am⟩,_⟩:=h2;have aL:=hid am;obtain ⟨ax,cx,az,aA⟩:=hS.slice HF.out;have aM:=hid az;have HS:Hid (∀w',Below w2.heap.size w2 w'->Sto 124 w' p b V s):=λw' hb=>hS.keep λi hi=>hb.block i (H2.out.2 i (am i hi));have aN:=(r.below ab).drew;have aO:Below w.heap.size w w2.drew:=ab.drew;have aP:Hid (∀w',Below w2.heap.size w2 w'->Rd w' ax s.n cx l):=λw' hb=>aA.below hb;have ai:Hid (∀w',Below w2.heap.size w2 w'->w'.cell? ⟨p,3,none⟩=some (.map (some b))/\p<w'.heap.size/\(Instr.lookup 122 (.map (some b)) (.int .i64 x) false).run Tryz.prog w' = .ok (.slice ax s.n cx) w'):=λw' hb=>⟨(HS.out w' hb).four.2.2.2,(HS.out w' hb).lt,look_at (HS.out w' hb).map aM.out hx⟩;have aa:Below w2.heap.size w2 w2.drew:=(Below.refl _ _).drew;obtain ⟨e3,e4,e5⟩:=ai.out _ aa;obtain ⟨aY,aZ,_⟩:=ai.out _ (Below.refl _ _);have aQ:Hid (0<s.n):=by unfold Hid;rw [HN.out];omega
   have an:s.n<=1000:=by rw [HN.out];omega
   clear hS az aA am;go_wp2;go_region_with (first | (go_at_call 123;refine (rSums p G s _ _ _ _ false _ H2.out aN HK.out).mono ?_;rintro e w3 ⟨v3,rfl,aB,aj⟩;obtain ⟨a3,k3,rfl,aC,aR⟩:=Rd.own aB (bd_u64 (ksm_bd _ _ _ _ _));have aa:=btr aa aj;obtain ⟨e6,e7,e8⟩:=ai.out _ aa;have aI:=aP.out _ aa) | (go_at_call 125;refine (rMixed _ _ _ _ _ _ _ 1 1 0 _ aI aC an (by omega) (by omega) (by omega) (by omega) (by omega) (by omega)).mono ?_;rintro e w5 ⟨v5,rfl,aD,aE⟩;obtain ⟨a5,k5,rfl,ao,aF⟩:=Rd.own aD (bd_u64 (mxl_bd _ _ _ _ _ _));have af:=btr aa aE;obtain ⟨e9,a0,a1⟩:=ai.out _ af;obtain ⟨w6,aS,aG,ap⟩:=(HS.out _ af).map.store (t:=122) Tryz.underlying122 (by omega) (k:=x) hx (.slice a5 s.n k5)))
   all_goals
    have aq:=btr aj aE;have HR:Hid (Kte 124 p G (krfr s x ds) w (.returned (.int .i64 0)) w6):=by
     unfold Hid;rw [HE.out];refine Kte.after aO (Kte.behind aq (stx_turn (HS.out _ af) (λi hi=>.inl (aL.out i hi)) (Gnx.lt H2.out.2 aq.size) HF.out (mxl_bd _ _ _ _ _ _) ao ?_ aG ap.grown _ rfl) H2.out.2) aJ;exact gnx_new ao aQ.out (λy hy=>Nat.le_trans aj.size (aF y hy))
    clear aB aD aC ao aR aF aG ap;go_wp2;go_ret;exact HR.out
  ·have HE:Hid (krfr s x ds=(1,s)):=by unfold Hid krfr;rw [HF.out];simp only;rw [if_neg (by rw [ak,al.out];exact hm)]
   have aK:((q:Int) != (M:Int))=true:=by rw [bne_iff_ne];omega
   clear hm;go_wp2;go_quiet (fail);have ag:Below w1.heap.size w1 (w1.drewN nq):=drewN_below (Below.refl _ _) nq;generalize w1.drewN nq=w2 at *;have ab:=btr ae ag;clear c0 c1 c2 c3 ay ag;go_wp2;go_ret;rw [HE.out];exact ⟨rfl,h.below ab,Tch.of_below ab⟩
def Kst (w:World) (p:Nat) (G:Nat->Prop) (s:Kt):Prop:=Stx 142 w p G s
theorem Kst.lt {w p G s} (h:Kst w p G s):∀i,G i->i<w.heap.size:=h.2
theorem Kst.wf {w p G s} (h:Kst w p G s):Kwf s:=Stx.wf h
theorem Kst.same {w w' p G s} (h:Kst w p G s) (hb:Below w.heap.size w w'):Kst w' p G s:=Stx.same h hb
def Kke (p:Nat) (G:Nat->Prop) (r:Int×Int×Kt) (w:World) (e:Ending) (w':World):Prop:=
 e = .returned (.tuple #[.int .i64 r.1,.int .i64 r.2.1])/\Kst w' p (Gnx G w w') r.2.2/\Tch w w' G
def Kkt (p:Nat) (G:Nat->Prop) (r:Int×Kt) (w:World) (e:Ending) (w':World):Prop:=
 e = .returned (.int .i64 r.1)/\Kst w' p (Gnx G w w') r.2/\Tch w w' G
def Knw (n t:Int) (w:World) (e:Ending) (w':World):Prop:=
 ((¬ ((0<=t/\t<=4)/\n<=9/\2*t+1<=n)/\e = .returned (.tuple #[.pointer none,.int .i64 1]))\/
  ∃(n' t' p:Nat) (G:Nat->Prop),n=(n':Int)/\t=(t':Int)/\t'<=4/\n'<=9/\2*t'+1<=n'/\e = .returned (.tuple #[.pointer (some ⟨p,0,none⟩),.int .i64 0])/\Kst w' p G (k0 n' t')/\∀i,G i->w.heap.size<=i)/\Below w.heap.size w w'
def Kpn (s:Kt) (x:Int) (w:World) (e:Ending) (w':World):Prop:=∃y r,e = .returned (.tuple #[.int .u64 y,.int .i64 r])/\Kop s x y r/\Below w.heap.size w w'
def KcNew:Prop:=∀(n t:Int) (w:World),i64r n->i64r t->Calls Tryz.prog 115 #[.int .i64 n,.int .i64 t] w (Knw n t w)
def KcGen:Prop:=∀(p:Nat) (G:Nat->Prop) (s:Kt) (a:Option Addr) (m c:Nat) (ds:List Int) (w:World),Kst w p G s->Rd w a m c ds->s.last<=1000000->Calls Tryz.prog 50 #[.pointer (some ⟨p,0,none⟩),.slice a m c] w (Kke p G (kgen s ds) w)
def KcRefresh:Prop:=∀(p:Nat) (G:Nat->Prop) (s:Kt) (x:Int) (a:Option Addr) (m c:Nat) (ds:List Int) (w:World),Kst w p G s->i64r x->Rd w a m c ds->Calls Tryz.prog 53 #[.pointer (some ⟨p,0,none⟩),.int .i64 x,.slice a m c] w (Kkt p G (krfr s x ds) w)
def KcTweak:Prop:=∀(p:Nat) (G:Nat->Prop) (s:Kt) (x u:Int) (w:World),Kst w p G s->i64r x->0<=u->u<=18446744073709551615->s.last<=1000000->Calls Tryz.prog 55 #[.pointer (some ⟨p,0,none⟩),.int .i64 x,.int .u64 u] w (Kke p G (kmix s x x 1 0 u) w)
def KcCombine:Prop:=∀(p:Nat) (G:Nat->Prop) (s:Kt) (g x u v:Int) (w:World),Kst w p G s->i64r g->i64r x->0<=u->u<=18446744073709551615->0<=v->v<=18446744073709551615->s.last<=1000000->Calls Tryz.prog 57 #[.pointer (some ⟨p,0,none⟩),.int .i64 g,.int .i64 x,.int .u64 u,.int .u64 v] w (Kke p G (kmix s g x u v 0) w)
def KcMultiply:Prop:=∀(p:Nat) (G:Nat->Prop) (s:Kt) (g x:Int) (a:Option Addr) (m c:Nat) (ds:List Int) (w:World),Kst w p G s->i64r g->i64r x->Rd w a m c ds->s.last<=1000000->Calls Tryz.prog 59 #[.pointer (some ⟨p,0,none⟩),.int .i64 g,.int .i64 x,.slice a m c] w (Kke p G (kmul s g x ds) w)
def KcOpen:Prop:=∀(p:Nat) (G:Nat->Prop) (s:Kt) (x:Int) (w:World),Kst w p G s->i64r x->Calls Tryz.prog 62 #[.pointer (some ⟨p,0,none⟩),.int .i64 x] w (Kpn s x w)
def KcDrop:Prop:=∀(p:Nat) (G:Nat->Prop) (s:Kt) (x:Int) (w:World),Kst w p G s->i64r x->Calls Tryz.prog 64 #[.pointer (some ⟨p,0,none⟩),.int .i64 x] w (Kkt p G (kdrp s x) w)
def Wr1 (n:Nat):Prop:=1<=n/\n<=9
def Wr2 (n m:Nat):Prop:=(1<=n/\n<=9)/\m=n
theorem wk_one (n:Nat):Wk [n] 1↔Wr1 n:=by
 unfold Wk Wr1;constructor
 ·intro h;exact h.1
 ·intro h;refine ⟨h,λi hi=>?_⟩
  obtain rfl:i=0:=by omega
  rfl
theorem wk_two (n m:Nat):Wk [n,m] 2↔Wr2 n m:=by
 unfold Wk Wr2;constructor
 ·intro h;exact ⟨h.1,h.2 1 (by omega)⟩
 ·intro h;refine ⟨h.1,λi hi=>?_⟩
  match i,hi with
  | 0,_=>rfl
  | 1,_=>exact h.2
theorem len_two {n m:Nat} (h0:n<=9223372036854775807) (h1:m<=9223372036854775807):∀i,[n,m].getD i 0<=9223372036854775807
 | 0=>h0
 | 1=>h1
 | i+2=>by simp
theorem len_one {n:Nat} (h0:n<=9223372036854775807):∀i,[n].getD i 0<=9223372036854775807
 | 0=>h0
 | i+1=>by simp
def Gts (ok:Prop) (L:List Int) (n:Nat) (w:World) (e:Ending) (w':World):Prop:=
 ((¬ ok/\e = .returned (.tuple #[.slice none 0 0,.int .i64 5]))\/(ok/\∃v,e = .returned (.tuple #[v,.int .i64 0])/\w'.ownsRow w.heap.size 70 1 v n (L.map (Value.int .u64))))/\Below w.heap.size w w'
def Gme (t:Int) (n m q:Nat) (r:Int):Prop:=
 ((t<0\/4<t)/\r=1)\/((0<=t/\t<=4)/\((¬ Wr2 n m/\r=5)\/(Wr2 n m/\(((n:Int)<2*t+1/\r=4)\/(2*t+1<=(n:Int)/\(((q:Int)≠(n:Int)*t/\r=1)\/((q:Int)=(n:Int)*t/\r=0)))))))
theorem Gme.one {t n m q r s} (h:Gme t n m q r) (k:Gme t n m q s):r=s:=by
 rcases h with ⟨h1,rfl⟩ | ⟨h1,h2⟩ <;> rcases k with ⟨k1,rfl⟩ | ⟨k1,k2⟩
 ·rfl
 ·exfalso;omega
 ·exfalso;omega
 ·rcases h2 with ⟨h2,rfl⟩ | ⟨h2,h3⟩ <;> rcases k2 with ⟨k2,rfl⟩ | ⟨k2,k3⟩
  ·rfl
  ·exact absurd k2 h2
  ·exact absurd h2 k2
  ·rcases h3 with ⟨h3,rfl⟩ | ⟨h3,⟨h4,rfl⟩ | ⟨h4,rfl⟩⟩ <;> rcases k3 with ⟨k3,rfl⟩ | ⟨k3,⟨k4,rfl⟩ | ⟨k4,rfl⟩⟩
   all_goals first
    | rfl
    | (exfalso;omega)
    | exact absurd k4 h4
    | exact absurd h4 k4
theorem Gme.ok {t n m q} (h:Gme t n m q 0):∃k:Nat,t=(k:Int)/\k<=4/\1<=n/\n<=9/\m=n/\2*k+1<=n/\q=n*k:=by
 rcases h with ⟨_,h⟩ | ⟨h1,⟨_,h⟩ | ⟨h2,⟨_,h⟩ | ⟨h3,⟨_,h⟩ | ⟨h4,_⟩⟩⟩⟩
 ·omega
 ·omega
 ·omega
 ·omega
 ·obtain ⟨k,rfl⟩:∃k:Nat,t=k:=⟨t.toNat,by omega⟩;refine ⟨k,rfl,by omega,h2.1.1,h2.1.2,h2.2,by omega,?_⟩
  have:((q:Nat):Int)=((n*k:Nat):Int):=by rw [h4];push_cast;rfl
  omega
def Gtm (t : Int) (xs ys ds : List Int) (n m q : Nat) (w : World) (e : Ending) (w' : World) : Prop :=
  ((∃ r, r ≠ 0 /\ Gme t n m q r /\ e = .returned (.tuple #[.slice none 0 0, .slice none 0 0, .int .i64 r])) \/
   (Gme t n m q 0 /\ ∃ v u L, e = .returned (.tuple #[v, u, .int .i64 0]) /\ w'.ownsRow w.heap.size 70 1 v n ((tmO t.toNat xs ys ds n n).map (Value.int .u64)) /\ LsV w' w.heap.size u L (tmG t.toNat xs ys ds n))) /\ Below w.heap.size w w'
theorem Blk.mine {w g} {n B:Nat} {L} (h:Blk w g L) (hl:L.length=n) (hB:B<=g) (hn:n<=1000):w.ownsRow B 70 1 (.slice (some ⟨g,0,none⟩) n n) n (L.map (Value.int .u64)):=
 ⟨by simp [hl],.inr ⟨g,n,_,rfl,hB,h,Nat.le_refl _,by unfold maxLen;omega,by simp [hl],by rw [List.take_of_length_le (by simp [hl])]⟩⟩
theorem cWires (g k ns w) (h:RdL w g k ns) (hk0:0<k) (hk:k<=100) (hm:∀i,ns.getD i 0<=9223372036854775807):
  Calls Tryz.prog 182 #[.slice (some ⟨g,0,none⟩) k k] w λe w'=>Tells (Wk ns k) w e w':=by
 have ah:=h.lt;obtain ⟨a0,c0,ab⟩:=h.cell 0 hk0;obtain ⟨N,HN⟩:=nmd (ns.getD 0 0);have hN:=hm 0;rw [HN.out] at ab hN;have HM:=hid hm;clear hm;go_enter Tryz.func182,Tryz.ntmps182;go_wp2;go_loop [7] (λq=>∃i:Nat,i<=k/\q = .int .i64 i/\Hid (∀j,j<i->(1<=ns.getD j 0/\ns.getD j 0<=9)/\ns.getD j 0=N)) (λq=>k-(intOf q).toNat)
 case atStart=>exact ⟨0,Nat.zero_le _,rfl,λj hj=>by omega⟩
 case round=>
  obtain ⟨i,hi,rfl,HB⟩:=hrel;by_cases hlt:i<k
  ·obtain ⟨ai,ci,ad⟩:=h.cell i hlt;obtain ⟨M,aa⟩:=nmd (ns.getD i 0);have hM:=HM.out i;rw [aa.out] at ad hM;by_cases h1:M<1
   ·have HX:Hid (¬ Wk ns k):=λe=>by have h2:=e.2 i hlt;have h3:=e.1;rw [<- h2,aa.out] at h3;omega
    clear HB;go_wp2;go_ret;exact .no HX.out (Below.refl _ _)
   ·by_cases h9:9<M
    ·have HX:Hid (¬ Wk ns k):=λe=>by have h2:=e.2 i hlt;have h3:=e.1;rw [<- h2,aa.out] at h3;omega
     clear HB;go_wp2;go_ret;exact .no HX.out (Below.refl _ _)
    ·by_cases hMN:M=N
     ·have ae:((M:Int) != (N:Int))=false:=by rw [bne_eq_false_iff_eq];omega
      have af:Hid (∀j,j<i+1->(1<=ns.getD j 0/\ns.getD j 0<=9)/\ns.getD j 0=N):=λj hj=>by
       by_cases e:j=i
       ·rw [e,aa.out];exact ⟨by omega,hMN⟩
       ·exact HB.out j (by omega)
      clear hMN HB;go_wp2;go_round
      case rel=>exact ⟨i+1,by omega,by go_num,af⟩
      case measure=>simp [intOf];omega
     ·have ae:((M:Int) != (N:Int))=true:=by rw [bne_iff_ne];omega
      have HX:Hid (¬ Wk ns k):=λe=>hMN (by have h2:=e.2 i hlt;rw [aa.out,HN.out] at h2;exact h2);clear hMN HB;go_wp2;go_ret;exact .no HX.out (Below.refl _ _)
  ·have ag:i=k:=by omega
   subst ag;have HE:Hid (Wk ns i):=by
    unfold Hid Wk;rw [HN.out];have h0:=HB.out 0 hk0;rw [HN.out] at h0;exact ⟨h0.1,λj hj=>(HB.out j hj).2⟩
   clear HB;go_wp2;go_ret;exact .yes HE.out (Below.refl _ _)
theorem cBoth (F:Nat) (op:Int->Int->Int) (eg:∀args w,(callFunc F args).run Tryz.prog w = .ok (.enter F args) w) (HF:Hid (∀(x y:Int) (w:World),0<=x->x<=18446744073709551615->0<=y->y<=18446744073709551615->Calls Tryz.prog F #[.int .u64 x,.int .u64 y] w λe w'=>e = .returned (.int .u64 (nm (op x y)))/\w'=w)) (a n c xs b m d ys w) (h:Rd w a n c xs) (g:Rd w b m d ys):
  Calls Tryz.prog 150 #[.func (.func F) #[] #[],.slice a n c,.slice b m d] w λe w'=>Gts (Wr2 n m) ((List.range n).map λi=>nm (op (xs.getD i 0) (ys.getD i 0))) n w e w':=by
 obtain ⟨i0,hi,ao,ap,aq⟩:=info_parts info70;have ar:=h.max;have au:=g.max;have hc:=h.cap;have gc:=g.cap;unfold maxLen at ar au;have ak:=rdL_two w a n c b m d 52;have af:Below w.heap.size w (w.alloc (.cells #[.slice a n c,.slice b m d] 52)):=bal _ _;go_enter Tryz.func150,Tryz.ntmps150;go_wp2_with fail;generalize w.alloc (.cells #[.slice a n c,.slice b m d] 52)=wA at *;refine (cWires _ _ _ _ ak (by omega) (by omega) (len_two (by omega) (by omega))).mono ?_;rintro e w1 ⟨r,rfl,hr,al⟩;rw [wk_two] at hr;have HR:=hid hr;have ag:=btr af al;clear hr al af ak;cases r with
 | false=>
  have HN:Hid (¬ Wr2 n m):=λe=>by have:=HR.out.2 e;cases this
  go_wp2;go_ret2;exact ⟨.inl ⟨HN.out,rfl⟩,ag⟩
 | true=>
  have HY:Hid (Wr2 n m):=HR.out.1 rfl;obtain rfl:m=n:=HY.out.2;have aD:=HY.out.1.2;have ah:=ag.size;go_wp2_with (at_make;refine wpList_make_full _ rfl _ _ 52 rfl w1.heap.size 70 i0 (.int .u64 0) 1 Tryz.underlying52 hi ao ap .i64 .i64 _ _ m rfl rfl (by omega) (by omega) (by rw [aq];omega) (by unfold maxLen;omega) (Nat.le_refl _) ?_;intro w2 ai ae);have am:Blk w2 w1.heap.size (fil (λi=>nm (op (xs.getD i 0) (ys.getD i 0))) m 0):=by rw [<- fil_zero];exact Blk.made ai
  have an:Below w1.heap.size w1 w2:=(Below.refl _ _).grown ae (Nat.le_refl _) (by simp);have aj:Below w.heap.size w w2:=ag.trans (an.mono ah);clear ai ae an;go_loopw [20] (λi wr=>∃k:Nat,k<=m/\i = .int .i64 k/\Blk wr w1.heap.size (fil (λi=>nm (op (xs.getD i 0) (ys.getD i 0))) m k)/\Below w.heap.size w wr) (λi _=>m-(intOf i).toNat)
  case atStart=>exact ⟨0,Nat.zero_le _,rfl,am,aj⟩
  case round=>
   clear am aj;obtain ⟨k,hk,rfl,aa,ab⟩:=hrel;by_cases hlt:k<m
   ·obtain ⟨b1,o1,x,rfl,aA,HX,aE,aF,aG⟩:=(h.below ab).one hlt;obtain ⟨b2,o2,y,rfl,aB,av,aH,aI,aJ⟩:=(g.below ab).one hlt;have az:=aa.cell (i:=k) (by rw [fil_len];exact hlt);have aK:=aa.frozen k;have aC:=aa.lt;have ad:=aa.set k (nm (op x y));rw [fil_set (by rw [<- HX.out,<- av.out])] at ad;have aw:=hid ad;have ax:Hid (Below w.heap.size w (wr.setCell ⟨w1.heap.size,k,none⟩ (.int .u64 (nm (op x y))))):=ab.setCell ah _;have aL:(0:Int)<=(k:Int):=by omega
    have aM:(k:Int)<(m:Int):=by omega
    clear ab aa ad;go_wp2;go_region_with (refine (HF.out _ _ _ (by omega) (by omega) (by omega) (by omega)).mono ?_;rintro e w' ⟨rfl,rfl⟩)
    all_goals
     go_wp2;go_roundw
     case rel=>exact ⟨k+1,by omega,by go_num,aw.out,ax.out.drew⟩
     case measure=>simp [intOf];omega
   ·have ay:k=m:=by omega
    subst ay;rw [fil_full] at aa;have ho:=aa.mine (B:=w.heap.size) (by simp) ah (show k<=1000 by omega);go_wp2;go_ret2;exact ⟨.inr ⟨HY.out,_,rfl,ho⟩,ab⟩
theorem cEach (F:Nat) (op:Int->Int->Int) (eg:∀args w,(callFunc F args).run Tryz.prog w = .ok (.enter F args) w) (HF:Hid (∀(x y:Int) (w:World),0<=x->x<=18446744073709551615->0<=y->y<=18446744073709551615->Calls Tryz.prog F #[.int .u64 x,.int .u64 y] w λe w'=>e = .returned (.int .u64 (nm (op x y)))/\w'=w)) (a n c xs) (q:Int) (w) (h:Rd w a n c xs) (q0:0<=q) (q1:q<=18446744073709551615):
  Calls Tryz.prog 147 #[.func (.func F) #[] #[],.slice a n c,.int .u64 q] w λe w'=>Gts (Wr1 n) ((List.range n).map λi=>nm (op (xs.getD i 0) q)) n w e w':=by
 obtain ⟨i0,hi,ao,ap,aq⟩:=info_parts info70;have ar:=h.max;have hc:=h.cap;unfold maxLen at ar;have ak:=rdL_one w a n c 52;have af:Below w.heap.size w (w.alloc (.cells #[.slice a n c] 52)):=bal _ _;go_enter Tryz.func147,Tryz.ntmps147;go_wp2_with fail;generalize w.alloc (.cells #[.slice a n c] 52)=wA at *;refine (cWires _ _ _ _ ak (by omega) (by omega) (len_one (by omega))).mono ?_;rintro e w1 ⟨r,rfl,hr,al⟩;rw [wk_one] at hr;have HR:=hid hr;have ag:=btr af al;clear hr al af ak;cases r with
 | false=>
  have HN:Hid (¬ Wr1 n):=λe=>by have:=HR.out.2 e;cases this
  go_wp2;go_ret2;exact ⟨.inl ⟨HN.out,rfl⟩,ag⟩
 | true=>
  have HY:Hid (Wr1 n):=HR.out.1 rfl;have aA:=HY.out.2;have ah:=ag.size;go_wp2_with (at_make;refine wpList_make_full _ rfl _ _ 52 rfl w1.heap.size 70 i0 (.int .u64 0) 1 Tryz.underlying52 hi ao ap .i64 .i64 _ _ n rfl rfl (by omega) (by omega) (by rw [aq];omega) (by unfold maxLen;omega) (Nat.le_refl _) ?_;intro w2 ai ae);have am:Blk w2 w1.heap.size (fil (λi=>nm (op (xs.getD i 0) q)) n 0):=by rw [<- fil_zero];exact Blk.made ai
  have an:Below w1.heap.size w1 w2:=(Below.refl _ _).grown ae (Nat.le_refl _) (by simp);have aj:Below w.heap.size w w2:=ag.trans (an.mono ah);clear ai ae an;go_loopw [19] (λi wr=>∃k:Nat,k<=n/\i = .int .i64 k/\Blk wr w1.heap.size (fil (λi=>nm (op (xs.getD i 0) q)) n k)/\Below w.heap.size w wr) (λi _=>n-(intOf i).toNat)
  case atStart=>exact ⟨0,Nat.zero_le _,rfl,am,aj⟩
  case round=>
   clear am aj;obtain ⟨k,hk,rfl,aa,ab⟩:=hrel;by_cases hlt:k<n
   ·obtain ⟨b1,o1,x,rfl,ay,HX,aB,aC,aD⟩:=(h.below ab).one hlt;have ax:=aa.cell (i:=k) (by rw [fil_len];exact hlt);have aE:=aa.frozen k;have az:=aa.lt;have ad:=aa.set k (nm (op x q));rw [fil_set (by rw [<- HX.out])] at ad;have au:=hid ad;have av:Hid (Below w.heap.size w (wr.setCell ⟨w1.heap.size,k,none⟩ (.int .u64 (nm (op x q))))):=ab.setCell ah _;have aF:(0:Int)<=(k:Int):=by omega
    have aG:(k:Int)<(n:Int):=by omega
    clear ab aa ad;go_wp2_with fail;refine (HF.out _ _ _ (by omega) (by omega) (by omega) (by omega)).mono ?_;rintro e w' ⟨rfl,hw⟩;have hw:=hw.symm;subst hw;go_wp2;go_roundw
    case rel=>exact ⟨k+1,by omega,by go_num,au.out,av.out⟩
    case measure=>simp [intOf];omega
   ·have aw:k=n:=by omega
    subst aw;rw [fil_full] at aa;have ho:=aa.mine (B:=w.heap.size) (by simp) ah (show k<=1000 by omega);go_wp2;go_ret2;exact ⟨.inr ⟨HY.out,_,rfl,ho⟩,ab⟩
theorem cBothAdd (a n c xs b m d ys w) (h:Rd w a n c xs) (g:Rd w b m d ys):
  Calls Tryz.prog 150 #[.func (.func 148) #[] #[],.slice a n c,.slice b m d] w λe w'=>Gts (Wr2 n m) ((List.range n).map λi=>nm (xs.getD i 0+ys.getD i 0)) n w e w':=
 cBoth 148 (λx y=>x+y) Tryz.call148 (λx y w a b c d=>fAdd x y w a b c d) a n c xs b m d ys w h g
theorem cBothSub (a n c xs b m d ys w) (h:Rd w a n c xs) (g:Rd w b m d ys):
  Calls Tryz.prog 150 #[.func (.func 158) #[] #[],.slice a n c,.slice b m d] w λe w'=>Gts (Wr2 n m) ((List.range n).map λi=>nm (xs.getD i 0-ys.getD i 0)) n w e w':=
 cBoth 158 (λx y=>x-y) Tryz.call158 (λx y w a b c d=>fSub x y w a b c d) a n c xs b m d ys w h g
theorem cBothMul (a n c xs b m d ys w) (h:Rd w a n c xs) (g:Rd w b m d ys):
  Calls Tryz.prog 150 #[.func (.func 149) #[] #[],.slice a n c,.slice b m d] w λe w'=>Gts (Wr2 n m) ((List.range n).map λi=>nm (xs.getD i 0*ys.getD i 0)) n w e w':=
 cBoth 149 (λx y=>x*y) Tryz.call149 (λx y w a b c d=>fMul x y w a b c d) a n c xs b m d ys w h g
theorem cEachMul (a n c xs) (q:Int) (w) (h:Rd w a n c xs) (q0:0<=q) (q1:q<=18446744073709551615):
  Calls Tryz.prog 147 #[.func (.func 149) #[] #[],.slice a n c,.int .u64 q] w λe w'=>Gts (Wr1 n) ((List.range n).map λi=>nm (xs.getD i 0*q)) n w e w':=
 cEach 149 (λx y=>x*y) Tryz.call149 (λx y w a b c d=>fMul x y w a b c d) a n c xs q w h q0 q1
theorem cEachAdd (a n c xs) (q:Int) (w) (h:Rd w a n c xs) (q0:0<=q) (q1:q<=18446744073709551615):
  Calls Tryz.prog 147 #[.func (.func 148) #[] #[],.slice a n c,.int .u64 q] w λe w'=>Gts (Wr1 n) ((List.range n).map λi=>nm (xs.getD i 0+q)) n w e w':=
 cEach 148 (λx y=>x+y) Tryz.call148 (λx y w a b c d=>fAdd x y w a b c d) a n c xs q w h q0 q1
theorem cGAdd (a n c xs b m d ys w) (h:Rd w a n c xs) (g:Rd w b m d ys):
  Calls Tryz.prog 107 #[.slice a n c,.slice b m d] w λe w'=>Gts (Wr2 n m) (mxl xs ys 1 1 0 n) n w e w':=by
 have HE:Hid ((List.range n).map (λi=>nm (xs.getD i 0+ys.getD i 0))=mxl xs ys 1 1 0 n):=mxl_ext λi _=>by rw [Int.one_mul,Int.one_mul,Int.add_zero]
 go_enter Tryz.func107,Tryz.ntmps107;go_wp2_with fail;refine (cBothAdd _ _ _ _ _ _ _ _ _ h g).mono ?_;rintro e w1 ⟨⟨hn,rfl⟩ | ⟨hn,v,rfl,ho⟩,hb⟩
 ·have HN:=hid hn;clear hn;go_wp2;go_ret2;exact ⟨.inl ⟨HN.out,rfl⟩,hb⟩
 ·have HN:=hid hn;clear hn;rw [HE.out] at ho;go_wp2;go_ret2;exact ⟨.inr ⟨HN.out,v,rfl,ho⟩,hb⟩
theorem cGSub (a n c xs b m d ys w) (h:Rd w a n c xs) (g:Rd w b m d ys):
  Calls Tryz.prog 144 #[.slice a n c,.slice b m d] w λe w'=>Gts (Wr2 n m) (mxl xs ys 1 2147483646 0 n) n w e w':=by
 have HE:Hid ((List.range n).map (λi=>nm (xs.getD i 0-ys.getD i 0))=mxl xs ys 1 2147483646 0 n):=mxl_ext λi _=>by
  unfold nm;omega
 go_enter Tryz.func144,Tryz.ntmps144;go_wp2_with fail;refine (cBothSub _ _ _ _ _ _ _ _ _ h g).mono ?_;rintro e w1 ⟨⟨hn,rfl⟩ | ⟨hn,v,rfl,ho⟩,hb⟩
 ·have HN:=hid hn;clear hn;go_wp2;go_ret2;exact ⟨.inl ⟨HN.out,rfl⟩,hb⟩
 ·have HN:=hid hn;clear hn;rw [HE.out] at ho;go_wp2;go_ret2;exact ⟨.inr ⟨HN.out,v,rfl,ho⟩,hb⟩
theorem cGScale (a n c xs) (k:Int) (w) (h:Rd w a n c xs) (hk0:0<=k) (hk1:k<=18446744073709551615):
  Calls Tryz.prog 106 #[.slice a n c,.int .u64 k] w λe w'=>Gts (Wr1 n) (mxl xs xs k 0 0 n) n w e w':=by
 have HE:Hid ((List.range n).map (λi=>nm (xs.getD i 0*k))=mxl xs xs k 0 0 n):=mxl_ext λi _=>by rw [Int.zero_mul,Int.add_zero,Int.add_zero,Int.mul_comm]
 go_enter Tryz.func106,Tryz.ntmps106;go_wp2_with fail;refine (cEachMul _ _ _ _ _ _ h hk0 hk1).mono ?_;rintro e w1 ⟨⟨hn,rfl⟩ | ⟨hn,v,rfl,ho⟩,hb⟩
 ·have HN:=hid hn;clear hn;go_wp2;go_ret2;exact ⟨.inl ⟨HN.out,rfl⟩,hb⟩
 ·have HN:=hid hn;clear hn;rw [HE.out] at ho;go_wp2;go_ret2;exact ⟨.inr ⟨HN.out,v,rfl,ho⟩,hb⟩
theorem cGPlus (a n c xs) (k:Int) (w) (h:Rd w a n c xs) (hk0:0<=k) (hk1:k<=18446744073709551615):
  Calls Tryz.prog 104 #[.slice a n c,.int .u64 k] w λe w'=>Gts (Wr1 n) (mxl xs xs 1 0 k n) n w e w':=by
 have HE:Hid ((List.range n).map (λi=>nm (xs.getD i 0+k))=mxl xs xs 1 0 k n):=mxl_ext λi _=>by rw [Int.zero_mul,Int.add_zero,Int.one_mul]
 go_enter Tryz.func104,Tryz.ntmps104;go_wp2_with fail;refine (cEachAdd _ _ _ _ _ _ h hk0 hk1).mono ?_;rintro e w1 ⟨⟨hn,rfl⟩ | ⟨hn,v,rfl,ho⟩,hb⟩
 ·have HN:=hid hn;clear hn;go_wp2;go_ret2;exact ⟨.inl ⟨HN.out,rfl⟩,hb⟩
 ·have HN:=hid hn;clear hn;rw [HE.out] at ho;go_wp2;go_ret2;exact ⟨.inr ⟨HN.out,v,rfl,ho⟩,hb⟩
theorem infoVg:(Tryz.prog.info? 52).map (λi=>(i.zero,i.size,i.bytes))=some (some (.slice none 0 0),1,24):=by kernel_rfl
theorem infoSg:(Tryz.prog.info? 70).map (·.size)=some 1:=by kernel_rfl
theorem LsV.put {w B} {g n c q i:Nat} {z:Int} {v L rows} (h:LsV w B v L rows) (hq:q<rows.length) (hu:L.getD q (.slice none 0 0) = .slice (some ⟨g,0,none⟩) n c) (hn:(rows.getD q []).length=n):
  LsV (w.setCell ⟨g,i,none⟩ (.int .u64 z)) B v L (rows.set q ((rows.getD q []).set i z)):=by
 have hg:w.grownBy (w.setCell ⟨g,i,none⟩ (.int .u64 z)) (some g):=grown_set _ _ _ _;have aa:=h.row q hq;rw [hu,hn] at aa;have hE:(70:TypeId)≠52:=by decide
 refine ⟨by rw [List.length_set];exact h.own.kept hg (own_apart aa h.own hE),by simp [h.len],λj hj=>?_,λj k hjk hk=>by rw [List.length_set] at hk;exact h.inj j k hjk hk⟩
 rw [List.length_set] at hj;rw [getD_setV _ _ _ _ _ hq];by_cases e:j=q
 ·subst e;rw [if_pos rfl,hu,List.length_set,hn,List.map_set];exact own_set aa i _
 ·rw [if_neg e];refine (h.row j hj).kept hg ?_;have eb:(L.getD q (.slice none 0 0)).ownBlock=some g:=by rw [hu];rfl
  rcases Nat.lt_or_ge j q with e1 | e1
  ·rcases h.inj j q e1 hq with e2 | e2
   ·exact .inl e2
   ·exact .inr (by rw [<- eb];exact e2)
  ·rcases h.inj q j (by omega) hj with e2 | e2
   ·rw [eb] at e2;cases e2
   ·exact .inr (by rw [<- eb];exact λe3=>e2 e3.symm)
def mkr (n i:Nat):List (List Int):=(List.range n).map λp=>if p<i then List.replicate n 0 else []
theorem mkr_len (n i:Nat):(mkr n i).length=n:=by simp [mkr]
theorem mkr_zero (n:Nat):List.replicate n []=mkr n 0:=by
 apply List.ext_getElem?;intro i;by_cases hi:i<n
 ·simp [mkr,hi]
 ·simp [mkr,hi]
theorem mkr_set (n i:Nat):(mkr n i).set i (List.replicate n 0)=mkr n (i+1):=by
 apply List.ext_getElem?;intro q;rw [List.getElem?_set];by_cases hq:q<n
 ·by_cases e:i=q
  ·subst e;simp [mkr,hq]
  ·have:(q<i+1)=(q<i):=by apply propext;omega
   simp [mkr,hq,e,this]
 ·by_cases e:i=q
  ·subst e;simp [mkr,hq]
  ·simp [mkr,hq,e]
def pdC (t:Nat) (ps ds:List Int) (i:Nat):List Int:=ps.getD i 0 :: (ds.drop (i*t)).take t
def gdr (t:Nat) (ps ds:List Int) (n i p:Nat):List Int:=fil (λs=>dlf (pdC t ps ds s) p) n i
theorem gdr_len (t:Nat) (ps ds:List Int) (n i p:Nat):(gdr t ps ds n i p).length=n:=fil_len _ _ _
def gdi (t:Nat) (ps ds:List Int) (n i:Nat):List (List Int):=(List.range n).map λp=>gdr t ps ds n i p
theorem gdi_len (t:Nat) (ps ds:List Int) (n i:Nat):(gdi t ps ds n i).length=n:=by simp [gdi]
theorem mkr_full (t:Nat) (ps ds:List Int) (n:Nat):mkr n n=gdi t ps ds n 0:=by
 unfold mkr gdi gdr;refine List.map_congr_left λp hp=>?_;rw [if_pos (List.mem_range.1 hp),fil_zero]
def gdj (t:Nat) (ps ds:List Int) (n i j:Nat):List (List Int):=(List.range n).map λp=>gdr t ps ds n (if p<j then i+1 else i) p
theorem gdj_len (t:Nat) (ps ds:List Int) (n i j:Nat):(gdj t ps ds n i j).length=n:=by simp [gdj]
theorem gdj_zero (t:Nat) (ps ds:List Int) (n i:Nat):gdj t ps ds n i 0=gdi t ps ds n i:=by simp [gdj,gdi]
theorem gdj_full (t:Nat) (ps ds:List Int) (n i:Nat):gdj t ps ds n i n=gdi t ps ds n (i+1):=by
 unfold gdj gdi;refine List.map_congr_left λp hp=>?_;rw [if_pos (List.mem_range.1 hp)]
theorem gdj_getD (t:Nat) (ps ds:List Int) {n i j:Nat} (h:j<n):(gdj t ps ds n i j).getD j []=gdr t ps ds n i j:=by simp [gdj,h]
theorem gdj_set (t:Nat) (ps ds:List Int) {n i j:Nat}:(gdj t ps ds n i j).set j ((gdr t ps ds n i j).set i (dlf (pdC t ps ds i) j))=gdj t ps ds n i (j+1):=by
 have e0:(gdr t ps ds n i j).set i (dlf (pdC t ps ds i) j)=gdr t ps ds n (i+1) j:=fil_set rfl;rw [e0];apply List.ext_getElem?;intro q;rw [List.getElem?_set];by_cases hq:q<n
 ·by_cases e:j=q
  ·subst e;simp [gdj,hq]
  ·have:(q<j+1)=(q<j):=by apply propext;omega
   simp [gdj,hq,e,this]
 ·by_cases e:j=q
  ·subst e;simp [gdj,hq]
  ·simp [gdj,hq,e]
theorem cDealAll (t:Nat) (a n c ps e0 m f ds w) (h:Rd w a n c ps) (k:Rd w e0 m f ds) (ht:t<=4) (hn1:2*t+1<=n) (hn9:n<=9) (hm:m=n*t):
  Calls Tryz.prog 151 #[.int .i64 t,.slice a n c,.slice e0 m f] w λe w'=>∃u L,e = .returned u/\LsV w' w.heap.size u L (gdi t ps ds n n)/\Below w.heap.size w w':=by
 obtain ⟨i0,hi,ax,ay,az⟩:=info_parts infoVg;obtain ⟨j0,hj,aA,aB,aC⟩:=info_parts info70;have HM:=hid hm;clear hm;go_enter Tryz.func151,Tryz.ntmps151;go_wp2_with (at_make;refine wpList_make_full _ rfl _ _ 90 rfl w.heap.size 52 i0 (.slice none 0 0) 1 Tryz.underlying90 hi ax ay .i64 .i64 _ _ n rfl rfl (by omega) (by omega) (by rw [az];omega) (by unfold maxLen;omega) (Nat.le_refl _) ?_;intro w1 ae ab);have ah:Below w.heap.size w w1:=(Below.refl _ _).grown ab (Nat.le_refl _) (by simp);have ai:=lsv_made ae;rw [mkr_zero n] at ai;clear ae ab;go_loopw [22] (λq wr=>∃(i:Nat) (L:List Value),i<=n/\q = .int .i64 i/\LsV wr w.heap.size (.slice (some ⟨w.heap.size,0,none⟩) n n) L (mkr n i)/\Below w.heap.size w wr) (λq _=>n-(intOf q).toNat)
 case atStart=>exact ⟨0,_,Nat.zero_le _,rfl,ai,ah⟩
 case round=>
  clear ai ah;obtain ⟨i,L,aW,rfl,hL,aa⟩:=hrel;by_cases hlt:i<n
  ·have ag:=aa.size;have af:=mkr_len n i;have aq:Hid (∀w7,Below wr.heap.size wr w7->(∃x,w7.cell? ⟨w.heap.size,i,none⟩=some x)/\w7.frozen? ⟨w.heap.size,i,none⟩=false):=λw7 hg=>by
    obtain ⟨dg,fg,lg⟩:=(hL.below hg).cell af hlt;exact ⟨⟨_,dg⟩,fg⟩
   have ar:Hid (∀w7,w7.ownsRow wr.heap.size 70 1 (.slice (some ⟨wr.heap.size,0,none⟩) n n) n (madeCells (Value.int .u64 0).cells (n*1)).toList->Below wr.heap.size wr w7->LsV (w7.setCell ⟨w.heap.size,i,none⟩ (.slice (some ⟨wr.heap.size,0,none⟩) n n)) w.heap.size (.slice (some ⟨w.heap.size,0,none⟩) n n) (L.set i (.slice (some ⟨wr.heap.size,0,none⟩) n n)) (mkr n (i+1))/\Below w.heap.size w (w7.setCell ⟨w.heap.size,i,none⟩ (.slice (some ⟨wr.heap.size,0,none⟩) n n))):=λw7 ho hb=>by
    have hB:=Blk.made ho;have aD:=hB.mine (B:=w.heap.size) (by simp) ag (show n<=1000 by omega);have hu:=hL.upd (q:=i) (row:=List.replicate n 0) (u':=.slice (some ⟨wr.heap.size,0,none⟩) n n) af hlt (by rw [List.length_replicate];exact aD) (grown_below hb _) (.inr ⟨_,rfl,Nat.le_refl _⟩);rw [mkr_set] at hu;exact ⟨hu,(aa.trans (hb.mono ag)).setCell (p:=⟨w.heap.size,i,none⟩) (Nat.le_refl _) _⟩
   clear hL aa;go_wp2_with (at_make;refine wpList_make_full _ rfl _ _ 52 rfl wr.heap.size 70 j0 (.int .u64 0) 1 Tryz.underlying52 hj aA aB .i64 .i64 _ _ n rfl rfl (by omega) (by omega) (by rw [aC];omega) (by unfold maxLen;omega) (Nat.le_refl _) ?_;intro w2 ae ab;have aj:Below wr.heap.size wr w2:=((Below.refl _ _).grown ab (Nat.le_refl _) (by simp));obtain ⟨⟨xx,dd⟩,ff⟩:=aq.out w2 aj;have aX:=World.block_lt_of_cell? w2 _ dd;have HE:Hid (_/\_):=ar.out w2 ae aj;clear ae ab aj);clear aq ar;go_roundw
   case rel=>exact ⟨i+1,_,by omega,by go_num,HE.out.1,HE.out.2⟩
   case measure=>simp [intOf];omega
  ·have aE:i=n:=by omega
   subst aE;obtain ⟨wo,aF⟩:∃wo,wo=wr:=⟨_,rfl⟩;subst aF;rw [mkr_full t ps ds] at hL;go_wp2;go_loopw [33] (λq wr=>∃(s:Nat) (L:List Value),s<=i/\q = .int .i64 s/\LsV wr w.heap.size (.slice (some ⟨w.heap.size,0,none⟩) i i) L (gdi t ps ds i s)/\Below w.heap.size w wr) (λq _=>i-(intOf q).toNat)
   case atStart=>exact ⟨0,L,Nat.zero_le _,rfl,hL,aa⟩
   case round=>
    clear hL aa;obtain ⟨s,L,hs,rfl,hL,aa⟩:=hrel;obtain ⟨w2,aG⟩:∃w2,w2=wr:=⟨_,rfl⟩;subst aG;by_cases hlt2:s<i
    ·have ag:=aa.size;obtain ⟨P,HP⟩:=nmd (s*t);have hP:(s:Int)*(t:Int)=(P:Int):=by rw [<- HP.out];push_cast;rfl
     have aH:((s:Int)+1)*(t:Int)=(P:Int)+(t:Int):=by rw [Int.add_mul,Int.one_mul,hP]
     have aI:P+t<=m:=by
      have h1:(s+1)*t<=i*t:=Nat.mul_le_mul_right t hlt2;rw [Nat.add_mul,Nat.one_mul,HP.out,<- HM.out] at h1;exact h1
     have aR:m<=36:=by rw [HM.out];exact Nat.le_trans (Nat.mul_le_mul hn9 ht) (by omega)
     have aY:=k.cap;obtain ⟨b1,o1,x,rfl,ah,HX,aZ,a0,aJ⟩:=(h.below aa).one hlt2;have ak:=((k.below aa).sub (lo:=P) (k:=t) aI);obtain ⟨X,al⟩:=nmd (subA e0 f P);rw [al.out] at ak;have hsl:∀W,(Instr.sliceAt 52 (.slice e0 m f) (some (.int .i64 (P:Int))) (some (.int .i64 ((P:Int)+(t:Int)))) none).run Tryz.prog W = .ok (.slice X t (f-P)) W:=λW=>by rw [<- al.out];exact run_sub Tryz.underlying52 infoSg e0 m f P t rfl rfl (by omega) W
     have au:Hid (x :: (ds.drop P).take t=pdC t ps ds s):=by unfold Hid pdC;rw [HX.out,HP.out]
     have aK:Hid (∀p,p<i->∀gg,(L.getD p (.slice none 0 0)).ownBlock=some gg->gg<w2.heap.size):=λp hp gg hgg=>((hL.row p (by rw [gdi_len];exact hp)).lt gg hgg).2;go_wp2_with fail;refine (cDealOK _ _ _ _ _ _ _ ak (by omega) (by omega) ht (by omega) hn9).mono ?_;rintro e w3 ⟨g3,rfl,am,a1,an⟩;rw [au.out] at am;have ao:=hL.below an;have ap:=aa.trans (an.mono ag);rw [<- gdj_zero] at ao;clear ak hsl au hL aa an hP aH al aJ;go_wp2;go_loopw [55] (λq wr=>∃(j:Nat),j<=i/\q = .int .i64 j/\LsV wr w.heap.size (.slice (some ⟨w.heap.size,0,none⟩) i i) L (gdj t ps ds i s j)/\Rd wr (some ⟨g3,0,none⟩) i i (dl (pdC t ps ds s) i)/\Below w.heap.size w wr) (λq _=>i-(intOf q).toNat)
     case atStart=>exact ⟨0,Nat.zero_le _,rfl,ao,am,ap⟩
     case round=>
      clear ao am ap;obtain ⟨j,a2,rfl,hL,hr,aa⟩:=hrel;by_cases hji:j<i
      ·have af:=gdj_len t ps ds i s j;obtain ⟨dg,fg,lg⟩:=hL.cell af hji;have ad:=hL.row j (by rw [af];exact hji);rw [gdj_getD t ps ds hji,gdr_len] at ad;obtain ⟨z,HZ⟩:=nmd (dlf (pdC t ps ds s) j);obtain ⟨b3,o3,z',e3,aS,aL,aT,aU,aM⟩:=hr.one hji;simp only [Option.some.injEq,Addr.mk.injEq,and_true] at e3;obtain ⟨rfl,rfl⟩:=e3;rw [Nat.zero_add] at aM;obtain rfl:z=z':=by rw [<- HZ.out,<- aL.out,dl_getD _ hji]
       obtain ⟨ua,uc,hu,a3⟩:=own_slice ad;rw [hu] at ad dg;obtain ⟨gu,yy,rfl,av,aV,_,a4⟩:=own_at ad hlt2;have a5:=own_frozen ad s;have a6:gu<w2.heap.size:=aK.out j hji gu (by rw [hu];rfl);have aN:Hid (LsV (wr.setCell ⟨gu,s,none⟩ (.int .u64 z)) w.heap.size (.slice (some ⟨w.heap.size,0,none⟩) i i) L (gdj t ps ds i s (j+1))):=by
        have h1:=hL.put (i:=s) (z:=z) (by rw [af];exact hji) hu (by rw [gdj_getD t ps ds hji,gdr_len]);rw [gdj_getD t ps ds hji,<- HZ.out,gdj_set] at h1;rw [<- HZ.out];exact h1
       have aO:Hid (Rd (wr.setCell ⟨gu,s,none⟩ (.int .u64 z)) (some ⟨g3,0,none⟩) i i (dl (pdC t ps ds s) i)):=hr.grown (grown_set _ _ _ _) (λx hx=>by
        obtain rfl:=Option.some.inj hx;simp only [ne_eq,Option.some.injEq];omega)
       have aP:Hid (Below w.heap.size w (wr.setCell ⟨gu,s,none⟩ (.int .u64 z))):=aa.setCell av _;clear hL hr aa ad hu;go_wp2;go_roundw
       case rel=>exact ⟨j+1,by omega,by go_num,aN.out,aO.out,aP.out⟩
       case measure=>simp [intOf];omega
      ·have aw:j=i:=by omega
       subst aw;rw [gdj_full] at hL;go_wp2;go_roundw
       case rel=>exact ⟨s+1,L,by omega,by go_num,hL,aa⟩
       case measure=>simp [intOf];omega
    ·have aQ:s=i:=by omega
     subst aQ;go_wp2;go_ret;exact ⟨_,L,rfl,hL,aa⟩
theorem infoZg:(Tryz.prog.info? 3).map (λi=>(i.zero,i.size,i.bytes))=some (some (.int .i64 0),1,8):=by kernel_rfl
theorem own_madeZ {w:World} {B n:Nat} {v:Value} (h:w.ownsRow B 3 1 v n (madeCells (Value.int .i64 0).cells (n*1)).toList):w.ownsRow B 3 1 v n (zns (List.replicate n 0)):=by
 have e:(Value.int .i64 0).cells = #[Value.int .i64 0]:=rfl;rw [e,Nat.mul_one,toList_madeCells_one] at h;unfold zns;rw [List.map_replicate];exact h
def wgs (rows:List (List Int)) (n j p:Nat):Int:=nm (sm (λi=>wt (pty n) n i*(rows.getD j []).getD i 0) p)
theorem wgs_bd (rows:List (List Int)) (n j p:Nat):0<=wgs rows n j p/\wgs rows n j p<=2147483646:=nm_bd _
theorem wgs_zero (rows:List (List Int)) (n j:Nat):wgs rows n j 0=0:=rfl
theorem wgs_succ (rows:List (List Int)) (n j p:Nat):nm (wgs rows n j p+nm ((rows.getD j []).getD p 0*wt (pty n) n p))=wgs rows n j (p+1):=by
 unfold wgs;rw [sm,nm_addl,nm_addr,Int.mul_comm]
theorem fil_put0 (F:Nat->Int) {n j:Nat}:(fil F n j).set j 0=fil F n j:=by
 refine list_ext (by simp) λt ht=>?_;have aa:t<n:=by simpa [fil] using ht
 rw [getD_set,fil_len];by_cases e:j=t
 ·subst e;rw [if_pos ⟨rfl,aa⟩];simp [fil,aa]
 ·rw [if_neg (λh=>e h.1)]
theorem fil_ptyG (n:Nat):fil (λi:Nat=>(i:Int)+1) n n=pty n:=by rw [fil_full];rfl
theorem cWeigh (a n c rows w) (h:RdR w a n c rows) (hn1:1<=n) (hn9:n<=9) (hrl:∀j,j<n->(rows.getD j []).length=n):
  Calls Tryz.prog 152 #[.slice a n c] w λe w'=>∃u,e = .returned u/\w'.ownsRow w.heap.size 70 1 u n (((List.range n).map λj=>wgs rows n j n).map (Value.int .u64))/\Below w.heap.size w w':=by
 obtain ⟨i0,hi,aE,aF,aG⟩:=info_parts infoZg;obtain ⟨j0,hj,ar,au,aH⟩:=info_parts info70;have aI:=hid hrl;clear hrl;have aS:=h.cap;go_enter Tryz.func152,Tryz.ntmps152;go_wp2_with (at_make;refine wpList_make_full _ rfl _ _ 63 rfl w.heap.size 3 i0 (.int .i64 0) 1 Tryz.underlying63 hi aE aF .i64 .i64 _ _ n rfl rfl (by omega) (by omega) (by rw [aG];omega) (by unfold maxLen;omega) (Nat.le_refl _) ?_;intro w1 ad ae);have ak:Below w.heap.size w w1:=(Below.refl _ _).grown ae (Nat.le_refl _) (by simp);have al:=own_madeZ ad;rw [fil_zero (λi:Nat=>(i:Int)+1) n] at al;clear ad ae;go_loopw [17] (λq wr=>∃i:Nat,i<=n/\q = .int .i64 i/\wr.ownsRow w.heap.size 3 1 (.slice (some ⟨w.heap.size,0,none⟩) n n) n (zns (fil (λi:Nat=>(i:Int)+1) n i))/\Below w.heap.size w wr) (λq _=>n-(intOf q).toNat)
 case atStart=>exact ⟨0,Nat.zero_le _,rfl,al,ak⟩
 case round=>
  clear al ak;obtain ⟨i,aX,rfl,ad,aa⟩:=hrel;by_cases hlt:i<n
  ·obtain ⟨gu,yy,e1,aT,aU,_,aY⟩:=own_at ad hlt;simp only [Option.some.injEq,Addr.mk.injEq,and_true] at e1;subst e1;have aZ:=own_frozen ad i;have am:=own_set ad i (.int .i64 ((i:Int)+1));rw [zns_set,fil_set rfl] at am;have HO:=hid am;have HB:Hid (Below w.heap.size w (wr.setCell ⟨w.heap.size,i,none⟩ (.int .i64 ((i:Int)+1)))):=aa.setCell (Nat.le_refl _) _;clear ad aa am;go_wp2;go_roundw
   case rel=>exact ⟨i+1,by omega,by go_num,HO.out,HB.out⟩
   case measure=>simp [intOf];omega
  ·have aJ:i=n:=by omega
   subst aJ;rw [fil_ptyG] at ad;obtain ⟨wo,aK⟩:∃wo,wo=wr:=⟨_,rfl⟩;subst aK;obtain ⟨aw,cw,ev,av⟩:=RdI.own ad (λx hx=>by
    obtain ⟨q,hq,rfl⟩:=List.mem_map.1 hx;have:=List.mem_range.1 hq;omega)
   simp only [Value.slice.injEq] at ev;obtain ⟨rfl,_,rfl⟩:=ev;clear ad;go_wp2_with fail;refine (cWeights1 _ _ _ _ _ av (by omega)).mono ?_;rintro e w2 ⟨⟨aL,_⟩ | ⟨_,g2,rfl,aM,a0⟩,an⟩
   ·exact absurd (pty_dis hn9) aL
   have af:=btr aa an;have ah:=af.size;clear aa an av;go_wp2_with (at_make;refine wpList_make_full _ rfl _ _ 52 rfl w2.heap.size 70 j0 (.int .u64 0) 1 Tryz.underlying52 hj ar au .i64 .i64 _ _ i rfl rfl (by omega) (by omega) (by rw [aH];omega) (by unfold maxLen;omega) (Nat.le_refl _) ?_;intro w3 ad ae);have ax:Below w2.heap.size w2 w3:=(Below.refl _ _).grown ae (Nat.le_refl _) (by simp);have ay:Blk w3 w2.heap.size (fil (λj=>wgs rows i j i) i 0):=by rw [<- fil_zero];exact Blk.made ad
   clear ad ae;go_loopw [36] (λq wr=>∃j:Nat,j<=i/\q = .int .i64 j/\Blk wr w2.heap.size (fil (λj=>wgs rows i j i) i j)/\Below w2.heap.size w2 wr) (λq _=>i-(intOf q).toNat)
   case atStart=>exact ⟨0,Nat.zero_le _,rfl,ay,ax⟩
   case round=>
    clear ay ax;obtain ⟨j,a1,rfl,ab,aa⟩:=hrel;obtain ⟨w4,aN⟩:∃w4,w4=wr:=⟨_,rfl⟩;subst aN;by_cases hji:j<i
    ·obtain ⟨bR,oR,ai,ni,ci,row,rfl,az,ao,ap,aA⟩:=h.one hji;obtain rfl:ni=i:=by rw [<- aA.len,<- ao.out];exact aI.out j hji
     have aO:w4.cell? ⟨bR,oR+j,none⟩=some (.slice ai ni ci):=by rw [(af.trans (aa.mono ah)).cell (p:=⟨bR,oR+j,none⟩) az];exact ap
     have aV:bR<w4.heap.size:=Nat.lt_of_lt_of_le az (af.trans (aa.mono ah)).size;rw [<- fil_put0,<- wgs_zero rows ni j] at ab;clear ap;go_wp2;go_loopw [43] (λq wr=>∃p:Nat,p<=ni/\q = .int .i64 p/\Blk wr w2.heap.size ((fil (λj=>wgs rows ni j ni) ni j).set j (wgs rows ni j p))/\Below w2.heap.size w2 wr) (λq _=>ni-(intOf q).toNat)
     case atStart=>exact ⟨0,Nat.zero_le _,rfl,ab,aa⟩
     case round=>
      clear ab aa aO;obtain ⟨p,a2,rfl,ab,aa⟩:=hrel;by_cases hpi:p<ni
      ·obtain ⟨b1,o1,x,rfl,ak,HX,a3,a4,a5⟩:=(aA.below (af.trans (aa.mono ah))).one hpi;obtain ⟨b2,o2,y,e2,an,HY,ar,au,aP⟩:=(aM.below aa).one hpi;simp only [Option.some.injEq,Addr.mk.injEq,and_true] at e2;obtain ⟨rfl,rfl⟩:=e2;rw [Nat.zero_add] at aP;obtain ⟨S,HS⟩:=nmd (wgs rows ni j p);have aj:=wgs_bd rows ni j p;rw [HS.out] at ab aj;have aq:=ab.cell (i:=j) (by rw [List.length_set,fil_len];exact hji);rw [getD_set,fil_len,if_pos ⟨rfl,hji⟩] at aq;have a6:=ab.frozen j;have aW:=ab.lt;have a7:=aj.1;have a8:=aj.2;have hm:=nm_bd (x*y);have aB:Hid (nm (S+nm (x*y))=wgs rows ni j (p+1)):=by
        unfold Hid;rw [<- wgs_succ,HS.out,ao.out,HX.out,<- HY.out];simp [hpi]
       have ag:=ab.set j (nm (S+nm (x*y)));rw [List.set_set,aB.out] at ag;have aQ:Hid (Blk (wr.setCell ⟨w2.heap.size,j,none⟩ (.int .u64 (nm (S+nm (x*y))))) w2.heap.size ((fil (λj=>wgs rows ni j ni) ni j).set j (wgs rows ni j (p+1)))):=by unfold Hid;rw [aB.out];exact ag
       have aR:Hid (Below w2.heap.size w2 (wr.setCell ⟨w2.heap.size,j,none⟩ (.int .u64 (nm (S+nm (x*y)))))):=aa.setCell (Nat.le_refl _) _;have a9:(0:Int)<=(j:Int):=by omega
       have ba:(j:Int)<(ni:Int):=by omega
       have bb:(0:Int)<=(p:Int):=by omega
       have bc:(p:Int)<(ni:Int):=by omega
       clear aa ab ag aj;go_wp2;go_region_with (first | (go_at_call 149;refine (fMul _ _ _ (by omega) (by omega) (by omega) (by omega)).mono ?_;rintro e w' ⟨rfl,rfl⟩) | (go_at_call 148;refine (fAdd _ _ _ (by omega) (by omega) (by omega) (by omega)).mono ?_;rintro e w' ⟨rfl,rfl⟩))
       all_goals
        go_wp2;go_roundw
        case rel=>exact ⟨p+1,by omega,by go_num,aQ.out,aR.out.drew⟩
        case measure=>simp [intOf];omega
      ·have aC:p=ni:=by omega
       subst aC;rw [fil_set rfl] at ab;go_wp2;go_roundw
       case rel=>exact ⟨j+1,by omega,by go_num,ab,aa⟩
       case measure=>simp [intOf];omega
    ·have aD:j=i:=by omega
     subst aD;rw [fil_full] at ab;have ho:=ab.mine (B:=w.heap.size) (by simp) ah (show j<=1000 by omega);go_wp2;go_ret;exact ⟨_,rfl,ho,af.trans (aa.mono ah)⟩
end
section
open Crm
theorem mxl_back {n:Nat} {l:List Int} (hl:l.length=n) (hb:∀x ∈ l,0<=x/\x<=2147483646):mxl l (List.replicate n 0) 1 1 0 n=l:=by
 refine List.ext_getElem (by rw [mxl_len,hl]) λi h1 h2=>?_;have h:=mxl_getD l (List.replicate n 0) 1 1 0 (n:=n) (i:=i) (by omega);rw [List.getD_eq_getElem?_getD,List.getElem?_eq_getElem h1,Option.getD_some] at h;rw [h];have e:(List.replicate n (0:Int)).getD i 0=0:=by simp [List.getElem?_replicate];split <;> rfl
 rw [e,List.getD_eq_getElem?_getD,List.getElem?_eq_getElem h2,Option.getD_some];have hx:=hb _ (List.getElem_mem h2);rw [Int.one_mul,Int.one_mul,Int.add_zero,Int.add_zero];exact nm_small hx.1 hx.2
theorem mxl_more (l K D:List Int) (n:Nat):mxl (mxl l K 1 1 0 n) D 1 1 0 n=mxl l (mxl K D 1 1 0 n) 1 1 0 n:=by
 show (List.range n).map _=_;refine mxl_ext λi hi=>?_;rw [mxl_getD _ _ _ _ _ hi,mxl_getD _ _ _ _ _ hi];simp only [Int.one_mul,Int.add_zero];rw [nm_addl,nm_addr,Int.add_assoc]
theorem mxl_two (f g:List Int) (a b:Int) (n:Nat):mxl (mxl f f a 0 0 n) (mxl g g b 0 0 n) 1 1 0 n=mxl f g a b 0 n:=by
 show (List.range n).map _=_;refine mxl_ext λi hi=>?_;rw [mxl_getD _ _ _ _ _ hi,mxl_getD _ _ _ _ _ hi];simp only [Int.one_mul,Int.zero_mul,Int.add_zero];rw [nm_addl,nm_addr]
def kra (n t:Nat) (ds l:List Int):Nat->List Int
 | 0=>l
 | i+1=>mxl (kra n t ds l i) (dl (kdr t false ds i) n) 1 1 0 n
theorem kra_ksm {n:Nat} (t:Nat) (ds:List Int) {l:List Int} (hl:l.length=n) (hb:∀x ∈ l,0<=x/\x<=2147483646):∀i,kra n t ds l i=mxl l (ksm n t false ds i) 1 1 0 n
 | 0=>(mxl_back hl hb).symm
 | i+1=>by
  rw [kra,kra_ksm t ds hl hb i,ksm]
  exact mxl_more _ _ _ _
theorem kra_bd {n:Nat} (t:Nat) (ds:List Int) {l:List Int} (hb:∀x ∈ l,0<=x/\x<=2147483646) (i:Nat):∀x ∈ kra n t ds l i,0<=x/\x<=2147483646:=by
 cases i with
 | zero=>exact hb
 | succ i=>exact mxl_bd _ _ _ _ _ _
end
section
open Crm Go.RowKit
structure Pt (w:World) (l:List (Int×List Int)) (k:Nat) (S:List Value):Prop where
 len:S.length=10
 row:∀p:Nat,p<10->∃a m c,S[p]? = some (.slice a m c)/\m<=5/\((m=0/\∀r,r<k->ta l r≠(p:Int))\/(∃r,r<k/\ta l r=(p:Int)/\1<=m/\Rd w a m c (tc l r)))
 rwk:Rwk l k
theorem Pt.below {w w' l k S} (h:Pt w l k S) (hb:Below w.heap.size w w'):Pt w' l k S:=by
 refine ⟨h.len,λp hp=>?_,h.rwk⟩
 obtain ⟨a,m,c,h1,h2,h3⟩:=h.row p hp;refine ⟨a,m,c,h1,h2,?_⟩
 rcases h3 with h3 | ⟨r,r1,r2,r3,r4⟩
 ·exact .inl h3
 ·exact .inr ⟨r,r1,r2,r3,r4.below hb⟩
theorem Pt.one {w l k S} (h:Pt w l k S):(S.toArray.all (·.oneCell'))=true:=by
 rw [Array.all_eq_true_iff_forall_mem];intro v hv;obtain ⟨i,hi,rfl⟩:=List.getElem_of_mem (show v ∈ S by simpa using hv);obtain ⟨a,m,c,h1,_⟩:=h.row i (by have:=h.len;omega);rw [List.getElem?_eq_getElem hi] at h1;rw [Option.some.inj h1];rfl
theorem Pt.size {w l k S} (h:Pt w l k S):S.toArray.size=10:=by simpa using h.len
end
end Go.Proofs.YtljlioglpaogdacGreatDoor

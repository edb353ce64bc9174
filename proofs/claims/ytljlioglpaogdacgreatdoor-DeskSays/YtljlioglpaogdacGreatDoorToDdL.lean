/- DdK4 DdY4 DdY5 DdK6 DdY6 DdL -/
import Derived.Test.YtljlioglpaogdacGreatDoorToDdK5
import Derived.Test.YtljlioglpaogdacGreatDoorToSubC
import Derived.Test.YtljlioglpaogdacGreatDoorToDlElse
import Derived.Deep.RegionHeld3
namespace Go.Proofs.YtljlioglpaogdacGreatDoor
set_option linter.unusedVariables false
set_option maxRecDepth 100000
set_option maxHeartbeats 8000000
section
open Crm Go.RowKit
theorem dKeyMult (w0:World) (w b) (gb g:Nat) (G s) (k:Nat) (N) (hst:Kst w b G s) (hc:w.cell? ⟨gb,0,none⟩=some (.slice (some ⟨g,0,none⟩) k k)) (hB:Blk w g N) (hlen:N.length=k) (hN:∀x ∈ N,0<=x/\x<=9999999999) (hk:2<=k) (hk5:k<=100000) (hgbG:¬ G gb) (hgG:¬ G g) (hlow:∀i,G i->w0.heap.size<=i) (hbel:Below w0.heap.size w0 w) (hT:Tabs w0) (hlast:s.last<=1000000):
  Calls Tryz.prog 58 #[.pointer (some ⟨b,0,none⟩),.pointer (some ⟨gb,0,none⟩)] w (Kdl b G s vMult N w):=by
 have HN:=hid hN;have hR:Rd w (some ⟨g,0,none⟩) k k N:=hB.whole k hlen.symm (by unfold maxLen;omega) (λx hx=>by have:=hN x hx;omega);have ad:gb<w.heap.size:=World.block_lt_of_cell? w ⟨gb,0,none⟩ hc;have aj:g<w.heap.size:=hB.lt;have ak:=hid hst.lt;clear hN;obtain ⟨x0,ae⟩:=nmd (N.getD 0 0);have ao:w.cell? ⟨g,0,none⟩=some (.int .u64 x0):=by rw [<- ae.out];exact hB.cell (by omega)
 have ax:0<=x0/\x0<=9999999999:=by
  rw [<- ae.out];exact HN.out _ (gmem (show 0<N.length by omega))
 have ay:IntKind.i64.wrap x0=x0:=by rw [IntKind.wrap_i64];omega
 have az:(0:Int)<(k:Int):=by omega
 have av:0<k:=by omega
 obtain ⟨x1,af⟩:=nmd (N.getD 1 0);have ap:w.cell? ⟨g,1,none⟩=some (.int .u64 x1):=by rw [<- af.out];exact hB.cell (by omega)
 have aA:0<=x1/\x1<=9999999999:=by
  rw [<- af.out];exact HN.out _ (gmem (show 1<N.length by omega))
 have aB:IntKind.i64.wrap x1=x1:=by rw [IntKind.wrap_i64];omega
 have aC:(1:Int)<(k:Int):=by omega
 have aw:1<k:=by omega
 have aa:Hid (∀w',Tch w w' G->w'.cell? ⟨gb,0,none⟩=some (.slice (some ⟨g,0,none⟩) k k)/\w'.cell? ⟨g,0,none⟩=some (.int .u64 x0)/\w'.cell? ⟨g,1,none⟩=some (.int .u64 x1)/\gb<w'.heap.size/\g<w'.heap.size/\Tabs w'/\Rd w' (some ⟨g,0,none⟩) k k N):=λw' ht=>by
  have hb:=ht.below hbel hlow hbel.size;have e1:∀o,w'.cell? ⟨gb,o,none⟩=w.cell? ⟨gb,o,none⟩:=λo=>cell_block (ht.block gb ad hgbG);have e2:∀o,w'.cell? ⟨g,o,none⟩=w.cell? ⟨g,o,none⟩:=λo=>cell_block (ht.block g aj hgG);exact ⟨by rw [e1];exact hc,by rw [e2];exact ao,by rw [e2];exact ap,Nat.lt_of_lt_of_le ad ht.size,Nat.lt_of_lt_of_le aj ht.size,hT.below hb,hR.tch0 ht (λx hx=>by obtain rfl:=Option.some.inj hx;exact hgG)⟩
 obtain ⟨N1,ag⟩:=nmd (N.drop 2);have aq:Hid (Dky vMult N s (sad [(kmul s x0 x1 N1).1] (kmul s x0 x1 N1).2.1) (kmul s x0 x1 N1).2.2):=by unfold Hid Dky;(iterate 4 rewrite [if_neg (by decide)]);rw [if_pos rfl];unfold Dkh;rw [ae.out,af.out,ag.out];exact ⟨rfl,rfl⟩
 have ab:Hid (0<=(kmul s x0 x1 N1).1/\(kmul s x0 x1 N1).1<=9223372036854775807/\-9223372036854775808<=(kmul s x0 x1 N1).2.1/\(kmul s x0 x1 N1).2.1<=9223372036854775807):=kmul_rb _ _ _ hlast;obtain ⟨sa,al⟩:=nmd (subA (some ⟨g,0,none⟩) k 2);have hsl:∀W,(Instr.sliceAt 52 (.slice (some ⟨g,0,none⟩) k k) (some (.int .i64 2)) none none).run Tryz.prog W = .ok (.slice sa (k-2) (k-2)) W:=λW=>by
  rw [<- al.out];exact run_subl Tryz.underlying52 infoU1 _ k k 2 rfl (by omega) W
 have ar:Hid (∀w',Rd w' (some ⟨g,0,none⟩) k k N->Rd w' sa (k-2) (k-2) N1):=λw' hr=>by
  have e:=hr.sub (lo:=2) (k:=k-2) (by omega);rw [al.out,ag.out,List.take_of_length_le (by rw [<- ag.out,List.length_drop,hlen];exact Nat.le_refl _)] at e;exact e
 have aD:(2:Int)<=(k:Int):=by omega
 have H:=hid hst;have HD:Hid (Tch w w.drew G):=Tch.of_below (Below.refl _ _).drew;obtain ⟨y0,y1,y2,y3,y4,y5,y6⟩:=aa.out w (Tch.refl _ _);obtain ⟨z0,z1,z2,z3,z4,z5,z6⟩:=aa.out w.drew HD.out;clear hst hB hR;go_enter Tryz.func58,Tryz.ntmps58;go_wp2;go_region_held3 (λw'=>w'.cell? ⟨gb,0,none⟩=some (.slice (some ⟨g,0,none⟩) k k)/\w'.cell? ⟨g,0,none⟩=some (.int .u64 x0)/\w'.cell? ⟨g,1,none⟩=some (.int .u64 x1)) (go_keep) (first | (go_at_call 59;refine (cMultiplyK b G s x0 x1 _ _ _ N1 _ (H.out.same ((Below.refl _ _).drew)) ⟨by omega,by omega⟩ ⟨by omega,by omega⟩ (ar.out _ z6) hlast).mono ?_;intro e w3 hK;obtain ⟨rfl,am,an⟩:=Kke.behind ((Below.refl _ _).drew) hK ak.out;obtain ⟨t0,t1,t2,t3,t4,t5,t6⟩:=aa.out w3 an) | (go_at_call 49;refine (dTellH _ _ _ ab.out.1 ab.out.2.1 ab.out.2.2.1 ab.out.2.2.2 t5).mono ?_;rintro e w4 ⟨rfl,ah⟩;have ai:=an.same (Tch.of_below ah);obtain ⟨o0,o1,o2,o3,o4,o5,o6⟩:=aa.out w4 ai))
 all_goals
  have au:Hid (Kst w4 b (Gnx G w w4) (kmul s x0 x1 N1).2.2):=Stx.mono (Stx.same am ah) (λi g=>g.elim .inl (λg=>.inr ⟨g.1,Nat.lt_of_lt_of_le g.2 ah.size⟩)) (Gnx.lt ak.out ai.size);clear am;go_wp2;go_ret;exact ⟨_,_,rfl,aq.out,au.out,ai⟩
theorem dAnsMult (w0 w p G T S a n c l) (h:Dbc w0 w p G T S) (r:RdT w a n c l) (hn:n<=70000) (hTz:T.size<=2048) (hlast:∀s,S=some s->s.last<=1000000) (hT:Tabs w0) (hS:Shp w0) (hDs:Dsp w0):
  Calls Tryz.prog 10 #[.pointer (some ⟨p,0,none⟩),.string vMult,.slice a n c] w (Dle w0 p G T S vMult l w):=by
 obtain ⟨v,HV⟩:=nmd vMult;have aD:=qf13 HV (by decide +kernel);have aE:=qf6 HV (by decide +kernel);rw [HV.out];have ae:=r.len;have aP:=r.cap;have aB:=r.max;unfold maxLen at aB;have aF:=h.plt;have H:=hid h;have HT:Hid (∀w',Below w.heap.size w w'->Tabs w'/\Shp w'/\Dsp w'):=λw' hb=>⟨hT.below (btr h.bel hb),hS.below (btr h.bel hb),hDs.below (btr h.bel hb)⟩;have aG:Hid (∀le mo,Shq v le mo->le=2/\mo=true):=λle mo hq=>shq_vMult (by rw [HV.out];exact hq);have ao:Hid (Fit3 l n 2 true↔Syn vMult l):=fit_vMult ae;clear h;go_enter Tryz.func10,Tryz.ntmps10;go_wp2_with fail;refine (dShape v _ (HT.out _ (Below.refl _ _)).2.2).mono ?_;rintro e w1 ⟨wd,le,mo,rfl,hq,ad⟩;obtain ⟨rfl,rfl⟩:=aG.out le mo hq;clear hq;go_wp2_with fail;refine (dRead wd 2 true _ _ _ l _ (r.below ad) (by omega)).mono ?_;rintro e w2 ⟨⟨ap,u,rfl⟩ | ⟨ai,g,rfl,hg,hB⟩,aq⟩
 ·have ab:=btr ad aq;have HD:Hid (Dln T S v l (erB 3) T S):=by rw [<- HV.out];exact .inl ⟨λhs=>ap (ao.out.2 hs),rfl,rfl,rfl⟩
  obtain ⟨af,_⟩:=HT.out _ ab;clear ap;go_wp2_with fail;refine (dFail 3 _ (by omega) (by omega) af).mono ?_;rintro e wz ⟨rfl,ag⟩;have am:=btr ab ag;obtain ⟨X,HX⟩:=nmd (erB 3);rw [HX.out] at HD ⊢;clear ag af;go_wp2;go_ret;exact Dle.quiet H.out am HD.out
 ·have ab:=btr ad aq;have aQ:=ad.size;have ar:Hid (Syn vMult l):=ao.out.1 ai;have au:Hid (∀x ∈ nba l,0<=x/\x<=9999999999):=nba_bd (by rw [ae];exact ai.1);obtain ⟨N,aj⟩:=nmd (nba l);have e0:nbl l n=N:=by rw [<- aj.out,<- ae];rfl
  have aH:N.length=n:=by rw [<- aj.out,nba_len];exact ae
  have aI:=hid ai;rw [e0] at hB;rw [aj.out] at au;clear ai e0;have q0:=qf0 HV (by decide +kernel);have q1:=qf1 HV (by decide +kernel);have q2:=qf2 HV (by decide +kernel);have q3:=qf3 HV (by decide +kernel);have q4:(v.toList == [109,117,108,116,105,112,108,121])=true:=by rw [<- HV.out];decide +kernel
  have aJ:=hid aI.out.2.1;go_wp2_with fail;refine (dKcMult v _ _ _ _ q0 q1 q2 q3 q4).mono ?_;rintro e w3 ⟨rfl,av⟩;obtain ⟨ak,al⟩:=box_new w2 (.slice (some ⟨g,0,none⟩) n n);rw [<- av] at ak al;clear av;have aa:=btr ab ak;have aw:=hB.belowB ak;have aK:=hB.lt;obtain ⟨gb,aL⟩:=nmd w2.heap.size;have ax:=ab.size;rw [aL.out] at al aK ax ⊢;have aR:=aa.size;have aS:=λW=>neq_func W (.func 58) #[] #[.pointer (some ⟨gb,0,none⟩)];clear hB ak;obtain ⟨q,ah,⟨hS,rfl⟩ | ⟨s,b,hS,rfl,ay⟩⟩:=(H.out.same aa).row
  ·subst hS;have az:w3.cell? ⟨p,1,none⟩=some (.pointer none):=by rw [cell_of_row w3 p _ _ _ (0,0) ah];rfl
   have aC:=(H.out.same aa).plt;clear ah;have HD:Hid (Dln T none v l (erB 4) T none):=by rw [<- HV.out];exact .inr ⟨ar.out,by unfold Dac;(iterate 5 rewrite [if_neg (by decide)]);rw [if_neg (by decide)];exact ⟨rfl,.inl ⟨rfl,rfl,rfl⟩⟩⟩
   obtain ⟨af,_⟩:=HT.out _ aa;go_wp2_with fail;refine (dFail 4 _ (by omega) (by omega) af).mono ?_;rintro e wz ⟨rfl,ag⟩;have am:=btr aa ag;obtain ⟨X,HX⟩:=nmd (erB 4);rw [HX.out] at HD ⊢;clear ag af;go_wp2;go_ret;exact Dle.quiet H.out am HD.out
  ·subst hS;have az:w3.cell? ⟨p,1,none⟩=some (.pointer (some ⟨b,0,none⟩)):=by rw [cell_of_row w3 p _ _ _ (0,0) ah];rfl
   have aC:=(H.out.same aa).plt;have aM:Hid (w.heap[p]? = some (.cells #[.string T,.pointer (some ⟨b,0,none⟩)] 31 (0,0))):=by unfold Hid;rw [<- aa.block p aF];exact ah
   have aA:Hid (∀x,w.heap.size<=x->¬ G x):=λx hx e=>by have h2:=H.out.lt _ e;omega
   have aN:=hlast s rfl;have aO:Hid (∀out s',Dky vMult N s out s'->Dln T (some s) v l out T (some s')):=λout s' hd=>by rw [<- HV.out];exact .inr ⟨ar.out,by unfold Dac;(iterate 5 rewrite [if_neg (by decide)]);rw [if_neg (by decide)];exact ⟨rfl,.inr ⟨s,s',rfl,rfl,by rw [aj.out];exact hd⟩⟩⟩
   have an:=(H.out.same aa).bel;clear ah hlast;go_wp2_with fail;refine (dKeyMult w0 _ b gb g G s n N ay al aw aH au.out aJ.out (by omega) (aA.out gb ax) (aA.out g (by omega)) H.out.low an hT aN).mono ?_;intro e w4 hk;have HL:Hid (Dle w0 p G T (some s) v l w e w4):=Dle.key H.out aM.out aa (by rw [HV.out] at hk;exact hk) (λout s' hd=>aO.out out s' (by rw [HV.out];exact hd));obtain ⟨out,s',rfl,_⟩:=hk;clear az ay aw al;go_wp2;go_ret;exact HL.out
theorem dAnsKey (w0 w p G T S a n c l) (h:Dbc w0 w p G T S) (r:RdT w a n c l) (hn:n<=70000) (hTz:T.size<=2048) (hlast:∀s,S=some s->s.last<=1000000) (hT:Tabs w0) (hS:Shp w0) (hDs:Dsp w0):
  Calls Tryz.prog 10 #[.pointer (some ⟨p,0,none⟩),.string vKey,.slice a n c] w (Dle w0 p G T S vKey l w):=by
 obtain ⟨v,HV⟩:=nmd vKey;have aD:=qf13 HV (by decide +kernel);have aE:=qf6 HV (by decide +kernel);rw [HV.out];have ae:=r.len;have aP:=r.cap;have aB:=r.max;unfold maxLen at aB;have aF:=h.plt;have H:=hid h;have HT:Hid (∀w',Below w.heap.size w w'->Tabs w'/\Shp w'/\Dsp w'):=λw' hb=>⟨hT.below (btr h.bel hb),hS.below (btr h.bel hb),hDs.below (btr h.bel hb)⟩;have aG:Hid (∀le mo,Shq v le mo->le=1/\mo=false):=λle mo hq=>shq_vKey (by rw [HV.out];exact hq);have ao:Hid (Fit3 l n 1 false↔Syn vKey l):=fit_vKey ae;clear h;go_enter Tryz.func10,Tryz.ntmps10;go_wp2_with fail;refine (dShape v _ (HT.out _ (Below.refl _ _)).2.2).mono ?_;rintro e w1 ⟨wd,le,mo,rfl,hq,ad⟩;obtain ⟨rfl,rfl⟩:=aG.out le mo hq;clear hq;go_wp2_with fail;refine (dRead wd 1 false _ _ _ l _ (r.below ad) (by omega)).mono ?_;rintro e w2 ⟨⟨ap,u,rfl⟩ | ⟨ai,g,rfl,hg,hB⟩,aq⟩
 ·have ab:=btr ad aq;have HD:Hid (Dln T S v l (erB 3) T S):=by rw [<- HV.out];exact .inl ⟨λhs=>ap (ao.out.2 hs),rfl,rfl,rfl⟩
  obtain ⟨af,_⟩:=HT.out _ ab;clear ap;go_wp2_with fail;refine (dFail 3 _ (by omega) (by omega) af).mono ?_;rintro e wz ⟨rfl,ag⟩;have am:=btr ab ag;obtain ⟨X,HX⟩:=nmd (erB 3);rw [HX.out] at HD ⊢;clear ag af;go_wp2;go_ret;exact Dle.quiet H.out am HD.out
 ·have ab:=btr ad aq;have aQ:=ad.size;have ar:Hid (Syn vKey l):=ao.out.1 ai;have au:Hid (∀x ∈ nba l,0<=x/\x<=9999999999):=nba_bd (by rw [ae];exact ai.1);obtain ⟨N,aj⟩:=nmd (nba l);have e0:nbl l n=N:=by rw [<- aj.out,<- ae];rfl
  have aH:N.length=n:=by rw [<- aj.out,nba_len];exact ae
  have aI:=hid ai;rw [e0] at hB;rw [aj.out] at au;clear ai e0;have q0:=qf0 HV (by decide +kernel);have q1:=qf1 HV (by decide +kernel);have q2:=qf2 HV (by decide +kernel);have q3:=qf3 HV (by decide +kernel);have q4:=qf4 HV (by decide +kernel);have q5:(v.toList == [107,101,121])=true:=by rw [<- HV.out];decide +kernel
  have aJ:=hid aI.out.len;go_wp2_with fail;refine (dKcKey v _ _ _ _ q0 q1 q2 q3 q4 q5).mono ?_;rintro e w3 ⟨rfl,av⟩;obtain ⟨ak,al⟩:=box_new w2 (.slice (some ⟨g,0,none⟩) n n);rw [<- av] at ak al;clear av;have aa:=btr ab ak;have aw:=hB.belowB ak;have aK:=hB.lt;obtain ⟨gb,aL⟩:=nmd w2.heap.size;have ax:=ab.size;rw [aL.out] at al aK ax ⊢;have aR:=aa.size;have aS:=λW=>neq_func W (.func 60) #[] #[.pointer (some ⟨gb,0,none⟩)];clear hB ak;obtain ⟨q,ah,⟨hS,rfl⟩ | ⟨s,b,hS,rfl,ay⟩⟩:=(H.out.same aa).row
  ·subst hS;have az:w3.cell? ⟨p,1,none⟩=some (.pointer none):=by rw [cell_of_row w3 p _ _ _ (0,0) ah];rfl
   have aC:=(H.out.same aa).plt;clear ah;have HD:Hid (Dln T none v l (erB 4) T none):=by rw [<- HV.out];exact .inr ⟨ar.out,by unfold Dac;(iterate 5 rewrite [if_neg (by decide)]);rw [if_neg (by decide)];exact ⟨rfl,.inl ⟨rfl,rfl,rfl⟩⟩⟩
   obtain ⟨af,_⟩:=HT.out _ aa;go_wp2_with fail;refine (dFail 4 _ (by omega) (by omega) af).mono ?_;rintro e wz ⟨rfl,ag⟩;have am:=btr aa ag;obtain ⟨X,HX⟩:=nmd (erB 4);rw [HX.out] at HD ⊢;clear ag af;go_wp2;go_ret;exact Dle.quiet H.out am HD.out
  ·subst hS;have az:w3.cell? ⟨p,1,none⟩=some (.pointer (some ⟨b,0,none⟩)):=by rw [cell_of_row w3 p _ _ _ (0,0) ah];rfl
   have aC:=(H.out.same aa).plt;have aM:Hid (w.heap[p]? = some (.cells #[.string T,.pointer (some ⟨b,0,none⟩)] 31 (0,0))):=by unfold Hid;rw [<- aa.block p aF];exact ah
   have aA:Hid (∀x,w.heap.size<=x->¬ G x):=λx hx e=>by have h2:=H.out.lt _ e;omega
   have aN:=hlast s rfl;have aO:Hid (∀out s',Dky vKey N s out s'->Dln T (some s) v l out T (some s')):=λout s' hd=>by rw [<- HV.out];exact .inr ⟨ar.out,by unfold Dac;(iterate 5 rewrite [if_neg (by decide)]);rw [if_neg (by decide)];exact ⟨rfl,.inr ⟨s,s',rfl,rfl,by rw [aj.out];exact hd⟩⟩⟩
   have an:=(H.out.same aa).bel;clear ah hlast;go_wp2_with fail;refine (dKeyKey w0 _ b gb g G s n N ay al aw aH au.out aJ.out (by omega) (aA.out gb ax) (aA.out g (by omega)) H.out.low an hT aN).mono ?_;intro e w4 hk;have HL:Hid (Dle w0 p G T (some s) v l w e w4):=Dle.key H.out aM.out aa (by rw [HV.out] at hk;exact hk) (λout s' hd=>aO.out out s' (by rw [HV.out];exact hd));obtain ⟨out,s',rfl,_⟩:=hk;clear az ay aw al;go_wp2;go_ret;exact HL.out
theorem dKeyDrop (w0:World) (w b) (gb g:Nat) (G s) (k:Nat) (N) (hst:Kst w b G s) (hc:w.cell? ⟨gb,0,none⟩=some (.slice (some ⟨g,0,none⟩) k k)) (hB:Blk w g N) (hlen:N.length=k) (hN:∀x ∈ N,0<=x/\x<=9999999999) (hk:k=1) (hk5:k<=100000) (hgbG:¬ G gb) (hgG:¬ G g) (hlow:∀i,G i->w0.heap.size<=i) (hbel:Below w0.heap.size w0 w) (hT:Tabs w0) (hlast:s.last<=1000000):
  Calls Tryz.prog 63 #[.pointer (some ⟨b,0,none⟩),.pointer (some ⟨gb,0,none⟩)] w (Kdl b G s vDrop N w):=by
 have HN:=hid hN;have hR:Rd w (some ⟨g,0,none⟩) k k N:=hB.whole k hlen.symm (by unfold maxLen;omega) (λx hx=>by have:=hN x hx;omega);have aa:gb<w.heap.size:=World.block_lt_of_cell? w ⟨gb,0,none⟩ hc;have ae:g<w.heap.size:=hB.lt;have af:=hid hst.lt;clear hN;obtain ⟨x0,ab⟩:=nmd (N.getD 0 0);have al:w.cell? ⟨g,0,none⟩=some (.int .u64 x0):=by rw [<- ab.out];exact hB.cell (by omega)
 have ap:0<=x0/\x0<=9999999999:=by
  rw [<- ab.out];exact HN.out _ (gmem (show 0<N.length by omega))
 have aq:IntKind.i64.wrap x0=x0:=by rw [IntKind.wrap_i64];omega
 have ar:(0:Int)<(k:Int):=by omega
 have ao:0<k:=by omega
 have ag:Hid (∀w',Tch w w' G->w'.cell? ⟨gb,0,none⟩=some (.slice (some ⟨g,0,none⟩) k k)/\w'.cell? ⟨g,0,none⟩=some (.int .u64 x0)/\gb<w'.heap.size/\g<w'.heap.size/\Tabs w'/\Rd w' (some ⟨g,0,none⟩) k k N):=λw' ht=>by
  have hb:=ht.below hbel hlow hbel.size;have e1:∀o,w'.cell? ⟨gb,o,none⟩=w.cell? ⟨gb,o,none⟩:=λo=>cell_block (ht.block gb aa hgbG);have e2:∀o,w'.cell? ⟨g,o,none⟩=w.cell? ⟨g,o,none⟩:=λo=>cell_block (ht.block g ae hgG);exact ⟨by rw [e1];exact hc,by rw [e2];exact al,Nat.lt_of_lt_of_le aa ht.size,Nat.lt_of_lt_of_le ae ht.size,hT.below hb,hR.tch0 ht (λx hx=>by obtain rfl:=Option.some.inj hx;exact hgG)⟩
 have am:Hid (Dky vDrop N s (fne (kdrp s x0).1) (kdrp s x0).2):=by unfold Hid Dky;(iterate 5 rewrite [if_neg (by decide)]);rw [if_neg (by decide)];unfold Dkt;rw [ab.out];exact ⟨rfl,rfl⟩
 have ah:Hid (-9223372036854775808<=(kdrp s x0).1/\(kdrp s x0).1<=9223372036854775807):=kdrp_rb _ _;have H:=hid hst;have HD:Hid (Tch w w.drew G):=Tch.of_below (Below.refl _ _).drew;obtain ⟨y0,y1,y2,y3,y4,y5⟩:=ag.out w (Tch.refl _ _);clear hst hB hR;go_enter Tryz.func63,Tryz.ntmps63;go_wp2_with fail;refine (cDropK b G s x0 _ (H.out.same (Below.refl _ _)) ⟨by omega,by omega⟩).mono ?_;intro e w3 hK;obtain ⟨rfl,ai,aj⟩:=Kkt.behind (Below.refl _ _) hK af.out;obtain ⟨t0,t1,t2,t3,t4,t5⟩:=ag.out w3 aj;go_wp2_with fail;refine (dDone _ _ ah.out.1 ah.out.2 t4).mono ?_;rintro e w4 ⟨rfl,ad⟩;have ak:=aj.same (Tch.of_below ad);have an:Hid (Kst w4 b (Gnx G w w4) (kdrp s x0).2):=Stx.mono (Stx.same ai ad) (λi g=>g.elim .inl (λg=>.inr ⟨g.1,Nat.lt_of_lt_of_le g.2 ad.size⟩)) (Gnx.lt af.out ak.size);clear ai;go_wp2;go_ret;exact ⟨_,_,rfl,am.out,an.out,ak⟩
theorem dAnsDrop (w0 w p G T S a n c l) (h:Dbc w0 w p G T S) (r:RdT w a n c l) (hn:n<=70000) (hTz:T.size<=2048) (hlast:∀s,S=some s->s.last<=1000000) (hT:Tabs w0) (hS:Shp w0) (hDs:Dsp w0):
  Calls Tryz.prog 10 #[.pointer (some ⟨p,0,none⟩),.string vDrop,.slice a n c] w (Dle w0 p G T S vDrop l w):=by
 obtain ⟨v,HV⟩:=nmd vDrop;have aD:=qf13 HV (by decide +kernel);have aE:=qf6 HV (by decide +kernel);rw [HV.out];have ae:=r.len;have aP:=r.cap;have aB:=r.max;unfold maxLen at aB;have aF:=h.plt;have H:=hid h;have HT:Hid (∀w',Below w.heap.size w w'->Tabs w'/\Shp w'/\Dsp w'):=λw' hb=>⟨hT.below (btr h.bel hb),hS.below (btr h.bel hb),hDs.below (btr h.bel hb)⟩;have aG:Hid (∀le mo,Shq v le mo->le=1/\mo=false):=λle mo hq=>shq_vDrop (by rw [HV.out];exact hq);have ao:Hid (Fit3 l n 1 false↔Syn vDrop l):=fit_vDrop ae;clear h;go_enter Tryz.func10,Tryz.ntmps10;go_wp2_with fail;refine (dShape v _ (HT.out _ (Below.refl _ _)).2.2).mono ?_;rintro e w1 ⟨wd,le,mo,rfl,hq,ad⟩;obtain ⟨rfl,rfl⟩:=aG.out le mo hq;clear hq;go_wp2_with fail;refine (dRead wd 1 false _ _ _ l _ (r.below ad) (by omega)).mono ?_;rintro e w2 ⟨⟨ap,u,rfl⟩ | ⟨ai,g,rfl,hg,hB⟩,aq⟩
 ·have ab:=btr ad aq;have HD:Hid (Dln T S v l (erB 3) T S):=by rw [<- HV.out];exact .inl ⟨λhs=>ap (ao.out.2 hs),rfl,rfl,rfl⟩
  obtain ⟨af,_⟩:=HT.out _ ab;clear ap;go_wp2_with fail;refine (dFail 3 _ (by omega) (by omega) af).mono ?_;rintro e wz ⟨rfl,ag⟩;have am:=btr ab ag;obtain ⟨X,HX⟩:=nmd (erB 3);rw [HX.out] at HD ⊢;clear ag af;go_wp2;go_ret;exact Dle.quiet H.out am HD.out
 ·have ab:=btr ad aq;have aQ:=ad.size;have ar:Hid (Syn vDrop l):=ao.out.1 ai;have au:Hid (∀x ∈ nba l,0<=x/\x<=9999999999):=nba_bd (by rw [ae];exact ai.1);obtain ⟨N,aj⟩:=nmd (nba l);have e0:nbl l n=N:=by rw [<- aj.out,<- ae];rfl
  have aH:N.length=n:=by rw [<- aj.out,nba_len];exact ae
  have aI:=hid ai;rw [e0] at hB;rw [aj.out] at au;clear ai e0;have q0:=qf0 HV (by decide +kernel);have q1:=qf1 HV (by decide +kernel);have q2:=qf2 HV (by decide +kernel);have q3:=qf3 HV (by decide +kernel);have q4:=qf4 HV (by decide +kernel);have q5:=qf5 HV (by decide +kernel);have q6:(v.toList == [100,114,111,112])=true:=by rw [<- HV.out];decide +kernel
  have aJ:=hid aI.out.len;go_wp2_with fail;refine (dKcDrop v _ _ _ _ q0 q1 q2 q3 q4 q5 q6).mono ?_;rintro e w3 ⟨rfl,av⟩;obtain ⟨ak,al⟩:=box_new w2 (.slice (some ⟨g,0,none⟩) n n);rw [<- av] at ak al;clear av;have aa:=btr ab ak;have aw:=hB.belowB ak;have aK:=hB.lt;obtain ⟨gb,aL⟩:=nmd w2.heap.size;have ax:=ab.size;rw [aL.out] at al aK ax ⊢;have aR:=aa.size;have aS:=λW=>neq_func W (.func 63) #[] #[.pointer (some ⟨gb,0,none⟩)];clear hB ak;obtain ⟨q,ah,⟨hS,rfl⟩ | ⟨s,b,hS,rfl,ay⟩⟩:=(H.out.same aa).row
  ·subst hS;have az:w3.cell? ⟨p,1,none⟩=some (.pointer none):=by rw [cell_of_row w3 p _ _ _ (0,0) ah];rfl
   have aC:=(H.out.same aa).plt;clear ah;have HD:Hid (Dln T none v l (erB 4) T none):=by rw [<- HV.out];exact .inr ⟨ar.out,by unfold Dac;(iterate 5 rewrite [if_neg (by decide)]);rw [if_neg (by decide)];exact ⟨rfl,.inl ⟨rfl,rfl,rfl⟩⟩⟩
   obtain ⟨af,_⟩:=HT.out _ aa;go_wp2_with fail;refine (dFail 4 _ (by omega) (by omega) af).mono ?_;rintro e wz ⟨rfl,ag⟩;have am:=btr aa ag;obtain ⟨X,HX⟩:=nmd (erB 4);rw [HX.out] at HD ⊢;clear ag af;go_wp2;go_ret;exact Dle.quiet H.out am HD.out
  ·subst hS;have az:w3.cell? ⟨p,1,none⟩=some (.pointer (some ⟨b,0,none⟩)):=by rw [cell_of_row w3 p _ _ _ (0,0) ah];rfl
   have aC:=(H.out.same aa).plt;have aM:Hid (w.heap[p]? = some (.cells #[.string T,.pointer (some ⟨b,0,none⟩)] 31 (0,0))):=by unfold Hid;rw [<- aa.block p aF];exact ah
   have aA:Hid (∀x,w.heap.size<=x->¬ G x):=λx hx e=>by have h2:=H.out.lt _ e;omega
   have aN:=hlast s rfl;have aO:Hid (∀out s',Dky vDrop N s out s'->Dln T (some s) v l out T (some s')):=λout s' hd=>by rw [<- HV.out];exact .inr ⟨ar.out,by unfold Dac;(iterate 5 rewrite [if_neg (by decide)]);rw [if_neg (by decide)];exact ⟨rfl,.inr ⟨s,s',rfl,rfl,by rw [aj.out];exact hd⟩⟩⟩
   have an:=(H.out.same aa).bel;clear ah hlast;go_wp2_with fail;refine (dKeyDrop w0 _ b gb g G s n N ay al aw aH au.out aJ.out (by omega) (aA.out gb ax) (aA.out g (by omega)) H.out.low an hT aN).mono ?_;intro e w4 hk;have HL:Hid (Dle w0 p G T (some s) v l w e w4):=Dle.key H.out aM.out aa (by rw [HV.out] at hk;exact hk) (λout s' hd=>aO.out out s' (by rw [HV.out];exact hd));obtain ⟨out,s',rfl,_⟩:=hk;clear az ay aw al;go_wp2;go_ret;exact HL.out
theorem dLay (w0 w p G T S a n c l) (h:Dbc w0 w p G T S) (r:RdT w a n c l) (hn:n<=70000) (hTz:T.size<=2048) (hwz:∀i,i<n->(tx l i).size<=70000) (hT:Tabs w0):
  Calls Tryz.prog 20 #[.pointer (some ⟨p,0,none⟩),.slice a n c] w (Dle w0 p G T S vCirc l w):=by
 have an:=r.len;have aw:=r.cap;have ao:=r.max;unfold maxLen at ao;have H:=hid h;have HT:Hid (∀w',Below w.heap.size w w'->Tabs w'/\w'.cell? ⟨p,0,none⟩=some (.string T)/\w'.frozen? ⟨p,0,none⟩=false/\p<w'.heap.size):=λw' hb=>⟨hT.below (btr H.out.bel hb),(H.out.same hb).text.1,(H.out.same hb).text.2,(H.out.same hb).plt⟩;have hz:(jnw l n).size<=70001*n:=jnw_size hwz n (Nat.le_refl _);clear h hwz;by_cases hk0:n=0
 ·subst hk0;have ap:Hid (¬ Syn vCirc l):=λhs=>by unfold Syn at hs;rw [if_pos rfl] at hs;omega
  have HD:Hid (Dln T S vCirc l (erB 3) T S):=.inl ⟨ap.out,rfl,rfl,rfl⟩;obtain ⟨aq,_⟩:=HT.out _ (Below.refl _ _);clear hz r;go_enter Tryz.func20,Tryz.ntmps20;go_wp2_with fail;refine (dFail 3 _ (by omega) (by omega) aq).mono ?_;rintro e wz ⟨rfl,ab⟩;obtain ⟨X,HX⟩:=nmd (erB 3);rw [HX.out] at HD ⊢;go_wp2;go_ret;exact Dle.quiet H.out ab HD.out
 ·have ag:Hid (Syn vCirc l):=by unfold Hid Syn;rw [if_pos rfl];omega
  have ay:((n:Int)==0)=false:=by rw [beq_eq_false_iff_ne];omega
  have ah:Hid ((jnw l n).size<=100000000000):=by unfold Hid;omega
  obtain ⟨J,HJ⟩:=nmd (jnw l n);have ai:Hid (jnw l l.length=J):=by unfold Hid;rw [an];exact HJ.out
  rw [HJ.out] at hz;have a1:=add_big (P:=Tryz.prog) T J (by omega);obtain ⟨J1,ad⟩:=nmd (T++J);have aj:J1.size=T.size+J.size:=by rw [<- ad.out,ByteArray.size_append]
  rw [ad.out] at a1;have a2:=add_big (P:=Tryz.prog) J1 ⟨#[10]⟩ (by have:=nl_size;omega);obtain ⟨J2,ae⟩:=nmd (J1++⟨#[10]⟩);have ak:J2.size=T.size+J.size+1:=by rw [<- ae.out,ByteArray.size_append,aj];rfl
  have al:=hid ak;rw [ae.out] at a2;have ax:J2.size<=10000000000:=by omega
  have ar:Hid (T++(J++nlB)=J2):=by unfold Hid;rw [<- ae.out,<- ad.out,ByteArray.append_assoc];rfl
  obtain ⟨y0,y1,y2,y3⟩:=HT.out w (Below.refl _ _);obtain ⟨z0,z1,z2,z3⟩:=HT.out w.drew (Below.refl _ _).drew;have am:=r.below (Below.refl w.heap.size w).drew;clear hk0 aj ak;by_cases hbig:2048<J2.size
  ·have au:(2048:Int)<(J2.size:Int):=by omega
   have HD:Hid (Dln T S vCirc l (erB 2) T S):=.inr ⟨ag.out,by unfold Dac;rw [if_pos rfl,ai.out];exact ⟨rfl,.inl ⟨by rw [<- al.out];exact hbig,rfl,rfl⟩⟩⟩;clear hbig;go_enter Tryz.func20,Tryz.ntmps20;go_wp2;go_region_held3 (λw'=>w'.cell? ⟨p,0,none⟩=some (.string T)) (go_keep) (first | (go_at_call 42;refine (sJoin _ _ _ l _ am (by omega) ah.out).mono ?_;rintro e w2 ⟨rfl,af⟩;rw [HJ.out];have aa:Below w.heap.size w w2:=((Below.refl _ _).drew).trans (af.mono (Nat.le_refl _));obtain ⟨t0,t1,t2,t3⟩:=HT.out w2 aa))
   all_goals
    go_wp2_with fail;refine (dFail 2 _ (by omega) (by omega) t0).mono ?_;rintro e wz ⟨rfl,ab⟩;have av:=btr aa ab;obtain ⟨X,HX⟩:=nmd (erB 2);rw [HX.out] at HD ⊢;clear ab;go_wp2;go_ret;exact Dle.quiet H.out av HD.out
  ·have au:¬ ((2048:Int)<(J2.size:Int)):=by omega
   have HD:Hid (Dln T S vCirc l okB J2 S):=.inr ⟨ag.out,by unfold Dac;rw [if_pos rfl,ai.out];exact ⟨rfl,.inr ⟨by rw [<- al.out];omega,rfl,ar.out.symm⟩⟩⟩;clear hbig;go_enter Tryz.func20,Tryz.ntmps20;go_wp2;go_region_held3 (λw'=>w'.cell? ⟨p,0,none⟩=some (.string T)) (go_keep) (first | (go_at_call 42;refine (sJoin _ _ _ l _ am (by omega) ah.out).mono ?_;rintro e w2 ⟨rfl,af⟩;rw [HJ.out];have aa:Below w.heap.size w w2:=((Below.refl _ _).drew).trans (af.mono (Nat.le_refl _));obtain ⟨t0,t1,t2,t3⟩:=HT.out w2 aa))
   all_goals
    have HL:Hid (Dle w0 p G T S vCirc l w (.returned (.string okB)) (w2.setCell ⟨p,0,none⟩ (.string J2))):=Dle.text H.out aa HD.out;go_wp2;go_ret;exact HL.out
theorem dAnsCirc (w0 w p G T S a n c l) (h:Dbc w0 w p G T S) (r:RdT w a n c l) (hn:n<=70000) (hTz:T.size<=2048) (hwz:∀i,i<n->(tx l i).size<=70000) (hT:Tabs w0):
  Calls Tryz.prog 10 #[.pointer (some ⟨p,0,none⟩),.string vCirc,.slice a n c] w (Dle w0 p G T S vCirc l w):=by
 have hL:=dLay w0 w p G T S a n c l h r hn hTz hwz hT;obtain ⟨v,HV⟩:=nmd vCirc;have q0:(v.toList == [99,105,114,99,117,105,116])=true:=by rw [<- HV.out];decide +kernel
 rw [HV.out] at hL ⊢;clear h r hwz;go_enter Tryz.func10,Tryz.ntmps10;go_wp2_with fail;refine hL.mono ?_;intro e w1 hD;have HD:=hid hD;obtain ⟨out,T',S',rfl,_⟩:=hD;clear hL;go_wp2;go_ret;exact HD.out
end
end Go.Proofs.YtljlioglpaogdacGreatDoor

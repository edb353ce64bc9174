/- DdV DdQ DskT DeskSaysW -/
import Derived.Test.YtljlioglpaogdacGreatDoorToDdZ6
import Derived.Test.YtljlioglpaogdacGreatDoorToDskC
namespace Go.Proofs.YtljlioglpaogdacGreatDoor
set_option linter.unusedVariables false
set_option maxRecDepth 100000
set_option maxHeartbeats 8000000
section
open Crm Go.RowKit
theorem nmc_join {L n w w' e} (h:Nmc L n w e w'):∃(a:Option Addr) (k:Nat) (b:Bool),e = .returned (.tuple #[.slice a k k,.bool b])/\((b=false/\¬ okn L n/\a=none/\k=0)\/(b=true/\okn L n/\k=n/\∃g,a=some ⟨g,0,none⟩/\w.heap.size<=g/\Blk w' g (nbl L n)))/\Below w.heap.size w w':=by
 obtain ⟨⟨h1,rfl⟩ | ⟨h1,g,rfl,h2,h3⟩,hb⟩:=h
 ·exact ⟨none,0,false,rfl,.inl ⟨rfl,h1,rfl,rfl⟩,hb⟩
 ·exact ⟨some ⟨g,0,none⟩,n,true,rfl,.inr ⟨rfl,h1,rfl,g,rfl,h2,h3⟩,hb⟩
theorem dWork (w0 w p G T S a n c l) (h:Dbc w0 w p G T S) (r:RdT w a n c l) (hn:n<=70000) (hTz:T.size<=2048) (hT:Tabs w0) (hS:Shp w0):
  Calls Tryz.prog 21 #[.pointer (some ⟨p,0,none⟩),.slice a n c] w (Dle w0 p G T S vWork l w):=by
 have az:=r.len;have bg:=r.cap;have a3:=r.max;unfold maxLen at a3;have bh:=h.plt;have H:=hid h;have HT:Hid (∀w',Below w.heap.size w w'->Tabs w'/\Shp w'/\w'.cell? ⟨p,0,none⟩=some (.string T)/\p<w'.heap.size):=λw' hb=>⟨hT.below (btr H.out.bel hb),hS.below (btr H.out.bel hb),(H.out.same hb).text.1,(H.out.same hb).plt⟩;have av:Hid (∀w',Below w.heap.size w w'->¬ Syn vWork l->Dle w0 p G T S vWork l w (.returned (.string (erB 3))) w'):=λw' hb hs=>Dle.quiet H.out hb (.inl ⟨hs,rfl,rfl,rfl⟩);clear h;go_enter Tryz.func21,Tryz.ntmps21;go_wp2_with fail;refine (sIndexF _ _ _ l ⟨#[47]⟩ _ r).mono ?_;rintro e w1 ⟨sl,rfl,a4,hw⟩;have hw:=hw.symm;subst hw;rcases a4 with ⟨j,hj,aJ,rfl,aK⟩ | ⟨aL,rfl⟩
 ·have aA:Hid (slash l j):=⟨by omega,aJ,aK⟩;have am:Hid (Syn vWork l↔okn l j/\okn (l.drop (j+1)) (n-(j+1))/\2<=j):=by
   unfold Hid;rw [syn_vWork,az];exact ⟨λ⟨i,h1,h2⟩=>by obtain rfl:=h1.one aA.out;exact h2,λh2=>⟨j,aA.out,h2⟩⟩
  have bi:(0:Int)<=(j:Int):=by omega
  have bj:(j:Int)+1<=(n:Int):=by omega
  have bk:j<=70000:=by omega
  obtain ⟨sa,aM⟩:=nmd (subA a c (j+1));have hsl:∀W,(Instr.sliceAt 24 (.slice a n c) (some (.int .i64 ((j:Int)+1))) none none).run Tryz.prog W = .ok (.slice sa (n-(j+1)) (c-(j+1))) W:=λW=>by
   rw [<- aM.out];exact run_subl Tryz.underlying24 infoStr1 _ n c (j+1) (by push_cast;rfl) (by omega) W
  have rD:=r.sub (lo:=j+1) (by omega);rw [aM.out] at rD;have rT:=r.tke (show j<=n by omega);have bl:∀W,(Instr.sliceAt 24 (.slice a n c) none (some (.int .i64 (j:Int))) none).run Tryz.prog W = .ok (.slice a j c) W:=λW=>run_subh Tryz.underlying24 infoStr1 a n c j r.nil (by omega) W;obtain ⟨d,aB⟩:=nmd (n-(j+1));have bm:d<=70000:=by rw [<- aB.out];omega
  rw [aB.out] at hsl rD am;clear aJ aK;go_wp2_with fail;refine (cNumbers _ _ _ _ _ rT (by omega)).mono ?_;intro e w1 aN;obtain ⟨aa,ka,ba,rfl,hA,aO⟩:=nmc_join aN;have HA:=hid hA;have bo:ka<=70000:=by rcases hA with ⟨_,_,_,e⟩ | ⟨_,_,e,_⟩ <;> omega
  obtain ⟨ap,af⟩:=box_new w1 (.slice aa ka ka);obtain ⟨w2,aC⟩:=nmd (w1.alloc (.cells #[.slice aa ka ka] 52));rw [aC.out] at ap af;obtain ⟨g1,aP⟩:=nmd w1.heap.size;rw [aP.out] at af;have aq:g1<w2.heap.size:=World.block_lt_of_cell? w2 ⟨g1,0,none⟩ af;have ar:=btr aO ap;have aQ:=rD.below ar;clear aN hA rT rD ap;go_upto_region 5 with fail;rw [aC.out,aP.out];go_wp2_with fail;refine (cNumbers _ _ _ _ _ aQ (by omega)).mono ?_;intro e w3 aR;obtain ⟨ad,kd,bd,rfl,hD,aS⟩:=nmc_join aR;have HD:=hid hD;obtain ⟨au,ak⟩:=box_new w3 (.slice ad kd kd);obtain ⟨w4,aT⟩:=nmd (w3.alloc (.cells #[.slice ad kd kd] 52));rw [aT.out] at au ak;obtain ⟨g2,aU⟩:=nmd w3.heap.size;rw [aU.out] at ak;have al:Below w2.heap.size w2 w4:=btr aS au;have ab:=btr ar al;have a5:w4.cell? ⟨g1,0,none⟩=some (.slice aa ka ka):=by rw [al.cell (p:=⟨g1,0,none⟩) aq];exact af
  have aH:g1<w4.heap.size:=Nat.lt_of_lt_of_le aq al.size;have aI:g2<w4.heap.size:=World.block_lt_of_cell? w4 ⟨g2,0,none⟩ ak;obtain ⟨an,aV,z0,z1⟩:=HT.out w4 ab;clear aR hD aQ af aq;go_upto_region 6 with fail;rw [aT.out,aU.out];rcases HA.out with ⟨rfl,aW,ea,a6⟩ | ⟨rfl,aw,rfl,ga,rfl,bp,aj⟩
  ·have ah:Hid (¬ Syn vWork l):=λhs=>aW (okn_take.2 (am.out.1 hs).1);clear aW ea a6 HA HD;go_wp2_with fail;refine (dFail 3 _ (by omega) (by omega) an).mono ?_;rintro e wz ⟨rfl,ae⟩;have HL:=av.out wz (btr ab ae) ah.out;obtain ⟨X,HX⟩:=nmd (erB 3);rw [HX.out] at HL ⊢;have ai:=hid HL;clear HL ae;go_wp2;go_ret;exact ai.out
  rcases HD.out with ⟨rfl,aX,ed,a7⟩ | ⟨rfl,ax,rfl,gd,rfl,bq,ay⟩
  ·have ah:Hid (¬ Syn vWork l):=λhs=>aX (am.out.1 hs).2.1;clear aX ed a7 HA HD aw aj;go_wp2_with fail;refine (dFail 3 _ (by omega) (by omega) an).mono ?_;rintro e wz ⟨rfl,ae⟩;have HL:=av.out wz (btr ab ae) ah.out;obtain ⟨X,HX⟩:=nmd (erB 3);rw [HX.out] at HL ⊢;have ai:=hid HL;clear HL ae;go_wp2;go_ret;exact ai.out
  by_cases hk2:ka<2
  ·have ah:Hid (¬ Syn vWork l):=λhs=>by have:=(am.out.1 hs).2.2;omega
   have a8:(ka:Int)<2:=by omega
   clear HA HD aw aj ax ay;go_wp2_with fail;refine (dFail 3 _ (by omega) (by omega) an).mono ?_;rintro e wz ⟨rfl,ae⟩;have HL:=av.out wz (btr ab ae) ah.out;obtain ⟨X,HX⟩:=nmd (erB 3);rw [HX.out] at HL ⊢;have ai:=hid HL;clear HL ae;go_wp2;go_ret;exact ai.out
  ·have a8:¬ ((ka:Int)<2):=by omega
   have aD:=okn_take.1 aw;have a9:Hid (Syn vWork l):=am.out.2 ⟨aD,ax,by omega⟩;rw [nbl_take] at aj;have aY:Hid (∀x ∈ nbl l ka,0<=x/\x<=9999999999):=nbl_bd2 aD;have aZ:Hid (∀x ∈ nbl (l.drop (ka+1)) kd,0<=x/\x<=9999999999):=nbl_bd2 ax;have bb:Hid (l.length-(ka+1)=kd):=by unfold Hid;rw [az];exact aB.out
   have aE:Hid (∀out,Wcr (Cic vWork (nbl l ka) kd) T out->Dln T S vWork l out T S):=λout hw=>by
    refine .inr ⟨a9.out,?_⟩;unfold Dac;(iterate 4 rewrite [if_neg (by decide)]);rw [if_pos (by decide)];exact cir_dac hw (by rw [<- bb.out];exact dci_work l aA.out)
   obtain ⟨A,a0⟩:=nmd (nbl l ka);obtain ⟨D,a1⟩:=nmd (nbl (l.drop (ka+1)) kd);have bc:A.length=ka:=by rw [<- a0.out];exact nbl_len _ _
   have be:D.length=kd:=by rw [<- a1.out];exact nbl_len _ _
   rw [a0.out] at aj aY aE;rw [a1.out] at ay aZ;have aF:Blk w4 ga A:=(aj.belowB (show Below w1.heap.size w1 w2 by rw [<- aC.out];exact (box_new w1 _).1)).belowB al;have aG:Blk w4 gd D:=ay.belowB au;have hW:=dWith 45 #[.pointer (some ⟨g1,0,none⟩),.pointer (some ⟨g2,0,none⟩)] enters_work (Cic vWork A kd) p T w4 z0 hTz an aV (λw5 ag nn cg ao m co G' O hb hP hGn hOm hG hO=>dWorkC T ag nn cg ao m co G' O g1 g2 ga gd ka kd A D w5 hP hGn hOm hG hO (by rw [hb.cell (p:=⟨g1,0,none⟩) aH];exact a5) (by rw [hb.cell (p:=⟨g2,0,none⟩) aI];exact ak) (aF.belowB hb) (aG.belowB hb) bc be (by omega) (by omega) (by omega) aY.out aZ.out (an.below hb) (aV.below hb));clear HA HD aw aj ax ay aD aF aG;go_wp2_with fail;refine hW.mono ?_;rintro e w6 ⟨out,rfl,hQ,a2⟩;have HL:Hid (Dle w0 p G T S vWork l w (.returned (.string out)) w6):=Dle.quiet H.out (btr ab a2) (aE.out out hQ);clear hQ a2 aE hW;go_wp2;go_ret;exact HL.out
 ·have ah:Hid (¬ Syn vWork l):=λhs=>by
   obtain ⟨j,⟨h1,h2,_⟩,_⟩:=(syn_vWork l).1 hs;exact aL j (by omega) h2
  obtain ⟨bf,_⟩:=HT.out w (Below.refl _ _);clear aL;go_wp2_with fail;refine (dFail 3 _ (by omega) (by omega) bf).mono ?_;rintro e wz ⟨rfl,ae⟩;have HL:=av.out wz ae ah.out;obtain ⟨X,HX⟩:=nmd (erB 3);rw [HX.out] at HL ⊢;have ai:=hid HL;clear HL ae;go_wp2;go_ret;exact ai.out
theorem dAnsWork (w0 w p G T S a n c l) (h:Dbc w0 w p G T S) (r:RdT w a n c l) (hn:n<=70000) (hTz:T.size<=2048) (hT:Tabs w0) (hS:Shp w0):
  Calls Tryz.prog 10 #[.pointer (some ⟨p,0,none⟩),.string vWork,.slice a n c] w (Dle w0 p G T S vWork l w):=by
 have hL:=dWork w0 w p G T S a n c l h r hn hTz hT hS;obtain ⟨v,HV⟩:=nmd vWork;have q0:=qf13 HV (by decide +kernel);have q1:(v.toList == [119,111,114,107])=true:=by rw [<- HV.out];decide +kernel
 rw [HV.out] at hL ⊢;clear h r;go_enter Tryz.func10,Tryz.ntmps10;go_wp2_with fail;refine hL.mono ?_;intro e w1 hD;have HD:=hid hD;obtain ⟨out,T',S',rfl,_⟩:=hD;clear hL;go_wp2;go_ret;exact HD.out
theorem dAnswer (w0 w p G T S) (v:ByteArray) (a n c l) (h:Dbc w0 w p G T S) (r:RdT w a n c l) (hn:n<=70000) (hTz:T.size<=2048) (hlast:∀s,S=some s->s.last<=1000000) (hwz:∀i,i<n->(tx l i).size<=70000) (hT:Tabs w0) (hS:Shp w0) (hDs:Dsp w0):
  Calls Tryz.prog 10 #[.pointer (some ⟨p,0,none⟩),.string v,.slice a n c] w (Dle w0 p G T S v l w):=by
 by_cases n_vDeal:v=vDeal
 ·subst n_vDeal;exact dAnsDeal w0 w p G T S a n c l h r hn hTz hlast hT hS hDs
 by_cases n_vMult:v=vMult
 ·subst n_vMult;exact dAnsK vMult 58 2 true (λk=>2<=k) Tryz.call58 (by decide +kernel) (by decide +kernel) (by unfold Hid;decide) (λ_ _=>shq_vMult) (λ_ _=>fit_vMult) (λ_ _ h=>h.2.1) (λ_ _ _ _=>dKcMult vMult _ _ _ _ (by decide +kernel) (by decide +kernel) (by decide +kernel) (by decide +kernel) (by decide +kernel)) dKeyMult w0 w p G T S a n c l h r hn hTz hlast hT hS hDs
 by_cases n_vWork:v=vWork
 ·subst n_vWork;exact dAnsWork w0 w p G T S a n c l h r hn hTz hT hS
 by_cases n_vOpen:v=vOpen
 ·subst n_vOpen;exact dAnsOpen w0 w p G T S a n c l h r hn hTz hlast hT hS hDs
 by_cases n_vRefr:v=vRefr
 ·subst n_vRefr;exact dAnsK vRefr 51 1 true (λk=>1<=k) Tryz.call51 (by decide +kernel) (by decide +kernel) (by unfold Hid;decide) (λ_ _=>shq_vRefr) (λ_ _=>fit_vRefr) (λ_ _ h=>h.2.1) (λ_ _ _ _=>dKcRefr vRefr _ _ _ _ (by decide +kernel) (by decide +kernel)) dKeyRefr w0 w p G T S a n c l h r hn hTz hlast hT hS hDs
 by_cases n_vClear:v=vClear
 ·subst n_vClear;exact dAnsClear w0 w p G T S a n c l h r hn hTz hlast hT hS hDs
 by_cases n_vShow:v=vShow
 ·subst n_vShow;exact dAnsShow w0 w p G T S a n c l h r hn hTz hlast hT hS hDs
 by_cases n_vKeys:v=vKeys
 ·subst n_vKeys;exact dAnsKeys w0 w p G T S a n c l h r hn hTz hlast hT hS hDs
 by_cases n_vTwk:v=vTwk
 ·subst n_vTwk;exact dAnsK vTwk 54 2 false (λk=>k=2) Tryz.call54 (by decide +kernel) (by decide +kernel) (by unfold Hid;decide) (λ_ _=>shq_vTwk) (λ_ _=>fit_vTwk) (λ_ _ h=>h.len) (λ_ _ _ _=>dKcTwk vTwk _ _ _ _ (by decide +kernel) (by decide +kernel) (by decide +kernel)) dKeyTwk w0 w p G T S a n c l h r hn hTz hlast hT hS hDs
 by_cases n_vComb:v=vComb
 ·subst n_vComb;exact dAnsK vComb 56 4 false (λk=>k=4) Tryz.call56 (by decide +kernel) (by decide +kernel) (by unfold Hid;decide) (λ_ _=>shq_vComb) (λ_ _=>fit_vComb) (λ_ _ h=>h.len) (λ_ _ _ _=>dKcComb vComb _ _ _ _ (by decide +kernel) (by decide +kernel) (by decide +kernel) (by decide +kernel)) dKeyComb w0 w p G T S a n c l h r hn hTz hlast hT hS hDs
 by_cases n_vKey:v=vKey
 ·subst n_vKey;exact dAnsK vKey 60 1 false (λk=>k=1) Tryz.call60 (by decide +kernel) (by decide +kernel) (by unfold Hid;decide) (λ_ _=>shq_vKey) (λ_ _=>fit_vKey) (λ_ _ h=>h.len) (λ_ _ _ _=>dKcKey vKey _ _ _ _ (by decide +kernel) (by decide +kernel) (by decide +kernel) (by decide +kernel) (by decide +kernel) (by decide +kernel)) dKeyKey w0 w p G T S a n c l h r hn hTz hlast hT hS hDs
 by_cases n_vDrop:v=vDrop
 ·subst n_vDrop;exact dAnsK vDrop 63 1 false (λk=>k=1) Tryz.call63 (by decide +kernel) (by decide +kernel) (by unfold Hid;decide) (λ_ _=>shq_vDrop) (λ_ _=>fit_vDrop) (λ_ _ h=>h.len) (λ_ _ _ _=>dKcDrop vDrop _ _ _ _ (by decide +kernel) (by decide +kernel) (by decide +kernel) (by decide +kernel) (by decide +kernel) (by decide +kernel) (by decide +kernel)) dKeyDrop w0 w p G T S a n c l h r hn hTz hlast hT hS hDs
 by_cases n_vRun:v=vRun
 ·subst n_vRun;exact dAnsRun w0 w p G T S a n c l h r hn hTz hlast hT hS hDs
 by_cases n_vGen:v=vGen
 ·subst n_vGen;exact dAnsK vGen 48 0 true (λk=>0<=k) Tryz.call48 (by decide +kernel) (by decide +kernel) (by unfold Hid;decide) (λ_ _=>shq_vGen) (λ_ _=>fit_vGen) (λ_ _ _=>Nat.zero_le _) (λ_ _ _ _=>dKcGen vGen _ _ _ _ (by decide +kernel)) dKeyGen w0 w p G T S a n c l h r hn hTz hlast hT hS hDs
 by_cases n_vCirc:v=vCirc
 ·subst n_vCirc;exact dAnsCirc w0 w p G T S a n c l h r hn hTz hwz hT
 exact dAnsElse w0 w p G T S v a n c l h r hn hTz hlast hT hS hDs n_vDeal n_vMult n_vWork n_vOpen n_vRefr n_vClear n_vShow n_vKeys n_vTwk n_vComb n_vKey n_vDrop n_vRun n_vGen n_vCirc
theorem Dbc.new (w:World):Dbc w (w.alloc (.cells #[.string ⟨#[]⟩,.pointer none] 31)) w.heap.size (λ_=>False) mt none:=by
 refine ⟨⟨none,heap_alloc_new w _,.inl ⟨rfl,rfl⟩⟩,λi h=>h.elim,id,λi h=>h.elim,Nat.le_refl _,(Below.refl _ _).alloc (Nat.le_refl _) _⟩
theorem Dbc.aside {w0 w w' p G F T S} (h:Dbc w0 w p G T S) (ht:Tch w w' F) (hp:¬ F p) (hG:∀i,G i->¬ F i) (hF:∀i,F i->w0.heap.size<=i):Dbc w0 w' p G T S:=by
 have aa:=h.plt;obtain ⟨q,h1,h2⟩:=h.row;exact ⟨⟨q,(ht.block p aa hp).trans h1,or_to h2 λ⟨s,b,e1,e2,e3⟩=>⟨s,b,e1,e2,e3.keep λi hi=>ht.block i (h.lt i hi) (hG i hi)⟩⟩,λi g=>Nat.lt_of_lt_of_le (h.lt i g) ht.size,h.off,h.low,h.lp,ht.below h.bel hF h.bel.size⟩
structure Dbs (w0 w:World) (p q:Nat) (G F:Nat->Prop) (T:ByteArray) (S:Option Kt) (out:ByteArray):Prop where
 dsk:Dbc w0 w p G T S
 bld:Bdf w q out F
 off:¬ F p
 dis:∀i,F i->¬ G i
 low:∀i,F i->w0.heap.size<=i
 lt:∀i,F i->i<w.heap.size
theorem Dbs.same {w0 w w' p q G F T S out} (h:Dbs w0 w p q G F T S out) (hb:Below w.heap.size w w'):Dbs w0 w' p q G F T S out:=
 ⟨h.dsk.same hb,h.bld.keep λi hi=>hb.block i (h.lt i hi),h.off,h.dis,h.low,λi hi=>Nat.lt_of_lt_of_le (h.lt i hi) hb.size⟩
theorem Dbs.line {w0 w w' p q G F T T' S S' out} (h:Dbs w0 w p q G F T S out) (hd:Dbc w0 w' p (Gnx G w w') T' S') (ht:Tch w w' (λi=>G i\/i=p)):Dbs w0 w' p q (Gnx G w w') F T' S' out:=
 ⟨hd,h.bld.keep λi hi=>ht.block i (h.lt i hi) (λe=>e.elim (h.dis i hi) (λe=>h.off (e ▸ hi))),h.off,λi hi e=>e.elim (h.dis i hi) (λe=>by have:=h.lt i hi;omega),h.low,λi hi=>Nat.lt_of_lt_of_le (h.lt i hi) ht.size⟩
theorem Dbs.wrote {w0 w w' p q G F T S out out'} (h:Dbs w0 w p q G F T S out) (hb:Bdf w' q out' (Gnx F w w')) (ht:Tch w w' F):Dbs w0 w' p q G (Gnx F w w') T S out':=by
 have aa:=h.dsk.plt;refine ⟨h.dsk.aside ht h.off (λi g f=>h.dis i f g) h.low,hb,λe=>e.elim h.off (λe=>by omega),λi hi g=>hi.elim (λf=>h.dis i f g) (λe=>by have:=h.dsk.lt i g;omega),Gnx.ge h.low h.dsk.bel.size,Gnx.lt h.lt ht.size⟩
theorem dRun (s:ByteArray) (w) (hs:s.size<=9223372036854775807) (hT:Tabs w) (hS:Shp w) (hDs:Dsp w):
  Calls Tryz.prog 4 #[.string s] w (Dkl s w):=by
 go_enter Tryz.func4,Tryz.ntmps4;go_wp2_with fail;refine (dLines s _ hs).mono ?_;rintro e w1 ⟨⟨al,rfl⟩ | ⟨aD,a,c,rfl,hr⟩,aa⟩
 ·have HD:Hid (Dsk s (erB 2++nlB)):=.inl ⟨al,rfl⟩;have ag:=hT.below aa;clear al;go_wp2_with fail;refine (dFail 2 _ (by omega) (by omega) ag).mono ?_;rintro e w2 ⟨rfl,ah⟩;have hz:=erB_size 2 (by omega) (by omega);obtain ⟨X,HX⟩:=nmd (erB 2);rw [HX.out] at HD hz ⊢;have a1:=add_big (P:=Tryz.prog) X ⟨#[10]⟩ (by have:=nl_size;omega);have aT:=btr aa ah;clear ah ag;go_wp2;go_ret;exact ⟨_,rfl,HD.out,aT⟩
 have aU:=hr.cap;have aV:=hr.max;unfold maxLen at aV;have bm:s.size<=65536:=by omega
 have HZ:Hid (∀x ∈ tln s,x.size<=s.size):=tln_size s;obtain ⟨n,HN⟩:=nmd ((tln s).length);have bi:n<=200:=by rw [<- HN.out];omega
 have HF:Hid (∀out T S,Dks (tln s) n out T S->Dsk s out):=λout T S h=>.inr ⟨aD,T,S,by rw [HN.out];exact h⟩;rw [HN.out] at hr aU ⊢;obtain ⟨L,HL⟩:=nmd (tln s);rw [HL.out] at hr HZ HF;have bj:=hr.len;clear aD;have ag:=hT.below aa;have aX:=hS.below aa;have aY:=hDs.below aa;have ab:=Dbc.new w1;have aE:Below w1.heap.size w1 (w1.alloc (.cells #[.string ⟨#[]⟩,.pointer none] 31)):=bal _ _;obtain ⟨wD,aF⟩:=nmd (w1.alloc (.cells #[.string ⟨#[]⟩,.pointer none] 31));rw [aF.out] at ab aE;have aG:=ab.plt;have ad:=Bdf.new wD;have am:Below wD.heap.size wD (wD.alloc (.cells #[.pointer none,.slice none 0 0] 35)):=bal _ _;obtain ⟨wB,aH⟩:=nmd (wD.alloc (.cells #[.pointer none,.slice none 0 0] 35));rw [aH.out] at ad am;obtain ⟨p,HP⟩:=nmd w1.heap.size;obtain ⟨q,HQ⟩:=nmd wD.heap.size;have bo:p<q:=by rw [<- HP.out,<- HQ.out];exact aG
 have aI:Dbs w1 wB p q (λ_=>False) (λi=>i=q) mt none mt:=by
  rw [HP.out] at ab;rw [HQ.out] at ad;exact ⟨ab.same am,ad,λe=>by omega,λ_ _ e=>e,λi e=>by rw [HP.out,e];omega,λi e=>by rw [e];exact ad.lt⟩
 clear ab ad;go_upto_region 5 with fail;rw [aF.out];go_upto_region 6 with fail;rw [aH.out,HP.out,HQ.out];clear aE am aG;go_wp2;go_loopw [22] (λqq wr=>∃(i:Nat) (out T:ByteArray) (S:Option Kt) (G F:Nat->Prop),i<=n/\qq = .int .i64 (i:Int)/\Dks L i out T S/\Dbs w1 wr p q G F T S out/\out.size<=200001*i/\T.size<=2048/\∀s,S=some s->s.last<=i) (λqq _=>n-(intOf qq).toNat)
 case atStart=>exact ⟨0,mt,mt,none,_,_,Nat.zero_le _,rfl,⟨rfl,rfl,rfl⟩,aI,Nat.zero_le _,Nat.zero_le _,λs e=>by cases e⟩
 case round=>
  clear aI;obtain ⟨i,out,T,S,G,F,hi,rfl,hD,hB,bp,ai,aJ⟩:=hrel;have an:=hid hD;have ao:=hid hB;have aj:=hid aJ;have ae:=hB.dsk.bel;have aZ:=ae.size;have ap:=hr.below ae;clear hD hB aJ;by_cases hlt:i<n
  ·obtain ⟨b,o,x,rfl,bq,HX,br,bu⟩:=ap.one hlt;have bv:x.size<=s.size:=by rw [<- HX.out];exact HZ.out _ (tx_mem (by omega))
   have bk:(i:Int)<(n:Int):=by omega
   go_wp2_with fail;refine (dWords x _ (by omega)).mono ?_;rintro e w2 ⟨a2,c2,rfl,af,ah⟩;have aK:Hid (∀y ∈ wrd x,1<=y.size/\y.size<=x.size):=wrd_size x;have a0:=wrd_len x;have aB:=af.cap;have aC:=af.max;unfold maxLen at aC;have aL:Hid (¬ asked x->Dks L (i+1) out T S):=λh=>⟨out,T,S,an.out,.inl ⟨by rw [HX.out];exact h,rfl,rfl,rfl⟩⟩;have a3:Hid (∀z T' S',asked x->Dln T S (tx (wrd x) 0) ((wrd x).drop 1) z T' S'->Dks L (i+1) (out++(z++nlB)) T' S'):=λz T' S' h k=>⟨out,T,S,an.out,.inr ⟨by rw [HX.out];exact h,z,by rw [HX.out];exact k,rfl⟩⟩;have aq:=ao.out.same ah;obtain ⟨m,HM⟩:=nmd ((wrd x).length);rw [HM.out] at af aB a0 ⊢;clear ap ae;by_cases hm:0<m
   ·obtain ⟨b2,o2,v,rfl,bl,ak,bw,aM⟩:=af.one hm;rw [Nat.add_zero] at aM;obtain ⟨bx,bz⟩:1<=v.size/\v.size<=x.size:=by rw [<- ak.out];exact aK.out _ (tx_mem (by rw [HM.out];exact hm))
    have bA:(0:Int)<(m:Int):=by omega
    obtain ⟨y,HY⟩:=nmd (bt v 0);have bB:∀W,(Instr.index 9 (.string v) (.int .i64 0)).run Tryz.prog W = .ok (.int .u8 y) W:=λW=>by rw [<- HY.out];exact bt_run (P:=Tryz.prog) Tryz.underlying9 v (i:=0) (by omega) W
    have bC:0<=y/\y<=255:=by rw [<- HY.out];exact bt_bd v 0
    by_cases hy:y=35
    ·have ar:Hid (Dks L (i+1) out T S):=aL.out λh=>h.2 (by rw [ak.out,HY.out,hy]);have a4:(y != 35)=false:=by rw [bne_eq_false_iff_eq];exact hy
     clear hy;go_wp2;go_roundw
     case rel=>exact ⟨i+1,out,T,S,G,F,by omega,by go_num,ar.out,aq,by omega,ai,λs e=>Nat.le_succ_of_le (aj.out s e)⟩
     case measure=>simp [intOf];omega
    ·have a5:Hid (asked x):=⟨by rw [HM.out];exact hm,by rw [ak.out,HY.out];exact hy⟩;have a4:(y != 35)=true:=by rw [bne_iff_ne];exact hy
     clear hy;have rD:=af.sub (lo:=1) (by omega);have hsl:∀W,(Instr.sliceAt 24 (.slice (some ⟨b2,o2,none⟩) m c2) (some (.int .i64 1)) none none).run Tryz.prog W = .ok (.slice (subA (some ⟨b2,o2,none⟩) c2 1) (m-1) (c2-1)) W:=λW=>run_subl Tryz.underlying24 infoStr1 _ m c2 1 (by rfl) (by omega) W;obtain ⟨sa,a6⟩:=nmd (subA (some ⟨b2,o2,none⟩) c2 1);rw [a6.out] at rD hsl;have aN:Hid (∀k,k<m-1->(tx ((wrd x).drop 1) k).size<=70000):=λk hk=>by
      have:=aK.out (tx ((wrd x).drop 1) k) (List.mem_of_mem_drop (tx_mem (by rw [List.length_drop,HM.out];exact hk)));omega
     obtain ⟨d,au⟩:=nmd (m-1);obtain ⟨c3,a7⟩:=nmd (c2-1);have a8:d<=70000:=by rw [<- au.out];omega
     rw [au.out,a7.out] at hsl rD;rw [au.out] at aN;have av:Dbs w1 w2.drew p q G F T S out:=aq.same ((Below.refl _ _).drew);have aO:RdT w2.drew sa d c3 ((wrd x).drop 1):=rD.below ((Below.refl _ _).drew);have a9:w2.drew.cell? ⟨b2,o2,none⟩=some (.string v):=aM;have ba:Hid (∀s,S=some s->s.last<=1000000):=λs e=>by have:=aj.out s e;omega
     go_wp2;go_region_with (first | (go_at_call 10;refine (dAnswer w1 _ p G T S v _ d c3 ((wrd x).drop 1) av.dsk aO a8 ai ba.out aN.out ag aX aY).mono ?_;rintro e w3 ⟨z,T',S',rfl,aw,aP,aQ⟩;obtain ⟨bD,bb,bc⟩:=aw.small ai (show i<=1000000 by omega) aj.out;have a1:=add_big (P:=Tryz.prog) z ⟨#[10]⟩ (by have:=nl_size;omega);obtain ⟨Z2,ax⟩:=nmd (z++⟨#[10]⟩);have bE:Z2.size<=200001:=(by rw [<- ax.out,ByteArray.size_append];have:=nl_size;omega);rw [ax.out] at a1;have ay:=av.line aP aQ) | (go_at_call 9;refine (sWriteF q out Z2 F _ ay.bld (by omega)).mono ?_;rintro e w4 ⟨rfl,az,aA⟩;have be:=ay.wrote az aA))
     all_goals
      have bf:Hid (Dks L (i+1) (out++Z2) T' S'):=by unfold Hid;rw [<- ax.out];exact a3.out z T' S' a5.out (by rw [ak.out];exact aw)
      have bg:(out++Z2).size<=200001*(i+1):=by rw [ByteArray.size_append];omega
      clear aw aQ av aO a9 ay az aA aP;go_wp2;go_roundw
      case rel=>exact ⟨i+1,out++Z2,T',S',_,_,by omega,by go_num,bf.out,be,bg,bb,bc⟩
      case measure=>simp [intOf];omega
   ·obtain rfl:m=0:=by omega
    have ar:Hid (Dks L (i+1) out T S):=aL.out λh=>by have:=h.1;rw [HM.out] at this;omega
    go_wp2;go_roundw
    case rel=>exact ⟨i+1,out,T,S,G,F,by omega,by go_num,ar.out,aq,by omega,ai,λs e=>Nat.le_succ_of_le (aj.out s e)⟩
    case measure=>simp [intOf];omega
  ·obtain rfl:i=n:=by omega
   have bF:¬ ((i:Int)<(i:Int)):=by omega
   have aR:=ao.out.bld.is ao.out.low;clear ap;go_wp2_with fail;refine (sString w1.heap.size q out _ aR aZ).mono ?_;rintro e w3 ⟨rfl,aS⟩;have aW:Below w1.heap.size w1 w3:=ae.trans aS;have bh:=btr aa aW;clear ae aS aR;go_wp2;go_ret;exact ⟨out,rfl,HF.out _ _ _ an.out,bh⟩
theorem deskSaysW (s:ByteArray) (w) (hs:s.size<=1048576) (hT:Tabs w) (hV:Vb w) (hS:Shp w) (hD:Dsp w):
  Calls Tryz.prog 3 #[.string s] w λe w'=>e = .returned (.bool true)/\Below w.heap.size w w':=by
 go_enter Tryz.func3,Tryz.ntmps3;go_wp2_with fail;refine (dRun s _ (by omega) hT hS hD).mono ?_;rintro e w1 ⟨out,rfl,hd,hb⟩;have ab:=hT.below hb;have ad:=hV.below hb;go_wp2_with fail;refine (rDesk s _ (by omega) ab ad).mono ?_;rintro e w2 ⟨ag,rfl,aa,ae⟩;obtain rfl:=hd.one aa;have af:=btr hb ae;clear hd aa;go_wp2;go_ret;exact ⟨by simp,af⟩
end
end Go.Proofs.YtljlioglpaogdacGreatDoor
